import Derived.Test.YtmagchclmmphaabGreatDoorFL
import Derived.Test.YtmagchclmmphaabGreatDoorMn
import Derived.Test.YtmagchclmmphaabGreatDoorEK
namespace Go.Proofs.YtmagchclmmphaabGreatDoor
open Go.RowKit Go.Maps
attribute [local go_sem] Oper.semAt_some

/-! ### The program's From -/
theorem results_c1 {P : Program} {fn : Func} {p q : Tmp} {ty : TypeId} (h : fn.results = #[.cell p ty, .tmp q]) (tmps : Array Value) (w : World) (g : Nat) (t : TypeId) (cs : Array Value) (fr : Nat × Nat) (d : TypeDesc) (x : Value)
    (hp : tmps.getD p undef = .pointer (some ⟨g, 0, none⟩)) (hq : tmps.getD q undef = x) (hg : w.heap[g]? = some (.cells cs t fr))
    (hu : P.underlying ty = some d) (hd : (match d with | .struct _ | .array _ _ => true | _ => false) = true) (hi : (P.info? ty).map (·.size) = some cs.size) :
    (results fn tmps).run P w = .ok (.tuple #[.agg cs, x]) w := by
  have hp' : tmps[p]?.getD undef = .pointer (some ⟨g, 0, none⟩) := by simpa using hp
  have hq' : tmps[q]?.getD undef = x := by simpa using hq
  simp [results, h, hp', hq', asAddr, run_loadVar_row w g t ty cs fr d hg hu hd hi]
theorem from_end {w w3 wa wb wc wd we W' : World} {V : FrV} {vo vs vf vr : Value} (hz : w.heap.size + 2 ≤ w3.heap.size) (d : Below w.heap.size w w3) (ho : wa.ownsRow w3.heap.size 66 2 vo V.O.length (V.O.flatMap kOps.cs)) (da : Below w3.heap.size w3 wa) (hs : wb.ownsRow wa.heap.size 9 1 vs V.S.length (strV V.S)) (db : Below wa.heap.size wa wb) (dc : Below wb.heap.size wb wc) (hf : wd.ownsRow wc.heap.size 9 1 vf V.F.length (strV V.F)) (dd : Below wc.heap.size wc wd) (hr : we.ownsRow wd.heap.size 68 3 vr V.R.length (V.R.flatMap kRules.cs)) (de : Below wd.heap.size wd we) (oz : Only we W' (fun k => k = w.heap.size + 1)) : FrO w W' V vo vs vf vr := by
  have s0 := d.size
  have s1 := da.size
  have s2 := db.size
  have s3 := dc.size
  have s4 := dd.size
  have s5 := de.size
  have dce : Below wc.heap.size wc we := dd.trans (de.mono dd.size)
  have dbe : Below wb.heap.size wb we := dc.trans (dce.mono dc.size)
  have dae : Below wa.heap.size wa we := db.trans (dbe.mono db.size)
  have d3e : Below w3.heap.size w3 we := da.trans (dae.mono da.size)
  have k : ∀ {B e sz n : Nat} {v : Value} {xs : List Value}, w3.heap.size ≤ B → we.ownsRow B e sz v n xs → W'.ownsRow w.heap.size e sz v n xs := fun hB h => own_wide (row_only h oz fun k q z => by have := (h.lt k q).1; omega) (by omega)
  refine ⟨k (Nat.le_refl _) (owns_below ho dae), k s1 (owns_below hs dbe), k (by omega) (owns_below hf de), k (by omega) hr, fun b h1 h2 => ?_, (d.trans (d3e.mono s0)).trans (oz.toBelow (by omega) fun k z => by omega)⟩
  have := (hs.lt b h1).2
  have := (hf.lt b h2).1
  omega
set_option maxRecDepth 100000 in
set_option maxHeartbeats 4000000 in
theorem from_auto (w : World) (ti : ByteArray) (n m : Int) (St Fi : List Int) (Ed : List EdT) (b1 b2 : Nat) (a3 asx ay : Option Addr) (c1 c2 c3 cs cy : Nat) (S Y : List ByteArray) (hT : Hid (BytesAt w ∧ 1 < w.heap.size)) (hA : Hid (RdN w (some ⟨b1, 0, none⟩) St ∧ RdN w (some ⟨b2, 0, none⟩) Fi ∧ RdE w a3 Ed ∧ ReadsS w asx S ∧ ReadsS w ay Y)) (hok : Hid (Sml S ∧ Sml Y)) (h1 : St.length ≤ 4194304) (h2 : Fi.length ≤ 4194304) (h3 : Ed.length ≤ 4194304) (hs : S.length ≤ 2097152) (hy : Y.length ≤ 2097152) (hm : mayF n m St Fi Ed = false) :
    Calls Tryz.prog 7 #[.agg #[.int .i64 n, .int .i64 m, .slice (some ⟨b1, 0, none⟩) St.length c1, .slice (some ⟨b2, 0, none⟩) Fi.length c2, .slice a3 Ed.length c3], .slice asx S.length cs, .slice ay Y.length cy, .string ti] w fun e w' => FrA w w' (noF 2) e := by
  have HU := hide (And.intro hT.out (And.intro hok.out (And.intro hs hy)))
  clear HU
  obtain ⟨W0, hW0⟩ : ∃ W0, (w.alloc (.cells #[.int .i64 n, .int .i64 m, .slice (some ⟨b1, 0, none⟩) St.length c1, .slice (some ⟨b2, 0, none⟩) Fi.length c2, .slice a3 Ed.length c3] 25)).alloc (.cells #[.string ⟨#[]⟩, .slice none 0 0, .slice none 0 0, .slice none 0 0, .slice none 0 0] 32) = W0 := ⟨_, rfl⟩
  have d0 : Below w.heap.size w W0 := by rw [← hW0]; exact ((Below.refl _ _).alloc (Nat.le_refl _) _).alloc (by simp) _
  have B0 : W0.heap[w.heap.size]? = some (.cells #[.int .i64 n, .int .i64 m, .slice (some ⟨b1, 0, none⟩) St.length c1, .slice (some ⟨b2, 0, none⟩) Fi.length c2, .slice a3 Ed.length c3] 25 (0, 0)) := by rw [← hW0]; exact (Below.heap_alloc _ _ _ (by simp)).trans (World.alloc_heap_new _ _)
  have B1 : W0.heap[w.heap.size + 1]? = some (.cells #[.string ⟨#[]⟩, .slice none 0 0, .slice none 0 0, .slice none 0 0, .slice none 0 0] 32 (0, 0)) := by rw [← hW0]; exact heap_alloc2_new w _ _
  have z0 : W0.heap.size = w.heap.size + 2 := by rw [← hW0]; simp
  have T1 := mayBe_any W0 n m St Fi Ed (some ⟨b1, 0, none⟩) (some ⟨b2, 0, none⟩) a3 c1 c2 c3 (hide ⟨hA.out.1.on d0, hA.out.2.1.on d0, hA.out.2.2.1.on d0⟩) h1 h2 h3
  rw [hm] at T1
  have HD := hide (And.intro d0 (And.intro B0 (And.intro B1 z0)))
  have x0 : W0.cell? ⟨w.heap.size, 0, none⟩ = some (.int .i64 n) := cell_of B0 rfl
  have x1 : W0.cell? ⟨w.heap.size, 1, none⟩ = some (.int .i64 m) := cell_of B0 rfl
  have x2 : W0.cell? ⟨w.heap.size, 2, none⟩ = some (.slice (some ⟨b1, 0, none⟩) St.length c1) := cell_of B0 rfl
  have x3 : W0.cell? ⟨w.heap.size, 3, none⟩ = some (.slice (some ⟨b2, 0, none⟩) Fi.length c2) := cell_of B0 rfl
  have x4 : W0.cell? ⟨w.heap.size, 4, none⟩ = some (.slice a3 Ed.length c3) := cell_of B0 rfl
  clear d0 B0 B1 z0
  go_enter Tryz.func7, Tryz.ntmps7
  go_upto_region 2 with (go_at_call 30; refine T1.mono ?_; rintro e w1 ⟨rfl, d1⟩)
  have HW := hide (HD.out.1.trans (d1.mono HD.out.1.size))
  have HX : Hid (w1.heap[w.heap.size + 1]? = some (.cells #[.string ⟨#[]⟩, .slice none 0 0, .slice none 0 0, .slice none 0 0, .slice none 0 0] 32 (0, 0))) := hide ((d1.block _ (by have := HD.out.2.2.2; omega)).trans HD.out.2.2.1)
  clear T1 x0 x1 x2 x3 x4
  have z0 : w1.cell? ⟨w.heap.size + 1, 0, none⟩ = some (.string ⟨#[]⟩) := cell_of HX.out rfl
  have z1 : w1.cell? ⟨w.heap.size + 1, 1, none⟩ = some (.slice none 0 0) := cell_of HX.out rfl
  have z2 : w1.cell? ⟨w.heap.size + 1, 2, none⟩ = some (.slice none 0 0) := cell_of HX.out rfl
  have z3 : w1.cell? ⟨w.heap.size + 1, 3, none⟩ = some (.slice none 0 0) := cell_of HX.out rfl
  have z4 : w1.cell? ⟨w.heap.size + 1, 4, none⟩ = some (.slice none 0 0) := cell_of HX.out rfl
  have f0 : w1.frozen? ⟨w.heap.size + 1, 0, none⟩ = false := fz_of HX.out
  have f1 : w1.frozen? ⟨w.heap.size + 1, 1, none⟩ = false := fz_of HX.out
  have f2 : w1.frozen? ⟨w.heap.size + 1, 2, none⟩ = false := fz_of HX.out
  have f3 : w1.frozen? ⟨w.heap.size + 1, 3, none⟩ = false := fz_of HX.out
  have f4 : w1.frozen? ⟨w.heap.size + 1, 4, none⟩ = false := fz_of HX.out
  have HZ := hide (set5 w1 (w.heap.size + 1) _ _ _ _ _ (.string ⟨#[]⟩) (.slice none 0 0) (.slice none 0 0) (.slice none 0 0) (.slice none 0 0) 32 HX.out)
  go_wp2
  refine bodyPost_ret (results_c1 (p := 8) (q := 9) (ty := 32) rfl _ _ (w.heap.size + 1) 32 _ (0, 0) _ _ rfl rfl HZ.out.1 Tryz.underlying32 rfl (by kernel_rfl)) rfl ?_
  exact FrA.nil 2 (HW.out.trans (HZ.out.2.toBelow HW.out.size fun k z => by omega))
set_option maxRecDepth 100000 in
set_option maxHeartbeats 4000000 in
theorem from_len1 (w : World) (ti : ByteArray) (n m : Int) (St Fi : List Int) (Ed : List EdT) (b1 b2 : Nat) (a3 asx ay : Option Addr) (c1 c2 c3 cs cy : Nat) (S Y : List ByteArray) (hT : Hid (BytesAt w ∧ 1 < w.heap.size)) (hA : Hid (RdN w (some ⟨b1, 0, none⟩) St ∧ RdN w (some ⟨b2, 0, none⟩) Fi ∧ RdE w a3 Ed ∧ ReadsS w asx S ∧ ReadsS w ay Y)) (hok : Hid (Sml S ∧ Sml Y)) (h1 : St.length ≤ 4194304) (h2 : Fi.length ≤ 4194304) (h3 : Ed.length ≤ 4194304) (hs : S.length ≤ 2097152) (hy : Y.length ≤ 2097152) (hm : mayF n m St Fi Ed = true) (hn : ¬ (S.length : Int) = n) :
    Calls Tryz.prog 7 #[.agg #[.int .i64 n, .int .i64 m, .slice (some ⟨b1, 0, none⟩) St.length c1, .slice (some ⟨b2, 0, none⟩) Fi.length c2, .slice a3 Ed.length c3], .slice asx S.length cs, .slice ay Y.length cy, .string ti] w fun e w' => FrA w w' (noF 1) e := by
  have HU := hide (And.intro hT.out (And.intro hok.out (And.intro hs hy)))
  clear HU
  obtain ⟨W0, hW0⟩ : ∃ W0, (w.alloc (.cells #[.int .i64 n, .int .i64 m, .slice (some ⟨b1, 0, none⟩) St.length c1, .slice (some ⟨b2, 0, none⟩) Fi.length c2, .slice a3 Ed.length c3] 25)).alloc (.cells #[.string ⟨#[]⟩, .slice none 0 0, .slice none 0 0, .slice none 0 0, .slice none 0 0] 32) = W0 := ⟨_, rfl⟩
  have d0 : Below w.heap.size w W0 := by rw [← hW0]; exact ((Below.refl _ _).alloc (Nat.le_refl _) _).alloc (by simp) _
  have B0 : W0.heap[w.heap.size]? = some (.cells #[.int .i64 n, .int .i64 m, .slice (some ⟨b1, 0, none⟩) St.length c1, .slice (some ⟨b2, 0, none⟩) Fi.length c2, .slice a3 Ed.length c3] 25 (0, 0)) := by rw [← hW0]; exact (Below.heap_alloc _ _ _ (by simp)).trans (World.alloc_heap_new _ _)
  have B1 : W0.heap[w.heap.size + 1]? = some (.cells #[.string ⟨#[]⟩, .slice none 0 0, .slice none 0 0, .slice none 0 0, .slice none 0 0] 32 (0, 0)) := by rw [← hW0]; exact heap_alloc2_new w _ _
  have z0 : W0.heap.size = w.heap.size + 2 := by rw [← hW0]; simp
  have T1 := mayBe_any W0 n m St Fi Ed (some ⟨b1, 0, none⟩) (some ⟨b2, 0, none⟩) a3 c1 c2 c3 (hide ⟨hA.out.1.on d0, hA.out.2.1.on d0, hA.out.2.2.1.on d0⟩) h1 h2 h3
  rw [hm] at T1
  have HD := hide (And.intro d0 (And.intro B0 (And.intro B1 z0)))
  have x0 : W0.cell? ⟨w.heap.size, 0, none⟩ = some (.int .i64 n) := cell_of B0 rfl
  have x1 : W0.cell? ⟨w.heap.size, 1, none⟩ = some (.int .i64 m) := cell_of B0 rfl
  have x2 : W0.cell? ⟨w.heap.size, 2, none⟩ = some (.slice (some ⟨b1, 0, none⟩) St.length c1) := cell_of B0 rfl
  have x3 : W0.cell? ⟨w.heap.size, 3, none⟩ = some (.slice (some ⟨b2, 0, none⟩) Fi.length c2) := cell_of B0 rfl
  have x4 : W0.cell? ⟨w.heap.size, 4, none⟩ = some (.slice a3 Ed.length c3) := cell_of B0 rfl
  clear d0 B0 B1 z0
  go_enter Tryz.func7, Tryz.ntmps7
  go_upto_region 4 with (go_at_call 30; refine T1.mono ?_; rintro e w1 ⟨rfl, d1⟩; have y0 : w1.cell? ⟨w.heap.size, 0, none⟩ = some (.int .i64 n) := (d1.cell (p := ⟨w.heap.size, 0, none⟩) (by have := HD.out.2.2.2; show w.heap.size < _; omega)).trans x0; have y1 : w1.cell? ⟨w.heap.size, 1, none⟩ = some (.int .i64 m) := (d1.cell (p := ⟨w.heap.size, 1, none⟩) (by have := HD.out.2.2.2; show w.heap.size < _; omega)).trans x1)
  have HW := hide (HD.out.1.trans (d1.mono HD.out.1.size))
  have HX : Hid (w1.heap[w.heap.size + 1]? = some (.cells #[.string ⟨#[]⟩, .slice none 0 0, .slice none 0 0, .slice none 0 0, .slice none 0 0] 32 (0, 0))) := hide ((d1.block _ (by have := HD.out.2.2.2; omega)).trans HD.out.2.2.1)
  clear T1 x0 x1 x2 x3 x4 y0 y1
  have z0 : w1.cell? ⟨w.heap.size + 1, 0, none⟩ = some (.string ⟨#[]⟩) := cell_of HX.out rfl
  have z1 : w1.cell? ⟨w.heap.size + 1, 1, none⟩ = some (.slice none 0 0) := cell_of HX.out rfl
  have z2 : w1.cell? ⟨w.heap.size + 1, 2, none⟩ = some (.slice none 0 0) := cell_of HX.out rfl
  have z3 : w1.cell? ⟨w.heap.size + 1, 3, none⟩ = some (.slice none 0 0) := cell_of HX.out rfl
  have z4 : w1.cell? ⟨w.heap.size + 1, 4, none⟩ = some (.slice none 0 0) := cell_of HX.out rfl
  have f0 : w1.frozen? ⟨w.heap.size + 1, 0, none⟩ = false := fz_of HX.out
  have f1 : w1.frozen? ⟨w.heap.size + 1, 1, none⟩ = false := fz_of HX.out
  have f2 : w1.frozen? ⟨w.heap.size + 1, 2, none⟩ = false := fz_of HX.out
  have f3 : w1.frozen? ⟨w.heap.size + 1, 3, none⟩ = false := fz_of HX.out
  have f4 : w1.frozen? ⟨w.heap.size + 1, 4, none⟩ = false := fz_of HX.out
  have HZ := hide (set5 w1 (w.heap.size + 1) _ _ _ _ _ (.string ⟨#[]⟩) (.slice none 0 0) (.slice none 0 0) (.slice none 0 0) (.slice none 0 0) 32 HX.out)
  go_wp2
  refine bodyPost_ret (results_c1 (p := 8) (q := 9) (ty := 32) rfl _ _ (w.heap.size + 1) 32 _ (0, 0) _ _ rfl rfl HZ.out.1 Tryz.underlying32 rfl (by kernel_rfl)) rfl ?_
  exact FrA.nil 1 (HW.out.trans (HZ.out.2.toBelow HW.out.size fun k z => by omega))
set_option maxRecDepth 100000 in
set_option maxHeartbeats 4000000 in
theorem from_len2 (w : World) (ti : ByteArray) (n m : Int) (St Fi : List Int) (Ed : List EdT) (b1 b2 : Nat) (a3 asx ay : Option Addr) (c1 c2 c3 cs cy : Nat) (S Y : List ByteArray) (hT : Hid (BytesAt w ∧ 1 < w.heap.size)) (hA : Hid (RdN w (some ⟨b1, 0, none⟩) St ∧ RdN w (some ⟨b2, 0, none⟩) Fi ∧ RdE w a3 Ed ∧ ReadsS w asx S ∧ ReadsS w ay Y)) (hok : Hid (Sml S ∧ Sml Y)) (h1 : St.length ≤ 4194304) (h2 : Fi.length ≤ 4194304) (h3 : Ed.length ≤ 4194304) (hs : S.length ≤ 2097152) (hy : Y.length ≤ 2097152) (hm : mayF n m St Fi Ed = true) (hn : (S.length : Int) = n) (hn2 : ¬ (Y.length : Int) = m) :
    Calls Tryz.prog 7 #[.agg #[.int .i64 n, .int .i64 m, .slice (some ⟨b1, 0, none⟩) St.length c1, .slice (some ⟨b2, 0, none⟩) Fi.length c2, .slice a3 Ed.length c3], .slice asx S.length cs, .slice ay Y.length cy, .string ti] w fun e w' => FrA w w' (noF 1) e := by
  subst hn
  have HU := hide (And.intro hT.out (And.intro hok.out (And.intro hs hy)))
  clear HU
  obtain ⟨W0, hW0⟩ : ∃ W0, (w.alloc (.cells #[.int .i64 (S.length : Int), .int .i64 m, .slice (some ⟨b1, 0, none⟩) St.length c1, .slice (some ⟨b2, 0, none⟩) Fi.length c2, .slice a3 Ed.length c3] 25)).alloc (.cells #[.string ⟨#[]⟩, .slice none 0 0, .slice none 0 0, .slice none 0 0, .slice none 0 0] 32) = W0 := ⟨_, rfl⟩
  have d0 : Below w.heap.size w W0 := by rw [← hW0]; exact ((Below.refl _ _).alloc (Nat.le_refl _) _).alloc (by simp) _
  have B0 : W0.heap[w.heap.size]? = some (.cells #[.int .i64 (S.length : Int), .int .i64 m, .slice (some ⟨b1, 0, none⟩) St.length c1, .slice (some ⟨b2, 0, none⟩) Fi.length c2, .slice a3 Ed.length c3] 25 (0, 0)) := by rw [← hW0]; exact (Below.heap_alloc _ _ _ (by simp)).trans (World.alloc_heap_new _ _)
  have B1 : W0.heap[w.heap.size + 1]? = some (.cells #[.string ⟨#[]⟩, .slice none 0 0, .slice none 0 0, .slice none 0 0, .slice none 0 0] 32 (0, 0)) := by rw [← hW0]; exact heap_alloc2_new w _ _
  have z0 : W0.heap.size = w.heap.size + 2 := by rw [← hW0]; simp
  have T1 := mayBe_any W0 (S.length : Int) m St Fi Ed (some ⟨b1, 0, none⟩) (some ⟨b2, 0, none⟩) a3 c1 c2 c3 (hide ⟨hA.out.1.on d0, hA.out.2.1.on d0, hA.out.2.2.1.on d0⟩) h1 h2 h3
  rw [hm] at T1
  have HD := hide (And.intro d0 (And.intro B0 (And.intro B1 z0)))
  have x0 : W0.cell? ⟨w.heap.size, 0, none⟩ = some (.int .i64 (S.length : Int)) := cell_of B0 rfl
  have x1 : W0.cell? ⟨w.heap.size, 1, none⟩ = some (.int .i64 m) := cell_of B0 rfl
  have x2 : W0.cell? ⟨w.heap.size, 2, none⟩ = some (.slice (some ⟨b1, 0, none⟩) St.length c1) := cell_of B0 rfl
  have x3 : W0.cell? ⟨w.heap.size, 3, none⟩ = some (.slice (some ⟨b2, 0, none⟩) Fi.length c2) := cell_of B0 rfl
  have x4 : W0.cell? ⟨w.heap.size, 4, none⟩ = some (.slice a3 Ed.length c3) := cell_of B0 rfl
  clear d0 B0 B1 z0
  go_enter Tryz.func7, Tryz.ntmps7
  go_upto_region 4 with (go_at_call 30; refine T1.mono ?_; rintro e w1 ⟨rfl, d1⟩; have y0 : w1.cell? ⟨w.heap.size, 0, none⟩ = some (.int .i64 (S.length : Int)) := (d1.cell (p := ⟨w.heap.size, 0, none⟩) (by have := HD.out.2.2.2; show w.heap.size < _; omega)).trans x0; have y1 : w1.cell? ⟨w.heap.size, 1, none⟩ = some (.int .i64 m) := (d1.cell (p := ⟨w.heap.size, 1, none⟩) (by have := HD.out.2.2.2; show w.heap.size < _; omega)).trans x1)
  have HW := hide (HD.out.1.trans (d1.mono HD.out.1.size))
  have HX : Hid (w1.heap[w.heap.size + 1]? = some (.cells #[.string ⟨#[]⟩, .slice none 0 0, .slice none 0 0, .slice none 0 0, .slice none 0 0] 32 (0, 0))) := hide ((d1.block _ (by have := HD.out.2.2.2; omega)).trans HD.out.2.2.1)
  clear T1 x0 x1 x2 x3 x4 y0 y1
  have z0 : w1.cell? ⟨w.heap.size + 1, 0, none⟩ = some (.string ⟨#[]⟩) := cell_of HX.out rfl
  have z1 : w1.cell? ⟨w.heap.size + 1, 1, none⟩ = some (.slice none 0 0) := cell_of HX.out rfl
  have z2 : w1.cell? ⟨w.heap.size + 1, 2, none⟩ = some (.slice none 0 0) := cell_of HX.out rfl
  have z3 : w1.cell? ⟨w.heap.size + 1, 3, none⟩ = some (.slice none 0 0) := cell_of HX.out rfl
  have z4 : w1.cell? ⟨w.heap.size + 1, 4, none⟩ = some (.slice none 0 0) := cell_of HX.out rfl
  have f0 : w1.frozen? ⟨w.heap.size + 1, 0, none⟩ = false := fz_of HX.out
  have f1 : w1.frozen? ⟨w.heap.size + 1, 1, none⟩ = false := fz_of HX.out
  have f2 : w1.frozen? ⟨w.heap.size + 1, 2, none⟩ = false := fz_of HX.out
  have f3 : w1.frozen? ⟨w.heap.size + 1, 3, none⟩ = false := fz_of HX.out
  have f4 : w1.frozen? ⟨w.heap.size + 1, 4, none⟩ = false := fz_of HX.out
  have HZ := hide (set5 w1 (w.heap.size + 1) _ _ _ _ _ (.string ⟨#[]⟩) (.slice none 0 0) (.slice none 0 0) (.slice none 0 0) (.slice none 0 0) 32 HX.out)
  go_wp2
  refine bodyPost_ret (results_c1 (p := 8) (q := 9) (ty := 32) rfl _ _ (w.heap.size + 1) 32 _ (0, 0) _ _ rfl rfl HZ.out.1 Tryz.underlying32 rfl (by kernel_rfl)) rfl ?_
  exact FrA.nil 1 (HW.out.trans (HZ.out.2.toBelow HW.out.size fun k z => by omega))
set_option maxRecDepth 100000 in
set_option maxHeartbeats 4000000 in
theorem from_title (w : World) (ti : ByteArray) (n m : Int) (St Fi : List Int) (Ed : List EdT) (b1 b2 : Nat) (a3 asx ay : Option Addr) (c1 c2 c3 cs cy : Nat) (S Y : List ByteArray) (hT : Hid (BytesAt w ∧ 1 < w.heap.size)) (hA : Hid (RdN w (some ⟨b1, 0, none⟩) St ∧ RdN w (some ⟨b2, 0, none⟩) Fi ∧ RdE w a3 Ed ∧ ReadsS w asx S ∧ ReadsS w ay Y)) (hok : Hid (Sml S ∧ Sml Y)) (h1 : St.length ≤ 4194304) (h2 : Fi.length ≤ 4194304) (h3 : Ed.length ≤ 4194304) (hs : S.length ≤ 2097152) (hy : Y.length ≤ 2097152) (hm : mayF n m St Fi Ed = true) (hn : (S.length : Int) = n) (hn2 : (Y.length : Int) = m) (hv : vld ti = false) :
    Calls Tryz.prog 7 #[.agg #[.int .i64 n, .int .i64 m, .slice (some ⟨b1, 0, none⟩) St.length c1, .slice (some ⟨b2, 0, none⟩) Fi.length c2, .slice a3 Ed.length c3], .slice asx S.length cs, .slice ay Y.length cy, .string ti] w fun e w' => FrA w w' (noF 20) e := by
  subst hn hn2
  have HU := hide (And.intro hT.out (And.intro hok.out (And.intro hs hy)))
  clear HU
  obtain ⟨W0, hW0⟩ : ∃ W0, (w.alloc (.cells #[.int .i64 (S.length : Int), .int .i64 (Y.length : Int), .slice (some ⟨b1, 0, none⟩) St.length c1, .slice (some ⟨b2, 0, none⟩) Fi.length c2, .slice a3 Ed.length c3] 25)).alloc (.cells #[.string ⟨#[]⟩, .slice none 0 0, .slice none 0 0, .slice none 0 0, .slice none 0 0] 32) = W0 := ⟨_, rfl⟩
  have d0 : Below w.heap.size w W0 := by rw [← hW0]; exact ((Below.refl _ _).alloc (Nat.le_refl _) _).alloc (by simp) _
  have B0 : W0.heap[w.heap.size]? = some (.cells #[.int .i64 (S.length : Int), .int .i64 (Y.length : Int), .slice (some ⟨b1, 0, none⟩) St.length c1, .slice (some ⟨b2, 0, none⟩) Fi.length c2, .slice a3 Ed.length c3] 25 (0, 0)) := by rw [← hW0]; exact (Below.heap_alloc _ _ _ (by simp)).trans (World.alloc_heap_new _ _)
  have B1 : W0.heap[w.heap.size + 1]? = some (.cells #[.string ⟨#[]⟩, .slice none 0 0, .slice none 0 0, .slice none 0 0, .slice none 0 0] 32 (0, 0)) := by rw [← hW0]; exact heap_alloc2_new w _ _
  have z0 : W0.heap.size = w.heap.size + 2 := by rw [← hW0]; simp
  have T1 := mayBe_any W0 (S.length : Int) (Y.length : Int) St Fi Ed (some ⟨b1, 0, none⟩) (some ⟨b2, 0, none⟩) a3 c1 c2 c3 (hide ⟨hA.out.1.on d0, hA.out.2.1.on d0, hA.out.2.2.1.on d0⟩) h1 h2 h3
  rw [hm] at T1
  have HD := hide (And.intro d0 (And.intro B0 (And.intro B1 z0)))
  have x0 : W0.cell? ⟨w.heap.size, 0, none⟩ = some (.int .i64 (S.length : Int)) := cell_of B0 rfl
  have x1 : W0.cell? ⟨w.heap.size, 1, none⟩ = some (.int .i64 (Y.length : Int)) := cell_of B0 rfl
  have x2 : W0.cell? ⟨w.heap.size, 2, none⟩ = some (.slice (some ⟨b1, 0, none⟩) St.length c1) := cell_of B0 rfl
  have x3 : W0.cell? ⟨w.heap.size, 3, none⟩ = some (.slice (some ⟨b2, 0, none⟩) Fi.length c2) := cell_of B0 rfl
  have x4 : W0.cell? ⟨w.heap.size, 4, none⟩ = some (.slice a3 Ed.length c3) := cell_of B0 rfl
  clear d0 B0 B1 z0
  go_enter Tryz.func7, Tryz.ntmps7
  have HTT : Hid (∀ W, Below W0.heap.size W0 W → BytesAt W ∧ 1 < W.heap.size) := hide (fun W d => ⟨hT.out.1.below (HD.out.1.trans (d.mono HD.out.1.size)) hT.out.2, Nat.lt_of_lt_of_le hT.out.2 (HD.out.1.trans (d.mono HD.out.1.size)).size⟩)
  go_upto_region 6 with (first
    | (go_at_call 30; refine T1.mono ?_; rintro e w1 ⟨rfl, d1⟩; have y0 : w1.cell? ⟨w.heap.size, 0, none⟩ = some (.int .i64 (S.length : Int)) := (d1.cell (p := ⟨w.heap.size, 0, none⟩) (by have := HD.out.2.2.2; show w.heap.size < _; omega)).trans x0; have y1 : w1.cell? ⟨w.heap.size, 1, none⟩ = some (.int .i64 (Y.length : Int)) := (d1.cell (p := ⟨w.heap.size, 1, none⟩) (by have := HD.out.2.2.2; show w.heap.size < _; omega)).trans x1)
    | (go_at_call 31; refine (valid_any ti w1 (HTT.out w1 d1).1 (HTT.out w1 d1).2).mono ?_; rintro e w2 ⟨rfl, d2⟩; rw [hv]))
  have d12 := d1.trans (d2.mono d1.size)
  clear d2
  have HW := hide (HD.out.1.trans (d12.mono HD.out.1.size))
  have HX : Hid (w2.heap[w.heap.size + 1]? = some (.cells #[.string ⟨#[]⟩, .slice none 0 0, .slice none 0 0, .slice none 0 0, .slice none 0 0] 32 (0, 0))) := hide ((d12.block _ (by have := HD.out.2.2.2; omega)).trans HD.out.2.2.1)
  clear T1 x0 x1 x2 x3 x4 y0 y1
  have z0 : w2.cell? ⟨w.heap.size + 1, 0, none⟩ = some (.string ⟨#[]⟩) := cell_of HX.out rfl
  have z1 : w2.cell? ⟨w.heap.size + 1, 1, none⟩ = some (.slice none 0 0) := cell_of HX.out rfl
  have z2 : w2.cell? ⟨w.heap.size + 1, 2, none⟩ = some (.slice none 0 0) := cell_of HX.out rfl
  have z3 : w2.cell? ⟨w.heap.size + 1, 3, none⟩ = some (.slice none 0 0) := cell_of HX.out rfl
  have z4 : w2.cell? ⟨w.heap.size + 1, 4, none⟩ = some (.slice none 0 0) := cell_of HX.out rfl
  have f0 : w2.frozen? ⟨w.heap.size + 1, 0, none⟩ = false := fz_of HX.out
  have f1 : w2.frozen? ⟨w.heap.size + 1, 1, none⟩ = false := fz_of HX.out
  have f2 : w2.frozen? ⟨w.heap.size + 1, 2, none⟩ = false := fz_of HX.out
  have f3 : w2.frozen? ⟨w.heap.size + 1, 3, none⟩ = false := fz_of HX.out
  have f4 : w2.frozen? ⟨w.heap.size + 1, 4, none⟩ = false := fz_of HX.out
  have HZ := hide (set5 w2 (w.heap.size + 1) _ _ _ _ _ (.string ⟨#[]⟩) (.slice none 0 0) (.slice none 0 0) (.slice none 0 0) (.slice none 0 0) 32 HX.out)
  go_wp2
  refine bodyPost_ret (results_c1 (p := 8) (q := 9) (ty := 32) rfl _ _ (w.heap.size + 1) 32 _ (0, 0) _ _ rfl rfl HZ.out.1 Tryz.underlying32 rfl (by kernel_rfl)) rfl ?_
  exact FrA.nil 20 (HW.out.trans (HZ.out.2.toBelow HW.out.size fun k z => by omega))
set_option maxRecDepth 100000 in
set_option maxHeartbeats 4000000 in
theorem from_name (w : World) (ti : ByteArray) (n m : Int) (St Fi : List Int) (Ed : List EdT) (b1 b2 : Nat) (a3 asx ay : Option Addr) (c1 c2 c3 cs cy : Nat) (S Y : List ByteArray) (hT : Hid (BytesAt w ∧ 1 < w.heap.size)) (hA : Hid (RdN w (some ⟨b1, 0, none⟩) St ∧ RdN w (some ⟨b2, 0, none⟩) Fi ∧ RdE w a3 Ed ∧ ReadsS w asx S ∧ ReadsS w ay Y)) (hok : Hid (Sml S ∧ Sml Y)) (h1 : St.length ≤ 4194304) (h2 : Fi.length ≤ 4194304) (h3 : Ed.length ≤ 4194304) (hs : S.length ≤ 2097152) (hy : Y.length ≤ 2097152) (hm : mayF n m St Fi Ed = true) (hn : (S.length : Int) = n) (hn2 : (Y.length : Int) = m) (hv : vld ti = true) (hb : ¬ (S.all vld = true ∧ Y.all vld = true)) :
    Calls Tryz.prog 7 #[.agg #[.int .i64 n, .int .i64 m, .slice (some ⟨b1, 0, none⟩) St.length c1, .slice (some ⟨b2, 0, none⟩) Fi.length c2, .slice a3 Ed.length c3], .slice asx S.length cs, .slice ay Y.length cy, .string ti] w fun e w' => FrA w w' (noF 20) e := by
  subst hn hn2
  have HU := hide (And.intro hT.out (And.intro hok.out (And.intro hs hy)))
  clear HU
  obtain ⟨W0, hW0⟩ : ∃ W0, (w.alloc (.cells #[.int .i64 (S.length : Int), .int .i64 (Y.length : Int), .slice (some ⟨b1, 0, none⟩) St.length c1, .slice (some ⟨b2, 0, none⟩) Fi.length c2, .slice a3 Ed.length c3] 25)).alloc (.cells #[.string ⟨#[]⟩, .slice none 0 0, .slice none 0 0, .slice none 0 0, .slice none 0 0] 32) = W0 := ⟨_, rfl⟩
  have d0 : Below w.heap.size w W0 := by rw [← hW0]; exact ((Below.refl _ _).alloc (Nat.le_refl _) _).alloc (by simp) _
  have B0 : W0.heap[w.heap.size]? = some (.cells #[.int .i64 (S.length : Int), .int .i64 (Y.length : Int), .slice (some ⟨b1, 0, none⟩) St.length c1, .slice (some ⟨b2, 0, none⟩) Fi.length c2, .slice a3 Ed.length c3] 25 (0, 0)) := by rw [← hW0]; exact (Below.heap_alloc _ _ _ (by simp)).trans (World.alloc_heap_new _ _)
  have B1 : W0.heap[w.heap.size + 1]? = some (.cells #[.string ⟨#[]⟩, .slice none 0 0, .slice none 0 0, .slice none 0 0, .slice none 0 0] 32 (0, 0)) := by rw [← hW0]; exact heap_alloc2_new w _ _
  have z0 : W0.heap.size = w.heap.size + 2 := by rw [← hW0]; simp
  have T1 := mayBe_any W0 (S.length : Int) (Y.length : Int) St Fi Ed (some ⟨b1, 0, none⟩) (some ⟨b2, 0, none⟩) a3 c1 c2 c3 (hide ⟨hA.out.1.on d0, hA.out.2.1.on d0, hA.out.2.2.1.on d0⟩) h1 h2 h3
  rw [hm] at T1
  have HD := hide (And.intro d0 (And.intro B0 (And.intro B1 z0)))
  have x0 : W0.cell? ⟨w.heap.size, 0, none⟩ = some (.int .i64 (S.length : Int)) := cell_of B0 rfl
  have x1 : W0.cell? ⟨w.heap.size, 1, none⟩ = some (.int .i64 (Y.length : Int)) := cell_of B0 rfl
  have x2 : W0.cell? ⟨w.heap.size, 2, none⟩ = some (.slice (some ⟨b1, 0, none⟩) St.length c1) := cell_of B0 rfl
  have x3 : W0.cell? ⟨w.heap.size, 3, none⟩ = some (.slice (some ⟨b2, 0, none⟩) Fi.length c2) := cell_of B0 rfl
  have x4 : W0.cell? ⟨w.heap.size, 4, none⟩ = some (.slice a3 Ed.length c3) := cell_of B0 rfl
  clear d0 B0 B1 z0
  go_enter Tryz.func7, Tryz.ntmps7
  have HTT : Hid (∀ W, Below W0.heap.size W0 W → BytesAt W ∧ 1 < W.heap.size) := hide (fun W d => ⟨hT.out.1.below (HD.out.1.trans (d.mono HD.out.1.size)) hT.out.2, Nat.lt_of_lt_of_le hT.out.2 (HD.out.1.trans (d.mono HD.out.1.size)).size⟩)
  have HM : Hid (∀ W, Below W0.heap.size W0 W → StrS W (.slice asx S.length cs) S ∧ StrS W (.slice ay Y.length cy) Y) := hide (fun W d => ⟨⟨_, _, rfl, hA.out.2.2.2.1.below (HD.out.1.trans (d.mono HD.out.1.size))⟩, ⟨_, _, rfl, hA.out.2.2.2.2.below (HD.out.1.trans (d.mono HD.out.1.size))⟩⟩)
  go_upto_region 9 with (first
    | (go_at_call 30; refine T1.mono ?_; rintro e w1 ⟨rfl, d1⟩; have y0 : w1.cell? ⟨w.heap.size, 0, none⟩ = some (.int .i64 (S.length : Int)) := (d1.cell (p := ⟨w.heap.size, 0, none⟩) (by have := HD.out.2.2.2; show w.heap.size < _; omega)).trans x0; have y1 : w1.cell? ⟨w.heap.size, 1, none⟩ = some (.int .i64 (Y.length : Int)) := (d1.cell (p := ⟨w.heap.size, 1, none⟩) (by have := HD.out.2.2.2; show w.heap.size < _; omega)).trans x1)
    | (go_at_call 31; refine (valid_any ti w1 (HTT.out w1 d1).1 (HTT.out w1 d1).2).mono ?_; rintro e w2 ⟨rfl, d2⟩; rw [hv]; have d12 := d1.trans (d2.mono d1.size))
    | (go_at_call 32; refine (nm.merge_noname _ _ S Y w2 (HM.out w2 d12).1 (HM.out w2 d12).2 hs hy hb (HTT.out w2 d12).1 (HTT.out w2 d12).2).mono ?_; rintro e w3 ⟨rfl, d3⟩))
  have d13 := d12.trans (d3.mono d12.size)
  clear d3 d2
  have HW := hide (HD.out.1.trans (d13.mono HD.out.1.size))
  have HX : Hid (w3.heap[w.heap.size + 1]? = some (.cells #[.string ⟨#[]⟩, .slice none 0 0, .slice none 0 0, .slice none 0 0, .slice none 0 0] 32 (0, 0))) := hide ((d13.block _ (by have := HD.out.2.2.2; omega)).trans HD.out.2.2.1)
  clear T1 x0 x1 x2 x3 x4 y0 y1
  have z0 : w3.cell? ⟨w.heap.size + 1, 0, none⟩ = some (.string ⟨#[]⟩) := cell_of HX.out rfl
  have z1 : w3.cell? ⟨w.heap.size + 1, 1, none⟩ = some (.slice none 0 0) := cell_of HX.out rfl
  have z2 : w3.cell? ⟨w.heap.size + 1, 2, none⟩ = some (.slice none 0 0) := cell_of HX.out rfl
  have z3 : w3.cell? ⟨w.heap.size + 1, 3, none⟩ = some (.slice none 0 0) := cell_of HX.out rfl
  have z4 : w3.cell? ⟨w.heap.size + 1, 4, none⟩ = some (.slice none 0 0) := cell_of HX.out rfl
  have f0 : w3.frozen? ⟨w.heap.size + 1, 0, none⟩ = false := fz_of HX.out
  have f1 : w3.frozen? ⟨w.heap.size + 1, 1, none⟩ = false := fz_of HX.out
  have f2 : w3.frozen? ⟨w.heap.size + 1, 2, none⟩ = false := fz_of HX.out
  have f3 : w3.frozen? ⟨w.heap.size + 1, 3, none⟩ = false := fz_of HX.out
  have f4 : w3.frozen? ⟨w.heap.size + 1, 4, none⟩ = false := fz_of HX.out
  have HZ := hide (set5 w3 (w.heap.size + 1) _ _ _ _ _ (.string ⟨#[]⟩) (.slice none 0 0) (.slice none 0 0) (.slice none 0 0) (.slice none 0 0) 32 HX.out)
  go_wp2
  refine bodyPost_ret (results_c1 (p := 8) (q := 9) (ty := 32) rfl _ _ (w.heap.size + 1) 32 _ (0, 0) _ _ rfl rfl HZ.out.1 Tryz.underlying32 rfl (by kernel_rfl)) rfl ?_
  exact FrA.nil 20 (HW.out.trans (HZ.out.2.toBelow HW.out.size fun k z => by omega))
set_option maxRecDepth 100000 in
set_option maxHeartbeats 4000000 in
theorem from_twice (w : World) (ti : ByteArray) (n m : Int) (St Fi : List Int) (Ed : List EdT) (b1 b2 : Nat) (a3 asx ay : Option Addr) (c1 c2 c3 cs cy : Nat) (S Y : List ByteArray) (hT : Hid (BytesAt w ∧ 1 < w.heap.size)) (hA : Hid (RdN w (some ⟨b1, 0, none⟩) St ∧ RdN w (some ⟨b2, 0, none⟩) Fi ∧ RdE w a3 Ed ∧ ReadsS w asx S ∧ ReadsS w ay Y)) (hok : Hid (Sml S ∧ Sml Y)) (h1 : St.length ≤ 4194304) (h2 : Fi.length ≤ 4194304) (h3 : Ed.length ≤ 4194304) (hs : S.length ≤ 2097152) (hy : Y.length ≤ 2097152) (hm : mayF n m St Fi Ed = true) (hn : (S.length : Int) = n) (hn2 : (Y.length : Int) = m) (hv : vld ti = true) (hv1 : S.all vld = true) (hv2 : Y.all vld = true) (hb : ¬ (S.Nodup ∧ Y.Nodup)) :
    Calls Tryz.prog 7 #[.agg #[.int .i64 n, .int .i64 m, .slice (some ⟨b1, 0, none⟩) St.length c1, .slice (some ⟨b2, 0, none⟩) Fi.length c2, .slice a3 Ed.length c3], .slice asx S.length cs, .slice ay Y.length cy, .string ti] w fun e w' => FrA w w' (noF 21) e := by
  subst hn hn2
  have HU := hide (And.intro hT.out (And.intro hok.out (And.intro hs hy)))
  clear HU
  obtain ⟨W0, hW0⟩ : ∃ W0, (w.alloc (.cells #[.int .i64 (S.length : Int), .int .i64 (Y.length : Int), .slice (some ⟨b1, 0, none⟩) St.length c1, .slice (some ⟨b2, 0, none⟩) Fi.length c2, .slice a3 Ed.length c3] 25)).alloc (.cells #[.string ⟨#[]⟩, .slice none 0 0, .slice none 0 0, .slice none 0 0, .slice none 0 0] 32) = W0 := ⟨_, rfl⟩
  have d0 : Below w.heap.size w W0 := by rw [← hW0]; exact ((Below.refl _ _).alloc (Nat.le_refl _) _).alloc (by simp) _
  have B0 : W0.heap[w.heap.size]? = some (.cells #[.int .i64 (S.length : Int), .int .i64 (Y.length : Int), .slice (some ⟨b1, 0, none⟩) St.length c1, .slice (some ⟨b2, 0, none⟩) Fi.length c2, .slice a3 Ed.length c3] 25 (0, 0)) := by rw [← hW0]; exact (Below.heap_alloc _ _ _ (by simp)).trans (World.alloc_heap_new _ _)
  have B1 : W0.heap[w.heap.size + 1]? = some (.cells #[.string ⟨#[]⟩, .slice none 0 0, .slice none 0 0, .slice none 0 0, .slice none 0 0] 32 (0, 0)) := by rw [← hW0]; exact heap_alloc2_new w _ _
  have z0 : W0.heap.size = w.heap.size + 2 := by rw [← hW0]; simp
  have T1 := mayBe_any W0 (S.length : Int) (Y.length : Int) St Fi Ed (some ⟨b1, 0, none⟩) (some ⟨b2, 0, none⟩) a3 c1 c2 c3 (hide ⟨hA.out.1.on d0, hA.out.2.1.on d0, hA.out.2.2.1.on d0⟩) h1 h2 h3
  rw [hm] at T1
  have HD := hide (And.intro d0 (And.intro B0 (And.intro B1 z0)))
  have x0 : W0.cell? ⟨w.heap.size, 0, none⟩ = some (.int .i64 (S.length : Int)) := cell_of B0 rfl
  have x1 : W0.cell? ⟨w.heap.size, 1, none⟩ = some (.int .i64 (Y.length : Int)) := cell_of B0 rfl
  have x2 : W0.cell? ⟨w.heap.size, 2, none⟩ = some (.slice (some ⟨b1, 0, none⟩) St.length c1) := cell_of B0 rfl
  have x3 : W0.cell? ⟨w.heap.size, 3, none⟩ = some (.slice (some ⟨b2, 0, none⟩) Fi.length c2) := cell_of B0 rfl
  have x4 : W0.cell? ⟨w.heap.size, 4, none⟩ = some (.slice a3 Ed.length c3) := cell_of B0 rfl
  clear d0 B0 B1 z0
  go_enter Tryz.func7, Tryz.ntmps7
  have HTT : Hid (∀ W, Below W0.heap.size W0 W → BytesAt W ∧ 1 < W.heap.size) := hide (fun W d => ⟨hT.out.1.below (HD.out.1.trans (d.mono HD.out.1.size)) hT.out.2, Nat.lt_of_lt_of_le hT.out.2 (HD.out.1.trans (d.mono HD.out.1.size)).size⟩)
  have HM : Hid (∀ W, Below W0.heap.size W0 W → StrS W (.slice asx S.length cs) S ∧ StrS W (.slice ay Y.length cy) Y) := hide (fun W d => ⟨⟨_, _, rfl, hA.out.2.2.2.1.below (HD.out.1.trans (d.mono HD.out.1.size))⟩, ⟨_, _, rfl, hA.out.2.2.2.2.below (HD.out.1.trans (d.mono HD.out.1.size))⟩⟩)
  go_upto_region 9 with (first
    | (go_at_call 30; refine T1.mono ?_; rintro e w1 ⟨rfl, d1⟩; have y0 : w1.cell? ⟨w.heap.size, 0, none⟩ = some (.int .i64 (S.length : Int)) := (d1.cell (p := ⟨w.heap.size, 0, none⟩) (by have := HD.out.2.2.2; show w.heap.size < _; omega)).trans x0; have y1 : w1.cell? ⟨w.heap.size, 1, none⟩ = some (.int .i64 (Y.length : Int)) := (d1.cell (p := ⟨w.heap.size, 1, none⟩) (by have := HD.out.2.2.2; show w.heap.size < _; omega)).trans x1)
    | (go_at_call 31; refine (valid_any ti w1 (HTT.out w1 d1).1 (HTT.out w1 d1).2).mono ?_; rintro e w2 ⟨rfl, d2⟩; rw [hv]; have d12 := d1.trans (d2.mono d1.size))
    | (go_at_call 32; refine (nm.merge_twice _ _ S Y w2 (HM.out w2 d12).1 (HM.out w2 d12).2 hs hy hok.out.1 hok.out.2 hv1 hv2 hb (HTT.out w2 d12).1 (HTT.out w2 d12).2).mono ?_; rintro e w3 ⟨rfl, d3⟩))
  have d13 := d12.trans (d3.mono d12.size)
  clear d3 d2
  have HW := hide (HD.out.1.trans (d13.mono HD.out.1.size))
  have HX : Hid (w3.heap[w.heap.size + 1]? = some (.cells #[.string ⟨#[]⟩, .slice none 0 0, .slice none 0 0, .slice none 0 0, .slice none 0 0] 32 (0, 0))) := hide ((d13.block _ (by have := HD.out.2.2.2; omega)).trans HD.out.2.2.1)
  clear T1 x0 x1 x2 x3 x4 y0 y1
  have z0 : w3.cell? ⟨w.heap.size + 1, 0, none⟩ = some (.string ⟨#[]⟩) := cell_of HX.out rfl
  have z1 : w3.cell? ⟨w.heap.size + 1, 1, none⟩ = some (.slice none 0 0) := cell_of HX.out rfl
  have z2 : w3.cell? ⟨w.heap.size + 1, 2, none⟩ = some (.slice none 0 0) := cell_of HX.out rfl
  have z3 : w3.cell? ⟨w.heap.size + 1, 3, none⟩ = some (.slice none 0 0) := cell_of HX.out rfl
  have z4 : w3.cell? ⟨w.heap.size + 1, 4, none⟩ = some (.slice none 0 0) := cell_of HX.out rfl
  have f0 : w3.frozen? ⟨w.heap.size + 1, 0, none⟩ = false := fz_of HX.out
  have f1 : w3.frozen? ⟨w.heap.size + 1, 1, none⟩ = false := fz_of HX.out
  have f2 : w3.frozen? ⟨w.heap.size + 1, 2, none⟩ = false := fz_of HX.out
  have f3 : w3.frozen? ⟨w.heap.size + 1, 3, none⟩ = false := fz_of HX.out
  have f4 : w3.frozen? ⟨w.heap.size + 1, 4, none⟩ = false := fz_of HX.out
  have HZ := hide (set5 w3 (w.heap.size + 1) _ _ _ _ _ (.string ⟨#[]⟩) (.slice none 0 0) (.slice none 0 0) (.slice none 0 0) (.slice none 0 0) 32 HX.out)
  go_wp2
  refine bodyPost_ret (results_c1 (p := 8) (q := 9) (ty := 32) rfl _ _ (w.heap.size + 1) 32 _ (0, 0) _ _ rfl rfl HZ.out.1 Tryz.underlying32 rfl (by kernel_rfl)) rfl ?_
  exact FrA.nil 21 (HW.out.trans (HZ.out.2.toBelow HW.out.size fun k z => by omega))
set_option maxRecDepth 100000 in
set_option maxHeartbeats 4000000 in
theorem from_ok (w : World) (ti : ByteArray) (n m : Int) (St Fi : List Int) (Ed : List EdT) (b1 b2 : Nat) (a3 asx ay : Option Addr) (c1 c2 c3 cs cy : Nat) (S Y : List ByteArray) (hT : Hid (BytesAt w ∧ 1 < w.heap.size)) (hA : Hid (RdN w (some ⟨b1, 0, none⟩) St ∧ RdN w (some ⟨b2, 0, none⟩) Fi ∧ RdE w a3 Ed ∧ ReadsS w asx S ∧ ReadsS w ay Y)) (hok : Hid (Sml S ∧ Sml Y)) (h1 : St.length ≤ 4194304) (h2 : Fi.length ≤ 4194304) (h3 : Ed.length ≤ 4194304) (hs : S.length ≤ 2097152) (hy : Y.length ≤ 2097152) (hm : mayF n m St Fi Ed = true) (hn : (S.length : Int) = n) (hn2 : (Y.length : Int) = m) (hv : vld ti = true) (hv1 : S.all vld = true) (hv2 : Y.all vld = true) (hb1 : S.Nodup) (hb2 : Y.Nodup) (hI : Hid (InF St Fi Ed S Y)) :
    Calls Tryz.prog 7 #[.agg #[.int .i64 n, .int .i64 m, .slice (some ⟨b1, 0, none⟩) St.length c1, .slice (some ⟨b2, 0, none⟩) Fi.length c2, .slice a3 Ed.length c3], .slice asx S.length cs, .slice ay Y.length cy, .string ti] w fun e w' => FrA w w' (okFr ti St Fi Ed S Y) e := by
  subst hn hn2
  have HU := hide (And.intro hT.out (And.intro hok.out (And.intro hs hy)))
  clear HU
  obtain ⟨W0, hW0⟩ : ∃ W0, (w.alloc (.cells #[.int .i64 (S.length : Int), .int .i64 (Y.length : Int), .slice (some ⟨b1, 0, none⟩) St.length c1, .slice (some ⟨b2, 0, none⟩) Fi.length c2, .slice a3 Ed.length c3] 25)).alloc (.cells #[.string ⟨#[]⟩, .slice none 0 0, .slice none 0 0, .slice none 0 0, .slice none 0 0] 32) = W0 := ⟨_, rfl⟩
  have d0 : Below w.heap.size w W0 := by rw [← hW0]; exact ((Below.refl _ _).alloc (Nat.le_refl _) _).alloc (by simp) _
  have B0 : W0.heap[w.heap.size]? = some (.cells #[.int .i64 (S.length : Int), .int .i64 (Y.length : Int), .slice (some ⟨b1, 0, none⟩) St.length c1, .slice (some ⟨b2, 0, none⟩) Fi.length c2, .slice a3 Ed.length c3] 25 (0, 0)) := by rw [← hW0]; exact (Below.heap_alloc _ _ _ (by simp)).trans (World.alloc_heap_new _ _)
  have B1 : W0.heap[w.heap.size + 1]? = some (.cells #[.string ⟨#[]⟩, .slice none 0 0, .slice none 0 0, .slice none 0 0, .slice none 0 0] 32 (0, 0)) := by rw [← hW0]; exact heap_alloc2_new w _ _
  have z0 : W0.heap.size = w.heap.size + 2 := by rw [← hW0]; simp
  have T1 := mayBe_any W0 (S.length : Int) (Y.length : Int) St Fi Ed (some ⟨b1, 0, none⟩) (some ⟨b2, 0, none⟩) a3 c1 c2 c3 (hide ⟨hA.out.1.on d0, hA.out.2.1.on d0, hA.out.2.2.1.on d0⟩) h1 h2 h3
  rw [hm] at T1
  have HD := hide (And.intro d0 (And.intro B0 (And.intro B1 z0)))
  have x0 : W0.cell? ⟨w.heap.size, 0, none⟩ = some (.int .i64 (S.length : Int)) := cell_of B0 rfl
  have x1 : W0.cell? ⟨w.heap.size, 1, none⟩ = some (.int .i64 (Y.length : Int)) := cell_of B0 rfl
  have x2 : W0.cell? ⟨w.heap.size, 2, none⟩ = some (.slice (some ⟨b1, 0, none⟩) St.length c1) := cell_of B0 rfl
  have x3 : W0.cell? ⟨w.heap.size, 3, none⟩ = some (.slice (some ⟨b2, 0, none⟩) Fi.length c2) := cell_of B0 rfl
  have x4 : W0.cell? ⟨w.heap.size, 4, none⟩ = some (.slice a3 Ed.length c3) := cell_of B0 rfl
  clear d0 B0 B1 z0
  go_enter Tryz.func7, Tryz.ntmps7
  have HTT : Hid (∀ W, Below W0.heap.size W0 W → BytesAt W ∧ 1 < W.heap.size) := hide (fun W d => ⟨hT.out.1.below (HD.out.1.trans (d.mono HD.out.1.size)) hT.out.2, Nat.lt_of_lt_of_le hT.out.2 (HD.out.1.trans (d.mono HD.out.1.size)).size⟩)
  have HM : Hid (∀ W, Below W0.heap.size W0 W → StrS W (.slice asx S.length cs) S ∧ StrS W (.slice ay Y.length cy) Y) := hide (fun W d => ⟨⟨_, _, rfl, hA.out.2.2.2.1.below (HD.out.1.trans (d.mono HD.out.1.size))⟩, ⟨_, _, rfl, hA.out.2.2.2.2.below (HD.out.1.trans (d.mono HD.out.1.size))⟩⟩)
  go_upto_region 10 with (first
    | (go_at_call 30; refine T1.mono ?_; rintro e w1 ⟨rfl, d1⟩; have y0 : w1.cell? ⟨w.heap.size, 0, none⟩ = some (.int .i64 (S.length : Int)) := (d1.cell (p := ⟨w.heap.size, 0, none⟩) (by have := HD.out.2.2.2; show w.heap.size < _; omega)).trans x0; have y1 : w1.cell? ⟨w.heap.size, 1, none⟩ = some (.int .i64 (Y.length : Int)) := (d1.cell (p := ⟨w.heap.size, 1, none⟩) (by have := HD.out.2.2.2; show w.heap.size < _; omega)).trans x1)
    | (go_at_call 31; refine (valid_any ti w1 (HTT.out w1 d1).1 (HTT.out w1 d1).2).mono ?_; rintro e w2 ⟨rfl, d2⟩; rw [hv]; have d12 := d1.trans (d2.mono d1.size))
    | (go_at_call 32; refine (nm.merge_ok _ _ S Y w2 (HM.out w2 d12).1 (HM.out w2 d12).2 hs hy hok.out.1 hok.out.2 hv1 hv2 hb1 hb2 (HTT.out w2 d12).1 (HTT.out w2 d12).2).mono ?_; rintro e w3 ⟨v, p, q, rfl, _, _, _, d3⟩))
  have d13 := d12.trans (d3.mono d12.size)
  have DW := hide (HD.out.1.trans (d13.mono HD.out.1.size))
  have HB : Hid (w3.heap[w.heap.size]? = some (.cells #[.int .i64 (S.length : Int), .int .i64 (Y.length : Int), .slice (some ⟨b1, 0, none⟩) St.length c1, .slice (some ⟨b2, 0, none⟩) Fi.length c2, .slice a3 Ed.length c3] 25 (0, 0)) ∧ w3.heap[w.heap.size + 1]? = some (.cells #[.string ⟨#[]⟩, .slice none 0 0, .slice none 0 0, .slice none 0 0, .slice none 0 0] 32 (0, 0)) ∧ w.heap.size + 2 ≤ w3.heap.size) := hide ⟨(d13.block _ (by have := HD.out.2.2.2; omega)).trans HD.out.2.1, (d13.block _ (by have := HD.out.2.2.2; omega)).trans HD.out.2.2.1, by have := HD.out.2.2.2; have := d13.size; omega⟩
  clear T1 x0 x1 x2 x3 x4 y0 y1 d1 d2 d12 d3 d13 HTT HM
  have SK : Hid (∀ W, Below w3.heap.size w3 W → (fun W => W.cell? ⟨w.heap.size, 0, none⟩ = some (.int .i64 (S.length : Int)) ∧ W.cell? ⟨w.heap.size, 1, none⟩ = some (.int .i64 (Y.length : Int)) ∧ W.cell? ⟨w.heap.size, 2, none⟩ = some (.slice (some ⟨b1, 0, none⟩) St.length c1) ∧ W.cell? ⟨w.heap.size, 3, none⟩ = some (.slice (some ⟨b2, 0, none⟩) Fi.length c2) ∧ W.cell? ⟨w.heap.size, 4, none⟩ = some (.slice a3 Ed.length c3)) W) := hide (fun W d => by
    have e := (d.block _ (by have := HB.out.2.2; omega)).trans HB.out.1
    exact ⟨cell_of e rfl, cell_of e rfl, cell_of e rfl, cell_of e rfl, cell_of e rfl⟩)
  have SQ : Hid (∀ W : World, W.heap[w.heap.size]? = w3.heap[w.heap.size]? → (fun W => W.cell? ⟨w.heap.size, 0, none⟩ = some (.int .i64 (S.length : Int)) ∧ W.cell? ⟨w.heap.size, 1, none⟩ = some (.int .i64 (Y.length : Int)) ∧ W.cell? ⟨w.heap.size, 2, none⟩ = some (.slice (some ⟨b1, 0, none⟩) St.length c1) ∧ W.cell? ⟨w.heap.size, 3, none⟩ = some (.slice (some ⟨b2, 0, none⟩) Fi.length c2) ∧ W.cell? ⟨w.heap.size, 4, none⟩ = some (.slice a3 Ed.length c3)) W) := hide (fun W e => by
    have e := e.trans HB.out.1
    exact ⟨cell_of e rfl, cell_of e rfl, cell_of e rfl, cell_of e rfl, cell_of e rfl⟩)
  have KA : Hid (∀ W, Below w3.heap.size w3 W → RdN W (some ⟨b1, 0, none⟩) St ∧ RdN W (some ⟨b2, 0, none⟩) Fi ∧ RdE W a3 Ed ∧ ReadsS W asx S ∧ ReadsS W ay Y) := hide (fun W d => by
    have dd := DW.out.trans (d.mono DW.out.size)
    exact ⟨hA.out.1.on dd, hA.out.2.1.on dd, hA.out.2.2.1.on dd, hA.out.2.2.2.1.below dd, hA.out.2.2.2.2.below dd⟩)
  have S0 := SK.out w3.drew (Below.refl _ _).drew
  have hfl := rise_le Fi
  have HF : Hid (tN (riseL Fi) = tN (riseL Fi) ∧ (tN (riseL Fi)).length = (riseL Fi).length) := hide ⟨rfl, by simp [tN]⟩
  go_region_held3 (fun W => W.cell? ⟨w.heap.size, 0, none⟩ = some (.int .i64 (S.length : Int)) ∧ W.cell? ⟨w.heap.size, 1, none⟩ = some (.int .i64 (Y.length : Int)) ∧ W.cell? ⟨w.heap.size, 2, none⟩ = some (.slice (some ⟨b1, 0, none⟩) St.length c1) ∧ W.cell? ⟨w.heap.size, 3, none⟩ = some (.slice (some ⟨b2, 0, none⟩) Fi.length c2) ∧ W.cell? ⟨w.heap.size, 4, none⟩ = some (.slice a3 Ed.length c3))
    (with_reducible assumption)
    ((first
      | (go_at_call 33; refine (opsOf_any _ ay cy Y (hide (KA.out _ (Below.refl _ w3).drew).2.2.2.2) (by omega)).mono ?_; rintro e wa ⟨vo, rfl, ho, da⟩; have Da : Below w3.heap.size w3 wa := ⟨da.os, da.tape, da.output, da.size, da.block⟩; have Sa := SK.out wa Da; have HO := hide (And.intro ho Da); clear ho da Da; obtain ⟨ao', co', rfl⟩ := rowForm HO.out.1)
      | (go_at_call 34; refine (cloneS_any wa asx cs S (KA.out _ HO.out.2).2.2.2.1 (by omega)).mono ?_; rintro e wb ⟨vs, rfl, hv5, db⟩; have Db : Below w3.heap.size w3 wb := HO.out.2.trans (db.mono HO.out.2.size); have Sb := SK.out wb Db; have HS := hide (And.intro hv5 (And.intro db Db)); clear hv5 db Db; obtain ⟨as', cs', rfl⟩ := rowForm HS.out.1)
      | (go_at_call 36; refine (rising_rd wb b2 0 c2 Fi h2 (KA.out _ HS.out.2.2).2.1).mono ?_; rintro e wc ⟨vn, rfl, hn5, dc⟩; obtain ⟨an, cn, rfl, hrn⟩ := rdN_of hn5; have Dc : Below w3.heap.size w3 wc := HS.out.2.2.trans (dc.mono HS.out.2.2.size); have Sc := SK.out wc Dc; have HN := hide (And.intro hrn (And.intro dc Dc)); clear hn5 hrn dc Dc)
      | (go_at_call 35; rw [← HF.out.2]; refine (named_any wc an asx cn cs (tN (riseL Fi)) S (hide (rdI_of HN.out.1 fun z hz => (hI.out.fi z hz).1)) (hide (KA.out _ HN.out.2.2).2.2.2.1) (hide (fun k hk => by obtain ⟨z, hz, rfl⟩ := List.mem_map.1 hk; have := hI.out.fi z hz; omega)) (by rw [HF.out.2]; omega) (by omega)).mono ?_; rintro e wd ⟨rfl, hf5, dd⟩; have Dd : Below w3.heap.size w3 wd := HN.out.2.2.trans (dd.mono HN.out.2.2.size); have Sd := SK.out wd Dd; have HFI := hide (And.intro hf5 (And.intro dd Dd)); clear hf5 dd Dd)
      | (go_at_call 37; refine (rulesOf_any wd (S.length : Int) (Y.length : Int) St Fi Ed b1 (some ⟨b2, 0, none⟩) a3 asx ay c1 c2 c3 cs cy S Y (hide ⟨(KA.out _ HFI.out.2.2).1, (KA.out _ HFI.out.2.2).2.2.1, (KA.out _ HFI.out.2.2).2.2.2.1, (KA.out _ HFI.out.2.2).2.2.2.2⟩) hI h1 h3 (by omega) (by omega)).mono ?_; rintro e we ⟨vr, rfl, hr5, de⟩; obtain ⟨ar', cr', rfl⟩ := rowForm hr5; have De : Below w3.heap.size w3 we := HFI.out.2.2.trans (de.mono HFI.out.2.2.size); have Se := SK.out we De; have bE := (De.block _ (by have := HB.out.2.2; omega)).trans HB.out.2.1; have z0 : we.cell? ⟨w.heap.size + 1, 0, none⟩ = some (.string ⟨#[]⟩) := cell_of bE rfl; have z1 : we.cell? ⟨w.heap.size + 1, 1, none⟩ = some (.slice none 0 0) := cell_of bE rfl; have z2 : we.cell? ⟨w.heap.size + 1, 2, none⟩ = some (.slice none 0 0) := cell_of bE rfl; have z3 : we.cell? ⟨w.heap.size + 1, 3, none⟩ = some (.slice none 0 0) := cell_of bE rfl; have z4 : we.cell? ⟨w.heap.size + 1, 4, none⟩ = some (.slice none 0 0) := cell_of bE rfl; have f0 : we.frozen? ⟨w.heap.size + 1, 0, none⟩ = false := fz_of bE; have f1 : we.frozen? ⟨w.heap.size + 1, 1, none⟩ = false := fz_of bE; have f2 : we.frozen? ⟨w.heap.size + 1, 2, none⟩ = false := fz_of bE; have f3 : we.frozen? ⟨w.heap.size + 1, 3, none⟩ = false := fz_of bE; have f4 : we.frozen? ⟨w.heap.size + 1, 4, none⟩ = false := fz_of bE; have HZ := hide (set5 we (w.heap.size + 1) _ _ _ _ _ (.string ti) (.slice ao' (opsF Y).length co') (.slice as' S.length cs') (.slice (some ⟨wc.heap.size, 0, none⟩) (tN (riseL Fi)).length (tN (riseL Fi)).length) (.slice ar' (rulF S Y St Ed).length cr') 32 bE); have S5 := SQ.out _ ((HZ.out.2.block w.heap.size (by have := HB.out.2.2; have := De.size; omega) (by omega)).trans (De.block _ (by have := HB.out.2.2; omega))); have HE := hide (And.intro hr5 (And.intro de De)); clear hr5 de De bE)))
  clear S0 Sa Sb Sc Sd Se S5
  go_wp2
  refine bodyPost_ret (results_c1 (p := 8) (q := 9) (ty := 32) rfl _ _ (w.heap.size + 1) 32 _ (0, 0) _ _ rfl rfl HZ.out.1 Tryz.underlying32 rfl (by kernel_rfl)) rfl ?_
  refine ⟨_, _, _, _, rfl, from_end (V := okFr ti St Fi Ed S Y) HB.out.2.2 DW.out HO.out.1 HO.out.2 HS.out.1 HS.out.2.1 HN.out.2.1 ?_ HFI.out.2.1 HE.out.1 HE.out.2.1 HZ.out.2⟩
  have e : (namesAt (tN (riseL Fi)) S).length = (tN (riseL Fi)).length := by simp [namesAt]
  show World.ownsRow _ _ _ _ _ (namesAt (tN (riseL Fi)) S).length _
  rw [e]
  exact HFI.out.1
theorem inF_of {n m : Int} {St Fi : List Int} {Ed : List EdT} {S Y : List ByteArray} (hm : mayF n m St Fi Ed = true) (hn : (S.length : Int) = n) (hn2 : (Y.length : Int) = m) : InF St Fi Ed S Y := by
  unfold mayF at hm
  simp only [Bool.and_eq_true] at hm
  refine ⟨fun q hq => ?_, fun q hq => ?_, fun e he => ?_⟩
  · have k := isB_iff.1 (List.all_eq_true.1 hm.1.2 q ((riseL_iff _ _).1 hq))
    rw [hn]; exact k
  · have k := isB_iff.1 (List.all_eq_true.1 hm.2 q ((riseL_iff _ _).1 hq))
    rw [hn]; exact k
  · have k := List.all_eq_true.1 hm.1.1.2 e ((dE_iff _ _).1 he)
    unfold edOk at k
    simp only [Bool.and_eq_true, isB_iff] at k
    rw [hn, hn2]; exact ⟨k.1.1, k.1.2, k.2⟩
/-- The program's From, of whatever it is handed. -/
theorem from_any (w : World) (ti : ByteArray) (n m : Int) (St Fi : List Int) (Ed : List EdT) (b1 b2 : Nat) (a3 asx ay : Option Addr) (c1 c2 c3 cs cy : Nat) (S Y : List ByteArray) (hT : Hid (BytesAt w ∧ 1 < w.heap.size)) (hA : Hid (RdN w (some ⟨b1, 0, none⟩) St ∧ RdN w (some ⟨b2, 0, none⟩) Fi ∧ RdE w a3 Ed ∧ ReadsS w asx S ∧ ReadsS w ay Y)) (hok : Hid (Sml S ∧ Sml Y)) (h1 : St.length ≤ 4194304) (h2 : Fi.length ≤ 4194304) (h3 : Ed.length ≤ 4194304) (hs : S.length ≤ 2097152) (hy : Y.length ≤ 2097152) :
    Calls Tryz.prog 7 #[.agg #[.int .i64 n, .int .i64 m, .slice (some ⟨b1, 0, none⟩) St.length c1, .slice (some ⟨b2, 0, none⟩) Fi.length c2, .slice a3 Ed.length c3], .slice asx S.length cs, .slice ay Y.length cy, .string ti] w fun e w' => FrA w w' (frV ti n m St Fi Ed S Y) e := by
  unfold frV
  by_cases hm : mayF n m St Fi Ed = false
  · rw [if_pos hm]
    exact from_auto w ti n m St Fi Ed b1 b2 a3 asx ay c1 c2 c3 cs cy S Y hT hA hok h1 h2 h3 hs hy hm
  · rw [if_neg hm]
    have hm' : mayF n m St Fi Ed = true := by simpa using hm
    by_cases hn : (S.length : Int) = n
    · by_cases hn2 : (Y.length : Int) = m
      · rw [if_neg (fun h => h ⟨hn, hn2⟩)]
        by_cases hv : vld ti = true
        · by_cases hb : S.all vld = true ∧ Y.all vld = true
          · rw [if_neg (fun h => h ⟨hv, hb.1, hb.2⟩)]
            by_cases hd : S.Nodup ∧ Y.Nodup
            · rw [if_neg (fun h => h hd)]
              exact from_ok w ti n m St Fi Ed b1 b2 a3 asx ay c1 c2 c3 cs cy S Y hT hA hok h1 h2 h3 hs hy hm' hn hn2 hv hb.1 hb.2 hd.1 hd.2 (hide (inF_of hm' hn hn2))
            · rw [if_pos hd]
              exact from_twice w ti n m St Fi Ed b1 b2 a3 asx ay c1 c2 c3 cs cy S Y hT hA hok h1 h2 h3 hs hy hm' hn hn2 hv hb.1 hb.2 hd
          · rw [if_pos (fun h => hb h.2)]
            exact from_name w ti n m St Fi Ed b1 b2 a3 asx ay c1 c2 c3 cs cy S Y hT hA hok h1 h2 h3 hs hy hm' hn hn2 hv hb
        · rw [if_pos (fun h => hv h.1)]
          exact from_title w ti n m St Fi Ed b1 b2 a3 asx ay c1 c2 c3 cs cy S Y hT hA hok h1 h2 h3 hs hy hm' hn hn2 (by simpa using hv)
      · rw [if_pos (fun h => hn2 h.2)]
        exact from_len2 w ti n m St Fi Ed b1 b2 a3 asx ay c1 c2 c3 cs cy S Y hT hA hok h1 h2 h3 hs hy hm' hn hn2
    · rw [if_pos (fun h => hn h.1)]
      exact from_len1 w ti n m St Fi Ed b1 b2 a3 asx ay c1 c2 c3 cs cy S Y hT hA hok h1 h2 h3 hs hy hm' hn
end Go.Proofs.YtmagchclmmphaabGreatDoor
namespace Go.Proofs.YtmagchclmmphaabGreatDoor
open Go.RowKit Go.Maps
attribute [local go_sem] Oper.semAt_some

/-! ### The box of a content while it is made -/
theorem own_ne {W : World} {B e sz n g : Nat} {v : Value} {xs : List Value} {c : Array Value} {t : TypeId} {fr : Nat × Nat} (h : W.ownsRow B e sz v n xs) (hb : W.heap[g]? = some (.cells c t fr)) (hne : e ≠ t) : v.ownBlock ≠ some g := by
  intro q
  rcases h.2 with ⟨rfl, _⟩ | ⟨g', cap, cur, rfl, _, hg, _⟩
  · cases q
  · cases q
    rw [hg] at hb
    cases hb
    exact hne rfl
theorem rowB_set {W : World} {B e sz n g : Nat} {v : Value} {xs : List Value} {c : Array Value} {t : TypeId} {fr : Nat × Nat} (h : W.ownsRow B e sz v n xs) (hb : W.heap[g]? = some (.cells c t fr)) (hne : e ≠ t) (i : Nat) (u : Value) : (W.setCell ⟨g, i, none⟩ u).ownsRow B e sz v n xs :=
  row_only h (only_set W g i u) fun k q z => own_ne h hb hne (by rw [q, z])
structure FB (w : World) (g : Nat) (ti : ByteArray) (bx : Array Value) (W : World) (v1 v2 v3 v4 : Value) (O : List OpT) (S F : List ByteArray) (R : List RuT) : Prop where
  blk : W.heap[g]? = some (.cells #[.string ti, v1, v2, v3, v4] 32 (0, 0))
  ba : W.heap[w.heap.size]? = some (.cells bx 25 (0, 0))
  bo : W.heap[w.heap.size + 1]? = some (.cells #[.string ⟨#[]⟩, .slice none 0 0, .slice none 0 0, .slice none 0 0, .slice none 0 0] 32 (0, 0))
  hg : w.heap.size + 2 ≤ g
  o : W.ownsRow (w.heap.size + 2) 66 2 v1 O.length (O.flatMap kOps.cs)
  s : W.ownsRow (w.heap.size + 2) 9 1 v2 S.length (strV S)
  f : W.ownsRow (w.heap.size + 2) 9 1 v3 F.length (strV F)
  r : W.ownsRow (w.heap.size + 2) 68 3 v4 R.length (R.flatMap kRules.cs)
  ne : ∀ b, v2.ownBlock = some b → v3.ownBlock ≠ some b
  dw : Below w.heap.size w W
section
variable {w W : World} {g : Nat} {ti : ByteArray} {bx : Array Value} {v1 v2 v3 v4 : Value} {O : List OpT} {S F : List ByteArray} {R : List RuT}
theorem FB.drewN (h : FB w g ti bx W v1 v2 v3 v4 O S F R) (d : Nat) : FB w g ti bx (W.drewN d) v1 v2 v3 v4 O S F R := ⟨h.blk, h.ba, h.bo, h.hg, h.o, h.s, h.f, h.r, h.ne, below_drewN2 h.dw d⟩
theorem FB.lt (h : FB w g ti bx W v1 v2 v3 v4 O S F R) : g < W.heap.size := (Array.getElem?_eq_some_iff.1 h.blk).1
theorem FB.below (h : FB w g ti bx W v1 v2 v3 v4 O S F R) {W' : World} (d : Below W.heap.size W W') : FB w g ti bx W' v1 v2 v3 v4 O S F R :=
  ⟨(d.block _ h.lt).trans h.blk, (d.block _ (Array.getElem?_eq_some_iff.1 h.ba).1).trans h.ba, (d.block _ (Array.getElem?_eq_some_iff.1 h.bo).1).trans h.bo, h.hg, owns_below h.o d, owns_below h.s d, owns_below h.f d, owns_below h.r d, h.ne, h.dw.trans (d.mono h.dw.size)⟩
/-- What a step leaves that writes but a row. -/
theorem FB.keep (h : FB w g ti bx W v1 v2 v3 v4 O S F R) {W' : World} {P : Nat → Prop} (ho : Only W W' P) (hP : ∀ k, P k → w.heap.size + 2 ≤ k ∧ k ≠ g) :
    W'.heap[g]? = some (.cells #[.string ti, v1, v2, v3, v4] 32 (0, 0)) ∧ W'.heap[w.heap.size]? = some (.cells bx 25 (0, 0)) ∧ W'.heap[w.heap.size + 1]? = some (.cells #[.string ⟨#[]⟩, .slice none 0 0, .slice none 0 0, .slice none 0 0, .slice none 0 0] 32 (0, 0)) ∧ Below w.heap.size w W' :=
  ⟨(ho.block _ h.lt fun z => (hP g z).2 rfl).trans h.blk, (ho.block _ (Array.getElem?_eq_some_iff.1 h.ba).1 fun z => by have := (hP _ z).1; omega).trans h.ba, (ho.block _ (Array.getElem?_eq_some_iff.1 h.bo).1 fun z => by have := (hP _ z).1; omega).trans h.bo, h.dw.trans (ho.toBelow h.dw.size fun k z => by have := (hP k z).1; omega)⟩
/-- The box's cells set anew. -/
theorem far_set {X : World} {i g b : Nat} {u : Value} {c : Array Value} {t : TypeId} (h : X.heap[b]? = some (.cells c t (0, 0))) (hb : b ≠ g) : (X.setCell ⟨g, i, none⟩ u).heap[b]? = some (.cells c t (0, 0)) :=
  ((only_set X g i u).block b (Array.getElem?_eq_some_iff.1 h).1 hb).trans h
theorem tag_ne {W : World} {B C e d sz tz n m k : Nat} {u v : Value} {xs ys : List Value} (h : W.ownsRow B e sz u n xs) (h' : W.ownsRow C d tz v m ys) (hed : e ≠ d) (q : u.ownBlock = some k) (z : v.ownBlock = some k) : False := by
  rcases h'.2 with ⟨rfl, _⟩ | ⟨g', cap, cur, rfl, _, hg, _⟩
  · cases z
  · cases z
    exact own_ne h hg hed q
theorem FB.set1 (h : FB w g ti bx W v1 v2 v3 v4 O S F R) {w3 : World} {v1' : Value} {O' : List OpT} (hG : Grw W w3 v1 v1') (ho : w3.ownsRow (w.heap.size + 2) 66 2 v1' O'.length (O'.flatMap kOps.cs)) :
    w3.heap[g]? = some (.cells #[.string ti, v1, v2, v3, v4] 32 (0, 0)) ∧ FB w g ti bx (w3.setCell ⟨g, 1, none⟩ v1') v1' v2 v3 v4 O' S F R := by
  obtain ⟨b0, b1, b2, dd⟩ := h.keep hG.1 fun k z => ⟨(h.o.lt k z).1, fun e => own_ne h.o h.blk (by omega) (by rw [z, e])⟩
  have hg := h.hg
  exact ⟨b0, heap_setCell_same _ _ 1 _ 32 _ b0, far_set b1 (by omega), far_set b2 (by omega), h.hg, rowB_set ho b0 (by omega) _ _, rowB_set (row_only h.s hG.1 fun k q z => tag_ne h.s h.o (by omega) q z) b0 (by omega) _ _, rowB_set (row_only h.f hG.1 fun k q z => tag_ne h.f h.o (by omega) q z) b0 (by omega) _ _, rowB_set (row_only h.r hG.1 fun k q z => tag_ne h.r h.o (by omega) q z) b0 (by omega) _ _, h.ne, dd.trans ((only_set w3 g 1 v1').toBelow dd.size fun k z => by omega)⟩
theorem FB.set3 (h : FB w g ti bx W v1 v2 v3 v4 O S F R) {w3 : World} {v3' : Value} {F' : List ByteArray} (hG : Grw W w3 v3 v3') (ho : w3.ownsRow (w.heap.size + 2) 9 1 v3' F'.length (strV F')) :
    w3.heap[g]? = some (.cells #[.string ti, v1, v2, v3, v4] 32 (0, 0)) ∧ FB w g ti bx (w3.setCell ⟨g, 3, none⟩ v3') v1 v2 v3' v4 O S F' R := by
  obtain ⟨b0, b1, b2, dd⟩ := h.keep hG.1 fun k z => ⟨(h.f.lt k z).1, fun e => own_ne h.f h.blk (by omega) (by rw [z, e])⟩
  have hg := h.hg
  exact ⟨b0, heap_setCell_same _ _ 3 _ 32 _ b0, far_set b1 (by omega), far_set b2 (by omega), h.hg, rowB_set (row_only h.o hG.1 fun k q z => tag_ne h.o h.f (by omega) q z) b0 (by omega) _ _, rowB_set (row_only h.s hG.1 fun k q z => h.ne k q z) b0 (by omega) _ _, rowB_set ho b0 (by omega) _ _, rowB_set (row_only h.r hG.1 fun k q z => tag_ne h.r h.f (by omega) q z) b0 (by omega) _ _, fun b q z => by
    rcases hG.2 b z with z | z
    · exact h.ne b q z
    · have := (h.s.lt b q).2; omega, dd.trans ((only_set w3 g 3 v3').toBelow dd.size fun k z => by omega)⟩
theorem FB.set4 (h : FB w g ti bx W v1 v2 v3 v4 O S F R) {w3 : World} {v4' : Value} {R' : List RuT} (hG : Grw W w3 v4 v4') (ho : w3.ownsRow (w.heap.size + 2) 68 3 v4' R'.length (R'.flatMap kRules.cs)) :
    w3.heap[g]? = some (.cells #[.string ti, v1, v2, v3, v4] 32 (0, 0)) ∧ FB w g ti bx (w3.setCell ⟨g, 4, none⟩ v4') v1 v2 v3 v4' O S F R' := by
  obtain ⟨b0, b1, b2, dd⟩ := h.keep hG.1 fun k z => ⟨(h.r.lt k z).1, fun e => own_ne h.r h.blk (by omega) (by rw [z, e])⟩
  have hg := h.hg
  exact ⟨b0, heap_setCell_same _ _ 4 _ 32 _ b0, far_set b1 (by omega), far_set b2 (by omega), h.hg, rowB_set (row_only h.o hG.1 fun k q z => tag_ne h.o h.r (by omega) q z) b0 (by omega) _ _, rowB_set (row_only h.s hG.1 fun k q z => tag_ne h.s h.r (by omega) q z) b0 (by omega) _ _, rowB_set (row_only h.f hG.1 fun k q z => tag_ne h.f h.r (by omega) q z) b0 (by omega) _ _, rowB_set ho b0 (by omega) _ _, h.ne, dd.trans ((only_set w3 g 4 v4').toBelow dd.size fun k z => by omega)⟩
theorem FB.set2 (h : FB w g ti bx W v1 (.slice none 0 0) (.slice none 0 0) v4 O [] [] R) {w3 : World} {v2' : Value} {S' : List ByteArray} (ho : w3.ownsRow W.heap.size 9 1 v2' S'.length (strV S')) (d : Below W.heap.size W w3) :
    w3.heap[g]? = some (.cells #[.string ti, v1, .slice none 0 0, .slice none 0 0, v4] 32 (0, 0)) ∧ FB w g ti bx (w3.setCell ⟨g, 2, none⟩ v2') v1 v2' (.slice none 0 0) v4 O S' [] R := by
  have h3 := h.below d
  have hg := h.hg
  have hl := h.lt
  refine ⟨h3.blk, heap_setCell_same _ _ 2 _ 32 _ h3.blk, far_set h3.ba (by omega), far_set h3.bo (by omega), h.hg, rowB_set h3.o h3.blk (by omega) _ _, rowB_set (own_wide ho (by omega)) h3.blk (by omega) _ _, rowB_set h3.f h3.blk (by omega) _ _, rowB_set h3.r h3.blk (by omega) _ _, fun b _ z => (by cases z), h3.dw.trans ((only_set w3 g 2 v2').toBelow h3.dw.size fun k z => by omega)⟩
theorem FB.done (h : FB w g ti bx W v1 v2 v3 v4 O S F R) {W' : World} (ho : Only W W' (fun k => k = w.heap.size + 1)) : FrO w W' ⟨ti, O, S, F, R, 0⟩ v1 v2 v3 v4 := by
  have k : ∀ {e sz n : Nat} {v : Value} {xs : List Value}, W.ownsRow (w.heap.size + 2) e sz v n xs → W'.ownsRow w.heap.size e sz v n xs := fun h => own_wide (row_only h ho fun k q z => by have := (h.lt k q).1; omega) (by omega)
  exact ⟨k h.o, k h.s, k h.f, k h.r, h.ne, h.dw.trans (ho.toBelow h.dw.size fun k z => by omega)⟩
end
/-- One more text. -/
theorem app_S {W : World} {B : Nat} {v : Value} {O : List ByteArray} (h : W.ownsRow B 9 1 v O.length (strV O)) (hB : B ≤ W.heap.size) (x : ByteArray) {ops : Array Oper} {rest : List Oper} {o : Oper} {a : Act} {Q : Exit → Act → World → Prop} (hgd : o.guard = none) (s y : Operand)
    (ho : o.op = .call { callee := .builtin .append, args := #[s, y], argTypes := #[26, 26] }) (hs : a.eval s = v) (hy : a.eval y = .slice (some ⟨W.heap.size, 0, none⟩) 1 1) (hl : O.length ≤ 8388608)
    (hK : ∀ a5 c5 w3, w3.ownsRow B 9 1 (.slice a5 (O.length + 1) c5) (O ++ [x]).length (strV (O ++ [x])) → Grw W w3 v (.slice a5 (O.length + 1) c5) → wpList Tryz.prog ops Q rest (a.put o.dst (.slice a5 (O.length + 1) c5)) w3) :
    wpList Tryz.prog ops Q (o :: rest) a (W.alloc (.cells #[.string x] 9)) := by
  obtain ⟨i9, hi9, hz90, hz91, hz92⟩ := info_parts info9
  refine wpList_append_own_at _ hgd s y _ ho B 9 i9 _ 1 16 Tryz.underlying26 hi9 hz90 hz91 hz92 rfl (by omega) v O.length (strV O) hs (owns_below h ((Below.refl _ W).alloc (Nat.le_refl _) _)) ⟨W.heap.size, 0, none⟩ 1 1 [.string x] hy rfl (cell_one_new W (.string x) 9) (fun u hu => by rw [List.mem_singleton.1 hu]; rfl) (by unfold maxLen; omega) (by omega) (by simp; omega) ?_
  intro v' w3 how hgr hnil hloc
  have hG := grw_append hgr hloc
  obtain ⟨a5, c5, rfl⟩ := rowForm how
  exact hK a5 c5 w3 (by simpa [strV] using how) hG
end Go.Proofs.YtmagchclmmphaabGreatDoor
