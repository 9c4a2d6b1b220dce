import Derived.Test.YtmagchclmmphaabGreatDoorRJ
import Derived.Test.YtmagchclmmphaabGreatDoorEK
import Derived.Test.YtmagchclmmphaabGreatDoorVP
namespace Go.Proofs.YtmagchclmmphaabGreatDoor
open Go.RowKit Go.Maps
attribute [local go_sem] Oper.semAt_some

/-! ### What both answer of a content -/
structure AuV where
  n : Nat
  m : Nat
  St : List Int
  Fi : List Int
  Ed : List EdT
  Sx : List ByteArray
  Yx : List ByteArray
  er : Nat
open Classical in
noncomputable def auV (ti : ByteArray) (O : List OpI) (S F : List ByteArray) (R : List RuT) : AuV :=
  if valF ti O S F R = false then ⟨0, 0, [], [], [], [], [], 5⟩ else if bigF O S R then ⟨0, 0, [], [], [], [], [], 8⟩ else ⟨S.length, (symF O).length, riseL (stF S R), fiF S F, sortE (edF S (symF O) R), S, symF O, 0⟩
structure AnR (w' : World) (V : AuV) (a1 a2 a3 a4 a5 : Option Addr) : Prop where
  r1 : RdN w' a1 V.St
  r2 : RdN w' a2 V.Fi
  r3 : RdE w' a3 V.Ed
  r4 : ReadsS w' a4 V.Sx
  r5 : ReadsS w' a5 V.Yx
theorem AnR.on {W W' : World} {V : AuV} {a1 a2 a3 a4 a5 : Option Addr} (h : AnR W V a1 a2 a3 a4 a5) (d : Below W.heap.size W W') : AnR W' V a1 a2 a3 a4 a5 := ⟨h.r1.on d, h.r2.on d, h.r3.on d, h.r4.below d, h.r5.below d⟩
def AnA (w w' : World) (V : AuV) (e : Ending) : Prop := ∃ a1 a2 a3 a4 a5 a1c a2c a3c a4c a5c, e = .returned (.tuple #[.agg #[.int .i64 (V.n : Nat), .int .i64 (V.m : Nat), .slice a1 V.St.length a1c, .slice a2 V.Fi.length a2c, .slice a3 V.Ed.length a3c], .slice a4 V.Sx.length a4c, .slice a5 V.Yx.length a5c, .int .i64 (V.er : Nat)]) ∧ AnR w' V a1 a2 a3 a4 a5 ∧ Below w.heap.size w w'
theorem AnR.nil (w : World) (x : Nat) : AnR w ⟨0, 0, [], [], [], [], [], x⟩ none none none none none := ⟨fun j h => absurd h (Nat.not_lt_zero j), fun j h => absurd h (Nat.not_lt_zero j), fun j h => absurd h (Nat.not_lt_zero j), fun j h => absurd h (Nat.not_lt_zero j), fun j h => absurd h (Nat.not_lt_zero j)⟩
theorem AnA.nil {w w' : World} (x : Nat) (d : Below w.heap.size w w') : AnA w w' ⟨0, 0, [], [], [], [], [], x⟩ (.returned (.tuple #[.agg #[.int .i64 0, .int .i64 0, .slice none 0 0, .slice none 0 0, .slice none 0 0], .slice none 0 0, .slice none 0 0, .int .i64 (x : Nat)])) :=
  ⟨none, none, none, none, none, 0, 0, 0, 0, 0, rfl, AnR.nil _ x, d⟩
theorem AnA.of {w w' : World} {v1 v2 v3 vs vy : Value} {St Fi : List Int} {Ed : List EdT} {S Y : List ByteArray} {n m : Nat} (h : AtR w w' v1 v2 v3 St Fi Ed) (hs : w'.ownsRow w.heap.size 9 1 vs S.length (strV S)) (hy : w'.ownsRow w.heap.size 9 1 vy Y.length (strV Y)) :
    AnA w w' ⟨n, m, St, Fi, Ed, S, Y, 0⟩ (.returned (.tuple #[.agg #[.int .i64 (n : Nat), .int .i64 (m : Nat), v1, v2, v3], vs, vy, .int .i64 0])) := by
  obtain ⟨a1, c1, rfl, h1⟩ := rdN_of h.o1
  obtain ⟨a2, c2, rfl, h2⟩ := rdN_of h.o2
  obtain ⟨a3, c3, rfl, h3⟩ := rdE_of h.o3
  obtain ⟨a4, c4, rfl, h4⟩ := rdS_of hs
  obtain ⟨a5, c5, rfl, h5⟩ := rdS_of hy
  exact ⟨a1, a2, a3, a4, a5, c1, c2, c3, c4, c5, rfl, ⟨h1, h2, h3, h4, h5⟩, h.dw⟩
theorem autoP_any (w : World) (ti : ByteArray) (ao asx af ar : Option Addr) (co cs cf cr : Nat) (O : List OpI) (S F : List ByteArray) (R : List RuT) (hT : Hid (BytesAt w ∧ 1 < w.heap.size)) (hO : Hid (RdO w ao O)) (hS : Hid (ReadsS w asx S)) (hF : Hid (ReadsS w af F)) (hR : Hid (RdRu w ar R))
    (hok : Hid ((∀ x ∈ F, kText.ok x) ∧ ∀ x ∈ R, kRules.ok x)) (hlo : O.length ≤ 4194304) (hls : S.length ≤ 4194304) (hlf : F.length ≤ 4194304) (hlr : R.length ≤ 4194304) :
    Calls Tryz.prog 14 #[.agg #[.string ti, .slice ao O.length co, .slice asx S.length cs, .slice af F.length cf, .slice ar R.length cr]] w fun e w' => AnA w w' (auV ti O S F R) e := by
  unfold auV
  by_cases hv : valF ti O S F R = false
  · rw [if_pos hv]
    refine (auto_bad w ti ao asx af ar co cs cf cr O S F R hT hO hS hF hR hok hlo hls hlf hlr hv).mono ?_
    rintro e w' ⟨rfl, d⟩
    exact AnA.nil 5 d
  · rw [if_neg hv]
    have hv' : valF ti O S F R = true := by simpa using hv
    by_cases hb : bigF O S R
    · rw [if_pos hb]
      refine (auto_big w ti ao asx af ar co cs cf cr O S F R hT hO hS hF hR hok hlo hls hlf hlr hv' hb).mono ?_
      rintro e w' ⟨rfl, d⟩
      exact AnA.nil 8 d
    · rw [if_neg hb]
      refine (auto_ok w ti ao asx af ar co cs cf cr O S F R hT hO hS hF hR hok hlo hls hlf hlr hv' hb).mono ?_
      rintro e w' ⟨v1, v2, v3, vs, vy, rfl, h1, h2, h3⟩
      exact AnA.of h1 h2 h3
theorem autoR_any (w : World) (ti : ByteArray) (ao asx af ar : Option Addr) (co cs cf cr : Nat) (O : List OpI) (S F : List ByteArray) (R : List RuT) (hO : Hid (RdO w ao O)) (hS : Hid (ReadsS w asx S)) (hF : Hid (ReadsS w af F)) (hR : Hid (RdRu w ar R))
    (hlo : O.length ≤ 4194304) (hls : S.length ≤ 4194304) (hlf : F.length ≤ 4194304) (hlr : R.length ≤ 4194304) (hco : Hid (O.length ≤ co)) (hcs : Hid (S.length ≤ cs)) :
    Calls Tryz.prog 27 #[.agg #[.string ti, .slice ao O.length co, .slice asx S.length cs, .slice af F.length cf, .slice ar R.length cr]] w fun e w' => AnA w w' (auV ti O S F R) e := by
  unfold auV
  by_cases hv : valF ti O S F R = false
  · rw [if_pos hv]
    refine (rauto_bad w ti ao asx af ar co cs cf cr O S F R hO hS hF hR hlo hls hlf hlr hco hcs hv).mono ?_
    rintro e w' ⟨rfl, d⟩
    exact AnA.nil 5 d
  · rw [if_neg hv]
    have hv' : valF ti O S F R = true := by simpa using hv
    refine (rauto_any w ti ao asx af ar co cs cf cr O S F R hO hS hF hR hlo hls hlf hlr hco hcs hv').mono ?_
    intro e w' h
    by_cases hb : bigF O S R
    · rw [if_pos hb]
      obtain ⟨rfl, d⟩ := h.1 hb
      exact AnA.nil 8 d
    · rw [if_neg hb]
      obtain ⟨v1, v2, v3, vs, vy, rfl, h1, h2, h3⟩ := h.2 hb
      exact AnA.of h1 h2 h3
theorem riseL_le (zs : List Int) : (riseL zs).length ≤ zs.length := by
  unfold riseL Lib.compact Lib.compactUpTo
  rw [List.length_map]
  refine Nat.le_trans (List.length_filter_le _ _) ?_
  rw [List.length_range, List.length_mergeSort]
  exact Nat.le_refl _
theorem auV_len (ti : ByteArray) (O : List OpI) (S F : List ByteArray) (R : List RuT) (hlo : O.length ≤ 4194304) (hls : S.length ≤ 4194304) (hlf : F.length ≤ 4194304) (hlr : R.length ≤ 4194304) : (auV ti O S F R).St.length ≤ 4194304 ∧ (auV ti O S F R).Fi.length ≤ 4194304 ∧ (auV ti O S F R).Ed.length ≤ 4194304 ∧ (auV ti O S F R).Sx.length ≤ 4194304 ∧ (auV ti O S F R).Yx.length ≤ 4194304 := by
  unfold auV
  split
  · simp
  · split
    · simp
    · refine ⟨Nat.le_trans (riseL_le _) (Nat.le_trans (st_len S R) hlr), by rw [fi_len]; exact hlf, by rw [sortE_len]; exact Nat.le_trans (ed_len _ _ _) hlr, hls, ?_⟩
      show (symF O).length ≤ _
      unfold symF
      rw [List.length_map]
      exact Nat.le_trans (List.length_filter_le _ _) hlo
set_option maxRecDepth 100000 in
set_option maxHeartbeats 8000000 in
/-- Both say the same of two contents that are the same. -/
theorem autos_eq (w : World) (ti : ByteArray) (ao asx af ar bo bs bf br : Option Addr) (co cs cf cr eo es ef er : Nat) (O : List OpI) (S F : List ByteArray) (R : List RuT) (hT : Hid (BytesAt w ∧ 1 < w.heap.size)) (hO : Hid (RdO w ao O ∧ RdO w bo O)) (hS : Hid (ReadsS w asx S ∧ ReadsS w bs S)) (hF : Hid (ReadsS w af F ∧ ReadsS w bf F)) (hR : Hid (RdRu w ar R ∧ RdRu w br R))
    (hok : Hid ((∀ x ∈ F, kText.ok x) ∧ ∀ x ∈ R, kRules.ok x)) (hlo : O.length ≤ 4194304) (hls : S.length ≤ 4194304) (hlf : F.length ≤ 4194304) (hlr : R.length ≤ 4194304) (hco : Hid (O.length ≤ eo)) (hcs : Hid (S.length ≤ es)) :
    Calls Tryz.prog 19 #[.agg #[.string ti, .slice ao O.length co, .slice asx S.length cs, .slice af F.length cf, .slice ar R.length cr], .agg #[.string ti, .slice bo O.length eo, .slice bs S.length es, .slice bf F.length ef, .slice br R.length er]] w fun e w' => e = .returned (.bool true) ∧ Below w.heap.size w w' := by
  obtain ⟨V, hV⟩ : ∃ V, auV ti O S F R = V := ⟨_, rfl⟩
  have HL := hide (auV_len ti O S F R hlo hls hlf hlr)
  rw [hV] at HL
  obtain ⟨W0, hW0⟩ : ∃ W0, (w.alloc (.cells #[.string ti, .slice ao O.length co, .slice asx S.length cs, .slice af F.length cf, .slice ar R.length cr] 32)).alloc (.cells #[.string ti, .slice bo O.length eo, .slice bs S.length es, .slice bf F.length ef, .slice br R.length er] 32) = W0 := ⟨_, rfl⟩
  have d0 : Below w.heap.size w W0 := by rw [← hW0]; exact ((Below.refl _ _).alloc (Nat.le_refl _) _).alloc (by simp) _
  have B0 : W0.heap[w.heap.size]? = some (.cells #[.string ti, .slice ao O.length co, .slice asx S.length cs, .slice af F.length cf, .slice ar R.length cr] 32 (0, 0)) := by
    rw [← hW0]; exact (Below.heap_alloc _ _ _ (by simp)).trans (World.alloc_heap_new _ _)
  have B1 : W0.heap[w.heap.size + 1]? = some (.cells #[.string ti, .slice bo O.length eo, .slice bs S.length es, .slice bf F.length ef, .slice br R.length er] 32 (0, 0)) := by
    rw [← hW0]; exact heap_alloc2_new w _ _
  have z0 : w.heap.size + 2 = W0.heap.size := by rw [← hW0]; simp
  have T14 := autoP_any W0 ti ao asx af ar co cs cf cr O S F R (hide ⟨hT.out.1.below d0 hT.out.2, Nat.lt_of_lt_of_le hT.out.2 d0.size⟩) (hide (hO.out.1.on d0)) (hide (hS.out.1.below d0)) (hide (hF.out.1.below d0)) (hide (hR.out.1.on d0)) hok hlo hls hlf hlr
  rw [hV] at T14
  have HD := hide (And.intro d0 (And.intro B1 z0))
  have x0 : W0.cell? ⟨w.heap.size, 0, none⟩ = some (.string ti) := cell_of B0 rfl
  have x1 : W0.cell? ⟨w.heap.size, 1, none⟩ = some (.slice ao O.length co) := cell_of B0 rfl
  have x2 : W0.cell? ⟨w.heap.size, 2, none⟩ = some (.slice asx S.length cs) := cell_of B0 rfl
  have x3 : W0.cell? ⟨w.heap.size, 3, none⟩ = some (.slice af F.length cf) := cell_of B0 rfl
  have x4 : W0.cell? ⟨w.heap.size, 4, none⟩ = some (.slice ar R.length cr) := cell_of B0 rfl
  clear d0 B0 B1 z0
  go_enter Tryz.func19, Tryz.ntmps19
  go_upto_region 2 with (go_at_call 14; refine T14.mono ?_; intro e w1 hA; obtain ⟨a1, a2, a3, a4, a5, a1c, a2c, a3c, a4c, a5c, rfl, hA, d1⟩ := hA)
  obtain ⟨X1, hX1⟩ : ∃ X1, w1.alloc (.cells #[.int .i64 (V.n : Nat), .int .i64 (V.m : Nat), .slice a1 V.St.length a1c, .slice a2 V.Fi.length a2c, .slice a3 V.Ed.length a3c] 25) = X1 := ⟨_, rfl⟩
  rw [hX1]
  have dX1 : Below w1.heap.size w1 X1 := by rw [← hX1]; exact (Below.refl _ _).alloc (Nat.le_refl _) _
  have BX1 : X1.heap[w1.heap.size]? = some (.cells #[.int .i64 (V.n : Nat), .int .i64 (V.m : Nat), .slice a1 V.St.length a1c, .slice a2 V.Fi.length a2c, .slice a3 V.Ed.length a3c] 25 (0, 0)) := by rw [← hX1]; exact World.alloc_heap_new _ _
  have D1 : Below W0.heap.size W0 X1 := d1.trans (dX1.mono d1.size)
  have HA := hide (hA.on dX1)
  have B2 : X1.heap[w.heap.size + 1]? = some (.cells #[.string ti, .slice bo O.length eo, .slice bs S.length es, .slice bf F.length ef, .slice br R.length er] 32 (0, 0)) := (D1.block _ (by have := HD.out.2.2; omega)).trans HD.out.2.1
  have DW := hide (HD.out.1.trans (D1.mono HD.out.1.size))
  obtain ⟨h1, hh1⟩ : ∃ h, w1.heap.size = h := ⟨_, rfl⟩
  rw [hh1] at BX1
  rw [hh1]
  have HBX := hide BX1
  have T27 := autoR_any X1 ti bo bs bf br eo es ef er O S F R (hide (hO.out.2.on DW.out)) (hide (hS.out.2.below DW.out)) (hide (hF.out.2.below DW.out)) (hide (hR.out.2.on DW.out)) hlo hls hlf hlr hco hcs
  rw [hV] at T27
  have y0 : X1.cell? ⟨w.heap.size + 1, 0, none⟩ = some (.string ti) := cell_of B2 rfl
  have y1 : X1.cell? ⟨w.heap.size + 1, 1, none⟩ = some (.slice bo O.length eo) := cell_of B2 rfl
  have y2 : X1.cell? ⟨w.heap.size + 1, 2, none⟩ = some (.slice bs S.length es) := cell_of B2 rfl
  have y3 : X1.cell? ⟨w.heap.size + 1, 3, none⟩ = some (.slice bf F.length ef) := cell_of B2 rfl
  have y4 : X1.cell? ⟨w.heap.size + 1, 4, none⟩ = some (.slice br R.length er) := cell_of B2 rfl
  clear hW0 x0 x1 x2 x3 x4 hA d1 dX1 D1 BX1 B2 hX1 hh1 T14 hV HD
  go_upto_region 3 with (go_at_call 27; refine T27.mono ?_; intro e w2 hB; obtain ⟨b1, b2, b3, b4, b5, b1c, b2c, b3c, b4c, b5c, rfl, hB, d2⟩ := hB)
  obtain ⟨X2, hX2⟩ : ∃ X2, w2.alloc (.cells #[.int .i64 (V.n : Nat), .int .i64 (V.m : Nat), .slice b1 V.St.length b1c, .slice b2 V.Fi.length b2c, .slice b3 V.Ed.length b3c] 25) = X2 := ⟨_, rfl⟩
  rw [hX2]
  have dX2 : Below w2.heap.size w2 X2 := by rw [← hX2]; exact (Below.refl _ _).alloc (Nat.le_refl _) _
  have BX2 : X2.heap[w2.heap.size]? = some (.cells #[.int .i64 (V.n : Nat), .int .i64 (V.m : Nat), .slice b1 V.St.length b1c, .slice b2 V.Fi.length b2c, .slice b3 V.Ed.length b3c] 25 (0, 0)) := by rw [← hX2]; exact World.alloc_heap_new _ _
  have D2 : Below X1.heap.size X1 X2 := d2.trans (dX2.mono d2.size)
  have HB := hide (hB.on dX2)
  have HA2 := hide (HA.out.on D2)
  have BX1 : X2.heap[h1]? = some (.cells #[.int .i64 (V.n : Nat), .int .i64 (V.m : Nat), .slice a1 V.St.length a1c, .slice a2 V.Fi.length a2c, .slice a3 V.Ed.length a3c] 25 (0, 0)) := (D2.block _ (Array.getElem?_eq_some_iff.1 HBX.out).1).trans HBX.out
  have DW2 := hide (DW.out.trans (D2.mono DW.out.size))
  obtain ⟨h2, hh2⟩ : ∃ h, w2.heap.size = h := ⟨_, rfl⟩
  rw [hh2] at BX2
  rw [hh2]
  have x0 : X2.cell? ⟨h1, 0, none⟩ = some (.int .i64 (V.n : Nat)) := cell_of BX1 rfl
  have x1 : X2.cell? ⟨h1, 1, none⟩ = some (.int .i64 (V.m : Nat)) := cell_of BX1 rfl
  have x2 : X2.cell? ⟨h1, 2, none⟩ = some (.slice a1 V.St.length a1c) := cell_of BX1 rfl
  have x3 : X2.cell? ⟨h1, 3, none⟩ = some (.slice a2 V.Fi.length a2c) := cell_of BX1 rfl
  have x4 : X2.cell? ⟨h1, 4, none⟩ = some (.slice a3 V.Ed.length a3c) := cell_of BX1 rfl
  have z0 : X2.cell? ⟨h2, 0, none⟩ = some (.int .i64 (V.n : Nat)) := cell_of BX2 rfl
  have z1 : X2.cell? ⟨h2, 1, none⟩ = some (.int .i64 (V.m : Nat)) := cell_of BX2 rfl
  have z2 : X2.cell? ⟨h2, 2, none⟩ = some (.slice b1 V.St.length b1c) := cell_of BX2 rfl
  have z3 : X2.cell? ⟨h2, 3, none⟩ = some (.slice b2 V.Fi.length b2c) := cell_of BX2 rfl
  have z4 : X2.cell? ⟨h2, 4, none⟩ = some (.slice b3 V.Ed.length b3c) := cell_of BX2 rfl
  have T15 := sameAuto_eq X2 V.n V.m V.St V.Fi V.Ed a1 a2 a3 b1 b2 b3 a1c a2c a3c b1c b2c b3c (hide ⟨HA2.out.r1, HA2.out.r2, HA2.out.r3⟩) (hide ⟨HB.out.r1, HB.out.r2, HB.out.r3⟩) HL.out.1 HL.out.2.1 HL.out.2.2.1
  clear y0 y1 y2 y3 y4 hB d2 dX2 D2 BX2 BX1 hX2 hh2 T27 HBX HA DW
  go_wp2_with (first
    | (go_at_call 15; refine T15.mono ?_; rintro e w3 ⟨rfl, d3⟩; have T17 := sameT_eq w3 a4 b4 a4c b4c V.Sx (hide (HA2.out.r4.below d3)) (hide (HB.out.r4.below d3)) HL.out.2.2.2.1; have D3 := hide d3)
    | (go_at_call_of 17 (Value.slice a4 V.Sx.length a4c); refine T17.mono ?_; rintro e w4 ⟨rfl, d4⟩; have D4 := hide (D3.out.trans (d4.mono D3.out.size)); have T18 := sameT_eq w4 a5 b5 a5c b5c V.Yx (hide (HA2.out.r5.below D4.out)) (hide (HB.out.r5.below D4.out)) HL.out.2.2.2.2)
    | (go_at_call_of 17 (Value.slice a5 V.Yx.length a5c); refine T18.mono ?_; rintro e w5 ⟨rfl, d5⟩))
  go_ret
  exact ⟨rfl, DW2.out.trans ((D4.out.trans (d5.mono D4.out.size)).mono DW2.out.size)⟩
end Go.Proofs.YtmagchclmmphaabGreatDoor
namespace Go.Proofs.YtmagchclmmphaabGreatDoor
open Go.RowKit Go.Maps
attribute [local go_sem] Oper.semAt_some

theorem ok_rev {F : List ByteArray} {R : List RuT} (h : (∀ x ∈ F, kText.ok x) ∧ ∀ x ∈ R, kRules.ok x) {F' : List ByteArray} {R' : List RuT} (hF : ∀ x ∈ F', x ∈ F) (hR : ∀ x ∈ R', x ∈ R) : (∀ x ∈ F', kText.ok x) ∧ ∀ x ∈ R', kRules.ok x := ⟨fun x hx => h.1 x (hF x hx), fun x hx => h.2 x (hR x hx)⟩
/-- A twin's value. -/
def twV (ti : ByteArray) (bo bs bf br n s q r : Nat) : Value := .agg #[.string ti, .slice (some ⟨bo, 0, none⟩) n (n + 64), .slice (some ⟨bs, 0, none⟩) s (s + 64), .slice (some ⟨bf, 0, none⟩) q (q + 64), .slice (some ⟨br, 0, none⟩) r (r + 64)]
/-- Lists of so many items. -/
def Len4 (n s q r : Nat) (O : List OpI) (S F : List ByteArray) (R : List RuT) : Prop := O.length = n ∧ S.length = s ∧ F.length = q ∧ R.length = r
theorem autos_tw (W : World) (ti : ByteArray) (n s q r : Nat) (bo bs bf br go gs gf gr : Nat) (O : List OpI) (S F : List ByteArray) (R : List RuT) (hl : Len4 n s q r O S F R) (hT : BytesAt W ∧ 1 < W.heap.size) (hx : Twn W bo bs bf br O S F R) (hy : Twn W go gs gf gr O S F R) (hok : (∀ x ∈ F, kText.ok x) ∧ ∀ x ∈ R, kRules.ok x) (h1 : n ≤ 1048576) (h2 : s ≤ 1048576) (h3 : q ≤ 1048576) (h4 : r ≤ 1048576) :
    Calls Tryz.prog 19 #[twV ti bo bs bf br n s q r, twV ti go gs gf gr n s q r] W fun e w' => e = .returned (.bool true) ∧ Below W.heap.size W w' := by
  obtain ⟨rfl, rfl, rfl, rfl⟩ := hl
  exact autos_eq W ti _ _ _ _ _ _ _ _ _ _ _ _ _ _ _ _ O S F R (hide hT) (hide ⟨hx.reads.1, hy.reads.1⟩) (hide ⟨hx.reads.2.1, hy.reads.2.1⟩) (hide ⟨hx.reads.2.2.1, hy.reads.2.2.1⟩) (hide ⟨hx.reads.2.2.2, hy.reads.2.2.2⟩) (hide hok) (by omega) (by omega) (by omega) (by omega) (hide (by omega)) (hide (by omega))
set_option maxRecDepth 100000 in
set_option maxHeartbeats 4000000 in
theorem fautos_any (w : World) (ti : ByteArray) (ao asx af ar : Option Addr) (co cs cf cr : Nat) (O : List OpI) (S F : List ByteArray) (R : List RuT) (hT : Hid (RowsAt w ∧ BytesAt w ∧ 1 < w.heap.size)) (hO : Hid (RdO w ao O)) (hS : Hid (ReadsS w asx S)) (hF : Hid (ReadsS w af F)) (hR : Hid (RdRu w ar R))
    (hok : Hid ((∀ x ∈ F, kText.ok x) ∧ ∀ x ∈ R, kRules.ok x)) (hlo : O.length ≤ 1048576) (hls : S.length ≤ 1048576) (hlf : F.length ≤ 1048576) (hlr : R.length ≤ 1048576) (hco : Hid (O.length ≤ co)) (hcs : Hid (S.length ≤ cs)) :
    Calls Tryz.prog 4 #[.agg #[.string ti, .slice ao O.length co, .slice asx S.length cs, .slice af F.length cf, .slice ar R.length cr]] w fun e w' => e = .returned (.bool true) ∧ Below w.heap.size w w' := by
  obtain ⟨W0, hW0⟩ : ∃ W0, w.alloc (.cells #[.string ti, .slice ao O.length co, .slice asx S.length cs, .slice af F.length cf, .slice ar R.length cr] 32) = W0 := ⟨_, rfl⟩
  have d0 : Below w.heap.size w W0 := by rw [← hW0]; exact (Below.refl _ _).alloc (Nat.le_refl _) _
  have b0 : W0.heap[w.heap.size]? = some (.cells #[.string ti, .slice ao O.length co, .slice asx S.length cs, .slice af F.length cf, .slice ar R.length cr] 32 (0, 0)) := by rw [← hW0]; exact World.alloc_heap_new _ _
  have HBX : Hid (Bx5 W0 w.heap.size (.string ti) (.slice ao O.length co) (.slice asx S.length cs) (.slice af F.length cf) (.slice ar R.length cr)) := hide ⟨cell_of b0 rfl, cell_of b0 rfl, cell_of b0 rfl, cell_of b0 rfl, cell_of b0 rfl⟩
  obtain ⟨c0, c1, c2, c3, c4⟩ := HBX.out
  have hT1 := hide (fun (W : World) (d : Below w.heap.size w W) => show RowsAt W ∧ BytesAt W ∧ 1 < W.heap.size from
    ⟨hT.out.1.below d hT.out.2.2, hT.out.2.1.below d hT.out.2.2, Nat.lt_of_lt_of_le hT.out.2.2 d.size⟩)
  have HD := hide d0
  have HF : Hid (RdO W0 ao O ∧ ReadsS W0 asx S ∧ ReadsS W0 af F ∧ RdRu W0 ar R) := hide ⟨hO.out.on d0, hS.out.below d0, hF.out.below d0, hR.out.on d0⟩
  clear hO hS hF hR d0 b0
  have T1 := twin2_any W0 ti ao asx af ar co cs cf cr O S F R (hide HF.out.1) (hide HF.out.2.1) (hide HF.out.2.2.1) (hide HF.out.2.2.2) (by omega) (by omega) (by omega) (by omega)
  have hsz0 : w.heap.size < W0.heap.size := by rw [← hW0]; simp
  go_enter Tryz.func4, Tryz.ntmps4
  go_wp2_with fail
  refine T1.mono ?_
  rintro e w1 ⟨bo, bs, bf, br, rfl, qo, qs, qf, qr, d1, hsf, lo, ls, lf, lr⟩
  have HT1 : Hid (Twn w1 bo bs bf br O S F R) := hide ⟨qo, qs, qf, qr⟩
  have D1 := hide d1
  have HB := hide (And.intro hsf (And.intro lo (And.intro ls (And.intro lf lr))))
  have hX : W0.heap.size ≤ w1.heap.size := d1.size
  clear qo qs qf qr d1 T1 c0 c1 c2 c3 c4 hsf lo ls lf lr
  obtain ⟨W2, hW2⟩ : ∃ W2, w1.alloc (.cells #[.string ti, .slice (some ⟨bo, 0, none⟩) O.length (O.length + 64), .slice (some ⟨bs, 0, none⟩) S.length (S.length + 64), .slice (some ⟨bf, 0, none⟩) F.length (F.length + 64), .slice (some ⟨br, 0, none⟩) R.length (R.length + 64)] 32) = W2 := ⟨_, rfl⟩
  have d2 : Below w1.heap.size w1 W2 := by rw [← hW2]; exact (Below.refl _ _).alloc (Nat.le_refl _) _
  have b2 : W2.heap[w1.heap.size]? = some (.cells #[.string ti, .slice (some ⟨bo, 0, none⟩) O.length (O.length + 64), .slice (some ⟨bs, 0, none⟩) S.length (S.length + 64), .slice (some ⟨bf, 0, none⟩) F.length (F.length + 64), .slice (some ⟨br, 0, none⟩) R.length (R.length + 64)] 32 (0, 0)) := by rw [← hW2]; exact World.alloc_heap_new _ _
  have HX2 : Hid (Bx5 W2 w1.heap.size (.string ti) (.slice (some ⟨bo, 0, none⟩) O.length (O.length + 64)) (.slice (some ⟨bs, 0, none⟩) S.length (S.length + 64)) (.slice (some ⟨bf, 0, none⟩) F.length (F.length + 64)) (.slice (some ⟨br, 0, none⟩) R.length (R.length + 64))) := hide ⟨cell_of b2 rfl, cell_of b2 rfl, cell_of b2 rfl, cell_of b2 rfl, cell_of b2 rfl⟩
  have HT2 := hide (HT1.out.on d2)
  have D2 := hide (D1.out.trans (d2.mono D1.out.size))
  have DW2 := hide (HD.out.trans (D2.out.mono HD.out.size))
  clear d2 b2
  have P1 := autos_eq W2 ti (some ⟨bo, 0, none⟩) (some ⟨bs, 0, none⟩) (some ⟨bf, 0, none⟩) (some ⟨br, 0, none⟩) ao asx af ar (O.length + 64) (S.length + 64) (F.length + 64) (R.length + 64) co cs cf cr O S F R (hide (hT1.out W2 DW2.out).2) (hide ⟨HT2.out.reads.1, HF.out.1.on D2.out⟩) (hide ⟨HT2.out.reads.2.1, HF.out.2.1.below D2.out⟩) (hide ⟨HT2.out.reads.2.2.1, HF.out.2.2.1.below D2.out⟩) (hide ⟨HT2.out.reads.2.2.2, HF.out.2.2.2.on D2.out⟩) hok (by omega) (by omega) (by omega) (by omega) hco hcs
  obtain ⟨c0, c1, c2, c3, c4⟩ := HBX.out.on D2.out
  obtain ⟨x0, x1, x2, x3, x4⟩ := HX2.out
  go_wp2_with fail
  refine P1.mono ?_
  rintro e w3 ⟨rfl, d3⟩
  have D3 := hide (D2.out.trans (d3.mono D2.out.size))
  have E3 := hide d3
  have DW3 := hide (DW2.out.trans (d3.mono DW2.out.size))
  clear P1 d3 c0 c1 c2 c3 c4 x0 x1 x2 x3 x4
  have HT3 := hide (HT2.out.on E3.out)
  have P2 := left_any w3 ti bo bs bf br ao asx af ar co cs cf cr O S F R (hide HT3.out) (hide ⟨HF.out.1.on D3.out, HF.out.2.1.below D3.out, HF.out.2.2.1.below D3.out, HF.out.2.2.2.on D3.out⟩) hlo hls hlf hlr
  obtain ⟨c0, c1, c2, c3, c4⟩ := HBX.out.on D3.out
  obtain ⟨x0, x1, x2, x3, x4⟩ := HX2.out.on E3.out
  go_wp2_with fail
  refine P2.mono ?_
  rintro e w4 ⟨rfl, d4⟩
  have E4 := hide (E3.out.trans (d4.mono E3.out.size))
  have DW4 := hide (DW3.out.trans (d4.mono DW3.out.size))
  have HT4 := hide (HT3.out.on d4)
  clear P2 d4 c0 c1 c2 c3 c4 x0 x1 x2 x3 x4
  obtain ⟨x0, x1, x2, x3, x4⟩ := HX2.out.on E4.out
  have P3 := over_any w4 ti bo bs bf br O S F R (hide HT4.out) hlo hls hlf hlr
  go_wp2_with fail
  refine P3.mono ?_
  rintro e w5 ⟨go, gs, gf, gr, rfl, hA, hB2, o5⟩
  have HT5 := hide hA
  have HG5 := hide hB2
  have O5 := hide o5
  clear hA hB2 o5 P3 x0 x1 x2 x3 x4
  have hbo1 : bo < w1.heap.size := HT1.out.o.lt
  have hbs1 : bs < w1.heap.size := HT1.out.s.lt
  have hbf1 : bf < w1.heap.size := HT1.out.f.lt
  have hbr1 : br < w1.heap.size := HT1.out.r.lt
  have hb0 := HB.out
  obtain ⟨n, hn⟩ : ∃ n, O.length = n := ⟨_, rfl⟩
  obtain ⟨s, hs⟩ : ∃ s, S.length = s := ⟨_, rfl⟩
  obtain ⟨q, hq⟩ : ∃ q, F.length = q := ⟨_, rfl⟩
  obtain ⟨r, hr⟩ : ∃ r, R.length = r := ⟨_, rfl⟩
  have HLr : Hid (Len4 n s q r O.reverse S F R.reverse) := hide ⟨by rw [List.length_reverse, hn], hs, hq, by rw [List.length_reverse, hr]⟩
  rw [hn, hs, hq, hr] at HX2
  rw [hn, hs, hq, hr]
  have ln : n ≤ 1048576 := by omega
  have lsx : s ≤ 1048576 := by omega
  have lq : q ≤ 1048576 := by omega
  have lr : r ≤ 1048576 := by omega
  have HX5 : Hid (Bx5 w5 w1.heap.size (.string ti) (.slice (some ⟨bo, 0, none⟩) n (n + 64)) (.slice (some ⟨bs, 0, none⟩) s (s + 64)) (.slice (some ⟨bf, 0, none⟩) q (q + 64)) (.slice (some ⟨br, 0, none⟩) r (r + 64))) := hide (bx5_only (HX2.out.on E4.out) O5.out (by omega))
  have DW5 : Hid (Below w.heap.size w w5) := hide (DW4.out.trans (O5.out.toBelow DW4.out.size (fun k hk => by omega)))
  have hok5 : Hid ((∀ x ∈ F, kText.ok x) ∧ ∀ x ∈ R.reverse, kRules.ok x) := hide (ok_rev hok.out (fun x h => h) (fun x h => List.mem_reverse.1 h))
  obtain ⟨W6, hW6⟩ : ∃ W6, w5.alloc (.cells #[.string ti, .slice (some ⟨go, 0, none⟩) n (n + 64), .slice (some ⟨gs, 0, none⟩) s (s + 64), .slice (some ⟨gf, 0, none⟩) q (q + 64), .slice (some ⟨gr, 0, none⟩) r (r + 64)] 32) = W6 := ⟨_, rfl⟩
  have d6 : Below w5.heap.size w5 W6 := by rw [← hW6]; exact (Below.refl _ _).alloc (Nat.le_refl _) _
  have b6 : W6.heap[w5.heap.size]? = some (.cells #[.string ti, .slice (some ⟨go, 0, none⟩) n (n + 64), .slice (some ⟨gs, 0, none⟩) s (s + 64), .slice (some ⟨gf, 0, none⟩) q (q + 64), .slice (some ⟨gr, 0, none⟩) r (r + 64)] 32 (0, 0)) := by rw [← hW6]; exact World.alloc_heap_new _ _
  have DW6 := hide (DW5.out.trans (d6.mono DW5.out.size))
  have HX6 := hide (HX5.out.on d6)
  have HT6 := hide (HT5.out.on d6)
  have P4 := autos_tw W6 ti n s q r bo bs bf br go gs gf gr O.reverse S F R.reverse HLr.out (hT1.out W6 DW6.out).2 HT6.out (HG5.out.on d6) hok5.out ln lsx lq lr
  unfold twV at P4
  obtain ⟨x0, x1, x2, x3, x4⟩ := HX6.out
  have y0 : W6.cell? ⟨w5.heap.size, 0, none⟩ = some (.string ti) := cell_of b6 rfl
  have y1 : W6.cell? ⟨w5.heap.size, 1, none⟩ = some (.slice (some ⟨go, 0, none⟩) n (n + 64)) := cell_of b6 rfl
  have y2 : W6.cell? ⟨w5.heap.size, 2, none⟩ = some (.slice (some ⟨gs, 0, none⟩) s (s + 64)) := cell_of b6 rfl
  have y3 : W6.cell? ⟨w5.heap.size, 3, none⟩ = some (.slice (some ⟨gf, 0, none⟩) q (q + 64)) := cell_of b6 rfl
  have y4 : W6.cell? ⟨w5.heap.size, 4, none⟩ = some (.slice (some ⟨gr, 0, none⟩) r (r + 64)) := cell_of b6 rfl
  have hbO : w.heap.size ≤ bo ∧ w.heap.size ≤ bs ∧ w.heap.size ≤ bf ∧ w.heap.size ≤ br := by omega
  clear d6 b6 hb0 hn hs hq hr HF HBX HT1 HT2 HT3 HT4 D1 D2 D3 E3 E4 HX2 HX5 DW2 DW3 DW4 DW5 O5 HT5 HG5 hlo hls hlf hlr hco hcs
  go_wp2_with fail
  refine P4.mono ?_
  rintro e w7 ⟨rfl, d7⟩
  have DW7 := hide (DW6.out.trans (d7.mono DW6.out.size))
  have T11 := least_any w7 (hide (hT1.out w7 DW7.out))
  go_wp2_with (go_at_call 11; refine T11.mono ?_; rintro e w8 ⟨rfl, d8⟩)
  go_ret
  exact ⟨rfl, DW7.out.trans (d8.mono DW7.out.size)⟩
end Go.Proofs.YtmagchclmmphaabGreatDoor
