import Derived.Test.YtojnlpicgemlaabGreatDoorTQ
import Derived.Test.YtojnlpicgemlaabGreatDoorFE
import Derived.Test.YtojnlpicgemlaabGreatDoorIT
import Derived.Lib.SliceRun
namespace Go.Proofs.YtojnlpicgemlaabGreatDoor
open Go.RowKit Go.Maps
attribute [local go_sem] Oper.semAt_some

/-! ### Trim -/
theorem may_of {n m : Int} {St Fi : List Int} {Ed : List EdT} (h1 : 0 ≤ n ∧ n ≤ 4096) (h2 : 0 ≤ m ∧ m ≤ 128) (h3 : Ed.length ≤ 65536) (h4 : ∀ x ∈ St, 0 ≤ x ∧ x < n) (h5 : ∀ x ∈ Fi, 0 ≤ x ∧ x < n) (h6 : ∀ e ∈ Ed, (0 ≤ e.1 ∧ e.1 < n) ∧ (0 ≤ e.2.1 ∧ e.2.1 < m) ∧ 0 ≤ e.2.2 ∧ e.2.2 < n) : mayA n m St Fi Ed = true := by
  unfold mayA
  simp only [Bool.and_eq_true, List.all_eq_true, decide_eq_true_eq]
  refine ⟨⟨⟨⟨⟨inB_iff.2 (by omega), inB_iff.2 (by omega)⟩, h3⟩, fun x hx => inB_iff.2 (h4 x hx)⟩, fun x hx => inB_iff.2 (h5 x hx)⟩, fun e he => ?_⟩
  obtain ⟨q1, q2, q3⟩ := h6 e he
  unfold edOk
  rw [inB_iff.2 q1, inB_iff.2 q2, inB_iff.2 q3]
  rfl
theorem may_rise {n m : Int} {St Fi : List Int} {Ed : List EdT} (h : mayA n m St Fi Ed = true) : mayA n m (riseL St) (riseL Fi) (riseE Ed) = true := by
  obtain ⟨h1, h2, h3, h4, h5, h6⟩ := may_parts h
  rw [List.all_eq_true] at h4 h5
  exact may_of h1 h2 (Nat.le_trans (riseE_len Ed) h3) (fun x hx => inB_iff.1 (h4 x ((riseL_iff St x).1 hx))) (fun x hx => inB_iff.1 (h5 x ((riseL_iff Fi x).1 hx))) (fun e he => h6 e ((riseE_iff Ed e).1 he))
/-- Is a state useful? -/
def useP (St Fi : List Int) (Ed : List EdT) (q : Nat) : Prop := (∃ k, Wlk (fun q => (q : Int) ∈ St) (stepE false Ed) k q) ∧ ∃ k, Wlk (fun q => (q : Int) ∈ Fi) (stepE true Ed) k q
noncomputable def useX (N : Nat) (St Fi : List Int) (Ed : List EdT) : Nat := metX (fun q => @ite Int (useP St Fi Ed q) (Classical.propDecidable _) 0 (-1)) N
theorem useX_test (N : Nat) (St Fi : List Int) (Ed : List EdT) (q : Nat) : (useX N St Fi Ed).testBit q = true ↔ q < N ∧ useP St Fi Ed q := by
  unfold useX
  rw [metX_test, decide_eq_true_eq]
  refine and_congr Iff.rfl ?_
  by_cases h : useP St Fi Ed q
  · rw [if_pos h]; exact ⟨fun _ => h, fun _ => by omega⟩
  · rw [if_neg h]; exact ⟨fun k => absurd rfl k, fun k => absurd k h⟩
theorem wlk_congr {S S' : Nat → Prop} {E E' : Nat → Nat → Prop} (hS : ∀ q, S q ↔ S' q) (hE : ∀ p q, E p q ↔ E' p q) : ∀ (k q : Nat), Wlk S E k q ↔ Wlk S' E' k q
  | 0, q => hS q
  | k + 1, q => exists_congr fun p => and_congr (wlk_congr hS hE k p) (hE p q)
theorem step_rise (bk : Bool) (Ed : List EdT) (p q : Nat) : stepE bk (riseE Ed) p q ↔ stepE bk Ed p q := exists_congr fun e => and_congr (riseE_iff Ed e) Iff.rfl
theorem bfs_met {N : Nat} {S : Nat → Prop} {E : Nat → Nat → Prop} {len : Nat → Int} (h : Bfs N S E [] len) (hS : ∀ q, S q → q < N) (hE : ∀ p q, E p q → q < N) (q : Nat) : (metX len N).testBit q = true ↔ ∃ k, Wlk S E k q := by
  rw [metX_test, decide_eq_true_eq]
  constructor
  · rintro ⟨h1, h2⟩
    exact ⟨_, h.sound q h1 (by have := h.ge q; omega)⟩
  · rintro ⟨k, hk⟩
    obtain ⟨h1, h2, _⟩ := h.done hS hE k q hk
    exact ⟨h1, by omega⟩
theorem met_use {w : World} {N : Nat} {mv : Int} {a1 a2 a3 : Option Addr} {St Fi : List Int} {Ed : List EdT} (hG : ArgA w N mv a1 a2 a3 (riseL St) (riseL Fi) (riseE Ed)) {l1 l2 : Nat → Int} (h1 : Bfs N (fun q => (q : Int) ∈ riseL St) (stepE false (riseE Ed)) [] l1) (h2 : Bfs N (fun q => (q : Int) ∈ riseL Fi) (stepE true (riseE Ed)) [] l2) : metX l1 N &&& metX l2 N = useX N St Fi Ed := by
  refine Nat.eq_of_testBit_eq fun q => ?_
  rw [Nat.testBit_and, Bool.eq_iff_iff, Bool.and_eq_true, bfs_met h1 (hG.hS false) (hG.hE false), bfs_met h2 (hG.hS true) (hG.hE true), useX_test]
  have c1 := fun k => wlk_congr (fun q => riseL_iff St (q : Int)) (step_rise false Ed) k q
  have c2 := fun k => wlk_congr (fun q => riseL_iff Fi (q : Int)) (step_rise true Ed) k q
  constructor
  · rintro ⟨⟨k, hk⟩, ⟨j, hj⟩⟩
    exact ⟨(h1.done (hG.hS false) (hG.hE false) k q hk).1, ⟨k, (c1 k).1 hk⟩, j, (c2 j).1 hj⟩
  · rintro ⟨_, ⟨k, hk⟩, j, hj⟩
    exact ⟨⟨k, (c1 k).2 hk⟩, j, (c2 j).2 hj⟩
theorem results_c2 {P : Program} {fn : Func} {p q r : Tmp} {ty : TypeId} (h : fn.results = #[.cell p ty, .tmp q, .tmp r]) (tmps : Array Value) (w : World) (g : Nat) (t : TypeId) (cs : Array Value) (fr : Nat × Nat) (d : TypeDesc) (x y : Value)
    (hp : tmps.getD p undef = .pointer (some ⟨g, 0, none⟩)) (hq : tmps.getD q undef = x) (hr : tmps.getD r undef = y) (hg : w.heap[g]? = some (.cells cs t fr))
    (hu : P.underlying ty = some d) (hd : (match d with | .struct _ | .array _ _ => true | _ => false) = true) (hi : (P.info? ty).map (·.size) = some cs.size) :
    (results fn tmps).run P w = .ok (.tuple #[.agg cs, x, y]) w := by
  have hp' : tmps[p]?.getD undef = .pointer (some ⟨g, 0, none⟩) := by simpa using hp
  have hq' : tmps[q]?.getD undef = x := by simpa using hq
  have hr' : tmps[r]?.getD undef = y := by simpa using hr
  simp [results, h, hp', hq', hr', asAddr, run_loadVar_row w g t ty cs fr d hg hu hd hi]
/-- What Trim answers. -/
def TrmP (w w' : World) (N : Nat) (mv : Int) (St Fi : List Int) (Ed : List EdT) (e : Ending) : Prop := ∃ v1 v2 v3 vo, e = .returned (.tuple #[.agg #[.int .i64 ((elems N (useX N St Fi Ed)).length : Int), .int .i64 mv, v1, v2, v3], vo, .int .i64 0]) ∧ OwnL w.heap.size w' v1 (renL (useX N St Fi Ed) (numT (elems N (useX N St Fi Ed))) (riseL St)) ∧ OwnL w.heap.size w' v2 (renL (useX N St Fi Ed) (numT (elems N (useX N St Fi Ed))) (riseL Fi)) ∧ w'.ownsRow w.heap.size 35 3 v3 (renE (useX N St Fi Ed) (numT (elems N (useX N St Fi Ed))) (riseE Ed)).length ((renE (useX N St Fi Ed) (numT (elems N (useX N St Fi Ed))) (riseE Ed)).flatMap encE) ∧ OwnL w.heap.size w' vo (natL (elems N (useX N St Fi Ed))) ∧ Below w.heap.size w w'
/-- The same, and the rows lie apart. -/
def TrmQ (w w' : World) (N : Nat) (mv : Int) (St Fi : List Int) (Ed : List EdT) (e : Ending) : Prop := ∃ v1 v2 v3 vo, e = .returned (.tuple #[.agg #[.int .i64 ((elems N (useX N St Fi Ed)).length : Int), .int .i64 mv, v1, v2, v3], vo, .int .i64 0]) ∧ OwnL w.heap.size w' v1 (renL (useX N St Fi Ed) (numT (elems N (useX N St Fi Ed))) (riseL St)) ∧ OwnL w.heap.size w' v2 (renL (useX N St Fi Ed) (numT (elems N (useX N St Fi Ed))) (riseL Fi)) ∧ w'.ownsRow w.heap.size 35 3 v3 (renE (useX N St Fi Ed) (numT (elems N (useX N St Fi Ed))) (riseE Ed)).length ((renE (useX N St Fi Ed) (numT (elems N (useX N St Fi Ed))) (riseE Ed)).flatMap encE) ∧ OwnL w.heap.size w' vo (natL (elems N (useX N St Fi Ed))) ∧ Below w.heap.size w w' ∧ Apt3 v1 v2 vo
set_option maxRecDepth 100000 in
set_option maxHeartbeats 4000000 in
theorem trim_bad (w : World) (n mv : Int) (a1 a2 a3 : Option Addr) (c1 c2 c3 : Nat) (St Fi : List Int) (Ed : List EdT) (hA : Hid (RdA w a1 a2 a3 St Fi Ed)) (h1 : St.length ≤ 4194304) (h2 : Fi.length ≤ 4194304) (h3 : Ed.length ≤ 4194304) (em : mayA n mv St Fi Ed = false) :
    Calls Tryz.prog 5 #[.agg #[.int .i64 n, .int .i64 mv, .slice a1 St.length c1, .slice a2 Fi.length c2, .slice a3 Ed.length c3]] w fun e w' => e = .returned (.tuple #[.agg #[.int .i64 0, .int .i64 0, .slice none 0 0, .slice none 0 0, .slice none 0 0], .slice none 0 0, .int .i64 2]) ∧ Below w.heap.size w w' := by
  obtain ⟨n1, e1⟩ : ∃ n, St.length = n := ⟨_, rfl⟩
  obtain ⟨n2, e2⟩ : ∃ n, Fi.length = n := ⟨_, rfl⟩
  obtain ⟨n3, e3⟩ : ∃ n, Ed.length = n := ⟨_, rfl⟩
  rw [e1, e2, e3]
  obtain ⟨W0, hW0⟩ : ∃ W0, (w.alloc (.cells #[.int .i64 n, .int .i64 mv, .slice a1 n1 c1, .slice a2 n2 c2, .slice a3 n3 c3] 25)).alloc (.cells #[.int .i64 0, .int .i64 0, .slice none 0 0, .slice none 0 0, .slice none 0 0] 25) = W0 := ⟨_, rfl⟩
  have HB := hide (box2 w #[.int .i64 n, .int .i64 mv, .slice a1 n1 c1, .slice a2 n2 c2, .slice a3 n3 c3] #[.int .i64 0, .int .i64 0, .slice none 0 0, .slice none 0 0, .slice none 0 0] 25)
  rw [hW0] at HB
  have TN := normal_bad W0 n mv a1 a2 a3 c1 c2 c3 St Fi Ed (hide (hA.out.on HB.out.1)) h1 h2 h3 em
  rw [e1, e2, e3] at TN
  have B0 := HB.out.2.1
  have q0 : W0.cell? ⟨w.heap.size, 0, none⟩ = some (.int .i64 n) := cell_of B0 rfl
  have q1 : W0.cell? ⟨w.heap.size, 1, none⟩ = some (.int .i64 mv) := cell_of B0 rfl
  have q2 : W0.cell? ⟨w.heap.size, 2, none⟩ = some (.slice a1 n1 c1) := cell_of B0 rfl
  have q3 : W0.cell? ⟨w.heap.size, 3, none⟩ = some (.slice a2 n2 c2) := cell_of B0 rfl
  have q4 : W0.cell? ⟨w.heap.size, 4, none⟩ = some (.slice a3 n3 c3) := cell_of B0 rfl
  clear e1 e2 e3 em B0
  go_enter Tryz.func5, Tryz.ntmps5
  go_upto_region 2 with (go_at_call 12; refine TN.mono ?_; rintro e w1 ⟨rfl, d1⟩)
  obtain ⟨X, hX⟩ : ∃ X, w1.alloc (.cells #[.int .i64 0, .int .i64 0, .slice none 0 0, .slice none 0 0, .slice none 0 0] 25) = X := ⟨_, rfl⟩
  rw [hX]
  have HX : Hid (Below W0.heap.size W0 X) := hide (by rw [← hX]; exact d1.alloc d1.size _)
  clear hX d1 q0 q1 q2 q3 q4 hW0
  have F3 := blk_on HB.out.2.2.1 HX.out
  have zc0 : X.cell? ⟨w.heap.size + 1, 0, none⟩ = some (.int .i64 0) := cell_of F3 rfl
  have fz0 : X.frozen? ⟨w.heap.size + 1, 0, none⟩ = false := fz_of F3
  have zc1 : X.cell? ⟨w.heap.size + 1, 1, none⟩ = some (.int .i64 0) := cell_of F3 rfl
  have fz1 : X.frozen? ⟨w.heap.size + 1, 1, none⟩ = false := fz_of F3
  have zc2 : X.cell? ⟨w.heap.size + 1, 2, none⟩ = some (.slice none 0 0) := cell_of F3 rfl
  have fz2 : X.frozen? ⟨w.heap.size + 1, 2, none⟩ = false := fz_of F3
  have zc3 : X.cell? ⟨w.heap.size + 1, 3, none⟩ = some (.slice none 0 0) := cell_of F3 rfl
  have fz3 : X.frozen? ⟨w.heap.size + 1, 3, none⟩ = false := fz_of F3
  have zc4 : X.cell? ⟨w.heap.size + 1, 4, none⟩ = some (.slice none 0 0) := cell_of F3 rfl
  have fz4 : X.frozen? ⟨w.heap.size + 1, 4, none⟩ = false := fz_of F3
  have O6 := hide (And.intro (set5 X (w.heap.size + 1) _ _ _ _ _ (.int .i64 0) (.int .i64 0) (.slice none 0 0) (.slice none 0 0) (.slice none 0 0) 25 F3) (only5 X (w.heap.size + 1) (.int .i64 0) (.int .i64 0) (.slice none 0 0) (.slice none 0 0) (.slice none 0 0)))
  clear F3
  go_wp2_with fail
  refine bodyPost_ret (results_c2 (p := 2) (q := 3) (r := 4) (ty := 25) rfl _ _ (w.heap.size + 1) 25 _ (0, 0) _ _ _ rfl rfl rfl O6.out.1 Tryz.underlying25 rfl (by kernel_rfl)) rfl ?_
  have s1 := HB.out.2.2.2
  have s2 := HX.out.size
  exact ⟨rfl, (HB.out.1.trans (HX.out.mono (by omega))).trans (O6.out.2.toBelow (by omega) (fun k hk => by omega))⟩
set_option maxRecDepth 100000 in
set_option maxHeartbeats 4000000 in
theorem trim_q (w : World) (N : Nat) (mv : Int) (a1 a2 a3 : Option Addr) (c1 c2 c3 : Nat) (St Fi : List Int) (Ed : List EdT) (hA : Hid (RdA w a1 a2 a3 St Fi Ed)) (h1 : St.length ≤ 4194304) (h2 : Fi.length ≤ 4194304) (h3 : Ed.length ≤ 4194304) (hT : Hid (TabAt w)) (h0 : 0 < w.heap.size) (em : mayA (N : Int) mv St Fi Ed = true) :
    Calls Tryz.prog 5 #[.agg #[.int .i64 (N : Int), .int .i64 mv, .slice a1 St.length c1, .slice a2 Fi.length c2, .slice a3 Ed.length c3]] w fun e w' => TrmQ w w' N mv St Fi Ed e := by
  obtain ⟨n1, e1⟩ : ∃ n, St.length = n := ⟨_, rfl⟩
  obtain ⟨n2, e2⟩ : ∃ n, Fi.length = n := ⟨_, rfl⟩
  obtain ⟨n3, e3⟩ : ∃ n, Ed.length = n := ⟨_, rfl⟩
  rw [e1, e2, e3]
  obtain ⟨W0, hW0⟩ : ∃ W0, (w.alloc (.cells #[.int .i64 (N : Int), .int .i64 mv, .slice a1 n1 c1, .slice a2 n2 c2, .slice a3 n3 c3] 25)).alloc (.cells #[.int .i64 0, .int .i64 0, .slice none 0 0, .slice none 0 0, .slice none 0 0] 25) = W0 := ⟨_, rfl⟩
  have HB := hide (box2 w #[.int .i64 (N : Int), .int .i64 mv, .slice a1 n1 c1, .slice a2 n2 c2, .slice a3 n3 c3] #[.int .i64 0, .int .i64 0, .slice none 0 0, .slice none 0 0, .slice none 0 0] 25)
  rw [hW0] at HB
  have TN := normal_ok W0 (N : Int) mv a1 a2 a3 c1 c2 c3 St Fi Ed (hide (hA.out.on HB.out.1)) h1 h2 h3 em
  rw [e1, e2, e3] at TN
  have B0 := HB.out.2.1
  have q0 : W0.cell? ⟨w.heap.size, 0, none⟩ = some (.int .i64 (N : Int)) := cell_of B0 rfl
  have q1 : W0.cell? ⟨w.heap.size, 1, none⟩ = some (.int .i64 mv) := cell_of B0 rfl
  have q2 : W0.cell? ⟨w.heap.size, 2, none⟩ = some (.slice a1 n1 c1) := cell_of B0 rfl
  have q3 : W0.cell? ⟨w.heap.size, 3, none⟩ = some (.slice a2 n2 c2) := cell_of B0 rfl
  have q4 : W0.cell? ⟨w.heap.size, 4, none⟩ = some (.slice a3 n3 c3) := cell_of B0 rfl
  have HM := hide (may_rise em)
  have HL : Hid ((riseL St).length ≤ 4194304 ∧ (riseL Fi).length ≤ 4194304) := hide ⟨Nat.le_trans (riseL_len St) h1, Nat.le_trans (riseL_len Fi) h2⟩
  have HU : Hid (∀ (W : World) (a1 a2 a3 : Option Addr), ArgA W N mv a1 a2 a3 (riseL St) (riseL Fi) (riseE Ed) → ∀ l1 l2, Bfs N (fun q => (q : Int) ∈ riseL St) (stepE false (riseE Ed)) [] l1 → Bfs N (fun q => (q : Int) ∈ riseL Fi) (stepE true (riseE Ed)) [] l2 → metX l1 N &&& metX l2 N = useX N St Fi Ed) := hide (fun W b1 b2 b3 hG l1 l2 b1 b2 => met_use hG b1 b2)
  obtain ⟨Q, hQ⟩ : ∃ Q : Ending → World → Prop, (fun e w' => TrmQ w w' N mv St Fi Ed e) = Q := ⟨_, rfl⟩
  have HP : Hid (∀ (e : Ending) (w' : World), (∃ v1 v2 v3 vo, e = .returned (.tuple #[.agg #[.int .i64 ((elems N (useX N St Fi Ed)).length : Int), .int .i64 mv, v1, v2, v3], vo, .int .i64 0]) ∧ OwnL w.heap.size w' v1 (renL (useX N St Fi Ed) (numT (elems N (useX N St Fi Ed))) (riseL St)) ∧ OwnL w.heap.size w' v2 (renL (useX N St Fi Ed) (numT (elems N (useX N St Fi Ed))) (riseL Fi)) ∧ w'.ownsRow w.heap.size 35 3 v3 (renE (useX N St Fi Ed) (numT (elems N (useX N St Fi Ed))) (riseE Ed)).length ((renE (useX N St Fi Ed) (numT (elems N (useX N St Fi Ed))) (riseE Ed)).flatMap encE) ∧ OwnL w.heap.size w' vo (natL (elems N (useX N St Fi Ed))) ∧ Below w.heap.size w w' ∧ Apt3 v1 v2 vo) → Q e w') := hide (fun e w' h => by rw [← hQ]; exact h)
  rw [hQ]
  clear e1 e2 e3 em B0 hQ h1 h2 h3
  generalize useX N St Fi Ed = UX at HU HP
  generalize riseL St = S1 at TN HM HL HU HP
  generalize riseL Fi = F1 at TN HM HL HU HP
  generalize riseE Ed = E1 at TN HM HU HP
  go_enter Tryz.func5, Tryz.ntmps5
  go_upto_region 2 with (go_at_call 12; refine TN.mono ?_; rintro e w1 ⟨g1, k1, g2, k2, g3, k3, rfl, hO, d1⟩)
  obtain ⟨bn, hbn⟩ : ∃ k, w1.heap.size = k := ⟨_, rfl⟩
  rw [hbn]
  obtain ⟨w2, hw2⟩ : ∃ X, w1.alloc (.cells #[.int .i64 (N : Int), .int .i64 mv, .slice (some ⟨g1, 0, none⟩) S1.length k1, .slice (some ⟨g2, 0, none⟩) F1.length k2, .slice (some ⟨g3, 0, none⟩) E1.length k3] 25) = X := ⟨_, rfl⟩
  rw [hw2]
  have H2 : Hid (w2.heap[bn]? = some (.cells #[.int .i64 (N : Int), .int .i64 mv, .slice (some ⟨g1, 0, none⟩) S1.length k1, .slice (some ⟨g2, 0, none⟩) F1.length k2, .slice (some ⟨g3, 0, none⟩) E1.length k3] 25 (0, 0)) ∧ Below W0.heap.size W0 w2 ∧ ArgA w2 N mv (some ⟨g1, 0, none⟩) (some ⟨g2, 0, none⟩) (some ⟨g3, 0, none⟩) S1 F1 E1 ∧ W0.heap.size ≤ bn) := hide (by
    have d : Below w1.heap.size w1 w2 := by rw [← hw2]; exact (Below.refl _ _).alloc (Nat.le_refl _) _
    have r1 : RdN w1 (some ⟨g1, 0, none⟩) S1 := by obtain ⟨a, c, e, h⟩ := la_own (L := S1) hO.s; cases e; exact h
    have r2 : RdN w1 (some ⟨g2, 0, none⟩) F1 := by obtain ⟨a, c, e, h⟩ := la_own (L := F1) hO.f; cases e; exact h
    exact ⟨by rw [← hw2, ← hbn]; exact World.alloc_heap_new _ _, d1.trans (d.mono d1.size), ⟨HM.out, r1.on d, r2.on d, (own_rdE hO.e).on d, HL.out.1, HL.out.2⟩, by rw [← hbn]; exact d1.size⟩)
  clear hw2 hO d1 q0 q1 q2 q3 q4 hW0 hbn TN HM HL
  have T28 := reached_any w2 N mv _ _ _ k1 k2 k3 S1 F1 E1 H2.out.2.2.1
  have B2 := H2.out.1
  have q0 : w2.cell? ⟨bn, 0, none⟩ = some (.int .i64 (N : Int)) := cell_of B2 rfl
  have q1 : w2.cell? ⟨bn, 1, none⟩ = some (.int .i64 mv) := cell_of B2 rfl
  have q2 : w2.cell? ⟨bn, 2, none⟩ = some (.slice (some ⟨g1, 0, none⟩) S1.length k1) := cell_of B2 rfl
  have q3 : w2.cell? ⟨bn, 3, none⟩ = some (.slice (some ⟨g2, 0, none⟩) F1.length k2) := cell_of B2 rfl
  have q4 : w2.cell? ⟨bn, 4, none⟩ = some (.slice (some ⟨g3, 0, none⟩) E1.length k3) := cell_of B2 rfl
  clear B2
  go_upto_region 5 with (go_at_call 13; refine T28.mono ?_; rintro e w3 ⟨b1, rfl, ⟨l1, ⟨gs1, cs1, hs1, hb1, hg1, hn1⟩, hf1⟩, d3⟩)
  have H3 : Hid (IsSet w3 b1 gs1 cs1 N (metX l1 N) ∧ Below w2.heap.size w2 w3 ∧ w2.heap.size ≤ b1 ∧ w2.heap.size ≤ gs1 ∧ b1 ≠ gs1 ∧ Bfs N (fun q => (q : Int) ∈ S1) (stepE false E1) [] l1) := hide ⟨hs1, d3, hb1, hg1, hn1, hf1⟩
  clear hs1 hb1 hg1 hn1 hf1 d3 T28 q0 q1 q2 q3 q4
  have T30 := coreached_any w3 N mv _ _ _ k1 k2 k3 S1 F1 E1 (H2.out.2.2.1.on H3.out.2.1)
  have B2 := blk_on H2.out.1 H3.out.2.1
  have q0 : w3.cell? ⟨bn, 0, none⟩ = some (.int .i64 (N : Int)) := cell_of B2 rfl
  have q1 : w3.cell? ⟨bn, 1, none⟩ = some (.int .i64 mv) := cell_of B2 rfl
  have q2 : w3.cell? ⟨bn, 2, none⟩ = some (.slice (some ⟨g1, 0, none⟩) S1.length k1) := cell_of B2 rfl
  have q3 : w3.cell? ⟨bn, 3, none⟩ = some (.slice (some ⟨g2, 0, none⟩) F1.length k2) := cell_of B2 rfl
  have q4 : w3.cell? ⟨bn, 4, none⟩ = some (.slice (some ⟨g3, 0, none⟩) E1.length k3) := cell_of B2 rfl
  clear B2
  go_wp2_with fail
  refine T30.mono ?_
  rintro e w4 ⟨b2, rfl, ⟨l2, ⟨gs2, cs2, hs2, hb2, hg2, hn2⟩, hf2⟩, d4⟩
  have H4 : Hid (IsSet w4 b1 gs1 cs1 N (metX l1 N) ∧ IsSet w4 b2 gs2 cs2 N (metX l2 N) ∧ Below w2.heap.size w2 w4 ∧ metX l1 N &&& metX l2 N = UX ∧ b1 ≠ gs1 ∧ b2 ≠ gs1 ∧ gs2 ≠ gs1 ∧ w2.heap.size ≤ gs1) := hide (by
    have s1 := H3.out.1.blt
    have s2 := H3.out.1.own.lt gs1 rfl
    exact ⟨H3.out.1.below d4, hs2, H3.out.2.1.trans (d4.mono H3.out.2.1.size), HU.out _ _ _ _ H2.out.2.2.1 l1 l2 H3.out.2.2.2.2.2 hf2, H3.out.2.2.2.2.1, by omega, by omega, H3.out.2.2.2.1⟩)
  clear hs2 hb2 hg2 hn2 hf2 d4 T30 q0 q1 q2 q3 q4 HU H3
  have T29 := cut_g b1 gs1 cs1 N (metX l1 N) b2 gs2 cs2 (metX l2 N) w4 H4.out.1 H4.out.2.1 H4.out.2.2.2.2.1 H4.out.2.2.2.2.2.1 H4.out.2.2.2.2.2.2.1
  rw [H4.out.2.2.2.1] at T29
  go_wp2_with fail
  refine T29.mono ?_
  rintro e w5 ⟨rfl, hs5, hg5⟩
  have H5 : Hid (IsSet w5 b1 gs1 cs1 N UX ∧ Below w2.heap.size w2 w5) := hide ⟨hs5, H4.out.2.2.1.grown hg5 H4.out.2.2.1.size (fun k hk => by cases hk; exact H4.out.2.2.2.2.2.2.2)⟩
  clear hs5 hg5 T29 H4
  have HD5 : Hid (Below w.heap.size w w5) := hide (by
    have s1 := HB.out.2.2.2
    have s2 := H2.out.2.1.size
    exact (HB.out.1.trans (H2.out.2.1.mono (by omega))).trans (H5.out.2.mono (by omega)))
  have T31 := part_any w5 N mv _ _ _ k1 k2 k3 S1 F1 E1 b1 gs1 cs1 UX (hide (H2.out.2.2.1.on H5.out.2)) (hide H5.out.1) (hide (hT.out.below HD5.out h0)) (Nat.lt_of_lt_of_le h0 HD5.out.size)
  unfold PartP at T31
  have B2 := blk_on H2.out.1 H5.out.2
  have q0 : w5.cell? ⟨bn, 0, none⟩ = some (.int .i64 (N : Int)) := cell_of B2 rfl
  have q1 : w5.cell? ⟨bn, 1, none⟩ = some (.int .i64 mv) := cell_of B2 rfl
  have q2 : w5.cell? ⟨bn, 2, none⟩ = some (.slice (some ⟨g1, 0, none⟩) S1.length k1) := cell_of B2 rfl
  have q3 : w5.cell? ⟨bn, 3, none⟩ = some (.slice (some ⟨g2, 0, none⟩) F1.length k2) := cell_of B2 rfl
  have q4 : w5.cell? ⟨bn, 4, none⟩ = some (.slice (some ⟨g3, 0, none⟩) E1.length k3) := cell_of B2 rfl
  clear B2
  generalize elems N UX = LX at T31 HP
  go_wp2_with fail
  refine T31.mono ?_
  rintro e w6 ⟨v1, v2, v3, vo, rfl, o1, o2, o3, o4, d6, ap⟩
  obtain ⟨y1, z1, rfl⟩ := own_slice o1
  obtain ⟨y2, z2, rfl⟩ := own_slice o2
  obtain ⟨y3, z3, rfl⟩ := own_slice o3
  obtain ⟨yo, zo, rfl⟩ := own_slice o4
  have HAP := hide ap
  clear ap
  have H6 := hide (And.intro o1 (And.intro o2 (And.intro o3 (And.intro o4 d6))))
  clear o1 o2 o3 o4 d6 T31 q0 q1 q2 q3 q4
  go_upto_region 7 with fail
  obtain ⟨b7, hb7⟩ : ∃ k, w6.heap.size = k := ⟨_, rfl⟩
  rw [hb7]
  obtain ⟨w7, hw7⟩ : ∃ X, w6.alloc (.cells #[.int .i64 (LX.length : Int), .int .i64 mv, .slice y1 (renL UX (numT LX) S1).length z1, .slice y2 (renL UX (numT LX) F1).length z2, .slice y3 (renE UX (numT LX) E1).length z3] 25) = X := ⟨_, rfl⟩
  rw [hw7]
  have H7 : Hid (w7.heap[b7]? = some (.cells #[.int .i64 (LX.length : Int), .int .i64 mv, .slice y1 (renL UX (numT LX) S1).length z1, .slice y2 (renL UX (numT LX) F1).length z2, .slice y3 (renE UX (numT LX) E1).length z3] 25 (0, 0)) ∧ Below w6.heap.size w6 w7 ∧ w7.heap[w.heap.size + 1]? = some (.cells #[.int .i64 0, .int .i64 0, .slice none 0 0, .slice none 0 0, .slice none 0 0] 25 (0, 0)) ∧ w.heap.size + 2 ≤ w5.heap.size) := hide (by
    have d : Below w6.heap.size w6 w7 := by rw [← hw7]; exact (Below.refl _ _).alloc (Nat.le_refl _) _
    have s1 := HB.out.2.2.2
    have s2 := H2.out.2.1.size
    have s3 := H5.out.2.size
    exact ⟨by rw [← hw7, ← hb7]; exact World.alloc_heap_new _ _, d, blk_on (blk_on (blk_on (blk_on HB.out.2.2.1 H2.out.2.1) H5.out.2) H6.out.2.2.2.2) d, by omega⟩)
  clear hw7 hb7
  have B7 := H7.out.1
  have F3 := H7.out.2.2.1
  have q0 : w7.cell? ⟨b7, 0, none⟩ = some (.int .i64 (LX.length : Int)) := cell_of B7 rfl
  have q1 : w7.cell? ⟨b7, 1, none⟩ = some (.int .i64 mv) := cell_of B7 rfl
  have q2 : w7.cell? ⟨b7, 2, none⟩ = some (.slice y1 (renL UX (numT LX) S1).length z1) := cell_of B7 rfl
  have q3 : w7.cell? ⟨b7, 3, none⟩ = some (.slice y2 (renL UX (numT LX) F1).length z2) := cell_of B7 rfl
  have q4 : w7.cell? ⟨b7, 4, none⟩ = some (.slice y3 (renE UX (numT LX) E1).length z3) := cell_of B7 rfl
  have zc0 : w7.cell? ⟨w.heap.size + 1, 0, none⟩ = some (.int .i64 0) := cell_of F3 rfl
  have fz0 : w7.frozen? ⟨w.heap.size + 1, 0, none⟩ = false := fz_of F3
  have zc1 : w7.cell? ⟨w.heap.size + 1, 1, none⟩ = some (.int .i64 0) := cell_of F3 rfl
  have fz1 : w7.frozen? ⟨w.heap.size + 1, 1, none⟩ = false := fz_of F3
  have zc2 : w7.cell? ⟨w.heap.size + 1, 2, none⟩ = some (.slice none 0 0) := cell_of F3 rfl
  have fz2 : w7.frozen? ⟨w.heap.size + 1, 2, none⟩ = false := fz_of F3
  have zc3 : w7.cell? ⟨w.heap.size + 1, 3, none⟩ = some (.slice none 0 0) := cell_of F3 rfl
  have fz3 : w7.frozen? ⟨w.heap.size + 1, 3, none⟩ = false := fz_of F3
  have zc4 : w7.cell? ⟨w.heap.size + 1, 4, none⟩ = some (.slice none 0 0) := cell_of F3 rfl
  have fz4 : w7.frozen? ⟨w.heap.size + 1, 4, none⟩ = false := fz_of F3
  have O6 := hide (And.intro (set5 w7 (w.heap.size + 1) _ _ _ _ _ (.int .i64 (LX.length : Int)) (.int .i64 mv) (.slice y1 (renL UX (numT LX) S1).length z1) (.slice y2 (renL UX (numT LX) F1).length z2) (.slice y3 (renE UX (numT LX) E1).length z3) 25 F3) (only5 w7 (w.heap.size + 1) (.int .i64 (LX.length : Int)) (.int .i64 mv) (.slice y1 (renL UX (numT LX) S1).length z1) (.slice y2 (renL UX (numT LX) F1).length z2) (.slice y3 (renE UX (numT LX) E1).length z3)))
  clear B7 F3
  go_wp2_with fail
  refine bodyPost_ret (results_c2 (p := 2) (q := 3) (r := 4) (ty := 25) rfl _ _ (w.heap.size + 1) 25 _ (0, 0) _ _ _ rfl rfl rfl O6.out.1 Tryz.underlying25 rfl (by kernel_rfl)) rfl ?_
  have oo := O6.out.2
  have s0 := H7.out.2.2.2
  have s1 := HD5.out.size
  obtain ⟨o1, o2, o3, o4, d6⟩ := H6.out
  have p1 := own_below o1 H7.out.2.1
  have p2 := own_below o2 H7.out.2.1
  have p3 := own_below o3 H7.out.2.1
  have p4 := own_below o4 H7.out.2.1
  have dd : Below w.heap.size w w7 := (HD5.out.trans (d6.mono HD5.out.size)).trans (H7.out.2.1.mono (Nat.le_trans HD5.out.size d6.size))
  exact HP.out _ _ ⟨_, _, _, _, rfl, owns_down (row_only p1 oo (fun k hk e => by have := (p1.lt k hk).1; omega)) (by omega), owns_down (row_only p2 oo (fun k hk e => by have := (p2.lt k hk).1; omega)) (by omega), owns_down (row_only p3 oo (fun k hk e => by have := (p3.lt k hk).1; omega)) (by omega), owns_down (row_only p4 oo (fun k hk e => by have := (p4.lt k hk).1; omega)) (by omega), dd.trans (oo.toBelow dd.size (fun k hk => by omega)), HAP.out⟩
theorem trim_ok (w : World) (N : Nat) (mv : Int) (a1 a2 a3 : Option Addr) (c1 c2 c3 : Nat) (St Fi : List Int) (Ed : List EdT) (hA : Hid (RdA w a1 a2 a3 St Fi Ed)) (h1 : St.length ≤ 4194304) (h2 : Fi.length ≤ 4194304) (h3 : Ed.length ≤ 4194304) (hT : Hid (TabAt w)) (h0 : 0 < w.heap.size) (em : mayA (N : Int) mv St Fi Ed = true) :
    Calls Tryz.prog 5 #[.agg #[.int .i64 (N : Int), .int .i64 mv, .slice a1 St.length c1, .slice a2 Fi.length c2, .slice a3 Ed.length c3]] w fun e w' => TrmP w w' N mv St Fi Ed e := by
  refine (trim_q w N mv a1 a2 a3 c1 c2 c3 St Fi Ed hA h1 h2 h3 hT h0 em).mono ?_
  rintro e w' ⟨v1, v2, v3, vo, he, o1, o2, o3, o4, d, _⟩
  exact ⟨v1, v2, v3, vo, he, o1, o2, o3, o4, d⟩
end Go.Proofs.YtojnlpicgemlaabGreatDoor
namespace Go.Proofs.YtojnlpicgemlaabGreatDoor
open Go.RowKit Go.Maps Go.Shelf
attribute [local go_sem] Oper.semAt_some

/-! ### A set emptied, a number put into it -/
structure Raw (w : World) (b g cap n : Nat) (f : Nat → Nat) : Prop where
  blk : w.heap[b]? = some (.cells #[.int .i64 n, .slice (some ⟨g, 0, none⟩) (nw n) cap] 86 (0, 0))
  own : w.ownsRow 0 87 1 (.slice (some ⟨g, 0, none⟩) (nw n) cap) (nw n) ((List.range (nw n)).map fun k => .int .u64 (f k : Int))

theorem IsSet.raw {w : World} {b g cap n X : Nat} (h : IsSet w b g cap n X) : Raw w b g cap n (wordAt X) := ⟨h.blk, h.own⟩
theorem Raw.store {w : World} {b g cap n j v : Nat} {f f' : Nat → Nat} (h : Raw w b g cap n f) (hbg : b ≠ g) (ho : ∀ i, i < nw n → i ≠ j → f' i = f i) (hv : f' j = v) : Raw (w.setCell ⟨g, j, none⟩ (.int .u64 (v : Int))) b g cap n f' := by
  refine ⟨?_, ?_⟩
  · rw [heap_setCell_other w ⟨g, j, none⟩ b _ hbg]; exact h.blk
  · have := (h.own.stored j (.int .u64 (v : Int))).1
    have e : ((List.range (nw n)).map fun k => Value.int .u64 (f k : Int)).set j (.int .u64 (v : Int)) = (List.range (nw n)).map fun k => .int .u64 (f' k : Int) := by
      apply List.ext_getElem?
      intro i
      rw [List.getElem?_set]
      by_cases hi : i < nw n
      · by_cases hij : j = i
        · subst hij; simp [hi, hv]
        · simp [hij, hi, ho i hi (fun h => hij h.symm)]
      · by_cases hij : j = i
        · subst hij; simp [hi]
        · simp [hij, hi]
    rwa [e] at this
theorem Raw.isSet {w : World} {b g cap n X : Nat} {f : Nat → Nat} (h : Raw w b g cap n f) (hn : n ≤ 8192) (hX : X < 2 ^ n) (hf : ∀ i, i < nw n → f i = wordAt X i) : IsSet w b g cap n X := by
  refine ⟨hn, hX, h.blk, ?_⟩
  have e : (List.range (nw n)).map (fun k => Value.int .u64 (f k : Int)) = wordVals n X := by
    unfold wordVals
    apply List.map_congr_left
    intro i hi
    rw [hf i (List.mem_range.1 hi)]
  rw [← e]
  exact h.own

theorem Raw.zeros {b g cap n : Nat} (hbg : b ≠ g) : ∀ (m o : Nat) (w : World) (f : Nat → Nat), Raw w b g cap n f → Raw (w.setCells g o (List.replicate m (.int .u64 0))) b g cap n (fun i => if o ≤ i ∧ i < o + m then 0 else f i)
  | 0, o, w, f, h => by
    have e : (fun i => if o ≤ i ∧ i < o + 0 then 0 else f i) = f := by funext i; rw [if_neg (by omega)]
    rw [e]; exact h
  | m + 1, o, w, f, h => by
    have h1 := Raw.store (f' := fun i => if i = o then 0 else f i) (j := o) (v := 0) h hbg (fun i _ hne => if_neg hne) (if_pos rfl)
    have h2 := Raw.zeros hbg m (o + 1) _ _ h1
    have e : (fun i => if o + 1 ≤ i ∧ i < o + 1 + m then 0 else if i = o then 0 else f i) = (fun i => if o ≤ i ∧ i < o + (m + 1) then 0 else f i) := by
      funext i
      by_cases h1 : i = o
      · subst h1; rw [if_neg (by omega), if_pos rfl, if_pos (by omega)]
      · by_cases h2 : o + 1 ≤ i ∧ i < o + 1 + m
        · rw [if_pos h2, if_pos (by omega)]
        · rw [if_neg h2, if_neg h1, if_neg (by omega)]
    rw [e] at h2
    exact h2

theorem zero99 (w : World) : (zeroValue 87).run Tryz.prog w = .ok (.int .u64 0) w := by
  have h : Tryz.t87.zero = some (.int .u64 0) := by kernel_rfl
  simp [zeroValue, h]

set_option maxRecDepth 100000 in
set_option maxHeartbeats 1000000 in
theorem clear_any (b g cap n X : Nat) (w : World) (hs : IsSet w b g cap n X) (hbg : b ≠ g) :
    Calls Tryz.prog 75 #[.pointer (some ⟨b, 0, none⟩)] w fun e w' => e = .returned (.tuple #[]) ∧ IsSet w' b g cap n 0 ∧ w.grownBy w' (some g) := by
  have h1 := hs.c1
  have hcl : ∀ ty, (Builtin.clear_ #[84] ty #[.slice (some ⟨g, 0, none⟩) (nw n) cap]).run Tryz.prog w = .ok (.tuple #[]) (w.setCells g 0 (List.replicate (nw n) (.int .u64 0))) := by
    intro ty
    by_cases hz : 0 < nw n
    · exact Lib.run_clear_slice w _ _ ty _ Tryz.underlying84 zero99 rfl rfl g 0 _ _ hz (fun j hj => by rw [Nat.zero_add, hs.word j hj]; rfl) (fun j hj => hs.own.frozenAt _)
    · have : nw n = 0 := by omega
      rw [this]
      simp [Builtin.clear_, run_underlying Tryz.underlying84, World.setCells]
  obtain ⟨W1, hW1⟩ : ∃ W1, W1 = w.setCells g 0 (List.replicate (nw n) (.int .u64 0)) := ⟨_, rfl⟩
  rw [← hW1] at hcl
  have HW := hide hW1
  have HS := hide hs
  clear hs hW1
  go_enter Tryz.func75, Tryz.ntmps75
  go_wp2
  go_end0
  refine ⟨rfl, ?_, ?_⟩
  · rw [HW.out]
    exact (Raw.zeros hbg (nw n) 0 w _ HS.out.raw).isSet HS.out.hn (Nat.two_pow_pos _) (fun i hi => by rw [if_pos (by omega), wordAt_zero])
  · rw [HW.out]
    exact g_sets g _ 0 w w (g_refl _ _)

theorem only_drew {w w' : World} {R : Nat → Prop} (h : Only w w' R) : Only w w'.drew R := ⟨h.os, h.tape, h.output, h.size, h.block⟩
set_option maxRecDepth 100000 in
set_option maxHeartbeats 1000000 in
theorem add_only (b g cap n X j : Nat) (w : World) (hs : IsSet w b g cap n X) (hbg : b ≠ g) (hj : j < n) :
    Calls Tryz.prog 52 #[.pointer (some ⟨b, 0, none⟩), .int .i64 j] w fun e w' => e = .returned (.int .i64 0) ∧ IsSet w' b g cap n (X ||| 2 ^ j) ∧ Only w w' (fun k => k = g) := by
  have h0 := hs.c0
  have h1 := hs.c1
  have hn := hs.hn
  have hix : j / 64 < nw n := by unfold nw; omega
  have hw := hs.word (j / 64) hix
  have hfz : w.frozen? ⟨g, j / 64, none⟩ = false := hs.own.frozenAt _
  have HS := hide hs
  obtain ⟨q, hq⟩ : ∃ q, j / 64 = q := ⟨_, rfl⟩
  have hi2 : IntKind.i64.wrap ((j : Int) / 64) = (q : Int) := by rw [IntKind.wrap_i64]; omega
  rw [hq] at hix hw hfz
  have hi0 : (0 : Int) ≤ (q : Int) := by omega
  have hi1 : (q : Int) < (nw n : Int) := by omega
  have HQ := hide hq
  clear hs hq
  go_enter Tryz.func52, Tryz.ntmps52
  go_wp2_with (go_at_call 60; refine (inRange_yes b j n _ h0 (by omega)).mono ?_; rintro e w' ⟨rfl, hw⟩; obtain rfl := hw.symm; clear hw)
  go_region_with (go_at_call 61; refine (bit_any j _ (by omega) (by omega)).mono ?_; rintro e w' ⟨rfl, rfl⟩)
  all_goals go_wp2
  all_goals go_ret
  all_goals
    refine ⟨rfl, IsSet.drew (HS.out.store hbg hix (or_lt n X j HS.out.hX hj) (fun i _ hne => or_other X j i (by rw [HQ.out]; exact hne)) ?_), ?_⟩
    · rw [← HQ.out]
      have hm : (((j : Int) % 64).toNat) = j % 64 := by omega
      have := or_bit X j
      first
        | exact this
        | (simp only [hm]; exact this)
        | (simp only [hm]; simpa using this)
    · exact only_drew (only_set w g q _)
theorem KpU.ofBelow {B : Nat} {W W' : World} (h0 : 0 < W.heap.size) (d : Below W.heap.size W W') : KpU B W W' :=
  ⟨d.size, d.block 0 h0, fun b _ _ _ hc => (d.block b (Array.getElem?_eq_some_iff.1 hc).1).trans hc⟩
theorem KpU.ofOnly {B : Nat} {R : Nat → Prop} {W W' : World} (h0 : 0 < W.heap.size) (o : Only W W' R) (hg : ∀ k, R k → k < B ∧ k ≠ 0) : KpU B W W' :=
  ⟨o.size, o.block 0 h0 (fun e => (hg 0 e).2 rfl), fun b _ _ hb hc => (o.block b (Array.getElem?_eq_some_iff.1 hc).1 (fun e => by have := (hg b e).1; omega)).trans hc⟩
theorem KpU.put {B : Nat} (W : World) (l : Nat) (r r' : Loop) (hl : 0 < l) (h : W.heap[l]? = some (.loop r)) : KpU B W (W.putObj l (.loop r')) := by
  refine ⟨by simp [World.putObj], World.putObj_heap_other (by omega), fun b cs fr _ hc => ?_⟩
  refine (World.putObj_heap_other fun e => ?_).trans hc
  rw [e] at hc
  rw [h] at hc
  cases hc
/-! ### The closure: is a state as far from the end as is wanted? -/
set_option maxRecDepth 100000 in
set_option maxHeartbeats 1000000 in
theorem wanted_any (w : World) (b4 b5 gl N p : Nat) (l : Int) (len : Nat → Int) (h4 : w.cell? ⟨b4, 0, none⟩ = some (.slice (some ⟨gl, 0, none⟩) N N)) (h5 : w.cell? ⟨b5, 0, none⟩ = some (.int .i64 l)) (hM : Mrw w gl 3 N (fun c => .int .i64 (len c)) N) (hp : p < N) :
    Calls Tryz.prog 65 #[.int .i64 (p : Int), .pointer (some ⟨b4, 0, none⟩), .pointer (some ⟨b5, 0, none⟩)] w fun e w' => e = .returned (.bool (decide (len p = l))) ∧ ∃ q, w' = w.drewN q := by
  have p0 : (0 : Int) ≤ (p : Int) := by omega
  have p1 : (p : Int) < (N : Int) := by omega
  have c1 := hM.at p hp
  clear hM
  generalize len p = x at c1
  go_enter Tryz.func65, Tryz.ntmps65
  go_wp2_with fail
  go_quiet (fail)
  go_wp2_with fail
  go_ret
  exact ⟨by rw [Bool.beq_eq_decide_eq] <;> rfl, _, rfl⟩
end Go.Proofs.YtojnlpicgemlaabGreatDoor
