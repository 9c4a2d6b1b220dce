import Derived.Test.YtchoopnjckcohaaGreatQaa
import Derived.Below
import Derived.Deep.RegionHeld
import Derived.RangeFuncNested
import Derived.RangeFuncBound
import Derived.RangeFuncCalls
import Derived.RangeFuncLeaves
import Derived.RangeFuncBox
import Derived.Shelf.Abstract
import Derived.Shelf.RegionOpen
import Derived.OwnWalkIn
import Derived.TacticsInMore
import Derived.LoopNIn
import Derived.LoopIn
import Derived.Maps.AppendAt
namespace Go.Proofs.YtchoopnjckcohaaGreat
open Go.RowKit Go.Maps
attribute [local go_sem] Oper.semAt_some
/-! ### What is asked of a word; Normal -/
def wordErr (n m : Int) (St Fi : List Int) (Ed : List EdT) (Wd : List Int) : Int := if mayA n m St Fi Ed then if Wd.all (inB m) then 0 else 7 else 2
theorem results_c1 {P : Program} {fn : Func} {p q : Tmp} {ty : TypeId} (h : fn.results = #[.cell p ty, .tmp q]) (tmps : Array Value) (w : World) (g : Nat) (t : TypeId) (cs : Array Value) (fr : Nat × Nat) (d : TypeDesc) (x : Value)
    (hp : tmps.getD p undef = .pointer (some ⟨g, 0, none⟩)) (hq : tmps.getD q undef = x) (hg : w.heap[g]? = some (.cells cs t fr))
    (hu : P.underlying ty = some d) (hd : (match d with | .struct _ | .array _ _ => true | _ => false) = true) (hi : (P.info? ty).map (·.size) = some cs.size) :
    (results fn tmps).run P w = .ok (.tuple #[.agg cs, x]) w := by
  have hp' : tmps[p]?.getD undef = .pointer (some ⟨g, 0, none⟩) := by simpa using hp
  have hq' : tmps[q]?.getD undef = x := by simpa using hq
  simp [results, h, hp', hq', asAddr, run_loadVar_row w g t ty cs fr d hg hu hd hi]
/-- What lies in the box of a function that takes an automaton and answers one. -/
theorem box2 (w : World) (A Z : Array Value) (t : TypeId) : Below w.heap.size w ((w.alloc (.cells A t)).alloc (.cells Z t)) ∧ ((w.alloc (.cells A t)).alloc (.cells Z t)).heap[w.heap.size]? = some (.cells A t (0, 0)) ∧ ((w.alloc (.cells A t)).alloc (.cells Z t)).heap[w.heap.size + 1]? = some (.cells Z t (0, 0)) ∧ ((w.alloc (.cells A t)).alloc (.cells Z t)).heap.size = w.heap.size + 2 := by
  refine ⟨((Below.refl _ _).alloc (Nat.le_refl _) _).alloc (by simp) _, (Below.heap_alloc _ _ _ (by simp)).trans (World.alloc_heap_new _ _), ?_, by simp⟩
  have := World.alloc_heap_new (w.alloc (.cells A t)) (.cells Z t)
  simpa using this
set_option maxRecDepth 100000 in
set_option maxHeartbeats 1000000 in
theorem normal_bad (w : World) (n m : Int) (a1 a2 a3 : Option Addr) (c1 c2 c3 : Nat) (St Fi : List Int) (Ed : List EdT) (hA : Hid (RdA w a1 a2 a3 St Fi Ed)) (h1 : St.length ≤ 4194304) (h2 : Fi.length ≤ 4194304) (h3 : Ed.length ≤ 4194304) (em : mayA n m St Fi Ed = false) :
    Calls Tryz.prog 53 #[.agg #[.int .i64 n, .int .i64 m, .slice a1 St.length c1, .slice a2 Fi.length c2, .slice a3 Ed.length c3]] w fun e w' => e = .returned (.tuple #[.agg #[.int .i64 0, .int .i64 0, .slice none 0 0, .slice none 0 0, .slice none 0 0], .int .i64 2]) ∧ Below w.heap.size w w' := by
  obtain ⟨W0, hW0⟩ : ∃ W0, (w.alloc (.cells #[.int .i64 n, .int .i64 m, .slice a1 St.length c1, .slice a2 Fi.length c2, .slice a3 Ed.length c3] 25)).alloc (.cells #[.int .i64 0, .int .i64 0, .slice none 0 0, .slice none 0 0, .slice none 0 0] 25) = W0 := ⟨_, rfl⟩
  have HD := hide (box2 w #[.int .i64 n, .int .i64 m, .slice a1 St.length c1, .slice a2 Fi.length c2, .slice a3 Ed.length c3] #[.int .i64 0, .int .i64 0, .slice none 0 0, .slice none 0 0, .slice none 0 0] 25)
  rw [hW0] at HD
  have B0 := HD.out.2.1
  have T1 := valid_any W0 n m a1 a2 a3 c1 c2 c3 St Fi Ed (hide (hA.out.on HD.out.1)) h1 h2 h3
  have k0 : W0.cell? ⟨w.heap.size, 0, none⟩ = some (.int .i64 n) := cell_of B0 rfl
  have k1 : W0.cell? ⟨w.heap.size, 1, none⟩ = some (.int .i64 m) := cell_of B0 rfl
  have k2 : W0.cell? ⟨w.heap.size, 2, none⟩ = some (.slice a1 St.length c1) := cell_of B0 rfl
  have k3 : W0.cell? ⟨w.heap.size, 3, none⟩ = some (.slice a2 Fi.length c2) := cell_of B0 rfl
  have k4 : W0.cell? ⟨w.heap.size, 4, none⟩ = some (.slice a3 Ed.length c3) := cell_of B0 rfl
  clear B0
  rw [em] at T1
  have T1 : Calls Tryz.prog 71 #[.agg #[.int .i64 n, .int .i64 m, .slice a1 St.length c1, .slice a2 Fi.length c2, .slice a3 Ed.length c3]] W0 fun e w' => e = .returned (.int .i64 2) ∧ Below W0.heap.size W0 w' := T1
  go_enter Tryz.func53, Tryz.ntmps53
  go_upto_region 3 with (go_at_call 71; refine T1.mono ?_; rintro e w1 ⟨rfl, d1⟩)
  have F3 := blk_on HD.out.2.2.1 d1
  have o0 : w1.cell? ⟨w.heap.size + 1, 0, none⟩ = some (.int .i64 0) := cell_of F3 rfl
  have f0 : w1.frozen? ⟨w.heap.size + 1, 0, none⟩ = false := fz_of F3
  have o1 : w1.cell? ⟨w.heap.size + 1, 1, none⟩ = some (.int .i64 0) := cell_of F3 rfl
  have f1 : w1.frozen? ⟨w.heap.size + 1, 1, none⟩ = false := fz_of F3
  have o2 : w1.cell? ⟨w.heap.size + 1, 2, none⟩ = some (.slice none 0 0) := cell_of F3 rfl
  have f2 : w1.frozen? ⟨w.heap.size + 1, 2, none⟩ = false := fz_of F3
  have o3 : w1.cell? ⟨w.heap.size + 1, 3, none⟩ = some (.slice none 0 0) := cell_of F3 rfl
  have f3 : w1.frozen? ⟨w.heap.size + 1, 3, none⟩ = false := fz_of F3
  have o4 : w1.cell? ⟨w.heap.size + 1, 4, none⟩ = some (.slice none 0 0) := cell_of F3 rfl
  have f4 : w1.frozen? ⟨w.heap.size + 1, 4, none⟩ = false := fz_of F3
  have O6 := hide (And.intro (set5 w1 (w.heap.size + 1) _ _ _ _ _ (.int .i64 0) (.int .i64 0) (.slice none 0 0) (.slice none 0 0) (.slice none 0 0) 25 F3) (only5 w1 (w.heap.size + 1) (.int .i64 0) (.int .i64 0) (.slice none 0 0) (.slice none 0 0) (.slice none 0 0)))
  clear F3
  go_wp2_with fail
  refine bodyPost_ret (results_c1 (p := 2) (q := 3) (ty := 25) rfl _ _ (w.heap.size + 1) 25 _ (0, 0) _ _ rfl rfl O6.out.1 Tryz.underlying25 rfl (by kernel_rfl)) rfl ?_
  have z0 := HD.out.2.2.2
  have z1 := d1.size
  exact ⟨rfl, (HD.out.1.trans (d1.mono (by omega))).trans (O6.out.2.toBelow (by omega) (fun k hk => by omega))⟩
set_option maxRecDepth 100000 in
set_option maxHeartbeats 1000000 in
theorem normal_ok (w : World) (n m : Int) (a1 a2 a3 : Option Addr) (c1 c2 c3 : Nat) (St Fi : List Int) (Ed : List EdT) (hA : Hid (RdA w a1 a2 a3 St Fi Ed)) (h1 : St.length ≤ 4194304) (h2 : Fi.length ≤ 4194304) (h3 : Ed.length ≤ 4194304) (em : mayA n m St Fi Ed = true) :
    Calls Tryz.prog 53 #[.agg #[.int .i64 n, .int .i64 m, .slice a1 St.length c1, .slice a2 Fi.length c2, .slice a3 Ed.length c3]] w fun e w' => ∃ g1 k1 g2 k2 g3 k3, e = .returned (.tuple #[.agg #[.int .i64 n, .int .i64 m, .slice (some ⟨g1, 0, none⟩) (riseL St).length k1, .slice (some ⟨g2, 0, none⟩) (riseL Fi).length k2, .slice (some ⟨g3, 0, none⟩) (riseE Ed).length k3], .int .i64 0]) ∧ Own w.heap.size w' g1 k1 g2 k2 g3 k3 (riseL St) (riseL Fi) (riseE Ed) ∧ Below w.heap.size w w' := by
  obtain ⟨W0, hW0⟩ : ∃ W0, (w.alloc (.cells #[.int .i64 n, .int .i64 m, .slice a1 St.length c1, .slice a2 Fi.length c2, .slice a3 Ed.length c3] 25)).alloc (.cells #[.int .i64 0, .int .i64 0, .slice none 0 0, .slice none 0 0, .slice none 0 0] 25) = W0 := ⟨_, rfl⟩
  have HD := hide (box2 w #[.int .i64 n, .int .i64 m, .slice a1 St.length c1, .slice a2 Fi.length c2, .slice a3 Ed.length c3] #[.int .i64 0, .int .i64 0, .slice none 0 0, .slice none 0 0, .slice none 0 0] 25)
  rw [hW0] at HD
  have B0 := HD.out.2.1
  have T1 := valid_any W0 n m a1 a2 a3 c1 c2 c3 St Fi Ed (hide (hA.out.on HD.out.1)) h1 h2 h3
  have k0 : W0.cell? ⟨w.heap.size, 0, none⟩ = some (.int .i64 n) := cell_of B0 rfl
  have k1 : W0.cell? ⟨w.heap.size, 1, none⟩ = some (.int .i64 m) := cell_of B0 rfl
  have k2 : W0.cell? ⟨w.heap.size, 2, none⟩ = some (.slice a1 St.length c1) := cell_of B0 rfl
  have k3 : W0.cell? ⟨w.heap.size, 3, none⟩ = some (.slice a2 Fi.length c2) := cell_of B0 rfl
  have k4 : W0.cell? ⟨w.heap.size, 4, none⟩ = some (.slice a3 Ed.length c3) := cell_of B0 rfl
  clear B0
  rw [em] at T1
  have T1 : Calls Tryz.prog 71 #[.agg #[.int .i64 n, .int .i64 m, .slice a1 St.length c1, .slice a2 Fi.length c2, .slice a3 Ed.length c3]] W0 fun e w' => e = .returned (.int .i64 0) ∧ Below W0.heap.size W0 w' := T1
  have T2 := hide (fun (w1 : World) (d1 : Below W0.heap.size W0 w1) => inOrder_any w1 n m a1 a2 a3 c1 c2 c3 St Fi Ed (hide ((hA.out.on HD.out.1).on d1)) h1 h2 h3)
  generalize riseL St = S1 at T2 ⊢
  generalize riseL Fi = F1 at T2 ⊢
  generalize riseE Ed = E1 at T2 ⊢
  go_enter Tryz.func53, Tryz.ntmps53
  go_upto_region 4 with (go_at_call 71; refine T1.mono ?_; rintro e w1 ⟨rfl, d1⟩)
  have B1 := blk_on HD.out.2.1 d1
  have H1 := hide (And.intro d1 (blk_on HD.out.2.2.1 d1))
  have y0 : w1.cell? ⟨w.heap.size, 0, none⟩ = some (.int .i64 n) := cell_of B1 rfl
  have y1 : w1.cell? ⟨w.heap.size, 1, none⟩ = some (.int .i64 m) := cell_of B1 rfl
  have y2 : w1.cell? ⟨w.heap.size, 2, none⟩ = some (.slice a1 St.length c1) := cell_of B1 rfl
  have y3 : w1.cell? ⟨w.heap.size, 3, none⟩ = some (.slice a2 Fi.length c2) := cell_of B1 rfl
  have y4 : w1.cell? ⟨w.heap.size, 4, none⟩ = some (.slice a3 Ed.length c3) := cell_of B1 rfl
  clear k0 k1 k2 k3 k4 B1 d1 T1 hA
  go_wp2_with (go_at_call 72; refine (T2.out w1 H1.out.1).mono ?_; rintro e w2 ⟨g1, k1, g2, k2, g3, k3, rfl, hO, d2⟩; have F3 := blk_on H1.out.2 d2; have o0 : w2.cell? ⟨w.heap.size + 1, 0, none⟩ = some (.int .i64 0) := cell_of F3 rfl; have f0 : w2.frozen? ⟨w.heap.size + 1, 0, none⟩ = false := fz_of F3; have o1 : w2.cell? ⟨w.heap.size + 1, 1, none⟩ = some (.int .i64 0) := cell_of F3 rfl; have f1 : w2.frozen? ⟨w.heap.size + 1, 1, none⟩ = false := fz_of F3; have o2 : w2.cell? ⟨w.heap.size + 1, 2, none⟩ = some (.slice none 0 0) := cell_of F3 rfl; have f2 : w2.frozen? ⟨w.heap.size + 1, 2, none⟩ = false := fz_of F3; have o3 : w2.cell? ⟨w.heap.size + 1, 3, none⟩ = some (.slice none 0 0) := cell_of F3 rfl; have f3 : w2.frozen? ⟨w.heap.size + 1, 3, none⟩ = false := fz_of F3; have o4 : w2.cell? ⟨w.heap.size + 1, 4, none⟩ = some (.slice none 0 0) := cell_of F3 rfl; have f4 : w2.frozen? ⟨w.heap.size + 1, 4, none⟩ = false := fz_of F3; have H2 := hide (And.intro hO (And.intro d2 F3)); clear hO d2 F3)
  have O6 := hide (And.intro (set5 w2 (w.heap.size + 1) _ _ _ _ _ (.int .i64 n) (.int .i64 m) (.slice (some ⟨g1, 0, none⟩) S1.length k1) (.slice (some ⟨g2, 0, none⟩) F1.length k2) (.slice (some ⟨g3, 0, none⟩) E1.length k3) 25 H2.out.2.2) (only5 w2 (w.heap.size + 1) (.int .i64 n) (.int .i64 m) (.slice (some ⟨g1, 0, none⟩) S1.length k1) (.slice (some ⟨g2, 0, none⟩) F1.length k2) (.slice (some ⟨g3, 0, none⟩) E1.length k3)))
  refine bodyPost_ret (results_c1 (p := 2) (q := 3) (ty := 25) rfl _ _ (w.heap.size + 1) 25 _ (0, 0) _ _ rfl rfl O6.out.1 Tryz.underlying25 rfl (by kernel_rfl)) rfl ?_
  have z0 := HD.out.2.2.2
  have z1 := H1.out.1.size
  have z2 := H2.out.2.1.size
  obtain ⟨o1, o2, o3, n1, n2, n3⟩ := H2.out.1
  have q1 := own_at o1
  have q2 := own_at o2
  have q3 := own_at o3
  refine ⟨g1, k1, g2, k2, g3, k3, rfl, ⟨own_only (ownsRow_base (base := w1.heap.size) o1 (by omega)) O6.out.2 (by omega), own_only (ownsRow_base (base := w1.heap.size) o2 (by omega)) O6.out.2 (by omega), own_only (ownsRow_base (base := w1.heap.size) o3 (by omega)) O6.out.2 (by omega), n1, n2, n3⟩, ?_⟩
  exact ((HD.out.1.trans (H1.out.1.mono (by omega))).trans (H2.out.2.1.mono (by omega))).trans (O6.out.2.toBelow (by omega) (fun k hk => by omega))
/-! ### The states that are met -/
/-- An automaton that may be, and that can be read. -/
structure ArgA (w : World) (N : Nat) (mv : Int) (a1 a2 a3 : Option Addr) (St Fi : List Int) (Ed : List EdT) : Prop where
  may : mayA (N : Int) mv St Fi Ed = true
  rs : RdN w a1 St
  rf : RdN w a2 Fi
  re : RdE w a3 Ed
  ls : St.length ≤ 4194304
  lf : Fi.length ≤ 4194304
theorem ArgA.hN {w : World} {N : Nat} {mv : Int} {a1 a2 a3 : Option Addr} {St Fi : List Int} {Ed : List EdT} (h : ArgA w N mv a1 a2 a3 St Fi Ed) : N ≤ 4096 := by have := (may_parts h.may).1; omega
theorem ArgA.le {w : World} {N : Nat} {mv : Int} {a1 a2 a3 : Option Addr} {St Fi : List Int} {Ed : List EdT} (h : ArgA w N mv a1 a2 a3 St Fi Ed) : Ed.length ≤ 65536 := (may_parts h.may).2.2.1
theorem ArgA.ends {w : World} {N : Nat} {mv : Int} {a1 a2 a3 : Option Addr} {St Fi : List Int} {Ed : List EdT} (h : ArgA w N mv a1 a2 a3 St Fi Ed) (bk : Bool) : ∀ e ∈ Ed, ∃ p r : Nat, p < N ∧ r < N ∧ YtchoopnjckcohaaGreat.ends bk e = ((p : Int), (r : Int)) := fun e he => by
  obtain ⟨h1, _, h2⟩ := (may_parts h.may).2.2.2.2.2 e he
  cases bk
  · exact ⟨e.1.toNat, e.2.2.toNat, by omega, by omega, Prod.ext (show e.1 = _ by omega) (show e.2.2 = _ by omega)⟩
  · exact ⟨e.2.2.toNat, e.1.toNat, by omega, by omega, Prod.ext (show e.2.2 = _ by omega) (show e.1 = _ by omega)⟩
theorem all_in {N : Nat} {L : List Int} (h : L.all (inB (N : Int)) = true) : ∀ x ∈ L, ∃ q : Nat, q < N ∧ x = (q : Int) := fun x hx => by
  have := List.all_eq_true.1 h x hx
  unfold inB at this
  simp at this
  exact ⟨x.toNat, by omega, by omega⟩
theorem ArgA.ins {w : World} {N : Nat} {mv : Int} {a1 a2 a3 : Option Addr} {St Fi : List Int} {Ed : List EdT} (h : ArgA w N mv a1 a2 a3 St Fi Ed) : ∀ x ∈ St, ∃ q : Nat, q < N ∧ x = (q : Int) := all_in (may_parts h.may).2.2.2.1
theorem ArgA.inf {w : World} {N : Nat} {mv : Int} {a1 a2 a3 : Option Addr} {St Fi : List Int} {Ed : List EdT} (h : ArgA w N mv a1 a2 a3 St Fi Ed) : ∀ x ∈ Fi, ∃ q : Nat, q < N ∧ x = (q : Int) := all_in (may_parts h.may).2.2.2.2.1
/-! ### Reach, Coreach, Dist -/
theorem ArgA.on {w w' : World} {N : Nat} {mv : Int} {a1 a2 a3 : Option Addr} {St Fi : List Int} {Ed : List EdT} (h : ArgA w N mv a1 a2 a3 St Fi Ed) (d : Below w.heap.size w w') : ArgA w' N mv a1 a2 a3 St Fi Ed := ⟨h.may, h.rs.on d, h.rf.on d, h.re.on d, h.ls, h.lf⟩
/-! ### The least length; states renumbered -/
/-- A list of its own. -/
def OwnL (B : Nat) (w : World) (v : Value) (L : List Int) : Prop := w.ownsRow B 3 1 v L.length (L.map (Value.int .i64))
theorem OwnL.below {B : Nat} {w w' : World} {v : Value} {L : List Int} (h : OwnL B w v L) (d : Below w.heap.size w w') : OwnL B w' v L := row_only h (Only.ofBelow (R := fun _ => False) d) (fun _ _ => id)
/-! ### The document's masks -/
theorem info4 : (Tryz.prog.info? 4).map (fun i => (i.zero, i.size, i.bytes)) = some (some (.bool false), 1, 1) := by kernel_rfl
/-- A mask of N truths in new memory. -/
def MaskG (B : Nat) (w : World) (g N : Nat) (M : Nat → Bool) : Prop := B ≤ g ∧ Mrw w g 4 N (fun q => .bool (M q)) N
theorem MaskG.below {B : Nat} {w w' : World} {g N : Nat} {M : Nat → Bool} (h : MaskG B w g N M) (d : Below w.heap.size w w') : MaskG B w' g N M := ⟨h.1, h.2.below d h.2.lt⟩
theorem mask_made {B : Nat} {w1 : World} {g N : Nat} (h : w1.ownsRow B 4 1 (.slice (some ⟨g, 0, none⟩) N N) N (madeCells #[.bool false] N).toList) : MaskG B w1 g N (fun _ => false) := by
  rw [toList_madeCells_one] at h
  rcases h.2 with ⟨hv, _⟩ | ⟨g', cap', cur, hv, hb, hg, h1, h2, h3, h4⟩
  · cases hv
  · cases hv
    refine ⟨hb, cur, hg, by omega, fun j hj => ?_⟩
    rw [List.take_of_length_le (by simp; omega)] at h4
    have : cur.toList[j]? = some (.bool false) := by rw [h4]; simp [hj]
    simpa using this
theorem MaskG.set {B : Nat} {w : World} {g N : Nat} {M : Nat → Bool} (h : MaskG B w g N M) (p : Nat) : MaskG B (w.setCell ⟨g, p, none⟩ (.bool true)) g N (fun q => decide (q = p) || M q) := by
  refine ⟨h.1, (h.2.upd p _).congr fun c _ => ?_⟩
  by_cases e : c = p
  · simp [e]
  · simp [e]
theorem MaskG.congr {B : Nat} {w : World} {g N : Nat} {M M' : Nat → Bool} (h : MaskG B w g N M) (e : ∀ q, q < N → M q = M' q) : MaskG B w g N M' := ⟨h.1, h.2.congr fun c hc => by rw [e c hc]⟩
/-! ### The document's Dist -/
/-- What is known of the shortest ways when all shorter than n were looked at. -/
def DstQ (W : Nat → Nat → Prop) (n q : Nat) (x : Int) : Prop := (x = -1 ∧ ∀ k, k < n → ¬ W k q) ∨ ∃ k : Nat, k < n ∧ x = (k : Int) ∧ W k q ∧ ∀ j, j < k → ¬ W j q
theorem DstQ.next {W : Nat → Nat → Prop} {n q : Nat} {x : Int} (h : DstQ W n q x) (hw : W n q → 0 ≤ x) : DstQ W (n + 1) q x := by
  rcases h with ⟨h1, h2⟩ | ⟨k, h1, h2, h3, h4⟩
  · refine .inl ⟨h1, fun k hk hW => ?_⟩
    by_cases e : k = n
    · subst e; have := hw hW; omega
    · exact h2 k (by omega) hW
  · exact .inr ⟨k, by omega, h2, h3, h4⟩
theorem DstQ.put {W : Nat → Nat → Prop} {n q : Nat} {x : Int} (h : DstQ W n q x) (hx : x < 0) (hw : W n q) : DstQ W (n + 1) q (n : Int) := by
  rcases h with ⟨h1, h2⟩ | ⟨k, h1, h2, h3, h4⟩
  · exact .inr ⟨n, by omega, rfl, hw, h2⟩
  · omega
/-! ### What both seats name alike -/
/-! ### Numbers, laid anew -/
def padN (l : List Int) (j : Nat) : Value := if h : j < l.length then .int .i64 l[j] else .int .i64 (-77)
/-! ### An automaton, laid anew -/
def edPad (E : List EdT) (j : Nat) : Value := if h : j / 3 < E.length then (if j % 3 = 0 then .int .i64 E[j / 3].1 else if j % 3 = 1 then .int .i64 E[j / 3].2.1 else .int .i64 E[j / 3].2.2) else (if j % 3 = 0 then .int .i64 (-77) else .int .i64 0)
/-- A twin of an automaton. -/
structure TwA (W : World) (b1 b2 b3 : Nat) (St Fi : List Int) (Ed : List EdT) : Prop where
  s : Mrw W b1 3 (St.length + 64) (padN St) (St.length + 64)
  f : Mrw W b2 3 (Fi.length + 64) (padN Fi) (Fi.length + 64)
  e : Mrw W b3 50 ((Ed.length + 64) * 3) (edPad Ed) ((Ed.length + 64) * 3)
  ne : b1 ≠ b2
theorem TwA.on {W W' : World} {b1 b2 b3 : Nat} {St Fi : List Int} {Ed : List EdT} (h : TwA W b1 b2 b3 St Fi Ed) (d : Below W.heap.size W W') : TwA W' b1 b2 b3 St Fi Ed := ⟨h.s.below d h.s.lt, h.f.below d h.f.lt, h.e.below d h.e.lt, h.ne⟩
/-! ### An automaton that is written over -/
/-! ### Reach, Coreach and Dist: what both answer -/
/-- A list that is read. -/
def LA (w : World) (v : Value) (L : List Int) : Prop := ∃ a cap, v = .slice a L.length cap ∧ RdN w a L
theorem LA.on {w w' : World} {v : Value} {L : List Int} (h : LA w v L) (d : Below w.heap.size w w') : LA w' v L := by
  obtain ⟨a, cap, e, hr⟩ := h
  exact ⟨a, cap, e, hr.on d⟩
theorem ArgA.hS {w : World} {N : Nat} {mv : Int} {a1 a2 a3 : Option Addr} {St Fi : List Int} {Ed : List EdT} (h : ArgA w N mv a1 a2 a3 St Fi Ed) (bk : Bool) : ∀ q : Nat, ((q : Int) ∈ if bk then Fi else St) → q < N := fun q hq => by
  cases bk
  · obtain ⟨p, hp, e⟩ := h.ins _ hq
    omega
  · obtain ⟨p, hp, e⟩ := h.inf _ hq
    omega
theorem ArgA.hE {w : World} {N : Nat} {mv : Int} {a1 a2 a3 : Option Addr} {St Fi : List Int} {Ed : List EdT} (h : ArgA w N mv a1 a2 a3 St Fi Ed) (bk : Bool) : ∀ p q, stepE bk Ed p q → q < N := fun p q hq => by
  obtain ⟨e, he, e1⟩ := hq
  obtain ⟨p', r', _, hr, e2⟩ := h.ends bk e he
  rw [e2] at e1
  have := congrArg Prod.snd e1
  simp only at this
  omega
end Go.Proofs.YtchoopnjckcohaaGreat
namespace Go.Proofs.YtchoopnjckcohaaGreat
open Go.RowKit
/-! ### A region whose first operations make things, in whatever order, and whose others wait for all of them -/
def cntM (f : Nat → Bool) : Nat → Nat
  | 0 => 0
  | n + 1 => cntM f n + (if f n then 1 else 0)
theorem cntM_same {f g : Nat → Bool} {n : Nat} (h : ∀ i, i < n → g i = f i) : cntM g n = cntM f n := by
  induction n with
  | zero => rfl
  | succ n ih => simp only [cntM]; rw [ih (fun i hi => h i (by omega)), h n (by omega)]
theorem cntM_drop {f g : Nat → Bool} {j : Nat} (hj : f j = true) (gj : g j = false) (h : ∀ i, i ≠ j → g i = f i) : ∀ n, j < n → cntM g n + 1 = cntM f n
  | 0, hn => by omega
  | n + 1, hn => by
    simp only [cntM]
    rcases Nat.lt_or_ge j n with h1 | h1
    · have := cntM_drop hj gj h n h1
      rw [h n (by omega)]
      omega
    · have e : j = n := by omega
      subst e
      rw [cntM_same (f := f) (g := g) (fun i hi => h i (by omega)), hj, gj]
      simp
theorem cntM_least {f : Nat → Bool} : ∀ n, 0 < cntM f n → ∃ i, i < n ∧ f i = true ∧ ∀ j, j < i → f j = false
  | 0, h => by simp [cntM] at h
  | n + 1, h => by
    rcases Nat.eq_zero_or_pos (cntM f n) with h0 | h0
    · refine ⟨n, by omega, ?_, ?_⟩
      · simp only [cntM, h0] at h
        cases hf : f n with
        | true => rfl
        | false => rw [hf] at h; simp at h
      · intro j hj
        cases hf : f j with
        | false => rfl
        | true =>
          exfalso
          have : ∀ n, j < n → 0 < cntM f n := by
            intro n
            induction n with
            | zero => intro h; omega
            | succ n ih =>
              intro h
              simp only [cntM]
              rcases Nat.lt_or_ge j n with h1 | h1
              · have := ih h1; omega
              · have e : j = n := by omega
                subst e; rw [hf]; simp
          have := this n hj
          omega
    · obtain ⟨i, h1, h2, h3⟩ := cntM_least n h0
      exact ⟨i, by omega, h2, h3⟩
theorem cntM_zero {f : Nat → Bool} : ∀ n, cntM f n = 0 → ∀ i, i < n → f i = false
  | 0, _, i, h => by omega
  | n + 1, h, i, hi => by
    simp only [cntM] at h
    rcases Nat.lt_or_ge i n with h1 | h1
    · exact cntM_zero n (by omega) i h1
    · have e : i = n := by omega
      subst e
      cases hf : f i with
      | false => rfl
      | true => rw [hf] at h; simp at h
section
variable {P : Program} {ops : Array Oper} {Q : Exit → Act → World → Prop}
def updV (y : Nat → Value) (i : Nat) (x : Value) : Nat → Value := fun j => if j = i then x else y j
/-- What is asked of one of the first operations. -/
def Hop (P : Program) (ops : Array Oper) (Q : Exit → Act → World → Prop) (w : World) (fill : (Nat → Value) → Act) (Φ : Nat → Value → Nat → Nat → World → Prop) (i : Nat) (o : Oper) : Prop :=
  ∀ (y : Nat → Value) (W : World), Below w.heap.size w W → (∀ e ∈ o.after, Region.binds .any e = true → ∃ lo hi, hi ≤ W.heap.size ∧ Φ e.on (y e.on) lo hi W) →
    ∀ K : Act → World → Prop, Shut (∀ x a' W', Below W.heap.size W W' → Φ i x W.heap.size W'.heap.size W' → a' = fill (updV y i x) → K a' W') → if Region.wanted o (yielded ops (fill y).tmps) = true then Oper.wp P o (fill y) W K Q else K ((fill y).put o.dst undef) W
def Hops (P : Program) (ops : Array Oper) (Q : Exit → Act → World → Prop) (w : World) (fill : (Nat → Value) → Act) (Φ : Nat → Value → Nat → Nat → World → Prop) : Nat → List Oper → Prop
  | _, [] => True
  | k, o :: r => Hop P ops Q w fill Φ k o ∧ Hops P ops Q w fill Φ (k + 1) r
theorem Hops.at {w : World} {fill : (Nat → Value) → Act} {Φ : Nat → Value → Nat → Nat → World → Prop} : ∀ (l : List Oper) (k i : Nat) (o : Oper), Hops P ops Q w fill Φ k l → l[i]? = some o → Hop P ops Q w fill Φ (k + i) o
  | [], _, _, _, _, h => by simp at h
  | o' :: r, k, 0, o, H, h => by simp at h; subst h; exact H.1
  | o' :: r, k, i + 1, o, H, h => by
    have := Hops.at r (k + 1) i o H.2 (by simpa using h)
    rwa [show k + 1 + i = k + (i + 1) by omega] at this
/-- What has been made, one thing after the other. -/
structure Made (w : World) (Φ : Nat → Value → Nat → Nat → World → Prop) (ops : Array Oper) (n : Nat) (is : Nat → Bool) (y : Nat → Value) (lo hi : Nat → Nat) (W : World) : Prop where
  d : Below w.heap.size w W
  fact : ∀ i, i < n → is i = true → Φ i (y i) (lo i) (hi i) W
  at' : ∀ i, i < n → is i = true → w.heap.size ≤ lo i ∧ lo i ≤ hi i ∧ hi i ≤ W.heap.size
  apart : ∀ i j, i < n → j < n → is i = true → is j = true → i ≠ j → hi i ≤ lo j ∨ hi j ≤ lo i
  order : ∀ j o e, j < n → is j = true → ops[j]? = some o → e ∈ o.after → Region.binds .any e = true → hi e.on ≤ lo j
def depsB (ops : Array Oper) (n : Nat) : Bool := (List.range n).all fun i => match ops[i]? with
  | none => false
  | some o => o.after.all fun e => !Region.binds .any e || decide (e.on < i)
theorem depsB_at {n : Nat} (h : depsB ops n = true) {i : Nat} (hi : i < n) : ∃ o, ops[i]? = some o ∧ ∀ e ∈ o.after, Region.binds .any e = true → e.on < i := by
  unfold depsB at h
  rw [List.all_eq_true] at h
  have := h i (List.mem_range.2 hi)
  split at this
  · cases this
  · rename_i o ho
    refine ⟨o, ho, fun e he hb => ?_⟩
    rw [Array.all_eq_true_iff_forall_mem] at this
    have := this e he
    rw [hb] at this
    simpa using this
theorem line_more {L : List Oper} : ∀ (x k : Nat) (listed : Array Bool) (a : Act) (w : World), (∀ j o, L[j]? = some o → ops[k + j]? = some o) →
    lineB .any ops L.length k listed = true → wpList P ops Q L a w → wpAny P .any ops Q (L.length + x) listed a w := by
  induction L with
  | nil =>
    intro x k listed a w _ hB h
    have hr : Region.ready .any ops listed = [] := by simpa [lineB] using hB
    cases x with
    | zero => exact ⟨hr, h⟩
    | succ x => exact ⟨fun _ => h, fun i hi => by rw [hr] at hi; cases hi⟩
  | cons o L ih =>
    intro x k listed a w hl hB h
    have h0 : ops[k]? = some o := hl 0 o rfl
    simp only [List.length_cons, lineB, Bool.and_eq_true, decide_eq_true_eq] at hB
    obtain ⟨hr, hB'⟩ := hB
    rw [List.length_cons, show L.length + 1 + x = (L.length + x) + 1 by omega]
    refine ⟨fun h1 => (by rw [hr] at h1; cases h1), fun j hj => ?_⟩
    rw [hr] at hj
    obtain rfl := List.mem_singleton.1 hj
    have NX : ∀ a' w', wpList P ops Q L a' w' → wpAny P .any ops Q (L.length + x) (listed.setIfInBounds j true) a' w' := fun a' w' =>
      ih x (j + 1) _ a' w' (fun i o' ho => by have := hl (i + 1) o' (by simpa using ho); simpa [Nat.add_assoc, Nat.add_comm 1 i] using this) hB'
    unfold wpOp
    simp only [h0]
    unfold wpList at h
    split
    · rename_i hw
      rw [if_pos hw] at h
      exact h.imp (Oper.wp_mono NX) id
    · rename_i hw
      rw [if_neg hw] at h
      exact NX _ _ h
/-- Asked of a region's text. -/
def makeB (ops : Array Oper) (n : Nat) : Bool := Nat.ble n ops.size && phasedB .any ops n && depsB ops n && lineB .any ops (ops.size - n) n (Array.ofFn (n := ops.size) fun i => decide (i.1 < n))
def fills : Nat → List Oper → (Nat → Value) → Act → Act
  | _, [], _, a => a
  | k, o :: r, y, a => fills (k + 1) r y (a.put o.dst (y k))
def firstY (l : List Oper) (a : Act) (i : Nat) : Value := match l[i]? with
  | none => undef
  | some o => match o.dst with
    | none => undef
    | some d => a.tmps.getD d undef
theorem put_self (a : Act) (d : Nat) : a.put (some d) (a.tmps.getD d undef) = a := by
  unfold Act.put
  have : a.tmps.setIfInBounds d (a.tmps.getD d undef) = a.tmps := by
    refine Array.ext (by simp) (fun i h1 h2 => ?_)
    by_cases e : d = i
    · subst e
      simp [h2]
    · rw [Array.getElem_setIfInBounds_ne (by simpa using h1) e]
  simp only [this]
theorem fills_self (l : List Oper) (a : Act) : ∀ (r : List Oper) (k : Nat), (∀ j o, r[j]? = some o → l[k + j]? = some o) → fills k r (firstY l a) a = a
  | [], _, _ => rfl
  | o :: r, k, h => by
    have h0 : l[k]? = some o := h 0 o rfl
    have e : a.put o.dst (firstY l a k) = a := by
      unfold firstY
      rw [h0]
      show a.put o.dst (match o.dst with
        | none => undef
        | some d => a.tmps.getD d undef) = a
      cases o.dst with
      | none => rfl
      | some d => exact put_self a d
    unfold fills
    rw [e]
    exact fills_self l a r (k + 1) (fun j o' ho => by have := h (j + 1) o' (by simpa using ho); rwa [show k + 1 + j = k + (j + 1) by omega])
abbrev MkP := Value → Nat → Nat → World → Prop
def MonoP (p : MkP) : Prop := ∀ x lo hi W W', hi ≤ W.heap.size → Below W.heap.size W W' → p x lo hi W → p x lo hi W'
def MonoL : List MkP → Prop
  | [] => True
  | p :: r => MonoP p ∧ MonoL r
def phiL (L : List MkP) (i : Nat) : MkP := L.getD i (fun _ _ _ _ => True)
theorem MonoL.at : ∀ (L : List MkP) (i : Nat), MonoL L → MonoP (phiL L i)
  | [], _, _ => fun _ _ _ _ _ _ _ h => h
  | _ :: _, 0, h => h.1
  | _ :: r, i + 1, h => MonoL.at r i h.2
end
/-! ### A region whose operations come in whatever order, each with a fact of its own; a fact may be given up -/
section
variable {P : Program} {ops : Array Oper} {Q : Exit → Act → World → Prop}
/-- Is a value handed over? -/
def ndB (e : Edge) : Bool := match e.ground with
  | .data => true
  | .guard => true
  | _ => false
/-- What is known of an operation that has come up; whose values it speaks of besides; whose facts end with it. -/
structure It where
  reads : List Nat
  ret : List Nat
  p : (Nat → Value) → Nat → Nat → World → Prop
def itL (L : List It) (i : Nat) : It := L.getD i ⟨[], [], fun _ _ _ _ => True⟩
/-- What memory that is only added to leaves as it is. -/
def MonI (i : Nat) (t : It) : Prop := ∀ y y' lo hi W W', hi ≤ W.heap.size → Below W.heap.size W W' → (∀ j, j = i ∨ j ∈ t.reads → y' j = y j) → t.p y lo hi W → t.p y' lo hi W'
def MonIL : Nat → List It → Prop
  | _, [] => True
  | k, t :: r => MonI k t ∧ MonIL (k + 1) r
theorem MonIL.at : ∀ (L : List It) (k i : Nat), MonIL k L → MonI (k + i) (itL L i)
  | [], _, _, _ => fun _ _ _ _ _ _ _ _ _ h => h
  | _ :: _, _, 0, h => h.1
  | _ :: r, k, i + 1, h => by
    have := MonIL.at r (k + 1) i h.2
    rwa [show k + 1 + i = k + (i + 1) by omega] at this
/-- What a step leaves as it is. -/
def Stp (w : World) (L : List It) (i : Nat) (y : Nat → Value) (W W' : World) : Prop := Below w.heap.size w W' ∧ W.heap.size ≤ W'.heap.size ∧ ∀ j, j ≠ i → j ∉ (itL L i).ret → ∀ lo hi, hi ≤ W.heap.size → (itL L j).p y lo hi W → (itL L j).p y lo hi W'
theorem stp_of {w : World} {L : List It} {i : Nat} {y : Nat → Value} {W W' : World} (hm : MonIL 0 L) (d : Below w.heap.size w W) (d1 : Below W.heap.size W W') : Stp w L i y W W' :=
  ⟨d.trans (d1.mono d.size), d1.size, fun j _ _ lo hi hs h => by
    have := MonIL.at L 0 j hm y y lo hi W W' hs d1 (fun _ _ => rfl)
    exact this h⟩
def HopI (P : Program) (ops : Array Oper) (Q : Exit → Act → World → Prop) (w : World) (fill : (Nat → Value) → Act) (L : List It) (i : Nat) (o : Oper) : Prop :=
  ∀ (y : Nat → Value) (W : World), Below w.heap.size w W → (∀ e ∈ o.after, Region.binds .any e = true → ndB e = true → ∃ lo hi, w.heap.size ≤ lo ∧ hi ≤ W.heap.size ∧ (itL L e.on).p y lo hi W) →
    ∀ K : Act → World → Prop, Shut (∀ x a' W', Stp w L i y W W' → (itL L i).p (updV y i x) W.heap.size W'.heap.size W' → a' = fill (updV y i x) → K a' W') → if Region.wanted o (yielded ops (fill y).tmps) = true then Oper.wp P o (fill y) W K Q else K ((fill y).put o.dst undef) W
def HopsI (P : Program) (ops : Array Oper) (Q : Exit → Act → World → Prop) (w : World) (fill : (Nat → Value) → Act) (L : List It) : Nat → List Oper → Prop
  | _, [] => True
  | k, o :: r => HopI P ops Q w fill L k o ∧ HopsI P ops Q w fill L (k + 1) r
theorem HopsI.at {w : World} {fill : (Nat → Value) → Act} {L : List It} : ∀ (l : List Oper) (k i : Nat) (o : Oper), HopsI P ops Q w fill L k l → l[i]? = some o → HopI P ops Q w fill L (k + i) o
  | [], _, _, _, _, h => by simp at h
  | o' :: r, k, 0, o, H, h => by simp at h; subst h; exact H.1
  | o' :: r, k, i + 1, o, H, h => by
    have := HopsI.at r (k + 1) i o H.2 (by simpa using h)
    rwa [show k + 1 + i = k + (i + 1) by omega] at this
/-- What has come up. -/
structure MadeI (w : World) (L : List It) (ops : Array Oper) (n : Nat) (is : Nat → Bool) (y : Nat → Value) (lo hi : Nat → Nat) (W : World) : Prop where
  d : Below w.heap.size w W
  fact : ∀ i, i < n → is i = true → (∀ k, k < n → is k = true → i ∉ (itL L k).ret) → (itL L i).p y (lo i) (hi i) W
  at' : ∀ i, i < n → is i = true → w.heap.size ≤ lo i ∧ lo i ≤ hi i ∧ hi i ≤ W.heap.size
  apart : ∀ i j, i < n → j < n → is i = true → is j = true → i ≠ j → hi i ≤ lo j ∨ hi j ≤ lo i
  order : ∀ j o e, j < n → is j = true → ops[j]? = some o → e ∈ o.after → Region.binds .any e = true → hi e.on ≤ lo j
/-- Asked of the region's text: a fact that ends with k is wanted by none that may come behind k; a fact speaks of none that may come behind it. -/
def retB (ops : Array Oper) (n : Nat) (rs rd : List (List Nat)) : Bool :=
  ((List.range n).all fun k => (rs.getD k []).all fun j => (List.range n).all fun i => match ops[i]? with
    | none => false
    | some o => decide (i = k) || o.after.all (fun e => !Region.binds .any e || !ndB e || !(e.on == j)) || waitsL .any ops ops.size k i) &&
  ((List.range n).all fun k => (rd.getD k []).all fun j => waitsL .any ops ops.size k j)
theorem getD_map {α β : Type} (f : α → β) : ∀ (L : List α) (i : Nat) (d : α), (L.map f).getD i (f d) = f (L.getD i d)
  | [], _, _ => rfl
  | _ :: _, 0, _ => rfl
  | _ :: _, _ + 1, _ => by simp
theorem retB_at {n : Nat} {L : List It} (h : retB ops n (L.map It.ret) (L.map It.reads) = true) {k j i : Nat} {o : Oper} {e : Edge} (hk : k < n) (hi : i < n) (hne : i ≠ k) (hj : j ∈ (itL L k).ret) (ho : ops[i]? = some o) (he : e ∈ o.after) (hb : Region.binds .any e = true) (hnd : ndB e = true) (hej : e.on = j) : waitsL .any ops ops.size k i = true := by
  unfold retB at h
  rw [Bool.and_eq_true] at h
  have h := h.1
  rw [List.all_eq_true] at h
  have h1 := h k (List.mem_range.2 hk)
  rw [List.all_eq_true] at h1
  have e1 : (L.map It.ret).getD k [] = (itL L k).ret := getD_map It.ret L k ⟨[], [], fun _ _ _ _ => True⟩
  rw [e1] at h1
  have h2 := h1 j hj
  rw [List.all_eq_true] at h2
  have h3 := h2 i (List.mem_range.2 hi)
  rw [ho] at h3
  simp only [Bool.or_eq_true, decide_eq_true_eq] at h3
  rcases h3 with (h3 | h3) | h3
  · exact absurd h3 hne
  · rw [Array.all_eq_true_iff_forall_mem] at h3
    have := h3 e he
    rw [hb, hnd, hej] at this
    simp at this
  · exact h3
theorem readB_at {n : Nat} {L : List It} (h : retB ops n (L.map It.ret) (L.map It.reads) = true) {k j : Nat} (hk : k < n) (hj : j ∈ (itL L k).reads) : waitsL .any ops ops.size k j = true := by
  unfold retB at h
  rw [Bool.and_eq_true] at h
  have h := h.2
  rw [List.all_eq_true] at h
  have h1 := h k (List.mem_range.2 hk)
  rw [List.all_eq_true] at h1
  have e1 : (L.map It.reads).getD k [] = (itL L k).reads := getD_map It.reads L k ⟨[], [], fun _ _ _ _ => True⟩
  rw [e1] at h1
  exact h1 j hj
theorem waits_listed {listed : Array Bool} (hc : ClosedL .any ops listed) {k j f : Nat} (hw : waitsL .any ops f k j = true) (hk : listed.getD k true = true) : listed.getD j true = true := by
  cases hj : listed.getD j true with
  | true => rfl
  | false =>
    obtain ⟨e, oj, h1, h2, h3, h4⟩ := waits_un hc hj f k hw
    have := hc k oj h1 hk e h2 h3
    rw [this] at h4
    cases h4
theorem st_go {w : World} {fill : (Nat → Value) → Act} {L : List It} {n : Nat} {l2 : List Oper} {l1 : List Oper}
    (hp : phasedB .any ops n = true) (hdep : depsB ops n = true) (hret : retB ops n (L.map It.ret) (L.map It.reads) = true) (hl1 : ∀ j o, l1[j]? = some o ↔ (j < n ∧ ops[j]? = some o)) (hl2 : ∀ j o, l2[j]? = some o → ops[n + j]? = some o)
    (hline : ∀ listed : Array Bool, listed.size = ops.size → (∀ i, listed.getD i true = decide (i < n ∨ ops.size ≤ i)) → lineB .any ops l2.length n listed = true)
    (hmono : MonIL 0 L) (hop : HopsI P ops Q w fill L 0 l1)
    (hfin : ∀ y lo hi W, MadeI w L ops n (fun _ => true) y lo hi W → wpList P ops Q l2 (fill y) W) :
    ∀ (m : Nat) (x : Nat) (listed : Array Bool) (y : Nat → Value) (lo hi : Nat → Nat) (W : World), listed.size = ops.size → (∀ i, n ≤ i → i < ops.size → listed.getD i true = false) → ClosedL .any ops listed → cntM (fun i => !listed.getD i true) n = m →
      MadeI w L ops n (fun i => listed.getD i true) y lo hi W → wpAny P .any ops Q (l2.length + m + x) listed (fill y) W := by
  intro m
  induction m with
  | zero =>
    intro x listed y lo hi W hsz hge hc hcnt hM
    have hall : ∀ i, i < n → listed.getD i true = true := fun i hi => by
      have := cntM_zero n hcnt i hi
      simpa using this
    refine line_more x n listed (fill y) W hl2 (hline listed hsz ?_) (hfin y lo hi W ?_)
    · intro i
      rcases Nat.lt_or_ge i n with h | h
      · rw [hall i h]; simp [h]
      · rcases Nat.lt_or_ge i ops.size with h2 | h2
        · rw [hge i h h2]; symm; simp; omega
        · rw [show listed.getD i true = true by simp [Array.getElem?_eq_none (show listed.size ≤ i by omega)]]; symm; simp; omega
    · exact ⟨hM.d, fun i hi _ hr => hM.fact i hi (hall i hi) (fun k hk _ => hr k hk rfl), fun i hi _ => hM.at' i hi (hall i hi), fun i j hi hj _ _ h => hM.apart i j hi hj (hall i hi) (hall j hj) h, fun j o e hj _ ho he hb => hM.order j o e hj (hall j hj) ho he hb⟩
  | succ m ih =>
    intro x listed y lo hi W hsz hge hc hcnt hM
    obtain ⟨i0, hi0, hf0, hless⟩ := cntM_least (f := fun i => !listed.getD i true) n (by omega)
    have hun : listed.getD i0 true = false := by simpa using hf0
    obtain ⟨o0, ho0, hd0⟩ := depsB_at hdep hi0
    have hin : ∀ i, i < n → i < listed.size := fun i hi => by
      obtain ⟨o, ho, _⟩ := depsB_at hdep hi
      have := (Array.getElem?_eq_some_iff.1 ho).1
      omega
    have hready : i0 ∈ Region.ready .any ops listed := mem_ready.2 ⟨hun, o0, ho0, fun e he hb => by
      have h1 := hd0 e he hb
      have h2 := hless e.on h1
      have h3 : listed.getD e.on true = true := by simpa using h2
      have h4 := hin e.on (by omega)
      simpa [h4] using h3⟩
    rw [show l2.length + (m + 1) + x = (l2.length + m + x) + 1 by omega]
    refine ⟨fun h => (by rw [h] at hready; cases hready), fun j hj => ?_⟩
    have hjn : j < n := phased_lt hp hc hi0 hun hj
    obtain ⟨hjun, oj, hoj, hall⟩ := mem_ready.1 hj
    have H := HopsI.at l1 0 j oj hop ((hl1 j oj).2 ⟨hjn, hoj⟩)
    rw [Nat.zero_add] at H
    refine wpOp_step hoj (fun K' hK => H y W hM.d (fun e he hb hnd => ?_) K' ?_)
    · have h1 := hall e he hb
      obtain ⟨o', ho', hd'⟩ := depsB_at hdep hjn
      rw [hoj] at ho'
      cases ho'
      have h2 := hd' e he hb
      have h3 := getD_to _ _ h1
      refine ⟨lo e.on, hi e.on, (hM.at' e.on (by omega) h3).1, (hM.at' e.on (by omega) h3).2.2, hM.fact e.on (by omega) h3 (fun k hk hlk hmem => ?_)⟩
      have hkj : j ≠ k := fun h => by rw [h] at hjun; rw [hjun] at hlk; cases hlk
      have := waits_listed hc (retB_at hret hk hjn hkj hmem hoj he hb hnd rfl) hlk
      rw [hjun] at this
      cases this
    · rintro v a' W' ⟨hD, hs2, hkeep⟩ hΦ rfl
      have hsj := hin j hjn
      have g1 : (listed.setIfInBounds j true).getD j true = true := by simp [hsj]
      refine hK _ _ ?_
      refine ih x (listed.setIfInBounds j true) (updV y j v) (fun i => if i = j then W.heap.size else lo i) (fun i => if i = j then W'.heap.size else hi i) W' (by simp [hsz]) (fun i h1 h2 => ?_) (hc.set hj) ?_ ?_
      · rw [getD_set_ne true (by omega)]; exact hge i h1 h2
      · have := cntM_drop (f := fun i => !listed.getD i true) (g := fun i => !(listed.setIfInBounds j true).getD i true) (j := j) (by simp only [hjun]; rfl) (by simp only [g1]; rfl) (fun i hi => by simp only [getD_set_ne true (Ne.symm hi)]) n hjn
        omega
      · have old : ∀ i, i ≠ j → (listed.setIfInBounds j true).getD i true = true → listed.getD i true = true := fun i h1 h2 => by rwa [getD_set_ne true (Ne.symm h1)] at h2
        have new : ∀ i, listed.getD i true = true → (listed.setIfInBounds j true).getD i true = true := fun i h => by
          by_cases e : j = i
          · subst e; exact g1
          · rwa [getD_set_ne true e]
        have hs := hM.d.size
        refine ⟨hD, fun i hi h hr => ?_, fun i hi h => ?_, fun i k hi hk h1 h2 hne => ?_, fun k o e hk h1 ho he hb => ?_⟩
        · by_cases e : i = j
          · subst e; simp only [if_pos]; exact hΦ
          · simp only [if_neg e]
            have hli := old i e h
            have h5 := hkeep i e (hr j hjn g1) _ _ (hM.at' i hi hli).2.2 (hM.fact i hi hli (fun k hk hlk => hr k hk (new k hlk)))
            have h6 := MonIL.at L 0 i hmono y (updV y j v) (lo i) _ W' W' (Nat.le_trans (hM.at' i hi hli).2.2 hs2) (Below.refl _ _) (fun q hq => by
              rw [Nat.zero_add] at hq
              have hne : q ≠ j := by
                rcases hq with hq | hq
                · rw [hq]; exact e
                · intro hqj
                  have := waits_listed hc (readB_at hret hi hq) hli
                  rw [hqj, hjun] at this
                  cases this
              simp [updV, hne])
            exact h6 h5
        · by_cases e : i = j
          · subst e; simp only [if_pos]; exact ⟨hs, hs2, Nat.le_refl _⟩
          · simp only [if_neg e]; have := hM.at' i hi (old i e h); exact ⟨this.1, this.2.1, by omega⟩
        · by_cases e : i = j
          · have e2 : k ≠ j := fun h => hne (by rw [e, h])
            simp only [if_pos e, if_neg e2]
            exact Or.inr (hM.at' k hk (old k e2 h2)).2.2
          · by_cases e2 : k = j
            · simp only [if_neg e, if_pos e2]
              exact Or.inl (hM.at' i hi (old i e h1)).2.2
            · simp only [if_neg e, if_neg e2]
              exact hM.apart i k hi hk (old i e h1) (old k e2 h2) hne
        · obtain ⟨o', ho', hd'⟩ := depsB_at hdep hk
          rw [ho] at ho'
          cases ho'
          have hlt := hd' e he hb
          by_cases e1 : k = j
          · subst e1
            rw [hoj] at ho
            cases ho
            have h3 := getD_to _ _ (hall e he hb)
            have e2 : e.on ≠ k := by omega
            simp only [if_pos, if_neg e2]
            exact (hM.at' e.on (by omega) h3).2.2
          · have h4 := old k e1 h1
            have h5 := getD_to _ _ (hc k o ho h4 e he hb)
            have e2 : e.on ≠ j := fun h => by rw [h, hjun] at h5; cases h5
            simp only [if_neg e1, if_neg e2]
            exact hM.order k o e hk h4 ho he hb
/-- Asked of a region's text. -/
def stB (ops : Array Oper) (n : Nat) (rs rd : List (List Nat)) : Bool := makeB ops n && retB ops n rs rd
/-- **A region whose first operations come in whatever order, each with a fact of its own.** -/
theorem wp_region_st {id : Nat} {a : Act} {w : World} {l : List Oper} (L : List It) (hm : P.follows .mixedOrders = true) (hB : stB l.toArray L.length (L.map It.ret) (L.map It.reads) = true) (hmono : MonIL 0 L)
    (h : ∀ F : (Nat → Value) → Act, F = (fun y => fills 0 (l.take L.length) y a) → HopsI P l.toArray Q w F L 0 (l.take L.length) ∧ ∀ y lo hi W, MadeI w L l.toArray L.length (fun _ => true) y lo hi W → wpList P l.toArray Q (l.drop L.length) (F y) W) : (Code.region id l.toArray true).wp P Q a w := by
  unfold stB makeB at hB
  simp only [Bool.and_eq_true] at hB
  obtain ⟨⟨⟨⟨h0, h2⟩, h3⟩, h4⟩, h5⟩ := hB
  have hn : L.length ≤ l.length := by simpa using Nat.le_of_ble_eq_true h0
  refine wp_region_any hm ?_
  have hl2 : (l.drop L.length).length = l.toArray.size - L.length := by simp
  have F := st_go (P := P) (Q := Q) (w := w) (fill := fun y => fills 0 (l.take L.length) y a) (L := L) (n := L.length) (ops := l.toArray) (l1 := l.take L.length) (l2 := l.drop L.length) h2 h3 h5
    (fun j o => by
      rw [List.getElem?_take]
      split
      · rename_i h; simp [h]
      · rename_i h; constructor
        · intro h'; cases h'
        · intro h'; exact absurd h'.1 h)
    (fun j o ho => by rw [List.getElem?_drop] at ho; simpa using ho)
    (fun listed hs hg => by
      rw [hl2]
      have e : listed = Array.ofFn (n := l.toArray.size) fun i => decide (i.1 < L.length) := by
        refine Array.ext (by simp [hs]) (fun i h5 h6 => ?_)
        have := hg i
        simp only [Array.getElem_ofFn]
        have e1 : listed.getD i true = listed[i] := by simp [h5]
        rw [← e1, this]
        have : i < l.toArray.size := by omega
        by_cases h7 : i < L.length
        · simp [h7]
        · simp only [h7, false_or, decide_false, decide_eq_false_iff_not]; omega
      rw [e]; exact h4)
    hmono (h _ rfl).1 (h _ rfl).2 L.length 0 (Array.replicate l.toArray.size false) (firstY l a) (fun _ => 0) (fun _ => 0) (w.drewN 1) (by simp) (fun i h5 h6 => by simp at h6; simp [h6]) (closed_none _ _) ?_ ?_
  · have e : (l.drop L.length).length + L.length + 0 = l.toArray.size := by rw [hl2]; simp; omega
    rw [e, fills_self l a (l.take L.length) 0 (fun j o ho => by
      rw [List.getElem?_take] at ho
      split at ho
      · simpa using ho
      · cases ho)] at F
    exact F
  · have : ∀ k, k ≤ L.length → cntM (fun i => !(Array.replicate l.toArray.size false).getD i true) k = k := by
      intro k
      induction k with
      | zero => intro _; rfl
      | succ k ih =>
        intro hk
        have h5 : k < l.toArray.size := by simp; omega
        simp only [cntM]
        rw [ih (by omega)]
        have : (Array.replicate l.toArray.size false).getD k true = false := by simp at h5; simp [h5]
        simp only [this]; rfl
    exact this L.length (Nat.le_refl _)
  · have none : ∀ i, i < L.length → (Array.replicate l.toArray.size false).getD i true = true → False := fun i hi h => by
      have : i < l.length := by omega
      simp [this] at h
    exact ⟨⟨rfl, rfl, rfl, Nat.le_refl _, fun _ _ => rfl⟩, fun i hi h => (none i hi h).elim, fun i hi h => (none i hi h).elim, fun i j hi _ h _ _ => (none i hi h).elim, fun j o e hj h _ _ _ => (none j hj h).elim⟩
/-- None gives it up. -/
def notR (rs : List (List Nat)) (i : Nat) : Bool := rs.all fun l => !l.contains i
theorem notR_all {L : List It} {n : Nat} {is : Nat → Bool} (i : Nat) (h : notR (L.map It.ret) i = true) : ∀ k, k < n → is k = true → i ∉ (itL L k).ret := fun k _ _ hm => by
  unfold notR at h
  rw [List.all_eq_true] at h
  rcases Nat.lt_or_ge k L.length with hk | hk
  · have e : (itL L k).ret = (L[k]).ret := by unfold itL; simp [hk]
    have := h (L[k]).ret (List.mem_map.2 ⟨L[k], List.getElem_mem hk, rfl⟩)
    rw [e] at hm
    simp [hm] at this
  · have e : (itL L k).ret = [] := by unfold itL; simp [List.getElem?_eq_none hk]
    rw [e] at hm
    cases hm
/-- What a store leaves as it is, place by place. -/
def Keeps (y : Nat → Value) (W W' : World) (rs : List Nat) : Nat → List It → Prop
  | _, [] => True
  | k, t :: r => (k ∈ rs ∨ ∀ lo hi, hi ≤ W.heap.size → t.p y lo hi W → t.p y lo hi W') ∧ Keeps y W W' rs (k + 1) r
theorem Keeps.at {y : Nat → Value} {W W' : World} {rs : List Nat} : ∀ (L : List It) (k j : Nat), Keeps y W W' rs k L → k + j ∉ rs → ∀ lo hi, hi ≤ W.heap.size → (itL L j).p y lo hi W → (itL L j).p y lo hi W'
  | [], _, _, _, _ => fun _ _ _ h => h
  | _ :: _, _, 0, h, hn => h.1.resolve_left hn
  | _ :: r, k, j + 1, h, hn => Keeps.at r (k + 1) j h.2 (by rwa [show k + 1 + j = k + (j + 1) by omega])
/-- One value. -/
def vI (i : Nat) (v : Value) : It := ⟨[], [], fun y _ _ _ => y i = v⟩
theorem vI_mono (i : Nat) (v : Value) : MonI i (vI i v) := fun _ _ _ _ _ _ _ _ hy h => (hy i (Or.inl rfl)).trans h
/-- A fact of the value alone. -/
def pI (i : Nat) (p : MkP) : It := ⟨[], [], fun y lo hi W => p (y i) lo hi W⟩
theorem pI_mono {i : Nat} {p : MkP} (h : MonoP p) : MonI i (pI i p) := fun y y' lo hi W W' hs d hy hp => by
  show p (y' i) lo hi W'
  rw [hy i (Or.inl rfl)]
  exact h _ _ _ _ _ hs d hp
end
/-! ### The same, the state told by its slots alone -/
section
variable {P : Program} {Q : Exit → Act → World → Prop}
theorem put_put (a : Act) (d : Nat) (x v : Value) : (a.put (some d) x).put (some d) v = a.put (some d) v := by
  simp [Act.put]
theorem put_swap (a : Act) {d e : Nat} (x v : Value) (h : d ≠ e) : (a.put (some d) x).put (some e) v = (a.put (some e) v).put (some d) x := by
  simp only [Act.put]
  rw [Array.setIfInBounds_comm _ _ h]
theorem put_size (a : Act) (d : Option Nat) (x : Value) : (a.put d x).tmps.size = a.tmps.size := by
  cases d <;> simp [Act.put]
theorem put_get (a : Act) {d : Nat} (x : Value) (h : d < a.tmps.size) : (a.put (some d) x).tmps.getD d undef = x := by
  simp [Act.put, h]
theorem put_other (a : Act) {d : Nat} {e : Option Nat} (x : Value) (h : e ≠ some d) : (a.put e x).tmps.getD d undef = a.tmps.getD d undef := by
  cases e with
  | none => rfl
  | some e =>
    have h2 : e ≠ d := fun h3 => h (by rw [h3])
    simp [Act.put, Array.getElem?_setIfInBounds_ne h2]
theorem got_bool {A : Act} {t : Nat} {b : Bool} (h : A.tmps.getD t undef = .bool b) : A.tmps[t]? = some (.bool b) := by
  rw [Array.getD_eq_getD_getElem?] at h
  cases hx : A.tmps[t]? with
  | none => rw [hx] at h; cases h
  | some v => rw [hx] at h; exact congrArg some h
/-- Does one of the operations write a slot? -/
def wrB (d : Nat) (l : List Oper) : Bool := l.any fun o => o.dst == some d
theorem wrB_not {d : Nat} {l : List Oper} (h : wrB d l = false) {o : Oper} (ho : o ∈ l) : o.dst ≠ some d := by
  unfold wrB at h
  rw [List.any_eq_false] at h
  simpa using h o ho
/-- Each slot is written once. -/
def onceB : List Oper → Bool
  | [] => true
  | o :: r => (match o.dst with
    | none => true
    | some d => !wrB d r) && onceB r
theorem fills_other : ∀ (r : List Oper) (k : Nat) (y : Nat → Value) (a : Act) (d : Nat), wrB d r = false → (fills k r y a).tmps.getD d undef = a.tmps.getD d undef
  | [], _, _, _, _, _ => rfl
  | o :: r, k, y, a, d, h => by
    have h1 := wrB_not h (List.mem_cons_self ..)
    have h2 : wrB d r = false := by
      unfold wrB at h ⊢
      rw [List.any_cons, Bool.or_eq_false_iff] at h
      exact h.2
    unfold fills
    rw [fills_other r (k + 1) y _ d h2, put_other _ _ h1]
theorem fills_put : ∀ (r : List Oper) (k : Nat) (y : Nat → Value) (a : Act) (d : Nat) (x : Value), wrB d r = false → (fills k r y a).put (some d) x = fills k r y (a.put (some d) x)
  | [], _, _, _, _, _, _ => rfl
  | o :: r, k, y, a, d, x, h => by
    have h1 := wrB_not h (List.mem_cons_self ..)
    have h2 : wrB d r = false := by
      unfold wrB at h ⊢
      rw [List.any_cons, Bool.or_eq_false_iff] at h
      exact h.2
    unfold fills
    rw [fills_put r (k + 1) y _ d x h2]
    cases hd : o.dst with
    | none => rfl
    | some e => rw [put_swap _ _ _ (fun h3 => h1 (by rw [hd, h3]))]
theorem fills_congr : ∀ (r : List Oper) (k : Nat) (y y' : Nat → Value) (a : Act), (∀ j, k ≤ j → y j = y' j) → fills k r y a = fills k r y' a
  | [], _, _, _, _, _ => rfl
  | o :: r, k, y, y', a, h => by
    unfold fills
    rw [h k (Nat.le_refl _)]
    exact fills_congr r (k + 1) y y' _ (fun j hj => h j (by omega))
theorem fills_at : ∀ (r : List Oper) (k j : Nat) (y : Nat → Value) (a : Act) (o : Oper) (d : Nat), onceB r = true → r[j]? = some o → o.dst = some d → d < a.tmps.size → (fills k r y a).tmps.getD d undef = y (k + j)
  | [], _, _, _, _, _, _, _, h, _, _ => by simp at h
  | o' :: r, k, 0, y, a, o, d, h1, h, hd, hs => by
    simp at h
    subst h
    unfold onceB at h1
    rw [hd, Bool.and_eq_true] at h1
    unfold fills
    rw [fills_other r (k + 1) y _ d (by simpa using h1.1), hd, put_get _ _ hs]
    rfl
  | o' :: r, k, j + 1, y, a, o, d, h1, h, hd, hs => by
    unfold onceB at h1
    rw [Bool.and_eq_true] at h1
    unfold fills
    rw [fills_at r (k + 1) j y _ o d h1.2 (by simpa using h) hd (by rw [put_size]; exact hs)]
    rw [show k + 1 + j = k + (j + 1) by omega]
theorem fills_upd : ∀ (r : List Oper) (k j : Nat) (y : Nat → Value) (a : Act) (o : Oper) (x : Value), onceB r = true → r[j]? = some o → (fills k r y a).put o.dst x = fills k r (updV y (k + j) x) a
  | [], _, _, _, _, _, _, _, h => by simp at h
  | o' :: r, k, 0, y, a, o, x, h1, h => by
    simp at h
    subst h
    unfold onceB at h1
    rw [Bool.and_eq_true] at h1
    have e1 : updV y (k + 0) x k = x := by simp [updV]
    have e2 : ∀ b, fills (k + 1) r (updV y (k + 0) x) b = fills (k + 1) r y b := fun b => fills_congr r (k + 1) _ _ b (fun j hj => by simp only [updV]; rw [if_neg (by omega)])
    unfold fills
    rw [e1, e2]
    cases hd : o'.dst with
    | none => rfl
    | some d =>
      rw [hd] at h1
      rw [fills_put r (k + 1) y _ d x (by simpa using h1.1), put_put]
  | o' :: r, k, j + 1, y, a, o, x, h1, h => by
    unfold onceB at h1
    rw [Bool.and_eq_true] at h1
    unfold fills
    rw [fills_upd r (k + 1) j y _ o x h1.2 (by simpa using h)]
    have e1 : updV y (k + (j + 1)) x k = y k := by simp only [updV]; rw [if_neg (by omega)]
    rw [e1, show k + 1 + j = k + (j + 1) by omega]
/-- What is asked of an operation: A is the state, told by its slots. -/
def HopJ (P : Program) (ops : Array Oper) (Q : Exit → Act → World → Prop) (w : World) (a : Act) (l : List Oper) (L : List It) (i : Nat) (o : Oper) : Prop :=
  ∀ (A : Act) (y : Nat → Value) (W : World), (∀ (j : Nat) (o' : Oper) (d : Nat), l[j]? = some o' → o'.dst = some d → A.tmps.getD d undef = y j) → (∀ d, wrB d l = false → A.tmps.getD d undef = a.tmps.getD d undef) → Below w.heap.size w W → (∀ e ∈ o.after, Region.binds .any e = true → ndB e = true → ∃ lo hi, w.heap.size ≤ lo ∧ hi ≤ W.heap.size ∧ (itL L e.on).p y lo hi W) →
    ∀ K : Act → World → Prop, Shut (∀ x W', Stp w L i y W W' → (itL L i).p (updV y i x) W.heap.size W'.heap.size W' → K (A.put o.dst x) W') → if Region.wanted o (yielded ops A.tmps) = true then Oper.wp P o A W K Q else K (A.put o.dst undef) W
def HopsJ (P : Program) (ops : Array Oper) (Q : Exit → Act → World → Prop) (w : World) (a : Act) (l : List Oper) (L : List It) : Nat → List Oper → Prop
  | _, [] => True
  | k, o :: r => HopJ P ops Q w a l L k o ∧ HopsJ P ops Q w a l L (k + 1) r
/-- The slots that are written are there. -/
def slotsB (n : Nat) (l : List Oper) : Bool := l.all fun o => match o.dst with
  | none => true
  | some d => Nat.blt d n
theorem hops_of {ops : Array Oper} {w : World} {a : Act} {l : List Oper} {L : List It} (hs : slotsB a.tmps.size l = true) (h1 : onceB l = true) : ∀ (r : List Oper) (k : Nat), (∀ j o, r[j]? = some o → l[k + j]? = some o) → HopsJ P ops Q w a l L k r → HopsI P ops Q w (fun y => fills 0 l y a) L k r
  | [], _, _, _ => trivial
  | o :: r, k, hl, H => by
    refine ⟨fun y W d hd K hK => ?_, hops_of hs h1 r (k + 1) (fun j o' ho => by have := hl (j + 1) o' (by simpa using ho); rwa [show k + 1 + j = k + (j + 1) by omega]) H.2⟩
    have hk : l[k]? = some o := hl 0 o rfl
    refine H.1 (fills 0 l y a) y W (fun j o' d' hj hd' => ?_) (fun d' hd' => fills_other l 0 y a d' hd') d hd K (fun x W' hst hp => ?_)
    · have hlt : d' < a.tmps.size := by
        unfold slotsB at hs
        rw [List.all_eq_true] at hs
        have := hs o' (List.mem_of_getElem? hj)
        rw [hd'] at this
        simpa using this
      have := fills_at l 0 j y a o' d' h1 hj hd' hlt
      rwa [Nat.zero_add] at this
    · refine hK x _ W' hst hp ?_
      have := fills_upd l 0 k y a o x h1 hk
      rwa [Nat.zero_add] at this
/-- **A region whose first operations come in whatever order, the state told by its slots.** -/
theorem wp_region_sl {id : Nat} {a : Act} {w : World} {l : List Oper} (L : List It) (hm : P.follows .mixedOrders = true) (hB : stB l.toArray L.length (L.map It.ret) (L.map It.reads) = true) (hO : onceB (l.take L.length) = true) (hS : slotsB a.tmps.size (l.take L.length) = true) (hmono : MonIL 0 L)
    (hop : HopsJ P l.toArray Q w a (l.take L.length) L 0 (l.take L.length))
    (hfin : ∀ y lo hi W, MadeI w L l.toArray L.length (fun _ => true) y lo hi W → wpList P l.toArray Q (l.drop L.length) (fills 0 (l.take L.length) y a) W) : (Code.region id l.toArray true).wp P Q a w :=
  wp_region_st L hm hB hmono (fun F hF => by
    subst hF
    exact ⟨hops_of hS hO _ 0 (fun j o ho => by rwa [Nat.zero_add]) hop, hfin⟩)
end
end Go.Proofs.YtchoopnjckcohaaGreat
namespace Go.Proofs.YtchoopnjckcohaaGreat
open Go.RowKit Go.Maps
attribute [local go_sem] Oper.semAt_some
/-! ### part: what lies among some states, renumbered -/
theorem own_below {W W' : World} {B n sz : Nat} {e : TypeId} {v : Value} {xs : List Value} (h : W.ownsRow B e sz v n xs) (d : Below W.heap.size W W') : W'.ownsRow B e sz v n xs := row_only h (Only.ofBelow (R := fun _ => False) d) (fun _ _ => id)
theorem owns_down {W : World} {B C : Nat} {e : TypeId} {sz : Nat} {v : Value} {n : Nat} {xs : List Value} (h : W.ownsRow B e sz v n xs) (hC : C ≤ B) : W.ownsRow C e sz v n xs :=
  ⟨h.1, h.2.imp id (fun ⟨g, cap, cur, h1, h2, h3, h4⟩ => ⟨g, cap, cur, h1, Nat.le_trans hC h2, h3, h4⟩)⟩
theorem own_slice {W : World} {B n sz : Nat} {e : TypeId} {v : Value} {xs : List Value} (h : W.ownsRow B e sz v n xs) : ∃ b c, v = .slice b n c := by
  rcases h.2 with ⟨hv, hn⟩ | ⟨g, cap, cur, hv, _⟩
  · exact ⟨none, 0, by rw [hv, hn]⟩
  · exact ⟨_, cap, hv⟩
theorem three_cells {W : World} {x : EdT} {t : TypeId} {p : Nat} (z : W.heap[p]? = some (.cells #[.int .i64 x.1, .int .i64 x.2.1, .int .i64 x.2.2] t (0, 0))) : ∀ (j : Nat) (u : Value), (encE x)[j]? = some u → W.cell? ((⟨p, 0, none⟩ : Addr).add j) = some u := fun j u hu => by
  rw [Addr.add_lit]
  match j, hu with
  | 0, hu => exact cell_of z (by simpa [encE] using hu)
  | 1, hu => exact cell_of z (by simpa [encE] using hu)
  | 2, hu => exact cell_of z (by simpa [encE] using hu)
  | (j + 3), hu => simp [encE] at hu
/-- What is held while the edges are gone through. -/
structure PrI (wz wr : World) (bq M : Nat) (mv : Int) (v1 v2 v3 : Value) (E : List EdT) : Prop where
  box : wr.heap[bq]? = some (.cells #[.int .i64 (M : Int), .int .i64 mv, v1, v2, v3] 25 (0, 0))
  row : wr.ownsRow wz.heap.size 50 3 v3 E.length (E.flatMap encE)
  only : Only wz wr (fun k => k = bq)
open Go.Shelf
/-! ### Symbols -/
def symOk (m : Int) : Bool := decide (0 ≤ m ∧ m ≤ 128)
def badS (m x : Int) : Bool := decide (x < 0 ∨ m ≤ x)
set_option maxRecDepth 100000 in
set_option maxHeartbeats 2000000 in
theorem mayBe_any (w : World) (m : Int) : Calls Tryz.prog 30 #[.int .i64 m] w fun e w' => e = .returned (.bool (symOk m)) ∧ w' = w := by
  by_cases h0 : 0 ≤ m
  · by_cases h1 : m ≤ 128
    · have e : symOk m = true := decide_eq_true ⟨h0, h1⟩
      rw [e]
      clear e
      go_enter Tryz.func30, Tryz.ntmps30
      go_wp2_with fail
      go_ret
      exact ⟨rfl, rfl⟩
    · have e : symOk m = false := decide_eq_false (fun h => h1 h.2)
      rw [e]
      clear e
      go_enter Tryz.func30, Tryz.ntmps30
      go_wp2_with fail
      go_ret
      exact ⟨rfl, rfl⟩
  · have e : symOk m = false := decide_eq_false (fun h => h0 h.1)
    rw [e]
    clear e
    have h0' : m < 0 := by omega
    go_enter Tryz.func30, Tryz.ntmps30
    go_wp2_with fail
    go_ret
    exact ⟨rfl, rfl⟩
set_option maxRecDepth 100000 in
set_option maxHeartbeats 2000000 in
theorem clos53 (w : World) (b : Nat) (m x : Int) (hb : w.cell? ⟨b, 0, none⟩ = some (.int .i64 m)) : Calls Tryz.prog 29 #[.int .i64 x, .pointer (some ⟨b, 0, none⟩)] w fun e w' => e = .returned (.bool (badS m x)) ∧ Below w.heap.size w w' := by
  by_cases h0 : x < 0
  · have e : badS m x = true := decide_eq_true (.inl h0)
    rw [e]
    clear e
    go_enter Tryz.func29, Tryz.ntmps29
    go_wp2_with fail
    go_ret
    exact ⟨rfl, Below.refl _ _⟩
  · by_cases h1 : m ≤ x
    · have e : badS m x = true := decide_eq_true (.inr h1)
      rw [e]
      clear e
      have h0' : 0 ≤ x := by omega
      go_enter Tryz.func29, Tryz.ntmps29
      go_wp2_with fail
      go_ret
      exact ⟨rfl, Below.refl _ _⟩
    · have e : badS m x = false := decide_eq_false (fun h => h.elim h0 h1)
      rw [e]
      clear e
      have h0' : 0 ≤ x := by omega
      have h1' : x < m := by omega
      go_enter Tryz.func29, Tryz.ntmps29
      go_wp2_with fail
      go_ret
      exact ⟨rfl, Below.refl _ _⟩
/-! ### Marks of states -/
set_option maxRecDepth 100000 in
set_option maxHeartbeats 2000000 in
theorem clos122 (w : World) (b gf N q : Nat) (f : Nat → Bool) (hb : w.cell? ⟨b, 0, none⟩ = some (.slice (some ⟨gf, 0, none⟩) N N)) (hM : Mrw w gf 4 N (fun c => .bool (f c)) N) (hq : q < N) : Calls Tryz.prog 74 #[.int .i64 (q : Int), .pointer (some ⟨b, 0, none⟩)] w fun e w' => e = .returned (.bool (f q)) ∧ Below w.heap.size w w' := by
  have q0 : (0 : Int) ≤ (q : Int) := by omega
  have q1 : (q : Int) < (N : Int) := by omega
  have c1 := hM.at q hq
  clear hM
  generalize f q = y at c1
  go_enter Tryz.func74, Tryz.ntmps74
  go_wp2_with fail
  go_ret
  exact ⟨rfl, Below.refl _ _⟩
set_option maxRecDepth 100000 in
set_option maxHeartbeats 2000000 in
theorem clos128 (w : World) (b gf N q : Nat) (f : Nat → Bool) (hb : w.cell? ⟨b, 0, none⟩ = some (.slice (some ⟨gf, 0, none⟩) N N)) (hM : Mrw w gf 4 N (fun c => .bool (f c)) N) (hq : q < N) : Calls Tryz.prog 76 #[.int .i64 (q : Int), .pointer (some ⟨b, 0, none⟩)] w fun e w' => e = .returned (.bool (f q)) ∧ Below w.heap.size w w' := by
  have q0 : (0 : Int) ≤ (q : Int) := by omega
  have q1 : (q : Int) < (N : Int) := by omega
  have c1 := hM.at q hq
  clear hM
  generalize f q = y at c1
  go_enter Tryz.func76, Tryz.ntmps76
  go_wp2_with fail
  go_ret
  exact ⟨rfl, Below.refl _ _⟩
set_option maxRecDepth 100000 in
set_option maxHeartbeats 2000000 in
theorem idx53 (w : World) (ao : Option Addr) (c : Nat) (L : List Int) (b : Nat) (m : Int) (hb : Hid (w.cell? ⟨b, 0, none⟩ = some (.int .i64 m))) (hr : Hid (RdN w ao L)) (hl : L.length ≤ 4194304) :
    Calls Tryz.prog 52 #[.slice ao L.length c, .func (.func 29) #[] #[.pointer (some ⟨b, 0, none⟩)]] w fun e w' => ∃ r : Int, e = .returned (.int .i64 r) ∧ decide (0 ≤ r) = L.any (badS m) ∧ Below w.heap.size w w' := by
  obtain ⟨n, en⟩ : ∃ n, L.length = n := ⟨_, rfl⟩
  rw [en]
  rw [en] at hl
  have HN := hide en
  clear en
  go_enter Tryz.func52, Tryz.ntmps52
  go_wp2_with fail
  go_loopw [8] (fun iv wr => ∃ i : Nat, i ≤ n ∧ iv = .int .i64 (i : Int) ∧ Hid ((∀ x ∈ L.take i, (badS m) x = false) ∧ Below w.heap.size w wr)) (fun iv _ => n - (intOf iv).toNat)
  case atStart => exact ⟨0, Nat.zero_le _, rfl, hide ⟨fun x hx => by simp at hx, Below.refl _ _⟩⟩
  case round =>
    obtain ⟨i, hi, rfl, HY⟩ := hrel
    by_cases hlt : i < n
    · have l0 : (i : Int) < (n : Int) := by omega
      have i0 : (0 : Int) ≤ (i : Int) := by omega
      have hil : i < L.length := by have := HN.out; omega
      obtain ⟨g, o, ea, ca⟩ := (hr.out.on HY.out.2) i hil
      subst ea
      have HX := hide (List.getElem_mem hil)
      have HT := hide (List.take_succ_eq_append_getElem hil)
      have HG := hide (show L[i] ∈ L from List.getElem_mem hil)
      obtain ⟨x, hx⟩ : ∃ x, L[i] = x := ⟨_, rfl⟩
      rw [hx] at ca HT HG
      clear hx HX
      have TC : Calls Tryz.prog 29 #[.int .i64 x, .pointer (some ⟨b, 0, none⟩)] wr fun e w' => e = .returned (.bool ((badS m) x)) ∧ Below wr.heap.size wr w' := clos53 wr b m x ((HY.out.2.cell (World.block_lt_of_cell? w _ hb.out)).trans hb.out)
      obtain ⟨y, hy⟩ : ∃ y, (badS m) x = y := ⟨_, rfl⟩
      rw [hy] at TC
      have HP := hide hy
      clear hy
      go_wp2_with fail
      refine TC.mono ?_
      rintro e w2 ⟨rfl, d2⟩
      have HD := hide (HY.out.2.trans (d2.mono HY.out.2.size))
      clear d2 TC
      cases y with
      | true =>
        go_wp2_with fail
        go_ret
        refine ⟨(i : Int), rfl, ?_, HD.out⟩
        rw [decide_eq_true i0, eq_comm, List.any_eq_true]
        exact ⟨x, HG.out, HP.out⟩
      | false =>
        go_wp2_with fail
        go_roundw
        case rel => exact ⟨i + 1, by omega, by go_num, hide ⟨fun z hz => by
          rw [HT.out] at hz
          rcases List.mem_append.1 hz with hz | hz
          · exact HY.out.1 z hz
          · rw [List.mem_singleton.1 hz]; exact HP.out, HD.out⟩⟩
        case measure => simp [intOf]; omega
    · have l0 : ¬ (i : Int) < (n : Int) := by omega
      have e : L.any (badS m) = false := by
        have hi2 : i = n := by omega
        have t := HY.out.1
        rw [hi2, List.take_of_length_le (by have := HN.out; omega)] at t
        rw [List.any_eq_false]
        intro x hx hc
        have t2 := t x hx
        rw [show (badS m) x = true from hc] at t2
        cases t2
      have HE := hide e
      clear e
      go_wp2_with fail
      go_ret
      exact ⟨-1, rfl, by rw [HE.out]; decide, HY.out.2⟩
set_option maxRecDepth 100000 in
set_option maxHeartbeats 2000000 in
theorem cont53 (w : World) (ao : Option Addr) (c : Nat) (L : List Int) (b : Nat) (m : Int) (hb : Hid (w.cell? ⟨b, 0, none⟩ = some (.int .i64 m))) (hr : Hid (RdN w ao L)) (hl : L.length ≤ 4194304) :
    Calls Tryz.prog 28 #[.slice ao L.length c, .func (.func 29) #[] #[.pointer (some ⟨b, 0, none⟩)]] w fun e w' => e = .returned (.bool (L.any (badS m))) ∧ Below w.heap.size w w' := by
  have T := idx53 w ao c L b m hb hr hl
  obtain ⟨y, hy⟩ : ∃ y, L.any (badS m) = y := ⟨_, rfl⟩
  rw [hy] at T ⊢
  generalize L.length = n at T
  clear hy
  go_enter Tryz.func28, Tryz.ntmps28
  go_wp2_with fail
  refine T.mono ?_
  rintro e w2 ⟨r, rfl, hr2, d2⟩
  have HR := hide (And.intro hr2 d2)
  clear hr2 d2 T
  go_wp2_with fail
  go_ret
  exact ⟨by rw [← HR.out.1]; rfl, HR.out.2⟩
set_option maxRecDepth 100000 in
set_option maxHeartbeats 2000000 in
theorem idx122 (w : World) (ao : Option Addr) (c : Nat) (L : List Int) (b gf N : Nat) (f : Nat → Bool) (hb : Hid (w.cell? ⟨b, 0, none⟩ = some (.slice (some ⟨gf, 0, none⟩) N N))) (hM : Hid (Mrw w gf 4 N (fun c => .bool (f c)) N)) (hin : Hid (∀ x ∈ L, ∃ q : Nat, q < N ∧ x = (q : Int))) (hr : Hid (RdN w ao L)) (hl : L.length ≤ 4194304) :
    Calls Tryz.prog 52 #[.slice ao L.length c, .func (.func 74) #[] #[.pointer (some ⟨b, 0, none⟩)]] w fun e w' => ∃ r : Int, e = .returned (.int .i64 r) ∧ decide (0 ≤ r) = L.any (fun x => f x.toNat) ∧ Below w.heap.size w w' := by
  obtain ⟨n, en⟩ : ∃ n, L.length = n := ⟨_, rfl⟩
  rw [en]
  rw [en] at hl
  have HN := hide en
  clear en
  go_enter Tryz.func52, Tryz.ntmps52
  go_wp2_with fail
  go_loopw [8] (fun iv wr => ∃ i : Nat, i ≤ n ∧ iv = .int .i64 (i : Int) ∧ Hid ((∀ x ∈ L.take i, (fun x => f x.toNat) x = false) ∧ Below w.heap.size w wr)) (fun iv _ => n - (intOf iv).toNat)
  case atStart => exact ⟨0, Nat.zero_le _, rfl, hide ⟨fun x hx => by simp at hx, Below.refl _ _⟩⟩
  case round =>
    obtain ⟨i, hi, rfl, HY⟩ := hrel
    by_cases hlt : i < n
    · have l0 : (i : Int) < (n : Int) := by omega
      have i0 : (0 : Int) ≤ (i : Int) := by omega
      have hil : i < L.length := by have := HN.out; omega
      obtain ⟨g, o, ea, ca⟩ := (hr.out.on HY.out.2) i hil
      subst ea
      have HX := hide (List.getElem_mem hil)
      have HT := hide (List.take_succ_eq_append_getElem hil)
      have HG := hide (show L[i] ∈ L from List.getElem_mem hil)
      obtain ⟨x, hx⟩ : ∃ x, L[i] = x := ⟨_, rfl⟩
      rw [hx] at ca HT HG
      clear hx HX
      have TC : Calls Tryz.prog 74 #[.int .i64 x, .pointer (some ⟨b, 0, none⟩)] wr fun e w' => e = .returned (.bool ((fun x => f x.toNat) x)) ∧ Below wr.heap.size wr w' := (by
        obtain ⟨q, hq, e⟩ := hin.out x HG.out
        have t := clos122 wr b gf N q f ((HY.out.2.cell (World.block_lt_of_cell? w _ hb.out)).trans hb.out) (hM.out.below HY.out.2 hM.out.lt) hq
        subst e
        exact t)
      obtain ⟨y, hy⟩ : ∃ y, (fun x => f x.toNat) x = y := ⟨_, rfl⟩
      rw [hy] at TC
      have HP := hide hy
      clear hy
      go_wp2_with fail
      refine TC.mono ?_
      rintro e w2 ⟨rfl, d2⟩
      have HD := hide (HY.out.2.trans (d2.mono HY.out.2.size))
      clear d2 TC
      cases y with
      | true =>
        go_wp2_with fail
        go_ret
        refine ⟨(i : Int), rfl, ?_, HD.out⟩
        rw [decide_eq_true i0, eq_comm, List.any_eq_true]
        exact ⟨x, HG.out, HP.out⟩
      | false =>
        go_wp2_with fail
        go_roundw
        case rel => exact ⟨i + 1, by omega, by go_num, hide ⟨fun z hz => by
          rw [HT.out] at hz
          rcases List.mem_append.1 hz with hz | hz
          · exact HY.out.1 z hz
          · rw [List.mem_singleton.1 hz]; exact HP.out, HD.out⟩⟩
        case measure => simp [intOf]; omega
    · have l0 : ¬ (i : Int) < (n : Int) := by omega
      have e : L.any (fun x => f x.toNat) = false := by
        have hi2 : i = n := by omega
        have t := HY.out.1
        rw [hi2, List.take_of_length_le (by have := HN.out; omega)] at t
        rw [List.any_eq_false]
        intro x hx hc
        have t2 := t x hx
        rw [show (fun x => f x.toNat) x = true from hc] at t2
        cases t2
      have HE := hide e
      clear e
      go_wp2_with fail
      go_ret
      exact ⟨-1, rfl, by rw [HE.out]; decide, HY.out.2⟩
set_option maxRecDepth 100000 in
set_option maxHeartbeats 2000000 in
theorem cont122 (w : World) (ao : Option Addr) (c : Nat) (L : List Int) (b gf N : Nat) (f : Nat → Bool) (hb : Hid (w.cell? ⟨b, 0, none⟩ = some (.slice (some ⟨gf, 0, none⟩) N N))) (hM : Hid (Mrw w gf 4 N (fun c => .bool (f c)) N)) (hin : Hid (∀ x ∈ L, ∃ q : Nat, q < N ∧ x = (q : Int))) (hr : Hid (RdN w ao L)) (hl : L.length ≤ 4194304) :
    Calls Tryz.prog 28 #[.slice ao L.length c, .func (.func 74) #[] #[.pointer (some ⟨b, 0, none⟩)]] w fun e w' => e = .returned (.bool (L.any (fun x => f x.toNat))) ∧ Below w.heap.size w w' := by
  have T := idx122 w ao c L b gf N f hb hM hin hr hl
  obtain ⟨y, hy⟩ : ∃ y, L.any (fun x => f x.toNat) = y := ⟨_, rfl⟩
  rw [hy] at T ⊢
  generalize L.length = n at T
  clear hy
  go_enter Tryz.func28, Tryz.ntmps28
  go_wp2_with fail
  refine T.mono ?_
  rintro e w2 ⟨r, rfl, hr2, d2⟩
  have HR := hide (And.intro hr2 d2)
  clear hr2 d2 T
  go_wp2_with fail
  go_ret
  exact ⟨by rw [← HR.out.1]; rfl, HR.out.2⟩
set_option maxRecDepth 100000 in
set_option maxHeartbeats 2000000 in
theorem idx128 (w : World) (ao : Option Addr) (c : Nat) (L : List Int) (b gf N : Nat) (f : Nat → Bool) (hb : Hid (w.cell? ⟨b, 0, none⟩ = some (.slice (some ⟨gf, 0, none⟩) N N))) (hM : Hid (Mrw w gf 4 N (fun c => .bool (f c)) N)) (hin : Hid (∀ x ∈ L, ∃ q : Nat, q < N ∧ x = (q : Int))) (hr : Hid (RdN w ao L)) (hl : L.length ≤ 4194304) :
    Calls Tryz.prog 52 #[.slice ao L.length c, .func (.func 76) #[] #[.pointer (some ⟨b, 0, none⟩)]] w fun e w' => ∃ r : Int, e = .returned (.int .i64 r) ∧ decide (0 ≤ r) = L.any (fun x => f x.toNat) ∧ Below w.heap.size w w' := by
  obtain ⟨n, en⟩ : ∃ n, L.length = n := ⟨_, rfl⟩
  rw [en]
  rw [en] at hl
  have HN := hide en
  clear en
  go_enter Tryz.func52, Tryz.ntmps52
  go_wp2_with fail
  go_loopw [8] (fun iv wr => ∃ i : Nat, i ≤ n ∧ iv = .int .i64 (i : Int) ∧ Hid ((∀ x ∈ L.take i, (fun x => f x.toNat) x = false) ∧ Below w.heap.size w wr)) (fun iv _ => n - (intOf iv).toNat)
  case atStart => exact ⟨0, Nat.zero_le _, rfl, hide ⟨fun x hx => by simp at hx, Below.refl _ _⟩⟩
  case round =>
    obtain ⟨i, hi, rfl, HY⟩ := hrel
    by_cases hlt : i < n
    · have l0 : (i : Int) < (n : Int) := by omega
      have i0 : (0 : Int) ≤ (i : Int) := by omega
      have hil : i < L.length := by have := HN.out; omega
      obtain ⟨g, o, ea, ca⟩ := (hr.out.on HY.out.2) i hil
      subst ea
      have HX := hide (List.getElem_mem hil)
      have HT := hide (List.take_succ_eq_append_getElem hil)
      have HG := hide (show L[i] ∈ L from List.getElem_mem hil)
      obtain ⟨x, hx⟩ : ∃ x, L[i] = x := ⟨_, rfl⟩
      rw [hx] at ca HT HG
      clear hx HX
      have TC : Calls Tryz.prog 76 #[.int .i64 x, .pointer (some ⟨b, 0, none⟩)] wr fun e w' => e = .returned (.bool ((fun x => f x.toNat) x)) ∧ Below wr.heap.size wr w' := (by
        obtain ⟨q, hq, e⟩ := hin.out x HG.out
        have t := clos128 wr b gf N q f ((HY.out.2.cell (World.block_lt_of_cell? w _ hb.out)).trans hb.out) (hM.out.below HY.out.2 hM.out.lt) hq
        subst e
        exact t)
      obtain ⟨y, hy⟩ : ∃ y, (fun x => f x.toNat) x = y := ⟨_, rfl⟩
      rw [hy] at TC
      have HP := hide hy
      clear hy
      go_wp2_with fail
      refine TC.mono ?_
      rintro e w2 ⟨rfl, d2⟩
      have HD := hide (HY.out.2.trans (d2.mono HY.out.2.size))
      clear d2 TC
      cases y with
      | true =>
        go_wp2_with fail
        go_ret
        refine ⟨(i : Int), rfl, ?_, HD.out⟩
        rw [decide_eq_true i0, eq_comm, List.any_eq_true]
        exact ⟨x, HG.out, HP.out⟩
      | false =>
        go_wp2_with fail
        go_roundw
        case rel => exact ⟨i + 1, by omega, by go_num, hide ⟨fun z hz => by
          rw [HT.out] at hz
          rcases List.mem_append.1 hz with hz | hz
          · exact HY.out.1 z hz
          · rw [List.mem_singleton.1 hz]; exact HP.out, HD.out⟩⟩
        case measure => simp [intOf]; omega
    · have l0 : ¬ (i : Int) < (n : Int) := by omega
      have e : L.any (fun x => f x.toNat) = false := by
        have hi2 : i = n := by omega
        have t := HY.out.1
        rw [hi2, List.take_of_length_le (by have := HN.out; omega)] at t
        rw [List.any_eq_false]
        intro x hx hc
        have t2 := t x hx
        rw [show (fun x => f x.toNat) x = true from hc] at t2
        cases t2
      have HE := hide e
      clear e
      go_wp2_with fail
      go_ret
      exact ⟨-1, rfl, by rw [HE.out]; decide, HY.out.2⟩
set_option maxRecDepth 100000 in
set_option maxHeartbeats 2000000 in
theorem cont128 (w : World) (ao : Option Addr) (c : Nat) (L : List Int) (b gf N : Nat) (f : Nat → Bool) (hb : Hid (w.cell? ⟨b, 0, none⟩ = some (.slice (some ⟨gf, 0, none⟩) N N))) (hM : Hid (Mrw w gf 4 N (fun c => .bool (f c)) N)) (hin : Hid (∀ x ∈ L, ∃ q : Nat, q < N ∧ x = (q : Int))) (hr : Hid (RdN w ao L)) (hl : L.length ≤ 4194304) :
    Calls Tryz.prog 28 #[.slice ao L.length c, .func (.func 76) #[] #[.pointer (some ⟨b, 0, none⟩)]] w fun e w' => e = .returned (.bool (L.any (fun x => f x.toNat))) ∧ Below w.heap.size w w' := by
  have T := idx128 w ao c L b gf N f hb hM hin hr hl
  obtain ⟨y, hy⟩ : ∃ y, L.any (fun x => f x.toNat) = y := ⟨_, rfl⟩
  rw [hy] at T ⊢
  generalize L.length = n at T
  clear hy
  go_enter Tryz.func28, Tryz.ntmps28
  go_wp2_with fail
  refine T.mono ?_
  rintro e w2 ⟨r, rfl, hr2, d2⟩
  have HR := hide (And.intro hr2 d2)
  clear hr2 d2 T
  go_wp2_with fail
  go_ret
  exact ⟨by rw [← HR.out.1]; rfl, HR.out.2⟩
/-! ### finals -/
def finB (Fi : List Int) (q : Nat) : Bool := decide ((q : Int) ∈ Fi)
theorem finB_next {Fi : List Int} {i f : Nat} (hi : i < Fi.length) (ef : Fi[i] = (f : Int)) (c : Nat) : finB (Fi.take (i + 1)) c = if c = f then true else finB (Fi.take i) c := by
  unfold finB
  rw [List.take_succ_eq_append_getElem hi, ef]
  by_cases e : c = f
  · subst e
    rw [if_pos rfl]
    exact decide_eq_true (by simp)
  · rw [if_neg e]
    refine decide_eq_decide.2 ?_
    rw [List.mem_append, List.mem_singleton]
    constructor
    · rintro (h | h)
      · exact h
      · exact absurd (Int.ofNat.inj h) e
    · exact .inl
set_option maxRecDepth 100000 in
set_option maxHeartbeats 2000000 in
theorem finals_any (w : World) (N : Nat) (mv : Int) (a1 a2 a3 : Option Addr) (c1 c2 c3 n1 n3 : Nat) (Fi : List Int) (hf : Hid (RdN w a2 Fi)) (hin : Hid (∀ x ∈ Fi, ∃ q : Nat, q < N ∧ x = (q : Int))) (hl : Fi.length ≤ 4194304) (hN : N ≤ 8192) :
    Calls Tryz.prog 38 #[.agg #[.int .i64 (N : Int), .int .i64 mv, .slice a1 n1 c1, .slice a2 Fi.length c2, .slice a3 n3 c3]] w fun e w' => ∃ gf, e = .returned (.slice (some ⟨gf, 0, none⟩) N N) ∧ Hid (Mrw w' gf 4 N (fun c => .bool (finB Fi c)) N ∧ w.heap.size ≤ gf) ∧ Below w.heap.size w w' := by
  obtain ⟨n2, e2⟩ : ∃ n, Fi.length = n := ⟨_, rfl⟩
  rw [e2]
  rw [e2] at hl
  have HE := hide e2
  clear e2
  obtain ⟨W0, hW0⟩ : ∃ W0, w.alloc (.cells #[.int .i64 (N : Int), .int .i64 mv, .slice a1 n1 c1, .slice a2 n2 c2, .slice a3 n3 c3] 25) = W0 := ⟨_, rfl⟩
  have HB : Hid (W0.heap[w.heap.size]? = some (.cells #[.int .i64 (N : Int), .int .i64 mv, .slice a1 n1 c1, .slice a2 n2 c2, .slice a3 n3 c3] 25 (0, 0)) ∧ Below w.heap.size w W0) := hide (by rw [← hW0]; exact ⟨World.alloc_heap_new _ _, (Below.refl _ _).alloc (Nat.le_refl _) _⟩)
  have q0 : W0.cell? ⟨w.heap.size, 0, none⟩ = some (.int .i64 (N : Int)) := cell_of HB.out.1 rfl
  obtain ⟨i4, hi4, hz40, hz41, hz42⟩ := info_parts info4
  go_enter Tryz.func38, Tryz.ntmps38
  go_upto_region 2 with (at_make; refine wpList_make_full _ rfl _ _ 76 rfl W0.heap.size 4 i4 (.bool false) 1 Tryz.underlying76 hi4 hz40 hz41 _ _ _ _ N rfl rfl (by go_num) (by go_num) (by rw [hz42]; omega) (by unfold maxLen; omega) (Nat.le_refl _) ?_; intro w6 ho hg)
  have D6 : Below W0.heap.size W0 w6 := (Below.refl _ _).grown hg (Nat.le_refl _) (by intro k hk; cases hk)
  have M6 : Mrw w6 W0.heap.size 4 N (fun c => .bool (finB (Fi.take 0) c)) N := by
    have t := ho
    rw [Nat.mul_one] at t
    exact (mask_made t).2.congr (fun c _ => by simp [finB])
  have H6 := hide (And.intro M6 D6)
  have B1 := blk_on HB.out.1 D6
  have q3 : w6.cell? ⟨w.heap.size, 3, none⟩ = some (.slice a2 n2 c2) := cell_of B1 rfl
  clear ho hg D6 M6 q0 hW0 B1
  go_wp2_with fail
  go_loopw [12] (fun iv wr => ∃ i : Nat, i ≤ n2 ∧ iv = .int .i64 (i : Int) ∧ Hid (Mrw wr W0.heap.size 4 N (fun c => .bool (finB (Fi.take i) c)) N ∧ Below W0.heap.size W0 wr)) (fun iv _ => n2 - (intOf iv).toNat)
  case atStart => exact ⟨0, Nat.zero_le _, rfl, H6⟩
  case round =>
    obtain ⟨i, hi, rfl, HY⟩ := hrel
    clear H6
    by_cases hlt : i < n2
    · have l0 : (i : Int) < (n2 : Int) := by omega
      have i0 : (0 : Int) ≤ (i : Int) := by omega
      have hil : i < Fi.length := by have := HE.out; omega
      obtain ⟨g, o, ea, ca⟩ := (hf.out.on (HB.out.2.trans (HY.out.2.mono HB.out.2.size))) i hil
      subst ea
      obtain ⟨f, hf2, ef⟩ := hin.out _ (List.getElem_mem hil)
      have HN := hide (finB_next hil ef)
      rw [ef] at ca
      have f0 : (0 : Int) ≤ (f : Int) := by omega
      have f1 : (f : Int) < (N : Int) := by omega
      have cu := HY.out.1.at f hf2
      have zu : wr.frozen? ⟨W0.heap.size, f, none⟩ = false := HY.out.1.fz f
      have J : Hid (Mrw (wr.setCell ⟨W0.heap.size, f, none⟩ (.bool true)) W0.heap.size 4 N (fun c => .bool (finB (Fi.take (i + 1)) c)) N ∧ Below W0.heap.size W0 (wr.setCell ⟨W0.heap.size, f, none⟩ (.bool true))) := hide ⟨(HY.out.1.upd f (.bool true)).congr (fun c _ => by rw [HN.out c]; by_cases e : c = f <;> simp [e]), HY.out.2.setCell (Nat.le_refl _) _⟩
      clear HY ef
      go_wp2_with fail
      go_roundw
      case rel => exact ⟨i + 1, by omega, by go_num, J⟩
      case measure => simp [intOf]; omega
    · have l0 : ¬ (i : Int) < (n2 : Int) := by omega
      have J : Hid (Mrw wr W0.heap.size 4 N (fun c => .bool (finB Fi c)) N ∧ Below w.heap.size w wr) := hide (by
        have t := HY.out.1
        rw [List.take_of_length_le (by have := HE.out; omega)] at t
        exact ⟨t, HB.out.2.trans (HY.out.2.mono HB.out.2.size)⟩)
      have hs := HB.out.2.size
      clear HY
      go_wp2_with fail
      go_ret
      exact ⟨_, rfl, hide ⟨J.out.1, hs⟩, J.out.2⟩
/-- Is a state of the first list one of the second? -/
def emptB (St Fi : List Int) : Bool := St.any fun x => finB Fi x.toNat
set_option maxRecDepth 100000 in
set_option maxHeartbeats 2000000 in
theorem takesEmpty_any (w : World) (N : Nat) (mv : Int) (a1 a2 a3 : Option Addr) (c1 c2 c3 n3 : Nat) (St Fi : List Int) (hs : Hid (RdN w a1 St)) (hf : Hid (RdN w a2 Fi)) (hins : Hid (∀ x ∈ St, ∃ q : Nat, q < N ∧ x = (q : Int))) (hinf : Hid (∀ x ∈ Fi, ∃ q : Nat, q < N ∧ x = (q : Int))) (h1 : St.length ≤ 4194304) (hl : Fi.length ≤ 4194304) (hN : N ≤ 8192) :
    Calls Tryz.prog 55 #[.agg #[.int .i64 (N : Int), .int .i64 mv, .slice a1 St.length c1, .slice a2 Fi.length c2, .slice a3 n3 c3]] w fun e w' => e = .returned (.bool (emptB St Fi)) ∧ Below w.heap.size w w' := by
  obtain ⟨W0, hW0⟩ : ∃ W0, w.alloc (.cells #[.int .i64 (N : Int), .int .i64 mv, .slice a1 St.length c1, .slice a2 Fi.length c2, .slice a3 n3 c3] 25) = W0 := ⟨_, rfl⟩
  have HB : Hid (W0.heap[w.heap.size]? = some (.cells #[.int .i64 (N : Int), .int .i64 mv, .slice a1 St.length c1, .slice a2 Fi.length c2, .slice a3 n3 c3] 25 (0, 0)) ∧ Below w.heap.size w W0) := hide (by rw [← hW0]; exact ⟨World.alloc_heap_new _ _, (Below.refl _ _).alloc (Nat.le_refl _) _⟩)
  obtain ⟨y, hy⟩ : ∃ y, emptB St Fi = y := ⟨_, rfl⟩
  rw [hy]
  have HYY := hide hy
  clear hy
  have T93 := finals_any W0 N mv a1 a2 a3 c1 c2 c3 St.length n3 Fi (hide (hf.out.on HB.out.2)) hinf hl hN
  have q0 : W0.cell? ⟨w.heap.size, 0, none⟩ = some (.int .i64 (N : Int)) := cell_of HB.out.1 rfl
  have q1 : W0.cell? ⟨w.heap.size, 1, none⟩ = some (.int .i64 mv) := cell_of HB.out.1 rfl
  have q2 : W0.cell? ⟨w.heap.size, 2, none⟩ = some (.slice a1 St.length c1) := cell_of HB.out.1 rfl
  have q3 : W0.cell? ⟨w.heap.size, 3, none⟩ = some (.slice a2 Fi.length c2) := cell_of HB.out.1 rfl
  have q4 : W0.cell? ⟨w.heap.size, 4, none⟩ = some (.slice a3 n3 c3) := cell_of HB.out.1 rfl
  go_enter Tryz.func55, Tryz.ntmps55
  go_upto_region 2 with (go_at_call 38; refine T93.mono ?_; rintro e w1 ⟨gf, rfl, HM, d1⟩)
  obtain ⟨b, hb⟩ : ∃ k, w1.heap.size = k := ⟨_, rfl⟩
  rw [hb]
  obtain ⟨w2, hw2⟩ : ∃ W, w1.alloc (.cells #[.slice (some ⟨gf, 0, none⟩) N N] 76) = W := ⟨_, rfl⟩
  rw [hw2]
  have H2 : Hid (w2.cell? ⟨b, 0, none⟩ = some (.slice (some ⟨gf, 0, none⟩) N N) ∧ Mrw w2 gf 4 N (fun c => .bool (finB Fi c)) N ∧ w2.heap[w.heap.size]? = some (.cells #[.int .i64 (N : Int), .int .i64 mv, .slice a1 St.length c1, .slice a2 Fi.length c2, .slice a3 n3 c3] 25 (0, 0)) ∧ Below w.heap.size w w2) := hide (by
    have d : Below w1.heap.size w1 w2 := by rw [← hw2]; exact (Below.refl _ _).alloc (Nat.le_refl _) _
    have dd := d1.trans (d.mono d1.size)
    exact ⟨by rw [← hw2, ← hb]; exact cell_of (World.alloc_heap_new _ _) rfl, HM.out.1.below d HM.out.1.lt, blk_on HB.out.1 dd, HB.out.2.trans (dd.mono HB.out.2.size)⟩)
  clear T93 d1 HM hw2 hb q0 q1 q2 q3 q4 hW0
  have T52 := cont128 w2 a1 c1 St b gf N (finB Fi) (hide H2.out.1) (hide H2.out.2.1) hins (hide (hs.out.on H2.out.2.2.2)) h1
  have q2 : w2.cell? ⟨w.heap.size, 2, none⟩ = some (.slice a1 St.length c1) := cell_of H2.out.2.2.1 rfl
  rw [show (St.any fun x => finB Fi x.toNat) = emptB St Fi from rfl, HYY.out] at T52
  go_wp2_with fail
  refine T52.mono ?_
  rintro e w3 ⟨rfl, d3⟩
  have HZ := hide (H2.out.2.2.2.trans (d3.mono H2.out.2.2.2.size))
  clear d3 T52 q2
  go_wp2_with fail
  go_ret
  exact ⟨rfl, HZ.out⟩
/-! ### Two automata that are alike -/
theorem box4 (w : World) (o1 o2 o3 o4 : Obj) : Below w.heap.size w ((((w.alloc o1).alloc o2).alloc o3).alloc o4) ∧ ((((w.alloc o1).alloc o2).alloc o3).alloc o4).heap[w.heap.size]? = some o1 ∧ ((((w.alloc o1).alloc o2).alloc o3).alloc o4).heap[w.heap.size + 1]? = some o2 ∧ ((((w.alloc o1).alloc o2).alloc o3).alloc o4).heap[w.heap.size + 1 + 1]? = some o3 ∧ ((((w.alloc o1).alloc o2).alloc o3).alloc o4).heap[w.heap.size + 1 + 1 + 1]? = some o4 := by
  refine ⟨((((Below.refl _ _).alloc (Nat.le_refl _) _).alloc (by simp) _).alloc (by simp <;> omega) _).alloc (by simp <;> omega) _, ?_, ?_, ?_, ?_⟩
  · exact (Below.heap_alloc _ _ _ (by simp <;> omega)).trans ((Below.heap_alloc _ _ _ (by simp <;> omega)).trans ((Below.heap_alloc _ _ _ (by simp)).trans (World.alloc_heap_new _ _)))
  · have := World.alloc_heap_new (w.alloc o1) o2
    rw [World.size_alloc] at this
    exact (Below.heap_alloc _ _ _ (by simp <;> omega)).trans ((Below.heap_alloc _ _ _ (by simp)).trans this)
  · have := World.alloc_heap_new ((w.alloc o1).alloc o2) o3
    rw [World.size_alloc, World.size_alloc] at this
    exact (Below.heap_alloc _ _ _ (by simp)).trans this
  · have := World.alloc_heap_new (((w.alloc o1).alloc o2).alloc o3) o4
    rw [World.size_alloc, World.size_alloc, World.size_alloc] at this
    exact this
/-! ### A set's numbers, one by one -/
/-- What a round keeps for the walk over a set: the table, and every block of words from B on. -/
structure KpU (B : Nat) (W W' : World) : Prop where
  size : W.heap.size ≤ W'.heap.size
  tab : W'.heap[0]? = W.heap[0]?
  words : ∀ (b : Nat) (cs : Array Value) (fr : Nat × Nat), B ≤ b → W.heap[b]? = some (.cells cs 143 fr) → W'.heap[b]? = some (.cells cs 143 fr)
theorem KpU.refl (B : Nat) (W : World) : KpU B W W := ⟨Nat.le_refl _, rfl, fun _ _ _ _ h => h⟩
theorem KpU.trans {B : Nat} {W1 W2 W3 : World} (h : KpU B W1 W2) (k : KpU B W2 W3) : KpU B W1 W3 :=
  ⟨Nat.le_trans h.size k.size, k.tab.trans h.tab, fun b cs fr hb hc => k.words b cs fr hb (h.words b cs fr hb hc)⟩
theorem TabAt.kp {B : Nat} {W W' : World} (h : TabAt W) (k : KpU B W W') : TabAt W' := fun j hj => (World.cell?_of_block (a := ⟨0, j, none⟩) k.tab).trans (h j hj)
end Go.Proofs.YtchoopnjckcohaaGreat
namespace Go.Proofs.YtchoopnjckcohaaGreat
open Go.RowKit Go.Maps
/-! ### Edges in order, each once -/
def SsE (l : List EdT) : Prop := l.Pairwise fun a b => ltE a b = true
theorem ltE_ir (x : EdT) : ltE x x = false := swoE.irrefl x
theorem ltE_as {x y : EdT} (h : ltE x y = true) (k : ltE y x = true) : False := by rw [ltE_iff] at h k; omega
theorem ss_eq : ∀ (A B : List EdT), SsE A → SsE B → (∀ x, x ∈ A ↔ x ∈ B) → A = B
  | [], [], _, _, _ => rfl
  | [], b :: B, _, _, h => absurd ((h b).2 (by simp)) (by simp)
  | a :: A, [], _, _, h => absurd ((h a).1 (by simp)) (by simp)
  | a :: A, b :: B, hA, hB, h => by
    unfold SsE at hA hB
    rw [List.pairwise_cons] at hA hB
    have e : a = b := by
      rcases List.mem_cons.1 ((h a).1 (by simp)) with q | q
      · exact q
      · rcases List.mem_cons.1 ((h b).2 (by simp)) with r | r
        · exact r.symm
        · exact (ltE_as (hB.1 a q) (hA.1 b r)).elim
    subst e
    congr 1
    refine ss_eq A B hA.2 hB.2 fun x => ⟨fun q => ?_, fun q => ?_⟩
    · rcases List.mem_cons.1 ((h x).1 (by simp [q])) with r | r
      · subst r; have := hA.1 x q; rw [ltE_ir] at this; cases this
      · exact r
    · rcases List.mem_cons.1 ((h x).2 (by simp [q])) with r | r
      · subst r; have := hB.1 x q; rw [ltE_ir] at this; cases this
      · exact r
theorem cp_mem {α : Type} [Inhabited α] [DecidableEq α] {zs : List α} {x : α} (h : x ∈ Lib.compact zs) : x ∈ zs := by
  unfold Lib.compact Lib.compactUpTo at h
  obtain ⟨j, hj, rfl⟩ := List.mem_map.1 h
  have hj' := List.mem_range.1 (List.mem_filter.1 hj).1
  rw [getElem!_pos _ j (by simpa using hj')]
  simp
theorem cp_has {α : Type} [Inhabited α] [DecidableEq α] {zs : List α} : ∀ (j : Nat) (h : j < zs.length), zs[j] ∈ Lib.compact zs
  | 0, h => by
    unfold Lib.compact Lib.compactUpTo
    refine List.mem_map.2 ⟨0, List.mem_filter.2 ⟨List.mem_range.2 h, by simp [Lib.keeps]⟩, ?_⟩
    simp [h]
  | j + 1, h => by
    by_cases e : zs[j + 1] = zs[j]
    · rw [e]; exact cp_has j (by omega)
    · unfold Lib.compact Lib.compactUpTo
      refine List.mem_map.2 ⟨j + 1, List.mem_filter.2 ⟨List.mem_range.2 h, ?_⟩, ?_⟩
      · unfold Lib.keeps
        rw [decide_eq_true_eq]
        right
        rw [getElem!_pos _ (j + 1) (by simpa using h), getElem!_pos _ (j + 1 - 1) (by simp; omega)]
        simpa using e
      · simp [h]
theorem cpE_ss {zs : List EdT} (hs : zs.Pairwise fun a b => ltE b a = false) : SsE (Lib.compact zs) := by
  have key : ∀ m, m ≤ zs.length → (Lib.compactUpTo zs.toArray m).Pairwise (fun a b => ltE a b = true) ∧ (∀ x ∈ Lib.compactUpTo zs.toArray m, ∃ j, j < m ∧ ∃ h : j < zs.length, x = zs[j]) := by
    intro m
    induction m with
    | zero => intro _; exact ⟨by simp [Lib.compactUpTo], fun x hx => by simp [Lib.compactUpTo] at hx⟩
    | succ m ih =>
      intro hm
      obtain ⟨k1, k2⟩ := ih (by omega)
      rw [Lib.compactUpTo_succ]
      by_cases hk : Lib.keeps zs.toArray m = true
      · rw [if_pos hk]
        have hm' : m < zs.length := by omega
        have em : zs.toArray[m]! = zs[m] := by simp [hm']
        refine ⟨?_, fun x hx => ?_⟩
        · rw [List.pairwise_append]
          refine ⟨k1, by simp, fun x hx y hy => ?_⟩
          rw [List.mem_singleton.1 hy, em]
          obtain ⟨j, hj, hjl, rfl⟩ := k2 x hx
          unfold Lib.keeps at hk
          rw [decide_eq_true_eq] at hk
          have hm0 : m ≠ 0 := by omega
          have hk2 := hk.resolve_left hm0
          have e1 : zs.toArray[m - 1]! = zs[m - 1] := by simp [show m - 1 < zs.length by omega]
          rw [em, e1] at hk2
          have l1 : ltE zs[m] zs[m - 1] = false := (List.pairwise_iff_getElem.1 hs) (m - 1) m (by omega) hm' (by omega)
          have l3 : ltE zs[m - 1] zs[m] = true := by
            cases q : ltE zs[m - 1] zs[m]
            · exact absurd (totE _ _ l1 q) hk2
            · rfl
          rcases Nat.lt_or_ge j (m - 1) with q | q
          · have l2 : ltE zs[m - 1] zs[j] = false := (List.pairwise_iff_getElem.1 hs) j (m - 1) hjl (by omega) q
            rw [ltE_iff] at l3 ⊢
            rw [ltE_not] at l2
            omega
          · have : j = m - 1 := by omega
            subst this; exact l3
        · rcases List.mem_append.1 hx with hx | hx
          · obtain ⟨j, hj, q⟩ := k2 x hx
            exact ⟨j, by omega, q⟩
          · rw [List.mem_singleton.1 hx]; exact ⟨m, by omega, hm', em⟩
      · rw [if_neg hk, List.append_nil]
        exact ⟨k1, fun x hx => by obtain ⟨j, hj, q⟩ := k2 x hx; exact ⟨j, by omega, q⟩⟩
  exact (key zs.length (Nat.le_refl _)).1
theorem sortE_up (L : List EdT) : (sortE L).Pairwise fun a b => ltE b a = false := by
  have hp : (sortE L).Pairwise fun a b => (!ltE b a) = true := List.pairwise_mergeSort (le := fun x y => !ltE y x) (fun a b c h1 h2 => by
    simp only [Bool.not_eq_true', ltE_not] at *
    omega) (fun a b => by
    cases h1 : ltE b a
    · simp
    · cases h2 : ltE a b
      · simp
      · exact (ltE_as h1 h2).elim) L
  exact hp.imp fun q => by simpa using q
theorem riseE_ss (L : List EdT) : SsE (riseE L) := cpE_ss (sortE_up L)
theorem riseE_iff (L : List EdT) (x : EdT) : x ∈ riseE L ↔ x ∈ L := by
  constructor
  · intro h
    have := cp_mem h
    unfold sortE at this
    exact List.mem_mergeSort.1 this
  · intro h
    have h' : x ∈ sortE L := by unfold sortE; exact List.mem_mergeSort.2 h
    obtain ⟨j, hj, rfl⟩ := List.getElem_of_mem h'
    exact cp_has j hj
theorem riseE_len (L : List EdT) : (riseE L).length ≤ L.length := Nat.le_trans (compact_len _) (Nat.le_of_eq (sortE_len L))
theorem riseL_iff (L : List Int) (x : Int) : x ∈ riseL L ↔ x ∈ L := by
  constructor
  · intro h
    have := cp_mem h
    unfold sortI at this
    exact List.mem_mergeSort.1 this
  · intro h
    have h' : x ∈ sortI L := by unfold sortI; exact List.mem_mergeSort.2 h
    obtain ⟨j, hj, rfl⟩ := List.getElem_of_mem h'
    exact cp_has j hj
theorem riseL_len (L : List Int) : (riseL L).length ≤ L.length := Nat.le_trans (compact_len _) (Nat.le_of_eq (sortI_len L))
/-! ### The edges from a state by a symbol -/
theorem pre_count {α : Type} (P : α → Bool) : ∀ (L : List α), (L.Pairwise fun a b => P b = true → P a = true) → ∀ (i : Nat) (h : i < L.length), (P L[i] = true ↔ i < (L.filter P).length)
  | [], _, i, h => absurd h (Nat.not_lt_zero i)
  | a :: L, hp, i, h => by
    rw [List.pairwise_cons] at hp
    cases ha : P a
    · have hn : ∀ b ∈ L, P b = false := fun b hb => by
        cases hb2 : P b
        · rfl
        · rw [hp.1 b hb hb2] at ha; cases ha
      have hf : (a :: L).filter P = [] := by
        rw [List.filter_eq_nil_iff]
        intro b hb
        rcases List.mem_cons.1 hb with rfl | hb
        · simp [ha]
        · simp [hn b hb]
      rw [hf]
      cases i with
      | zero => simp [ha]
      | succ i =>
        have h2 : i < L.length := by simpa using h
        simp [hn L[i] (List.getElem_mem h2)]
    · rw [List.filter_cons_of_pos ha, List.length_cons]
      cases i with
      | zero => simp [ha]
      | succ i =>
        have h2 : i < L.length := by simpa using h
        have := pre_count P L hp.2 i h2
        rw [List.getElem_cons_succ, this]
        omega
def fromL (Es : List EdT) (p : Nat) (y : Int) : List EdT := Es.filter fun e => decide (e.1 = (p : Int) ∧ e.2.1 = y)
theorem fromL_iff {Es : List EdT} {p : Nat} {y : Int} {x : EdT} : x ∈ fromL Es p y ↔ x ∈ Es ∧ x.1 = (p : Int) ∧ x.2.1 = y := by
  unfold fromL
  rw [List.mem_filter, decide_eq_true_eq]
theorem fromL_ss {Es : List EdT} (hS : SsE Es) (p : Nat) (y : Int) : SsE (fromL Es p y) := List.Pairwise.filter _ hS
/-- A part of a list. -/
def subL (Es : List EdT) (lo hi : Nat) : List EdT := (Es.drop lo).take (hi - lo)
theorem subL_len {Es : List EdT} {lo hi : Nat} (h : hi ≤ Es.length) : (subL Es lo hi).length = hi - lo := by
  unfold subL; rw [List.length_take, List.length_drop]; omega
theorem subL_get {Es : List EdT} {lo hi : Nat} (t : Nat) (h : t < (subL Es lo hi).length) : ∃ h2 : lo + t < Es.length, (subL Es lo hi)[t] = Es[lo + t] := by
  unfold subL at h ⊢
  rw [List.length_take, List.length_drop] at h
  refine ⟨by omega, ?_⟩
  rw [List.getElem_take, List.getElem_drop]
theorem subL_ss {Es : List EdT} (hS : SsE Es) (lo hi : Nat) : SsE (subL Es lo hi) := List.Pairwise.sublist ((List.take_sublist _ _).trans (List.drop_sublist _ _)) hS
/-! ### Two phases, and the last operation of the first makes a block: it may come up ahead of some that read -/
section
variable {P : Program} {md : Region.Mode} {ops : Array Oper} {C0 C1 : World → Prop} {al : Nat}
end
/-- A world behind some draws, and behind a block that was made. -/
def tw (w : World) (b : Obj) (d : Nat) (q : Bool) : World := if q then (w.drewN d).alloc b else w.drewN d
structure TB where
  d : Nat
  q : Bool
  deriving Inhabited
end Go.Proofs.YtchoopnjckcohaaGreat
namespace Go.Proofs.YtchoopnjckcohaaGreat
open Go.RowKit Go.Maps
attribute [local go_sem] Oper.semAt_some
theorem box3 (w : World) (A Z : Array Value) (t u : TypeId) : Below w.heap.size w ((w.alloc (.cells A t)).alloc (.cells Z u)) ∧ ((w.alloc (.cells A t)).alloc (.cells Z u)).heap[w.heap.size]? = some (.cells A t (0, 0)) ∧ ((w.alloc (.cells A t)).alloc (.cells Z u)).heap[w.heap.size + 1]? = some (.cells Z u (0, 0)) ∧ ((w.alloc (.cells A t)).alloc (.cells Z u)).heap.size = w.heap.size + 2 := by
  refine ⟨((Below.refl _ _).alloc (Nat.le_refl _) _).alloc (by simp) _, (Below.heap_alloc _ _ _ (by simp)).trans (World.alloc_heap_new _ _), ?_, by simp⟩
  have := World.alloc_heap_new (w.alloc (.cells A t)) (.cells Z u)
  simpa using this
theorem set6 (w : World) (b : Nat) (v0 v1 v2 v3 v4 v5 u0 u1 u2 u3 u4 u5 : Value) (t : TypeId) (h : w.heap[b]? = some (.cells #[v0, v1, v2, v3, v4, v5] t (0, 0))) :
    ((((((w.setCell ⟨b, 0, none⟩ u0).setCell ⟨b, 1, none⟩ u1).setCell ⟨b, 2, none⟩ u2).setCell ⟨b, 3, none⟩ u3).setCell ⟨b, 4, none⟩ u4).setCell ⟨b, 5, none⟩ u5).heap[b]? = some (.cells #[u0, u1, u2, u3, u4, u5] t (0, 0)) :=
  heap_setCell_same _ _ 5 _ t _ (heap_setCell_same _ _ 4 _ t _ (heap_setCell_same _ _ 3 _ t _ (heap_setCell_same _ _ 2 _ t _ (heap_setCell_same _ _ 1 _ t _ (heap_setCell_same _ _ 0 _ t _ h)))))
theorem only6 (w : World) (b : Nat) (u0 u1 u2 u3 u4 u5 : Value) : Only w ((((((w.setCell ⟨b, 0, none⟩ u0).setCell ⟨b, 1, none⟩ u1).setCell ⟨b, 2, none⟩ u2).setCell ⟨b, 3, none⟩ u3).setCell ⟨b, 4, none⟩ u4).setCell ⟨b, 5, none⟩ u5) (fun k => k = b) :=
  (only5 w b u0 u1 u2 u3 u4).trans (only_set _ _ 5 _)
/-- How many edges start at the state before a number. -/
def cntAt (L : List EdT) (c : Nat) : Nat := (L.filter fun e => decide (e.1 + 1 = (c : Int))).length
/-- How many edges start below a number. -/
def lessC (L : List EdT) (c : Nat) : Nat := (L.filter fun e => decide (e.1 < (c : Int))).length
theorem cntAt_le (L : List EdT) (c : Nat) : cntAt L c ≤ L.length := List.length_filter_le _ _
theorem lessC_le (L : List EdT) (c : Nat) : lessC L c ≤ L.length := List.length_filter_le _ _
theorem cntAt_snoc (L : List EdT) (x : EdT) (c : Nat) : cntAt (L ++ [x]) c = cntAt L c + if x.1 + 1 = (c : Int) then 1 else 0 := by
  unfold cntAt
  rw [List.filter_append, List.length_append]
  by_cases h : x.1 + 1 = (c : Int) <;> simp [h]
theorem lessC_succ (L : List EdT) (c : Nat) : lessC L (c + 1) = cntAt L (c + 1) + lessC L c := by
  unfold lessC cntAt
  induction L with
  | nil => rfl
  | cons x L ih =>
    simp only [List.filter_cons]
    rcases Int.lt_trichotomy x.1 (c : Int) with h | h | h
    · rw [if_pos (by simp; omega), if_neg (by simp; omega), if_pos (by simpa using h), List.length_cons, List.length_cons, ih]; omega
    · rw [if_pos (by simp; omega), if_pos (by simp; omega), if_neg (by simp; omega), List.length_cons, List.length_cons, ih]; omega
    · rw [if_neg (by simp; omega), if_neg (by simp; omega), if_neg (by simp; omega), ih]
theorem lessC_zero (L : List EdT) (h : ∀ e ∈ L, 0 ≤ e.1) : lessC L 0 = 0 ∧ cntAt L 0 = 0 := by
  unfold lessC cntAt
  constructor <;> rw [List.length_eq_zero_iff, List.filter_eq_nil_iff] <;> intro e he <;> have := h e he <;> simp <;> omega
/-- The row of beginnings while the second loop runs. -/
def firstV (L : List EdT) (p c : Nat) : Value := .int .i64 ((if c ≤ p then lessC L c else cntAt L c : Nat) : Int)
open Go.Shelf
/-! ### Rows by state and symbol -/
/-- An edge by its row. -/
def kE (m : Nat) (L : List EdT) : List EdT := L.map fun e => (e.1 * (m : Int) + e.2.1, 0, e.2.2)
def toL (L : List EdT) : List Int := L.map fun e => e.2.2
theorem kE_len (m : Nat) (L : List EdT) : (kE m L).length = L.length := by simp [kE]
theorem set3 (w : World) (b : Nat) (v0 v1 v2 u0 u1 u2 : Value) (t : TypeId) (h : w.heap[b]? = some (.cells #[v0, v1, v2] t (0, 0))) : (((w.setCell ⟨b, 0, none⟩ u0).setCell ⟨b, 1, none⟩ u1).setCell ⟨b, 2, none⟩ u2).heap[b]? = some (.cells #[u0, u1, u2] t (0, 0)) :=
  heap_setCell_same _ _ 2 _ t _ (heap_setCell_same _ _ 1 _ t _ (heap_setCell_same _ _ 0 _ t _ h))
theorem nr_step {W1 w5 : World} {B i cE d5 : Nat} {aE z5 : Option Addr} {Ed : List EdT} {p s x3 : Int} (hT : Ed.take (i + 1) = Ed.take i ++ [(p, s, x3)]) (ho : w5.ownsRow B 3 1 (.slice z5 (i + 1) d5) (i + 1) ((toL (Ed.take i)).map (Value.int .i64) ++ [.int .i64 x3])) (hg : (W1.alloc (.cells #[.int .i64 x3] 3)).grownBy w5 (Value.slice aE i cE).ownBlock) : w5.ownsRow B 3 1 (.slice z5 (i + 1) d5) (i + 1) ((toL (Ed.take (i + 1))).map (Value.int .i64)) ∧ Only W1 w5 (fun k => (Value.slice aE i cE).ownBlock = some k) := by
  refine ⟨?_, ?_⟩
  · rw [hT]
    unfold toL at ho ⊢
    rw [List.map_append, List.map_append]
    exact ho
  · exact ⟨hg.os, hg.tape, hg.output, by have := hg.size; rw [World.size_alloc] at this; omega, fun x hx hn => (hg.block x (by rw [World.size_alloc]; omega) (fun e => hn e.symm)).trans (Below.heap_alloc _ _ _ hx)⟩
theorem nr_box {W1 w5 : World} {B b n : Nat} {v : Value} {xs : List Value} {o : Obj} (hR : W1.ownsRow B 3 1 v n xs) (o1 : Only W1 w5 (fun k => v.ownBlock = some k)) (hb : W1.heap[b]? = some o) (hlt : b < B) : w5.heap[b]? = some o :=
  (o1.block _ (Array.getElem?_eq_some_iff.1 hb).1 (fun h => by have := (hR.lt _ h).1; omega)).trans hb
theorem row_tag {W : World} {B k n sz : Nat} {e t : TypeId} {v : Value} {xs : List Value} {cs : Array Value} {fr : Nat × Nat} (h : W.ownsRow B e sz v n xs) (hb : W.heap[k]? = some (.cells cs t fr)) (hne : t ≠ e) (hk : v.ownBlock = some k) : False := by
  rcases h.2 with ⟨hv, _⟩ | ⟨g', cap', cur', hv, _, hgc, _⟩
  · subst hv
    cases hk
  · subst hv
    have e2 : g' = k := by simpa [Value.ownBlock] using hk
    subst e2
    rw [hgc] at hb
    cases hb
    exact hne rfl
/-- What newRows answers: the ends in their order, and where each row begins. -/
structure RwA (B : Nat) (w : World) (m R : Nat) (Ed : List EdT) (aE : Option Addr) (n cE g : Nat) : Prop where
  ow : w.ownsRow B 3 1 (.slice aE n cE) n ((toL Ed).map (Value.int .i64))
  fi : Mrw w g 3 (R + 1) (fun c => .int .i64 ((lessC (kE m Ed) c : Nat) : Int)) (R + 1)
  ge : B ≤ g
set_option maxRecDepth 100000 in
set_option maxHeartbeats 4000000 in
theorem newRows_any (w : World) (N m : Nat) (a1 a2 a3 : Option Addr) (l1 l2 c1 c2 c3 : Nat) (Ed : List EdT) (hN : N ≤ 4096) (hm : m ≤ 128) (hE : Hid (RdE w a3 Ed)) (hl : Ed.length ≤ 4194304) (hF : Hid (∀ e ∈ Ed, (0 ≤ e.1 ∧ e.1 < (N : Int)) ∧ 0 ≤ e.2.1 ∧ e.2.1 < (m : Int))) :
    Calls Tryz.prog 34 #[.agg #[.int .i64 (N : Int), .int .i64 (m : Int), .slice a1 l1 c1, .slice a2 l2 c2, .slice a3 Ed.length c3]] w fun e w' => ∃ aE cE g, e = .returned (.agg #[.int .i64 (m : Int), .slice aE Ed.length cE, .slice (some ⟨g, 0, none⟩) (N * m + 1) (N * m + 1)]) ∧ Hid (RwA w.heap.size w' m (N * m) Ed aE Ed.length cE g) ∧ Below w.heap.size w w' := by
  obtain ⟨n3, en⟩ : ∃ n, Ed.length = n := ⟨_, rfl⟩
  obtain ⟨R, hR⟩ : ∃ R, N * m = R := ⟨_, rfl⟩
  rw [en, hR]
  rw [en] at hl
  have hRl : R ≤ 524288 := by rw [← hR]; exact Nat.le_trans (Nat.mul_le_mul hN hm) (by decide)
  have HN3 := hide en
  have HRR := hide hR
  obtain ⟨i9, hi9, hz90, hz91, hz92⟩ := info_parts info3
  obtain ⟨M, hM⟩ : ∃ M, M = madeCells (Value.int .i64 0).cells ((((R : Nat) : Int) + 1).toNat * i9.size) := ⟨_, rfl⟩
  have hmk : ∀ W : World, (Instr.makeSlice 22 (.int .i64 ((R : Int) + 1)) (.int .i64 ((R : Int) + 1))).run Tryz.prog W = .ok (.slice (some ⟨W.heap.size, 0, none⟩) (R + 1) (R + 1)) (W.alloc (.cells M 3)) := fun W => by
    have h := run_make (P := Tryz.prog) W 22 3 i9 (.int .i64 0) Tryz.underlying22 hi9 hz90 .i64 .i64 ((R : Int) + 1) ((R : Int) + 1) (by omega) (by omega) (by rw [hz92]; omega) (by omega)
    rw [← hM] at h
    rw [h]
    have : ((R : Int) + 1).toNat = R + 1 := by omega
    rw [this]
  have hwr : IntKind.i64.wrap ((R : Int) + 1) = (R : Int) + 1 := by rw [IntKind.wrap_i64]; omega
  have hmk : ∀ W : World, (Instr.makeSlice 22 (.int .i64 (IntKind.i64.wrap ((R : Int) + 1))) (.int .i64 (IntKind.i64.wrap ((R : Int) + 1)))).run Tryz.prog W = .ok (.slice (some ⟨W.heap.size, 0, none⟩) (R + 1) (R + 1)) (W.alloc (.cells M 3)) := by rw [hwr]; exact hmk
  clear hwr
  have hmul : IntKind.i64.wrap ((N : Int) * (m : Int)) = (R : Int) := by
    have : (N : Int) * (m : Int) = (R : Int) := by rw [← hR]; simp
    rw [this, IntKind.wrap_i64]
    omega
  have HM := hide (And.intro hM hz91)
  have HI := hide (And.intro hi9 (And.intro hz90 (And.intro hz91 hz92)))
  clear hM hi9 hz90 hz91 hz92 en hR
  obtain ⟨W0, hW0⟩ : ∃ W0, (w.alloc (.cells #[.int .i64 (N : Int), .int .i64 (m : Int), .slice a1 l1 c1, .slice a2 l2 c2, .slice a3 n3 c3] 25)).alloc (.cells #[.int .i64 0, .slice none 0 0, .slice none 0 0] 67) = W0 := ⟨_, rfl⟩
  have HD := hide (box3 w #[.int .i64 (N : Int), .int .i64 (m : Int), .slice a1 l1 c1, .slice a2 l2 c2, .slice a3 n3 c3] #[.int .i64 0, .slice none 0 0, .slice none 0 0] 25 67)
  rw [hW0] at HD
  have B0 := HD.out.2.1
  have k0 : W0.cell? ⟨w.heap.size, 0, none⟩ = some (.int .i64 (N : Int)) := cell_of B0 rfl
  have k1 : W0.cell? ⟨w.heap.size, 1, none⟩ = some (.int .i64 (m : Int)) := cell_of B0 rfl
  clear B0
  go_enter Tryz.func34, Tryz.ntmps34
  go_upto_region 1 with fail
  go_cut [3] from 3 to 16 (fun p3 W => ∃ b g, p3 = .pointer (some ⟨b, 0, none⟩) ∧ Hid (W.heap[b]? = some (.cells #[.int .i64 (m : Int), .slice none 0 0, .slice (some ⟨g, 0, none⟩) (R + 1) (R + 1)] 67 (0, 0)) ∧ W.heap[g]? = some (.cells M 3 (0, 0)) ∧ b ≠ g ∧ W0.heap.size ≤ b ∧ W0.heap.size ≤ g ∧ Below W0.heap.size W0 W))
  case first =>
    go_region_held3 (fun W2 => W2.cell? ⟨w.heap.size, 0, none⟩ = some (.int .i64 (N : Int)) ∧ W2.cell? ⟨w.heap.size, 1, none⟩ = some (.int .i64 (m : Int)))
      (first | go_keep | assumption)
      (fail)
    · go_wp2_with fail
      go_meet
      refine ⟨W0.heap.size + 1, W0.heap.size, rfl, hide ?_⟩
      have q := box3 W0 M #[.int .i64 (m : Int), .slice none 0 0, .slice (some ⟨W0.heap.size, 0, none⟩) (R + 1) (R + 1)] 3 67
      exact ⟨q.2.2.1, q.2.1, by omega, by omega, by omega, q.1.drew⟩
    · go_wp2_with fail
      go_meet
      refine ⟨W0.heap.size, W0.heap.size + 1, rfl, hide ?_⟩
      have q := box3 W0 #[.int .i64 (m : Int), .slice none 0 0, .slice (some ⟨W0.heap.size + 1, 0, none⟩) (R + 1) (R + 1)] M 67 3
      exact ⟨q.2.1, q.2.2.1, by omega, by omega, by omega, q.1.drew⟩
  case rest =>
    obtain ⟨b, g, rfl, HX⟩ := hcut
    rename World => wx
    clear hmk k0 k1 hmul
    have y4 : wx.cell? ⟨w.heap.size, 4, none⟩ = some (.slice a3 n3 c3) := cell_of (blk_on HD.out.2.1 HX.out.2.2.2.2.2) rfl
    have m0 : Mrw wx g 3 (R + 1) (fun c => .int .i64 ((cntAt (kE m (Ed.take 0)) c : Nat) : Int)) (R + 1) := by
      refine ⟨M, HX.out.2.1, by rw [HM.out.1, HM.out.2, size_madeCells]; omega, fun j hj => ?_⟩
      rw [HM.out.1, HM.out.2]
      rw [← Array.getElem?_toList, show (Value.int .i64 0).cells = #[Value.int .i64 0] from rfl, toList_madeCells_one, List.getElem?_replicate, if_pos (by omega)]
      simp [cntAt, kE]
    have HP : Hid (b ≠ g ∧ W0.heap.size ≤ b ∧ W0.heap.size ≤ g ∧ b < wx.heap.size ∧ g < wx.heap.size ∧ W0.heap.size = w.heap.size + 2) := hide ⟨HX.out.2.2.1, HX.out.2.2.2.1, HX.out.2.2.2.2.1, (Array.getElem?_eq_some_iff.1 HX.out.1).1, (Array.getElem?_eq_some_iff.1 HX.out.2.1).1, HD.out.2.2.2⟩
    have H0 : Hid (wx.ownsRow wx.heap.size 3 1 (.slice none 0 0) 0 ((toL (Ed.take 0)).map (Value.int .i64)) ∧ Mrw wx g 3 (R + 1) (fun c => .int .i64 ((cntAt (kE m (Ed.take 0)) c : Nat) : Int)) (R + 1) ∧ wx.heap[b]? = some (.cells #[.int .i64 (m : Int), .slice none 0 0, .slice (some ⟨g, 0, none⟩) (R + 1) (R + 1)] 67 (0, 0)) ∧ Below W0.heap.size W0 wx ∧ wx.heap.size ≤ wx.heap.size) := hide ⟨World.ownsRow_nil _ _ _ _, m0, HX.out.1, HX.out.2.2.2.2.2, Nat.le_refl _⟩
    clear m0 HX
    go_wp2_with fail
    clear y4
    go_loopw [20] (fun iv wr => ∃ i : Nat, i ≤ n3 ∧ iv = .int .i64 (i : Int) ∧ ∃ aE cE, Hid (wr.ownsRow wx.heap.size 3 1 (.slice aE i cE) i ((toL (Ed.take i)).map (Value.int .i64)) ∧ Mrw wr g 3 (R + 1) (fun c => .int .i64 ((cntAt (kE m (Ed.take i)) c : Nat) : Int)) (R + 1) ∧ wr.heap[b]? = some (.cells #[.int .i64 (m : Int), .slice aE i cE, .slice (some ⟨g, 0, none⟩) (R + 1) (R + 1)] 67 (0, 0)) ∧ Below W0.heap.size W0 wr ∧ wx.heap.size ≤ wr.heap.size)) (fun iv _ => n3 - (intOf iv).toNat)
    case atStart => exact ⟨0, Nat.zero_le _, rfl, none, 0, H0⟩
    case round =>
      obtain ⟨i, hi, rfl, aE, cE, HY⟩ := hrel
      clear H0
      by_cases hil : i < n3
      · have i0 : (0 : Int) ≤ (i : Int) := by omega
        have i1 : (i : Int) < (n3 : Int) := by omega
        have hjl : i < Ed.length := by have := HN3.out; omega
        obtain ⟨ge, o, ea, q1, q2, q3⟩ := (hE.out.on (HD.out.1.trans (HY.out.2.2.2.1.mono HD.out.1.size))) i hjl
        subst ea
        have HTk := hide (List.take_succ_eq_append_getElem hjl)
        have HN := hide (hF.out Ed[i] (List.getElem_mem hjl))
        obtain ⟨x, hx⟩ : ∃ x, Ed[i] = x := ⟨_, rfl⟩
        rw [hx] at q1 q2 q3 HTk HN
        clear hx
        obtain ⟨x1, x2, x3⟩ := x
        obtain ⟨p, hp⟩ := Int.eq_ofNat_of_zero_le HN.out.1.1
        obtain ⟨s, hs⟩ := Int.eq_ofNat_of_zero_le HN.out.2.1
        have hp : x1 = (p : Int) := hp
        have hs : x2 = (s : Int) := hs
        subst hp hs
        have hp1 : p < N := by have := HN.out.1.2; simp only at this; omega
        have hs1 : s < m := by have := HN.out.2.2; simp only at this; omega
        obtain ⟨k, hk⟩ : ∃ k, p * m + s = k := ⟨_, rfl⟩
        have hkR : k < R := by
          rw [← hk, ← HRR.out]
          have : (p + 1) * m ≤ N * m := Nat.mul_le_mul_right _ hp1
          rw [Nat.add_mul, Nat.one_mul] at this
          omega
        have epm : (p : Int) * (m : Int) = ((p * m : Nat) : Int) := by simp
        have e1 : IntKind.i64.wrap ((p : Int) * (m : Int)) = (p : Int) * (m : Int) := by rw [epm, IntKind.wrap_i64]; omega
        have e2 : IntKind.i64.wrap ((p : Int) * (m : Int) + (s : Int)) = (k : Int) := by rw [epm, IntKind.wrap_i64]; omega
        clear epm
        have e3 : IntKind.i64.wrap ((k : Int) + 1) = (k : Int) + 1 := by rw [IntKind.wrap_i64]; omega
        have HKK := hide hk
        clear hk
        obtain ⟨W1, hW1⟩ : ∃ W1, wr.alloc (.cells #[.int .i64 (p : Int), .int .i64 (s : Int), .int .i64 x3] 50) = W1 := ⟨_, rfl⟩
        have HW : Hid (W1.heap[wr.heap.size]? = some (.cells #[.int .i64 (p : Int), .int .i64 (s : Int), .int .i64 x3] 50 (0, 0)) ∧ Below wr.heap.size wr W1 ∧ W1.heap.size = wr.heap.size + 1) := hide (by rw [← hW1]; exact ⟨World.alloc_heap_new _ _, (Below.refl _ _).alloc (Nat.le_refl _) _, by simp⟩)
        have y2 : W1.cell? ⟨wr.heap.size, 2, none⟩ = some (.int .i64 x3) := cell_of HW.out.1 rfl
        have b1 : W1.cell? ⟨b, 1, none⟩ = some (.slice aE i cE) := cell_of (blk_on HY.out.2.2.1 HW.out.2.1) rfl
        have HR1 := hide (own_below HY.out.1 HW.out.2.1)
        have hwx := HY.out.2.2.2.2
        have hw1 := HW.out.2.1.size
        obtain ⟨hi9, hz90, hz91, hz92⟩ := HI.out
        go_upto_region 6 with (at_builtin; refine wpList_append_own_at _ rfl _ _ 22 rfl wx.heap.size 3 i9 _ 1 8 Tryz.underlying22 hi9 hz90 hz91 hz92 rfl (by omega) (.slice aE i cE) i ((toL (Ed.take i)).map (Value.int .i64)) rfl (HR1.out.alloc _) ⟨W1.heap.size, 0, none⟩ 1 1 [.int .i64 x3] rfl rfl (World.news_of_block (cs := #[.int .i64 x3]) (t := 3) (fr := (0, 0)) (heap_alloc_new W1 _)) (by simp [Value.oneCell']) (by unfold maxLen; omega) (by omega) (by rw [World.size_alloc]; omega) ?_; intro v5 w5 ho hg hn5 hl5; obtain ⟨z5, d5, e5⟩ := own_slice ho; subst e5; have HG : Hid (w5.ownsRow wx.heap.size 3 1 (.slice z5 (i + 1) d5) (i + 1) ((toL (Ed.take (i + 1))).map (Value.int .i64)) ∧ Only W1 w5 (fun k => (Value.slice aE i cE).ownBlock = some k)) := hide (nr_step HTk.out ho hg); have Bb5 : Hid (w5.heap[b]? = some (.cells #[.int .i64 (m : Int), .slice aE i cE, .slice (some ⟨g, 0, none⟩) (R + 1) (R + 1)] 67 (0, 0))) := hide (nr_box HR1.out HG.out.2 (blk_on HY.out.2.2.1 HW.out.2.1) HP.out.2.2.2.1); have cb5 : w5.cell? ⟨b, 1, none⟩ = some (.slice aE i cE) := cell_of Bb5.out rfl; have fb5 : w5.frozen? ⟨b, 1, none⟩ = false := fz_of Bb5.out; clear ho hg hn5 hl5)
        obtain ⟨w6, hw6⟩ : ∃ W, w5.setCell ⟨b, 1, none⟩ (.slice z5 (i + 1) d5) = W := ⟨_, rfl⟩
        rw [hw6]
        have H6 : Hid (w6.ownsRow wx.heap.size 3 1 (.slice z5 (i + 1) d5) (i + 1) ((toL (Ed.take (i + 1))).map (Value.int .i64)) ∧ Mrw w6 g 3 (R + 1) (fun c => .int .i64 ((cntAt (kE m (Ed.take i)) c : Nat) : Int)) (R + 1) ∧ w6.heap[b]? = some (.cells #[.int .i64 (m : Int), .slice z5 (i + 1) d5, .slice (some ⟨g, 0, none⟩) (R + 1) (R + 1)] 67 (0, 0)) ∧ Below W0.heap.size W0 w6 ∧ wx.heap.size ≤ w6.heap.size ∧ w6.heap[wr.heap.size]? = some (.cells #[.int .i64 (p : Int), .int .i64 (s : Int), .int .i64 x3] 50 (0, 0))) := hide (by
          have hR := HR1.out
          have lo : ∀ k, (Value.slice aE i cE).ownBlock = some k → wx.heap.size ≤ k := fun k hk => (hR.lt k hk).1
          have o1 := HG.out.2
          have o2 : Only w5 w6 (fun k => k = b) := by rw [← hw6]; exact only_set _ _ _ _
          have pp := HP.out
          have Be := (o1.block _ (Array.getElem?_eq_some_iff.1 HW.out.1).1 (fun h => row_tag hR HW.out.1 (by decide) h)).trans HW.out.1
          have Mg := ((HY.out.2.1.below HW.out.2.1 HY.out.2.1.lt).only o1 (fun h => by have := lo _ h; omega)).only o2 (fun h => pp.1 h.symm)
          have d1 := HY.out.2.2.2.1.trans (HW.out.2.1.mono HY.out.2.2.2.1.size)
          have d5' := d1.trans (o1.toBelow d1.size (fun k hk => by have := lo _ hk; have := pp.2.2.2.2.2; have := HY.out.2.2.2.1.size; omega))
          exact ⟨row_only HG.out.1 o2 (fun k hk e => by have := (HG.out.1.lt k hk).1; omega), Mg, by rw [← hw6]; exact heap_setCell_same _ _ 1 _ 67 _ Bb5.out, d5'.trans (o2.toBelow d5'.size (fun k hk => by rw [hk]; exact pp.2.1)), Nat.le_trans hwx (Nat.le_trans HW.out.2.1.size (Nat.le_trans o1.size o2.size)), (o2.block _ (Array.getElem?_eq_some_iff.1 Be).1 (by have := HY.out.2.2.2.2; omega)).trans Be⟩)
        clear hw6 HG Bb5 cb5 fb5 HR1 HW y2 b1 hi9 hz90 hz91 hz92 hW1 hw1 hwx
        have b2 : w6.cell? ⟨b, 2, none⟩ = some (.slice (some ⟨g, 0, none⟩) (R + 1) (R + 1)) := cell_of H6.out.2.2.1 rfl
        have y0 : w6.cell? ⟨wr.heap.size, 0, none⟩ = some (.int .i64 (p : Int)) := cell_of H6.out.2.2.2.2.2 rfl
        have y1 : w6.cell? ⟨wr.heap.size, 1, none⟩ = some (.int .i64 (s : Int)) := cell_of H6.out.2.2.2.2.2 rfl
        have z1 : w6.cell? ⟨w.heap.size, 1, none⟩ = some (.int .i64 (m : Int)) := cell_of (blk_on HD.out.2.1 H6.out.2.2.2.1) rfl
        have r0 := H6.out.2.1.at (k + 1) (by omega)
        have r1 := H6.out.2.1.fz (k + 1)
        have hc := Nat.le_trans (cntAt_le (kE m (Ed.take i)) (k + 1)) (by rw [kE_len, List.length_take]; omega : (kE m (Ed.take i)).length ≤ i)
        obtain ⟨cn, hcn⟩ : ∃ cn, cntAt (kE m (Ed.take i)) (k + 1) = cn := ⟨_, rfl⟩
        simp only [hcn] at r0 hc
        have HC := hide hcn
        clear hcn
        have j4 : (k : Int) + 1 < (R : Int) + 1 := by omega
        have j5 : (0 : Int) ≤ (k : Int) + 1 := by omega
        have j6 : IntKind.i64.wrap ((cn : Int) + 1) = (cn : Int) + 1 := by rw [IntKind.wrap_i64]; omega
        have J : Hid ((w6.setCell ⟨g, k + 1, none⟩ (.int .i64 ((cn : Int) + 1))).ownsRow wx.heap.size 3 1 (.slice z5 (i + 1) d5) (i + 1) ((toL (Ed.take (i + 1))).map (Value.int .i64)) ∧ Mrw (w6.setCell ⟨g, k + 1, none⟩ (.int .i64 ((cn : Int) + 1))) g 3 (R + 1) (fun c => .int .i64 ((cntAt (kE m (Ed.take (i + 1))) c : Nat) : Int)) (R + 1) ∧ (w6.setCell ⟨g, k + 1, none⟩ (.int .i64 ((cn : Int) + 1))).heap[b]? = some (.cells #[.int .i64 (m : Int), .slice z5 (i + 1) d5, .slice (some ⟨g, 0, none⟩) (R + 1) (R + 1)] 67 (0, 0)) ∧ Below W0.heap.size W0 (w6.setCell ⟨g, k + 1, none⟩ (.int .i64 ((cn : Int) + 1))) ∧ wx.heap.size ≤ (w6.setCell ⟨g, k + 1, none⟩ (.int .i64 ((cn : Int) + 1))).heap.size) := hide (by
          have o := only_set w6 g (k + 1) (.int .i64 ((cn : Int) + 1))
          have pp := HP.out
          refine ⟨row_only H6.out.1 o (fun q hq e => by have := (H6.out.1.lt q hq).1; omega), (H6.out.2.1.upd (k + 1) _).congr fun c hc => ?_, (o.block b (Array.getElem?_eq_some_iff.1 H6.out.2.2.1).1 (fun e => pp.1 e)).trans H6.out.2.2.1, H6.out.2.2.2.1.trans (o.toBelow H6.out.2.2.2.1.size (fun q hq => by rw [hq]; exact pp.2.2.1)), Nat.le_trans H6.out.2.2.2.2.1 o.size⟩
          rw [HTk.out, show kE m (Ed.take i ++ [((p : Int), (s : Int), x3)]) = kE m (Ed.take i) ++ [((p : Int) * (m : Int) + (s : Int), 0, x3)] by simp [kE], cntAt_snoc]
          have ek : (p : Int) * (m : Int) + (s : Int) = (k : Int) := by rw [← HKK.out]; simp
          simp only [ek]
          by_cases e : c = k + 1
          · subst e
            rw [if_pos rfl, if_pos (by simp), HC.out]
            rfl
          · rw [if_neg e, if_neg (by omega)]
            rfl)
        clear H6 HTk
        go_wp2_with fail
        refine ⟨⟨i + 1, by omega, by go_num, z5, d5, J⟩, by simp [intOf]; omega⟩
      · obtain rfl : n3 = i := by omega
        have i1 : ¬ (n3 : Int) < (n3 : Int) := by omega
        have y0 : wr.cell? ⟨w.heap.size, 0, none⟩ = some (.int .i64 (N : Int)) := cell_of (blk_on HD.out.2.1 HY.out.2.2.2.1) rfl
        have y1 : wr.cell? ⟨w.heap.size, 1, none⟩ = some (.int .i64 (m : Int)) := cell_of (blk_on HD.out.2.1 HY.out.2.2.2.1) rfl
        have hmul : IntKind.i64.wrap ((N : Int) * (m : Int)) = (R : Int) := by
          have : (N : Int) * (m : Int) = (R : Int) := by rw [← HRR.out]; simp
          rw [this, IntKind.wrap_i64]
          omega
        have HZ : Hid (wr.ownsRow wx.heap.size 3 1 (.slice aE n3 cE) n3 ((toL Ed).map (Value.int .i64)) ∧ Mrw wr g 3 (R + 1) (firstV (kE m Ed) 0) (R + 1) ∧ wr.heap[b]? = some (.cells #[.int .i64 (m : Int), .slice aE n3 cE, .slice (some ⟨g, 0, none⟩) (R + 1) (R + 1)] 67 (0, 0)) ∧ Below W0.heap.size W0 wr ∧ wx.heap.size ≤ wr.heap.size) := hide (by
          have t := HY.out
          rw [List.take_of_length_le (by have := HN3.out; omega)] at t
          refine ⟨t.1, t.2.1.congr (fun c _ => ?_), t.2.2⟩
          unfold firstV
          by_cases e : c ≤ 0
          · obtain rfl : c = 0 := by omega
            have q := lessC_zero (kE m Ed) (fun e he => by
              obtain ⟨x, hx, rfl⟩ := List.mem_map.1 he
              have := hF.out x hx
              have h2 : 0 ≤ x.1 * (m : Int) := Int.mul_nonneg this.1.1 (by omega)
              show 0 ≤ x.1 * (m : Int) + x.2.1
              omega)
            rw [if_pos e, q.1, q.2]
          · rw [if_neg e])
        clear HY
        go_upto_region 8 with fail
        go_wp2_with fail
        clear y0 y1 hmul
        go_loopw [52] (fun iv wr => ∃ p : Nat, p ≤ R ∧ iv = .int .i64 (p : Int) ∧ Hid (wr.ownsRow wx.heap.size 3 1 (.slice aE n3 cE) n3 ((toL Ed).map (Value.int .i64)) ∧ Mrw wr g 3 (R + 1) (firstV (kE m Ed) p) (R + 1) ∧ wr.heap[b]? = some (.cells #[.int .i64 (m : Int), .slice aE n3 cE, .slice (some ⟨g, 0, none⟩) (R + 1) (R + 1)] 67 (0, 0)) ∧ Below W0.heap.size W0 wr ∧ wx.heap.size ≤ wr.heap.size)) (fun iv _ => R - (intOf iv).toNat)
        case atStart => exact ⟨0, Nat.zero_le _, rfl, HZ⟩
        case round =>
          obtain ⟨p, hp, rfl, HQ⟩ := hrel
          clear HZ
          by_cases hlt : p < R
          · have j0 : (0 : Int) ≤ (p : Int) := by omega
            have j1 : (p : Int) < (R : Int) := by omega
            have j2 : (p : Int) < (R : Int) + 1 := by omega
            have j3 : (p : Int) + 1 < (R : Int) + 1 := by omega
            have j4 : (0 : Int) ≤ (p : Int) + 1 := by omega
            have r0 := HQ.out.2.1.at p (by omega)
            have r1 := HQ.out.2.1.at (p + 1) (by omega)
            have r2 := HQ.out.2.1.fz (p + 1)
            have y5 : wr.cell? ⟨b, 2, none⟩ = some (.slice (some ⟨g, 0, none⟩) (R + 1) (R + 1)) := cell_of HQ.out.2.2.1 rfl
            unfold firstV at r0 r1
            rw [if_pos (Nat.le_refl _)] at r0
            rw [if_neg (by omega)] at r1
            have u0 := lessC_le (kE m Ed) p
            have u1 := cntAt_le (kE m Ed) (p + 1)
            rw [kE_len, HN3.out] at u0 u1
            have HS := hide (lessC_succ (kE m Ed) p)
            generalize lessC (kE m Ed) p = s at r0 u0 HS
            generalize cntAt (kE m Ed) (p + 1) = c at r1 u1 HS
            have v0 : (s : Int) ≤ 4194304 := by omega
            have v1 : (c : Int) ≤ 4194304 := by omega
            have v2 : (0 : Int) ≤ (s : Int) := by omega
            have v3 : (0 : Int) ≤ (c : Int) := by omega
            go_upto_region 11 with fail
            refine wp_region_phase 12 #[true, true, true, true, true, true, true, true, true, true, true, true, false, false] (by kernel_rfl) (by kernel_rfl) ?_
            simp only [List.take_succ_cons, List.take_zero, List.drop_succ_cons, List.drop_zero]
            repeat (go_big_quiet_step (fail))
            refine wpQuiet_nil ?_
            intro wz hzz
            obtain ⟨nq, rfl⟩ := hzz
            have J : Hid (((wr.drewN nq).setCell ⟨g, p + 1, none⟩ (.int .i64 ((c : Int) + (s : Int)))).ownsRow wx.heap.size 3 1 (.slice aE n3 cE) n3 ((toL Ed).map (Value.int .i64)) ∧ Mrw ((wr.drewN nq).setCell ⟨g, p + 1, none⟩ (.int .i64 ((c : Int) + (s : Int)))) g 3 (R + 1) (firstV (kE m Ed) (p + 1)) (R + 1) ∧ ((wr.drewN nq).setCell ⟨g, p + 1, none⟩ (.int .i64 ((c : Int) + (s : Int)))).heap[b]? = some (.cells #[.int .i64 (m : Int), .slice aE n3 cE, .slice (some ⟨g, 0, none⟩) (R + 1) (R + 1)] 67 (0, 0)) ∧ Below W0.heap.size W0 ((wr.drewN nq).setCell ⟨g, p + 1, none⟩ (.int .i64 ((c : Int) + (s : Int)))) ∧ wx.heap.size ≤ ((wr.drewN nq).setCell ⟨g, p + 1, none⟩ (.int .i64 ((c : Int) + (s : Int)))).heap.size) := hide (by
              have o := only_set (wr.drewN nq) g (p + 1) (.int .i64 ((c : Int) + (s : Int)))
              have pp := HP.out
              have hb1 : (wr.drewN nq).heap[b]? = some (.cells #[.int .i64 (m : Int), .slice aE n3 cE, .slice (some ⟨g, 0, none⟩) (R + 1) (R + 1)] 67 (0, 0)) := HQ.out.2.2.1
              have mq : Mrw (wr.drewN nq) g 3 (R + 1) (firstV (kE m Ed) p) (R + 1) := HQ.out.2.1
              have hw1 : (wr.drewN nq).ownsRow wx.heap.size 3 1 (.slice aE n3 cE) n3 ((toL Ed).map (Value.int .i64)) := HQ.out.1
              refine ⟨row_only hw1 o (fun q hq e => by have := (hw1.lt q hq).1; omega), (mq.upd (p + 1) _).congr fun k hk => ?_, (o.block b (Array.getElem?_eq_some_iff.1 hb1).1 (fun e => pp.1 e)).trans hb1, (below_drewN' HQ.out.2.2.2.1 nq).trans (o.toBelow HQ.out.2.2.2.1.size (fun k hk => by rw [hk]; exact pp.2.2.1)), Nat.le_trans HQ.out.2.2.2.2 o.size⟩
              unfold firstV
              by_cases e : k = p + 1
              · subst e
                rw [if_pos rfl, if_pos (Nat.le_refl _), HS.out]
                simp
              · rw [if_neg e]
                by_cases e2 : k ≤ p
                · rw [if_pos e2, if_pos (by omega)]
                · rw [if_neg e2, if_neg (by omega)])
            have wcs : IntKind.i64.wrap ((c : Int) + (s : Int)) = (c : Int) + (s : Int) := by rw [IntKind.wrap_i64]; omega
            go_wp2_with fail
            go_roundw
            case rel => exact ⟨p + 1, by omega, by go_num, by first | exact J | (simp only [wcs]; exact J)⟩
            case measure => simp [intOf]; omega
          · obtain rfl : R = p := by omega
            have j1 : ¬ (R : Int) < (R : Int) := by omega
            have F3 := blk_on HD.out.2.2.1 HQ.out.2.2.2.1
            have HQ2 := HQ.out.2.2.1
            have o0 : wr.cell? ⟨w.heap.size + 1, 0, none⟩ = some (.int .i64 0) := cell_of F3 rfl
            have f0 : wr.frozen? ⟨w.heap.size + 1, 0, none⟩ = false := fz_of F3
            have k0 : wr.cell? ⟨b, 0, none⟩ = some (.int .i64 (m : Int)) := cell_of HQ2 rfl
            have o1 : wr.cell? ⟨w.heap.size + 1, 1, none⟩ = some (.slice none 0 0) := cell_of F3 rfl
            have f1 : wr.frozen? ⟨w.heap.size + 1, 1, none⟩ = false := fz_of F3
            have k1 : wr.cell? ⟨b, 1, none⟩ = some (.slice aE n3 cE) := cell_of HQ2 rfl
            have o2 : wr.cell? ⟨w.heap.size + 1, 2, none⟩ = some (.slice none 0 0) := cell_of F3 rfl
            have f2 : wr.frozen? ⟨w.heap.size + 1, 2, none⟩ = false := fz_of F3
            have k2 : wr.cell? ⟨b, 2, none⟩ = some (.slice (some ⟨g, 0, none⟩) (R + 1) (R + 1)) := cell_of HQ2 rfl
            have O6 := hide (And.intro (set3 wr (w.heap.size + 1) _ _ _ (.int .i64 (m : Int)) (.slice aE n3 cE) (.slice (some ⟨g, 0, none⟩) (R + 1) (R + 1)) 67 F3) (only3 wr (w.heap.size + 1) 0 1 2 (.int .i64 (m : Int)) (.slice aE n3 cE) (.slice (some ⟨g, 0, none⟩) (R + 1) (R + 1))))
            clear F3 HQ2
            go_wp2_with fail
            refine bodyPost_ret (results_cell_row (p := 2) (ty := 67) rfl _ _ (w.heap.size + 1) 67 _ (0, 0) _ rfl O6.out.1 Tryz.underlying67 rfl (by kernel_rfl)) rfl ?_
            have pp := HP.out
            have oo := O6.out.2
            have dd := HD.out.1.trans (HQ.out.2.2.2.1.mono HD.out.1.size)
            refine ⟨aE, cE, g, rfl, hide ⟨owns_down (B := wx.heap.size) ?_ ?_, (HQ.out.2.1.congr (fun c hc => by unfold firstV; rw [if_pos (by omega)])).only oo (by omega), by omega⟩, dd.trans (oo.toBelow dd.size (fun k hk => by omega))⟩
            · exact row_only HQ.out.1 oo (fun q hq e => by have := (HQ.out.1.lt q hq).1; omega)
            · omega
/-! ### A walk's step: what it holds -/
theorem only_drew {w w' : World} {R : Nat → Prop} (h : Only w w' R) : Only w w'.drew R := ⟨h.os, h.tape, h.output, h.size, h.block⟩
/-- The edges of a walk: in order, each once, with where each state's begin. -/
structure Wk (w : World) (N g3 k3 gf : Nat) (Es : List EdT) : Prop where
  e : RdE w (some ⟨g3, 0, none⟩) Es
  k : Es.length ≤ k3
  f : Mrw w gf 3 (N + 1) (fun c => .int .i64 (lessC Es c : Nat)) (N + 1)
  s : SsE Es
  i : ∀ x ∈ Es, (0 ≤ x.1 ∧ x.1 < (N : Int)) ∧ 0 ≤ x.2.2 ∧ x.2.2 < (N : Int)
  l : Es.length ≤ 4194304
  n : N ≤ 4096
theorem Wk.on {w w' : World} {N g3 k3 gf : Nat} {Es : List EdT} (h : Wk w N g3 k3 gf Es) (d : Below w.heap.size w w') : Wk w' N g3 k3 gf Es :=
  ⟨h.e.on d, h.k, h.f.below d h.f.lt, h.s, h.i, h.l, h.n⟩
theorem Wk.lt {w : World} {N g3 k3 gf : Nat} {Es : List EdT} (h : Wk w N g3 k3 gf Es) {x : EdT} (hx : x ∈ Es) : g3 < w.heap.size := by
  obtain ⟨j, hj, rfl⟩ := List.getElem_of_mem hx
  obtain ⟨g, o, he, q, _⟩ := h.e j hj
  cases he
  exact World.block_lt_of_cell? w _ q
theorem KpU.ofBelow {B : Nat} {W W' : World} (h0 : 0 < W.heap.size) (d : Below W.heap.size W W') : KpU B W W' :=
  ⟨d.size, d.block 0 h0, fun b _ _ _ hc => (d.block b (Array.getElem?_eq_some_iff.1 hc).1).trans hc⟩
theorem KpU.ofOnly {B g : Nat} {W W' : World} (h0 : 0 < W.heap.size) (o : Only W W' (fun k => k = g)) (hg : g < B) (hg0 : g ≠ 0) : KpU B W W' :=
  ⟨o.size, o.block 0 h0 (fun e => hg0 e.symm), fun b _ _ hb hc => (o.block b (Array.getElem?_eq_some_iff.1 hc).1 (fun e => by omega)).trans hc⟩
theorem KpU.put {B : Nat} (W : World) (l : Nat) (r r' : Loop) (hl : 0 < l) (h : W.heap[l]? = some (.loop r)) : KpU B W (W.putObj l (.loop r')) := by
  refine ⟨by simp [World.putObj], World.putObj_heap_other (by omega), fun b cs fr _ hc => ?_⟩
  refine (World.putObj_heap_other fun e => ?_).trans hc
  rw [e] at hc
  rw [h] at hc
  cases hc
/-- What step holds while it goes through a set. -/
structure StI (w : World) (A : Array Value) (sym : Int) (c7 b2 g2 k2 N R : Nat) (W : World) : Prop where
  wb : W.heap[w.heap.size]? = some (.cells A 124 (0, 0))
  sb : W.heap[w.heap.size + 1]? = some (.cells #[.int .i64 sym] 3 (0, 0))
  cb : W.heap[c7]? = some (.cells #[.pointer (some ⟨b2, 0, none⟩)] 81 (0, 0))
  st : IsSet W b2 g2 k2 N R
  be : Below w.heap.size w W
theorem StI.on {w : World} {A : Array Value} {sym : Int} {c7 b2 g2 k2 N R : Nat} {W W' : World} (h : StI w A sym c7 b2 g2 k2 N R W) (d : Below W.heap.size W W') : StI w A sym c7 b2 g2 k2 N R W' :=
  ⟨blk_on h.wb d, blk_on h.sb d, blk_on h.cb d, h.st.below d, h.be.trans (d.mono h.be.size)⟩
theorem StI.put {w : World} {A : Array Value} {sym : Int} {c7 b2 g2 k2 N R l : Nat} {W : World} {r r' : Loop} (h : StI w A sym c7 b2 g2 k2 N R W) (hl : W.heap[l]? = some (.loop r)) (h1 : w.heap.size + 1 < l) : StI w A sym c7 b2 g2 k2 N R (W.putObj l (.loop r')) := by
  have ne : ∀ k (o : Obj), W.heap[k]? = some o → o ≠ Obj.loop r → (W.putObj l (.loop r')).heap[k]? = W.heap[k]? := fun k o hk ho => World.putObj_heap_other fun e => by
    rw [e, hl] at hk
    exact ho (by simpa using hk.symm)
  refine ⟨(ne _ _ h.wb (by simp)).trans h.wb, (ne _ _ h.sb (by simp)).trans h.sb, (ne _ _ h.cb (by simp)).trans h.cb, h.st.keep (ne _ _ h.st.blk (by simp)) ?_, ?_⟩
  · rcases h.st.own.2 with ⟨hv, _⟩ | ⟨g', cap', cur, hv, _, hg, _⟩
    · cases hv
    · cases hv
      exact ne _ _ hg (by simp)
  · exact ⟨h.be.os, h.be.tape, h.be.output, by have := h.be.size; simpa [World.putObj] using this, fun j hj => (World.putObj_heap_other (by omega)).trans (h.be.block j hj)⟩
theorem StI.only {w : World} {A : Array Value} {sym : Int} {c7 b2 g2 k2 N R R' : Nat} {W W' : World} (h : StI w A sym c7 b2 g2 k2 N R W) (o : Only W W' (fun k => k = g2)) (hs : IsSet W' b2 g2 k2 N R') (h1 : w.heap.size + 1 < g2) (h7 : c7 ≠ g2) : StI w A sym c7 b2 g2 k2 N R' W' :=
  ⟨(o.block _ (Array.getElem?_eq_some_iff.1 h.wb).1 (fun e => by omega)).trans h.wb, (o.block _ (Array.getElem?_eq_some_iff.1 h.sb).1 (fun e => by omega)).trans h.sb, (o.block _ (Array.getElem?_eq_some_iff.1 h.cb).1 h7).trans h.cb, hs,
    h.be.trans (o.toBelow h.be.size (fun k hk => by omega))⟩
/-! ### After and Accepts -/
theorem wordErr_zero {n m : Int} {St Fi : List Int} {Ed : List EdT} {Wd : List Int} (h : wordErr n m St Fi Ed Wd = 0) : mayA n m St Fi Ed = true ∧ Wd.all (inB m) = true := by
  unfold wordErr at h
  split at h
  · rename_i h1
    split at h
    · rename_i h2; exact ⟨h1, h2⟩
    · cases h
  · cases h
/-! ### The rests of a word: what is held -/
/-- A cell of a row that points to a set. -/
def PtrAt (w : World) (g i N X : Nat) : Prop := ∃ b g' k, w.cell? ⟨g, i, none⟩ = some (.pointer (some ⟨b, 0, none⟩)) ∧ IsSet w b g' k N X ∧ b ≠ g'
theorem PtrAt.on {w w' : World} {g i N X : Nat} (h : PtrAt w g i N X) (d : Below w.heap.size w w') : PtrAt w' g i N X := by
  obtain ⟨b, g', k, h1, h2, h3⟩ := h
  exact ⟨b, g', k, (d.cell (p := ⟨g, i, none⟩) (World.block_lt_of_cell? w _ h1)).trans h1, h2.below d, h3⟩
theorem set_types {w : World} {b g k N X : Nat} (h : IsSet w b g k N X) : (∃ cs fr, w.heap[b]? = some (.cells cs 120 fr)) ∧ ∃ cs fr, w.heap[g]? = some (.cells cs 143 fr) := by
  refine ⟨⟨_, _, h.blk⟩, ?_⟩
  rcases h.own.2 with ⟨hv, _⟩ | ⟨g', cap', cur, hv, _, hg, _⟩
  · cases hv
  · cases hv; exact ⟨_, _, hg⟩
/-- A set stays where only blocks of other kinds are turned. -/
theorem set_other {w w' : World} {b g k N X : Nat} {R : Nat → Prop} (h : IsSet w b g k N X) (o : Only w w' R) (hR : ∀ q, R q → ∀ cs t fr, w.heap[q]? = some (.cells cs t fr) → t ≠ 120 ∧ t ≠ 143) : IsSet w' b g k N X := by
  obtain ⟨⟨c1, f1, e1⟩, c2, f2, e2⟩ := set_types h
  refine h.keep (o.block b h.blt fun q => ?_) (o.block g h.glt fun q => ?_)
  · exact (hR b q _ _ _ e1).1 rfl
  · exact (hR g q _ _ _ e2).2 rfl
theorem PtrAt.other {w w' : World} {g i N X : Nat} {R : Nat → Prop} (h : PtrAt w g i N X) (o : Only w w' R) (hR : ∀ q, R q → ∀ cs t fr, w.heap[q]? = some (.cells cs t fr) → t ≠ 120 ∧ t ≠ 143) (hc : w'.cell? ⟨g, i, none⟩ = w.cell? ⟨g, i, none⟩) : PtrAt w' g i N X := by
  obtain ⟨b, g', k, h1, h2, h3⟩ := h
  exact ⟨b, g', k, hc.trans h1, set_other h2 o hR, h3⟩
theorem cell_only {w w' : World} {R : Nat → Prop} (o : Only w w' R) {g i : Nat} (hg : g < w.heap.size) (hR : ¬ R g) : w'.cell? ⟨g, i, none⟩ = w.cell? ⟨g, i, none⟩ := World.cell?_of_block (a := ⟨g, i, none⟩) (o.block g hg hR)
/-- What is fixed of a word's rests. -/
structure Rp where
  N : Nat
  m : Int
  a1 : Option Addr
  a2 : Option Addr
  l1 : Nat
  l2 : Nat
  c1 : Nat
  c2 : Nat
  g3 : Nat
  k3 : Nat
  gf : Nat
  Es : List EdT
  aw : Option Addr
  cw : Nat
  Wd : List Int
  wd : Nat
  gl : Nat
  nb : Nat
/-- The cells of the rests. -/
def rsC (R : Rp) (blk : Int) (sv : Value) : Array Value := #[.int .i64 (R.N : Int), .int .i64 R.m, .slice R.a1 R.l1 R.c1, .slice R.a2 R.l2 R.c2, .slice (some ⟨R.g3, 0, none⟩) R.Es.length R.k3, .slice (some ⟨R.gf, 0, none⟩) (R.N + 1) (R.N + 1), .slice R.aw R.Wd.length R.cw, .int .i64 (R.wd : Int), .slice (some ⟨R.gl, 0, none⟩) R.nb R.nb, .int .i64 blk, sv]
structure RpOk (w0 : World) (R : Rp) (F : Nat → Nat) : Prop where
  wk : Wk w0 R.N R.g3 R.k3 R.gf R.Es
  rd : RdN w0 R.aw R.Wd
  tb : TabAt w0 ∧ 0 < w0.heap.size
  st : ∀ j (h : j < R.Wd.length), F j = imgF false (F (j + 1)) R.Wd[j] R.Es
  wl : R.Wd.length ≤ 4194304
  w1 : 1 ≤ R.wd
  w2 : R.wd ≤ 4096
/-- The last place of a block. -/
def endB (R : Rp) (k : Nat) : Nat := min (k * R.wd + R.wd - 1) R.Wd.length
/-- The rests as they lie at a time. -/
structure RsB (w0 : World) (R : Rp) (rb : Nat) (blk : Int) (sv : Value) (w : World) : Prop where
  bx : w.heap[rb]? = some (.cells (rsC R blk sv) 108 (0, 0))
  le : w0.heap.size ≤ rb
  be : Below w0.heap.size w0 w
  lr : ∃ cur, w.heap[R.gl]? = some (.cells cur 81 (0, 0)) ∧ cur.size = R.nb
theorem RsB.on {w0 w w' : World} {R : Rp} {rb : Nat} {blk : Int} {sv : Value} (h : RsB w0 R rb blk sv w) (d : Below w.heap.size w w') : RsB w0 R rb blk sv w' := by
  obtain ⟨cur, h1, h2⟩ := h.lr
  exact ⟨blk_on h.bx d, h.le, h.be.trans (d.mono h.be.size), cur, blk_on h1 d, h2⟩
theorem RsB.ne {w0 w : World} {R : Rp} {rb : Nat} {blk : Int} {sv : Value} (h : RsB w0 R rb blk sv w) : R.gl ≠ rb := fun e => by
  obtain ⟨cur, h1, _⟩ := h.lr
  rw [e, h.bx] at h1
  cases h1
theorem RsB.kind {w0 w : World} {R : Rp} {rb : Nat} {blk : Int} {sv : Value} (h : RsB w0 R rb blk sv w) : ∀ q, q = rb → ∀ cs t fr, w.heap[q]? = some (.cells cs t fr) → t ≠ 120 ∧ t ≠ 143 := fun q hq cs t fr he => by
  subst hq
  rw [h.bx] at he
  cases he
  decide
theorem RsB.glt {w0 w : World} {R : Rp} {rb : Nat} {blk : Int} {sv : Value} (h : RsB w0 R rb blk sv w) : R.gl < w.heap.size := by
  obtain ⟨cur, h1, _⟩ := h.lr
  exact (Array.getElem?_eq_some_iff.1 h1).1
theorem RsB.put {w0 w w' : World} {R : Rp} {rb : Nat} {blk blk' : Int} {sv sv' : Value} (h : RsB w0 R rb blk sv w) (o : Only w w' (fun q => q = rb)) (e : w'.heap[rb]? = some (.cells (rsC R blk' sv') 108 (0, 0))) : RsB w0 R rb blk' sv' w' := by
  obtain ⟨cur, h1, h2⟩ := h.lr
  exact ⟨e, h.le, h.be.trans (o.toBelow h.be.size (fun q hq => by rw [hq]; exact h.le)), cur, (o.block _ h.glt h.ne).trans h1, h2⟩
/-- What load holds in its loop: the sets of the places above i are in the row, that of i is at hand. -/
structure LdI (w0 w : World) (R : Rp) (F : Nat → Nat) (rb gs k bg en : Nat) (i b g c : Nat) (wr : World) : Prop where
  rs : RsB w0 R rb (k : Int) (.slice (some ⟨gs, 0, none⟩) (en - bg + 1) (en - bg + 1)) wr
  row : ∃ cur, wr.heap[gs]? = some (.cells cur 81 (0, 0)) ∧ cur.size = en - bg + 1
  set : IsSet wr b g c R.N (F i) ∧ b ≠ g
  ptr : ∀ j, i < j → j ≤ en → PtrAt wr gs (j - bg) R.N (F j)
  on : Only w wr (fun q => q = rb)
  gw : w0.heap.size ≤ gs
/-- The set at hand laid into the row. -/
theorem LdI.store {w0 w : World} {R : Rp} {F : Nat → Nat} {rb gs k bg en i b g c : Nat} {wr : World} (h : LdI w0 w R F rb gs k bg en i b g c wr) (h1 : bg ≤ i) (h2 : i ≤ en) (hg : w.heap.size ≤ gs) (hl : R.gl ≠ gs) {W' : World} (hW : wr.setCell ⟨gs, i - bg, none⟩ (.pointer (some ⟨b, 0, none⟩)) = W') :
    RsB w0 R rb (k : Int) (.slice (some ⟨gs, 0, none⟩) (en - bg + 1) (en - bg + 1)) W' ∧ (∃ cur, W'.heap[gs]? = some (.cells cur 81 (0, 0)) ∧ cur.size = en - bg + 1) ∧ (IsSet W' b g c R.N (F i) ∧ b ≠ g) ∧ (∀ j, i ≤ j → j ≤ en → PtrAt W' gs (j - bg) R.N (F j)) ∧ Only w W' (fun q => q = rb) := by
  obtain ⟨cur, e1, e2⟩ := h.row
  have o : Only wr W' (fun q => q = gs) := by rw [← hW]; exact only_set _ _ _ _
  have hne : rb ≠ gs := fun q => by rw [← q, h.rs.bx] at e1; cases e1
  have hgl := (Array.getElem?_eq_some_iff.1 e1).1
  have hrl := (Array.getElem?_eq_some_iff.1 h.rs.bx).1
  have kd : ∀ q, q = gs → ∀ cs t fr, wr.heap[q]? = some (.cells cs t fr) → t ≠ 120 ∧ t ≠ 143 := fun q hq cs t fr he => by
    subst hq
    rw [e1] at he
    cases he
    decide
  have e3 : W'.heap[gs]? = some (.cells (cur.setIfInBounds (i - bg) (.pointer (some ⟨b, 0, none⟩))) 81 (0, 0)) := by rw [← hW]; exact heap_setCell_same _ _ _ _ 81 _ e1
  have hs : IsSet W' b g c R.N (F i) := set_other h.set.1 o kd
  have hab := (h.rs.be.size)
  obtain ⟨lc, l1, l2⟩ := h.rs.lr
  refine ⟨⟨(o.block _ hrl hne).trans h.rs.bx, h.rs.le, ?_, lc, (o.block _ h.rs.glt hl).trans l1, l2⟩, ⟨_, e3, by simpa using e2⟩, ⟨hs, h.set.2⟩, ?_, h.on.andNew o (fun q hq e => absurd hq (by omega))⟩
  · refine ⟨o.os.trans h.rs.be.os, o.tape.trans h.rs.be.tape, o.output.trans h.rs.be.output, Nat.le_trans h.rs.be.size o.size, fun q hq => (o.block q (by omega) (fun e => ?_)).trans (h.rs.be.block q hq)⟩
    subst e
    rw [(h.rs.be.block _ hq)] at e1
    have h5 := h.on
    exact absurd hq (by have := h.gw; omega)
  · intro j hj1 hj2
    by_cases e : j = i
    · subst e
      exact ⟨b, g, c, cell_of e3 (by rw [Array.getElem?_setIfInBounds_self_of_lt (by omega)]), hs, h.set.2⟩
    · refine (h.ptr j (by omega) hj2).other o kd ?_
      have q1 : W'.cell? ⟨gs, j - bg, none⟩ = some cur[j - bg] := cell_of e3 (by rw [Array.getElem?_setIfInBounds_ne (by omega), Array.getElem?_eq_getElem (by omega)])
      have q2 : wr.cell? ⟨gs, j - bg, none⟩ = some cur[j - bg] := cell_of e1 (Array.getElem?_eq_getElem (by omega))
      rw [q1, q2]
/-! ### The set of one place -/
/-- The rests with the sets of one block at hand. -/
structure RsA (w0 : World) (R : Rp) (F : Nat → Nat) (rb blk gs : Nat) (w : World) : Prop where
  rs : RsB w0 R rb (blk : Int) (.slice (some ⟨gs, 0, none⟩) (endB R blk - blk * R.wd + 1) (endB R blk - blk * R.wd + 1)) w
  bk : blk < R.nb
  pt : ∀ j, blk * R.wd ≤ j → j ≤ endB R blk → PtrAt w gs (j - blk * R.wd) R.N (F j)
  la : ∀ k, k < R.nb → PtrAt w R.gl k R.N (F (endB R k))
  gr : ∃ cur, w.heap[gs]? = some (.cells cur 81 (0, 0))
theorem RsA.on {w0 w w' : World} {R : Rp} {F : Nat → Nat} {rb blk gs : Nat} (h : RsA w0 R F rb blk gs w) (d : Below w.heap.size w w') : RsA w0 R F rb blk gs w' :=
  ⟨h.rs.on d, h.bk, fun j h1 h2 => (h.pt j h1 h2).on d, fun k hk => (h.la k hk).on d, by obtain ⟨cur, h1⟩ := h.gr; exact ⟨cur, blk_on h1 d⟩⟩
/-! ### The rests of a word, made -/
/-- What newRests holds while it makes the blocks' last sets. -/
structure NrI (w0 : World) (R : Rp) (F : Nat → Nat) (rb kk b g c : Nat) (wr : World) : Prop where
  rs : ∃ blk sv, RsB w0 R rb blk sv wr
  set : 0 < kk → IsSet wr b g c R.N (F (endB R (kk - 1))) ∧ b ≠ g
  ptr : ∀ k, kk ≤ k → k < R.nb → PtrAt wr R.gl k R.N (F (endB R k))
  fin : kk = 0 → ∃ gs, RsA w0 R F rb 0 gs wr
end Go.Proofs.YtchoopnjckcohaaGreat
namespace Go.Proofs.YtchoopnjckcohaaGreat
open Go.RowKit Go.Maps Go.Shelf
/-! ### The least path, as states place by place -/
/-- Where the first edge into a set stands. -/
def frstE (X : Nat) (L : List EdT) : Nat := L.findIdx fun e => hasB X e.2.2
def nxtP (Es : List EdT) (X p : Nat) (y : Int) : Nat := ((fromL Es p y).getD (frstE X (fromL Es p y)) (0, 0, 0)).2.2.toNat
def stP (Es : List EdT) (F : Nat → Nat) (Wd : List Int) (p0 : Nat) : Nat → Nat
  | 0 => p0
  | i + 1 => nxtP Es (F (i + 1)) (stP Es F Wd p0 i) (Wd.getD i 0)
theorem frst_in {X : Nat} {L : List EdT} (h : ∃ e ∈ L, hasB X e.2.2 = true) : ∃ hk : frstE X L < L.length, hasB X L[frstE X L].2.2 = true ∧ ∀ t (h : t < L.length), t < frstE X L → hasB X L[t].2.2 = false := by
  have hk : frstE X L < L.length := List.findIdx_lt_length_of_exists (by obtain ⟨e, he, hv⟩ := h; exact ⟨e, he, hv⟩)
  refine ⟨hk, List.findIdx_getElem (p := fun e : EdT => hasB X e.2.2) (w := hk), fun t ht hlt => ?_⟩
  have := List.not_of_lt_findIdx (p := fun e : EdT => hasB X e.2.2) hlt
  simpa using this
theorem hasB_nat {X : Nat} {i : Int} (h : hasB X i = true) : 0 ≤ i ∧ X.testBit i.toNat = true := by
  unfold hasB at h
  simpa using h
/-- A place's set and the next one's hang together. -/
def Links (Es : List EdT) (F : Nat → Nat) (Wd : List Int) : Prop := ∀ j (_ : j < Wd.length) p, (F j).testBit p = true → ∃ e ∈ Es, e.1 = (p : Int) ∧ e.2.1 = Wd[j] ∧ hasB (F (j + 1)) e.2.2 = true
theorem Links.step {Es : List EdT} {F : Nat → Nat} {Wd : List Int} (h : Links Es F Wd) {p0 i : Nat} (hi : i < Wd.length) (hp : (F i).testBit (stP Es F Wd p0 i) = true) :
    ∃ hk : frstE (F (i + 1)) (fromL Es (stP Es F Wd p0 i) Wd[i]) < (fromL Es (stP Es F Wd p0 i) Wd[i]).length, hasB (F (i + 1)) (fromL Es (stP Es F Wd p0 i) Wd[i])[frstE (F (i + 1)) (fromL Es (stP Es F Wd p0 i) Wd[i])].2.2 = true ∧ (∀ t (h : t < (fromL Es (stP Es F Wd p0 i) Wd[i]).length), t < frstE (F (i + 1)) (fromL Es (stP Es F Wd p0 i) Wd[i]) → hasB (F (i + 1)) (fromL Es (stP Es F Wd p0 i) Wd[i])[t].2.2 = false) ∧ (fromL Es (stP Es F Wd p0 i) Wd[i])[frstE (F (i + 1)) (fromL Es (stP Es F Wd p0 i) Wd[i])].2.2 = ((stP Es F Wd p0 (i + 1) : Nat) : Int) ∧ (F (i + 1)).testBit (stP Es F Wd p0 (i + 1)) = true := by
  obtain ⟨e, he, h1, h2, h3⟩ := h i hi _ hp
  obtain ⟨hk, q1, q2⟩ := frst_in (X := F (i + 1)) (L := fromL Es (stP Es F Wd p0 i) Wd[i]) ⟨e, fromL_iff.2 ⟨he, h1, h2⟩, h3⟩
  have q3 := hasB_nat q1
  have e1 : Wd.getD i 0 = Wd[i] := by simp [List.getD, hi]
  have q4 : stP Es F Wd p0 (i + 1) = ((fromL Es (stP Es F Wd p0 i) Wd[i])[frstE (F (i + 1)) (fromL Es (stP Es F Wd p0 i) Wd[i])]).2.2.toNat := by
    show nxtP Es (F (i + 1)) (stP Es F Wd p0 i) (Wd.getD i 0) = _
    rw [e1]
    unfold nxtP
    rw [List.getD_eq_getElem?_getD, List.getElem?_eq_getElem hk]
    rfl
  refine ⟨hk, q1, q2, ?_, ?_⟩
  · rw [q4]; omega
  · rw [q4]; exact q3.2
theorem Links.all {Es : List EdT} {F : Nat → Nat} {Wd : List Int} (h : Links Es F Wd) {p0 : Nat} (h0 : (F 0).testBit p0 = true) : ∀ i, i ≤ Wd.length → (F i).testBit (stP Es F Wd p0 i) = true
  | 0, _ => h0
  | i + 1, hi => by
    have := h.step (p0 := p0) (i := i) (by omega) (Links.all h h0 i (by omega))
    obtain ⟨_, _, _, _, q⟩ := this
    exact q
theorem Wk.only {w w' : World} {N g3 k3 gf : Nat} {Es : List EdT} {R : Nat → Prop} (h : Wk w N g3 k3 gf Es) (o : Only w w' R) (h3 : ¬ R g3) (hf : ¬ R gf) : Wk w' N g3 k3 gf Es :=
  ⟨rdE_only h.e o (fun g o' e => by cases e; exact h3), h.k, h.f.only o hf, h.s, h.i, h.l, h.n⟩
/-- The rests stay where only a row of numbers is turned. -/
theorem RsA.row {w0 w w' : World} {R : Rp} {F : Nat → Nat} {rb blk gs pr : Nat} (h : RsA w0 R F rb blk gs w) (o : Only w w' (fun q => q = pr)) {cs : Array Value} {fr : Nat × Nat} (hp : w.heap[pr]? = some (.cells cs 3 fr)) (h0 : w0.heap.size ≤ pr) : RsA w0 R F rb blk gs w' := by
  have kd : ∀ q, q = pr → ∀ cs t fr, w.heap[q]? = some (.cells cs t fr) → t ≠ 120 ∧ t ≠ 143 := fun q hq cs t fr he => by
    subst hq
    rw [hp] at he
    cases he
    decide
  obtain ⟨lc, l1, l2⟩ := h.rs.lr
  obtain ⟨gc, hg⟩ := h.gr
  have n1 : rb ≠ pr := fun e => by rw [← e, h.rs.bx] at hp; cases hp
  have n2 : R.gl ≠ pr := fun e => by rw [← e, l1] at hp; cases hp
  have n3 : gs ≠ pr := fun e => by rw [← e, hg] at hp; cases hp
  have z1 := (Array.getElem?_eq_some_iff.1 h.rs.bx).1
  have z3 := (Array.getElem?_eq_some_iff.1 hg).1
  exact ⟨⟨(o.block _ z1 n1).trans h.rs.bx, h.rs.le, h.rs.be.trans (o.toBelow h.rs.be.size (fun q hq => by rw [hq]; exact h0)), lc, (o.block _ h.rs.glt n2).trans l1, l2⟩, h.bk, fun j h1 h2 => (h.pt j h1 h2).other o kd (cell_only o z3 n3), fun k hk => (h.la k hk).other o kd (cell_only o h.rs.glt n2), gc, (o.block _ z3 n3).trans hg⟩
end Go.Proofs.YtchoopnjckcohaaGreat
namespace Go.Proofs.YtchoopnjckcohaaGreat
open Go.RowKit Go.Maps Go.Shelf
attribute [local go_sem] Oper.semAt_some
/-! ### The least path -/
/-- What leastPath holds in its loop. -/
structure LpI (w w0 : World) (R : Rp) (F : Nat → Nat) (N rb wb f3 j3 ff : Nat) (Es : List EdT) (bc : Array Value) (B : Nat) (P : List Nat) (pg pc : Nat) (wr : World) : Prop where
  ra : ∃ blk gs, RsA w0 R F rb blk gs wr
  wk : Wk wr N f3 j3 ff Es
  bx : wr.heap[wb]? = some (.cells bc 124 (0, 0))
  rw : wr.ownsRow B 3 1 (.slice (some ⟨pg, 0, none⟩) P.length pc) P.length (intV P)
  be : Below w.heap.size w wr
theorem LpI.on {w w0 : World} {R : Rp} {F : Nat → Nat} {N rb wb f3 j3 ff : Nat} {Es : List EdT} {bc : Array Value} {B : Nat} {P : List Nat} {pg pc : Nat} {W W' : World} (h : LpI w w0 R F N rb wb f3 j3 ff Es bc B P pg pc W) (d : Below W.heap.size W W') : LpI w w0 R F N rb wb f3 j3 ff Es bc B P pg pc W' := by
  obtain ⟨blk, gs, hr⟩ := h.ra
  exact ⟨⟨blk, gs, hr.on d⟩, h.wk.on d, blk_on h.bx d, own_on h.rw d (own_at h.rw).2, h.be.trans (d.mono h.be.size)⟩
theorem LpI.at {w w0 : World} {R : Rp} {F : Nat → Nat} {N rb wb f3 j3 ff : Nat} {Es : List EdT} {bc : Array Value} {B : Nat} {P : List Nat} {pg pc : Nat} {W W' : World} (h : LpI w w0 R F N rb wb f3 j3 ff Es bc B P pg pc W) (hB : rb ≠ f3 ∧ rb ≠ ff ∧ rb ≠ wb ∧ rb < B ∧ w.heap.size ≤ rb) (o : Only W W' (fun q => q = rb)) (hr : ∃ blk gs, RsA w0 R F rb blk gs W') : LpI w w0 R F N rb wb f3 j3 ff Es bc B P pg pc W' := by
  have hp := (own_at h.rw).1
  exact ⟨hr, h.wk.only o (fun e => hB.1 e.symm) (fun e => hB.2.1 e.symm), (o.block _ (Array.getElem?_eq_some_iff.1 h.bx).1 (fun e => hB.2.2.1 e.symm)).trans h.bx, own_only h.rw o (by omega), h.be.trans (o.toBelow h.be.size (fun q hq => by omega))⟩
/-! ### The law's own lists -/
/-- The marks behind a list. -/
def mrk (k : Nat) : List Int := (List.range k).map fun (i : Nat) => -1000 - (i : Int)
/-- A list with its marks, in a row of its own. -/
structure Mk (B : Nat) (w : World) (g c : Nat) (L : List Int) : Prop where
  le : L.length + 70 ≤ c
  rw : w.ownsRow B 3 1 (.slice (some ⟨g, 0, none⟩) (L.length + 70) c) (L.length + 70) ((L ++ mrk 70).map (Value.int .i64))
theorem rdN_own {W : World} {B g c n : Nat} {X L : List Int} (h : W.ownsRow B 3 1 (.slice (some ⟨g, 0, none⟩) n c) n (X.map (Value.int .i64))) (hp : L <+: X) : RdN W (some ⟨g, 0, none⟩) L := fun j hj => by
  obtain ⟨t, rfl⟩ := hp
  refine ⟨g, 0, rfl, ?_⟩
  have := h.cells (g := g) rfl j (.int .i64 L[j]) (by rw [List.getElem?_map, List.getElem?_append_left hj, List.getElem?_eq_getElem hj]; rfl)
  rw [Addr.add_lit] at this
  simpa using this
theorem Mk.rd {B : Nat} {w : World} {g c : Nat} {L : List Int} (h : Mk B w g c L) : RdN w (some ⟨g, 0, none⟩) L := rdN_own h.rw (List.prefix_append _ _)
theorem Mk.on {B C : Nat} {w w' : World} {g c : Nat} {L : List Int} (h : Mk B w g c L) (d : Below C w w') (hg : g < C) : Mk B w' g c L := ⟨h.le, own_on h.rw d hg⟩
end Go.Proofs.YtchoopnjckcohaaGreat
