import Derived.Test.YtmagchclmmphaaaDoorPD
import Derived.Test.YtmagchclmmphaaaDoorLZ
import Derived.Test.YtmagchclmmphaaaDoorTX
import Derived.Deep.RegionHeld3
import Derived.Deep.CutRange
namespace Go.Proofs.YtmagchclmmphaaaDoor
open Go.RowKit Go.Maps
attribute [local go_sem] Oper.semAt_some

theorem slice_n0 (t : ByteArray) (k : Nat) (W : World) (hk : k ≤ t.size) : (Instr.slice 9 (.string t) none (some (.int .i64 (k : Int))) none).run Tryd.prog W = .ok (.string (t.extract 0 k)) W := by
  simp [Instr.slice, run_underlying Tryd.underlying9, Instr.sliceBounds, Instr.sliceBound, asIntOf, hk]
/-! ### Worlds above another one -/
theorem wrap_nat (n : Nat) (h : n ≤ 134217728) : IntKind.i64.wrap (n : Int) = (n : Int) := by
  simp [IntKind.wrap, IntKind.bits, IntKind.signed]; omega
/-! ### Two boxes that are made while a text is read -/
def Y28 (W : World) (b : Nat) : Prop := W.heap[b]? = some (.cells #[.string ⟨#[]⟩, .slice none 0 0, .slice none 0 0, .slice none 0 0, .slice none 0 0] 28 (0, 0))
def Y31 (W : World) (b : Nat) : Prop := W.heap[b]? = some (.cells #[.int .i64 0, .int .i64 0] 31 (0, 0))
theorem Y28.up {W : World} {b : Nat} (h : Y28 W b) (o : Obj) : Y28 (W.alloc o) b := (Below.heap_alloc W o b (Array.getElem?_eq_some_iff.1 h).1).trans h
theorem Y31.up {W : World} {b : Nat} (h : Y31 W b) (o : Obj) : Y31 (W.alloc o) b := (Below.heap_alloc W o b (Array.getElem?_eq_some_iff.1 h).1).trans h
theorem Y28.on {W W' : World} {b : Nat} (h : Y28 W b) (d : Below W.heap.size W W') : Y28 W' b := (d.block _ (Array.getElem?_eq_some_iff.1 h).1).trans h
theorem Y31.on {W W' : World} {b : Nat} (h : Y31 W b) (d : Below W.heap.size W W') : Y31 W' b := (d.block _ (Array.getElem?_eq_some_iff.1 h).1).trans h
theorem Y28.new (W : World) : Y28 (W.alloc (.cells #[.string ⟨#[]⟩, .slice none 0 0, .slice none 0 0, .slice none 0 0, .slice none 0 0] 28)) W.heap.size := World.alloc_heap_new W _
theorem Y31.new (W : World) : Y31 (W.alloc (.cells #[.int .i64 0, .int .i64 0] 31)) W.heap.size := World.alloc_heap_new W _
theorem Y28.new1 (W : World) (o : Obj) : Y28 ((W.alloc o).alloc (.cells #[.string ⟨#[]⟩, .slice none 0 0, .slice none 0 0, .slice none 0 0, .slice none 0 0] 28)) (W.heap.size + 1) := heap_alloc2_new W _ _
theorem Y31.new1 (W : World) (o : Obj) : Y31 ((W.alloc o).alloc (.cells #[.int .i64 0, .int .i64 0] 31)) (W.heap.size + 1) := heap_alloc2_new W _ _
theorem Y28.drew {W : World} {b : Nat} (h : Y28 W b) : Y28 W.drew b := h
theorem Y31.drew {W : World} {b : Nat} (h : Y31 W b) : Y31 W.drew b := h
theorem Y28.cells {W : World} {b : Nat} (h : Y28 W b) : (W.cell? ⟨b, 0, none⟩ = some (.string ⟨#[]⟩) ∧ W.cell? ⟨b, 1, none⟩ = some (.slice none 0 0) ∧ W.cell? ⟨b, 2, none⟩ = some (.slice none 0 0) ∧ W.cell? ⟨b, 3, none⟩ = some (.slice none 0 0) ∧ W.cell? ⟨b, 4, none⟩ = some (.slice none 0 0)) ∧ (W.frozen? ⟨b, 0, none⟩ = false ∧ W.frozen? ⟨b, 1, none⟩ = false ∧ W.frozen? ⟨b, 2, none⟩ = false ∧ W.frozen? ⟨b, 3, none⟩ = false ∧ W.frozen? ⟨b, 4, none⟩ = false) ∧ ((∀ o, (W.alloc o).cell? ⟨b, 0, none⟩ = some (.string ⟨#[]⟩)) ∧ (∀ o, (W.alloc o).cell? ⟨b, 1, none⟩ = some (.slice none 0 0)) ∧ (∀ o, (W.alloc o).cell? ⟨b, 2, none⟩ = some (.slice none 0 0)) ∧ (∀ o, (W.alloc o).cell? ⟨b, 3, none⟩ = some (.slice none 0 0)) ∧ (∀ o, (W.alloc o).cell? ⟨b, 4, none⟩ = some (.slice none 0 0))) ∧ ((∀ o, (W.alloc o).frozen? ⟨b, 0, none⟩ = false) ∧ (∀ o, (W.alloc o).frozen? ⟨b, 1, none⟩ = false) ∧ (∀ o, (W.alloc o).frozen? ⟨b, 2, none⟩ = false) ∧ (∀ o, (W.alloc o).frozen? ⟨b, 3, none⟩ = false) ∧ (∀ o, (W.alloc o).frozen? ⟨b, 4, none⟩ = false)) ∧ b ≠ W.heap.size ∧ W.heap.size ≠ b :=
  ⟨⟨cell_of h rfl, cell_of h rfl, cell_of h rfl, cell_of h rfl, cell_of h rfl⟩, ⟨fz_of h, fz_of h, fz_of h, fz_of h, fz_of h⟩, ⟨fun o => cell_of (h.up o) rfl, fun o => cell_of (h.up o) rfl, fun o => cell_of (h.up o) rfl, fun o => cell_of (h.up o) rfl, fun o => cell_of (h.up o) rfl⟩, ⟨fun o => fz_of (h.up o), fun o => fz_of (h.up o), fun o => fz_of (h.up o), fun o => fz_of (h.up o), fun o => fz_of (h.up o)⟩, Nat.ne_of_lt (Array.getElem?_eq_some_iff.1 h).1, Nat.ne_of_gt (Array.getElem?_eq_some_iff.1 h).1⟩
theorem Y31.cells {W : World} {b : Nat} (h : Y31 W b) : (W.cell? ⟨b, 0, none⟩ = some (.int .i64 0) ∧ W.cell? ⟨b, 1, none⟩ = some (.int .i64 0)) ∧ (W.frozen? ⟨b, 0, none⟩ = false ∧ W.frozen? ⟨b, 1, none⟩ = false) ∧ ((∀ o, (W.alloc o).cell? ⟨b, 0, none⟩ = some (.int .i64 0)) ∧ (∀ o, (W.alloc o).cell? ⟨b, 1, none⟩ = some (.int .i64 0))) ∧ ((∀ o, (W.alloc o).frozen? ⟨b, 0, none⟩ = false) ∧ (∀ o, (W.alloc o).frozen? ⟨b, 1, none⟩ = false)) ∧ b ≠ W.heap.size ∧ W.heap.size ≠ b :=
  ⟨⟨cell_of h rfl, cell_of h rfl⟩, ⟨fz_of h, fz_of h⟩, ⟨fun o => cell_of (h.up o) rfl, fun o => cell_of (h.up o) rfl⟩, ⟨fun o => fz_of (h.up o), fun o => fz_of (h.up o)⟩, Nat.ne_of_lt (Array.getElem?_eq_some_iff.1 h).1, Nat.ne_of_gt (Array.getElem?_eq_some_iff.1 h).1⟩
theorem y_ne {W : World} {b b' : Nat} (h : Y28 W b) (h' : Y31 W b') : b ≠ b' := by
  rintro rfl
  unfold Y28 at h
  unfold Y31 at h'
  rw [h] at h'
  simp at h'
theorem Y28.both {P W : World} {b : Nat} (h : Y28 P b) (d : Below P.heap.size P W) : Y28 W b ∧ b < P.heap.size := ⟨h.on d, (Array.getElem?_eq_some_iff.1 h).1⟩
theorem Y31.both {P W : World} {b : Nat} (h : Y31 P b) (d : Below P.heap.size P W) : Y31 W b ∧ b < P.heap.size := ⟨h.on d, (Array.getElem?_eq_some_iff.1 h).1⟩
theorem bl_on {B W W' : World} (h : Below B.heap.size B W) (d : Below W.heap.size W W') : Below B.heap.size B W' := h.trans (d.mono h.size)
theorem bl_alloc {B W : World} {o : Obj} (h : Below B.heap.size B W) : Below B.heap.size B (W.alloc o) := h.alloc h.size _
theorem bl_set {B W : World} {b j : Nat} {v : Value} (h : Below B.heap.size B W) (hb : B.heap.size ≤ b) : Below B.heap.size B (W.setCell ⟨b, j, none⟩ v) := h.setCell hb _
/-- What a text that was read says, wherever its own memory is as it was. -/
def Kept (P w9 : World) (O : List OpI) (S F : List ByteArray) (R : List RuT) (ao asx an ar : Option Addr) : Prop :=
  ∀ W2 : World, (∀ k, P.heap.size ≤ k → k < w9.heap.size → W2.heap[k]? = w9.heap[k]?) → RdO W2 ao O ∧ ReadsS W2 asx S ∧ ReadsS W2 an F ∧ RdRu W2 ar R
theorem owns_keep {w w' : World} {base e size : Nat} {v : Value} {n : Nat} {xs : List Value} (h : w.ownsRow base e size v n xs) (hb : ∀ k, base ≤ k → k < w.heap.size → w'.heap[k]? = w.heap[k]?) : w'.ownsRow base e size v n xs :=
  ⟨h.1, h.2.imp id (fun ⟨g, cap, cur, h1, h2, h3, h4⟩ => ⟨g, cap, cur, h1, h2, (hb g h2 (Array.getElem?_eq_some_iff.1 h3).1).trans h3, h4⟩)⟩
theorem parse_kept (s : ByteArray) (w : World) (hT : Hid (RowsAt w ∧ BytesAt w ∧ 1 < w.heap.size)) (hsz : s.size ≤ 129999999) (he : errF s = 0) :
    Calls Tryd.prog 5 #[.string s] w fun e w' => ∃ ao co asx cs an cn ar cr, e = .returned (.tuple #[.agg #[.string (tT s), .slice ao (oT s).length co, .slice asx (sT s).length cs, .slice an (fT s).length cn, .slice ar (rT s).length cr], .agg #[.int .i64 0, .int .i64 0]]) ∧ Kept w w' (oT s) (sT s) (fT s) (rT s) ao asx an ar ∧ Below w.heap.size w w' := by
  refine (parse_ok s w hT hsz he).mono ?_
  rintro e w1 ⟨vo, vs, vn, vr, rfl, ro, rs, rn, rr, rd, d1⟩
  have hf : (finN (contF s)).length = (namesAt (finN (contF s)) (contF s).S).length := by simp [namesAt]
  rw [hf] at rn
  rw [text_cells] at rs
  obtain ⟨ao, co, rfl, qo⟩ := rdO_of ro
  obtain ⟨asx, cs, rfl, qs⟩ := rdS_of rs
  obtain ⟨an, cn, rfl, qn⟩ := rdS_of rn
  obtain ⟨ar, cr, rfl, qr⟩ := rdR_of rr
  refine ⟨ao, co, asx, cs, an, cn, ar, cr, ?_, fun W2 hk => ?_, d1⟩
  · show Ending.returned (.tuple #[.agg #[.string (tT s), .slice ao (contF s).O.length co, .slice asx (sT s).length cs, .slice an (fT s).length cn, .slice ar (rT s).length cr], .agg #[.int .i64 0, .int .i64 0]]) = _
    rw [show (oT s).length = (contF s).O.length by unfold oT; rw [List.length_map]]
  · obtain ⟨ao', co', e1, k1⟩ := rdO_of (owns_keep ro hk)
    obtain ⟨as', cs', e2, k2⟩ := rdS_of (owns_keep rs hk)
    obtain ⟨an', cn', e3, k3⟩ := rdS_of (owns_keep rn hk)
    obtain ⟨ar', cr', e4, k4⟩ := rdR_of (owns_keep rr hk)
    cases e1; cases e2; cases e3; cases e4
    exact ⟨k1, k2, k3, k4⟩
/-- They are written. -/
theorem y_fin {B P w9 W : World} {b7 b8 : Nat} {O : List OpI} {S F : List ByteArray} {R : List RuT} {ao asx an ar : Option Addr} (dW : Below B.heap.size B W) (hW : w9.heap.size ≤ W.heap.size ∧ ∀ k, k < w9.heap.size → W.heap[k]? = w9.heap[k]?) (h7 : Y28 W b7) (h8 : Y31 W b8) (p7 : b7 < P.heap.size ∨ w9.heap.size ≤ b7) (p8 : b8 < P.heap.size ∨ w9.heap.size ≤ b8) (l7 : B.heap.size ≤ b7) (l8 : B.heap.size ≤ b8)
    (hk : Kept P w9 O S F R ao asx an ar) (v0 v1 v2 v3 v4 u0 u1 : Value) (X : World) (hX : X = ((((((W.setCell ⟨b7, 0, none⟩ v0).setCell ⟨b7, 1, none⟩ v1).setCell ⟨b7, 2, none⟩ v2).setCell ⟨b7, 3, none⟩ v3).setCell ⟨b7, 4, none⟩ v4).setCell ⟨b8, 0, none⟩ u0).setCell ⟨b8, 1, none⟩ u1) :
    X.heap[b7]? = some (.cells #[v0, v1, v2, v3, v4] 28 (0, 0)) ∧ X.heap[b8]? = some (.cells #[u0, u1] 31 (0, 0)) ∧ Below B.heap.size B X ∧ RdO X ao O ∧ ReadsS X asx S ∧ ReadsS X an F ∧ RdRu X ar R := by
  subst hX
  have hne := y_ne h7 h8
  have q0 := heap_setCell_same _ _ 4 _ 28 v4 (heap_setCell_same _ _ 3 _ 28 v3 (heap_setCell_same _ _ 2 _ 28 v2 (heap_setCell_same _ _ 1 _ 28 v1 (heap_setCell_same _ _ 0 _ 28 v0 h7))))
  have p8' : (((((W.setCell ⟨b7, 0, none⟩ v0).setCell ⟨b7, 1, none⟩ v1).setCell ⟨b7, 2, none⟩ v2).setCell ⟨b7, 3, none⟩ v3).setCell ⟨b7, 4, none⟩ v4).heap[b8]? = some (.cells #[.int .i64 0, .int .i64 0] 31 (0, 0)) :=
    (Below.heap_setCell _ _ _ _ hne.symm).trans ((Below.heap_setCell _ _ _ _ hne.symm).trans ((Below.heap_setCell _ _ _ _ hne.symm).trans ((Below.heap_setCell _ _ _ _ hne.symm).trans ((Below.heap_setCell _ _ _ _ hne.symm).trans h8))))
  have q8 := heap_setCell_same _ _ 1 _ 31 u1 (heap_setCell_same _ _ 0 _ 31 u0 p8')
  have q7 : (((((((W.setCell ⟨b7, 0, none⟩ v0).setCell ⟨b7, 1, none⟩ v1).setCell ⟨b7, 2, none⟩ v2).setCell ⟨b7, 3, none⟩ v3).setCell ⟨b7, 4, none⟩ v4).setCell ⟨b8, 0, none⟩ u0).setCell ⟨b8, 1, none⟩ u1).heap[b7]? = some (.cells #[v0, v1, v2, v3, v4] 28 (0, 0)) := (Below.heap_setCell _ _ _ _ hne).trans ((Below.heap_setCell _ _ _ _ hne).trans q0)
  refine ⟨q7, q8, bl_set (bl_set (bl_set (bl_set (bl_set (bl_set (bl_set dW l7) l7) l7) l7) l7) l8) l8, hk _ (fun k k1 k2 => ?_)⟩
  have n7 : k ≠ b7 := by omega
  have n8 : k ≠ b8 := by omega
  exact ((Below.heap_setCell _ _ _ _ n8).trans ((Below.heap_setCell _ _ _ _ n8).trans ((Below.heap_setCell _ _ _ _ n7).trans ((Below.heap_setCell _ _ _ _ n7).trans ((Below.heap_setCell _ _ _ _ n7).trans ((Below.heap_setCell _ _ _ _ n7).trans (Below.heap_setCell _ _ _ _ n7))))))).trans (hW.2 k k2)
theorem agree0 (w9 : World) : w9.heap.size ≤ w9.heap.size ∧ ∀ k, k < w9.heap.size → w9.heap[k]? = w9.heap[k]? := ⟨Nat.le_refl _, fun _ _ => rfl⟩
theorem agree1 (w9 : World) (o : Obj) : w9.heap.size ≤ (w9.alloc o).heap.size ∧ ∀ k, k < w9.heap.size → (w9.alloc o).heap[k]? = w9.heap[k]? := ⟨by simp, fun k hk => Below.heap_alloc _ _ _ hk⟩
theorem agree2 (w9 : World) (o p : Obj) : w9.heap.size ≤ ((w9.alloc o).alloc p).heap.size ∧ ∀ k, k < w9.heap.size → ((w9.alloc o).alloc p).heap[k]? = w9.heap[k]? := ⟨by simp; omega, fun k hk => (Below.heap_alloc _ _ _ (by simp; omega)).trans (Below.heap_alloc _ _ _ hk)⟩

theorem y_fin3 {B P w9 : World} {b8 : Nat} {O : List OpI} {S F : List ByteArray} {R : List RuT} {ao asx an ar : Option Addr} (dW : Below B.heap.size B w9) (h8 : Y31 w9 b8 ∧ b8 < P.heap.size) (l8 : B.heap.size ≤ b8) (hk : Kept P w9 O S F R ao asx an ar) (v0 v1 v2 v3 v4 u0 u1 : Value) (X : World) (hX : X = ((w9.alloc (.cells #[v0, v1, v2, v3, v4] 28)).setCell ⟨b8, 0, none⟩ u0).setCell ⟨b8, 1, none⟩ u1) :
    X.heap[w9.heap.size]? = some (.cells #[v0, v1, v2, v3, v4] 28 (0, 0)) ∧ X.heap[b8]? = some (.cells #[u0, u1] 31 (0, 0)) ∧ Below B.heap.size B X ∧ RdO X ao O ∧ ReadsS X asx S ∧ ReadsS X an F ∧ RdRu X ar R := by
  subst hX
  have lt8 : b8 < w9.heap.size := (Array.getElem?_eq_some_iff.1 h8.1).1
  have q8 := heap_setCell_same _ _ 1 _ 31 u1 (heap_setCell_same _ _ 0 _ 31 u0 ((Below.heap_alloc w9 (.cells #[v0, v1, v2, v3, v4] 28) b8 lt8).trans h8.1))
  have q7 : (((w9.alloc (.cells #[v0, v1, v2, v3, v4] 28)).setCell ⟨b8, 0, none⟩ u0).setCell ⟨b8, 1, none⟩ u1).heap[w9.heap.size]? = some (.cells #[v0, v1, v2, v3, v4] 28 (0, 0)) := (Below.heap_setCell _ _ _ _ (show w9.heap.size ≠ b8 by omega)).trans ((Below.heap_setCell _ _ _ _ (show w9.heap.size ≠ b8 by omega)).trans (World.alloc_heap_new w9 _))
  refine ⟨q7, q8, bl_set (bl_set (bl_alloc dW) l8) l8, hk _ (fun k k1 k2 => ?_)⟩
  have n8 : k ≠ b8 := by omega
  exact ((Below.heap_setCell _ _ _ _ n8).trans (Below.heap_setCell _ _ _ _ n8)).trans (Below.heap_alloc _ _ _ k2)
theorem y_fin4 {B P w9 : World} {O : List OpI} {S F : List ByteArray} {R : List RuT} {ao asx an ar : Option Addr} (dW : Below B.heap.size B w9) (hk : Kept P w9 O S F R ao asx an ar) (v0 v1 v2 v3 v4 u0 u1 : Value) (X : World) (hX : X = (w9.alloc (.cells #[v0, v1, v2, v3, v4] 28)).alloc (.cells #[u0, u1] 31)) :
    X.heap[w9.heap.size]? = some (.cells #[v0, v1, v2, v3, v4] 28 (0, 0)) ∧ X.heap[w9.heap.size + 1]? = some (.cells #[u0, u1] 31 (0, 0)) ∧ Below B.heap.size B X ∧ RdO X ao O ∧ ReadsS X asx S ∧ ReadsS X an F ∧ RdRu X ar R := by
  subst hX
  exact ⟨(Below.heap_alloc _ _ _ (by simp)).trans (World.alloc_heap_new w9 _), heap_alloc2_new w9 _ _, bl_alloc (bl_alloc dW), hk _ (fun k _ k2 => (agree2 w9 _ _).2 k k2)⟩
theorem y_fin5 {B P w9 : World} {O : List OpI} {S F : List ByteArray} {R : List RuT} {ao asx an ar : Option Addr} (dW : Below B.heap.size B w9) (hk : Kept P w9 O S F R ao asx an ar) (v0 v1 v2 v3 v4 u0 u1 : Value) (X : World) (hX : X = (w9.alloc (.cells #[u0, u1] 31)).alloc (.cells #[v0, v1, v2, v3, v4] 28)) :
    X.heap[w9.heap.size + 1]? = some (.cells #[v0, v1, v2, v3, v4] 28 (0, 0)) ∧ X.heap[w9.heap.size]? = some (.cells #[u0, u1] 31 (0, 0)) ∧ Below B.heap.size B X ∧ RdO X ao O ∧ ReadsS X asx S ∧ ReadsS X an F ∧ RdRu X ar R := by
  subst hX
  exact ⟨heap_alloc2_new w9 _ _, (Below.heap_alloc _ _ _ (by simp)).trans (World.alloc_heap_new w9 _), bl_alloc (bl_alloc dW), hk _ (fun k _ k2 => (agree2 w9 _ _).2 k k2)⟩

set_option maxRecDepth 100000 in
set_option maxHeartbeats 4000000 in
theorem flaid_any (w : World) (ti : ByteArray) (ao asx af ar ag : Option Addr) (co cs cf cr cg : Nat) (O : List OpI) (S F : List ByteArray) (R : List RuT) (G : List ByteArray) (hT : Hid (RowsAt w ∧ BytesAt w ∧ 1 < w.heap.size)) (hO : Hid (RdO w ao O)) (hS : Hid (ReadsS w asx S)) (hF : Hid (ReadsS w af F)) (hR : Hid (RdRu w ar R)) (hG : Hid (ReadsS w ag G))
    (hok : Hid ((∀ x ∈ F, kText.ok x) ∧ ∀ x ∈ R, kRules.ok x)) (hlo : O.length ≤ 1048576) (hls : S.length ≤ 1048576) (hlf : F.length ≤ 1048576) (hlr : R.length ≤ 1048576) (hlg : G.length ≤ 1048576) (hzg : Hid (∀ x ∈ G, x.size ≤ 1048576)) :
    Calls Tryd.prog 4 #[.agg #[.string ti, .slice ao O.length co, .slice asx S.length cs, .slice af F.length cf, .slice ar R.length cr, .slice ag G.length cg]] w fun e w' => e = .returned (.bool true) ∧ Below w.heap.size w w' := by
  obtain ⟨W0, hW0⟩ : ∃ W0, w.alloc (.cells #[.string ti, .slice ao O.length co, .slice asx S.length cs, .slice af F.length cf, .slice ar R.length cr, .slice ag G.length cg] 37) = W0 := ⟨_, rfl⟩
  have d0 : Below w.heap.size w W0 := by rw [← hW0]; exact (Below.refl _ _).alloc (Nat.le_refl _) _
  have b0 : W0.heap[w.heap.size]? = some (.cells #[.string ti, .slice ao O.length co, .slice asx S.length cs, .slice af F.length cf, .slice ar R.length cr, .slice ag G.length cg] 37 (0, 0)) := by rw [← hW0]; exact World.alloc_heap_new _ _
  have HBX : Hid (Bx6 W0 w.heap.size (.string ti) (.slice ao O.length co) (.slice asx S.length cs) (.slice af F.length cf) (.slice ar R.length cr) (.slice ag G.length cg)) := hide ⟨cell_of b0 rfl, cell_of b0 rfl, cell_of b0 rfl, cell_of b0 rfl, cell_of b0 rfl, cell_of b0 rfl⟩
  obtain ⟨c0, c1, c2, c3, c4, c5⟩ := HBX.out
  have hT1 := hide (fun (W : World) (d : Below w.heap.size w W) => show RowsAt W ∧ BytesAt W ∧ 1 < W.heap.size from
    ⟨hT.out.1.below d (by have := hT.out.2.2; omega), hT.out.2.1.below d hT.out.2.2, Nat.lt_of_lt_of_le hT.out.2.2 d.size⟩)
  have HD := hide d0
  have HO := hide (hO.out.on d0)
  have HS := hide (hS.out.below d0)
  have HF := hide (hF.out.below d0)
  have HR := hide (hR.out.on d0)
  have HG := hide (hG.out.below d0)
  clear hO hS hF hR hG d0 b0
  have T1 := twin_any W0 ti ao asx af ar co cs cf cr O S F R HO HS HF HR (by omega) (by omega) (by omega) (by omega)
  have HL : Hid (O.length ≤ 4194304 ∧ S.length ≤ 4194304 ∧ F.length ≤ 4194304 ∧ R.length ≤ 4194304) := hide ⟨by omega, by omega, by omega, by omega⟩
  go_enter Tryd.func4, Tryd.ntmps4
  go_wp2_with (go_at_call 8; refine T1.mono ?_; rintro e w1 ⟨bo, bs, bf, br, rfl, qo, qs, qf, qr, d1⟩; have HQ := hide (And.intro (opPad_reads qo) (And.intro (padV_reads qs) (And.intro (padV_reads qf) (ruPad_reads qr)))); have D1 := hide d1; clear qo qs qf qr d1 T1 c0 c1 c2 c3 c4 c5)
  have HP := hide (print_any w1 ti (some ⟨bo, 0, none⟩) (some ⟨bs, 0, none⟩) (some ⟨bf, 0, none⟩) (some ⟨br, 0, none⟩) (O.length + 64) (S.length + 64) (F.length + 64) (R.length + 64) O S F R (hide (hT1.out w1 (HD.out.trans (D1.out.mono HD.out.size))).2) (hide HQ.out.1) (hide HQ.out.2.1) (hide HQ.out.2.2.1) (hide HQ.out.2.2.2) hok HL.out.1 HL.out.2.1 HL.out.2.2.1 HL.out.2.2.2)
  cases hv : valF ti O S F R with
  | false =>
    have P1 := HP.out
    rw [hv] at P1
    refine P1.mono ?_
    rintro e w2 ⟨rfl, d2⟩
    have D2 := hide (D1.out.trans (d2.mono D1.out.size))
    have DW := hide (HD.out.trans (D2.out.mono HD.out.size))
    clear P1 d2
    go_wp2_with (go_at_call 6; refine (least_any w2 (hide (hT1.out w2 DW.out))).mono ?_; rintro e w4 ⟨rfl, d4⟩)
    go_ret
    exact ⟨by simp, DW.out.trans (d4.mono DW.out.size)⟩
  | true =>
    have P1 := HP.out
    rw [hv] at P1
    obtain ⟨X, hX⟩ : ∃ X, writeT ti (O.map opN) S F R = X := ⟨_, rfl⟩
    have HB := hide (back_T hv)
    have HXz := hide (write_size hv hlo hls hlf hlr)
    have HC := hide (can_text (cok_of hv))
    simp only [if_true] at P1
    rw [hX] at P1
    rw [hX] at HB HXz HC
    clear hX hv
    refine P1.mono ?_
    rintro e w2 ⟨rfl, d2⟩
    have D2 := hide (D1.out.trans (d2.mono D1.out.size))
    have DW := hide (HD.out.trans (D2.out.mono HD.out.size))
    clear P1 d2
    have hx3 : 3 ≤ X.size := HC.out.2.2.2.2
    have hxm := HXz.out
    have i3 : ¬ (X.size : Int) < 3 := by omega
    by_cases hbig : X.size ≤ 4194304
    rotate_left
    · have i4 : (4194304 : Int) < (X.size : Int) := by omega
      have i5 : decide ((4194304 : Int) < (X.size : Int)) = true := decide_eq_true i4
      go_wp2_with (go_at_call 6; refine (least_any w2 (hide (hT1.out w2 DW.out))).mono ?_; rintro e w4 ⟨rfl, d4⟩)
      go_ret
      exact ⟨by simp, DW.out.trans (d4.mono DW.out.size)⟩
    · have i4 : ¬ (4194304 : Int) < (X.size : Int) := by omega
      obtain ⟨c0, c1, c2, c3, c4, c5⟩ := HBX.out.on D2.out
      go_wp2_with fail
      have TS := hide (spread_any w2 (.string ti) (.slice ao O.length co) (.slice asx S.length cs) (.slice af F.length cf) (.slice ar R.length cr) ag cg G X (hide (HG.out.below D2.out)) hlg hzg hbig (hide (by rw [HC.out.2.1, bts_len])) (hide HC.out.1) (hide (by have := HC.out.2.2.2.1; omega)))
      refine TS.out.mono ?_
      rintro e w3 ⟨t, rfl, ht, d3⟩
      have HT2 : Hid (errF t = 0 ∧ contF t = contF X ∧ t.size ≤ 129999999) := hide (by
        have h1 := ht.1
        rw [List.take_of_length_le (by rw [bts_len]; exact Nat.le_refl _), HC.out.2.1] at h1
        obtain ⟨a, b⟩ := lk_cont (s := X) h1 rfl rfl
        have h2 := spr_size ht hbig (by have := HC.out.2.2.2.1; omega)
        exact ⟨a, b, by omega⟩)
      have D3 := hide (D2.out.trans (d3.mono D2.out.size))
      have DW3 := hide (HD.out.trans (D3.out.mono HD.out.size))
      clear TS ht d3 c0 c1 c2 c3 c4 c5
      obtain ⟨_, x1, x2, x3, x4, x5⟩ := HB.out
      have P2 := parse_read t w3 (hide (hT1.out w3 DW3.out)) HT2.out.2.2 HT2.out.1
      obtain ⟨y1, y2, y3, y4, y5⟩ := cont_T HT2.out.2.1
      rw [y1, y2, y3, y4, y5, x1, x2, x3, x4, x5] at P2
      have HX := hide (And.intro x1 (And.intro x2 (And.intro x3 (And.intro x4 x5))))
      clear y1 y2 y3 y4 y5 x1 x2 x3 x4 x5
      go_wp2_with fail
      refine P2.mono ?_
      rintro e w4 ⟨uo, eo, us, es, un, en, ur, er, rfl, qo, qs, qn, qr, d4⟩
      have HU := hide (And.intro qo (And.intro qs (And.intro qn qr)))
      have D4 := hide d4
      clear qo qs qn qr d4 P2
      have hz : (w4.alloc (.cells #[.string ⟨#[]⟩, .slice none 0 0, .slice none 0 0, .slice none 0 0, .slice none 0 0] 28)).alloc (.cells #[.int .i64 0, .int .i64 0] 31) = two31 w4 := rfl
      obtain ⟨⟨o0, o1, o2, o3, o4⟩, ⟨p0, p1⟩, ⟨f0, f1, f2, f3, f4⟩, g0, g1⟩ := two31_cells w4
      have HW := hide (two31_set w4 (.string ti) (.slice uo O.length eo) (.slice us S.length es) (.slice un F.length en) (.slice ur R.length er) (.int .i64 0) (.int .i64 0))
      go_wp2_with fail
      obtain ⟨W5, hW5⟩ : ∃ W5, (((((((two31 w4).setCell ⟨w4.heap.size, 0, none⟩ (.string ti)).setCell ⟨w4.heap.size, 1, none⟩ (.slice uo O.length eo)).setCell ⟨w4.heap.size, 2, none⟩ (.slice us S.length es)).setCell ⟨w4.heap.size, 3, none⟩ (.slice un F.length en)).setCell ⟨w4.heap.size, 4, none⟩ (.slice ur R.length er)).setCell ⟨w4.heap.size + 1, 0, none⟩ (.int .i64 0)).setCell ⟨w4.heap.size + 1, 1, none⟩ (.int .i64 0) = W5 := ⟨_, rfl⟩
      rw [hW5]
      have HS4 : Hid (W5.heap[w4.heap.size]? = some (.cells #[.string ti, .slice uo O.length eo, .slice us S.length es, .slice un F.length en, .slice ur R.length er] 28 (0, 0)) ∧ W5.heap[w4.heap.size + 1]? = some (.cells #[.int .i64 0, .int .i64 0] 31 (0, 0)) ∧ Below w4.heap.size w4 W5 ∧ w4.heap.size + 2 ≤ W5.heap.size) := hide (by rw [← hW5]; exact HW.out)
      clear HW hW5 hz o0 o1 o2 o3 o4 p0 p1 f0 f1 f2 f3 f4 g0 g1
      have D5 := hide (D3.out.trans ((D4.out.trans (HS4.out.2.2.1.mono D4.out.size)).mono D3.out.size))
      have DW5 := hide (HD.out.trans (D5.out.mono HD.out.size))
      obtain ⟨c0, c1, c2, c3, c4, c5⟩ := HBX.out.on D5.out
      obtain ⟨n, hn⟩ : ∃ n, X.size = n + 1 := ⟨X.size - 1, by omega⟩
      obtain ⟨Y, hY⟩ : ∃ Y, X.extract 0 n = Y := ⟨_, rfl⟩
      have HY : Hid (bts X = bts Y ++ [10]) := hide (by
        obtain ⟨u, hu⟩ := HC.out.2.2.1
        have hl : u.length = n := by
          have := congrArg List.length hu
          rw [bts_len, hn, List.length_append] at this
          simpa using this.symm
        rw [← hY, bts_extract, hu, List.drop_zero, Nat.sub_zero, ← hl, List.take_left])
      have hYz : Y.size ≤ 4194304 := by rw [← hY, ByteArray.size_extract]; omega
      have e1 : (X.size : Int) - 1 = (n : Int) := by omega
      have hsl : ∀ W, (Instr.slice 9 (.string X) none (some (.int .i64 ((X.size : Int) - 1))) none).run Tryd.prog W = .ok (.string Y) W := fun W => by rw [← hY, e1]; exact slice_n0 X n W (by omega)
      have hwr : IntKind.i64.wrap ((X.size : Int) - 1) = (X.size : Int) - 1 := by rw [e1]; exact wrap_nat n (by omega)
      clear e1 hY hn
      have TP : Hid (∀ (W : World) (b : ByteArray), Below W5.heap.size W5 W → Bh b → b.size ≤ 65 → Calls Tryd.prog 5 #[.string (b ++ Y)] W fun e w' => ∃ ao co asx cs an cn ar cr, e = .returned (.tuple #[.agg #[.string ti, .slice ao O.length co, .slice asx S.length cs, .slice an F.length cn, .slice ar R.length cr], .agg #[.int .i64 0, .int .i64 0]]) ∧ Kept W w' O S F R ao asx an ar ∧ Below W.heap.size W w') := hide fun W b d hb hbz => by
        obtain ⟨k1, k2⟩ := lk_second HY.out HC.out.2.1 hb
        have q := parse_kept (b ++ Y) W (hide (hT1.out W (DW5.out.trans (d.mono DW5.out.size)))) (by rw [ByteArray.size_append]; omega) k1
        obtain ⟨y1, y2, y3, y4, y5⟩ := cont_T k2
        obtain ⟨x1, x2, x3, x4, x5⟩ := HX.out
        rw [y1, y2, y3, y4, y5, x1, x2, x3, x4, x5] at q
        exact q
      have TGp : Hid (∀ W, Below W5.heap.size W5 W → Calls Tryd.prog 11 #[.agg #[.string ti, .slice ao O.length co, .slice asx S.length cs, .slice af F.length cf, .slice ar R.length cr, .slice ag G.length cg], .int .i64 0] W fun e w' => ∃ g : ByteArray, e = .returned (.string g) ∧ g.size ≤ 1048576 ∧ Below W.heap.size W w') := hide fun W d => by
        have q := gap_any W (.string ti) (.slice ao O.length co) (.slice asx S.length cs) (.slice af F.length cf) (.slice ar R.length cr) ag cg G 0 (hide (HG.out.below (D5.out.trans (d.mono D5.out.size)))) hlg hzg (by omega)
        exact q
      go_cut [7, 8] from 9 (fun s7 s8 wx => ∃ (b7 b8 : Nat) (bo bs bf br : Option Addr) (ko ks kf kr : Nat), s7 = .pointer (some ⟨b7, 0, none⟩) ∧ s8 = .pointer (some ⟨b8, 0, none⟩) ∧ Hid (wx.heap[b7]? = some (.cells #[.string ti, .slice bo O.length ko, .slice bs S.length ks, .slice bf F.length kf, .slice br R.length kr] 28 (0, 0)) ∧ wx.heap[b8]? = some (.cells #[.int .i64 0, .int .i64 0] 31 (0, 0)) ∧ Below W5.heap.size W5 wx ∧ RdO wx bo O ∧ ReadsS wx bs S ∧ ReadsS wx bf F ∧ RdRu wx br R))
      case first =>
        have hS0 : Hid (Below W5.heap.size W5 W5) := hide (Below.refl _ _)
        have SOf : Hid (∀ W, Below W5.heap.size W5 W → (W.cell? ⟨w.heap.size, 0, none⟩ = some (.string ti) ∧ W.cell? ⟨w.heap.size, 1, none⟩ = some (.slice ao O.length co) ∧ W.cell? ⟨w.heap.size, 2, none⟩ = some (.slice asx S.length cs) ∧ W.cell? ⟨w.heap.size, 3, none⟩ = some (.slice af F.length cf) ∧ W.cell? ⟨w.heap.size, 4, none⟩ = some (.slice ar R.length cr) ∧ W.cell? ⟨w.heap.size, 5, none⟩ = some (.slice ag G.length cg) ∧ Hid (Below W5.heap.size W5 W))) := hide fun W d => by
          obtain ⟨k0, k1, k2, k3, k4, k5⟩ := HBX.out.on (D5.out.trans (d.mono D5.out.size))
          exact ⟨k0, k1, k2, k3, k4, k5, hide d⟩
        have SOut : Hid (∀ W, (W.cell? ⟨w.heap.size, 0, none⟩ = some (.string ti) ∧ W.cell? ⟨w.heap.size, 1, none⟩ = some (.slice ao O.length co) ∧ W.cell? ⟨w.heap.size, 2, none⟩ = some (.slice asx S.length cs) ∧ W.cell? ⟨w.heap.size, 3, none⟩ = some (.slice af F.length cf) ∧ W.cell? ⟨w.heap.size, 4, none⟩ = some (.slice ar R.length cr) ∧ W.cell? ⟨w.heap.size, 5, none⟩ = some (.slice ag G.length cg) ∧ Hid (Below W5.heap.size W5 W)) → Below W5.heap.size W5 W) := hide fun W h => h.2.2.2.2.2.2.out
        clear c0 c1 c2 c3 c4 c5 HBX HO HS HF HR HG HL HP HQ HB HXz HC HT2 HX HU HS4 HY hok hzg hT hT1 HD D1 D2 D3 D4 D5 DW DW3 DW5 hW0 hlo hls hlf hlr hlg hbig hx3 hxm i3 i4
        go_region_held3 (fun W => W.cell? ⟨w.heap.size, 0, none⟩ = some (.string ti) ∧ W.cell? ⟨w.heap.size, 1, none⟩ = some (.slice ao O.length co) ∧ W.cell? ⟨w.heap.size, 2, none⟩ = some (.slice asx S.length cs) ∧ W.cell? ⟨w.heap.size, 3, none⟩ = some (.slice af F.length cf) ∧ W.cell? ⟨w.heap.size, 4, none⟩ = some (.slice ar R.length cr) ∧ W.cell? ⟨w.heap.size, 5, none⟩ = some (.slice ag G.length cg) ∧ Hid (Below W5.heap.size W5 W))
          (first
            | with_reducible assumption
            | (with_reducible refine SOf.out _ ?_; repeat' (first | with_reducible exact hS0.out | with_reducible exact hS6.out | with_reducible exact hS9.out | with_reducible refine Below.drew ?_ | with_reducible refine bl_alloc ?_ | with_reducible refine bl_set ?_ ?_ | with_reducible exact Nat.le_refl _ | with_reducible exact Nat.le_succ _ | with_reducible exact hS6.out.size | with_reducible exact hS9.out.size | with_reducible exact Nat.le_trans hS6.out.size (Nat.le_succ _) | with_reducible exact Nat.le_trans hS9.out.size (Nat.le_succ _) | with_reducible exact z28l | with_reducible exact z31l)))
          ((first
            | (go_at_call 11; refine (TGp.out _ (SOut.out _ (by with_reducible assumption))).mono ?_; rintro e w6 ⟨g, rfl, hg, d6⟩; have hS6 : Hid (Below W5.heap.size W5 w6) := hide (bl_on (SOut.out _ (by with_reducible assumption)) d6);
                (try (with_reducible have y28 : Y28 w6 W5.heap.size := (Y28.new W5).drew.on d6));
                (try (with_reducible have y28 : Y28 w6 W5.heap.size := ((Y28.new W5).up _).drew.on d6));
                (try (with_reducible have y28 : Y28 w6 (W5.heap.size + 1) := (Y28.new1 W5 _).drew.on d6));
                (try (with_reducible have y31 : Y31 w6 W5.heap.size := (Y31.new W5).drew.on d6));
                (try (with_reducible have y31 : Y31 w6 W5.heap.size := ((Y31.new W5).up _).drew.on d6));
                (try (with_reducible have y31 : Y31 w6 (W5.heap.size + 1) := (Y31.new1 W5 _).drew.on d6)))
            | (go_at_call 10; refine (lbehind_any g _ hg).mono ?_; rintro e w8 ⟨b, rfl, ⟨hb, hbz⟩, hw8⟩; obtain rfl := hw8.symm; clear hw8; have he1 : ¬ (9223372036854775807 < b.size + Y.size) := by omega)
            | (go_at_call 5; refine (TP.out _ b (SOut.out _ (by with_reducible assumption)) hb hbz).mono ?_; rintro e w9 ⟨bo, ko, bs, ks, bf, kf, br, kr, rfl, hK, d9⟩; have hS9 : Hid (Below W5.heap.size W5 w9) := hide (bl_on (SOut.out _ (by with_reducible assumption)) d9);
                (try (with_reducible have z28 := y28.both d9));
                (try (with_reducible have z28 := (y28.up _).both d9));
                (try (with_reducible have z28 : Y28 w9 w6.heap.size ∧ _ := (Y28.new w6).both d9));
                (try (with_reducible have z28 : Y28 w9 w6.heap.size ∧ _ := ((Y28.new w6).up _).both d9));
                (try (with_reducible have z28 : Y28 w9 (w6.heap.size + 1) ∧ _ := (Y28.new1 w6 _).both d9));
                (try (with_reducible have z31 := y31.both d9));
                (try (with_reducible have z31 := (y31.up _).both d9));
                (try (with_reducible have z31 : Y31 w9 w6.heap.size ∧ _ := (Y31.new w6).both d9));
                (try (with_reducible have z31 : Y31 w9 w6.heap.size ∧ _ := ((Y31.new w6).up _).both d9));
                (try (with_reducible have z31 : Y31 w9 (w6.heap.size + 1) ∧ _ := (Y31.new1 w6 _).both d9));
                (try (obtain ⟨⟨a0, a1, a2, a3, a4⟩, ⟨q0, q1, q2, q3, q4⟩, ⟨aa0, aa1, aa2, aa3, aa4⟩, ⟨qq0, qq1, qq2, qq3, qq4⟩, na, na'⟩ := z28.1.cells));
                (try (obtain ⟨⟨p0, p1⟩, ⟨g0, g1⟩, ⟨pp0, pp1⟩, ⟨gg0, gg1⟩, nb, nb'⟩ := z31.1.cells));
                (try (have nz := y_ne z28.1 z31.1; have nz' := nz.symm)))))
        all_goals (
          go_wp2_with fail
          go_meet
          case rel =>
            repeat apply Exists.intro
            refine And.intro rfl (And.intro rfl ?_)
            with_reducible refine hide ?_
            first
            | with_reducible exact y_fin4 hS9.out hK _ _ _ _ _ _ _ _ rfl
            | with_reducible exact y_fin5 hS9.out hK _ _ _ _ _ _ _ _ rfl
            | with_reducible exact y_fin3 hS9.out z31 (by first | with_reducible exact Nat.le_refl _ | with_reducible exact Nat.le_succ _ | with_reducible exact hS6.out.size | with_reducible exact Nat.le_trans hS6.out.size (Nat.le_succ _)) hK _ _ _ _ _ _ _ _ rfl
            | (with_reducible refine y_fin (B := W5) (w9 := w9) ?dW ?hW ?h7 ?h8 ?p7 ?p8 ?l7 ?l8 hK _ _ _ _ _ _ _ _ rfl
               case dW => (repeat' (first | with_reducible exact hS9.out | with_reducible refine bl_alloc ?_))
               case hW => (first | with_reducible exact agree0 _ | with_reducible exact agree1 _ _ | with_reducible exact agree2 _ _ _)
               case h7 => (first | with_reducible exact z28.1 | with_reducible exact z28.1.up _ | with_reducible exact Y28.new _ | with_reducible exact (Y28.new _).up _ | with_reducible exact Y28.new1 _ _)
               case h8 => (first | with_reducible exact z31.1 | with_reducible exact z31.1.up _ | with_reducible exact Y31.new _ | with_reducible exact (Y31.new _).up _ | with_reducible exact Y31.new1 _ _)
               case p7 => (first | with_reducible exact .inl z28.2 | with_reducible exact .inr (Nat.le_refl _) | with_reducible exact .inr (Nat.le_succ _))
               case p8 => (first | with_reducible exact .inl z31.2 | with_reducible exact .inr (Nat.le_refl _) | with_reducible exact .inr (Nat.le_succ _))
               case l7 => (first | with_reducible exact Nat.le_refl _ | with_reducible exact Nat.le_succ _ | with_reducible exact hS6.out.size | with_reducible exact hS9.out.size | with_reducible exact Nat.le_trans hS6.out.size (Nat.le_succ _) | with_reducible exact Nat.le_trans hS9.out.size (Nat.le_succ _))
               case l8 => (first | with_reducible exact Nat.le_refl _ | with_reducible exact Nat.le_succ _ | with_reducible exact hS6.out.size | with_reducible exact hS9.out.size | with_reducible exact Nat.le_trans hS6.out.size (Nat.le_succ _) | with_reducible exact Nat.le_trans hS9.out.size (Nat.le_succ _))))
      case rest =>
        obtain ⟨b7, b8, bo, bs, bf, br, ko, ks, kf, kr, rfl, rfl, H7⟩ := hcut
        have D6 := hide (D5.out.trans (H7.out.2.2.1.mono D5.out.size))
        have DW6 := hide (HD.out.trans (D6.out.mono HD.out.size))
        have D46 := hide ((HS4.out.2.2.1.trans (H7.out.2.2.1.mono (by have := HS4.out.2.2.2; omega))))
        have H4 : Hid (wc.heap[w4.heap.size]? = some (.cells #[.string ti, .slice uo O.length eo, .slice us S.length es, .slice un F.length en, .slice ur R.length er] 28 (0, 0)) ∧ wc.heap[w4.heap.size + 1]? = some (.cells #[.int .i64 0, .int .i64 0] 31 (0, 0))) := hide ⟨(H7.out.2.2.1.block _ (by have := HS4.out.2.2.2; omega)).trans HS4.out.1, (H7.out.2.2.1.block _ (by have := HS4.out.2.2.2; omega)).trans HS4.out.2.1⟩
        clear c0 c1 c2 c3 c4 c5
        obtain ⟨c0, c1, c2, c3, c4, _⟩ := HBX.out.on D6.out
        have y0 : wc.cell? ⟨w4.heap.size, 0, none⟩ = some (.string ti) := cell_of H4.out.1 rfl
        have y1 : wc.cell? ⟨w4.heap.size, 1, none⟩ = some (.slice uo O.length eo) := cell_of H4.out.1 rfl
        have y2 : wc.cell? ⟨w4.heap.size, 2, none⟩ = some (.slice us S.length es) := cell_of H4.out.1 rfl
        have y3 : wc.cell? ⟨w4.heap.size, 3, none⟩ = some (.slice un F.length en) := cell_of H4.out.1 rfl
        have y4 : wc.cell? ⟨w4.heap.size, 4, none⟩ = some (.slice ur R.length er) := cell_of H4.out.1 rfl
        have x0 : wc.cell? ⟨w4.heap.size + 1, 0, none⟩ = some (.int .i64 0) := cell_of H4.out.2 rfl
        have x1 : wc.cell? ⟨w4.heap.size + 1, 1, none⟩ = some (.int .i64 0) := cell_of H4.out.2 rfl
        have t0 : wc.cell? ⟨b8, 0, none⟩ = some (.int .i64 0) := cell_of H7.out.2.1 rfl
        have t1 : wc.cell? ⟨b8, 1, none⟩ = some (.int .i64 0) := cell_of H7.out.2.1 rfl
        have SE1 := same_eq wc ti O S F R uo us un ur ao asx af ar eo es en er co cs cf cr (hide ⟨HU.out.1.on D46.out, HO.out.on D6.out⟩) (hide ⟨HU.out.2.1.below D46.out, HS.out.below D6.out⟩) (hide ⟨HU.out.2.2.1.below D46.out, HF.out.below D6.out⟩) (hide ⟨HU.out.2.2.2.on D46.out, HR.out.on D6.out⟩) HL.out.1 HL.out.2.1 HL.out.2.2.1 HL.out.2.2.2
        go_wp2_with fail
        refine SE1.mono ?_
        rintro e w7 ⟨rfl, d7⟩
        have E7 := hide d7
        have D7 := hide (D6.out.trans (d7.mono D6.out.size))
        have DW7 := hide (HD.out.trans (D7.out.mono HD.out.size))
        clear SE1 d7 c0 c1 c2 c3 c4 y0 y1 y2 y3 y4 x0 x1 t0 t1
        obtain ⟨c0, c1, c2, c3, c4, _⟩ := HBX.out.on D7.out
        have hb7 : w7.heap[b7]? = some (.cells #[.string ti, .slice bo O.length ko, .slice bs S.length ks, .slice bf F.length kf, .slice br R.length kr] 28 (0, 0)) := (E7.out.block _ (Array.getElem?_eq_some_iff.1 H7.out.1).1).trans H7.out.1
        have y0 : w7.cell? ⟨b7, 0, none⟩ = some (.string ti) := cell_of hb7 rfl
        have y1 : w7.cell? ⟨b7, 1, none⟩ = some (.slice bo O.length ko) := cell_of hb7 rfl
        have y2 : w7.cell? ⟨b7, 2, none⟩ = some (.slice bs S.length ks) := cell_of hb7 rfl
        have y3 : w7.cell? ⟨b7, 3, none⟩ = some (.slice bf F.length kf) := cell_of hb7 rfl
        have y4 : w7.cell? ⟨b7, 4, none⟩ = some (.slice br R.length kr) := cell_of hb7 rfl
        clear hb7
        have SE2 := same_eq w7 ti O S F R bo bs bf br ao asx af ar ko ks kf kr co cs cf cr (hide ⟨H7.out.2.2.2.1.on E7.out, HO.out.on D7.out⟩) (hide ⟨H7.out.2.2.2.2.1.below E7.out, HS.out.below D7.out⟩) (hide ⟨H7.out.2.2.2.2.2.1.below E7.out, HF.out.below D7.out⟩) (hide ⟨H7.out.2.2.2.2.2.2.on E7.out, HR.out.on D7.out⟩) HL.out.1 HL.out.2.1 HL.out.2.2.1 HL.out.2.2.2
        go_wp2_with fail
        refine SE2.mono ?_
        rintro e w8 ⟨rfl, d8⟩
        have DW8 := hide (DW7.out.trans (d8.mono DW7.out.size))
        clear SE2 d8 c0 c1 c2 c3 c4 y0 y1 y2 y3 y4
        go_wp2_with (go_at_call 6; refine (least_any w8 (hide (hT1.out w8 DW8.out))).mono ?_; rintro e w9 ⟨rfl, d9⟩)
        go_ret
        exact ⟨by simp, DW8.out.trans (d9.mono DW8.out.size)⟩
end Go.Proofs.YtmagchclmmphaaaDoor
