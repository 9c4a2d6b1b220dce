import Derived.Test.YtocoghljmlpdeaaRows
import Derived.Test.YtocoghljmlpdeaaDi
import Derived.ProofKit
import Derived.OpenShut
import Derived.ShutString
import Derived.Deep.DeepHandedRow
import Derived.Lib.LaidTab
import Derived.Lib.SmallJoins
import Derived.ChangeOld
import Derived.Lay
import Derived.Deep.Slices
namespace Go.Proofs.Ytocoghljmlpdeaa.frame
open Go.ChangeShapes Go.WideShapes Go.ChangeAt Go.RowKit Go.Joins Go.Deep
theorem own : ownKnob Try.prog.godebug = none := by kernel_rfl
theorem laidOut : laidOutB Try.prog = true := by kernel_rfl
theorem cells5 : Try.prog.cellsOf 5 = 1 := by kernel_rfl
theorem cells3 : Try.prog.cellsOf 3 = 1 := by kernel_rfl
theorem cellsI : Try.prog.cellsOf 22 = 1 := by kernel_rfl
theorem bulk_pos {H : Type} (d : DataW H) : 0 < Rows.uptoBulk d := by
  cases d
  case lit l => cases l <;> simp [Rows.uptoBulk]
  all_goals simp [Rows.uptoBulk]
theorem bulk_list {H : Type} (l : List (DataW H)) : l.length ≤ Rows.uptoBulkAll l ∧ ∀ d ∈ l, Rows.uptoBulk d ≤ Rows.uptoBulkAll l := by
  induction l with
  | nil => exact ⟨Nat.zero_le _, fun s hs => by cases hs⟩
  | cons x r ih =>
    have e : Rows.uptoBulkAll (x :: r) = Rows.uptoBulk x + Rows.uptoBulkAll r := by simp [Rows.uptoBulkAll]
    have := bulk_pos x
    rw [e]
    refine ⟨by simp; omega, fun s hs => ?_⟩
    rcases List.mem_cons.1 hs with rfl | h
    · omega
    · have := ih.2 s h; omega
theorem list1 {α : Type} {l : List α} (h : l.length = 1) : ∃ c0, l = [c0] := by
  match l, h with
  | [c0], _ => exact ⟨c0, rfl⟩
theorem list3 {α : Type} {l : List α} (h : l.length = 3) : ∃ c0 c1 c2, l = [c0, c1, c2] := by
  match l, h with
  | [c0, c1, c2], _ => exact ⟨c0, c1, c2, rfl⟩
set_option maxRecDepth 100000 in
/-- A list that came in, opened. -/
theorem list_open {H : Type} {enc : TypeId × Value → H} {W : World} {n : Nat} {v : Value} {y : DataW H × List MemPlace} {T e sz : Nat} {α : Type} [Inhabited α] (At : Nat → Nat → α → Prop) (Z : α → Nat → Prop) (hZ : ∀ x a b, a ≤ b → Z x a → Z x b)
    (hT : Try.prog.underlying T = some (.slice e)) (hc : Try.prog.cellsOf e = sz)
    (item : ∀ {n' : Nat} {a : Addr} {cs : List Value} {z : DataW H × List MemPlace}, W.cells? 0 a sz = some cs → DataW.trod enc Try.prog W 0 (fun _ => true) true n' e cs = some z → ∃ x : α, At a.block a.off x ∧ a.spot = none ∧ Z x (Rows.uptoBulk z.1))
    (h : DataW.trod enc Try.prog W 0 (fun _ => true) true n T [v] = some y) :
    ∃ aL cL, ∃ L : List α, v = .slice aL L.length cL ∧ (∀ (k : Nat) (hk : k < L.length), ∃ g o, aL = some ⟨g, o, none⟩ ∧ At g (o + k * sz) L[k]) ∧ L.length ≤ Rows.uptoBulk y.1 ∧ ∀ x ∈ L, Z x (Rows.uptoBulk y.1) := by
  rcases open_slice hT h with ⟨hcs, _⟩ | ⟨a, len, cap, m, n', D, Pl, hcs, _, hl, _, hmm, hy, hx⟩
  · simp only [List.cons.injEq, and_true] at hcs
    exact ⟨none, 0, [], hcs, fun k hk => by simp at hk, by simp, fun s hs => by cases hs⟩
  · simp only [List.cons.injEq, and_true] at hcs
    simp only [if_true] at hmm
    have hsp : 0 < len → a.spot = none := by
      intro h0
      obtain ⟨cs', h1, h2⟩ := hx 0 (by omega)
      rw [hc] at h1
      obtain ⟨x, _, sp, _⟩ := item h1 h2
      simpa [Addr.add] using sp
    have each : ∀ i, i < len → ∃ x : α, At a.block (a.off + i * sz) x ∧ a.spot = none ∧ Z x (Rows.uptoBulk (D i)) := by
      intro i hi
      obtain ⟨cs', h1, h2⟩ := hx i (by omega)
      rw [hc] at h1
      obtain ⟨x, o, _, z⟩ := item h1 h2
      obtain ⟨ab, ao, spot⟩ := a
      have hs : spot = none := hsp (by omega)
      subst hs
      rw [Addr.add_lit] at o
      exact ⟨x, o, rfl, z⟩
    have hb := bulk_list (H := H) ((List.range len).map D)
    have hyb : Rows.uptoBulkAll ((List.range len).map D) ≤ Rows.uptoBulk y.1 := by rw [hy]; simp only [Rows.uptoBulk]; omega
    obtain ⟨q, hq⟩ := choose_lt each
    refine ⟨some a, cap, (List.range len).map q, by simpa using hcs, fun k hk => ?_, ?_, fun x hx2 => ?_⟩
    · have hk' : k < len := by simpa using hk
      obtain ⟨ab, ao, spot⟩ := a
      have hsp : spot = none := (hq k hk').2.1
      subst hsp
      refine ⟨ab, ao, rfl, ?_⟩
      have := (hq k hk').1
      simpa using this
    · have := hb.1
      simp at this
      simp
      omega
    · obtain ⟨i, hi, rfl⟩ := List.mem_map.1 hx2
      have hi' := List.mem_range.1 hi
      have h1 := (hq i hi').2.2
      have h2 := hb.2 (D i) (List.mem_map_of_mem hi)
      exact hZ _ _ _ (by omega) h1
theorem list5 {α : Type} {l : List α} (h : l.length = 5) : ∃ c0 c1 c2 c3 c4, l = [c0, c1, c2, c3, c4] := by
  match l, h with
  | [c0, c1, c2, c3, c4], _ => exact ⟨c0, c1, c2, c3, c4, rfl⟩
theorem num_item {H : Type} {enc : TypeId × Value → H} {W : World} {n : Nat} {a : Addr} {cs : List Value} {y : DataW H × List MemPlace} (h1 : W.cells? 0 a 1 = some cs) (h : DataW.trod enc Try.prog W 0 (fun _ => true) true n 3 cs = some y) :
    ∃ x : Int, W.cell? ⟨a.block, a.off, none⟩ = some (.int .i64 x) ∧ a.spot = none := by
  obtain ⟨_, hlen, hcell⟩ := World.cells?_some h1
  obtain ⟨v0, rfl⟩ := list1 hlen
  obtain ⟨k, e1, _, _⟩ := DataW.trod_int Try.underlying3 h
  simp only [List.cons.injEq, and_true] at e1
  subst e1
  have c0 := hcell 0 (by omega)
  obtain ⟨ab, ao, spot⟩ := a
  have hspot : spot = none := by simpa [Addr.add] using World.cell?_spot c0
  subst hspot
  rw [Addr.add_lit] at c0
  exact ⟨k, c0, rfl⟩
/-- A list of ints that came in, opened. -/
theorem nums_open {H : Type} {enc : TypeId × Value → H} {W : World} {n : Nat} {v : Value} {y : DataW H × List MemPlace} (h : DataW.trod enc Try.prog W 0 (fun _ => true) true n 22 [v] = some y) :
    ∃ (a : Option Addr) (c : Nat) (L : List Int), v = .slice a L.length c ∧ RdN W a L ∧ L.length ≤ Rows.uptoBulk y.1 := by
  obtain ⟨a, k, L, rfl, hL, l1, _⟩ := list_open (α := Int) (fun g o x => W.cell? ⟨g, o, none⟩ = some (.int .i64 x)) (fun _ _ => True) (fun _ _ _ _ q => q) Try.underlying22 cells3 (fun h1 h2 => by obtain ⟨x, q, s⟩ := num_item h1 h2; exact ⟨x, q, s, trivial⟩) h
  refine ⟨a, k, L, rfl, fun k hk => ?_, l1⟩
  obtain ⟨g, o, e, q⟩ := hL k hk
  exact ⟨g, o, e, by rw [Nat.mul_one] at q; exact q⟩
theorem cellsD : Try.prog.cellsOf 24 = 5 := by kernel_rfl
theorem cellsAsk : Try.prog.cellsOf 26 = 13 := by kernel_rfl
theorem list13 {α : Type} {l : List α} (h : l.length = 13) : ∃ a b c d e f g h i j k o p, l = [a, b, c, d, e, f, g, h, i, j, k, o, p] := by
  match l, h with
  | [a, b, c, d, e, f, g, h, i, j, k, o, p], _ => exact ⟨a, b, c, d, e, f, g, h, i, j, k, o, p, rfl⟩
/-- A complete automaton that came in, opened. -/
theorem dfa_open {H : Type} {enc : TypeId × Value → H} {W : World} {n : Nat} {v0 v1 v2 v3 v4 : Value} {y : DataW H × List MemPlace} (h : DataW.trod enc Try.prog W 0 (fun _ => true) true n 24 [v0, v1, v2, v3, v4] = some y) :
    ∃ (nn mm ss : Int) (a1 a2 : Option Addr) (c1 c2 : Nat) (Fi Nx : List Int), v0 = .int .i64 nn ∧ v1 = .int .i64 mm ∧ v2 = .int .i64 ss ∧ v3 = .slice a1 Fi.length c1 ∧ v4 = .slice a2 Nx.length c2 ∧ RdN W a1 Fi ∧ RdN W a2 Nx ∧ Fi.length ≤ Rows.uptoBulk y.1 ∧ Nx.length ≤ Rows.uptoBulk y.1 := by
  obtain ⟨ys, n2, _, hx2, hl2, hlen2, hfl2⟩ := DataW.trod_struct Try.underlying24 h
  obtain ⟨z0, z1, z2, z3, z4, rfl⟩ := list5 hlen2
  have g0 := hfl2 0 _ rfl
  have g1 := hfl2 1 _ rfl
  have g2 := hfl2 2 _ rfl
  have g3 := hfl2 3 _ rfl
  have g4 := hfl2 4 _ rfl
  simp [cells3, cellsI] at g0 g1 g2 g3 g4
  obtain ⟨nn, e0, _, _⟩ := DataW.trod_int Try.underlying3 g0
  obtain ⟨mm, e1, _, _⟩ := DataW.trod_int Try.underlying3 g1
  obtain ⟨ss, e2, _, _⟩ := DataW.trod_int Try.underlying3 g2
  simp only [List.cons.injEq, and_true] at e0 e1 e2
  have hb0 : Rows.uptoBulk z3.1 ≤ Rows.uptoBulk y.1 ∧ Rows.uptoBulk z4.1 ≤ Rows.uptoBulk y.1 := by
    rw [hx2]
    simp only [List.map_cons, List.map_nil, Rows.uptoBulk, Rows.uptoBulkAll]
    exact ⟨by omega, by omega⟩
  obtain ⟨a1, k1, Fi, e3, hFi, l1⟩ := nums_open g3
  obtain ⟨a2, k2, Nx, e4, hNx, l2⟩ := nums_open g4
  exact ⟨nn, mm, ss, a1, a2, k1, k2, Fi, Nx, e0, e1, e2, e3, e4, hFi, hNx, by omega, by omega⟩
set_option maxRecDepth 100000 in
/-- Two complete automata, two states and a word that came in, opened. -/
theorem ask_in {H : Type} {enc : TypeId × Value → H} {W : World} {base : Nat} {v : Value} {d : DataW H} {p : List MemPlace} (hv : Value.okWide Try.prog W .any base 26 v) (h : DataW.Trod enc Try.prog W 0 (fun _ => true) true 26 v d p) (hk : Rows.uptoBulk d ≤ 1048576) :
    ∃ (N M st N2 M2 s2 S T : Int) (aF aN bF bN aW : Option Addr) (cF cN dF dN cW : Nat) (Fi Nx F2 X2 Wd : List Int), v = .agg #[.int .i64 N, .int .i64 M, .int .i64 st, .slice aF Fi.length cF, .slice aN Nx.length cN, .int .i64 N2, .int .i64 M2, .int .i64 s2, .slice bF F2.length dF, .slice bN X2.length dN, .int .i64 S, .int .i64 T, .slice aW Wd.length cW] ∧ RdN W aF Fi ∧ RdN W aN Nx ∧ RdN W bF F2 ∧ RdN W bN X2 ∧ RdN W aW Wd ∧ Fi.length ≤ 1048576 ∧ Nx.length ≤ 1048576 ∧ F2.length ≤ 1048576 ∧ X2.length ≤ 1048576 ∧ Wd.length ≤ 1048576 := by
  obtain ⟨cs, rfl, hsz⟩ := okWide_struct Try.underlying26 hv
  obtain ⟨l⟩ := cs
  have hl13 : l.length = 13 := hsz.trans cellsAsk
  obtain ⟨x0, x1, x2, x3, x4, x5, x6, x7, x8, x9, x10, x11, x12, rfl⟩ := list13 hl13
  obtain ⟨fuel, hf⟩ := h
  obtain ⟨xs, n, _, hx, hl, hlen, hfl⟩ := DataW.trod_struct Try.underlying26 hf
  obtain ⟨y0, y1, y2, y3, y4, rfl⟩ := list5 hlen
  have h0 := hfl 0 _ rfl
  have h1 := hfl 1 _ rfl
  have h2 := hfl 2 _ rfl
  have h3 := hfl 3 _ rfl
  have h4 := hfl 4 _ rfl
  simp [Value.cells, cellsI, cellsD, cells3] at h0 h1 h2 h3 h4
  simp only [Prod.mk.injEq] at hx
  rw [hx.1] at hk
  simp only [List.map_cons, List.map_nil, Rows.uptoBulk, Rows.uptoBulkAll] at hk
  obtain ⟨N, M, st, aF, aN, cF, cN, Fi, Nx, rfl, rfl, rfl, rfl, rfl, rF, rN, l1, l2⟩ := dfa_open h0
  obtain ⟨N2, M2, s2, bF, bN, dF, dN, F2, X2, rfl, rfl, rfl, rfl, rfl, rF2, rN2, l3, l4⟩ := dfa_open h1
  obtain ⟨S, q2, _, _⟩ := DataW.trod_int Try.underlying3 h2
  obtain ⟨T, q3, _, _⟩ := DataW.trod_int Try.underlying3 h3
  simp only [List.cons.injEq, and_true] at q2 q3
  subst q2 q3
  obtain ⟨aW, cW, Wd, rfl, rW, l5⟩ := nums_open h4
  exact ⟨N, M, st, N2, M2, s2, S, T, aF, aN, bF, bN, aW, cF, cN, dF, dN, cW, Fi, Nx, F2, X2, Wd, rfl, rF, rN, rF2, rN2, rW, by omega, by omega, by omega, by omega, by omega⟩
end Go.Proofs.Ytocoghljmlpdeaa.frame
namespace Go.Proofs.Ytocoghljmlpdeaa
open Go.RowKit Go.Maps
attribute [local go_sem] Oper.semAt_some
/-! ### Tells: what is not valid -/
set_option maxRecDepth 100000 in
set_option maxHeartbeats 4000000 in
theorem tells_bad (w : World) (N M st : Int) (S T : Int) (aF aN aW : Option Addr) (cF cN cW : Nat) (Fi Nx Wd : List Int) (x5 x6 x7 x8 x9 : Value) (hF : RdN w aF Fi) (hN : RdN w aN Nx) (hW : RdN w aW Wd) (bF : Fi.length ≤ 4194304) (bN : Nx.length ≤ 4194304) (_bW : Wd.length ≤ 4194304) (hv : vd N M st Fi Nx = false) :
    Calls Try.prog 4 #[.agg #[.int .i64 N, .int .i64 M, .int .i64 st, .slice aF Fi.length cF, .slice aN Nx.length cN, x5, x6, x7, x8, x9, .int .i64 S, .int .i64 T, .slice aW Wd.length cW]] w fun e w' => e = .returned (.bool true) ∧ Below w.heap.size w w' := by
  obtain ⟨W0, hW0⟩ : ∃ W, w.alloc (.cells #[.int .i64 N, .int .i64 M, .int .i64 st, .slice aF Fi.length cF, .slice aN Nx.length cN, x5, x6, x7, x8, x9, .int .i64 S, .int .i64 T, .slice aW Wd.length cW] 26) = W := ⟨_, rfl⟩
  have d0 : Below w.heap.size w W0 := by rw [← hW0]; exact (Below.refl _ _).alloc (Nat.le_refl _) _
  have B0 : W0.heap[w.heap.size]? = some (.cells #[.int .i64 N, .int .i64 M, .int .i64 st, .slice aF Fi.length cF, .slice aN Nx.length cN, x5, x6, x7, x8, x9, .int .i64 S, .int .i64 T, .slice aW Wd.length cW] 26 (0, 0)) := by rw [← hW0]; exact World.alloc_heap_new _ _
  have HW := hide (And.intro d0 (And.intro B0 (And.intro (hF.on d0) (And.intro (hN.on d0) (hW.on d0)))))
  clear d0 B0 hF hN hW
  have HV := hide hv
  clear hv
  go_enter Try.func4, Try.ntmps4
  go_upto_region 3 with (go_at_call 7; refine (works_any _).mono ?_; rintro e w1 ⟨rfl, D1⟩)
  have B1 := blk_on HW.out.2.1 D1
  have k0 : w1.cell? ⟨w.heap.size, 0, none⟩ = some (.int .i64 N) := cell_of B1 rfl
  have k1 : w1.cell? ⟨w.heap.size, 1, none⟩ = some (.int .i64 M) := cell_of B1 rfl
  have k2 : w1.cell? ⟨w.heap.size, 2, none⟩ = some (.int .i64 st) := cell_of B1 rfl
  have k3 : w1.cell? ⟨w.heap.size, 3, none⟩ = some (.slice aF Fi.length cF) := cell_of B1 rfl
  have k4 : w1.cell? ⟨w.heap.size, 4, none⟩ = some (.slice aN Nx.length cN) := cell_of B1 rfl
  have T9 := twin_any w1 N M st aF aN cF cN Fi Nx (HW.out.2.2.1.on D1) (HW.out.2.2.2.1.on D1) bF bN
  have HB1 := hide (And.intro (HW.out.1.trans (D1.mono HW.out.1.size)) (And.intro B1 (And.intro (HW.out.2.2.1.on D1) (HW.out.2.2.2.1.on D1))))
  clear D1 B1
  go_upto_region 4 with (first | (go_at_call 9; refine T9.mono ?_; rintro e w2 ⟨gF, kF, gN, kN, rfl, HT, D2⟩; have T8 := classes_bad w2 N M st (some ⟨gF, 0, none⟩) (some ⟨gN, 0, none⟩) Fi.length kF Nx.length kN Fi Nx HT.out.f.rd HT.out.n.rd rfl rfl bF bN HV.out; have HD2 := hide D2; clear D2 k0 k1 k2 k3 k4) | (go_at_call 14; refine T8.mono ?_; rintro e w3 ⟨rfl, D3⟩; have HD3 := hide (HD2.out.trans (D3.mono HD2.out.size)); clear D3))
  have HE := hide (And.intro (blk_on HB1.out.2.1 HD3.out) (And.intro (HB1.out.2.2.1.on HD3.out) (And.intro (HB1.out.2.2.2.on HD3.out) (HB1.out.1.trans (HD3.out.mono HB1.out.1.size)))))
  clear HB1 HD3 HD2 HW T8 T9
  have hmo : MonIL 0 [vI 0 (.pointer (some ⟨w.heap.size, 0, none⟩)), vI 1 (.agg #[.int .i64 N, .int .i64 M, .int .i64 st, .slice aF Fi.length cF, .slice aN Nx.length cN]), pI 2 (twP N M st Fi Nx), vI 3 (.pointer (some ⟨w.heap.size, 10, none⟩)), vI 4 (.int .i64 S), vI 5 (.pointer (some ⟨w.heap.size, 11, none⟩)), vI 6 (.int .i64 T), vI 7 (.tuple #[.slice none 0 0, .int .i64 3]), vI 8 (.tuple #[.slice none 0 0, .int .i64 3]), vI 9 (.slice none 0 0), vI 10 (.int .i64 3), vI 11 (.slice none 0 0), vI 12 (.int .i64 3)] := ⟨vI_mono _ _, vI_mono _ _, pI_mono twP_mono, vI_mono _ _, vI_mono _ _, vI_mono _ _, vI_mono _ _, vI_mono _ _, vI_mono _ _, vI_mono _ _, vI_mono _ _, vI_mono _ _, vI_mono _ _, trivial⟩
  refine wp_region_sl [vI 0 (.pointer (some ⟨w.heap.size, 0, none⟩)), vI 1 (.agg #[.int .i64 N, .int .i64 M, .int .i64 st, .slice aF Fi.length cF, .slice aN Nx.length cN]), pI 2 (twP N M st Fi Nx), vI 3 (.pointer (some ⟨w.heap.size, 10, none⟩)), vI 4 (.int .i64 S), vI 5 (.pointer (some ⟨w.heap.size, 11, none⟩)), vI 6 (.int .i64 T), vI 7 (.tuple #[.slice none 0 0, .int .i64 3]), vI 8 (.tuple #[.slice none 0 0, .int .i64 3]), vI 9 (.slice none 0 0), vI 10 (.int .i64 3), vI 11 (.slice none 0 0), vI 12 (.int .i64 3)] (by kernel_rfl) (by kernel_rfl) (by kernel_rfl) (by kernel_rfl) hmo ⟨?o0, ?o1, ?o2, ?o3, ?o4, ?o5, ?o6, ?o7, ?o8, ?o9, ?o10, ?o11, ?o12, trivial⟩ ?fin
  case o0 =>
    intro At yy W hy hb d hd K hK
    have s1 : At.tmps.getD 1 undef = .pointer (some ⟨w.heap.size, 0, none⟩) := hb 1 rfl
    have s1' := s1
    rw [Array.getD_eq_getD_getElem?] at s1'
    clear hd hy hb
    go_simp
    exact hK.out _ W (stp_of hmo d (Below.refl _ _)) (if_pos rfl)
  case o1 =>
    intro At yy W hy hb d hd K hK
    have e0 : yy 0 = .pointer (some ⟨w.heap.size, 0, none⟩) := by obtain ⟨_, _, _, _, e⟩ := hd ⟨0, .data⟩ (by simp) rfl rfl; exact e
    have s19 := (hy 0 _ 19 rfl rfl).trans e0
    have s19' := s19
    rw [Array.getD_eq_getD_getElem?] at s19'
    clear hd hy hb
    have yb0 : W.cell? ⟨w.heap.size, 0, none⟩ = some (.int .i64 N) := cell_of (blk_on HE.out.1 d) rfl
    have yb1 : W.cell? ⟨w.heap.size, 1, none⟩ = some (.int .i64 M) := cell_of (blk_on HE.out.1 d) rfl
    have yb2 : W.cell? ⟨w.heap.size, 2, none⟩ = some (.int .i64 st) := cell_of (blk_on HE.out.1 d) rfl
    have yb3 : W.cell? ⟨w.heap.size, 3, none⟩ = some (.slice aF Fi.length cF) := cell_of (blk_on HE.out.1 d) rfl
    have yb4 : W.cell? ⟨w.heap.size, 4, none⟩ = some (.slice aN Nx.length cN) := cell_of (blk_on HE.out.1 d) rfl
    go_simp
    exact hK.out _ W (stp_of hmo d (Below.refl _ _)) (if_pos rfl)
  case o2 =>
    intro At yy W hy hb d hd K hK
    have e1 : yy 1 = .agg #[.int .i64 N, .int .i64 M, .int .i64 st, .slice aF Fi.length cF, .slice aN Nx.length cN] := by obtain ⟨_, _, _, _, e⟩ := hd ⟨1, .data⟩ (by simp) rfl rfl; exact e
    have s20 := (hy 1 _ 20 rfl rfl).trans e1
    have s20' := s20
    rw [Array.getD_eq_getD_getElem?] at s20'
    clear hd hy hb
    go_simp
    go_wp2_with (go_at_call 9; refine (twin_any _ N M st aF aN cF cN Fi Nx (HE.out.2.1.on d) (HE.out.2.2.1.on d) bF bN).mono ?_; rintro e wa ⟨gF3, kF3, gN3, kN3, rfl, HT3, da⟩)
    exact hK.out _ wa (stp_of hmo d da) ⟨gF3, kF3, gN3, kN3, if_pos rfl, HT3.out.f.rd, HT3.out.n.rd⟩
  case o3 =>
    intro At yy W hy hb d hd K hK
    have s1 : At.tmps.getD 1 undef = .pointer (some ⟨w.heap.size, 0, none⟩) := hb 1 rfl
    have s1' := s1
    rw [Array.getD_eq_getD_getElem?] at s1'
    clear hd hy hb
    go_simp
    exact hK.out _ W (stp_of hmo d (Below.refl _ _)) (if_pos rfl)
  case o4 =>
    intro At yy W hy hb d hd K hK
    have e3 : yy 3 = .pointer (some ⟨w.heap.size, 10, none⟩) := by obtain ⟨_, _, _, _, e⟩ := hd ⟨3, .data⟩ (by simp) rfl rfl; exact e
    have s22 := (hy 3 _ 22 rfl rfl).trans e3
    have s22' := s22
    rw [Array.getD_eq_getD_getElem?] at s22'
    clear hd hy hb
    have yb10 : W.cell? ⟨w.heap.size, 10, none⟩ = some (.int .i64 S) := cell_of (blk_on HE.out.1 d) rfl
    go_simp
    exact hK.out _ W (stp_of hmo d (Below.refl _ _)) (if_pos rfl)
  case o5 =>
    intro At yy W hy hb d hd K hK
    have s1 : At.tmps.getD 1 undef = .pointer (some ⟨w.heap.size, 0, none⟩) := hb 1 rfl
    have s1' := s1
    rw [Array.getD_eq_getD_getElem?] at s1'
    clear hd hy hb
    go_simp
    exact hK.out _ W (stp_of hmo d (Below.refl _ _)) (if_pos rfl)
  case o6 =>
    intro At yy W hy hb d hd K hK
    have e5 : yy 5 = .pointer (some ⟨w.heap.size, 11, none⟩) := by obtain ⟨_, _, _, _, e⟩ := hd ⟨5, .data⟩ (by simp) rfl rfl; exact e
    have s24 := (hy 5 _ 24 rfl rfl).trans e5
    have s24' := s24
    rw [Array.getD_eq_getD_getElem?] at s24'
    clear hd hy hb
    have yb11 : W.cell? ⟨w.heap.size, 11, none⟩ = some (.int .i64 T) := cell_of (blk_on HE.out.1 d) rfl
    go_simp
    exact hK.out _ W (stp_of hmo d (Below.refl _ _)) (if_pos rfl)
  case o7 =>
    intro At yy W hy hb d hd K hK
    have f2 := hd ⟨2, .data⟩ (by simp) rfl rfl
    have e4 : yy 4 = .int .i64 S := by obtain ⟨_, _, _, _, e⟩ := hd ⟨4, .data⟩ (by simp) rfl rfl; exact e
    have e6 : yy 6 = .int .i64 T := by obtain ⟨_, _, _, _, e⟩ := hd ⟨6, .data⟩ (by simp) rfl rfl; exact e
    obtain ⟨lo2, hi2, hl2, hh2, gF3, kF3, gN3, kN3, e2, ra, rb⟩ := f2
    have s21 := (hy 2 _ 21 rfl rfl).trans e2
    have s21' := s21
    rw [Array.getD_eq_getD_getElem?] at s21'
    have s23 := (hy 4 _ 23 rfl rfl).trans e4
    have s23' := s23
    rw [Array.getD_eq_getD_getElem?] at s23'
    have s25 := (hy 6 _ 25 rfl rfl).trans e6
    have s25' := s25
    rw [Array.getD_eq_getD_getElem?] at s25'
    clear hd hy hb
    go_simp
    go_wp2_with (go_at_call 15; refine (tell_bad _ N M st (some ⟨gF3, 0, none⟩) (some ⟨gN3, 0, none⟩) Fi.length kF3 Nx.length kN3 Fi Nx ra rb rfl rfl bF bN HV.out S T).mono ?_; rintro e wa ⟨rfl, da⟩)
    exact hK.out _ wa (stp_of hmo d da) (if_pos rfl)
  case o8 =>
    intro At yy W hy hb d hd K hK
    have e7 : yy 7 = .tuple #[.slice none 0 0, .int .i64 3] := by obtain ⟨_, _, _, _, e⟩ := hd ⟨7, .data⟩ (by simp) rfl rfl; exact e
    have s26 := (hy 7 _ 26 rfl rfl).trans e7
    have s26' := s26
    rw [Array.getD_eq_getD_getElem?] at s26'
    clear hd hy hb
    go_simp
    exact hK.out _ W (stp_of hmo d (Below.refl _ _)) (if_pos rfl)
  case o9 =>
    intro At yy W hy hb d hd K hK
    have e8 : yy 8 = .tuple #[.slice none 0 0, .int .i64 3] := by obtain ⟨_, _, _, _, e⟩ := hd ⟨8, .data⟩ (by simp) rfl rfl; exact e
    have s18 := (hy 8 _ 18 rfl rfl).trans e8
    have s18' := s18
    rw [Array.getD_eq_getD_getElem?] at s18'
    clear hd hy hb
    go_simp
    exact hK.out _ W (stp_of hmo d (Below.refl _ _)) (if_pos rfl)
  case o10 =>
    intro At yy W hy hb d hd K hK
    have e8 : yy 8 = .tuple #[.slice none 0 0, .int .i64 3] := by obtain ⟨_, _, _, _, e⟩ := hd ⟨8, .data⟩ (by simp) rfl rfl; exact e
    have s18 := (hy 8 _ 18 rfl rfl).trans e8
    have s18' := s18
    rw [Array.getD_eq_getD_getElem?] at s18'
    clear hd hy hb
    go_simp
    exact hK.out _ W (stp_of hmo d (Below.refl _ _)) (if_pos rfl)
  case o11 =>
    intro At yy W hy hb d hd K hK
    have e9 : yy 9 = .slice none 0 0 := by obtain ⟨_, _, _, _, e⟩ := hd ⟨9, .data⟩ (by simp) rfl rfl; exact e
    have s27 := (hy 9 _ 27 rfl rfl).trans e9
    have s27' := s27
    rw [Array.getD_eq_getD_getElem?] at s27'
    clear hd hy hb
    go_simp
    exact hK.out _ W (stp_of hmo d (Below.refl _ _)) (if_pos rfl)
  case o12 =>
    intro At yy W hy hb d hd K hK
    have e10 : yy 10 = .int .i64 3 := by obtain ⟨_, _, _, _, e⟩ := hd ⟨10, .data⟩ (by simp) rfl rfl; exact e
    have s28 := (hy 10 _ 28 rfl rfl).trans e10
    have s28' := s28
    rw [Array.getD_eq_getD_getElem?] at s28'
    clear hd hy hb
    go_simp
    exact hK.out _ W (stp_of hmo d (Below.refl _ _)) (if_pos rfl)
  case fin =>
    intro yy lo hi W hM
    show wpList _ _ _ [] _ _
    have e0 : yy 0 = .pointer (some ⟨w.heap.size, 0, none⟩) := hM.fact 0 (by simp) rfl (notR_all 0 rfl)
    have e1 : yy 1 = .agg #[.int .i64 N, .int .i64 M, .int .i64 st, .slice aF Fi.length cF, .slice aN Nx.length cN] := hM.fact 1 (by simp) rfl (notR_all 1 rfl)
    have e3 : yy 3 = .pointer (some ⟨w.heap.size, 10, none⟩) := hM.fact 3 (by simp) rfl (notR_all 3 rfl)
    have e4 : yy 4 = .int .i64 S := hM.fact 4 (by simp) rfl (notR_all 4 rfl)
    have e5 : yy 5 = .pointer (some ⟨w.heap.size, 11, none⟩) := hM.fact 5 (by simp) rfl (notR_all 5 rfl)
    have e6 : yy 6 = .int .i64 T := hM.fact 6 (by simp) rfl (notR_all 6 rfl)
    have e7 : yy 7 = .tuple #[.slice none 0 0, .int .i64 3] := hM.fact 7 (by simp) rfl (notR_all 7 rfl)
    have e8 : yy 8 = .tuple #[.slice none 0 0, .int .i64 3] := hM.fact 8 (by simp) rfl (notR_all 8 rfl)
    have e9 : yy 9 = .slice none 0 0 := hM.fact 9 (by simp) rfl (notR_all 9 rfl)
    have e10 : yy 10 = .int .i64 3 := hM.fact 10 (by simp) rfl (notR_all 10 rfl)
    have e11 : yy 11 = .slice none 0 0 := hM.fact 11 (by simp) rfl (notR_all 11 rfl)
    have e12 : yy 12 = .int .i64 3 := hM.fact 12 (by simp) rfl (notR_all 12 rfl)
    have dd := hM.d
    simp only [fills, Act.put, List.take, List.length, List.setIfInBounds_toArray, List.set_cons_zero, List.set_cons_succ, e0, e1, e3, e4, e5, e6, e7, e8, e9, e10, e11, e12]
    obtain ⟨gF3, kF3, gN3, kN3, e2, _, _⟩ := hM.fact 2 (by simp) rfl (notR_all 2 rfl)
    rw [e2]
    clear hM hmo e0 e1 e3 e4 e5 e6 e7 e8 e9 e10 e11 e12 e2
    have HDD := hide dd
    clear dd
    go_wp2_with fail
    go_ret
    exact ⟨rfl, HE.out.2.2.2.trans (HDD.out.mono HE.out.2.2.2.size)⟩
/-! ### Tells: a state that is none -/
set_option maxRecDepth 100000 in
set_option maxHeartbeats 4000000 in
theorem tells_arg (w : World) (N M st : Nat) (S T : Int) (aF aN aW : Option Addr) (cF cN cW : Nat) (Fi Nx Wd : List Int) (x5 x6 x7 x8 x9 : Value) (hF : RdN w aF Fi) (hN : RdN w aN Nx) (hW : RdN w aW Wd) (bF : Fi.length ≤ 4194304) (bN : Nx.length ≤ 4194304) (_bW : Wd.length ≤ 4194304) (hv : vd N M st Fi Nx = true) (hs : ¬ (inB N S = true ∧ inB N T = true)) :
    Calls Try.prog 4 #[.agg #[.int .i64 (N : Int), .int .i64 (M : Int), .int .i64 (st : Int), .slice aF Fi.length cF, .slice aN Nx.length cN, x5, x6, x7, x8, x9, .int .i64 S, .int .i64 T, .slice aW Wd.length cW]] w fun e w' => e = .returned (.bool true) ∧ Below w.heap.size w w' := by
  obtain ⟨W0, hW0⟩ : ∃ W, w.alloc (.cells #[.int .i64 (N : Int), .int .i64 (M : Int), .int .i64 (st : Int), .slice aF Fi.length cF, .slice aN Nx.length cN, x5, x6, x7, x8, x9, .int .i64 S, .int .i64 T, .slice aW Wd.length cW] 26) = W := ⟨_, rfl⟩
  have d0 : Below w.heap.size w W0 := by rw [← hW0]; exact (Below.refl _ _).alloc (Nat.le_refl _) _
  have B0 : W0.heap[w.heap.size]? = some (.cells #[.int .i64 (N : Int), .int .i64 (M : Int), .int .i64 (st : Int), .slice aF Fi.length cF, .slice aN Nx.length cN, x5, x6, x7, x8, x9, .int .i64 S, .int .i64 T, .slice aW Wd.length cW] 26 (0, 0)) := by rw [← hW0]; exact World.alloc_heap_new _ _
  have HW := hide (And.intro d0 (And.intro B0 (And.intro (hF.on d0) (And.intro (hN.on d0) (hW.on d0)))))
  clear d0 B0 hF hN hW
  have HV := hide (And.intro hv hs)
  clear hv hs
  go_enter Try.func4, Try.ntmps4
  go_upto_region 3 with (go_at_call 7; refine (works_any _).mono ?_; rintro e w1 ⟨rfl, D1⟩)
  have B1 := blk_on HW.out.2.1 D1
  have k0 : w1.cell? ⟨w.heap.size, 0, none⟩ = some (.int .i64 (N : Int)) := cell_of B1 rfl
  have k1 : w1.cell? ⟨w.heap.size, 1, none⟩ = some (.int .i64 (M : Int)) := cell_of B1 rfl
  have k2 : w1.cell? ⟨w.heap.size, 2, none⟩ = some (.int .i64 (st : Int)) := cell_of B1 rfl
  have k3 : w1.cell? ⟨w.heap.size, 3, none⟩ = some (.slice aF Fi.length cF) := cell_of B1 rfl
  have k4 : w1.cell? ⟨w.heap.size, 4, none⟩ = some (.slice aN Nx.length cN) := cell_of B1 rfl
  have T9 := twin_any w1 N M st aF aN cF cN Fi Nx (HW.out.2.2.1.on D1) (HW.out.2.2.2.1.on D1) bF bN
  have HB1 := hide (And.intro (HW.out.1.trans (D1.mono HW.out.1.size)) (And.intro B1 (And.intro (HW.out.2.2.1.on D1) (HW.out.2.2.2.1.on D1))))
  clear D1 B1
  go_upto_region 4 with (first | (go_at_call 9; refine T9.mono ?_; rintro e w2 ⟨gF, kF, gN, kN, rfl, HT, D2⟩; have T8 := classes_ok w2 N M st (some ⟨gF, 0, none⟩) (some ⟨gN, 0, none⟩) Fi.length kF Nx.length kN Fi Nx HT.out.f.rd HT.out.n.rd rfl rfl bF bN HV.out.1; have HD2 := hide D2; clear D2 k0 k1 k2 k3 k4) | (go_at_call 14; refine T8.mono ?_; rintro e w3 ⟨hc, rfl, al, HCC⟩; have HD3 := hide (HD2.out.trans (HCC.out.2.2.2.mono HD2.out.size))))
  have HE := hide (And.intro (blk_on HB1.out.2.1 HD3.out) (And.intro (HB1.out.2.2.1.on HD3.out) (And.intro (HB1.out.2.2.2.on HD3.out) (HB1.out.1.trans (HD3.out.mono HB1.out.1.size)))))
  clear HB1 HD3 HD2 HW T8 T9 HCC
  have hmo : MonIL 0 [vI 0 (.pointer (some ⟨w.heap.size, 0, none⟩)), vI 1 (.agg #[.int .i64 (N : Int), .int .i64 (M : Int), .int .i64 (st : Int), .slice aF Fi.length cF, .slice aN Nx.length cN]), pI 2 (twP N M st Fi Nx), vI 3 (.pointer (some ⟨w.heap.size, 10, none⟩)), vI 4 (.int .i64 S), vI 5 (.pointer (some ⟨w.heap.size, 11, none⟩)), vI 6 (.int .i64 T), vI 7 (.tuple #[.slice none 0 0, .int .i64 1]), vI 8 (.tuple #[.slice none 0 0, .int .i64 1]), vI 9 (.slice none 0 0), vI 10 (.int .i64 1), vI 11 (.slice none 0 0), vI 12 (.int .i64 1)] := ⟨vI_mono _ _, vI_mono _ _, pI_mono twP_mono, vI_mono _ _, vI_mono _ _, vI_mono _ _, vI_mono _ _, vI_mono _ _, vI_mono _ _, vI_mono _ _, vI_mono _ _, vI_mono _ _, vI_mono _ _, trivial⟩
  refine wp_region_sl [vI 0 (.pointer (some ⟨w.heap.size, 0, none⟩)), vI 1 (.agg #[.int .i64 (N : Int), .int .i64 (M : Int), .int .i64 (st : Int), .slice aF Fi.length cF, .slice aN Nx.length cN]), pI 2 (twP N M st Fi Nx), vI 3 (.pointer (some ⟨w.heap.size, 10, none⟩)), vI 4 (.int .i64 S), vI 5 (.pointer (some ⟨w.heap.size, 11, none⟩)), vI 6 (.int .i64 T), vI 7 (.tuple #[.slice none 0 0, .int .i64 1]), vI 8 (.tuple #[.slice none 0 0, .int .i64 1]), vI 9 (.slice none 0 0), vI 10 (.int .i64 1), vI 11 (.slice none 0 0), vI 12 (.int .i64 1)] (by kernel_rfl) (by kernel_rfl) (by kernel_rfl) (by kernel_rfl) hmo ⟨?o0, ?o1, ?o2, ?o3, ?o4, ?o5, ?o6, ?o7, ?o8, ?o9, ?o10, ?o11, ?o12, trivial⟩ ?fin
  case o0 =>
    intro At yy W hy hb d hd K hK
    have s1 : At.tmps.getD 1 undef = .pointer (some ⟨w.heap.size, 0, none⟩) := hb 1 rfl
    have s1' := s1
    rw [Array.getD_eq_getD_getElem?] at s1'
    clear hd hy hb
    go_simp
    exact hK.out _ W (stp_of hmo d (Below.refl _ _)) (if_pos rfl)
  case o1 =>
    intro At yy W hy hb d hd K hK
    have e0 : yy 0 = .pointer (some ⟨w.heap.size, 0, none⟩) := by obtain ⟨_, _, _, _, e⟩ := hd ⟨0, .data⟩ (by simp) rfl rfl; exact e
    have s19 := (hy 0 _ 19 rfl rfl).trans e0
    have s19' := s19
    rw [Array.getD_eq_getD_getElem?] at s19'
    clear hd hy hb
    have yb0 : W.cell? ⟨w.heap.size, 0, none⟩ = some (.int .i64 (N : Int)) := cell_of (blk_on HE.out.1 d) rfl
    have yb1 : W.cell? ⟨w.heap.size, 1, none⟩ = some (.int .i64 (M : Int)) := cell_of (blk_on HE.out.1 d) rfl
    have yb2 : W.cell? ⟨w.heap.size, 2, none⟩ = some (.int .i64 (st : Int)) := cell_of (blk_on HE.out.1 d) rfl
    have yb3 : W.cell? ⟨w.heap.size, 3, none⟩ = some (.slice aF Fi.length cF) := cell_of (blk_on HE.out.1 d) rfl
    have yb4 : W.cell? ⟨w.heap.size, 4, none⟩ = some (.slice aN Nx.length cN) := cell_of (blk_on HE.out.1 d) rfl
    go_simp
    exact hK.out _ W (stp_of hmo d (Below.refl _ _)) (if_pos rfl)
  case o2 =>
    intro At yy W hy hb d hd K hK
    have e1 : yy 1 = .agg #[.int .i64 (N : Int), .int .i64 (M : Int), .int .i64 (st : Int), .slice aF Fi.length cF, .slice aN Nx.length cN] := by obtain ⟨_, _, _, _, e⟩ := hd ⟨1, .data⟩ (by simp) rfl rfl; exact e
    have s20 := (hy 1 _ 20 rfl rfl).trans e1
    have s20' := s20
    rw [Array.getD_eq_getD_getElem?] at s20'
    clear hd hy hb
    go_simp
    go_wp2_with (go_at_call 9; refine (twin_any _ N M st aF aN cF cN Fi Nx (HE.out.2.1.on d) (HE.out.2.2.1.on d) bF bN).mono ?_; rintro e wa ⟨gF3, kF3, gN3, kN3, rfl, HT3, da⟩)
    exact hK.out _ wa (stp_of hmo d da) ⟨gF3, kF3, gN3, kN3, if_pos rfl, HT3.out.f.rd, HT3.out.n.rd⟩
  case o3 =>
    intro At yy W hy hb d hd K hK
    have s1 : At.tmps.getD 1 undef = .pointer (some ⟨w.heap.size, 0, none⟩) := hb 1 rfl
    have s1' := s1
    rw [Array.getD_eq_getD_getElem?] at s1'
    clear hd hy hb
    go_simp
    exact hK.out _ W (stp_of hmo d (Below.refl _ _)) (if_pos rfl)
  case o4 =>
    intro At yy W hy hb d hd K hK
    have e3 : yy 3 = .pointer (some ⟨w.heap.size, 10, none⟩) := by obtain ⟨_, _, _, _, e⟩ := hd ⟨3, .data⟩ (by simp) rfl rfl; exact e
    have s22 := (hy 3 _ 22 rfl rfl).trans e3
    have s22' := s22
    rw [Array.getD_eq_getD_getElem?] at s22'
    clear hd hy hb
    have yb10 : W.cell? ⟨w.heap.size, 10, none⟩ = some (.int .i64 S) := cell_of (blk_on HE.out.1 d) rfl
    go_simp
    exact hK.out _ W (stp_of hmo d (Below.refl _ _)) (if_pos rfl)
  case o5 =>
    intro At yy W hy hb d hd K hK
    have s1 : At.tmps.getD 1 undef = .pointer (some ⟨w.heap.size, 0, none⟩) := hb 1 rfl
    have s1' := s1
    rw [Array.getD_eq_getD_getElem?] at s1'
    clear hd hy hb
    go_simp
    exact hK.out _ W (stp_of hmo d (Below.refl _ _)) (if_pos rfl)
  case o6 =>
    intro At yy W hy hb d hd K hK
    have e5 : yy 5 = .pointer (some ⟨w.heap.size, 11, none⟩) := by obtain ⟨_, _, _, _, e⟩ := hd ⟨5, .data⟩ (by simp) rfl rfl; exact e
    have s24 := (hy 5 _ 24 rfl rfl).trans e5
    have s24' := s24
    rw [Array.getD_eq_getD_getElem?] at s24'
    clear hd hy hb
    have yb11 : W.cell? ⟨w.heap.size, 11, none⟩ = some (.int .i64 T) := cell_of (blk_on HE.out.1 d) rfl
    go_simp
    exact hK.out _ W (stp_of hmo d (Below.refl _ _)) (if_pos rfl)
  case o7 =>
    intro At yy W hy hb d hd K hK
    have f2 := hd ⟨2, .data⟩ (by simp) rfl rfl
    have e4 : yy 4 = .int .i64 S := by obtain ⟨_, _, _, _, e⟩ := hd ⟨4, .data⟩ (by simp) rfl rfl; exact e
    have e6 : yy 6 = .int .i64 T := by obtain ⟨_, _, _, _, e⟩ := hd ⟨6, .data⟩ (by simp) rfl rfl; exact e
    obtain ⟨lo2, hi2, hl2, hh2, gF3, kF3, gN3, kN3, e2, ra, rb⟩ := f2
    have s21 := (hy 2 _ 21 rfl rfl).trans e2
    have s21' := s21
    rw [Array.getD_eq_getD_getElem?] at s21'
    have s23 := (hy 4 _ 23 rfl rfl).trans e4
    have s23' := s23
    rw [Array.getD_eq_getD_getElem?] at s23'
    have s25 := (hy 6 _ 25 rfl rfl).trans e6
    have s25' := s25
    rw [Array.getD_eq_getD_getElem?] at s25'
    clear hd hy hb
    go_simp
    go_wp2_with (go_at_call 15; refine (tell_arg _ N M st (some ⟨gF3, 0, none⟩) (some ⟨gN3, 0, none⟩) Fi.length kF3 Nx.length kN3 Fi Nx ra rb rfl rfl bF bN HV.out.1 S T HV.out.2).mono ?_; rintro e wa ⟨rfl, da⟩)
    exact hK.out _ wa (stp_of hmo d da) (if_pos rfl)
  case o8 =>
    intro At yy W hy hb d hd K hK
    have e7 : yy 7 = .tuple #[.slice none 0 0, .int .i64 1] := by obtain ⟨_, _, _, _, e⟩ := hd ⟨7, .data⟩ (by simp) rfl rfl; exact e
    have s26 := (hy 7 _ 26 rfl rfl).trans e7
    have s26' := s26
    rw [Array.getD_eq_getD_getElem?] at s26'
    clear hd hy hb
    go_simp
    exact hK.out _ W (stp_of hmo d (Below.refl _ _)) (if_pos rfl)
  case o9 =>
    intro At yy W hy hb d hd K hK
    have e8 : yy 8 = .tuple #[.slice none 0 0, .int .i64 1] := by obtain ⟨_, _, _, _, e⟩ := hd ⟨8, .data⟩ (by simp) rfl rfl; exact e
    have s18 := (hy 8 _ 18 rfl rfl).trans e8
    have s18' := s18
    rw [Array.getD_eq_getD_getElem?] at s18'
    clear hd hy hb
    go_simp
    exact hK.out _ W (stp_of hmo d (Below.refl _ _)) (if_pos rfl)
  case o10 =>
    intro At yy W hy hb d hd K hK
    have e8 : yy 8 = .tuple #[.slice none 0 0, .int .i64 1] := by obtain ⟨_, _, _, _, e⟩ := hd ⟨8, .data⟩ (by simp) rfl rfl; exact e
    have s18 := (hy 8 _ 18 rfl rfl).trans e8
    have s18' := s18
    rw [Array.getD_eq_getD_getElem?] at s18'
    clear hd hy hb
    go_simp
    exact hK.out _ W (stp_of hmo d (Below.refl _ _)) (if_pos rfl)
  case o11 =>
    intro At yy W hy hb d hd K hK
    have e9 : yy 9 = .slice none 0 0 := by obtain ⟨_, _, _, _, e⟩ := hd ⟨9, .data⟩ (by simp) rfl rfl; exact e
    have s27 := (hy 9 _ 27 rfl rfl).trans e9
    have s27' := s27
    rw [Array.getD_eq_getD_getElem?] at s27'
    clear hd hy hb
    go_simp
    exact hK.out _ W (stp_of hmo d (Below.refl _ _)) (if_pos rfl)
  case o12 =>
    intro At yy W hy hb d hd K hK
    have e10 : yy 10 = .int .i64 1 := by obtain ⟨_, _, _, _, e⟩ := hd ⟨10, .data⟩ (by simp) rfl rfl; exact e
    have s28 := (hy 10 _ 28 rfl rfl).trans e10
    have s28' := s28
    rw [Array.getD_eq_getD_getElem?] at s28'
    clear hd hy hb
    go_simp
    exact hK.out _ W (stp_of hmo d (Below.refl _ _)) (if_pos rfl)
  case fin =>
    intro yy lo hi W hM
    show wpList _ _ _ [] _ _
    have e0 : yy 0 = .pointer (some ⟨w.heap.size, 0, none⟩) := hM.fact 0 (by simp) rfl (notR_all 0 rfl)
    have e1 : yy 1 = .agg #[.int .i64 (N : Int), .int .i64 (M : Int), .int .i64 (st : Int), .slice aF Fi.length cF, .slice aN Nx.length cN] := hM.fact 1 (by simp) rfl (notR_all 1 rfl)
    have e3 : yy 3 = .pointer (some ⟨w.heap.size, 10, none⟩) := hM.fact 3 (by simp) rfl (notR_all 3 rfl)
    have e4 : yy 4 = .int .i64 S := hM.fact 4 (by simp) rfl (notR_all 4 rfl)
    have e5 : yy 5 = .pointer (some ⟨w.heap.size, 11, none⟩) := hM.fact 5 (by simp) rfl (notR_all 5 rfl)
    have e6 : yy 6 = .int .i64 T := hM.fact 6 (by simp) rfl (notR_all 6 rfl)
    have e7 : yy 7 = .tuple #[.slice none 0 0, .int .i64 1] := hM.fact 7 (by simp) rfl (notR_all 7 rfl)
    have e8 : yy 8 = .tuple #[.slice none 0 0, .int .i64 1] := hM.fact 8 (by simp) rfl (notR_all 8 rfl)
    have e9 : yy 9 = .slice none 0 0 := hM.fact 9 (by simp) rfl (notR_all 9 rfl)
    have e10 : yy 10 = .int .i64 1 := hM.fact 10 (by simp) rfl (notR_all 10 rfl)
    have e11 : yy 11 = .slice none 0 0 := hM.fact 11 (by simp) rfl (notR_all 11 rfl)
    have e12 : yy 12 = .int .i64 1 := hM.fact 12 (by simp) rfl (notR_all 12 rfl)
    have dd := hM.d
    simp only [fills, Act.put, List.take, List.length, List.setIfInBounds_toArray, List.set_cons_zero, List.set_cons_succ, e0, e1, e3, e4, e5, e6, e7, e8, e9, e10, e11, e12]
    obtain ⟨gF3, kF3, gN3, kN3, e2, _, _⟩ := hM.fact 2 (by simp) rfl (notR_all 2 rfl)
    rw [e2]
    clear hM hmo e0 e1 e3 e4 e5 e6 e7 e8 e9 e10 e11 e12 e2
    have HDD := hide dd
    have B5 := blk_on HE.out.1 dd
    have y0 : W.cell? ⟨w.heap.size, 0, none⟩ = some (.int .i64 (N : Int)) := cell_of B5 rfl
    have y10 : W.cell? ⟨w.heap.size, 10, none⟩ = some (.int .i64 S) := cell_of B5 rfl
    have y11 : W.cell? ⟨w.heap.size, 11, none⟩ = some (.int .i64 T) := cell_of B5 rfl
    have hno : S < 0 ∨ T < 0 ∨ S ≥ (N : Int) ∨ T ≥ (N : Int) := by
      refine Classical.byContradiction fun z => HV.out.2 ⟨inB_iff.2 ⟨by omega, by omega⟩, inB_iff.2 ⟨by omega, by omega⟩⟩
    clear dd B5
    go_upto_region 7 with fail
    have HNO := hide hno
    clear hno
    by_cases c1 : S < 0
    · go_wp2_with fail
      go_ret
      exact ⟨rfl, HE.out.2.2.2.trans (HDD.out.mono HE.out.2.2.2.size)⟩
    · by_cases c2 : T < 0
      · go_wp2_with fail
        go_ret
        exact ⟨rfl, HE.out.2.2.2.trans (HDD.out.mono HE.out.2.2.2.size)⟩
      · by_cases c3 : S ≥ (N : Int)
        · have c3' : (N : Int) ≤ S := c3
          go_wp2_with fail
          go_ret
          exact ⟨rfl, HE.out.2.2.2.trans (HDD.out.mono HE.out.2.2.2.size)⟩
        · have c3' : S < (N : Int) := by omega
          have c4 : T ≥ (N : Int) := by have := HNO.out; omega
          have c4' : (N : Int) ≤ T := c4
          go_wp2_with fail
          go_ret
          exact ⟨rfl, HE.out.2.2.2.trans (HDD.out.mono HE.out.2.2.2.size)⟩
end Go.Proofs.Ytocoghljmlpdeaa
