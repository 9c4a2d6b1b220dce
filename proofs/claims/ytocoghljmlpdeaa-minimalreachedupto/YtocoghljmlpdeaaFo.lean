import Derived.Test.YtocoghljmlpdeaaRows
import Derived.Test.YtocoghljmlpdeaaDi
import Derived.ProofKit
import Derived.OpenShut
import Derived.ShutString
import Derived.Deep.DeepHandedRow
import Derived.Lib.LaidTab
import Derived.Lib.SmallJoins
import Derived.ChangeOld
import Derived.Lay
import Derived.Deep.Slices
namespace Go.Proofs.Ytocoghljmlpdeaa.frame
open Go.ChangeShapes Go.WideShapes Go.ChangeAt Go.RowKit Go.Joins Go.Deep
theorem own : ownKnob Try.prog.godebug = none := by kernel_rfl
theorem laidOut : laidOutB Try.prog = true := by kernel_rfl
theorem cells5 : Try.prog.cellsOf 5 = 1 := by kernel_rfl
theorem cells3 : Try.prog.cellsOf 3 = 1 := by kernel_rfl
theorem cellsI : Try.prog.cellsOf 22 = 1 := by kernel_rfl
theorem bulk_pos {H : Type} (d : DataW H) : 0 < Rows.uptoBulk d := by
  cases d
  case lit l => cases l <;> simp [Rows.uptoBulk]
  all_goals simp [Rows.uptoBulk]
theorem bulk_list {H : Type} (l : List (DataW H)) : l.length ≤ Rows.uptoBulkAll l ∧ ∀ d ∈ l, Rows.uptoBulk d ≤ Rows.uptoBulkAll l := by
  induction l with
  | nil => exact ⟨Nat.zero_le _, fun s hs => by cases hs⟩
  | cons x r ih =>
    have e : Rows.uptoBulkAll (x :: r) = Rows.uptoBulk x + Rows.uptoBulkAll r := by simp [Rows.uptoBulkAll]
    have := bulk_pos x
    rw [e]
    refine ⟨by simp; omega, fun s hs => ?_⟩
    rcases List.mem_cons.1 hs with rfl | h
    · omega
    · have := ih.2 s h; omega
theorem list1 {α : Type} {l : List α} (h : l.length = 1) : ∃ c0, l = [c0] := by
  match l, h with
  | [c0], _ => exact ⟨c0, rfl⟩
theorem list3 {α : Type} {l : List α} (h : l.length = 3) : ∃ c0 c1 c2, l = [c0, c1, c2] := by
  match l, h with
  | [c0, c1, c2], _ => exact ⟨c0, c1, c2, rfl⟩
set_option maxRecDepth 100000 in
/-- A list that came in, opened. -/
theorem list_open {H : Type} {enc : TypeId × Value → H} {W : World} {n : Nat} {v : Value} {y : DataW H × List MemPlace} {T e sz : Nat} {α : Type} [Inhabited α] (At : Nat → Nat → α → Prop) (Z : α → Nat → Prop) (hZ : ∀ x a b, a ≤ b → Z x a → Z x b)
    (hT : Try.prog.underlying T = some (.slice e)) (hc : Try.prog.cellsOf e = sz)
    (item : ∀ {n' : Nat} {a : Addr} {cs : List Value} {z : DataW H × List MemPlace}, W.cells? 0 a sz = some cs → DataW.trod enc Try.prog W 0 (fun _ => true) true n' e cs = some z → ∃ x : α, At a.block a.off x ∧ a.spot = none ∧ Z x (Rows.uptoBulk z.1))
    (h : DataW.trod enc Try.prog W 0 (fun _ => true) true n T [v] = some y) :
    ∃ aL cL, ∃ L : List α, v = .slice aL L.length cL ∧ (∀ (k : Nat) (hk : k < L.length), ∃ g o, aL = some ⟨g, o, none⟩ ∧ At g (o + k * sz) L[k]) ∧ L.length ≤ Rows.uptoBulk y.1 ∧ ∀ x ∈ L, Z x (Rows.uptoBulk y.1) := by
  rcases open_slice hT h with ⟨hcs, _⟩ | ⟨a, len, cap, m, n', D, Pl, hcs, _, hl, _, hmm, hy, hx⟩
  · simp only [List.cons.injEq, and_true] at hcs
    exact ⟨none, 0, [], hcs, fun k hk => by simp at hk, by simp, fun s hs => by cases hs⟩
  · simp only [List.cons.injEq, and_true] at hcs
    simp only [if_true] at hmm
    have hsp : 0 < len → a.spot = none := by
      intro h0
      obtain ⟨cs', h1, h2⟩ := hx 0 (by omega)
      rw [hc] at h1
      obtain ⟨x, _, sp, _⟩ := item h1 h2
      simpa [Addr.add] using sp
    have each : ∀ i, i < len → ∃ x : α, At a.block (a.off + i * sz) x ∧ a.spot = none ∧ Z x (Rows.uptoBulk (D i)) := by
      intro i hi
      obtain ⟨cs', h1, h2⟩ := hx i (by omega)
      rw [hc] at h1
      obtain ⟨x, o, _, z⟩ := item h1 h2
      obtain ⟨ab, ao, spot⟩ := a
      have hs : spot = none := hsp (by omega)
      subst hs
      rw [Addr.add_lit] at o
      exact ⟨x, o, rfl, z⟩
    have hb := bulk_list (H := H) ((List.range len).map D)
    have hyb : Rows.uptoBulkAll ((List.range len).map D) ≤ Rows.uptoBulk y.1 := by rw [hy]; simp only [Rows.uptoBulk]; omega
    obtain ⟨q, hq⟩ := choose_lt each
    refine ⟨some a, cap, (List.range len).map q, by simpa using hcs, fun k hk => ?_, ?_, fun x hx2 => ?_⟩
    · have hk' : k < len := by simpa using hk
      obtain ⟨ab, ao, spot⟩ := a
      have hsp : spot = none := (hq k hk').2.1
      subst hsp
      refine ⟨ab, ao, rfl, ?_⟩
      have := (hq k hk').1
      simpa using this
    · have := hb.1
      simp at this
      simp
      omega
    · obtain ⟨i, hi, rfl⟩ := List.mem_map.1 hx2
      have hi' := List.mem_range.1 hi
      have h1 := (hq i hi').2.2
      have h2 := hb.2 (D i) (List.mem_map_of_mem hi)
      exact hZ _ _ _ (by omega) h1
theorem list5 {α : Type} {l : List α} (h : l.length = 5) : ∃ c0 c1 c2 c3 c4, l = [c0, c1, c2, c3, c4] := by
  match l, h with
  | [c0, c1, c2, c3, c4], _ => exact ⟨c0, c1, c2, c3, c4, rfl⟩
theorem num_item {H : Type} {enc : TypeId × Value → H} {W : World} {n : Nat} {a : Addr} {cs : List Value} {y : DataW H × List MemPlace} (h1 : W.cells? 0 a 1 = some cs) (h : DataW.trod enc Try.prog W 0 (fun _ => true) true n 3 cs = some y) :
    ∃ x : Int, W.cell? ⟨a.block, a.off, none⟩ = some (.int .i64 x) ∧ a.spot = none := by
  obtain ⟨_, hlen, hcell⟩ := World.cells?_some h1
  obtain ⟨v0, rfl⟩ := list1 hlen
  obtain ⟨k, e1, _, _⟩ := DataW.trod_int Try.underlying3 h
  simp only [List.cons.injEq, and_true] at e1
  subst e1
  have c0 := hcell 0 (by omega)
  obtain ⟨ab, ao, spot⟩ := a
  have hspot : spot = none := by simpa [Addr.add] using World.cell?_spot c0
  subst hspot
  rw [Addr.add_lit] at c0
  exact ⟨k, c0, rfl⟩
/-- A list of ints that came in, opened. -/
theorem nums_open {H : Type} {enc : TypeId × Value → H} {W : World} {n : Nat} {v : Value} {y : DataW H × List MemPlace} (h : DataW.trod enc Try.prog W 0 (fun _ => true) true n 22 [v] = some y) :
    ∃ (a : Option Addr) (c : Nat) (L : List Int), v = .slice a L.length c ∧ RdN W a L ∧ L.length ≤ Rows.uptoBulk y.1 := by
  obtain ⟨a, k, L, rfl, hL, l1, _⟩ := list_open (α := Int) (fun g o x => W.cell? ⟨g, o, none⟩ = some (.int .i64 x)) (fun _ _ => True) (fun _ _ _ _ q => q) Try.underlying22 cells3 (fun h1 h2 => by obtain ⟨x, q, s⟩ := num_item h1 h2; exact ⟨x, q, s, trivial⟩) h
  refine ⟨a, k, L, rfl, fun k hk => ?_, l1⟩
  obtain ⟨g, o, e, q⟩ := hL k hk
  exact ⟨g, o, e, by rw [Nat.mul_one] at q; exact q⟩
theorem cellsD : Try.prog.cellsOf 24 = 5 := by kernel_rfl
theorem cellsAsk : Try.prog.cellsOf 26 = 13 := by kernel_rfl
theorem list13 {α : Type} {l : List α} (h : l.length = 13) : ∃ a b c d e f g h i j k o p, l = [a, b, c, d, e, f, g, h, i, j, k, o, p] := by
  match l, h with
  | [a, b, c, d, e, f, g, h, i, j, k, o, p], _ => exact ⟨a, b, c, d, e, f, g, h, i, j, k, o, p, rfl⟩
/-- A complete automaton that came in, opened. -/
theorem dfa_open {H : Type} {enc : TypeId × Value → H} {W : World} {n : Nat} {v0 v1 v2 v3 v4 : Value} {y : DataW H × List MemPlace} (h : DataW.trod enc Try.prog W 0 (fun _ => true) true n 24 [v0, v1, v2, v3, v4] = some y) :
    ∃ (nn mm ss : Int) (a1 a2 : Option Addr) (c1 c2 : Nat) (Fi Nx : List Int), v0 = .int .i64 nn ∧ v1 = .int .i64 mm ∧ v2 = .int .i64 ss ∧ v3 = .slice a1 Fi.length c1 ∧ v4 = .slice a2 Nx.length c2 ∧ RdN W a1 Fi ∧ RdN W a2 Nx ∧ Fi.length ≤ Rows.uptoBulk y.1 ∧ Nx.length ≤ Rows.uptoBulk y.1 := by
  obtain ⟨ys, n2, _, hx2, hl2, hlen2, hfl2⟩ := DataW.trod_struct Try.underlying24 h
  obtain ⟨z0, z1, z2, z3, z4, rfl⟩ := list5 hlen2
  have g0 := hfl2 0 _ rfl
  have g1 := hfl2 1 _ rfl
  have g2 := hfl2 2 _ rfl
  have g3 := hfl2 3 _ rfl
  have g4 := hfl2 4 _ rfl
  simp [cells3, cellsI] at g0 g1 g2 g3 g4
  obtain ⟨nn, e0, _, _⟩ := DataW.trod_int Try.underlying3 g0
  obtain ⟨mm, e1, _, _⟩ := DataW.trod_int Try.underlying3 g1
  obtain ⟨ss, e2, _, _⟩ := DataW.trod_int Try.underlying3 g2
  simp only [List.cons.injEq, and_true] at e0 e1 e2
  have hb0 : Rows.uptoBulk z3.1 ≤ Rows.uptoBulk y.1 ∧ Rows.uptoBulk z4.1 ≤ Rows.uptoBulk y.1 := by
    rw [hx2]
    simp only [List.map_cons, List.map_nil, Rows.uptoBulk, Rows.uptoBulkAll]
    exact ⟨by omega, by omega⟩
  obtain ⟨a1, k1, Fi, e3, hFi, l1⟩ := nums_open g3
  obtain ⟨a2, k2, Nx, e4, hNx, l2⟩ := nums_open g4
  exact ⟨nn, mm, ss, a1, a2, k1, k2, Fi, Nx, e0, e1, e2, e3, e4, hFi, hNx, by omega, by omega⟩
set_option maxRecDepth 100000 in
/-- Two complete automata, two states and a word that came in, opened. -/
theorem ask_in {H : Type} {enc : TypeId × Value → H} {W : World} {base : Nat} {v : Value} {d : DataW H} {p : List MemPlace} (hv : Value.okWide Try.prog W .any base 26 v) (h : DataW.Trod enc Try.prog W 0 (fun _ => true) true 26 v d p) (hk : Rows.uptoBulk d ≤ 1048576) :
    ∃ (N M st N2 M2 s2 S T : Int) (aF aN bF bN aW : Option Addr) (cF cN dF dN cW : Nat) (Fi Nx F2 X2 Wd : List Int), v = .agg #[.int .i64 N, .int .i64 M, .int .i64 st, .slice aF Fi.length cF, .slice aN Nx.length cN, .int .i64 N2, .int .i64 M2, .int .i64 s2, .slice bF F2.length dF, .slice bN X2.length dN, .int .i64 S, .int .i64 T, .slice aW Wd.length cW] ∧ RdN W aF Fi ∧ RdN W aN Nx ∧ RdN W bF F2 ∧ RdN W bN X2 ∧ RdN W aW Wd ∧ Fi.length ≤ 1048576 ∧ Nx.length ≤ 1048576 ∧ F2.length ≤ 1048576 ∧ X2.length ≤ 1048576 ∧ Wd.length ≤ 1048576 := by
  obtain ⟨cs, rfl, hsz⟩ := okWide_struct Try.underlying26 hv
  obtain ⟨l⟩ := cs
  have hl13 : l.length = 13 := hsz.trans cellsAsk
  obtain ⟨x0, x1, x2, x3, x4, x5, x6, x7, x8, x9, x10, x11, x12, rfl⟩ := list13 hl13
  obtain ⟨fuel, hf⟩ := h
  obtain ⟨xs, n, _, hx, hl, hlen, hfl⟩ := DataW.trod_struct Try.underlying26 hf
  obtain ⟨y0, y1, y2, y3, y4, rfl⟩ := list5 hlen
  have h0 := hfl 0 _ rfl
  have h1 := hfl 1 _ rfl
  have h2 := hfl 2 _ rfl
  have h3 := hfl 3 _ rfl
  have h4 := hfl 4 _ rfl
  simp [Value.cells, cellsI, cellsD, cells3] at h0 h1 h2 h3 h4
  simp only [Prod.mk.injEq] at hx
  rw [hx.1] at hk
  simp only [List.map_cons, List.map_nil, Rows.uptoBulk, Rows.uptoBulkAll] at hk
  obtain ⟨N, M, st, aF, aN, cF, cN, Fi, Nx, rfl, rfl, rfl, rfl, rfl, rF, rN, l1, l2⟩ := dfa_open h0
  obtain ⟨N2, M2, s2, bF, bN, dF, dN, F2, X2, rfl, rfl, rfl, rfl, rfl, rF2, rN2, l3, l4⟩ := dfa_open h1
  obtain ⟨S, q2, _, _⟩ := DataW.trod_int Try.underlying3 h2
  obtain ⟨T, q3, _, _⟩ := DataW.trod_int Try.underlying3 h3
  simp only [List.cons.injEq, and_true] at q2 q3
  subst q2 q3
  obtain ⟨aW, cW, Wd, rfl, rW, l5⟩ := nums_open h4
  exact ⟨N, M, st, N2, M2, s2, S, T, aF, aN, bF, bN, aW, cF, cN, dF, dN, cW, Fi, Nx, F2, X2, Wd, rfl, rF, rN, rF2, rN2, rW, by omega, by omega, by omega, by omega, by omega⟩
end Go.Proofs.Ytocoghljmlpdeaa.frame
