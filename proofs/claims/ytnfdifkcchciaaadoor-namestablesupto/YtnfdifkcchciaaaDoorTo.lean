import Derived.Test.YtnfdifkcchciaaaDoorTw
import Derived.Test.YtnfdifkcchciaaaDoorFrm
import Derived.Deep.Slices
namespace Go.Proofs.YtnfdifkcchciaaaDoor.frame
open Go.ChangeShapes Go.WideShapes Go.ChangeAt Go.RowKit Go.Joins Go.Deep

theorem cells54 : Tryd.prog.cellsOf 54 = 4 := by kernel_rfl
theorem cells3 : Tryd.prog.cellsOf 3 = 1 := by kernel_rfl
theorem cells4 : Tryd.prog.cellsOf 4 = 1 := by kernel_rfl

theorem bulk_list {H : Type} (l : List (DataW H)) : l.length ≤ Rows.uptoBulkAll l ∧ ∀ d ∈ l, Rows.uptoBulk d ≤ Rows.uptoBulkAll l := by
  induction l with
  | nil => exact ⟨Nat.zero_le _, fun s hs => by cases hs⟩
  | cons x r ih =>
    have e : Rows.uptoBulkAll (x :: r) = Rows.uptoBulk x + Rows.uptoBulkAll r := by simp [Rows.uptoBulkAll]
    have := bulk_pos x
    rw [e]
    refine ⟨by simp; omega, fun s hs => ?_⟩
    rcases List.mem_cons.1 hs with rfl | h
    · omega
    · have := ih.2 s h; omega

theorem list4 {α : Type} {l : List α} (h : l.length = 4) : ∃ c0 c1 c2 c3, l = [c0, c1, c2, c3] := by
  match l, h with
  | [c0, c1, c2, c3], _ => exact ⟨c0, c1, c2, c3, rfl⟩

/-- One call's record, read. -/
theorem op_open {H : Type} {enc : TypeId × Value → H} {W : World} {n : Nat} {a : Addr} {cs : List Value} {y : DataW H × List MemPlace} (h1 : W.cells? 0 a 4 = some cs) (h : DataW.trod enc Tryd.prog W 0 (fun _ => true) true n 54 cs = some y) :
    ∃ x : Opd, OpAt W a.block a.off x.kd x.sec x.s x.n ∧ a.spot = none ∧ x.s.size ≤ Rows.uptoBulk y.1 := by
  obtain ⟨_, hlen, hcell⟩ := World.cells?_some h1
  obtain ⟨v0, v1, v2, v3, rfl⟩ := list4 hlen
  obtain ⟨y0, y1, y2, y3, n', hxy, _, g0, g1, g2, g3⟩ := trod_struct4 Tryd.underlying54 h
  simp [cells3, cells4, cells9] at g0 g1 g2 g3
  obtain ⟨k, e0, _, _⟩ := DataW.trod_int Tryd.underlying3 g0
  obtain ⟨b, e1, _, _⟩ := DataW.trod_bool Tryd.underlying4 g1
  obtain ⟨s, e2, f2, _⟩ := DataW.trod_string Tryd.underlying9 g2
  obtain ⟨m, e3, _, _⟩ := DataW.trod_int Tryd.underlying3 g3
  simp only [List.cons.injEq, and_true] at e0 e1 e2 e3
  subst e0 e1 e2 e3
  have c0 := hcell 0 (by omega)
  have c1 := hcell 1 (by omega)
  have c2 := hcell 2 (by omega)
  have c3 := hcell 3 (by omega)
  obtain ⟨ab, ao, spot⟩ := a
  have hspot : spot = none := by simpa [Addr.add] using World.cell?_spot c0
  subst hspot
  rw [Addr.add_lit] at c0 c1 c2 c3
  refine ⟨⟨k, b, s, m⟩, ⟨c0, c1, c2, c3⟩, rfl, ?_⟩
  rw [hxy, f2]
  simp [Rows.uptoBulk, Rows.uptoBulkAll]
  omega

set_option maxRecDepth 100000 in
/-- The script, opened. -/
theorem ops_open {H : Type} {enc : TypeId × Value → H} {W : World} {n : Nat} {v : Value} {y : DataW H × List MemPlace} (h : DataW.trod enc Tryd.prog W 0 (fun _ => true) true n 46 [v] = some y) :
    ∃ aL cL L, v = .slice aL L.length cL ∧ ReadsO W aL L ∧ L.length ≤ Rows.uptoBulk y.1 ∧ ∀ x ∈ L, x.s.size ≤ Rows.uptoBulk y.1 := by
  rcases open_slice Tryd.underlying46 h with ⟨hcs, _⟩ | ⟨a, len, cap, m, n', D, Pl, hcs, _, hl, _, hmm, hy, hx⟩
  · simp only [List.cons.injEq, and_true] at hcs
    exact ⟨none, 0, [], hcs, fun k hk => by simp at hk, by simp, fun s hs => by cases hs⟩
  · simp only [List.cons.injEq, and_true] at hcs
    simp only [if_true] at hmm
    have hsp : 0 < len → a.spot = none := by
      intro h0
      obtain ⟨cs', h1, h2⟩ := hx 0 (by omega)
      rw [cells54] at h1
      obtain ⟨x, _, sp, _⟩ := op_open h1 h2
      simpa [Addr.add] using sp
    have each : ∀ i, i < len → ∃ x : Opd, OpAt W a.block (a.off + i * 4) x.kd x.sec x.s x.n ∧ a.spot = none ∧ x.s.size ≤ Rows.uptoBulk (D i) := by
      intro i hi
      obtain ⟨cs', h1, h2⟩ := hx i (by omega)
      rw [cells54] at h1
      obtain ⟨x, o, _, z⟩ := op_open h1 h2
      obtain ⟨ab, ao, spot⟩ := a
      have hs : spot = none := hsp (by omega)
      subst hs
      rw [Addr.add_lit] at o
      exact ⟨x, o, rfl, z⟩
    have hb := bulk_list (H := H) ((List.range len).map D)
    have hyb : Rows.uptoBulkAll ((List.range len).map D) ≤ Rows.uptoBulk y.1 := by rw [hy]; simp only [Rows.uptoBulk]; omega
    haveI : Inhabited Opd := ⟨⟨0, false, ⟨#[]⟩, 0⟩⟩
    obtain ⟨q, hq⟩ := choose_lt each
    refine ⟨some a, cap, (List.range len).map q, by simpa using hcs, fun k hk => ?_, ?_, fun x hx2 => ?_⟩
    · have hk' : k < len := by simpa using hk
      obtain ⟨ab, ao, spot⟩ := a
      have hsp : spot = none := (hq k hk').2.1
      subst hsp
      refine ⟨ab, ao, rfl, ?_⟩
      have := (hq k hk').1
      simpa using this
    · have := hb.1
      simp at this
      simp
      omega
    · obtain ⟨i, hi, rfl⟩ := List.mem_map.1 hx2
      have hi' := List.mem_range.1 hi
      have h1 := (hq i hi').2.2
      have h2 := hb.2 (D i) (List.mem_map_of_mem hi)
      omega

end Go.Proofs.YtnfdifkcchciaaaDoor.frame
