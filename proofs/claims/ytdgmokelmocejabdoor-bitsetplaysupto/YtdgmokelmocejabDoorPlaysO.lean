import Derived.Test.YtdgmokelmocejabDoorPlD
import Derived.Test.YtdgmokelmocejabDoorFrame
import Derived.Deep.Slices
namespace Go.Proofs.YtdgmokelmocejabDoor.frame
open Go.ChangeShapes Go.WideShapes Go.ChangeAt Go.RowKit Go.Joins Go.Deep

theorem cells53 : Tryd.prog.cellsOf 53 = 7 := by kernel_rfl
theorem cells22 : Tryd.prog.cellsOf 22 = 1 := by kernel_rfl
theorem cells9 : Tryd.prog.cellsOf 9 = 1 := by kernel_rfl
theorem bulk_pos {H : Type} (d : DataW H) : 0 < Rows.uptoBulk d := by
  cases d
  case lit l => cases l <;> simp [Rows.uptoBulk]
  all_goals simp [Rows.uptoBulk]
theorem bulk_list {H : Type} (l : List (DataW H)) : l.length ≤ Rows.uptoBulkAll l ∧ ∀ d ∈ l, Rows.uptoBulk d ≤ Rows.uptoBulkAll l := by
  induction l with
  | nil => exact ⟨Nat.zero_le _, fun s hs => by cases hs⟩
  | cons x r ih =>
    have e : Rows.uptoBulkAll (x :: r) = Rows.uptoBulk x + Rows.uptoBulkAll r := by simp [Rows.uptoBulkAll]
    have := bulk_pos x
    rw [e]
    refine ⟨by simp; omega, fun s hs => ?_⟩
    rcases List.mem_cons.1 hs with rfl | h
    · omega
    · have := ih.2 s h; omega
theorem ints_openB {H : Type} {enc : TypeId × Value → H} {W : World} {n : Nat} {v : Value} {y : DataW H × List MemPlace} (h : DataW.trod enc Tryd.prog W 0 (fun _ => true) true n 22 [v] = some y) :
    ∃ (a : Option Addr) (l : List Int) (c : Nat), v = .slice a l.length c ∧ ReadsI W a l ∧ l.length ≤ Rows.uptoBulk y.1 := by
  obtain ⟨a, l, c, rfl, hr, _⟩ := ints_open h
  refine ⟨a, l, c, rfl, hr, ?_⟩
  rcases open_slice Tryd.underlying22 h with ⟨hcs, _⟩ | ⟨a', len, cap, m, n', D, Pl, hcs, _, hl, _, hmm, hy, hx⟩
  · have hl0 : l.length = 0 := by simp at hcs; rw [hcs.2.1]; rfl
    omega
  · simp at hcs
    have hb := bulk_list (H := H) ((List.range len).map D)
    have hyb : Rows.uptoBulkAll ((List.range len).map D) ≤ Rows.uptoBulk y.1 := by rw [hy]; simp only [Rows.uptoBulk]; omega
    have h1 := hb.1
    simp at h1
    omega
theorem list7 {α : Type} {l : List α} (h : l.length = 7) : ∃ c0 c1 c2 c3 c4 c5 c6, l = [c0, c1, c2, c3, c4, c5, c6] := by
  match l, h with
  | [c0, c1, c2, c3, c4, c5, c6], _ => exact ⟨c0, c1, c2, c3, c4, c5, c6, rfl⟩
theorem trod_struct7 {H : Type} {enc : TypeId × Value → H} {P : Program} {w : World} {base : Nat} {spare : Nat → Bool} {held : Bool} {t : TypeId} {f0 f1 f2 f3 f4 f5 f6 : Field} {fuel : Nat} {cs : List Value} {x : DataW H × List MemPlace} (ht : P.underlying t = some (.struct #[f0, f1, f2, f3, f4, f5, f6])) (h : DataW.trod enc P w base spare held fuel t cs = some x) :
    ∃ y0 y1 y2 y3 y4 y5 y6 n, x.1 = .agg [y0.1, y1.1, y2.1, y3.1, y4.1, y5.1, y6.1] ∧ DataW.trod enc P w base spare held n f0.type ((cs.drop f0.offset).take (P.cellsOf f0.type)) = some y0 ∧
      DataW.trod enc P w base spare held n f1.type ((cs.drop f1.offset).take (P.cellsOf f1.type)) = some y1 ∧ DataW.trod enc P w base spare held n f2.type ((cs.drop f2.offset).take (P.cellsOf f2.type)) = some y2 ∧
      DataW.trod enc P w base spare held n f3.type ((cs.drop f3.offset).take (P.cellsOf f3.type)) = some y3 ∧ DataW.trod enc P w base spare held n f4.type ((cs.drop f4.offset).take (P.cellsOf f4.type)) = some y4 ∧
      DataW.trod enc P w base spare held n f5.type ((cs.drop f5.offset).take (P.cellsOf f5.type)) = some y5 ∧ DataW.trod enc P w base spare held n f6.type ((cs.drop f6.offset).take (P.cellsOf f6.type)) = some y6 := by
  obtain ⟨xs, n, _, rfl, hl, hlen, hf⟩ := DataW.trod_struct ht h
  match xs, hlen with
  | [y0, y1, y2, y3, y4, y5, y6], _ => exact ⟨y0, y1, y2, y3, y4, y5, y6, n, by simp, by simpa using hf 0 f0 rfl, by simpa using hf 1 f1 rfl, by simpa using hf 2 f2 rfl, by simpa using hf 3 f3 rfl, by simpa using hf 4 f4 rfl, by simpa using hf 5 f5 rfl, by simpa using hf 6 f6 rfl⟩

/-- One call's record, read. -/
theorem stp_open {H : Type} {enc : TypeId × Value → H} {W : World} {n : Nat} {a : Addr} {cs : List Value} {y : DataW H × List MemPlace} (h1 : W.cells? 0 a 7 = some cs) (h : DataW.trod enc Tryd.prog W 0 (fun _ => true) true n 53 cs = some y) (hk : Rows.uptoBulk y.1 ≤ 1048576) :
    ∃ x : Stp, StAt W a.block a.off x ∧ a.spot = none := by
  obtain ⟨_, hlen, hcell⟩ := World.cells?_some h1
  obtain ⟨v0, v1, v2, v3, v4, v5, v6, rfl⟩ := list7 hlen
  obtain ⟨y0, y1, y2, y3, y4, y5, y6, n', hxy, g0, g1, g2, g3, g4, g5, g6⟩ := trod_struct7 Tryd.underlying53 h
  simp [cells3, cells22, cells9] at g0 g1 g2 g3 g4 g5 g6
  obtain ⟨k0, e0, _, _⟩ := DataW.trod_int Tryd.underlying3 g0
  obtain ⟨k1, e1, _, _⟩ := DataW.trod_int Tryd.underlying3 g1
  obtain ⟨k2, e2, _, _⟩ := DataW.trod_int Tryd.underlying3 g2
  obtain ⟨k3, e3, _, _⟩ := DataW.trod_int Tryd.underlying3 g3
  obtain ⟨k4, e4, _, _⟩ := DataW.trod_int Tryd.underlying3 g4
  obtain ⟨al, l, cl, e5, rl, bl⟩ := ints_openB g5
  obtain ⟨s, e6, _, _⟩ := DataW.trod_string Tryd.underlying9 g6
  simp only [List.cons.injEq, and_true] at e0 e1 e2 e3 e4 e6
  subst e0 e1 e2 e3 e4 e5 e6
  have c0 := hcell 0 (by omega)
  have c1 := hcell 1 (by omega)
  have c2 := hcell 2 (by omega)
  have c3 := hcell 3 (by omega)
  have c4 := hcell 4 (by omega)
  have c5 := hcell 5 (by omega)
  have c6 := hcell 6 (by omega)
  obtain ⟨ab, ao, spot⟩ := a
  have hspot : spot = none := by simpa [Addr.add] using World.cell?_spot c0
  subst hspot
  rw [Addr.add_lit] at c0 c1 c2 c3 c4 c5 c6
  refine ⟨⟨k0, k1, k2, k3, k4, al, l, cl, s⟩, ⟨c0, c1, c2, c3, c4, c5, c6, rl, ?_⟩, rfl⟩
  rw [hxy] at hk
  simp [Rows.uptoBulk, Rows.uptoBulkAll] at hk
  show l.length ≤ _
  omega

set_option maxRecDepth 100000 in
/-- The script, opened. -/
theorem script_open {H : Type} {enc : TypeId × Value → H} {W : World} {n : Nat} {v : Value} {y : DataW H × List MemPlace} (h : DataW.trod enc Tryd.prog W 0 (fun _ => true) true n 38 [v] = some y) (hk : Rows.uptoBulk y.1 ≤ 1048576) :
    ∃ aL cL L, v = .slice aL L.length cL ∧ ReadsS W aL L ∧ L.length ≤ 1048576 := by
  rcases open_slice Tryd.underlying38 h with ⟨hcs, _⟩ | ⟨a, len, cap, m, n', D, Pl, hcs, _, hl, _, hmm, hy, hx⟩
  · simp only [List.cons.injEq, and_true] at hcs
    exact ⟨none, 0, [], hcs, fun k hk => by simp at hk, by simp⟩
  · simp only [List.cons.injEq, and_true] at hcs
    simp only [if_true] at hmm
    have hb := bulk_list (H := H) ((List.range len).map D)
    have hyb : Rows.uptoBulkAll ((List.range len).map D) ≤ Rows.uptoBulk y.1 := by rw [hy]; simp only [Rows.uptoBulk]; omega
    have hD : ∀ i, i < len → Rows.uptoBulk (D i) ≤ 1048576 := fun i hi => by
      have := hb.2 (D i) (List.mem_map_of_mem (List.mem_range.2 hi))
      omega
    have hsp : 0 < len → a.spot = none := by
      intro h0
      obtain ⟨cs', h1, h2⟩ := hx 0 (by omega)
      rw [cells53] at h1
      obtain ⟨x, _, sp⟩ := stp_open h1 h2 (hD 0 h0)
      simpa [Addr.add] using sp
    have each : ∀ i, i < len → ∃ x : Stp, StAt W a.block (a.off + i * 7) x ∧ a.spot = none := by
      intro i hi
      obtain ⟨cs', h1, h2⟩ := hx i (by omega)
      rw [cells53] at h1
      obtain ⟨x, o, _⟩ := stp_open h1 h2 (hD i hi)
      obtain ⟨ab, ao, spot⟩ := a
      have hs : spot = none := hsp (by omega)
      subst hs
      rw [Addr.add_lit] at o
      exact ⟨x, o, rfl⟩
    haveI : Inhabited Stp := ⟨⟨0, 0, 0, 0, 0, none, [], 0, ⟨#[]⟩⟩⟩
    obtain ⟨q, hq⟩ := choose_lt each
    refine ⟨some a, cap, (List.range len).map q, by simpa using hcs, fun k hk => ?_, ?_⟩
    · have hk' : k < len := by simpa using hk
      obtain ⟨ab, ao, spot⟩ := a
      have hsp : spot = none := (hq k hk').2
      subst hsp
      refine ⟨ab, ao, rfl, ?_⟩
      have := (hq k hk').1
      simpa using this
    · have := hb.1
      simp at this
      simp
      omega
end Go.Proofs.YtdgmokelmocejabDoor.frame
