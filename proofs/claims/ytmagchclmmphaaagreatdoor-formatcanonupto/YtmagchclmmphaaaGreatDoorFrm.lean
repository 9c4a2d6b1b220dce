import Derived.Test.YtmagchclmmphaaaGreatDoorByt
import Derived.Test.YtmagchclmmphaaaGreatDoorSk
import Derived.Test.YtmagchclmmphaaaGreatDoorCards
import Derived.Test.YtmagchclmmphaaaGreatDoorTie
import Derived.ProofKit
import Derived.OpenShut
import Derived.ShutString
import Derived.SliceStrings
import Derived.Deep.DeepHandedRow
import Derived.Lib.LaidTab
import Derived.Lib.SmallJoins
import Derived.ChangeOld
import Derived.Lay
import Derived.LaidSub
namespace Go.Proofs.YtmagchclmmphaaaGreatDoor.frame
open Go.ChangeShapes Go.WideShapes Go.ChangeAt Go.RowKit Go.Joins

theorem own : ownKnob Tryz.prog.godebug = none := by kernel_rfl
theorem cells56 : Tryz.prog.cellsOf 63 = 1 := by kernel_rfl
theorem gTab : Tryz.prog.globalNamed "wordset/grammar.rows" = some 0 := by kernel_rfl
theorem gTabType : (Tryz.prog.globals[0]?).map (·.type) = some 124 := by kernel_rfl
theorem cells107 : Tryz.prog.cellsOf 123 = 6 := by kernel_rfl

theorem list6 {α : Type} {l : List α} (h : l.length = 6) : ∃ c0 c1 c2 c3 c4 c5, l = [c0, c1, c2, c3, c4, c5] := by
  match l, h with
  | [c0, c1, c2, c3, c4, c5], _ => exact ⟨c0, c1, c2, c3, c4, c5, rfl⟩

/-- A row of the table, as data. -/
def rowD {H : Type} (p : Nat) : DataW H := .agg [.lit (.int .u8 (blankOf p : Nat)), .lit (.int .u8 (feedOf p : Nat)), .lit (.int .u8 (nameOf p : Nat)), .lit (.string ((signsOf p).map UInt8.ofNat)), .lit (.string ((wordOf p).map UInt8.ofNat)), .lit (.int .u8 (pastOf p : Nat))]
set_option maxRecDepth 100000 in
theorem laid_rows {H : Type} : (Rows.laid_wordset_grammar_rows : DataW H) = .agg ((List.range 32).map rowD) := by kernel_rfl

set_option maxRecDepth 100000 in
/-- A row of the table, read. -/
theorem row_cells {H : Type} {enc : TypeId × Value → H} {w : World} {base : Nat} {sp : Nat → Bool} {held : Bool} {fuel : Nat} {l : List Value} {d : DataW H × List MemPlace} {p : Nat}
    (h : DataW.trod enc Tryz.prog w base sp held fuel 123 l = some d) (hd : d.1 = rowD p) : l = [.int .u8 (blankOf p : Nat), .int .u8 (feedOf p : Nat), .int .u8 (nameOf p : Nat), .string (strB (signsOf p)), .string (strB (wordOf p)), .int .u8 (pastOf p : Nat)] := by
  obtain ⟨xs, n, _, hx, hl, hlen, hf⟩ := DataW.trod_struct Tryz.underlying123 h
  rw [cells107] at hl
  obtain ⟨u0, u1, u2, u3, u4, u5, rfl⟩ := list6 hl
  obtain ⟨y0, y1, y2, y3, y4, y5, rfl⟩ := list6 hlen
  have h0 := hf 0 _ rfl
  have h1 := hf 1 _ rfl
  have h2 := hf 2 _ rfl
  have h3 := hf 3 _ rfl
  have h4 := hf 4 _ rfl
  have h5 := hf 5 _ rfl
  simp [cells56, cells9] at h0 h1 h2 h3 h4 h5
  obtain ⟨z0, e0, f0, _⟩ := DataW.trod_int Tryz.underlying63 h0
  obtain ⟨z1, e1, f1, _⟩ := DataW.trod_int Tryz.underlying63 h1
  obtain ⟨z2, e2, f2, _⟩ := DataW.trod_int Tryz.underlying63 h2
  obtain ⟨z3, e3, f3, _⟩ := DataW.trod_string Tryz.underlying9 h3
  obtain ⟨z4, e4, f4, _⟩ := DataW.trod_string Tryz.underlying9 h4
  obtain ⟨z5, e5, f5, _⟩ := DataW.trod_int Tryz.underlying63 h5
  simp only [List.cons.injEq, and_true] at e0 e1 e2 e3 e4 e5
  have hx1 : d.1 = _ := congrArg Prod.fst hx
  rw [hd] at hx1
  unfold rowD at hx1
  simp only [List.map_cons, List.map_nil, f0, f1, f2, f3, f4, f5, DataW.agg.injEq, List.cons.injEq, and_true, DataW.lit.injEq, Lit.int.injEq, Lit.string.injEq, true_and] at hx1
  obtain ⟨g0, g1, g2, g3, g4, g5⟩ := hx1
  have hs : ∀ (z : ByteArray) (l : List Nat), l.map UInt8.ofNat = z.data.toList → z = strB l := fun z l h => by
    cases z
    simp only [strB]
    congr 1
    simp at h
    rw [h]
  rw [e0, e1, e2, e3, e4, e5, hs z3 _ g3, hs z4 _ g4, ← g0, ← g1, ← g2, ← g5]

set_option maxRecDepth 100000 in
theorem rowsAt {W : World} (h : laidMetH Tryz.prog [("wordset/grammar.rows", Rows.laid_wordset_grammar_rows)] W) : RowsAt W := by
  have h' : laidMet Tryz.prog [("wordset/grammar.rows", Rows.laid_wordset_grammar_rows)] W := h
  obtain ⟨ps, ⟨g', t', cs, fuel, p, q, hg', ht', hvar, hd, _, _⟩, _⟩ := h'
  obtain rfl := Option.some.inj (gTab.symm.trans hg')
  obtain rfl := Option.some.inj (gTabType.symm.trans ht')
  obtain ⟨xs, m, _, hx, hl, hlen, hel⟩ := DataW.trod_array Tryz.underlying124 hd
  simp only [Prod.mk.injEq] at hx
  have hx1 := hx.1
  rw [laid_rows] at hx1
  simp only [DataW.agg.injEq] at hx1
  rw [cells107] at hel
  intro j hj
  have hj' : j < xs.length := by omega
  have h1 := hel j hj
  rw [List.getElem?_eq_getElem hj'] at h1
  have h2 : xs[j].1 = rowD j := by
    have := congrArg (fun l => l[j]?) hx1
    simp only [List.getElem?_map, List.getElem?_range hj, List.getElem?_eq_getElem hj', Option.map_some, Option.some.injEq] at this
    exact this.symm
  have hr := row_cells h1 h2
  have hc : ∀ c, c < 6 → W.cell? ⟨0, j * 6 + c, none⟩ = ((cs.toList.drop (j * 6)).take 6)[c]? := fun c hc => by
    rw [World.var?_cell gTab hvar (j * 6 + c), List.getElem?_take_of_lt hc, List.getElem?_drop, Array.getElem?_toList]
  rw [hr] at hc
  exact ⟨hc 0 (by omega), hc 1 (by omega), hc 2 (by omega), hc 3 (by omega), hc 4 (by omega), hc 5 (by omega)⟩
theorem heap_pos {W : World} (h : RowsAt W) : 0 < W.heap.size := World.block_lt_of_cell? W ⟨0, 0, none⟩ (h 0 (by decide)).1


set_option maxRecDepth 100000 in
/-- A text that came in, opened, with its bound. -/
theorem str_open {H : Type} {enc : TypeId × Value → H} {W : World} {base : Nat} {v : Value} {d : DataW H} {p : List MemPlace} (hv : Value.okWide Tryz.prog W .any base 9 v) (h : DataW.Trod enc Tryz.prog W 0 (fun _ => true) true 9 v d p) : ∃ s, v = .string s ∧ s.size ≤ Rows.uptoBulk d := by
  obtain ⟨fuel, hf⟩ := h
  obtain ⟨s, e, hd, _⟩ := DataW.trod_string Tryz.underlying9 hf
  obtain ⟨t, rfl⟩ : ∃ t, v = .string t := okWide_string Tryz.underlying9 hv
  simp [Value.cells] at e
  subst e
  refine ⟨t, rfl, ?_⟩
  have hd1 : d = .lit (.string t.data.toList) := congrArg Prod.fst hd
  rw [hd1]
  show t.size ≤ t.data.toList.length + 1
  rw [Array.length_toList]
  exact Nat.le_succ _

theorem gByt : Tryz.prog.globalNamed "wordset/names.nameBytes" = some 1 := by kernel_rfl
theorem gBytType : (Tryz.prog.globals[1]?).map (·.type) = some 139 := by kernel_rfl
theorem cells124 : Tryz.prog.cellsOf 138 = 2 := by kernel_rfl
theorem cells5 : Tryz.prog.cellsOf 5 = 1 := by kernel_rfl

theorem list2 {α : Type} {l : List α} (h : l.length = 2) : ∃ c0 c1, l = [c0, c1] := by
  match l, h with
  | [c0, c1], _ => exact ⟨c0, c1, rfl⟩
theorem list5 {α : Type} {l : List α} (h : l.length = 5) : ∃ c0 c1 c2 c3 c4, l = [c0, c1, c2, c3, c4] := by
  match l, h with
  | [c0, c1, c2, c3, c4], _ => exact ⟨c0, c1, c2, c3, c4, rfl⟩

set_option maxRecDepth 100000 in
/-- A row of the table, read. -/
theorem nrow_cells {H : Type} {enc : TypeId × Value → H} {w : World} {base : Nat} {sp : Nat → Bool} {held : Bool} {fuel : Nat} {l : List Value} {d : DataW H} {x y : Int} {p : List MemPlace}
    (h : DataW.trod enc Tryz.prog w base sp held fuel 138 l = some (d, p)) (hd : d = .agg [.lit (.int .u8 x), .lit (.int .u8 y)]) : l = [.int .u8 x, .int .u8 y] := by
  obtain ⟨xs, n, _, hx, hl, hlen, hf⟩ := DataW.trod_struct Tryz.underlying138 h
  rw [cells124] at hl
  obtain ⟨u0, u1, rfl⟩ := list2 hl
  obtain ⟨y0, y1, rfl⟩ := list2 hlen
  have h0 := hf 0 _ rfl
  have h1 := hf 1 _ rfl
  simp [cells5] at h0 h1
  obtain ⟨z0, e0, f0, _⟩ := DataW.trod_int Tryz.underlying5 h0
  obtain ⟨z1, e1, f1, _⟩ := DataW.trod_int Tryz.underlying5 h1
  simp only [List.cons.injEq, and_true] at e0 e1
  simp only [Prod.mk.injEq] at hx
  rw [hd, f0, f1] at hx
  have hx1 := hx.1
  simp at hx1
  rw [e0, e1, hx1.1, hx1.2]

theorem two_at {cs : Array Value} {i : Nat} {u v : Value} (h : (cs.toList.drop (i * 2)).take 2 = [u, v]) : cs[i * 2]? = some u ∧ cs[i * 2 + 1]? = some v := by
  have h0 : ((cs.toList.drop (i * 2)).take 2)[0]? = some u := by rw [h]; rfl
  have h1 : ((cs.toList.drop (i * 2)).take 2)[1]? = some v := by rw [h]; rfl
  rw [List.getElem?_take_of_lt (by omega), List.getElem?_drop, Array.getElem?_toList] at h0 h1
  exact ⟨by simpa using h0, h1⟩

set_option maxRecDepth 100000 in
theorem bytesAt {W : World} (h : laidMetH Tryz.prog [("wordset/names.nameBytes", Rows.laid_wordset_names_nameBytes)] W) : BytesAt W := by
  have h' : laidMet Tryz.prog [("wordset/names.nameBytes", Rows.laid_wordset_names_nameBytes)] W := h
  obtain ⟨ps, ⟨g', t', cs, fuel, p, q, hg', ht', hvar, hd, _, _⟩, _⟩ := h'
  obtain rfl := Option.some.inj (gByt.symm.trans hg')
  obtain rfl := Option.some.inj (gBytType.symm.trans ht')
  obtain ⟨xs, m, _, hx, hl, hlen, hel⟩ := DataW.trod_array Tryz.underlying139 hd
  obtain ⟨y0, y1, y2, y3, y4, rfl⟩ := list5 hlen
  simp only [Prod.mk.injEq] at hx
  have hx1 := hx.1
  unfold Rows.laid_wordset_names_nameBytes at hx1
  simp only [List.map_cons, List.map_nil, DataW.agg.injEq, List.cons.injEq, and_true] at hx1
  obtain ⟨e0, e1, e2, e3, e4⟩ := hx1
  rw [cells124] at hel
  have r0 := two_at (nrow_cells (hel 0 (by decide)) e0.symm)
  have r1 := two_at (nrow_cells (hel 1 (by decide)) e1.symm)
  have r2 := two_at (nrow_cells (hel 2 (by decide)) e2.symm)
  have r3 := two_at (nrow_cells (hel 3 (by decide)) e3.symm)
  have r4 := two_at (nrow_cells (hel 4 (by decide)) e4.symm)
  intro j hj
  rw [World.var?_cell gByt hvar j]
  match j, hj with
  | 0, _ => exact r0.1
  | 1, _ => exact r0.2
  | 2, _ => exact r1.1
  | 3, _ => exact r1.2
  | 4, _ => exact r2.1
  | 5, _ => exact r2.2
  | 6, _ => exact r3.1
  | 7, _ => exact r3.2
  | 8, _ => exact r4.1
  | 9, _ => exact r4.2
end Go.Proofs.YtmagchclmmphaaaGreatDoor.frame
