import Derived.Test.YtmagchclmmphaabGreatDoorBV
import Derived.Test.YtmagchclmmphaabGreatDoorSR
import Derived.Test.YtmagchclmmphaabGreatDoorCards
import Derived.Test.YtmagchclmmphaabGreatDoorTie
import Derived.ProofKit
import Derived.OpenShut
import Derived.ShutString
import Derived.SliceStrings
import Derived.Deep.DeepHandedRow
import Derived.Lib.LaidTab
import Derived.Lib.SmallJoins
import Derived.ChangeOld
import Derived.Lay
import Derived.LaidSub
import Derived.Test.YtmagchclmmphaabGreatDoorPO
import Derived.Deep.Slices
import Derived.Test.YtmagchclmmphaabGreatDoorEG
import Derived.Test.YtmagchclmmphaabGreatDoorRJ
namespace Go.Proofs.YtmagchclmmphaabGreatDoor.frame
open Go.ChangeShapes Go.WideShapes Go.ChangeAt Go.RowKit Go.Joins

theorem own : ownKnob Tryz.prog.godebug = none := by kernel_rfl
theorem cells56 : Tryz.prog.cellsOf 105 = 1 := by kernel_rfl
theorem gTab : Tryz.prog.globalNamed "wordset/grammar.rows" = some 1 := by kernel_rfl
theorem gTabType : (Tryz.prog.globals[1]?).map (·.type) = some 168 := by kernel_rfl
theorem cells107 : Tryz.prog.cellsOf 167 = 6 := by kernel_rfl

theorem list6 {α : Type} {l : List α} (h : l.length = 6) : ∃ c0 c1 c2 c3 c4 c5, l = [c0, c1, c2, c3, c4, c5] := by
  match l, h with
  | [c0, c1, c2, c3, c4, c5], _ => exact ⟨c0, c1, c2, c3, c4, c5, rfl⟩

/-- A row of the table, as data. -/
def rowD {H : Type} (p : Nat) : DataW H := .agg [.lit (.int .u8 (blankOf p : Nat)), .lit (.int .u8 (feedOf p : Nat)), .lit (.int .u8 (nameOf p : Nat)), .lit (.string ((signsOf p).map UInt8.ofNat)), .lit (.string ((wordOf p).map UInt8.ofNat)), .lit (.int .u8 (pastOf p : Nat))]
set_option maxRecDepth 100000 in
theorem laid_rows {H : Type} : (Rows.laid_wordset_grammar_rows : DataW H) = .agg ((List.range 32).map rowD) := by kernel_rfl

set_option maxRecDepth 100000 in
/-- A row of the table, read. -/
theorem row_cells {H : Type} {enc : TypeId × Value → H} {w : World} {base : Nat} {sp : Nat → Bool} {held : Bool} {fuel : Nat} {l : List Value} {d : DataW H × List MemPlace} {p : Nat}
    (h : DataW.trod enc Tryz.prog w base sp held fuel 167 l = some d) (hd : d.1 = rowD p) : l = [.int .u8 (blankOf p : Nat), .int .u8 (feedOf p : Nat), .int .u8 (nameOf p : Nat), .string (strB (signsOf p)), .string (strB (wordOf p)), .int .u8 (pastOf p : Nat)] := by
  obtain ⟨xs, n, _, hx, hl, hlen, hf⟩ := DataW.trod_struct Tryz.underlying167 h
  rw [cells107] at hl
  obtain ⟨u0, u1, u2, u3, u4, u5, rfl⟩ := list6 hl
  obtain ⟨y0, y1, y2, y3, y4, y5, rfl⟩ := list6 hlen
  have h0 := hf 0 _ rfl
  have h1 := hf 1 _ rfl
  have h2 := hf 2 _ rfl
  have h3 := hf 3 _ rfl
  have h4 := hf 4 _ rfl
  have h5 := hf 5 _ rfl
  simp [cells56, cells9] at h0 h1 h2 h3 h4 h5
  obtain ⟨z0, e0, f0, _⟩ := DataW.trod_int Tryz.underlying105 h0
  obtain ⟨z1, e1, f1, _⟩ := DataW.trod_int Tryz.underlying105 h1
  obtain ⟨z2, e2, f2, _⟩ := DataW.trod_int Tryz.underlying105 h2
  obtain ⟨z3, e3, f3, _⟩ := DataW.trod_string Tryz.underlying9 h3
  obtain ⟨z4, e4, f4, _⟩ := DataW.trod_string Tryz.underlying9 h4
  obtain ⟨z5, e5, f5, _⟩ := DataW.trod_int Tryz.underlying105 h5
  simp only [List.cons.injEq, and_true] at e0 e1 e2 e3 e4 e5
  have hx1 : d.1 = _ := congrArg Prod.fst hx
  rw [hd] at hx1
  unfold rowD at hx1
  simp only [List.map_cons, List.map_nil, f0, f1, f2, f3, f4, f5, DataW.agg.injEq, List.cons.injEq, and_true, DataW.lit.injEq, Lit.int.injEq, Lit.string.injEq, true_and] at hx1
  obtain ⟨g0, g1, g2, g3, g4, g5⟩ := hx1
  have hs : ∀ (z : ByteArray) (l : List Nat), l.map UInt8.ofNat = z.data.toList → z = strB l := fun z l h => by
    cases z
    simp only [strB]
    congr 1
    simp at h
    rw [h]
  rw [e0, e1, e2, e3, e4, e5, hs z3 _ g3, hs z4 _ g4, ← g0, ← g1, ← g2, ← g5]

set_option maxRecDepth 100000 in
theorem rowsAt {W : World} (h : laidMetH Tryz.prog [("wordset/grammar.rows", Rows.laid_wordset_grammar_rows)] W) : RowsAt W := by
  have h' : laidMet Tryz.prog [("wordset/grammar.rows", Rows.laid_wordset_grammar_rows)] W := h
  obtain ⟨ps, ⟨g', t', cs, fuel, p, q, hg', ht', hvar, hd, _, _⟩, _⟩ := h'
  obtain rfl := Option.some.inj (gTab.symm.trans hg')
  obtain rfl := Option.some.inj (gTabType.symm.trans ht')
  obtain ⟨xs, m, _, hx, hl, hlen, hel⟩ := DataW.trod_array Tryz.underlying168 hd
  simp only [Prod.mk.injEq] at hx
  have hx1 := hx.1
  rw [laid_rows] at hx1
  simp only [DataW.agg.injEq] at hx1
  rw [cells107] at hel
  intro j hj
  have hj' : j < xs.length := by omega
  have h1 := hel j hj
  rw [List.getElem?_eq_getElem hj'] at h1
  have h2 : xs[j].1 = rowD j := by
    have := congrArg (fun l => l[j]?) hx1
    simp only [List.getElem?_map, List.getElem?_range hj, List.getElem?_eq_getElem hj', Option.map_some, Option.some.injEq] at this
    exact this.symm
  have hr := row_cells h1 h2
  have hc : ∀ c, c < 6 → W.cell? ⟨1, j * 6 + c, none⟩ = ((cs.toList.drop (j * 6)).take 6)[c]? := fun c hc => by
    rw [World.var?_cell gTab hvar (j * 6 + c), List.getElem?_take_of_lt hc, List.getElem?_drop, Array.getElem?_toList]
  rw [hr] at hc
  exact ⟨hc 0 (by omega), hc 1 (by omega), hc 2 (by omega), hc 3 (by omega), hc 4 (by omega), hc 5 (by omega)⟩
theorem heap_pos {W : World} (h : RowsAt W) : 1 < W.heap.size := World.block_lt_of_cell? W ⟨1, 0, none⟩ (h 0 (by decide)).1


set_option maxRecDepth 100000 in
/-- A text that came in, opened, with its bound. -/
theorem str_open {H : Type} {enc : TypeId × Value → H} {W : World} {base : Nat} {v : Value} {d : DataW H} {p : List MemPlace} (hv : Value.okWide Tryz.prog W .any base 9 v) (h : DataW.Trod enc Tryz.prog W 0 (fun _ => true) true 9 v d p) : ∃ s, v = .string s ∧ s.size ≤ Rows.uptoBulk d := by
  obtain ⟨fuel, hf⟩ := h
  obtain ⟨s, e, hd, _⟩ := DataW.trod_string Tryz.underlying9 hf
  obtain ⟨t, rfl⟩ : ∃ t, v = .string t := okWide_string Tryz.underlying9 hv
  simp [Value.cells] at e
  subst e
  refine ⟨t, rfl, ?_⟩
  have hd1 : d = .lit (.string t.data.toList) := congrArg Prod.fst hd
  rw [hd1]
  show t.size ≤ t.data.toList.length + 1
  rw [Array.length_toList]
  exact Nat.le_succ _

theorem gByt : Tryz.prog.globalNamed "wordset/names.nameBytes" = some 0 := by kernel_rfl
theorem gBytType : (Tryz.prog.globals[0]?).map (·.type) = some 132 := by kernel_rfl
theorem cells124 : Tryz.prog.cellsOf 131 = 2 := by kernel_rfl
theorem cells5 : Tryz.prog.cellsOf 5 = 1 := by kernel_rfl

theorem list2 {α : Type} {l : List α} (h : l.length = 2) : ∃ c0 c1, l = [c0, c1] := by
  match l, h with
  | [c0, c1], _ => exact ⟨c0, c1, rfl⟩
theorem list5 {α : Type} {l : List α} (h : l.length = 5) : ∃ c0 c1 c2 c3 c4, l = [c0, c1, c2, c3, c4] := by
  match l, h with
  | [c0, c1, c2, c3, c4], _ => exact ⟨c0, c1, c2, c3, c4, rfl⟩

set_option maxRecDepth 100000 in
/-- A row of the table, read. -/
theorem nrow_cells {H : Type} {enc : TypeId × Value → H} {w : World} {base : Nat} {sp : Nat → Bool} {held : Bool} {fuel : Nat} {l : List Value} {d : DataW H} {x y : Int} {p : List MemPlace}
    (h : DataW.trod enc Tryz.prog w base sp held fuel 131 l = some (d, p)) (hd : d = .agg [.lit (.int .u8 x), .lit (.int .u8 y)]) : l = [.int .u8 x, .int .u8 y] := by
  obtain ⟨xs, n, _, hx, hl, hlen, hf⟩ := DataW.trod_struct Tryz.underlying131 h
  rw [cells124] at hl
  obtain ⟨u0, u1, rfl⟩ := list2 hl
  obtain ⟨y0, y1, rfl⟩ := list2 hlen
  have h0 := hf 0 _ rfl
  have h1 := hf 1 _ rfl
  simp [cells5] at h0 h1
  obtain ⟨z0, e0, f0, _⟩ := DataW.trod_int Tryz.underlying5 h0
  obtain ⟨z1, e1, f1, _⟩ := DataW.trod_int Tryz.underlying5 h1
  simp only [List.cons.injEq, and_true] at e0 e1
  simp only [Prod.mk.injEq] at hx
  rw [hd, f0, f1] at hx
  have hx1 := hx.1
  simp at hx1
  rw [e0, e1, hx1.1, hx1.2]

theorem two_at {cs : Array Value} {i : Nat} {u v : Value} (h : (cs.toList.drop (i * 2)).take 2 = [u, v]) : cs[i * 2]? = some u ∧ cs[i * 2 + 1]? = some v := by
  have h0 : ((cs.toList.drop (i * 2)).take 2)[0]? = some u := by rw [h]; rfl
  have h1 : ((cs.toList.drop (i * 2)).take 2)[1]? = some v := by rw [h]; rfl
  rw [List.getElem?_take_of_lt (by omega), List.getElem?_drop, Array.getElem?_toList] at h0 h1
  exact ⟨by simpa using h0, h1⟩

set_option maxRecDepth 100000 in
theorem bytesAt {W : World} (h : laidMetH Tryz.prog [("wordset/names.nameBytes", Rows.laid_wordset_names_nameBytes)] W) : BytesAt W := by
  have h' : laidMet Tryz.prog [("wordset/names.nameBytes", Rows.laid_wordset_names_nameBytes)] W := h
  obtain ⟨ps, ⟨g', t', cs, fuel, p, q, hg', ht', hvar, hd, _, _⟩, _⟩ := h'
  obtain rfl := Option.some.inj (gByt.symm.trans hg')
  obtain rfl := Option.some.inj (gBytType.symm.trans ht')
  obtain ⟨xs, m, _, hx, hl, hlen, hel⟩ := DataW.trod_array Tryz.underlying132 hd
  obtain ⟨y0, y1, y2, y3, y4, rfl⟩ := list5 hlen
  simp only [Prod.mk.injEq] at hx
  have hx1 := hx.1
  unfold Rows.laid_wordset_names_nameBytes at hx1
  simp only [List.map_cons, List.map_nil, DataW.agg.injEq, List.cons.injEq, and_true] at hx1
  obtain ⟨e0, e1, e2, e3, e4⟩ := hx1
  rw [cells124] at hel
  have r0 := two_at (nrow_cells (hel 0 (by decide)) e0.symm)
  have r1 := two_at (nrow_cells (hel 1 (by decide)) e1.symm)
  have r2 := two_at (nrow_cells (hel 2 (by decide)) e2.symm)
  have r3 := two_at (nrow_cells (hel 3 (by decide)) e3.symm)
  have r4 := two_at (nrow_cells (hel 4 (by decide)) e4.symm)
  intro j hj
  rw [World.var?_cell gByt hvar j]
  match j, hj with
  | 0, _ => exact r0.1
  | 1, _ => exact r0.2
  | 2, _ => exact r1.1
  | 3, _ => exact r1.2
  | 4, _ => exact r2.1
  | 5, _ => exact r2.2
  | 6, _ => exact r3.1
  | 7, _ => exact r3.2
  | 8, _ => exact r4.1
  | 9, _ => exact r4.2
end Go.Proofs.YtmagchclmmphaabGreatDoor.frame
namespace Go.Proofs.YtmagchclmmphaabGreatDoor.frame
open Go.ChangeShapes Go.WideShapes Go.ChangeAt Go.RowKit Go.Joins Go.Deep

theorem cells41 : Tryz.prog.cellsOf 66 = 2 := by kernel_rfl
theorem cells50 : Tryz.prog.cellsOf 68 = 3 := by kernel_rfl
theorem cells26 : Tryz.prog.cellsOf 32 = 5 := by kernel_rfl
theorem cells22 : Tryz.prog.cellsOf 29 = 1 := by kernel_rfl
theorem cells23 : Tryz.prog.cellsOf 26 = 1 := by kernel_rfl
theorem cells24 : Tryz.prog.cellsOf 30 = 1 := by kernel_rfl
theorem cells3 : Tryz.prog.cellsOf 3 = 1 := by kernel_rfl
theorem bulk_pos {H : Type} (d : DataW H) : 0 < Rows.uptoBulk d := by
  cases d
  case lit l => cases l <;> simp [Rows.uptoBulk]
  all_goals simp [Rows.uptoBulk]
theorem bulk_list {H : Type} (l : List (DataW H)) : l.length ≤ Rows.uptoBulkAll l ∧ ∀ d ∈ l, Rows.uptoBulk d ≤ Rows.uptoBulkAll l := by
  induction l with
  | nil => exact ⟨Nat.zero_le _, fun s hs => by cases hs⟩
  | cons x r ih =>
    have e : Rows.uptoBulkAll (x :: r) = Rows.uptoBulk x + Rows.uptoBulkAll r := by simp [Rows.uptoBulkAll]
    have := bulk_pos x
    rw [e]
    refine ⟨by simp; omega, fun s hs => ?_⟩
    rcases List.mem_cons.1 hs with rfl | h
    · omega
    · have := ih.2 s h; omega
theorem list1 {α : Type} {l : List α} (h : l.length = 1) : ∃ c0, l = [c0] := by
  match l, h with
  | [c0], _ => exact ⟨c0, rfl⟩
theorem list3 {α : Type} {l : List α} (h : l.length = 3) : ∃ c0 c1 c2, l = [c0, c1, c2] := by
  match l, h with
  | [c0, c1, c2], _ => exact ⟨c0, c1, c2, rfl⟩

/-- An item of a list, read: a text, a symbol, a rule. -/
theorem txt_item {H : Type} {enc : TypeId × Value → H} {W : World} {n : Nat} {a : Addr} {cs : List Value} {y : DataW H × List MemPlace} (h1 : W.cells? 0 a 1 = some cs) (h : DataW.trod enc Tryz.prog W 0 (fun _ => true) true n 9 cs = some y) :
    ∃ x : ByteArray, W.cell? ⟨a.block, a.off, none⟩ = some (.string x) ∧ a.spot = none ∧ x.size ≤ Rows.uptoBulk y.1 := by
  obtain ⟨_, hlen, hcell⟩ := World.cells?_some h1
  obtain ⟨v0, rfl⟩ := list1 hlen
  obtain ⟨s, e0, f0, _⟩ := DataW.trod_string Tryz.underlying9 h
  simp only [List.cons.injEq, and_true] at e0
  subst e0
  have c0 := hcell 0 (by omega)
  obtain ⟨ab, ao, spot⟩ := a
  have hspot : spot = none := by simpa [Addr.add] using World.cell?_spot c0
  subst hspot
  rw [Addr.add_lit] at c0
  refine ⟨s, c0, rfl, ?_⟩
  rw [f0]
  simp [Rows.uptoBulk]
theorem op_item {H : Type} {enc : TypeId × Value → H} {W : World} {n : Nat} {a : Addr} {cs : List Value} {y : DataW H × List MemPlace} (h1 : W.cells? 0 a 2 = some cs) (h : DataW.trod enc Tryz.prog W 0 (fun _ => true) true n 66 cs = some y) :
    ∃ x : OpI, (W.cell? ⟨a.block, a.off, none⟩ = some (.string x.1) ∧ W.cell? ⟨a.block, a.off + 1, none⟩ = some (.int .i64 x.2)) ∧ a.spot = none ∧ x.1.size ≤ Rows.uptoBulk y.1 := by
  obtain ⟨_, hlen, hcell⟩ := World.cells?_some h1
  obtain ⟨v0, v1, rfl⟩ := list2 hlen
  obtain ⟨xs, n', _, hx, hl, hlen2, hfl⟩ := DataW.trod_struct Tryz.underlying66 h
  obtain ⟨y0, y1, rfl⟩ := list2 hlen2
  have g0 := hfl 0 _ rfl
  have g1 := hfl 1 _ rfl
  simp [cells9, cells3] at g0 g1
  obtain ⟨s, e0, f0, _⟩ := DataW.trod_string Tryz.underlying9 g0
  obtain ⟨k, e1, _, _⟩ := DataW.trod_int Tryz.underlying3 g1
  simp only [List.cons.injEq, and_true] at e0 e1
  subst e0 e1
  have c0 := hcell 0 (by omega)
  have c1 := hcell 1 (by omega)
  obtain ⟨ab, ao, spot⟩ := a
  have hspot : spot = none := by simpa [Addr.add] using World.cell?_spot c0
  subst hspot
  rw [Addr.add_lit] at c0 c1
  refine ⟨(s, k), ⟨c0, c1⟩, rfl, ?_⟩
  rw [hx]
  simp [Rows.uptoBulk, Rows.uptoBulkAll, f0]
  omega
theorem ru_item {H : Type} {enc : TypeId × Value → H} {W : World} {n : Nat} {a : Addr} {cs : List Value} {y : DataW H × List MemPlace} (h1 : W.cells? 0 a 3 = some cs) (h : DataW.trod enc Tryz.prog W 0 (fun _ => true) true n 68 cs = some y) :
    ∃ x : RuT, (W.cell? ⟨a.block, a.off, none⟩ = some (.string x.1) ∧ W.cell? ⟨a.block, a.off + 1, none⟩ = some (.string x.2.1) ∧ W.cell? ⟨a.block, a.off + 2, none⟩ = some (.string x.2.2)) ∧ a.spot = none ∧ (x.1.size ≤ Rows.uptoBulk y.1 ∧ x.2.1.size ≤ Rows.uptoBulk y.1 ∧ x.2.2.size ≤ Rows.uptoBulk y.1) := by
  obtain ⟨_, hlen, hcell⟩ := World.cells?_some h1
  obtain ⟨v0, v1, v2, rfl⟩ := list3 hlen
  obtain ⟨xs, n', _, hx, hl, hlen2, hfl⟩ := DataW.trod_struct Tryz.underlying68 h
  obtain ⟨y0, y1, y2, rfl⟩ := list3 hlen2
  have g0 := hfl 0 _ rfl
  have g1 := hfl 1 _ rfl
  have g2 := hfl 2 _ rfl
  simp [cells9] at g0 g1 g2
  obtain ⟨s, e0, f0, _⟩ := DataW.trod_string Tryz.underlying9 g0
  obtain ⟨t, e1, f1, _⟩ := DataW.trod_string Tryz.underlying9 g1
  obtain ⟨u, e2, f2, _⟩ := DataW.trod_string Tryz.underlying9 g2
  simp only [List.cons.injEq, and_true] at e0 e1 e2
  subst e0 e1 e2
  have c0 := hcell 0 (by omega)
  have c1 := hcell 1 (by omega)
  have c2 := hcell 2 (by omega)
  obtain ⟨ab, ao, spot⟩ := a
  have hspot : spot = none := by simpa [Addr.add] using World.cell?_spot c0
  subst hspot
  rw [Addr.add_lit] at c0 c1 c2
  refine ⟨(s, t, u), ⟨c0, c1, c2⟩, rfl, ?_⟩
  rw [hx]
  have hb0 : Rows.uptoBulk y0.1 = s.size + 1 := by rw [f0]; simp [Rows.uptoBulk]
  have hb1 : Rows.uptoBulk y1.1 = t.size + 1 := by rw [f1]; simp [Rows.uptoBulk]
  have hb2 : Rows.uptoBulk y2.1 = u.size + 1 := by rw [f2]; simp [Rows.uptoBulk]
  simp only [List.map_cons, List.map_nil, Rows.uptoBulk, Rows.uptoBulkAll]
  exact ⟨by omega, by omega, by omega⟩
set_option maxRecDepth 100000 in
/-- A list that came in, opened. -/
theorem list_open {H : Type} {enc : TypeId × Value → H} {W : World} {n : Nat} {v : Value} {y : DataW H × List MemPlace} {T e sz : Nat} {α : Type} [Inhabited α] (At : Nat → Nat → α → Prop) (Z : α → Nat → Prop) (hZ : ∀ x a b, a ≤ b → Z x a → Z x b)
    (hT : Tryz.prog.underlying T = some (.slice e)) (hc : Tryz.prog.cellsOf e = sz)
    (item : ∀ {n' : Nat} {a : Addr} {cs : List Value} {z : DataW H × List MemPlace}, W.cells? 0 a sz = some cs → DataW.trod enc Tryz.prog W 0 (fun _ => true) true n' e cs = some z → ∃ x : α, At a.block a.off x ∧ a.spot = none ∧ Z x (Rows.uptoBulk z.1))
    (h : DataW.trod enc Tryz.prog W 0 (fun _ => true) true n T [v] = some y) :
    ∃ aL cL, ∃ L : List α, v = .slice aL L.length cL ∧ (∀ (k : Nat) (hk : k < L.length), ∃ g o, aL = some ⟨g, o, none⟩ ∧ At g (o + k * sz) L[k]) ∧ L.length ≤ Rows.uptoBulk y.1 ∧ ∀ x ∈ L, Z x (Rows.uptoBulk y.1) := by
  rcases open_slice hT h with ⟨hcs, _⟩ | ⟨a, len, cap, m, n', D, Pl, hcs, _, hl, _, hmm, hy, hx⟩
  · simp only [List.cons.injEq, and_true] at hcs
    exact ⟨none, 0, [], hcs, fun k hk => by simp at hk, by simp, fun s hs => by cases hs⟩
  · simp only [List.cons.injEq, and_true] at hcs
    simp only [if_true] at hmm
    have hsp : 0 < len → a.spot = none := by
      intro h0
      obtain ⟨cs', h1, h2⟩ := hx 0 (by omega)
      rw [hc] at h1
      obtain ⟨x, _, sp, _⟩ := item h1 h2
      simpa [Addr.add] using sp
    have each : ∀ i, i < len → ∃ x : α, At a.block (a.off + i * sz) x ∧ a.spot = none ∧ Z x (Rows.uptoBulk (D i)) := by
      intro i hi
      obtain ⟨cs', h1, h2⟩ := hx i (by omega)
      rw [hc] at h1
      obtain ⟨x, o, _, z⟩ := item h1 h2
      obtain ⟨ab, ao, spot⟩ := a
      have hs : spot = none := hsp (by omega)
      subst hs
      rw [Addr.add_lit] at o
      exact ⟨x, o, rfl, z⟩
    have hb := bulk_list (H := H) ((List.range len).map D)
    have hyb : Rows.uptoBulkAll ((List.range len).map D) ≤ Rows.uptoBulk y.1 := by rw [hy]; simp only [Rows.uptoBulk]; omega
    obtain ⟨q, hq⟩ := choose_lt each
    refine ⟨some a, cap, (List.range len).map q, by simpa using hcs, fun k hk => ?_, ?_, fun x hx2 => ?_⟩
    · have hk' : k < len := by simpa using hk
      obtain ⟨ab, ao, spot⟩ := a
      have hsp : spot = none := (hq k hk').2.1
      subst hsp
      refine ⟨ab, ao, rfl, ?_⟩
      have := (hq k hk').1
      simpa using this
    · have := hb.1
      simp at this
      simp
      omega
    · obtain ⟨i, hi, rfl⟩ := List.mem_map.1 hx2
      have hi' := List.mem_range.1 hi
      have h1 := (hq i hi').2.2
      have h2 := hb.2 (D i) (List.mem_map_of_mem hi)
      exact hZ _ _ _ (by omega) h1
theorem array5 {α : Type} {l : Array α} (h : l.size = 5) : ∃ c0 c1 c2 c3 c4, l = #[c0, c1, c2, c3, c4] := by
  match l, h with
  | ⟨[c0, c1, c2, c3, c4]⟩, _ => exact ⟨c0, c1, c2, c3, c4, rfl⟩

set_option maxRecDepth 100000 in
/-- A content that came in, opened. -/
theorem file_open {H : Type} {enc : TypeId × Value → H} {W : World} {base : Nat} {v : Value} {d : DataW H} {p : List MemPlace} (hv : Value.okWide Tryz.prog W .any base 32 v) (h : DataW.Trod enc Tryz.prog W 0 (fun _ => true) true 32 v d p) (hk : Rows.uptoBulk d ≤ 1048576) :
    ∃ (ti : ByteArray) (ao asx af ar : Option Addr) (co cs cf cr : Nat) (O : List OpI) (S F : List ByteArray) (R : List RuT), v = .agg #[.string ti, .slice ao O.length co, .slice asx S.length cs, .slice af F.length cf, .slice ar R.length cr] ∧
      RdO W ao O ∧ ReadsS W asx S ∧ ReadsS W af F ∧ RdRu W ar R ∧ ((∀ x ∈ F, kText.ok x) ∧ ∀ x ∈ R, kRules.ok x) ∧ O.length ≤ 1048576 ∧ S.length ≤ 1048576 ∧ F.length ≤ 1048576 ∧ R.length ≤ 1048576 := by
  obtain ⟨cs, rfl, hsz⟩ := okWide_struct Tryz.underlying32 hv
  obtain ⟨c0, c1, c2, c3, c4, rfl⟩ := array5 (hsz.trans cells26)
  obtain ⟨fuel, hf⟩ := h
  obtain ⟨xs, n, _, hx, hl, hlen, hfl⟩ := DataW.trod_struct Tryz.underlying32 hf
  obtain ⟨y0, y1, y2, y3, y4, rfl⟩ := list5 hlen
  have h0 := hfl 0 _ rfl
  have h1 := hfl 1 _ rfl
  have h2 := hfl 2 _ rfl
  have h3 := hfl 3 _ rfl
  have h4 := hfl 4 _ rfl
  simp [Value.cells, cells9, cells22, cells23, cells24] at h0 h1 h2 h3 h4
  obtain ⟨ti, e0, f0, _⟩ := DataW.trod_string Tryz.underlying9 h0
  simp only [List.cons.injEq, and_true] at e0
  subst e0
  simp only [Prod.mk.injEq] at hx
  rw [hx.1] at hk
  simp only [List.map_cons, List.map_nil, Rows.uptoBulk, Rows.uptoBulkAll] at hk
  haveI : Inhabited OpI := ⟨(⟨#[]⟩, 0)⟩
  haveI : Inhabited ByteArray := ⟨⟨#[]⟩⟩
  haveI : Inhabited RuT := ⟨(⟨#[]⟩, ⟨#[]⟩, ⟨#[]⟩)⟩
  obtain ⟨ao, co, O, rfl, hO, lO, _⟩ := list_open (α := OpI) (fun g o x => W.cell? ⟨g, o, none⟩ = some (.string x.1) ∧ W.cell? ⟨g, o + 1, none⟩ = some (.int .i64 x.2)) (fun _ _ => True) (fun _ _ _ _ q => q) Tryz.underlying29 cells41 (fun h1 h2 => by obtain ⟨x, q, s, _⟩ := op_item h1 h2; exact ⟨x, q, s, trivial⟩) h1
  obtain ⟨asx, cs, S, rfl, hS, lS, _⟩ := list_open (α := ByteArray) (fun g o x => W.cell? ⟨g, o, none⟩ = some (.string x)) (fun x b => x.size ≤ b) (fun _ _ _ q r => Nat.le_trans r q) Tryz.underlying26 cells9 (fun h1 h2 => txt_item h1 h2) h2
  obtain ⟨af, cf, F, rfl, hF, lF, zF⟩ := list_open (α := ByteArray) (fun g o x => W.cell? ⟨g, o, none⟩ = some (.string x)) (fun x b => x.size ≤ b) (fun _ _ _ q r => Nat.le_trans r q) Tryz.underlying26 cells9 (fun h1 h2 => txt_item h1 h2) h3
  obtain ⟨ar, cr, R, rfl, hR, lR, zR⟩ := list_open (α := RuT) (fun g o x => W.cell? ⟨g, o, none⟩ = some (.string x.1) ∧ W.cell? ⟨g, o + 1, none⟩ = some (.string x.2.1) ∧ W.cell? ⟨g, o + 2, none⟩ = some (.string x.2.2)) (fun x b => x.1.size ≤ b ∧ x.2.1.size ≤ b ∧ x.2.2.size ≤ b) (fun _ _ _ q r => ⟨Nat.le_trans r.1 q, Nat.le_trans r.2.1 q, Nat.le_trans r.2.2 q⟩) Tryz.underlying30 cells50 (fun h1 h2 => ru_item h1 h2) h4
  refine ⟨ti, ao, asx, af, ar, co, cs, cf, cr, O, S, F, R, rfl, hO, fun k hk => ?_, fun k hk => ?_, hR, ⟨fun x hx => ?_, fun x hx => ?_⟩, by omega, by omega, by omega, by omega⟩
  · obtain ⟨g, o, e, q⟩ := hS k hk
    exact ⟨g, o, e, by rw [Nat.mul_one] at q; exact q⟩
  · obtain ⟨g, o, e, q⟩ := hF k hk
    exact ⟨g, o, e, by rw [Nat.mul_one] at q; exact q⟩
  · have := zF x hx
    show x.size ≤ 1048576
    omega
  · have := zR x hx
    exact ⟨by omega, by omega, by omega⟩
end Go.Proofs.YtmagchclmmphaabGreatDoor.frame
namespace Go.Proofs.YtmagchclmmphaabGreatDoor.frame
open Go.ChangeShapes Go.WideShapes Go.ChangeAt Go.RowKit Go.Joins Go.Deep

set_option maxRecDepth 100000 in
/-- A list that came in, opened, with its room. -/
theorem list_cap {H : Type} {enc : TypeId × Value → H} {W : World} {n : Nat} {v : Value} {y : DataW H × List MemPlace} {T e sz : Nat} {α : Type} [Inhabited α] (At : Nat → Nat → α → Prop) (Z : α → Nat → Prop) (hZ : ∀ x a b, a ≤ b → Z x a → Z x b)
    (hT : Tryz.prog.underlying T = some (.slice e)) (hc : Tryz.prog.cellsOf e = sz)
    (item : ∀ {n' : Nat} {a : Addr} {cs : List Value} {z : DataW H × List MemPlace}, W.cells? 0 a sz = some cs → DataW.trod enc Tryz.prog W 0 (fun _ => true) true n' e cs = some z → ∃ x : α, At a.block a.off x ∧ a.spot = none ∧ Z x (Rows.uptoBulk z.1))
    (h : DataW.trod enc Tryz.prog W 0 (fun _ => true) true n T [v] = some y) :
    ∃ aL cL, ∃ L : List α, v = .slice aL L.length cL ∧ L.length ≤ cL ∧ (∀ (k : Nat) (hk : k < L.length), ∃ g o, aL = some ⟨g, o, none⟩ ∧ At g (o + k * sz) L[k]) ∧ L.length ≤ Rows.uptoBulk y.1 ∧ ∀ x ∈ L, Z x (Rows.uptoBulk y.1) := by
  rcases open_slice hT h with ⟨hcs, _⟩ | ⟨a, len, cap, m, n', D, Pl, hcs, _, hl, _, hmm, hy, hx⟩
  · simp only [List.cons.injEq, and_true] at hcs
    exact ⟨none, 0, [], hcs, Nat.le_refl _, fun k hk => by simp at hk, by simp, fun s hs => by cases hs⟩
  · simp only [List.cons.injEq, and_true] at hcs
    simp only [if_true] at hmm
    have hsp : 0 < len → a.spot = none := by
      intro h0
      obtain ⟨cs', h1, h2⟩ := hx 0 (by omega)
      rw [hc] at h1
      obtain ⟨x, _, sp, _⟩ := item h1 h2
      simpa [Addr.add] using sp
    have each : ∀ i, i < len → ∃ x : α, At a.block (a.off + i * sz) x ∧ a.spot = none ∧ Z x (Rows.uptoBulk (D i)) := by
      intro i hi
      obtain ⟨cs', h1, h2⟩ := hx i (by omega)
      rw [hc] at h1
      obtain ⟨x, o, _, z⟩ := item h1 h2
      obtain ⟨ab, ao, spot⟩ := a
      have hs : spot = none := hsp (by omega)
      subst hs
      rw [Addr.add_lit] at o
      exact ⟨x, o, rfl, z⟩
    have hb := bulk_list (H := H) ((List.range len).map D)
    have hyb : Rows.uptoBulkAll ((List.range len).map D) ≤ Rows.uptoBulk y.1 := by rw [hy]; simp only [Rows.uptoBulk]; omega
    obtain ⟨q, hq⟩ := choose_lt each
    refine ⟨some a, cap, (List.range len).map q, by simpa using hcs, by simpa using hl, fun k hk => ?_, ?_, fun x hx2 => ?_⟩
    · have hk' : k < len := by simpa using hk
      obtain ⟨ab, ao, spot⟩ := a
      have hsp : spot = none := (hq k hk').2.1
      subst hsp
      refine ⟨ab, ao, rfl, ?_⟩
      have := (hq k hk').1
      simpa using this
    · have := hb.1
      simp at this
      simp
      omega
    · obtain ⟨i, hi, rfl⟩ := List.mem_map.1 hx2
      have hi' := List.mem_range.1 hi
      have h1 := (hq i hi').2.2
      have h2 := hb.2 (D i) (List.mem_map_of_mem hi)
      exact hZ _ _ _ (by omega) h1
set_option maxRecDepth 100000 in
/-- A content that came in, opened, with its room. -/
theorem file_cap {H : Type} {enc : TypeId × Value → H} {W : World} {base : Nat} {v : Value} {d : DataW H} {p : List MemPlace} (hv : Value.okWide Tryz.prog W .any base 32 v) (h : DataW.Trod enc Tryz.prog W 0 (fun _ => true) true 32 v d p) (hk : Rows.uptoBulk d ≤ 1048576) :
    ∃ (ti : ByteArray) (ao asx af ar : Option Addr) (co cs cf cr : Nat) (O : List OpI) (S F : List ByteArray) (R : List RuT), v = .agg #[.string ti, .slice ao O.length co, .slice asx S.length cs, .slice af F.length cf, .slice ar R.length cr] ∧
      RdO W ao O ∧ ReadsS W asx S ∧ ReadsS W af F ∧ RdRu W ar R ∧ ((∀ x ∈ F, kText.ok x) ∧ ∀ x ∈ R, kRules.ok x) ∧ O.length ≤ 1048576 ∧ S.length ≤ 1048576 ∧ F.length ≤ 1048576 ∧ R.length ≤ 1048576 ∧ O.length ≤ co ∧ S.length ≤ cs := by
  obtain ⟨cs, rfl, hsz⟩ := okWide_struct Tryz.underlying32 hv
  obtain ⟨c0, c1, c2, c3, c4, rfl⟩ := array5 (hsz.trans cells26)
  obtain ⟨fuel, hf⟩ := h
  obtain ⟨xs, n, _, hx, hl, hlen, hfl⟩ := DataW.trod_struct Tryz.underlying32 hf
  obtain ⟨y0, y1, y2, y3, y4, rfl⟩ := list5 hlen
  have h0 := hfl 0 _ rfl
  have h1 := hfl 1 _ rfl
  have h2 := hfl 2 _ rfl
  have h3 := hfl 3 _ rfl
  have h4 := hfl 4 _ rfl
  simp [Value.cells, cells9, cells22, cells23, cells24] at h0 h1 h2 h3 h4
  obtain ⟨ti, e0, f0, _⟩ := DataW.trod_string Tryz.underlying9 h0
  simp only [List.cons.injEq, and_true] at e0
  subst e0
  simp only [Prod.mk.injEq] at hx
  rw [hx.1] at hk
  simp only [List.map_cons, List.map_nil, Rows.uptoBulk, Rows.uptoBulkAll] at hk
  haveI : Inhabited OpI := ⟨(⟨#[]⟩, 0)⟩
  haveI : Inhabited ByteArray := ⟨⟨#[]⟩⟩
  haveI : Inhabited RuT := ⟨(⟨#[]⟩, ⟨#[]⟩, ⟨#[]⟩)⟩
  obtain ⟨ao, co, O, rfl, kO, hO, lO, _⟩ := list_cap (α := OpI) (fun g o x => W.cell? ⟨g, o, none⟩ = some (.string x.1) ∧ W.cell? ⟨g, o + 1, none⟩ = some (.int .i64 x.2)) (fun _ _ => True) (fun _ _ _ _ q => q) Tryz.underlying29 cells41 (fun h1 h2 => by obtain ⟨x, q, s, _⟩ := op_item h1 h2; exact ⟨x, q, s, trivial⟩) h1
  obtain ⟨asx, cs, S, rfl, kS, hS, lS, _⟩ := list_cap (α := ByteArray) (fun g o x => W.cell? ⟨g, o, none⟩ = some (.string x)) (fun x b => x.size ≤ b) (fun _ _ _ q r => Nat.le_trans r q) Tryz.underlying26 cells9 (fun h1 h2 => txt_item h1 h2) h2
  obtain ⟨af, cf, F, rfl, hF, lF, zF⟩ := list_open (α := ByteArray) (fun g o x => W.cell? ⟨g, o, none⟩ = some (.string x)) (fun x b => x.size ≤ b) (fun _ _ _ q r => Nat.le_trans r q) Tryz.underlying26 cells9 (fun h1 h2 => txt_item h1 h2) h3
  obtain ⟨ar, cr, R, rfl, hR, lR, zR⟩ := list_open (α := RuT) (fun g o x => W.cell? ⟨g, o, none⟩ = some (.string x.1) ∧ W.cell? ⟨g, o + 1, none⟩ = some (.string x.2.1) ∧ W.cell? ⟨g, o + 2, none⟩ = some (.string x.2.2)) (fun x b => x.1.size ≤ b ∧ x.2.1.size ≤ b ∧ x.2.2.size ≤ b) (fun _ _ _ q r => ⟨Nat.le_trans r.1 q, Nat.le_trans r.2.1 q, Nat.le_trans r.2.2 q⟩) Tryz.underlying30 cells50 (fun h1 h2 => ru_item h1 h2) h4
  refine ⟨ti, ao, asx, af, ar, co, cs, cf, cr, O, S, F, R, rfl, hO, fun k hk => ?_, fun k hk => ?_, hR, ⟨fun x hx => ?_, fun x hx => ?_⟩, by omega, by omega, by omega, by omega, kO, kS⟩
  · obtain ⟨g, o, e, q⟩ := hS k hk
    exact ⟨g, o, e, by rw [Nat.mul_one] at q; exact q⟩
  · obtain ⟨g, o, e, q⟩ := hF k hk
    exact ⟨g, o, e, by rw [Nat.mul_one] at q; exact q⟩
  · have := zF x hx
    show x.size ≤ 1048576
    omega
  · have := zR x hx
    exact ⟨by omega, by omega, by omega⟩
end Go.Proofs.YtmagchclmmphaabGreatDoor.frame
namespace Go.Proofs.YtmagchclmmphaabGreatDoor.frame
open Go.ChangeShapes Go.WideShapes Go.ChangeAt Go.RowKit Go.Joins Go.Deep

theorem cells25 : Tryz.prog.cellsOf 25 = 5 := by kernel_rfl
theorem cells28 : Tryz.prog.cellsOf 28 = 8 := by kernel_rfl
theorem cells64 : Tryz.prog.cellsOf 64 = 3 := by kernel_rfl
theorem cellsI : Tryz.prog.cellsOf 22 = 1 := by kernel_rfl
theorem cellsEs : Tryz.prog.cellsOf 23 = 1 := by kernel_rfl
theorem array8 {α : Type} {l : Array α} (h : l.size = 8) : ∃ c0 c1 c2 c3 c4 c5 c6 c7, l = #[c0, c1, c2, c3, c4, c5, c6, c7] := by
  match l, h with
  | ⟨[c0, c1, c2, c3, c4, c5, c6, c7]⟩, _ => exact ⟨c0, c1, c2, c3, c4, c5, c6, c7, rfl⟩
theorem list4 {α : Type} {l : List α} (h : l.length = 4) : ∃ c0 c1 c2 c3, l = [c0, c1, c2, c3] := by
  match l, h with
  | [c0, c1, c2, c3], _ => exact ⟨c0, c1, c2, c3, rfl⟩
theorem num_item {H : Type} {enc : TypeId × Value → H} {W : World} {n : Nat} {a : Addr} {cs : List Value} {y : DataW H × List MemPlace} (h1 : W.cells? 0 a 1 = some cs) (h : DataW.trod enc Tryz.prog W 0 (fun _ => true) true n 3 cs = some y) :
    ∃ x : Int, W.cell? ⟨a.block, a.off, none⟩ = some (.int .i64 x) ∧ a.spot = none := by
  obtain ⟨_, hlen, hcell⟩ := World.cells?_some h1
  obtain ⟨v0, rfl⟩ := list1 hlen
  obtain ⟨k, e1, _, _⟩ := DataW.trod_int Tryz.underlying3 h
  simp only [List.cons.injEq, and_true] at e1
  subst e1
  have c0 := hcell 0 (by omega)
  obtain ⟨ab, ao, spot⟩ := a
  have hspot : spot = none := by simpa [Addr.add] using World.cell?_spot c0
  subst hspot
  rw [Addr.add_lit] at c0
  exact ⟨k, c0, rfl⟩
theorem ed_item {H : Type} {enc : TypeId × Value → H} {W : World} {n : Nat} {a : Addr} {cs : List Value} {y : DataW H × List MemPlace} (h1 : W.cells? 0 a 3 = some cs) (h : DataW.trod enc Tryz.prog W 0 (fun _ => true) true n 64 cs = some y) :
    ∃ x : EdT, (W.cell? ⟨a.block, a.off, none⟩ = some (.int .i64 x.1) ∧ W.cell? ⟨a.block, a.off + 1, none⟩ = some (.int .i64 x.2.1) ∧ W.cell? ⟨a.block, a.off + 2, none⟩ = some (.int .i64 x.2.2)) ∧ a.spot = none := by
  obtain ⟨_, hlen, hcell⟩ := World.cells?_some h1
  obtain ⟨v0, v1, v2, rfl⟩ := list3 hlen
  obtain ⟨xs, n', _, hx, hl, hlen2, hfl⟩ := DataW.trod_struct Tryz.underlying64 h
  obtain ⟨y0, y1, y2, rfl⟩ := list3 hlen2
  have g0 := hfl 0 _ rfl
  have g1 := hfl 1 _ rfl
  have g2 := hfl 2 _ rfl
  simp [cells3] at g0 g1 g2
  obtain ⟨s, e0, _, _⟩ := DataW.trod_int Tryz.underlying3 g0
  obtain ⟨t, e1, _, _⟩ := DataW.trod_int Tryz.underlying3 g1
  obtain ⟨u, e2, _, _⟩ := DataW.trod_int Tryz.underlying3 g2
  simp only [List.cons.injEq, and_true] at e0 e1 e2
  subst e0 e1 e2
  have c0 := hcell 0 (by omega)
  have c1 := hcell 1 (by omega)
  have c2 := hcell 2 (by omega)
  obtain ⟨ab, ao, spot⟩ := a
  have hspot : spot = none := by simpa [Addr.add] using World.cell?_spot c0
  subst hspot
  rw [Addr.add_lit] at c0 c1 c2
  exact ⟨(s, t, u), ⟨c0, c1, c2⟩, rfl⟩
set_option maxRecDepth 100000 in
/-- An automaton with names that came in, opened. -/
theorem named_cap {H : Type} {enc : TypeId × Value → H} {W : World} {base : Nat} {v : Value} {d : DataW H} {p : List MemPlace} (hv : Value.okWide Tryz.prog W .any base 28 v) (h : DataW.Trod enc Tryz.prog W 0 (fun _ => true) true 28 v d p) (hk : Rows.uptoBulk d ≤ 1048576) :
    ∃ (ti : ByteArray) (n m : Int) (a1 a2 a3 asx ay : Option Addr) (c1 c2 c3 cs cy : Nat) (St Fi : List Int) (Ed : List EdT) (S Y : List ByteArray), v = .agg #[.int .i64 n, .int .i64 m, .slice a1 St.length c1, .slice a2 Fi.length c2, .slice a3 Ed.length c3, .slice asx S.length cs, .slice ay Y.length cy, .string ti] ∧
      (RdN W a1 St ∧ RdN W a2 Fi ∧ RdE W a3 Ed ∧ ReadsS W asx S ∧ ReadsS W ay Y) ∧ (Sml S ∧ Sml Y) ∧ S.length ≤ cs ∧ Y.length ≤ cy ∧ St.length ≤ 1048576 ∧ Fi.length ≤ 1048576 ∧ Ed.length ≤ 1048576 ∧ S.length ≤ 1048576 ∧ Y.length ≤ 1048576 ∧ ti.size ≤ 1048576 := by
  obtain ⟨cs, rfl, hsz⟩ := okWide_struct Tryz.underlying28 hv
  obtain ⟨c0, c1, c2, c3, c4, c5, c6, c7, rfl⟩ := array8 (hsz.trans cells28)
  obtain ⟨fuel, hf⟩ := h
  obtain ⟨xs, n, _, hx, hl, hlen, hfl⟩ := DataW.trod_struct Tryz.underlying28 hf
  obtain ⟨y0, y1, y2, y3, rfl⟩ := list4 hlen
  have h0 := hfl 0 _ rfl
  have h1 := hfl 1 _ rfl
  have h2 := hfl 2 _ rfl
  have h3 := hfl 3 _ rfl
  simp [Value.cells, cells9, cells23, cells25] at h0 h1 h2 h3
  obtain ⟨ti, e3, f3, _⟩ := DataW.trod_string Tryz.underlying9 h3
  simp only [List.cons.injEq, and_true] at e3
  subst e3
  obtain ⟨ys, n2, _, hx2, hl2, hlen2, hfl2⟩ := DataW.trod_struct Tryz.underlying25 h0
  obtain ⟨z0, z1, z2, z3, z4, rfl⟩ := list5 hlen2
  have g0 := hfl2 0 _ rfl
  have g1 := hfl2 1 _ rfl
  have g2 := hfl2 2 _ rfl
  have g3 := hfl2 3 _ rfl
  have g4 := hfl2 4 _ rfl
  simp [cells3, cellsI, cellsEs] at g0 g1 g2 g3 g4
  obtain ⟨nn, e0, _, _⟩ := DataW.trod_int Tryz.underlying3 g0
  obtain ⟨mm, e1, _, _⟩ := DataW.trod_int Tryz.underlying3 g1
  simp only [List.cons.injEq, and_true] at e0 e1
  subst e0 e1
  simp only [Prod.mk.injEq] at hx
  rw [hx.1] at hk
  simp only [List.map_cons, List.map_nil, Rows.uptoBulk, Rows.uptoBulkAll] at hk
  have hb0 : Rows.uptoBulk z2.1 ≤ Rows.uptoBulk y0.1 ∧ Rows.uptoBulk z3.1 ≤ Rows.uptoBulk y0.1 ∧ Rows.uptoBulk z4.1 ≤ Rows.uptoBulk y0.1 := by
    rw [hx2]
    simp only [List.map_cons, List.map_nil, Rows.uptoBulk, Rows.uptoBulkAll]
    exact ⟨by omega, by omega, by omega⟩
  have hb3 : Rows.uptoBulk y3.1 = ti.size + 1 := by rw [f3]; simp [Rows.uptoBulk]
  haveI : Inhabited ByteArray := ⟨⟨#[]⟩⟩
  obtain ⟨a1, k1, St, rfl, hSt, l1, _⟩ := list_open (α := Int) (fun g o x => W.cell? ⟨g, o, none⟩ = some (.int .i64 x)) (fun _ _ => True) (fun _ _ _ _ q => q) Tryz.underlying22 cells3 (fun h1 h2 => by obtain ⟨x, q, s⟩ := num_item h1 h2; exact ⟨x, q, s, trivial⟩) g2
  obtain ⟨a2, k2, Fi, rfl, hFi, l2, _⟩ := list_open (α := Int) (fun g o x => W.cell? ⟨g, o, none⟩ = some (.int .i64 x)) (fun _ _ => True) (fun _ _ _ _ q => q) Tryz.underlying22 cells3 (fun h1 h2 => by obtain ⟨x, q, s⟩ := num_item h1 h2; exact ⟨x, q, s, trivial⟩) g3
  obtain ⟨a3, k3, Ed, rfl, hEd, l3, _⟩ := list_open (α := EdT) (fun g o x => W.cell? ⟨g, o, none⟩ = some (.int .i64 x.1) ∧ W.cell? ⟨g, o + 1, none⟩ = some (.int .i64 x.2.1) ∧ W.cell? ⟨g, o + 2, none⟩ = some (.int .i64 x.2.2)) (fun _ _ => True) (fun _ _ _ _ q => q) Tryz.underlying23 cells64 (fun h1 h2 => by obtain ⟨x, q, s⟩ := ed_item h1 h2; exact ⟨x, q, s, trivial⟩) g4
  obtain ⟨asx, cs, S, rfl, kS, hS, lS, zS⟩ := list_cap (α := ByteArray) (fun g o x => W.cell? ⟨g, o, none⟩ = some (.string x)) (fun x b => x.size ≤ b) (fun _ _ _ q r => Nat.le_trans r q) Tryz.underlying26 cells9 (fun h1 h2 => txt_item h1 h2) h1
  obtain ⟨ay, cy, Y, rfl, kY, hY, lY, zY⟩ := list_cap (α := ByteArray) (fun g o x => W.cell? ⟨g, o, none⟩ = some (.string x)) (fun x b => x.size ≤ b) (fun _ _ _ q r => Nat.le_trans r q) Tryz.underlying26 cells9 (fun h1 h2 => txt_item h1 h2) h2
  refine ⟨ti, nn, mm, a1, a2, a3, asx, ay, k1, k2, k3, cs, cy, St, Fi, Ed, S, Y, rfl, ⟨fun k hk => ?_, fun k hk => ?_, hEd, fun k hk => ?_, fun k hk => ?_⟩, ⟨⟨by omega, fun x hx => ?_⟩, ⟨by omega, fun x hx => ?_⟩⟩, kS, kY, by omega, by omega, by omega, by omega, by omega, by omega⟩
  · obtain ⟨g, o, e, q⟩ := hSt k hk
    exact ⟨g, o, e, by rw [Nat.mul_one] at q; exact q⟩
  · obtain ⟨g, o, e, q⟩ := hFi k hk
    exact ⟨g, o, e, by rw [Nat.mul_one] at q; exact q⟩
  · obtain ⟨g, o, e, q⟩ := hS k hk
    exact ⟨g, o, e, by rw [Nat.mul_one] at q; exact q⟩
  · obtain ⟨g, o, e, q⟩ := hY k hk
    exact ⟨g, o, e, by rw [Nat.mul_one] at q; exact q⟩
  · have := zS x hx
    omega
  · have := zY x hx
    omega
end Go.Proofs.YtmagchclmmphaabGreatDoor.frame
