import Derived.Test.YtnfdifkcchciaaaDoorNmW
import Derived.Test.YtnfdifkcchciaaaDoorCards
import Derived.Test.YtnfdifkcchciaaaDoorTie
import Derived.ProofKit
import Derived.OpenShut
import Derived.ShutString
import Derived.SliceStrings
import Derived.Deep.DeepHandedRow
import Derived.Lib.LaidTab
import Derived.Lib.SmallJoins
import Derived.ChangeOld
namespace Go.Proofs.YtnfdifkcchciaaaDoor.frame
open Go.ChangeShapes Go.WideShapes Go.ChangeAt Go.RowKit Go.Joins

theorem own : ownKnob Tryd.prog.godebug = none := by kernel_rfl
theorem laidOut : laidOutB Tryd.prog = true := by kernel_rfl
theorem gTab : Tryd.prog.globalNamed "wordset/names.nameBytes" = some 0 := by kernel_rfl
theorem gTabType : (Tryd.prog.globals[0]?).map (·.type) = some 87 := by kernel_rfl
theorem cells86 : Tryd.prog.cellsOf 86 = 2 := by kernel_rfl
theorem cells5 : Tryd.prog.cellsOf 5 = 1 := by kernel_rfl
theorem cells9 : Tryd.prog.cellsOf 9 = 1 := by kernel_rfl
theorem cells39 : Tryd.prog.cellsOf 39 = 5 := by kernel_rfl

theorem list2 {α : Type} {l : List α} (h : l.length = 2) : ∃ c0 c1, l = [c0, c1] := by
  match l, h with
  | [c0, c1], _ => exact ⟨c0, c1, rfl⟩
theorem list5 {α : Type} {l : List α} (h : l.length = 5) : ∃ c0 c1 c2 c3 c4, l = [c0, c1, c2, c3, c4] := by
  match l, h with
  | [c0, c1, c2, c3, c4], _ => exact ⟨c0, c1, c2, c3, c4, rfl⟩

set_option maxRecDepth 100000 in
/-- A row of the table, read. -/
theorem row_cells {H : Type} {enc : TypeId × Value → H} {w : World} {base : Nat} {sp : Nat → Bool} {held : Bool} {fuel : Nat} {l : List Value} {d : DataW H} {x y : Int} {p : List MemPlace}
    (h : DataW.trod enc Tryd.prog w base sp held fuel 86 l = some (d, p)) (hd : d = .agg [.lit (.int .u8 x), .lit (.int .u8 y)]) : l = [.int .u8 x, .int .u8 y] := by
  obtain ⟨xs, n, _, hx, hl, hlen, hf⟩ := DataW.trod_struct Tryd.underlying86 h
  rw [cells86] at hl
  obtain ⟨u0, u1, rfl⟩ := list2 hl
  obtain ⟨y0, y1, rfl⟩ := list2 hlen
  have h0 := hf 0 _ rfl
  have h1 := hf 1 _ rfl
  simp [cells5] at h0 h1
  obtain ⟨z0, e0, f0, _⟩ := DataW.trod_int Tryd.underlying5 h0
  obtain ⟨z1, e1, f1, _⟩ := DataW.trod_int Tryd.underlying5 h1
  simp only [List.cons.injEq, and_true] at e0 e1
  simp only [Prod.mk.injEq] at hx
  rw [hd, f0, f1] at hx
  have hx1 := hx.1
  simp at hx1
  rw [e0, e1, hx1.1, hx1.2]

theorem two_at {cs : Array Value} {i : Nat} {u v : Value} (h : (cs.toList.drop (i * 2)).take 2 = [u, v]) : cs[i * 2]? = some u ∧ cs[i * 2 + 1]? = some v := by
  have h0 : ((cs.toList.drop (i * 2)).take 2)[0]? = some u := by rw [h]; rfl
  have h1 : ((cs.toList.drop (i * 2)).take 2)[1]? = some v := by rw [h]; rfl
  rw [List.getElem?_take_of_lt (by omega), List.getElem?_drop, Array.getElem?_toList] at h0 h1
  exact ⟨by simpa using h0, h1⟩

set_option maxRecDepth 100000 in
theorem bytesAt {W : World} (h : laidMetH Tryd.prog [("wordset/names.nameBytes", Rows.laid_wordset_names_nameBytes)] W) : BytesAt W := by
  have h' : laidMet Tryd.prog [("wordset/names.nameBytes", Rows.laid_wordset_names_nameBytes)] W := h
  obtain ⟨ps, ⟨g', t', cs, fuel, p, q, hg', ht', hvar, hd, _, _⟩, _⟩ := h'
  obtain rfl := Option.some.inj (gTab.symm.trans hg')
  obtain rfl := Option.some.inj (gTabType.symm.trans ht')
  obtain ⟨xs, m, _, hx, hl, hlen, hel⟩ := DataW.trod_array Tryd.underlying87 hd
  obtain ⟨y0, y1, y2, y3, y4, rfl⟩ := list5 hlen
  simp only [Prod.mk.injEq] at hx
  have hx1 := hx.1
  unfold Rows.laid_wordset_names_nameBytes at hx1
  simp only [List.map_cons, List.map_nil, DataW.agg.injEq, List.cons.injEq, and_true] at hx1
  obtain ⟨e0, e1, e2, e3, e4⟩ := hx1
  rw [cells86] at hel
  have r0 := two_at (row_cells (hel 0 (by decide)) e0.symm)
  have r1 := two_at (row_cells (hel 1 (by decide)) e1.symm)
  have r2 := two_at (row_cells (hel 2 (by decide)) e2.symm)
  have r3 := two_at (row_cells (hel 3 (by decide)) e3.symm)
  have r4 := two_at (row_cells (hel 4 (by decide)) e4.symm)
  intro j hj
  rw [World.var?_cell gTab hvar j]
  match j, hj with
  | 0, _ => exact r0.1
  | 1, _ => exact r0.2
  | 2, _ => exact r1.1
  | 3, _ => exact r1.2
  | 4, _ => exact r2.1
  | 5, _ => exact r2.2
  | 6, _ => exact r3.1
  | 7, _ => exact r3.2
  | 8, _ => exact r4.1
  | 9, _ => exact r4.2
theorem heap_pos {W : World} (h : BytesAt W) : 0 < W.heap.size := World.block_lt_of_cell? W ⟨0, 0, none⟩ (h 0 (by decide))

/-- A world for the witness: the settled one, the table (block 0) holding what its initialiser lays. -/
noncomputable def laidWorld (os : Os) : World :=
  { World.holding Tryd.prog os ⟨#[], #[], []⟩ with heap := (World.holding Tryd.prog os ⟨#[], #[], []⟩).heap.modify 0 fun
      | .cells _ t frozen => .cells #[.int .u8 97, .int .u8 122, .int .u8 65, .int .u8 90, .int .u8 48, .int .u8 57, .int .u8 95, .int .u8 95, .int .u8 39, .int .u8 39] t frozen
      | o => o }

/-! ### How much a reading holds -/
theorem bulk_pos {H : Type} (d : DataW H) : 0 < Rows.uptoBulk d := by
  cases d
  case lit l => cases l <;> simp [Rows.uptoBulk]
  all_goals simp [Rows.uptoBulk]
theorem bulk_strs {H : Type} (ss : List ByteArray) : ss.length ≤ Rows.uptoBulkAll (strs (H := H) ss) ∧ ∀ s ∈ ss, s.size ≤ Rows.uptoBulkAll (strs (H := H) ss) := by
  induction ss with
  | nil => exact ⟨Nat.zero_le _, fun s hs => by cases hs⟩
  | cons x r ih =>
    have e : Rows.uptoBulkAll (strs (H := H) (x :: r)) = (x.size + 1) + Rows.uptoBulkAll (strs (H := H) r) := by
      simp [strs, Rows.uptoBulkAll, Rows.uptoBulk]
    rw [e]
    refine ⟨by simp; omega, fun s hs => ?_⟩
    rcases List.mem_cons.1 hs with rfl | h
    · omega
    · have := ih.2 s h; omega

/-- A slice of texts that came in, opened: with the bound. -/
theorem strs_open {H : Type} {enc : TypeId × Value → H} {W : World} {n : Nat} {v : Value} {y : DataW H × List MemPlace} (h : DataW.trod enc Tryd.prog W 0 (fun _ => true) true n 22 [v] = some y) :
    ∃ l, StrS W v l ∧ l.length ≤ Rows.uptoBulk y.1 ∧ ∀ s ∈ l, s.size ≤ Rows.uptoBulk y.1 := by
  rcases open_strings Tryd.underlying22 Tryd.underlying9 cells9 h with ⟨hcs, hy⟩ | ⟨a, len, cap, ss, hcs, _, hl, hm, hz, hy, hcell, _⟩
  · simp only [List.cons.injEq, and_true] at hcs
    exact ⟨[], ⟨none, 0, hcs, fun k hk => by simp at hk⟩, by simp, fun s hs => by cases hs⟩
  · simp only [List.cons.injEq, and_true] at hcs
    simp only [if_true] at hz
    have hlen : (ss.take len).length = len := by rw [List.length_take]; omega
    have hb := bulk_strs (H := H) (ss.take len)
    have hyb : Rows.uptoBulkAll (strs (H := H) (ss.take len)) ≤ Rows.uptoBulk y.1 := by rw [hy]; simp only [Rows.uptoBulk]; omega
    refine ⟨ss.take len, ⟨some a, cap, by rw [hlen]; exact hcs, fun k hk => ?_⟩, Nat.le_trans hb.1 hyb, fun s hs => Nat.le_trans (hb.2 s hs) hyb⟩
    rw [hlen] at hk
    have hc := hcell k (by omega)
    obtain ⟨ab, ao, spot⟩ := a
    have hspot : spot = none := by simpa [Addr.add] using World.cell?_spot (hcell 0 (by omega))
    subst hspot
    rw [Addr.add_lit] at hc
    refine ⟨ab, ao, rfl, ?_⟩
    rw [hc]
    have hk2 : k < ss.length := by omega
    simp [List.getElem_take, List.getD_eq_getElem?_getD, List.getElem?_eq_getElem hk2]

theorem array5 {α : Type} {cs : Array α} (h : cs.size = 5) : ∃ c0 c1 c2 c3 c4, cs = #[c0, c1, c2, c3, c4] := by
  obtain ⟨l⟩ := cs
  match l, h with
  | [c0, c1, c2, c3, c4], _ => exact ⟨c0, c1, c2, c3, c4, rfl⟩

set_option maxRecDepth 100000 in
/-- The laws' argument, opened. -/
theorem lists_open {H : Type} {enc : TypeId × Value → H} {W : World} {base : Nat} {v : Value} {d : DataW H} {p : List MemPlace} (hv : Value.okWide Tryd.prog W .any base 39 v) (h : DataW.Trod enc Tryd.prog W 0 (fun _ => true) true 39 v d p) (hk : Rows.uptoBulk d ≤ 1048576) :
    ∃ a b c, LstV W v a b c := by
  obtain ⟨cs, rfl, hsz⟩ := okWide_struct Tryd.underlying39 hv
  obtain ⟨c0, c1, c2, c3, c4, rfl⟩ := array5 (hsz.trans cells39)
  obtain ⟨fuel, hf⟩ := h
  obtain ⟨xs, n, _, hx, hl, hlen, hfl⟩ := DataW.trod_struct Tryd.underlying39 hf
  obtain ⟨y0, y1, y2, y3, y4, rfl⟩ := list5 hlen
  have h0 := hfl 0 _ rfl
  have h1 := hfl 1 _ rfl
  have h2 := hfl 2 _ rfl
  have h3 := hfl 3 _ rfl
  have h4 := hfl 4 _ rfl
  have k22 : Tryd.prog.cellsOf 22 = 1 := by kernel_rfl
  have k3 : Tryd.prog.cellsOf 3 = 1 := by kernel_rfl
  simp [Value.cells, k22, k3, cells9] at h0 h1 h2 h3 h4
  obtain ⟨a, sa, la, za⟩ := strs_open h0
  obtain ⟨b, sb, lb, zb⟩ := strs_open h1
  obtain ⟨c, sc, lc, zc⟩ := strs_open h2
  obtain ⟨hd, e3, _, _⟩ := DataW.trod_string Tryd.underlying9 h3
  obtain ⟨N, e4, _, _⟩ := DataW.trod_int Tryd.underlying3 h4
  simp only [List.cons.injEq, and_true] at e3 e4
  subst e3 e4
  simp only [Prod.mk.injEq] at hx
  rw [hx.1] at hk
  simp only [List.map_cons, List.map_nil, Rows.uptoBulk, Rows.uptoBulkAll] at hk
  exact ⟨a, b, c, c0, c1, c2, hd, N, rfl, sa, sb, sc, by omega, fun s hs => by have := za s hs; omega, fun s hs => by have := zb s hs; omega, fun s hs => by have := zc s hs; omega⟩

end Go.Proofs.YtnfdifkcchciaaaDoor.frame
