import Derived.Test.YtchoopnjckcohaaGreatDoorCards
import Derived.Test.YtchoopnjckcohaaGreatDoorTie
import Derived.Test.YtchoopnjckcohaaGreatDoorQaf
import Derived.ProofKit
import Derived.OpenShut
import Derived.ShutString
import Derived.Deep.DeepHandedRow
import Derived.Lib.LaidTab
import Derived.Lib.SmallJoins
import Derived.ChangeOld
import Derived.Lay
import Derived.Deep.Slices
set_option maxRecDepth 100000
set_option maxHeartbeats 40000000
namespace Go.Proofs.YtchoopnjckcohaaGreatDoor.frame
open Go.ChangeShapes Go.WideShapes Go.ChangeAt Go.RowKit Go.Joins Go.Deep
theorem own : ownKnob Tryz.prog.godebug = none := by kernel_rfl
theorem laidOut : laidOutB Tryz.prog = true := by kernel_rfl
theorem gTab : Tryz.prog.globalNamed "math/bits.deBruijn64tab" = some 0 := by kernel_rfl
theorem gTabType : (Tryz.prog.globals[0]?).map (·.type) = some 161 := by kernel_rfl
theorem cells161 : Tryz.prog.cellsOf 161 = 64 := by kernel_rfl
theorem cells5 : Tryz.prog.cellsOf 5 = 1 := by kernel_rfl
theorem cells3 : Tryz.prog.cellsOf 3 = 1 := by kernel_rfl
theorem cells25 : Tryz.prog.cellsOf 25 = 5 := by kernel_rfl
theorem cells59 : Tryz.prog.cellsOf 61 = 3 := by kernel_rfl
theorem cellsI : Tryz.prog.cellsOf 22 = 1 := by kernel_rfl
theorem cellsEs : Tryz.prog.cellsOf 23 = 1 := by kernel_rfl
theorem table {W : World} (h : laidMetH Tryz.prog [("math/bits.deBruijn64tab", Rows.laid_math_bits_deBruijn64tab)] W) : Lib.TabIs Tryz.prog W "math/bits.deBruijn64tab" .u8 (Lib.deBruijn64tab.map fun (n : Nat) => (n : Int)) :=
 Lib.tabIs_of_head (rest := []) gTab gTabType Tryz.underlying161 Tryz.underlying5 cells5 cells161 h
theorem tabAt {W : World} (h : laidMetH Tryz.prog [("math/bits.deBruijn64tab", Rows.laid_math_bits_deBruijn64tab)] W) : TabAt W := by
 intro j hj
 have h1 : j < (Lib.deBruijn64tab.map fun (n : Nat) => (n : Int)).length := by simpa [Lib.deBruijn64tab] using hj
 have := (table h).cell gTab j h1
 rw [this]
 congr 2
 simp only [List.getD_eq_getElem?_getD, List.getElem?_map]
 cases Lib.deBruijn64tab[j]? <;> rfl
theorem heap_pos {W : World} (h : TabAt W) : 0 < W.heap.size := World.block_lt_of_cell? W ⟨0, 0, none⟩ (h 0 (by decide))
theorem bulk_pos {H : Type} (d : DataW H) : 0 < Rows.uptoBulk d := by
 cases d
 case lit l => cases l <;> simp [Rows.uptoBulk]
 all_goals simp [Rows.uptoBulk]
theorem bulk_list {H : Type} (l : List (DataW H)) : l.length ≤ Rows.uptoBulkAll l ∧ ∀ d ∈ l, Rows.uptoBulk d ≤ Rows.uptoBulkAll l := by
 induction l with
 | nil => exact ⟨Nat.zero_le _, fun s hs => by cases hs⟩
 | cons x r ih =>
  have e : Rows.uptoBulkAll (x :: r) = Rows.uptoBulk x + Rows.uptoBulkAll r := by simp [Rows.uptoBulkAll]
  have := bulk_pos x
  rw [e]
  refine ⟨by simp; omega, fun s hs => ?_⟩
  rcases List.mem_cons.1 hs with rfl | h
  · omega
  · have := ih.2 s h; omega
theorem list1 {α : Type} {l : List α} (h : l.length = 1) : ∃ c0, l = [c0] := by
 match l, h with
 | [c0], _ => exact ⟨c0, rfl⟩
theorem list3 {α : Type} {l : List α} (h : l.length = 3) : ∃ c0 c1 c2, l = [c0, c1, c2] := by
 match l, h with
 | [c0, c1, c2], _ => exact ⟨c0, c1, c2, rfl⟩
theorem list_open {H : Type} {enc : TypeId × Value → H} {W : World} {n : Nat} {v : Value} {y : DataW H × List MemPlace} {T e sz : Nat} {α : Type} [Inhabited α] (At : Nat → Nat → α → Prop) (Z : α → Nat → Prop) (hZ : ∀ x a b, a ≤ b → Z x a → Z x b)
 (hT : Tryz.prog.underlying T = some (.slice e)) (hc : Tryz.prog.cellsOf e = sz)
 (item : ∀ {n' : Nat} {a : Addr} {cs : List Value} {z : DataW H × List MemPlace}, W.cells? 0 a sz = some cs → DataW.trod enc Tryz.prog W 0 (fun _ => true) true n' e cs = some z → ∃ x : α, At a.block a.off x ∧ a.spot = none ∧ Z x (Rows.uptoBulk z.1))
 (h : DataW.trod enc Tryz.prog W 0 (fun _ => true) true n T [v] = some y) :
 ∃ aL cL, ∃ L : List α, v = .slice aL L.length cL ∧ (∀ (k : Nat) (hk : k < L.length), ∃ g o, aL = some ⟨g, o, none⟩ ∧ At g (o + k * sz) L[k]) ∧ L.length ≤ Rows.uptoBulk y.1 ∧ ∀ x ∈ L, Z x (Rows.uptoBulk y.1) := by
 rcases open_slice hT h with ⟨hcs, _⟩ | ⟨a, len, cap, m, n', D, Pl, hcs, _, hl, _, hmm, hy, hx⟩
 · simp only [List.cons.injEq, and_true] at hcs
   exact ⟨none, 0, [], hcs, fun k hk => by simp at hk, by simp, fun s hs => by cases hs⟩
 · simp only [List.cons.injEq, and_true] at hcs
   simp only [if_true] at hmm
   have hsp : 0 < len → a.spot = none := by
    intro h0
    obtain ⟨cs', h1, h2⟩ := hx 0 (by omega)
    rw [hc] at h1
    obtain ⟨x, _, sp, _⟩ := item h1 h2
    simpa [Addr.add] using sp
   have each : ∀ i, i < len → ∃ x : α, At a.block (a.off + i * sz) x ∧ a.spot = none ∧ Z x (Rows.uptoBulk (D i)) := by
    intro i hi
    obtain ⟨cs', h1, h2⟩ := hx i (by omega)
    rw [hc] at h1
    obtain ⟨x, o, _, z⟩ := item h1 h2
    obtain ⟨ab, ao, spot⟩ := a
    have hs : spot = none := hsp (by omega)
    subst hs
    rw [Addr.add_lit] at o
    exact ⟨x, o, rfl, z⟩
   have hb := bulk_list (H := H) ((List.range len).map D)
   have hyb : Rows.uptoBulkAll ((List.range len).map D) ≤ Rows.uptoBulk y.1 := by rw [hy]; simp only [Rows.uptoBulk]; omega
   obtain ⟨q, hq⟩ := choose_lt each
   refine ⟨some a, cap, (List.range len).map q, by simpa using hcs, fun k hk => ?_, ?_, fun x hx2 => ?_⟩
   · have hk' : k < len := by simpa using hk
     obtain ⟨ab, ao, spot⟩ := a
     have hsp : spot = none := (hq k hk').2.1
     subst hsp
     refine ⟨ab, ao, rfl, ?_⟩
     have := (hq k hk').1
     simpa using this
   · have := hb.1
     simp at this
     simp
     omega
   · obtain ⟨i, hi, rfl⟩ := List.mem_map.1 hx2
     have hi' := List.mem_range.1 hi
     have h1 := (hq i hi').2.2
     have h2 := hb.2 (D i) (List.mem_map_of_mem hi)
     exact hZ _ _ _ (by omega) h1
theorem list5 {α : Type} {l : List α} (h : l.length = 5) : ∃ c0 c1 c2 c3 c4, l = [c0, c1, c2, c3, c4] := by
 match l, h with
 | [c0, c1, c2, c3, c4], _ => exact ⟨c0, c1, c2, c3, c4, rfl⟩
theorem num_item {H : Type} {enc : TypeId × Value → H} {W : World} {n : Nat} {a : Addr} {cs : List Value} {y : DataW H × List MemPlace} (h1 : W.cells? 0 a 1 = some cs) (h : DataW.trod enc Tryz.prog W 0 (fun _ => true) true n 3 cs = some y) :
 ∃ x : Int, W.cell? ⟨a.block, a.off, none⟩ = some (.int .i64 x) ∧ a.spot = none := by
 obtain ⟨_, hlen, hcell⟩ := World.cells?_some h1
 obtain ⟨v0, rfl⟩ := list1 hlen
 obtain ⟨k, e1, _, _⟩ := DataW.trod_int Tryz.underlying3 h
 simp only [List.cons.injEq, and_true] at e1
 subst e1
 have c0 := hcell 0 (by omega)
 obtain ⟨ab, ao, spot⟩ := a
 have hspot : spot = none := by simpa [Addr.add] using World.cell?_spot c0
 subst hspot
 rw [Addr.add_lit] at c0
 exact ⟨k, c0, rfl⟩
theorem ed_item {H : Type} {enc : TypeId × Value → H} {W : World} {n : Nat} {a : Addr} {cs : List Value} {y : DataW H × List MemPlace} (h1 : W.cells? 0 a 3 = some cs) (h : DataW.trod enc Tryz.prog W 0 (fun _ => true) true n 61 cs = some y) :
 ∃ x : EdT, (W.cell? ⟨a.block, a.off, none⟩ = some (.int .i64 x.1) ∧ W.cell? ⟨a.block, a.off + 1, none⟩ = some (.int .i64 x.2.1) ∧ W.cell? ⟨a.block, a.off + 2, none⟩ = some (.int .i64 x.2.2)) ∧ a.spot = none := by
 obtain ⟨_, hlen, hcell⟩ := World.cells?_some h1
 obtain ⟨v0, v1, v2, rfl⟩ := list3 hlen
 obtain ⟨xs, n', _, hx, hl, hlen2, hfl⟩ := DataW.trod_struct Tryz.underlying61 h
 obtain ⟨y0, y1, y2, rfl⟩ := list3 hlen2
 have g0 := hfl 0 _ rfl
 have g1 := hfl 1 _ rfl
 have g2 := hfl 2 _ rfl
 simp [cells3] at g0 g1 g2
 obtain ⟨s, e0, _, _⟩ := DataW.trod_int Tryz.underlying3 g0
 obtain ⟨t, e1, _, _⟩ := DataW.trod_int Tryz.underlying3 g1
 obtain ⟨u, e2, _, _⟩ := DataW.trod_int Tryz.underlying3 g2
 simp only [List.cons.injEq, and_true] at e0 e1 e2
 subst e0 e1 e2
 have c0 := hcell 0 (by omega)
 have c1 := hcell 1 (by omega)
 have c2 := hcell 2 (by omega)
 obtain ⟨ab, ao, spot⟩ := a
 have hspot : spot = none := by simpa [Addr.add] using World.cell?_spot c0
 subst hspot
 rw [Addr.add_lit] at c0 c1 c2
 exact ⟨(s, t, u), ⟨c0, c1, c2⟩, rfl⟩
theorem nums_open {H : Type} {enc : TypeId × Value → H} {W : World} {n : Nat} {v : Value} {y : DataW H × List MemPlace} (h : DataW.trod enc Tryz.prog W 0 (fun _ => true) true n 22 [v] = some y) :
 ∃ (a : Option Addr) (c : Nat) (L : List Int), v = .slice a L.length c ∧ RdN W a L ∧ L.length ≤ Rows.uptoBulk y.1 := by
 obtain ⟨a, k, L, rfl, hL, l1, _⟩ := list_open (α := Int) (fun g o x => W.cell? ⟨g, o, none⟩ = some (.int .i64 x)) (fun _ _ => True) (fun _ _ _ _ q => q) Tryz.underlying22 cells3 (fun h1 h2 => by obtain ⟨x, q, s⟩ := num_item h1 h2; exact ⟨x, q, s, trivial⟩) h
 refine ⟨a, k, L, rfl, fun k hk => ?_, l1⟩
 obtain ⟨g, o, e, q⟩ := hL k hk
 exact ⟨g, o, e, by rw [Nat.mul_one] at q; exact q⟩
theorem auto_open {H : Type} {enc : TypeId × Value → H} {W : World} {n : Nat} {v0 v1 v2 v3 v4 : Value} {y : DataW H × List MemPlace} (h : DataW.trod enc Tryz.prog W 0 (fun _ => true) true n 25 [v0, v1, v2, v3, v4] = some y) :
 ∃ (nn mm : Int) (a1 a2 a3 : Option Addr) (c1 c2 c3 : Nat) (St Fi : List Int) (Ed : List EdT), v0 = .int .i64 nn ∧ v1 = .int .i64 mm ∧ v2 = .slice a1 St.length c1 ∧ v3 = .slice a2 Fi.length c2 ∧ v4 = .slice a3 Ed.length c3 ∧ RdA W a1 a2 a3 St Fi Ed ∧
  St.length ≤ Rows.uptoBulk y.1 ∧ Fi.length ≤ Rows.uptoBulk y.1 ∧ Ed.length ≤ Rows.uptoBulk y.1 := by
 obtain ⟨ys, n2, _, hx2, hl2, hlen2, hfl2⟩ := DataW.trod_struct Tryz.underlying25 h
 obtain ⟨z0, z1, z2, z3, z4, rfl⟩ := list5 hlen2
 have g0 := hfl2 0 _ rfl
 have g1 := hfl2 1 _ rfl
 have g2 := hfl2 2 _ rfl
 have g3 := hfl2 3 _ rfl
 have g4 := hfl2 4 _ rfl
 simp [cells3, cellsI, cellsEs] at g0 g1 g2 g3 g4
 obtain ⟨nn, e0, _, _⟩ := DataW.trod_int Tryz.underlying3 g0
 obtain ⟨mm, e1, _, _⟩ := DataW.trod_int Tryz.underlying3 g1
 simp only [List.cons.injEq, and_true] at e0 e1
 have hb0 : Rows.uptoBulk z2.1 ≤ Rows.uptoBulk y.1 ∧ Rows.uptoBulk z3.1 ≤ Rows.uptoBulk y.1 ∧ Rows.uptoBulk z4.1 ≤ Rows.uptoBulk y.1 := by
  rw [hx2]
  simp only [List.map_cons, List.map_nil, Rows.uptoBulk, Rows.uptoBulkAll]
  exact ⟨by omega, by omega, by omega⟩
 obtain ⟨a1, k1, St, e2, hSt, l1⟩ := nums_open g2
 obtain ⟨a2, k2, Fi, e3, hFi, l2⟩ := nums_open g3
 obtain ⟨a3, k3, Ed, e4, hEd, l3, _⟩ := list_open (α := EdT) (fun g o x => W.cell? ⟨g, o, none⟩ = some (.int .i64 x.1) ∧ W.cell? ⟨g, o + 1, none⟩ = some (.int .i64 x.2.1) ∧ W.cell? ⟨g, o + 2, none⟩ = some (.int .i64 x.2.2)) (fun _ _ => True) (fun _ _ _ _ q => q) Tryz.underlying23 cells59 (fun h1 h2 => by obtain ⟨x, q, s⟩ := ed_item h1 h2; exact ⟨x, q, s, trivial⟩) g4
 exact ⟨nn, mm, a1, a2, a3, k1, k2, k3, St, Fi, Ed, e0, e1, e2, e3, e4, ⟨hSt, hFi, hEd⟩, by omega, by omega, by omega⟩
theorem cellsM : Tryz.prog.cellsOf 27 = 12 := by kernel_rfl
theorem list12 {α : Type} {l : List α} (h : l.length = 12) : ∃ a b c d e f g h i j k o, l = [a, b, c, d, e, f, g, h, i, j, k, o] := by
 match l, h with
 | [a, b, c, d, e, f, g, h, i, j, k, o], _ => exact ⟨a, b, c, d, e, f, g, h, i, j, k, o, rfl⟩
theorem list4 {α : Type} {l : List α} (h : l.length = 4) : ∃ a b c d, l = [a, b, c, d] := by
 match l, h with
 | [a, b, c, d], _ => exact ⟨a, b, c, d, rfl⟩
theorem slice_room {H : Type} {enc : TypeId × Value → H} {W : World} {n : Nat} {a : Option Addr} {l c T e : Nat} {y : DataW H × List MemPlace} (hT : Tryz.prog.underlying T = some (.slice e)) (h : DataW.trod enc Tryz.prog W 0 (fun _ => true) true n T [.slice a l c] = some y) : l ≤ c ∧ (a = none → c = 0) := by
 rcases open_slice hT h with ⟨hcs, _⟩ | ⟨_, len, cap, _, _, _, _, hcs, _, hlc, _⟩
 · simp only [List.cons.injEq, and_true] at hcs
   injection hcs with e1 e2 e3
   exact ⟨by omega, fun _ => e3⟩
 · simp only [List.cons.injEq, and_true] at hcs
   injection hcs with e1 e2 e3
   exact ⟨by omega, fun h => by rw [e1] at h; cases h⟩
theorem auto_full {H : Type} {enc : TypeId × Value → H} {W : World} {n : Nat} {v0 v1 v2 v3 v4 : Value} {y : DataW H × List MemPlace} (h : DataW.trod enc Tryz.prog W 0 (fun _ => true) true n 25 [v0, v1, v2, v3, v4] = some y) :
 ∃ (nn mm : Int) (a1 a2 a3 : Option Addr) (c1 c2 c3 : Nat) (St Fi : List Int) (Ed : List EdT), v0 = .int .i64 nn ∧ v1 = .int .i64 mm ∧ v2 = .slice a1 St.length c1 ∧ v3 = .slice a2 Fi.length c2 ∧ v4 = .slice a3 Ed.length c3 ∧ RdA W a1 a2 a3 St Fi Ed ∧
  (St.length ≤ Rows.uptoBulk y.1 ∧ Fi.length ≤ Rows.uptoBulk y.1 ∧ Ed.length ≤ Rows.uptoBulk y.1) ∧ (a1 = none → c1 = 0) ∧ (a2 = none → c2 = 0) ∧ (a3 = none → c3 = 0) ∧ Ed.length ≤ c3 := by
 obtain ⟨nn, mm, a1, a2, a3, c1, c2, c3, St, Fi, Ed, e0, e1, e2, e3, e4, hr, l1, l2, l3⟩ := auto_open h
 subst e2 e3 e4
 obtain ⟨ys, n2, _, hx2, hl2, hlen2, hfl2⟩ := DataW.trod_struct Tryz.underlying25 h
 obtain ⟨z0, z1, z2, z3, z4, rfl⟩ := list5 hlen2
 have g2 := hfl2 2 _ rfl
 have g3 := hfl2 3 _ rfl
 have g4 := hfl2 4 _ rfl
 simp [cellsI, cellsEs] at g2 g3 g4
 have r2 := slice_room Tryz.underlying22 g2
 have r3 := slice_room Tryz.underlying22 g3
 have r4 := slice_room Tryz.underlying23 g4
 exact ⟨nn, mm, a1, a2, a3, c1, c2, c3, St, Fi, Ed, e0, e1, rfl, rfl, rfl, hr, ⟨l1, l2, l3⟩, r2.2, r3.2, r4.2, r4.1⟩
theorem means_full {H : Type} {enc : TypeId × Value → H} {W : World} {base : Nat} {v : Value} {d : DataW H} {p : List MemPlace} (hv : Value.okWide Tryz.prog W .any base 27 v) (h : DataW.Trod enc Tryz.prog W 0 (fun _ => true) true 27 v d p) (hk : Rows.uptoBulk d ≤ 1048576) :
 ∃ (n m n' m' : Int) (a1 a2 a3 b1 b2 b3 aw av : Option Addr) (c1 c2 c3 d1 d2 d3 cw cv : Nat) (St Fi Sb Fb Wd Vd : List Int) (Ed Eb : List EdT), v = .agg #[.int .i64 n, .int .i64 m, .slice a1 St.length c1, .slice a2 Fi.length c2, .slice a3 Ed.length c3, .int .i64 n', .int .i64 m', .slice b1 Sb.length d1, .slice b2 Fb.length d2, .slice b3 Eb.length d3, .slice aw Wd.length cw, .slice av Vd.length cv] ∧ RdA W a1 a2 a3 St Fi Ed ∧ RdA W b1 b2 b3 Sb Fb Eb ∧ RdN W aw Wd ∧ RdN W av Vd ∧ (St.length ≤ 1048576 ∧ Fi.length ≤ 1048576 ∧ Ed.length ≤ 1048576) ∧ (Sb.length ≤ 1048576 ∧ Fb.length ≤ 1048576 ∧ Eb.length ≤ 1048576) ∧ (Wd.length ≤ 1048576 ∧ Wd.length ≤ cw ∧ (aw = none → cw = 0)) ∧ (Vd.length ≤ 1048576 ∧ (av = none → cv = 0)) ∧ Ed.length ≤ c3 := by
 obtain ⟨cs, rfl, hsz⟩ := okWide_struct Tryz.underlying27 hv
 obtain ⟨l⟩ := cs
 have hl12 : l.length = 12 := hsz.trans cellsM
 obtain ⟨x0, x1, x2, x3, x4, x5, x6, x7, x8, x9, x10, x11, rfl⟩ := list12 hl12
 obtain ⟨fuel, hf⟩ := h
 obtain ⟨xs, n, _, hx, hl, hlen, hfl⟩ := DataW.trod_struct Tryz.underlying27 hf
 obtain ⟨y0, y1, y2, y3, rfl⟩ := list4 hlen
 have h0 := hfl 0 _ rfl
 have h1 := hfl 1 _ rfl
 have h2 := hfl 2 _ rfl
 have h3 := hfl 3 _ rfl
 simp [Value.cells, cellsI, cells25] at h0 h1 h2 h3
 simp only [Prod.mk.injEq] at hx
 rw [hx.1] at hk
 simp only [List.map_cons, List.map_nil, Rows.uptoBulk, Rows.uptoBulkAll] at hk
 obtain ⟨n, m, a1, a2, a3, k1, k2, k3, St, Fi, Ed, rfl, rfl, rfl, rfl, rfl, rA, ⟨e1, e2, e3⟩, zA⟩ := auto_full h0
 obtain ⟨n', m', b1, b2, b3, j1, j2, j3, Sb, Fb, Eb, rfl, rfl, rfl, rfl, rfl, rB, f1, f2, f3⟩ := auto_open h1
 obtain ⟨aw, cw, Wd, rfl, rW, l4⟩ := nums_open h2
 obtain ⟨av, cv, Vd, rfl, rV, l6⟩ := nums_open h3
 have zW := slice_room Tryz.underlying22 h2
 have zV := slice_room Tryz.underlying22 h3
 exact ⟨n, m, n', m', a1, a2, a3, b1, b2, b3, aw, av, k1, k2, k3, j1, j2, j3, cw, cv, St, Fi, Sb, Fb, Wd, Vd, Ed, Eb, rfl, rA, rB, rW, rV, ⟨by omega, by omega, by omega⟩, ⟨by omega, by omega, by omega⟩, ⟨by omega, zW.1, zW.2⟩, ⟨by omega, zV.2⟩, zA.2.2.2⟩
end Go.Proofs.YtchoopnjckcohaaGreatDoor.frame
