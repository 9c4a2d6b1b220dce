import Derived.Test.YtnfdifkcchciaaaDoorNmath
namespace Go.Proofs.YtnfdifkcchciaaaDoor
open Go.RowKit Go.Maps

theorem len_str {w : World} {v : Value} {l : List ByteArray} (h : StrS w v l) (ty : TypeId) (W : World) : (Builtin.len_ #[22] ty #[v]).run Tryd.prog W = .ok (.int .i64 (l.length : Nat)) W := by
  obtain ⟨ao, cp, rfl, _⟩ := h
  simp [Builtin.len_, run_underlying Tryd.underlying22]
  rfl
theorem len_int {w : World} {v : Value} {l : List Nat} (h : IntS w v l) (ty : TypeId) (W : World) : (Builtin.len_ #[28] ty #[v]).run Tryd.prog W = .ok (.int .i64 (l.length : Nat)) W := by
  obtain ⟨ao, cp, rfl, _⟩ := h
  simp [Builtin.len_, run_underlying Tryd.underlying28]
  rfl

theorem StrS.heap {w w' : World} {v : Value} {l : List ByteArray} (h : StrS w v l) (e : w'.heap = w.heap) : StrS w' v l := by
  obtain ⟨ao, cp, rfl, hr⟩ := h
  refine ⟨ao, cp, rfl, fun k hk => ?_⟩
  obtain ⟨g, o, rfl, hc⟩ := hr k hk
  exact ⟨g, o, rfl, (World.cell?_of_block (w := w) (by rw [e])).trans hc⟩
theorem IntS.heap {w w' : World} {v : Value} {l : List Nat} (h : IntS w v l) (e : w'.heap = w.heap) : IntS w' v l := by
  obtain ⟨ao, cp, rfl, hr⟩ := h
  refine ⟨ao, cp, rfl, fun k hk => ?_⟩
  obtain ⟨g, o, rfl, hc⟩ := hr k hk
  exact ⟨g, o, rfl, (World.cell?_of_block (w := w) (by rw [e])).trans hc⟩
theorem cut_own {w : World} {B m : Nat} {v : Value} {M : List ByteArray} (h : OwnS w B v M) (hm : m ≤ M.length) :
    ∃ vs, (∀ W : World, (Instr.slice 22 v none (some (.int .i64 (m : Int))) none).run Tryd.prog W = .ok vs W) ∧ StrS w vs (M.take m) := by
  have hs := h.str
  rcases h.2 with ⟨rfl, hn⟩ | ⟨g, cap, cur, rfl, hb, hg, hnc, hcm, hcs, htake⟩
  · exact cut_at none 0 0 m M w hs hm (Nat.le_refl _)
  · exact cut_at _ _ cap m M w hs hm hnc

/-- The argument: three lists, a text, a number. -/
def LstV (w : World) (v : Value) (a b c : List ByteArray) : Prop :=
  ∃ vA vB vC hd N, v = .agg #[vA, vB, vC, .string hd, .int .i64 N] ∧ StrS w vA a ∧ StrS w vB b ∧ StrS w vC c ∧ a.length + b.length + c.length ≤ 1048576 ∧ (∀ s ∈ a, s.size ≤ 1048576) ∧ (∀ s ∈ b, s.size ≤ 1048576) ∧ (∀ s ∈ c, s.size ≤ 1048576)

/-- What stays while the law runs: the box with the argument, its lists, the table. -/
structure St (w : World) (g : Nat) (vA vB vC : Value) (a b c : List ByteArray) (W : World) : Prop where
  c0 : W.cell? ⟨g, 0, none⟩ = some vA
  c1 : W.cell? ⟨g, 1, none⟩ = some vB
  c2 : W.cell? ⟨g, 2, none⟩ = some vC
  A : StrS W vA a
  B : StrS W vB b
  C : StrS W vC c
  T : BytesAt W
  P : 0 < W.heap.size
  D : Below w.heap.size w W
theorem St.below {w : World} {g : Nat} {vA vB vC : Value} {a b c : List ByteArray} {W W' : World} (h : St w g vA vB vC a b c W) (d : Below W.heap.size W W') : St w g vA vB vC a b c W' :=
  ⟨(d.cell (p := ⟨g, 0, none⟩) (World.block_lt_of_cell? W _ h.c0)).trans h.c0, (d.cell (p := ⟨g, 1, none⟩) (World.block_lt_of_cell? W _ h.c1)).trans h.c1, (d.cell (p := ⟨g, 2, none⟩) (World.block_lt_of_cell? W _ h.c2)).trans h.c2,
   h.A.below d, h.B.below d, h.C.below d, h.T.below d h.P, Nat.lt_of_lt_of_le h.P d.size, h.D.trans (d.mono h.D.size)⟩
/-- What Merge has answered. -/
structure Got (v p q : Value) (M : List ByteArray) (P Q : List Nat) (W : World) : Prop where
  m : StrS W v M
  p : IntS W p P
  q : IntS W q Q
theorem Got.below {v p q : Value} {M : List ByteArray} {P Q : List Nat} {W W' : World} (h : Got v p q M P Q W) (d : Below W.heap.size W W') : Got v p q M P Q W' := ⟨h.m.below d, h.p.below d, h.q.below d⟩

theorem st_start {w : World} {vA vB vC : Value} {hd : ByteArray} {N : Int} {a b c : List ByteArray} (hA : StrS w vA a) (hB : StrS w vB b) (hC : StrS w vC c) (hT : BytesAt w) (hw0 : 0 < w.heap.size) :
    St w w.heap.size vA vB vC a b c (w.alloc (.cells #[vA, vB, vC, .string hd, .int .i64 N] 39)) := by
  have d := (Below.refl w.heap.size w).alloc (Nat.le_refl _) (.cells #[vA, vB, vC, .string hd, .int .i64 N] 39)
  refine ⟨?_, ?_, ?_, hA.below d, hB.below d, hC.below d, hT.below d hw0, Nat.lt_of_lt_of_le hw0 d.size, d⟩
  all_goals (rw [World.cell?_alloc_at _ _ _ _ rfl]; rfl)

set_option maxRecDepth 100000 in
set_option maxHeartbeats 1000000 in
theorem nm_err (c : Int) (hc : (c != 0) = true) (v : Value) (a b cc : List ByteArray) (w : World) (h : LstV w v a b cc) (hT : BytesAt w) (hw0 : 0 < w.heap.size)
    (hm : ∀ vA vB W, StrS W vA a → StrS W vB b → BytesAt W → 0 < W.heap.size → Calls Tryd.prog 16 #[vA, vB] W fun e w' => e = .returned (.tuple #[.slice none 0 0, .slice none 0 0, .slice none 0 0, .int .i64 c]) ∧ Below W.heap.size W w') :
    Calls Tryd.prog 4 #[v] w fun e w' => e = .returned (.bool true) ∧ Below w.heap.size w w' := by
  obtain ⟨vA, vB, vC, hd, N, rfl, hA, hB, hC, hl, s1, s2, s3⟩ := h
  have S0 := st_start (hd := hd) (N := N) hA hB hC hT hw0
  have HS := hide S0
  have HM := hide hm
  clear hA hB hC hT s1 s2 s3 S0 hm
  go_enter Tryd.func4, Tryd.ntmps4
  go_wp2_with fail
  refine (HM.out vA vB _ HS.out.A HS.out.B HS.out.T HS.out.P).mono ?_
  rintro e w1 ⟨rfl, d1⟩
  have S1 := HS.out.below d1
  have HS1 := hide S1
  clear d1 S1
  go_wp2_with fail
  refine (lives_any _ HS1.out.T HS1.out.P).mono ?_
  rintro e w2 ⟨rfl, d2⟩
  have D := (HS1.out.below d2).D
  clear d2
  go_wp2
  go_ret
  exact ⟨rfl, D⟩

end Go.Proofs.YtnfdifkcchciaaaDoor
