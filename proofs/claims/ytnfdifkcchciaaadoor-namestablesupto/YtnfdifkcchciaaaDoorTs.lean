import Derived.Test.YtnfdifkcchciaaaDoorTe
import Derived.Test.YtnfdifkcchciaaaDoorLiv
namespace Go.Proofs.YtnfdifkcchciaaaDoor
open Go.RowKit Go.Maps

/-- One call of the script. -/
structure Opd where
  kd : Int
  sec : Bool
  s : ByteArray
  n : Int
/-- The cells of a call's record. -/
structure OpAt (w : World) (g o : Nat) (kd : Int) (sec : Bool) (s : ByteArray) (n : Int) : Prop where
  c0 : w.cell? ⟨g, o, none⟩ = some (.int .i64 kd)
  c1 : w.cell? ⟨g, o + 1, none⟩ = some (.bool sec)
  c2 : w.cell? ⟨g, o + 2, none⟩ = some (.string s)
  c3 : w.cell? ⟨g, o + 3, none⟩ = some (.int .i64 n)
def ReadsO (w : World) (ao : Option Addr) (L : List Opd) : Prop := ∀ k (hk : k < L.length), ∃ g o, ao = some ⟨g, o, none⟩ ∧ OpAt w g (o + k * 4) L[k].kd L[k].sec L[k].s L[k].n
theorem OpAt.below {w w' : World} {B g o : Nat} {kd : Int} {sec : Bool} {s : ByteArray} {n : Int} (h : OpAt w g o kd sec s n) (hg : g < B) (d : Below B w w') : OpAt w' g o kd sec s n :=
  ⟨(World.cell?_of_block (d.block g hg)).trans h.c0, (World.cell?_of_block (d.block g hg)).trans h.c1, (World.cell?_of_block (d.block g hg)).trans h.c2, (World.cell?_of_block (d.block g hg)).trans h.c3⟩
theorem ReadsO.below {w w' : World} {ao : Option Addr} {L : List Opd} (h : ReadsO w ao L) (d : Below w.heap.size w w') : ReadsO w' ao L := by
  intro k hk
  obtain ⟨g, o, e, q⟩ := h k hk
  exact ⟨g, o, e, q.below (World.block_lt_of_cell? w _ q.c0) d⟩
/-- The row of the two limits. -/
def Mx (c : Nat) (most other : Int) (w : World) : Prop := w.heap[c]? = some (.cells #[.int .i64 most, .int .i64 other] 50 (0, 0))
theorem Mx.below {c : Nat} {most other : Int} {w w' : World} (h : Mx c most other w) (d : Below w.heap.size w w') : Mx c most other w' := (d.block c (Array.getElem?_eq_some_iff.1 h).1).trans h
theorem Mx.set {c a i : Nat} {most other : Int} {w : World} (h : Mx c most other w) (hn : c ≠ a) (u : Value) : Mx c most other (w.setCell ⟨a, i, none⟩ u) := (Below.heap_setCell _ _ _ _ hn).trans h
theorem Mx.c0 {c : Nat} {most other : Int} {w : World} (h : Mx c most other w) : w.cell? ⟨c, 0, none⟩ = some (.int .i64 most) := by unfold Mx at h; simp [World.cell?, h]
theorem Mx.c1 {c : Nat} {most other : Int} {w : World} (h : Mx c most other w) : w.cell? ⟨c, 1, none⟩ = some (.int .i64 other) := by unfold Mx at h; simp [World.cell?, h]

def Tt1 (w : World) (most other : Int) (p q : Sd) (wr : World) : Prop := Bx w.heap.size (w.heap.size + 1) p.tp q.tp p.rp q.rp wr ∧ Sp w w.heap.size (w.heap.size + 1) p q 0 wr ∧ Mx (w.heap.size + 1 + 1) most other wr
def Tt (w : World) (p q : Sd) (n : Nat) (wr : World) : Prop := Bx w.heap.size (w.heap.size + 1) p.tp q.tp p.rp q.rp wr ∧ Sp w w.heap.size (w.heap.size + 1) p q n wr

theorem tt_start (w : World) (most other : Int) : Tt1 w most other Sd.none Sd.none (((w.alloc (.cells #[.pointer none, .pointer none] 47)).alloc (.cells #[.pointer none, .pointer none] 49)).alloc (.cells #[.int .i64 most, .int .i64 other] 50)) := by
  have d1 := below_new w (.cells #[.pointer none, .pointer none] 47)
  have d2 := below_new (w.alloc (.cells #[.pointer none, .pointer none] 47)) (.cells #[.pointer none, .pointer none] 49)
  have d3 := below_new ((w.alloc (.cells #[.pointer none, .pointer none] 47)).alloc (.cells #[.pointer none, .pointer none] 49)) (.cells #[.int .i64 most, .int .i64 other] 50)
  have h1 := heap_alloc_new w (.cells #[.pointer none, .pointer none] 47)
  have h2 := heap_alloc_new (w.alloc (.cells #[.pointer none, .pointer none] 47)) (.cells #[.pointer none, .pointer none] 49)
  have h3 := heap_alloc_new ((w.alloc (.cells #[.pointer none, .pointer none] 47)).alloc (.cells #[.pointer none, .pointer none] 49)) (.cells #[.int .i64 most, .int .i64 other] 50)
  have s1 : (w.alloc (.cells #[.pointer none, .pointer none] 47)).heap.size = w.heap.size + 1 := by simp
  have s2 : ((w.alloc (.cells #[.pointer none, .pointer none] 47)).alloc (.cells #[.pointer none, .pointer none] 49)).heap.size = w.heap.size + 1 + 1 := by simp
  rw [s1] at h2
  rw [s2] at h3
  refine ⟨⟨?_, ?_, by omega⟩, ⟨fun e => (by cases e), fun e => (by cases e), fun k hk => (by cases hk.1), fun k hk => (by cases hk.1), fun k hk => (by cases hk.1), ⟨Nat.le_refl _, (by simp; omega)⟩, ⟨Nat.le_succ _, (by simp)⟩, Nat.le_refl _, Nat.le_refl _, (d1.trans (d2.mono d1.size)).trans (d3.mono (d1.trans (d2.mono d1.size)).size)⟩, h3⟩
  · rw [d3.block _ (by rw [s2]; omega), d2.block _ (by rw [s1]; omega)]; exact h1
  · rw [d3.block _ (by rw [s2]; omega)]; exact h2

theorem Tt1.below {w : World} {most other : Int} {p q : Sd} {wr wr' : World} (h : Tt1 w most other p q wr) (d : Below wr.heap.size wr wr') : Tt1 w most other p q wr' := ⟨h.1.below d, h.2.1.below d, h.2.2.below d⟩
theorem Tt.below {w : World} {p q : Sd} {n : Nat} {wr wr' : World} (h : Tt w p q n wr) (d : Below wr.heap.size wr wr') : Tt w p q n wr' := ⟨h.1.below d, h.2.below d⟩
theorem Tt1.st {w : World} {most other : Int} {p q : Sd} {wr : World} (h : Tt1 w most other p q wr) : Tt w p q 0 wr := ⟨h.1, h.2.1⟩

/-- Two new tables. -/
theorem two_new {t bm r : Nat} {most : Int} {w w1 w2 : World} (T : Tbl w1 t most (.slice none 0 0) bm []) (ht : w.heap.size ≤ t) (hbm : w.heap.size ≤ bm) (R : RTb w2 r most (.slice none 0 0) []) (hr : w1.heap.size ≤ r) (d1 : Below w.heap.size w w1) (d2 : Below w1.heap.size w1 w2) :
    Two t bm r most (.slice none 0 0) (.slice none 0 0) [] w2 ∧ ∀ k, WB t bm r (.slice none 0 0) (.slice none 0 0) k → w.heap.size ≤ k := by
  have s1 := d1.size
  refine ⟨⟨T.below d2, R, fun k hk hr2 => ?_⟩, ?_⟩
  · have := T.lt k hk
    rcases hr2 with e | e
    · omega
    · simp [Value.ownBlock] at e
  · rintro k ((e | e | e) | (e | e))
    · omega
    · simp [Value.ownBlock] at e
    · omega
    · omega
    · simp [Value.ownBlock] at e

theorem Tt1.new0 {w : World} {most other m : Int} {p q : Sd} {t bm r : Nat} {wr w1 w2 : World} (h : Tt1 w most other p q wr) (T : Tbl w1 t m (.slice none 0 0) bm []) (ht : wr.heap.size ≤ t) (hbm : wr.heap.size ≤ bm) (d1 : Below wr.heap.size wr w1) (R : RTb w2 r m (.slice none 0 0) []) (hr : w1.heap.size ≤ r) (d2 : Below w1.heap.size w1 w2) :
    Tt1 w most other ⟨true, t, bm, r, m, .slice none 0 0, .slice none 0 0, []⟩ q ((w2.setCell ⟨w.heap.size, 0, none⟩ (.pointer (some ⟨t, 0, none⟩))).setCell ⟨w.heap.size + 1, 0, none⟩ (.pointer (some ⟨r, 0, none⟩))) := by
  obtain ⟨W, N⟩ := two_new T ht hbm R hr d1 d2
  have h2 := h.below (d1.trans (d2.mono d1.size))
  have S := (h2.2.1.swap.put (s := ⟨true, t, bm, r, m, .slice none 0 0, .slice none 0 0, []⟩) (B := wr.heap.size) h.2.1.swap.lt ⟨h.2.1.ha.2, h.2.1.hb.2⟩ (fun _ => W) (fun k hk => N k hk.2) (Nat.zero_le _)).swap
  exact ⟨(h2.1.setA0 _).setB0 _, (S.setA 0 _).setB 0 _, (h2.2.2.set (by omega) _).set (by omega) _⟩
theorem Tt1.new1 {w : World} {most other m : Int} {p q : Sd} {t bm r : Nat} {wr w1 w2 : World} (h : Tt1 w most other p q wr) (T : Tbl w1 t m (.slice none 0 0) bm []) (ht : wr.heap.size ≤ t) (hbm : wr.heap.size ≤ bm) (d1 : Below wr.heap.size wr w1) (R : RTb w2 r m (.slice none 0 0) []) (hr : w1.heap.size ≤ r) (d2 : Below w1.heap.size w1 w2) :
    Tt1 w most other p ⟨true, t, bm, r, m, .slice none 0 0, .slice none 0 0, []⟩ ((w2.setCell ⟨w.heap.size, 1, none⟩ (.pointer (some ⟨t, 0, none⟩))).setCell ⟨w.heap.size + 1, 1, none⟩ (.pointer (some ⟨r, 0, none⟩))) := by
  obtain ⟨W, N⟩ := two_new T ht hbm R hr d1 d2
  have h2 := h.below (d1.trans (d2.mono d1.size))
  have S := h2.2.1.put (s := ⟨true, t, bm, r, m, .slice none 0 0, .slice none 0 0, []⟩) (B := wr.heap.size) h.2.1.lt ⟨h.2.1.ha.2, h.2.1.hb.2⟩ (fun _ => W) (fun k hk => N k hk.2) (Nat.zero_le _)
  exact ⟨(h2.1.setA1 _).setB1 _, (S.setA 1 _).setB 1 _, (h2.2.2.set (by omega) _).set (by omega) _⟩
theorem Tt1.bad0 {w : World} {most other : Int} {p q : Sd} {wr : World} (h : Tt1 w most other p q wr) :
    Tt1 w most other Sd.none q ((wr.setCell ⟨w.heap.size, 0, none⟩ (.pointer none)).setCell ⟨w.heap.size + 1, 0, none⟩ (.pointer none)) := by
  have S := (h.2.1.swap.put (s := Sd.none) (B := wr.heap.size) h.2.1.swap.lt ⟨h.2.1.ha.2, h.2.1.hb.2⟩ (fun e => by cases e) (fun k hk => by cases hk.1) (Nat.zero_le _)).swap
  exact ⟨(h.1.setA0 _).setB0 _, (S.setA 0 _).setB 0 _, (h.2.2.set (by omega) _).set (by omega) _⟩
theorem Tt1.bad1 {w : World} {most other : Int} {p q : Sd} {wr : World} (h : Tt1 w most other p q wr) :
    Tt1 w most other p Sd.none ((wr.setCell ⟨w.heap.size, 1, none⟩ (.pointer none)).setCell ⟨w.heap.size + 1, 1, none⟩ (.pointer none)) := by
  have S := h.2.1.put (s := Sd.none) (B := wr.heap.size) h.2.1.lt ⟨h.2.1.ha.2, h.2.1.hb.2⟩ (fun e => by cases e) (fun k hk => by cases hk.1) (Nat.zero_le _)
  exact ⟨(h.1.setA1 _).setB1 _, (S.setA 1 _).setB 1 _, (h.2.2.set (by omega) _).set (by omega) _⟩

theorem Tt.told0 {w : World} {p q : Sd} {n : Nat} {wr w' : World} (h : Tt w p q n wr) (e : p.on = true) (X : Aft p.t p.bm p.r p.most p.v p.vr p.l wr w') : ∃ v' vr' l', Tt w ⟨true, p.t, p.bm, p.r, p.most, v', vr', l'⟩ q (n + 1) w' := by
  obtain ⟨v', vr', l', S, O⟩ := h.2.told e X
  refine ⟨v', vr', l', ?_, S⟩
  have := h.1.only O (fun hk => (h.2.np _ hk).1 rfl) (fun hk => (h.2.np _ hk).2.1 rfl)
  rw [Sd.tp_on e, Sd.rp_on e] at this
  exact this
theorem Tt.told1 {w : World} {p q : Sd} {n : Nat} {wr w' : World} (h : Tt w p q n wr) (e : q.on = true) (X : Aft q.t q.bm q.r q.most q.v q.vr q.l wr w') : ∃ v' vr' l', Tt w p ⟨true, q.t, q.bm, q.r, q.most, v', vr', l'⟩ (n + 1) w' := by
  obtain ⟨v', vr', l', S, O⟩ := h.2.swap.told e X
  refine ⟨v', vr', l', ?_, S.swap⟩
  have := h.1.only O (fun hk => (h.2.nq _ hk).1 rfl) (fun hk => (h.2.nq _ hk).2.1 rfl)
  rw [Sd.tp_on e, Sd.rp_on e] at this
  exact this
theorem Tt.mono {w : World} {p q : Sd} {n m : Nat} {wr : World} (h : Tt w p q n wr) (hm : n ≤ m) : Tt w p q m wr := ⟨h.1, h.2.mono hm⟩

/-- Clones are a pair of their own. -/
theorem two_clone {a t bm r i : Nat} {m : Int} {v vr u : Value} {l : List ByteArray} {w w1 w2 : World} (ha : a < w.heap.size) (T : Tbl w1 t m v bm l) (hT : ∀ k, TB t v bm k → w.heap.size ≤ k) (d1 : Below w.heap.size w w1) (R : RTb w2 r m vr l) (hR : ∀ k, RB r vr k → (w1.setCell ⟨a, i, none⟩ u).heap.size ≤ k) (d2 : Below (w1.setCell ⟨a, i, none⟩ u).heap.size (w1.setCell ⟨a, i, none⟩ u) w2) :
    Two t bm r m v vr l w2 ∧ ∀ k, WB t bm r v vr k → w.heap.size ≤ k := by
  have s1 := d1.size
  have e1 : (w1.setCell ⟨a, i, none⟩ u).heap.size = w1.heap.size := by simp [World.setCell]
  have T2 := T.only (only_set w1 a i u) (fun k hk e => by have := hT k hk; omega)
  refine ⟨⟨T2.below d2, R, fun k hk hr => ?_⟩, ?_⟩
  · have := T.lt k hk; have := hR k hr; omega
  · rintro k (e | e)
    · exact hT k e
    · have := hR k e; omega
theorem Tt.clone0 {w : World} {p q : Sd} {n : Nat} {wr w1 w2 : World} {t bm r : Nat} {v vr : Value} (h : Tt w p q n wr) (T : Tbl w1 t p.most v bm p.l) (hT : ∀ k, TB t v bm k → wr.heap.size ≤ k) (d1 : Below wr.heap.size wr w1) (R : RTb w2 r p.most vr p.l)
    (hR : ∀ k, RB r vr k → (w1.setCell ⟨w.heap.size, 1, none⟩ (.pointer (some ⟨t, 0, none⟩))).heap.size ≤ k) (d2 : Below (w1.setCell ⟨w.heap.size, 1, none⟩ (.pointer (some ⟨t, 0, none⟩))).heap.size (w1.setCell ⟨w.heap.size, 1, none⟩ (.pointer (some ⟨t, 0, none⟩))) w2) :
    Tt w p ⟨true, t, bm, r, p.most, v, vr, p.l⟩ n (w2.setCell ⟨w.heap.size + 1, 1, none⟩ (.pointer (some ⟨r, 0, none⟩))) := by
  obtain ⟨W, N⟩ := two_clone h.2.ha.2 T hT d1 R hR d2
  have S := ((h.2.below d1).setA 1 (.pointer (some ⟨t, 0, none⟩))).below d2
  have X := ((h.1.below d1).setA1 (.pointer (some ⟨t, 0, none⟩))).below d2
  have S2 := S.put (s := ⟨true, t, bm, r, p.most, v, vr, p.l⟩) (B := wr.heap.size) h.2.lt ⟨h.2.ha.2, h.2.hb.2⟩ (fun _ => W) (fun k hk => N k hk.2) h.2.lp
  exact ⟨X.setB1 _, S2.setB 1 _⟩
theorem Tt.clone1 {w : World} {p q : Sd} {n : Nat} {wr w1 w2 : World} {t bm r : Nat} {v vr : Value} (h : Tt w p q n wr) (T : Tbl w1 t q.most v bm q.l) (hT : ∀ k, TB t v bm k → wr.heap.size ≤ k) (d1 : Below wr.heap.size wr w1) (R : RTb w2 r q.most vr q.l)
    (hR : ∀ k, RB r vr k → (w1.setCell ⟨w.heap.size, 0, none⟩ (.pointer (some ⟨t, 0, none⟩))).heap.size ≤ k) (d2 : Below (w1.setCell ⟨w.heap.size, 0, none⟩ (.pointer (some ⟨t, 0, none⟩))).heap.size (w1.setCell ⟨w.heap.size, 0, none⟩ (.pointer (some ⟨t, 0, none⟩))) w2) :
    Tt w ⟨true, t, bm, r, q.most, v, vr, q.l⟩ q n (w2.setCell ⟨w.heap.size + 1, 0, none⟩ (.pointer (some ⟨r, 0, none⟩))) := by
  obtain ⟨W, N⟩ := two_clone h.2.ha.2 T hT d1 R hR d2
  have S := ((h.2.below d1).setA 0 (.pointer (some ⟨t, 0, none⟩))).below d2
  have X := ((h.1.below d1).setA0 (.pointer (some ⟨t, 0, none⟩))).below d2
  have S2 := (S.swap.put (s := ⟨true, t, bm, r, q.most, v, vr, q.l⟩) (B := wr.heap.size) h.2.swap.lt ⟨h.2.ha.2, h.2.hb.2⟩ (fun _ => W) (fun k hk => N k hk.2) h.2.lq).swap
  exact ⟨X.setB0 _, S2.setB 0 _⟩

end Go.Proofs.YtnfdifkcchciaaaDoor
