import Derived.Test.YtnfdifkcchciaaaDoorTd
import Derived.Test.YtnfdifkcchciaaaDoorFm
namespace Go.Proofs.YtnfdifkcchciaaaDoor
open Go.RowKit Go.Maps

set_option maxRecDepth 100000 in
set_option maxHeartbeats 1000000 in
theorem told_list (hap : Hid ApartSpec) (t bm r : Nat) (most : Int) (v vr : Value) (l : List ByteArray) (s : ByteArray) (n : Int) (sec : Bool) (w : World) (h : Hid (Two t bm r most v vr l w)) :
    Calls Tryd.prog 21 #[.pointer (some ⟨t, 0, none⟩), .pointer (some ⟨r, 0, none⟩), .agg #[.int .i64 4, .bool sec, .string s, .int .i64 n]] w fun e w' => e = .returned (.bool true) ∧ Aft t bm r most v vr l w w' := by
  have d0 := below_new w (.cells #[.int .i64 4, .bool sec, .string s, .int .i64 n] 54)
  have H0 := hide (h.out.below d0)
  have c1 := H0.out.rb.c1
  have HD := hide d0
  clear d0
  go_enter Tryd.func21, Tryd.ntmps21
  go_wp2_with fail
  refine (listed_any hap t bm most v l vr _ (hide H0.out.tb) (hide H0.out.rb.own.str)).mono ?_
  rintro e w1 ⟨rfl, d1⟩
  have A := hide (aft_below h.out (HD.out.trans (d1.mono HD.out.size)))
  clear d1
  go_wp2
  go_ret
  exact ⟨rfl, A.out⟩

set_option maxRecDepth 100000 in
set_option maxHeartbeats 1000000 in
theorem told_other (t bm r : Nat) (most : Int) (v vr : Value) (l : List ByteArray) (kd : Int) (s : ByteArray) (n : Int) (sec : Bool) (w : World) (h : Hid (Two t bm r most v vr l w)) (h1 : (kd == 1) = false) (h2 : (kd == 2) = false) (h3 : (kd == 3) = false) (h4 : (kd == 4) = false) :
    Calls Tryd.prog 21 #[.pointer (some ⟨t, 0, none⟩), .pointer (some ⟨r, 0, none⟩), .agg #[.int .i64 kd, .bool sec, .string s, .int .i64 n]] w fun e w' => e = .returned (.bool true) ∧ Aft t bm r most v vr l w w' := by
  have HD := hide (below_new w (.cells #[.int .i64 kd, .bool sec, .string s, .int .i64 n] 54))
  go_enter Tryd.func21, Tryd.ntmps21
  go_wp2
  go_ret
  exact ⟨rfl, aft_below h.out HD.out⟩

/-- Every call with both. -/
theorem told_any (hap : Hid ApartSpec) (t bm r : Nat) (most : Int) (v vr : Value) (l : List ByteArray) (kd : Int) (s : ByteArray) (n : Int) (sec : Bool) (w : World) (h : Hid (Two t bm r most v vr l w)) (hT : Hid (BytesAt w ∧ 0 < w.heap.size)) (hl : l.length < 2097152) (hz : s.size ≤ 1048576) :
    Calls Tryd.prog 21 #[.pointer (some ⟨t, 0, none⟩), .pointer (some ⟨r, 0, none⟩), .agg #[.int .i64 kd, .bool sec, .string s, .int .i64 n]] w fun e w' => e = .returned (.bool true) ∧ Aft t bm r most v vr l w w' := by
  by_cases k1 : kd = 1
  · subst k1
    cases hv : vld s with
    | false => exact told_add_bad t bm r most v vr l s n sec w h hT hv
    | true =>
      by_cases hs : s ∈ l
      · exact told_add_old t bm r most v vr l s (l.idxOf s) n sec w h hT hv (hide ⟨hs, rfl⟩)
      · by_cases hf : (l.length : Int) < most
        · exact told_add_new t bm r most v vr l s n sec w h hT hv (hide hs) hf hl
        · exact told_add_full t bm r most v vr l s n sec w h hT hv (hide hs) (by omega)
  · by_cases k2 : kd = 2
    · subst k2
      by_cases hs : s ∈ l
      · exact told_find_in t bm r most v vr l s (l.idxOf s) n sec w h hT (hide ⟨hs, rfl⟩)
      · exact told_find_out t bm r most v vr l s n sec w h hT (hide hs) hz
    · by_cases k3 : kd = 3
      · subst k3
        by_cases hn : n < 0 ∨ (l.length : Int) ≤ n
        · exact told_name_out t bm r most v vr l s n sec w h hT hn
        · obtain ⟨j, rfl⟩ : ∃ j : Nat, n = (j : Int) := ⟨n.toNat, by omega⟩
          exact told_name_in t bm r most v vr l s j sec w h hT (by omega)
      · by_cases k4 : kd = 4
        · subst k4
          exact told_list hap t bm r most v vr l s n sec w h
        · exact told_other t bm r most v vr l kd s n sec w h (by simpa using k1) (by simpa using k2) (by simpa using k3) (by simpa using k4)

/-- One of the two places: a pair of tables, or none. -/
structure Sd where
  on : Bool
  t : Nat
  bm : Nat
  r : Nat
  most : Int
  v : Value
  vr : Value
  l : List ByteArray
def Sd.tp (s : Sd) : Value := .pointer (if s.on then some ⟨s.t, 0, none⟩ else none)
def Sd.rp (s : Sd) : Value := .pointer (if s.on then some ⟨s.r, 0, none⟩ else none)
/-- Its blocks. -/
def Sd.W (s : Sd) (k : Nat) : Prop := s.on = true ∧ WB s.t s.bm s.r s.v s.vr k
def Sd.ok (s : Sd) (w : World) : Prop := s.on = true → Two s.t s.bm s.r s.most s.v s.vr s.l w
/-- None. -/
def Sd.none : Sd := ⟨false, 0, 0, 0, 0, .slice Option.none 0 0, .slice Option.none 0 0, []⟩

theorem Sd.tp_off {s : Sd} (h : s.on = false) : s.tp = .pointer Option.none := by simp [Sd.tp, h]
theorem Sd.rp_off {s : Sd} (h : s.on = false) : s.rp = .pointer Option.none := by simp [Sd.rp, h]
theorem Sd.tp_on {s : Sd} (h : s.on = true) : s.tp = .pointer (some ⟨s.t, 0, Option.none⟩) := by simp [Sd.tp, h]
theorem Sd.rp_on {s : Sd} (h : s.on = true) : s.rp = .pointer (some ⟨s.r, 0, Option.none⟩) := by simp [Sd.rp, h]
theorem Sd.W_off {s : Sd} (h : s.on = false) (k : Nat) : ¬ s.W k := fun e => by have := e.1; rw [h] at this; cases this

/-- The two places' pairs: apart from one another and from the arrays at a and b. -/
structure Sp (w0 : World) (a b : Nat) (p q : Sd) (n : Nat) (wr : World) : Prop where
  p1 : p.ok wr
  q1 : q.ok wr
  sep : ∀ k, p.W k → ¬ q.W k
  np : ∀ k, p.W k → k ≠ a ∧ k ≠ b ∧ w0.heap.size ≤ k
  nq : ∀ k, q.W k → k ≠ a ∧ k ≠ b ∧ w0.heap.size ≤ k
  ha : w0.heap.size ≤ a ∧ a < wr.heap.size
  hb : w0.heap.size ≤ b ∧ b < wr.heap.size
  lp : p.l.length ≤ n
  lq : q.l.length ≤ n
  D : Below w0.heap.size w0 wr

theorem Sp.swap {w0 : World} {a b : Nat} {p q : Sd} {n : Nat} {wr : World} (h : Sp w0 a b p q n wr) : Sp w0 a b q p n wr :=
  ⟨h.q1, h.p1, fun k hq hp => h.sep k hp hq, h.nq, h.np, h.ha, h.hb, h.lq, h.lp, h.D⟩
theorem Sp.only {w0 : World} {a b : Nat} {p q : Sd} {n : Nat} {wr wr' : World} {R : Nat → Prop} (h : Sp w0 a b p q n wr) (O : Only wr wr' R) (hp : ∀ k, p.W k → ¬ R k) (hq : ∀ k, q.W k → ¬ R k) (hR : ∀ k, R k → w0.heap.size ≤ k) : Sp w0 a b p q n wr' :=
  ⟨fun e => (h.p1 e).only O (fun k hk => hp k ⟨e, hk⟩), fun e => (h.q1 e).only O (fun k hk => hq k ⟨e, hk⟩), h.sep, h.np, h.nq, ⟨h.ha.1, Nat.lt_of_lt_of_le h.ha.2 O.size⟩, ⟨h.hb.1, Nat.lt_of_lt_of_le h.hb.2 O.size⟩, h.lp, h.lq, h.D.trans (O.toBelow h.D.size hR)⟩
theorem Sp.below {w0 : World} {a b : Nat} {p q : Sd} {n : Nat} {wr wr' : World} (h : Sp w0 a b p q n wr) (d : Below wr.heap.size wr wr') : Sp w0 a b p q n wr' :=
  h.only (Only.ofBelow (R := fun _ => False) d) (fun _ _ h => h) (fun _ _ h => h) (fun _ h => h.elim)
theorem only_set (wr : World) (a i : Nat) (u : Value) : Only wr (wr.setCell ⟨a, i, none⟩ u) (fun k => k = a) :=
  (Only.ofBelow (R := fun k => k = a) (Below.refl _ wr)).set (R := fun k => k = a) (rfl : a = a) i u
theorem Sp.setA {w0 : World} {a b : Nat} {p q : Sd} {n : Nat} {wr : World} (h : Sp w0 a b p q n wr) (i : Nat) (u : Value) : Sp w0 a b p q n (wr.setCell ⟨a, i, none⟩ u) :=
  h.only (only_set wr a i u) (fun k hk => (h.np k hk).1) (fun k hk => (h.nq k hk).1) (fun k hk => by rw [hk]; exact h.ha.1)
theorem Sp.setB {w0 : World} {a b : Nat} {p q : Sd} {n : Nat} {wr : World} (h : Sp w0 a b p q n wr) (i : Nat) (u : Value) : Sp w0 a b p q n (wr.setCell ⟨b, i, none⟩ u) :=
  h.only (only_set wr b i u) (fun k hk => (h.np k hk).2.1) (fun k hk => (h.nq k hk).2.1) (fun k hk => by rw [hk]; exact h.hb.1)
theorem Sp.mono {w0 : World} {a b : Nat} {p q : Sd} {n m : Nat} {wr : World} (h : Sp w0 a b p q n wr) (hm : n ≤ m) : Sp w0 a b p q m wr :=
  ⟨h.p1, h.q1, h.sep, h.np, h.nq, h.ha, h.hb, Nat.le_trans h.lp hm, Nat.le_trans h.lq hm, h.D⟩
theorem Sp.lt {w0 : World} {a b : Nat} {p q : Sd} {n : Nat} {wr : World} (h : Sp w0 a b p q n wr) : ∀ k, p.W k → k < wr.heap.size := fun k hk => (h.p1 hk.1).lt k hk.2
/-- Another pair in the second place, in blocks from B on. -/
theorem Sp.put {w0 : World} {a b : Nat} {p q s : Sd} {n B : Nat} {wr : World} (h : Sp w0 a b p q n wr) (hp : ∀ k, p.W k → k < B) (hB : a < B ∧ b < B) (so : s.ok wr) (sB : ∀ k, s.W k → B ≤ k) (sl : s.l.length ≤ n) : Sp w0 a b p s n wr := by
  obtain ⟨hB1, hB2⟩ := hB
  refine ⟨h.p1, so, fun k hk hs => ?_, h.np, fun k hk => ?_, h.ha, h.hb, h.lp, sl, h.D⟩
  · have := hp k hk; have := sB k hs; omega
  · have := sB k hk; have := h.ha.1; exact ⟨by omega, by omega, by omega⟩
theorem Sp.told {w0 : World} {a b : Nat} {p q : Sd} {n : Nat} {wr w' : World} (h : Sp w0 a b p q n wr) (e : p.on = true) (A : Aft p.t p.bm p.r p.most p.v p.vr p.l wr w') :
    ∃ v' vr' l', Sp w0 a b ⟨true, p.t, p.bm, p.r, p.most, v', vr', l'⟩ q (n + 1) w' ∧ Only wr w' p.W := by
  obtain ⟨v', vr', l', T, O, N, L⟩ := A
  have O' : Only wr w' p.W := ⟨O.os, O.tape, O.output, O.size, fun k hk hn => O.block k hk (fun hw => hn ⟨e, hw⟩)⟩
  have s0 := h.D.size
  have sz := O.size
  obtain ⟨a1, a2⟩ := h.ha
  obtain ⟨b1, b2⟩ := h.hb
  refine ⟨v', vr', l', ⟨fun _ => T, fun eq => (h.q1 eq).only O' (fun k hk hp => h.sep k hp ⟨eq, hk⟩), fun k hk hq => ?_, fun k hk => ?_, h.nq, ⟨a1, by omega⟩, ⟨b1, by omega⟩, ?_, Nat.le_succ_of_le h.lq, h.D.trans (O'.toBelow s0 (fun k hk => (h.np k hk).2.2))⟩, O'⟩
  · rcases N k hk.2 with h1 | h1
    · exact h.sep k ⟨e, h1⟩ hq
    · have := (h.q1 hq.1).lt k hq.2; omega
  · rcases N k hk.2 with h1 | h1
    · exact h.np k ⟨e, h1⟩
    · exact ⟨by omega, by omega, by omega⟩
  · have := h.lp
    show l'.length ≤ n + 1
    omega

/-- The arrays. -/
structure Bx (a b : Nat) (x0 x1 y0 y1 : Value) (w : World) : Prop where
  ca : w.heap[a]? = some (.cells #[x0, x1] 47 (0, 0))
  cb : w.heap[b]? = some (.cells #[y0, y1] 49 (0, 0))
  ne : a ≠ b
theorem Bx.only {a b : Nat} {x0 x1 y0 y1 : Value} {w w' : World} {R : Nat → Prop} (h : Bx a b x0 x1 y0 y1 w) (O : Only w w' R) (ha : ¬ R a) (hb : ¬ R b) : Bx a b x0 x1 y0 y1 w' :=
  ⟨(O.block a (Array.getElem?_eq_some_iff.1 h.ca).1 ha).trans h.ca, (O.block b (Array.getElem?_eq_some_iff.1 h.cb).1 hb).trans h.cb, h.ne⟩
theorem Bx.below {a b : Nat} {x0 x1 y0 y1 : Value} {w w' : World} (h : Bx a b x0 x1 y0 y1 w) (d : Below w.heap.size w w') : Bx a b x0 x1 y0 y1 w' :=
  h.only (Only.ofBelow (R := fun _ => False) d) (fun h => h) (fun h => h)
theorem Bx.a0 {a b : Nat} {x0 x1 y0 y1 : Value} {w : World} (h : Bx a b x0 x1 y0 y1 w) : w.cell? ⟨a, 0, none⟩ = some x0 := by simp [World.cell?, h.ca]
theorem Bx.a1 {a b : Nat} {x0 x1 y0 y1 : Value} {w : World} (h : Bx a b x0 x1 y0 y1 w) : w.cell? ⟨a, 1, none⟩ = some x1 := by simp [World.cell?, h.ca]
theorem Bx.b0 {a b : Nat} {x0 x1 y0 y1 : Value} {w : World} (h : Bx a b x0 x1 y0 y1 w) : w.cell? ⟨b, 0, none⟩ = some y0 := by simp [World.cell?, h.cb]
theorem Bx.b1 {a b : Nat} {x0 x1 y0 y1 : Value} {w : World} (h : Bx a b x0 x1 y0 y1 w) : w.cell? ⟨b, 1, none⟩ = some y1 := by simp [World.cell?, h.cb]
theorem Bx.fa {a b : Nat} {x0 x1 y0 y1 : Value} {w : World} (h : Bx a b x0 x1 y0 y1 w) (j : Nat) : w.frozen? ⟨a, j, none⟩ = false := by simp [World.frozen?, h.ca]
theorem Bx.fb {a b : Nat} {x0 x1 y0 y1 : Value} {w : World} (h : Bx a b x0 x1 y0 y1 w) (j : Nat) : w.frozen? ⟨b, j, none⟩ = false := by simp [World.frozen?, h.cb]
theorem Bx.setA0 {a b : Nat} {x0 x1 y0 y1 : Value} {w : World} (h : Bx a b x0 x1 y0 y1 w) (u : Value) : Bx a b u x1 y0 y1 (w.setCell ⟨a, 0, none⟩ u) :=
  ⟨by rw [heap_setCell_same w a 0 _ 47 u h.ca]; simp, by rw [Below.heap_setCell _ _ _ _ h.ne.symm]; exact h.cb, h.ne⟩
theorem Bx.setA1 {a b : Nat} {x0 x1 y0 y1 : Value} {w : World} (h : Bx a b x0 x1 y0 y1 w) (u : Value) : Bx a b x0 u y0 y1 (w.setCell ⟨a, 1, none⟩ u) :=
  ⟨by rw [heap_setCell_same w a 1 _ 47 u h.ca]; simp, by rw [Below.heap_setCell _ _ _ _ h.ne.symm]; exact h.cb, h.ne⟩
theorem Bx.setB0 {a b : Nat} {x0 x1 y0 y1 : Value} {w : World} (h : Bx a b x0 x1 y0 y1 w) (u : Value) : Bx a b x0 x1 u y1 (w.setCell ⟨b, 0, none⟩ u) :=
  ⟨by rw [Below.heap_setCell _ _ _ _ h.ne]; exact h.ca, by rw [heap_setCell_same w b 0 _ 49 u h.cb]; simp, h.ne⟩
theorem Bx.setB1 {a b : Nat} {x0 x1 y0 y1 : Value} {w : World} (h : Bx a b x0 x1 y0 y1 w) (u : Value) : Bx a b x0 x1 y0 u (w.setCell ⟨b, 1, none⟩ u) :=
  ⟨by rw [Below.heap_setCell _ _ _ _ h.ne]; exact h.ca, by rw [heap_setCell_same w b 1 _ 49 u h.cb]; simp, h.ne⟩

end Go.Proofs.YtnfdifkcchciaaaDoor
