import Derived.Test.YtnfdifkcchciaaaDoorFh
namespace Go.Proofs.YtnfdifkcchciaaaDoor
open Go.RowKit Go.Maps

/-- append of one number: in its row, or in a new block, and then nothing that was there has turned. -/
theorem app_oneI (w : World) (ty : TypeId) (v : Value) (n : Nat) (xs : List Value) (x : Int) (hown : w.ownsRow 0 3 1 v n xs) (ad : Addr) (hnews : ∀ j u, [Value.int .i64 x][j]? = some u → w.cell? (ad.add j) = some u) (hl : n ≤ 4194304) :
    ∃ gv cv w', (Builtin.append_ #[28, 28] ty #[v, .slice (some ad) 1 1]).run Tryd.prog w = .ok (.slice (some ⟨gv, 0, none⟩) (n + 1) cv) w' ∧ w'.ownsRow 0 3 1 (.slice (some ⟨gv, 0, none⟩) (n + 1) cv) (n + 1) (xs ++ [.int .i64 x]) ∧
      ((v.ownBlock = some gv ∧ w.grownBy w' (some gv)) ∨ (gv = w.heap.size ∧ w.grownBy w' none)) := by
  obtain ⟨i3, hi3, hz30, hz31, hz32⟩ := info_parts info3
  have h1 : ∀ u ∈ [Value.int .i64 x], u.oneCell' = true := by simp [Value.oneCell']
  obtain ⟨v', w', hr, h2, h3, _, h4⟩ := run_append_own_at (P := Tryd.prog) w 0 28 ty 3 i3 _ 1 8 Tryd.underlying28 hi3 hz30 hz31 hz32 rfl (by omega) v n xs hown ad 1 1 [.int .i64 x] rfl hnews h1 (by unfold maxLen; omega) (by omega) (Nat.zero_le _)
  obtain ⟨gv, cv, rfl, _, _⟩ := h2.form (by omega)
  refine ⟨gv, cv, w', hr, h2, ?_⟩
  have hxl : xs.length = n := by have := hown.1; omega
  rcases hown.2 with ⟨rfl, hn⟩ | ⟨g, cap, cur, rfl, hb, hg, hnc, hcm, hcs, htake⟩
  · right
    refine ⟨?_, h3⟩
    rcases h4 with e | e
    · simp [Value.ownBlock] at e
    · simpa [Value.ownBlock] using e
  · by_cases hroom : n + 1 ≤ cap
    · left
      have hr2 := run_append_room (P := Tryd.prog) w 28 ty 3 i3 Tryd.underlying28 hi3 g n cap cur hg ad 1 1 [.int .i64 x] (by rw [hz31]; rfl) hnews h1 hroom (by rw [hz31]; simp; omega)
      rw [hr] at hr2
      simp only [Result.ok.injEq, Value.slice.injEq, Option.some.injEq, Addr.mk.injEq] at hr2
      have e : gv = g := hr2.1.1.1
      subst e
      exact ⟨rfl, h3⟩
    · right
      have holds : ∀ j u, xs[j]? = some u → w.cell? ((⟨g, 0, none⟩ : Addr).add j) = some u := World.ownsRow.cells hown (g := g) rfl
      have hr2 := run_append_grow (P := Tryd.prog) w 28 ty 3 i3 _ Tryd.underlying28 hi3 hz30 ⟨g, 0, none⟩ n cap xs (by rw [hz31, hxl, Nat.mul_one]) holds ad 1 1 [.int .i64 x] (by rw [hz31]; rfl) hnews (by omega) (by omega) (growslice_fits (by omega) (by rw [hz32]; omega))
      rw [hr] at hr2
      simp only [Result.ok.injEq, Value.slice.injEq, Option.some.injEq, Addr.mk.injEq] at hr2
      refine ⟨hr2.1.1.1, ?_⟩
      rw [hr2.2]
      exact ⟨rfl, rfl, rfl, by simp, fun k hk _ => Below.heap_alloc w.drew _ k hk⟩

theorem wpList_app1I (w : World) {ops : Array Oper} {rest : List Oper} {o : Oper} {a : Act} {Q : Exit → Act → World → Prop} (hgd : o.guard = none) (s x : Operand)
    (ho : o.op = .call { callee := .builtin .append, args := #[s, x], argTypes := #[28, 28] }) (v : Value) (n : Nat) (xs : List Value) (t : Int) (hs : a.eval s = v) (hown : w.ownsRow 0 3 1 v n xs)
    (ad : Addr) (hx : a.eval x = .slice (some ad) 1 1) (hnews : ∀ j u, [Value.int .i64 t][j]? = some u → w.cell? (ad.add j) = some u) (hl : n ≤ 4194304)
    (h : ∀ gv cv w', w'.ownsRow 0 3 1 (.slice (some ⟨gv, 0, none⟩) (n + 1) cv) (n + 1) (xs ++ [.int .i64 t]) → ((v.ownBlock = some gv ∧ w.grownBy w' (some gv)) ∨ (gv = w.heap.size ∧ w.grownBy w' none)) →
      wpList Tryd.prog ops Q rest (a.put o.dst (.slice (some ⟨gv, 0, none⟩) (n + 1) cv)) w') : wpList Tryd.prog ops Q (o :: rest) a w := by
  refine wpList_plain hgd fun K hK => ?_
  obtain ⟨gv, cv, w', hr, h2, h3⟩ := app_oneI w o.type v n xs t hown ad hnews hl
  unfold Oper.wp execOp
  simp only [ho, resolve, invoke, builtin, Sem.run_bind, Sem.run_pure, Result.andThen_ok, List.map_toArray, List.map_cons, List.map_nil, hs, hx, hr]
  exact hK _ _ (h gv cv w' h2 h3)

/-- A slice's numbers, read. -/
def RdI (w : World) (v : Value) (n : Nat) (f : Nat → Int) : Prop := ∀ j, j < n → ∃ g c, v = .slice (some ⟨g, 0, none⟩) n c ∧ w.cell? ⟨g, j, none⟩ = some (.int .i64 (f j))
def neg (a : Int) (n : Nat) : List Value := (List.range n).map fun (j : Nat) => .int .i64 (-a - j)
theorem neg_len (a : Int) (n : Nat) : (neg a n).length = n := by simp [neg]

theorem rd_own {w : World} {v : Value} {n : Nat} {a : Int} {r : List Value} {m : Nat} (h : w.ownsRow 0 3 1 v m (neg a n ++ r)) {u : Value} (hb : u.ownBlock = v.ownBlock) (hu : ∃ ao c, u = .slice ao n c) (hz : ∀ g o p l c, u = .slice (some ⟨g, o, p⟩) l c → o = 0 ∧ p = none) (hm : n ≤ m) : RdI w u n (fun j => -a - j) := by
  intro j hj
  obtain ⟨g, c, rfl, _, _⟩ := h.form (by omega)
  obtain ⟨ao, c', rfl⟩ := hu
  cases ao with
  | none => simp [Value.ownBlock] at hb
  | some ad =>
    obtain ⟨g2, o2, p2⟩ := ad
    obtain ⟨rfl, rfl⟩ := hz g2 o2 p2 _ _ rfl
    have e : g2 = g := by simpa [Value.ownBlock] using hb
    subst e
    refine ⟨g2, c', rfl, ?_⟩
    rw [h.cellAt j (by omega), List.getElem?_append_left (by rw [neg_len]; exact hj)]
    simp [neg, hj]
theorem rd_only {w w' : World} {R : Nat → Prop} {v : Value} {n : Nat} {f : Nat → Int} (h : RdI w v n f) (ho : Only w w' R) (hn : ∀ b, v.ownBlock = some b → ¬ R b) : RdI w' v n f := by
  intro j hj
  obtain ⟨g, c, rfl, hc⟩ := h j hj
  exact ⟨g, c, rfl, (World.cell?_of_block (w := w) (ho.block g (World.block_lt_of_cell? w _ hc) (hn g rfl))).trans hc⟩
theorem flat_row {w : World} {base e size n : Nat} {v : Value} {xs : List Value} (h : w.ownsRow base e size v n xs) : ∀ g o pp l c, v = .slice (some ⟨g, o, pp⟩) l c → o = 0 ∧ pp = none := by
  intro g o pp l c hv
  rcases h.2 with ⟨e, _⟩ | ⟨g', cap, cur, e, _⟩
  · rw [e] at hv; simp at hv
  · rw [e] at hv
    simp at hv
    exact ⟨hv.1.2.1.symm, hv.1.2.2.symm⟩
theorem form_row {w : World} {base e size n : Nat} {v : Value} {xs : List Value} (h : w.ownsRow base e size v n xs) : ∃ ao c, v = .slice ao n c := by
  rcases h.2 with ⟨rfl, rfl⟩ | ⟨g', cap, cur, rfl, _⟩
  · exact ⟨none, 0, rfl⟩
  · exact ⟨_, cap, rfl⟩
/-- Rows of two types don't share a block. -/
theorem rows_apart {w : World} {b1 b2 e1 e2 s1 s2 n1 n2 : Nat} {v1 v2 : Value} {x1 x2 : List Value} (h1 : w.ownsRow b1 e1 s1 v1 n1 x1) (h2 : w.ownsRow b2 e2 s2 v2 n2 x2) (he : e1 ≠ e2) : ∀ b, v1.ownBlock = some b → v2.ownBlock ≠ some b := by
  intro b hb1 hb2
  rcases h1.2 with ⟨rfl, _⟩ | ⟨g, c, cur, rfl, _, hg, _⟩
  · cases hb1
  · rcases h2.2 with ⟨rfl, _⟩ | ⟨g', c', cur', rfl, _, hg', _⟩
    · cases hb2
    · have a1 : g = b := by simpa [Value.ownBlock] using hb1
      have a2 : g' = b := by simpa [Value.ownBlock] using hb2
      subst a1
      subst a2
      rw [hg] at hg'
      simp at hg'
      exact he hg'.2
theorem only_more {w wr w' : World} {R : Nat → Prop} (h : Only w wr R) {r : Option Nat} (hg : wr.grownBy w' r) (hr : ∀ b, r = some b → R b ∨ w.heap.size ≤ b) : Only w w' R :=
  ⟨hg.os.trans h.os, hg.tape.trans h.tape, hg.output.trans h.output, Nat.le_trans h.size hg.size, fun k hk hn => (hg.block k (Nat.lt_of_lt_of_le hk h.size) (fun e => by
    rcases hr k e.symm with h1 | h1
    · exact hn h1
    · omega)).trans (h.block k hk hn)⟩
theorem neg_all {xs : List Value} {a : Int} {n : Nat} (hl : xs.length = n) (h : ∀ j, j < n → xs[j]? = some (.int .i64 (-a - j))) : xs = neg a n := by
  apply List.ext_getElem?
  intro j
  by_cases hj : j < n
  · rw [h j hj]; simp [neg, hj]
  · rw [List.getElem?_eq_none (by omega), List.getElem?_eq_none (by rw [neg_len]; omega)]

/-- What defaced may turn. -/
def DR (vs vx vy : Value) : Nat → Prop := fun b => vs.ownBlock = some b ∨ vx.ownBlock = some b ∨ vy.ownBlock = some b
/-- The texts as they are, whatever they are. -/
def TxR (vs : Value) (n : Nat) (w : World) : Prop := ∃ L : List ByteArray, L.length = n ∧ OwnS w 0 vs L
/-- Numbers of which the first k are laid. -/
def NgR (a : Int) (v : Value) (n k : Nat) (w : World) : Prop := ∃ xs : List Value, (∀ j, j < k → xs[j]? = some (.int .i64 (-a - j))) ∧ w.ownsRow 0 3 1 v n xs
theorem NgR.all {a : Int} {v : Value} {n : Nat} {w : World} (h : NgR a v n n w) : w.ownsRow 0 3 1 v n (neg a n) := by
  obtain ⟨xs, h1, h2⟩ := h
  have e := neg_all (by have := h2.1; omega) h1
  rw [e] at h2
  exact h2
theorem NgR.set {a : Int} {n k g c : Nat} {w : World} (h : NgR a (.slice (some ⟨g, 0, none⟩) n c) n k w) (hk : k < n) : NgR a (.slice (some ⟨g, 0, none⟩) n c) n (k + 1) (w.setCell ⟨g, k, none⟩ (.int .i64 (-a - k))) := by
  obtain ⟨xs, h1, h2⟩ := h
  refine ⟨xs.set k (.int .i64 (-a - k)), fun j hj => ?_, (h2.stored k _).1⟩
  have hl : xs.length = n := by have := h2.1; omega
  rw [List.getElem?_set]
  by_cases e : k = j
  · subst e; rw [if_pos rfl, if_pos (by omega)]
  · rw [if_neg e]; exact h1 j (by omega)
theorem TxR.set {n k g c : Nat} {w : World} (h : TxR (.slice (some ⟨g, 0, none⟩) n c) n w) (s : ByteArray) : TxR (.slice (some ⟨g, 0, none⟩) n c) n (w.setCell ⟨g, k, none⟩ (.string s)) := by
  obtain ⟨L, h1, h2⟩ := h
  refine ⟨L.set k s, by simpa using h1, ?_⟩
  unfold OwnS at h2 ⊢
  rw [h1] at h2
  have := (h2.stored k (.string s)).1
  rw [List.length_set, h1]
  simpa [strV, List.map_set] using this
theorem TxR.keep {vs : Value} {n : Nat} {w w' : World} {R : Nat → Prop} (h : TxR vs n w) (ho : Only w w' R) (hn : ∀ b, vs.ownBlock = some b → ¬ R b) : TxR vs n w' := by
  obtain ⟨L, h1, h2⟩ := h
  exact ⟨L, h1, row_only h2 ho hn⟩
theorem NgR.keep {a : Int} {v : Value} {n k : Nat} {w w' : World} {R : Nat → Prop} (h : NgR a v n k w) (ho : Only w w' R) (hn : ∀ b, v.ownBlock = some b → ¬ R b) : NgR a v n k w' := by
  obtain ⟨xs, h1, h2⟩ := h
  exact ⟨xs, h1, row_only h2 ho hn⟩
end Go.Proofs.YtnfdifkcchciaaaDoor
