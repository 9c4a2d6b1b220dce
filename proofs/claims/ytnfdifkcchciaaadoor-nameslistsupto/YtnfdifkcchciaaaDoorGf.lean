import Derived.Test.YtnfdifkcchciaaaDoorTn
import Derived.Test.YtnfdifkcchciaaaDoorAq
namespace Go.Proofs.YtnfdifkcchciaaaDoor
open Go.RowKit Go.Maps

def up {α : Type} (f : Nat → α) (a : Nat) (x : α) : Nat → α := fun j => if j = a then x else f j
theorem up_same {α : Type} (f : Nat → α) (a : Nat) (x : α) : up f a x a = x := if_pos rfl
theorem up_other {α : Type} (f : Nat → α) (a : Nat) (x : α) {j : Nat} (h : j ≠ a) : up f a x j = f j := if_neg h

/-- Lists of texts and of numbers alike: K slices, the i-th lies in cell lo i of block lb i; their rows apart. -/
structure Gm (w0 : World) (K : Nat) (lb lo ty : Nat → Nat) (vs : Nat → Value) (ln : Nat → Nat) (ct : Nat → List Value) (w : World) : Prop where
  row : ∀ i, i < K → w.cell? ⟨lb i, lo i, none⟩ = some (vs i)
  own : ∀ i, i < K → w.ownsRow 0 (ty i) 1 (vs i) (ln i) (ct i)
  sep : ∀ i j, i < K → j < K → i ≠ j → ∀ b, (vs i).ownBlock = some b → (vs j).ownBlock ≠ some b
  nT : ∀ i j, i < K → j < K → (vs i).ownBlock ≠ some (lb j)
  O : Only w0 w (fun b => ∃ i, i < K ∧ (vs i).ownBlock = some b)

section
variable {w0 : World} {K : Nat} {lb lo ty : Nat → Nat} {vs : Nat → Value} {ln : Nat → Nat} {ct : Nat → List Value} {w w' : World}
theorem Gm.below (h : Gm w0 K lb lo ty vs ln ct w) (d : Below w.heap.size w w') : Gm w0 K lb lo ty vs ln ct w' :=
  ⟨fun i hi => cell_below (h.row i hi) d, fun i hi => row_below (h.own i hi) d, h.sep, h.nT, h.O.trans (Only.ofBelow d)⟩
theorem Gm.form (h : Gm w0 K lb lo ty vs ln ct w) {i : Nat} (hi : i < K) : ∃ ao cp, vs i = .slice ao (ln i) cp := form_row (h.own i hi)
theorem Gm.form1 (h : Gm w0 K lb lo ty vs ln ct w) {i : Nat} (hi : i < K) (hl : 0 < ln i) :
    ∃ g cp, vs i = .slice (some ⟨g, 0, none⟩) (ln i) cp ∧ w.ownsRow 0 (ty i) 1 (.slice (some ⟨g, 0, none⟩) (ln i) cp) (ln i) (ct i) := by
  have ho := h.own i hi
  obtain ⟨g, cp, e, _, _⟩ := ho.form hl
  rw [e] at ho
  exact ⟨g, cp, e, ho⟩
theorem Gm.lens (h : Gm w0 K lb lo ty vs ln ct w) {i : Nat} (hi : i < K) : (ct i).length = ln i := by have := (h.own i hi).1; omega
theorem Gm.stored (h : Gm w0 K lb lo ty vs ln ct w) {i k g cp : Nat} (hi : i < K) (he : vs i = .slice (some ⟨g, 0, none⟩) (ln i) cp) (u : Value) :
    Gm w0 K lb lo ty vs ln (up ct i ((ct i).set k u)) (w.setCell ⟨g, k, none⟩ u) := by
  have hb : (vs i).ownBlock = some g := by rw [he]; rfl
  have ho : w.ownsRow 0 (ty i) 1 (.slice (some ⟨g, 0, none⟩) (ln i) cp) (ln i) (ct i) := by have := h.own i hi; rwa [he] at this
  have st := ho.stored k u
  refine ⟨fun j hj => (World.cell?_of_block (Below.heap_setCell w _ _ (lb j) (fun e => h.nT i j hi hj (by rw [hb, e])))).trans (h.row j hj), fun j hj => ?_, h.sep, h.nT, h.O.set (R := fun b => ∃ i, i < K ∧ (vs i).ownBlock = some b) ⟨i, hi, hb⟩ k _⟩
  by_cases e : j = i
  · subst e
    rw [up_same, he]
    exact st.1
  · rw [up_other _ _ _ e]
    exact World.ownsRow.kept (h.own j hj) st.2 (.inr (fun e2 => h.sep j i hj hi e g (by simpa using e2) hb))
end

/-- All lists below i are full of their marks, of list i the first k. -/
def Gk (K : Nat) (mv : Nat → Value) (ct : Nat → List Value) (i k : Nat) : Prop := (∀ j, j < i → j < K → ∀ s ∈ ct j, s = mv j) ∧ ∀ q (h : q < (ct i).length), q < k → (ct i)[q] = mv i
theorem Gk.step {K : Nat} {mv : Nat → Value} {ct : Nat → List Value} {i k : Nat} (h : Gk K mv ct i k) : Gk K mv (up ct i ((ct i).set k (mv i))) i (k + 1) := by
  refine ⟨fun j hj hN s hs => ?_, fun q hq hk => ?_⟩
  · rw [up_other _ _ _ (by omega)] at hs
    exact h.1 j hj hN s hs
  · have e : up ct i ((ct i).set k (mv i)) i = (ct i).set k (mv i) := up_same _ _ _
    simp only [e] at hq ⊢
    rw [List.getElem_set]
    by_cases hkq : k = q
    · rw [if_pos hkq]
    · rw [if_neg hkq]; exact h.2 q (by simpa using hq) (by omega)
theorem Gk.done {K : Nat} {mv : Nat → Value} {ct : Nat → List Value} {i : Nat} (h : Gk K mv ct i (ct i).length) : Gk K mv ct (i + 1) 0 := by
  refine ⟨fun j hj hN s hs => ?_, fun q hq hk => absurd hk (Nat.not_lt_zero _)⟩
  by_cases e : j = i
  · subst e
    obtain ⟨q, hq, rfl⟩ := List.getElem_of_mem hs
    exact h.2 q hq hq
  · exact h.1 j (by omega) hN s hs
theorem Gk.start (K : Nat) (mv : Nat → Value) (ct : Nat → List Value) : Gk K mv ct 0 0 := ⟨fun _ hj => absurd hj (Nat.not_lt_zero _), fun _ _ hq => absurd hq (Nat.not_lt_zero _)⟩

/-- A slice whose first n cells hold one value. -/
def RdV (w : World) (v : Value) (n : Nat) (u : Value) : Prop := (∃ ao c, v = .slice ao n c) ∧ ∀ j, j < n → ∃ g c, v = .slice (some ⟨g, 0, none⟩) n c ∧ w.cell? ⟨g, j, none⟩ = some u
theorem RdV.only {w w' : World} {R : Nat → Prop} {v : Value} {n : Nat} {u : Value} (h : RdV w v n u) (ho : Only w w' R) (hn : ∀ b, v.ownBlock = some b → ¬ R b) : RdV w' v n u := by
  refine ⟨h.1, fun j hj => ?_⟩
  obtain ⟨g, c, rfl, hc⟩ := h.2 j hj
  exact ⟨g, c, rfl, (World.cell?_of_block (w := w) (ho.block g (World.block_lt_of_cell? w _ hc) (hn g rfl))).trans hc⟩
theorem RdV.below {w w' : World} {v : Value} {n : Nat} {u : Value} (h : RdV w v n u) (d : Below w.heap.size w w') : RdV w' v n u := h.only (Only.ofBelow (R := fun _ => False) d) (fun _ _ e => e)
theorem rdv_own {w : World} {ty n m : Nat} {v v' u : Value} (h : w.ownsRow 0 ty 1 v' m (List.replicate m u)) (hf : ∃ ao c, v = .slice ao n c) (hz : ∀ g o p l c, v = .slice (some ⟨g, o, p⟩) l c → o = 0 ∧ p = none) (hb : v'.ownBlock = v.ownBlock) (hm : n ≤ m) : RdV w v n u := by
  refine ⟨hf, fun j hj => ?_⟩
  obtain ⟨g, c, rfl, _, _⟩ := h.form (by omega)
  obtain ⟨ao, c', rfl⟩ := hf
  cases ao with
  | none => simp [Value.ownBlock] at hb
  | some ad =>
    obtain ⟨g2, o2, p2⟩ := ad
    obtain ⟨rfl, rfl⟩ := hz g2 o2 p2 _ _ rfl
    have e : g = g2 := by simpa [Value.ownBlock] using hb
    subst e
    refine ⟨g, c', rfl, ?_⟩
    rw [h.cellAt j (by omega), List.getElem?_replicate, if_pos (by omega)]

/-- Lists below i have been grown (ls), those from e on are as they were; two lists of lists are being made. -/
structure Lq (w0 : World) (K : Nat) (lb lo ty : Nat → Nat) (vs : Nat → Value) (ln : Nat → Nat) (mv : Nat → Value) (aty : Nat → Nat) (i e : Nat) (av : Nat → Value) (an : Nat → Nat) (ax : Nat → List Value) (ls : Nat → Value) (w : World) : Prop where
  row : ∀ j, j < K → w.cell? ⟨lb j, lo j, none⟩ = some (vs j)
  txt : ∀ j, j < K → RdV w (vs j) (ln j) (mv j)
  rest : ∀ j, e ≤ j → j < K → w.ownsRow 0 (ty j) 1 (vs j) (ln j) (List.replicate (ln j) (mv j))
  lng : ∀ j, j < i → w.ownsRow 0 (ty j) 1 (ls j) (ln j + 90) (List.replicate (ln j + 90) (mv j))
  acc : ∀ a, a < 2 → w.ownsRow 0 (aty a) 1 (av a) (an a) (ax a)
  asep : ∀ a c, a < 2 → c < 2 → a ≠ c → ∀ b, (av a).ownBlock = some b → (av c).ownBlock ≠ some b
  sep : ∀ p q, p < K → q < K → p ≠ q → ∀ b, (vs p).ownBlock = some b → (vs q).ownBlock ≠ some b
  nT : ∀ p q, p < K → q < K → (vs p).ownBlock ≠ some (lb q)
  fl : ∀ p, p < K → ∀ g o pp l c, vs p = .slice (some ⟨g, o, pp⟩) l c → o = 0 ∧ pp = none
  vlt : ∀ p, p < K → ∀ b, (vs p).ownBlock = some b → b < w0.heap.size
  tl : ∀ p, p < K → lb p < w0.heap.size
  s2 : ∀ j q, j < i → e ≤ q → q < K → ∀ b, (ls j).ownBlock = some b → (vs q).ownBlock ≠ some b
  s3 : ∀ a, a < 2 → ∀ b, (av a).ownBlock = some b → (∀ q, q < K → (vs q).ownBlock ≠ some b) ∧ (∀ j, j < i → (ls j).ownBlock ≠ some b) ∧ (∀ q, q < K → b ≠ lb q) ∧ w0.heap.size ≤ b
  O : Only w0 w (fun b => ∃ i, i < K ∧ (vs i).ownBlock = some b)

/-- .. in the inner loop: mo is list i, grown k times. -/
structure Iq (w0 : World) (K : Nat) (lb lo ty : Nat → Nat) (vs : Nat → Value) (ln : Nat → Nat) (mv : Nat → Value) (aty : Nat → Nat) (i : Nat) (av : Nat → Value) (an : Nat → Nat) (ax : Nat → List Value) (ls : Nat → Value) (mo : Value) (k : Nat) (w : World) : Prop where
  L : Lq w0 K lb lo ty vs ln mv aty i (i + 1) av an ax ls w
  own : w.ownsRow 0 (ty i) 1 mo (ln i + k) (List.replicate (ln i + k) (mv i))
  c : mo.ownBlock = (vs i).ownBlock ∨ ∀ b, mo.ownBlock = some b → (∀ q, q < K → (vs q).ownBlock ≠ some b) ∧ w0.heap.size ≤ b
  d : ∀ b, mo.ownBlock = some b → (∀ j, j < i → (ls j).ownBlock ≠ some b) ∧ (∀ a, a < 2 → (av a).ownBlock ≠ some b) ∧ ∀ q, q < K → b ≠ lb q

section
variable {w0 : World} {K : Nat} {lb lo ty : Nat → Nat} {vs : Nat → Value} {ln : Nat → Nat} {mv : Nat → Value} {aty : Nat → Nat} {i e : Nat} {av : Nat → Value} {an : Nat → Nat} {ax : Nat → List Value} {ls : Nat → Value} {w w' : World}
theorem lq_below (h : Lq w0 K lb lo ty vs ln mv aty i e av an ax ls w) (d : Below w.heap.size w w') : Lq w0 K lb lo ty vs ln mv aty i e av an ax ls w' :=
  ⟨fun j hj => cell_below (h.row j hj) d, fun j hj => (h.txt j hj).below d, fun j h1 h2 => row_below (h.rest j h1 h2) d, fun j hj => row_below (h.lng j hj) d, fun a ha => row_below (h.acc a ha) d, h.asep, h.sep, h.nT, h.fl, h.vlt, h.tl, h.s2, h.s3, h.O.trans (Only.ofBelow d)⟩

theorem iq_start (h : Lq w0 K lb lo ty vs ln mv aty i i av an ax ls w) (hi : i < K) : Iq w0 K lb lo ty vs ln mv aty i av an ax ls (vs i) 0 w :=
  ⟨⟨h.row, h.txt, fun j h1 h2 => h.rest j (by omega) h2, h.lng, h.acc, h.asep, h.sep, h.nT, h.fl, h.vlt, h.tl, fun j q h1 h2 => h.s2 j q h1 (by omega), h.s3, h.O⟩, h.rest i (Nat.le_refl _) hi, .inl rfl,
    fun b hb => ⟨fun j hj e => h.s2 j i hj (Nat.le_refl _) hi b e hb, fun a ha e => (h.s3 a ha b e).1 i hi hb, fun q hq e => h.nT i q hi hq (by rw [hb, e])⟩⟩
theorem iq_below {mo : Value} {k : Nat} (h : Iq w0 K lb lo ty vs ln mv aty i av an ax ls mo k w) (d : Below w.heap.size w w') : Iq w0 K lb lo ty vs ln mv aty i av an ax ls mo k w' := ⟨lq_below h.L d, row_below h.own d, h.c, h.d⟩

theorem iq_next {mo : Value} {k gv cv : Nat} (h : Iq w0 K lb lo ty vs ln mv aty i av an ax ls mo k w) (hi : i < K) (ho : w'.ownsRow 0 (ty i) 1 (.slice (some ⟨gv, 0, none⟩) (ln i + k + 1) cv) (ln i + k + 1) (List.replicate (ln i + k) (mv i) ++ [mv i]))
    (hl : (mo.ownBlock = some gv ∧ w.grownBy w' (some gv)) ∨ (gv = w.heap.size ∧ w.grownBy w' none)) : Iq w0 K lb lo ty vs ln mv aty i av an ax ls (.slice (some ⟨gv, 0, none⟩) (ln i + k + 1) cv) (k + 1) w' := by
  have ho2 : w'.ownsRow 0 (ty i) 1 (.slice (some ⟨gv, 0, none⟩) (ln i + k + 1) cv) (ln i + (k + 1)) (List.replicate (ln i + (k + 1)) (mv i)) := by
    have e : List.replicate (ln i + (k + 1)) (mv i) = List.replicate (ln i + k) (mv i) ++ [mv i] := by rw [← Nat.add_assoc, List.replicate_succ']
    rw [e]; exact ho
  rcases hl with ⟨hb, hg⟩ | ⟨hb, hg⟩
  · have hd := h.d gv hb
    have Og : Only w w' (fun b => b = gv) := Only.grown hg (fun k hk => by simpa using hk.symm)
    have vne : ∀ q, q < K → q ≠ i → (vs q).ownBlock ≠ some gv := fun q hq hqi hh => by
      rcases h.c with e | e
      · exact h.L.sep q i hq hi hqi gv hh (by rw [← e]; exact hb)
      · exact (e gv hb).1 q hq hh
    have L := h.L
    refine ⟨⟨fun j hj => (World.cell?_of_block (w := w) (Og.block (lb j) (World.block_lt_of_cell? w _ (L.row j hj)) (fun e2 => hd.2.2 j hj e2.symm))).trans (L.row j hj), fun j hj => ?_, fun j h1 h2 => row_only (L.rest j h1 h2) Og (fun b hb2 e2 => vne j h2 (by omega) (by rw [hb2, e2])), fun j hj => row_only (L.lng j hj) Og (fun b hb2 e2 => hd.1 j hj (by rw [hb2, e2])),
      fun a ha => row_only (L.acc a ha) Og (fun b hb2 e2 => hd.2.1 a ha (by rw [hb2, e2])), L.asep, L.sep, L.nT, L.fl, L.vlt, L.tl, L.s2, L.s3, ?_⟩, ho2, ?_, ?_⟩
    · by_cases hji : j = i
      · subst hji
        by_cases hs : (vs j).ownBlock = some gv
        · exact rdv_own ho2 (L.txt j hj).1 (L.fl j hj) (by rw [hs]; rfl) (by omega)
        · exact (L.txt j hj).only Og (fun b hb2 e2 => hs (by rw [hb2, e2]))
      · exact (L.txt j hj).only Og (fun b hb2 e2 => vne j hj hji (by rw [hb2, e2]))
    · refine ⟨Og.os.trans L.O.os, Og.tape.trans L.O.tape, Og.output.trans L.O.output, Nat.le_trans L.O.size Og.size, fun x hx hn => (hg.block x (Nat.lt_of_lt_of_le hx L.O.size) (fun e2 => ?_)).trans (L.O.block x hx hn)⟩
      have e3 : x = gv := by simpa using e2
      subst e3
      rcases h.c with e | e
      · exact hn ⟨i, hi, by rw [← e]; exact hb⟩
      · have := (e x hb).2; omega
    · rcases h.c with e | e
      · exact .inl (by rw [← e, hb]; rfl)
      · exact .inr (fun b hb2 => e b (by rw [hb]; exact hb2))
    · intro b hb2
      have e3 : gv = b := by simpa [Value.ownBlock] using hb2
      subst e3
      exact hd
  · have dB : Below w.heap.size w w' := ⟨hg.os, hg.tape, hg.output, hg.size, fun x hx => hg.block x hx (by simp)⟩
    have L := lq_below h.L dB
    have sz := h.L.O.size
    subst hb
    refine ⟨L, ho2, .inr (fun b hb2 => ?_), fun b hb2 => ?_⟩
    · have e3 : w.heap.size = b := by simpa [Value.ownBlock] using hb2
      exact ⟨fun q hq hh => by have := h.L.vlt q hq b hh; omega, by omega⟩
    · have e3 : w.heap.size = b := by simpa [Value.ownBlock] using hb2
      exact ⟨fun j hj hh => by have := ((h.L.lng j hj).lt b hh).2; omega, fun a ha hh => by have := ((h.L.acc a ha).lt b hh).2; omega, fun q hq => by have := h.L.tl q hq; omega⟩

/-- List i has been grown: it goes to its long ones (a). -/
theorem lq_next {mo lv' : Value} {tmp : Obj} {a : Nat} (ha : a < 2) (h : Iq w0 K lb lo ty vs ln mv aty i av an ax ls mo 90 w) (hi : i < K) (ho : w'.ownsRow 0 (aty a) 1 lv' (an a + 1) (ax a ++ [mo])) (hg : (w.alloc tmp).grownBy w' (av a).ownBlock)
    (hl : lv'.ownBlock = (av a).ownBlock ∨ lv'.ownBlock = some (w.heap.size + 1)) : Lq w0 K lb lo ty vs ln mv aty (i + 1) (i + 1) (up av a lv') (up an a (an a + 1)) (up ax a (ax a ++ [mo])) (up ls i mo) w' := by
  have g2 : w.grownBy w' (av a).ownBlock := (World.grownBy_alloc _ _ _).trans hg
  have Og : Only w w' (fun b => (av a).ownBlock = some b) := Only.grown g2 (fun k hk => hk)
  have L := h.L
  have sz := L.O.size
  have hnew : ∀ b, lv'.ownBlock = some b → (av a).ownBlock = some b ∨ w.heap.size < b := fun b hb => by
    rcases hl with e | e
    · exact .inl (by rw [← e]; exact hb)
    · rw [e] at hb
      have : w.heap.size + 1 = b := by simpa using hb
      exact .inr (by omega)
  refine ⟨fun j hj => (World.cell?_of_block (w := w) (Og.block (lb j) (World.block_lt_of_cell? w _ (L.row j hj)) (fun e => (L.s3 a ha (lb j) e).2.2.1 j hj rfl))).trans (L.row j hj), fun j hj => (L.txt j hj).only Og (fun b hb e => (L.s3 a ha b e).1 j hj hb),
    fun j h1 h2 => row_only (L.rest j h1 h2) Og (fun b hb e => (L.s3 a ha b e).1 j h2 hb), fun j hj => ?_, fun c hc => ?_, fun c d hc hd hcd b hb => ?_, L.sep, L.nT, L.fl, L.vlt, L.tl, fun j q hj h1 h2 b hb => ?_, fun c hc b hb => ?_, ?_⟩
  · by_cases e : j = i
    · subst e
      rw [up_same]
      exact row_only h.own Og (fun b hb e2 => (h.d b hb).2.1 a ha e2)
    · rw [up_other _ _ _ e]
      exact row_only (L.lng j (by omega)) Og (fun b hb e2 => (L.s3 a ha b e2).2.1 j (by omega) hb)
  · by_cases e : c = a
    · subst e
      rw [up_same, up_same, up_same]
      exact ho
    · rw [up_other _ _ _ e, up_other _ _ _ e, up_other _ _ _ e]
      exact row_only (L.acc c hc) Og (fun b hb e2 => L.asep c a hc ha e b hb e2)
  · by_cases e : c = a
    · subst e
      rw [up_same] at hb
      rw [up_other _ _ _ (fun e => hcd e.symm)]
      rcases hnew b hb with h1 | h1
      · exact L.asep c d hc hd hcd b h1
      · exact fun hh => by have := ((L.acc d hd).lt b hh).2; omega
    · rw [up_other _ _ _ e] at hb
      by_cases e2 : d = a
      · subst e2
        rw [up_same]
        intro hh
        rcases hnew b hh with h1 | h1
        · exact L.asep c d hc hd hcd b hb h1
        · have := ((L.acc c hc).lt b hb).2; omega
      · rw [up_other _ _ _ e2]
        exact L.asep c d hc hd hcd b hb
  · by_cases e : j = i
    · subst e
      rw [up_same] at hb
      rcases h.c with e2 | e2
      · exact L.sep j q hi h2 (by omega) b (by rw [← e2]; exact hb)
      · exact (e2 b hb).1 q h2
    · rw [up_other _ _ _ e] at hb
      exact L.s2 j q (by omega) h1 h2 b hb
  · by_cases e : c = a
    · subst e
      rw [up_same] at hb
      rcases hnew b hb with h1 | h1
      · have h3 := L.s3 c hc b h1
        refine ⟨h3.1, fun j hj => ?_, h3.2.2.1, h3.2.2.2⟩
        by_cases e2 : j = i
        · subst e2; rw [up_same]; exact fun hh => (h.d b hh).2.1 c hc h1
        · rw [up_other _ _ _ e2]; exact h3.2.1 j (by omega)
      · refine ⟨fun q hq hh => by have := L.vlt q hq b hh; omega, fun j hj => ?_, fun q hq => by have := L.tl q hq; omega, by omega⟩
        by_cases e2 : j = i
        · subst e2; rw [up_same]; exact fun hh => by have := (h.own.lt b hh).2; omega
        · rw [up_other _ _ _ e2]; exact fun hh => by have := ((L.lng j (by omega)).lt b hh).2; omega
    · rw [up_other _ _ _ e] at hb
      have h3 := L.s3 c hc b hb
      refine ⟨h3.1, fun j hj => ?_, h3.2.2.1, h3.2.2.2⟩
      by_cases e2 : j = i
      · subst e2; rw [up_same]; exact fun hh => (h.d b hh).2.1 c hc hb
      · rw [up_other _ _ _ e2]; exact h3.2.1 j (by omega)
  · refine ⟨Og.os.trans L.O.os, Og.tape.trans L.O.tape, Og.output.trans L.O.output, Nat.le_trans L.O.size Og.size, fun x hx hn => (Og.block x (Nat.lt_of_lt_of_le hx L.O.size) (fun e2 => ?_)).trans (L.O.block x hx hn)⟩
    have := (L.s3 a ha x e2).2.2.2
    omega

theorem lq_start {ct : Nat → List Value} (F : Gm w0 K lb lo ty vs ln ct w) (M : Gk K mv ct K 0) (hv : ∀ p, p < K → ∀ b, (vs p).ownBlock = some b → b < w0.heap.size) (hT : ∀ p, p < K → lb p < w0.heap.size) :
    Lq w0 K lb lo ty vs ln mv aty 0 0 (fun _ => .slice none 0 0) (fun _ => 0) (fun _ => []) (fun _ => undef) w := by
  have e : ∀ j, j < K → ct j = List.replicate (ln j) (mv j) := fun j hj => by
    rw [List.eq_replicate_iff]
    exact ⟨F.lens hj, fun s hs => M.1 j hj hj s hs⟩
  have o : ∀ j, j < K → w.ownsRow 0 (ty j) 1 (vs j) (ln j) (List.replicate (ln j) (mv j)) := fun j hj => by rw [← e j hj]; exact F.own j hj
  exact ⟨F.row, fun j hj => rdv_own (o j hj) (F.form hj) (flat_row (F.own j hj)) rfl (Nat.le_refl _), fun j _ hj => o j hj, fun j hj => absurd hj (Nat.not_lt_zero _), fun a _ => World.ownsRow_nil _ _ _ _, fun a c _ _ _ b hb => by simp [Value.ownBlock] at hb, F.sep, F.nT, fun p hp => flat_row (F.own p hp), hv, hT,
    fun j q hj => absurd hj (Nat.not_lt_zero _), fun a _ b hb => by simp [Value.ownBlock] at hb, F.O⟩
end
end Go.Proofs.YtnfdifkcchciaaaDoor
