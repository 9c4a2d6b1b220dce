import Derived.Test.YtnfdifkcchciaaaDoorAo
namespace Go.Proofs.YtnfdifkcchciaaaDoor
open Go.RowKit Go.Maps

theorem wpList_app1 (w : World) {ops : Array Oper} {rest : List Oper} {o : Oper} {a : Act} {Q : Exit → Act → World → Prop} (hgd : o.guard = none) (s x : Operand)
    (ho : o.op = .call { callee := .builtin .append, args := #[s, x], argTypes := #[22, 22] }) (v : Value) (l : List ByteArray) (t : ByteArray) (hs : a.eval s = v) (hown : OwnS w 0 v l)
    (ad : Addr) (hx : a.eval x = .slice (some ad) 1 1) (hnews : ∀ j u, [Value.string t][j]? = some u → w.cell? (ad.add j) = some u) (hl : l.length ≤ 4194304)
    (h : ∀ gv cv w', OwnS w' 0 (.slice (some ⟨gv, 0, none⟩) (l.length + 1) cv) (l ++ [t]) → ((v.ownBlock = some gv ∧ w.grownBy w' (some gv)) ∨ (gv = w.heap.size ∧ w.grownBy w' none)) →
      wpList Tryd.prog ops Q rest (a.put o.dst (.slice (some ⟨gv, 0, none⟩) (l.length + 1) cv)) w') : wpList Tryd.prog ops Q (o :: rest) a w := by
  refine wpList_plain hgd fun K hK => ?_
  obtain ⟨gv, cv, w', hr, h2, h3⟩ := app_one w o.type v l t hown ad hnews hl
  unfold Oper.wp execOp
  simp only [ho, resolve, invoke, builtin, Sem.run_bind, Sem.run_pure, Result.andThen_ok, List.map_toArray, List.map_cons, List.map_nil, hs, hx, hr]
  exact hK _ _ (h gv cv w' h2 h3)

theorem StrS.only {w w' : World} {R : Nat → Prop} {v : Value} {l : List ByteArray} (h : StrS w v l) (ho : Only w w' R) (hn : ∀ b, v.ownBlock = some b → ¬ R b) : StrS w' v l := by
  obtain ⟨ao, cp, rfl, hr⟩ := h
  refine ⟨ao, cp, rfl, fun k hk => ?_⟩
  obtain ⟨g, o, rfl, hc⟩ := hr k hk
  exact ⟨g, o, rfl, (World.cell?_of_block (w := w) (ho.block g (World.block_lt_of_cell? w _ hc) (hn g rfl))).trans hc⟩

/-- A list whose row was grown in place still reads as it did. -/
theorem pre_str {w : World} {v v' : Value} {n m : Nat} {s : ByteArray} {w1 : World} (h : StrS w1 v (List.replicate n s)) (hz : ∀ g o p l c, v = .slice (some ⟨g, o, p⟩) l c → o = 0 ∧ p = none) (ho : OwnS w 0 v' (List.replicate m s)) (hnm : n ≤ m) (hb : v'.ownBlock = v.ownBlock) : StrS w v (List.replicate n s) := by
  obtain ⟨ao, cp, rfl, _⟩ := h
  refine ⟨ao, cp, rfl, fun k hk => ?_⟩
  simp only [List.length_replicate] at hk
  have ho' : w.ownsRow 0 9 1 v' m (strV (List.replicate m s)) := by have := ho; unfold OwnS at this; rwa [List.length_replicate] at this
  obtain ⟨g, c', rfl, _, _⟩ := ho'.form (by omega)
  cases ao with
  | none => simp [Value.ownBlock] at hb
  | some ad =>
    obtain ⟨g2, o2, p2⟩ := ad
    obtain ⟨rfl, rfl⟩ := hz g2 o2 p2 _ _ rfl
    have e : g = g2 := by simpa [Value.ownBlock] using hb
    subst e
    refine ⟨g, 0, rfl, ?_⟩
    rw [Nat.zero_add, ho'.cellAt k (by omega)]
    simp only [strV, List.getElem?_map, List.getElem?_replicate, List.getElem_replicate]
    rw [if_pos (by omega)]
    rfl

/-- What apart holds in its third loop: lists below i have been grown (ls), those from e on are as they were. -/
structure Lg (w0 : World) (N T : Nat) (vs : Nat → Value) (ln : Nat → Nat) (i e : Nat) (lv : Value) (ls : Nat → Value) (w : World) : Prop where
  row : ∀ j, j < N → w.cell? ⟨T, j, none⟩ = some (vs j)
  txt : ∀ j, j < N → StrS w (vs j) (List.replicate (ln j) (mk j))
  rest : ∀ j, e ≤ j → j < N → OwnS w 0 (vs j) (List.replicate (ln j) (mk j))
  lng : ∀ j, j < i → OwnS w 0 (ls j) (List.replicate (ln j + 90) (mk j))
  lrow : w.ownsRow 0 22 1 lv i ((List.range i).map ls)
  sep : ∀ p q, p < N → q < N → p ≠ q → ∀ b, (vs p).ownBlock = some b → (vs q).ownBlock ≠ some b
  nT : ∀ p, p < N → (vs p).ownBlock ≠ some T
  fl : ∀ p, p < N → ∀ g o pp l c, vs p = .slice (some ⟨g, o, pp⟩) l c → o = 0 ∧ pp = none
  vlt : ∀ p, p < N → ∀ b, (vs p).ownBlock = some b → b < w0.heap.size
  s2 : ∀ j q, j < i → e ≤ q → q < N → ∀ b, (ls j).ownBlock = some b → (vs q).ownBlock ≠ some b
  s3 : ∀ b, lv.ownBlock = some b → (∀ q, q < N → (vs q).ownBlock ≠ some b) ∧ (∀ j, j < i → (ls j).ownBlock ≠ some b) ∧ b ≠ T ∧ w0.heap.size ≤ b
  tl : T < w0.heap.size
  O : Only w0 w (fun b => ∃ i, i < N ∧ (vs i).ownBlock = some b)

section
variable {w0 : World} {N T : Nat} {vs : Nat → Value} {ln : Nat → Nat} {i e : Nat} {lv : Value} {ls : Nat → Value} {w w' : World}

theorem lg_below (h : Lg w0 N T vs ln i e lv ls w) (d : Below w.heap.size w w') : Lg w0 N T vs ln i e lv ls w' :=
  ⟨fun j hj => (d.cell (p := ⟨T, j, none⟩) (World.block_lt_of_cell? w _ (h.row j hj))).trans (h.row j hj), fun j hj => (h.txt j hj).below d, fun j h1 h2 => (h.rest j h1 h2).below d, fun j hj => (h.lng j hj).below d, row_below h.lrow d,
   h.sep, h.nT, h.fl, h.vlt, h.s2, h.s3, h.tl, h.O.trans (Only.ofBelow d)⟩

/-- .. in the inner loop: m is list i, grown k times. -/
structure Inn (w0 : World) (N T : Nat) (vs : Nat → Value) (ln : Nat → Nat) (i : Nat) (lv : Value) (ls : Nat → Value) (mv : Value) (k : Nat) (w : World) : Prop where
  L : Lg w0 N T vs ln i (i + 1) lv ls w
  own : OwnS w 0 mv (List.replicate (ln i + k) (mk i))
  c : mv.ownBlock = (vs i).ownBlock ∨ ∀ b, mv.ownBlock = some b → (∀ q, q < N → (vs q).ownBlock ≠ some b) ∧ w0.heap.size ≤ b
  d : ∀ b, mv.ownBlock = some b → (∀ j, j < i → (ls j).ownBlock ≠ some b) ∧ lv.ownBlock ≠ some b ∧ b ≠ T

theorem inn_start (h : Lg w0 N T vs ln i i lv ls w) (hi : i < N) : Inn w0 N T vs ln i lv ls (vs i) 0 w := by
  refine ⟨⟨h.row, h.txt, fun j h1 h2 => h.rest j (by omega) h2, h.lng, h.lrow, h.sep, h.nT, h.fl, h.vlt, fun j q h1 h2 => h.s2 j q h1 (by omega), h.s3, h.tl, h.O⟩, h.rest i (Nat.le_refl _) hi, .inl rfl, fun b hb => ⟨fun j hj e => h.s2 j i hj (Nat.le_refl _) hi b e hb, fun e => (h.s3 b e).1 i hi hb, fun e => h.nT i hi (by rw [hb, e])⟩⟩

theorem inn_below {mv : Value} {k : Nat} (h : Inn w0 N T vs ln i lv ls mv k w) (d : Below w.heap.size w w') : Inn w0 N T vs ln i lv ls mv k w' := ⟨lg_below h.L d, h.own.below d, h.c, h.d⟩

theorem inn_next {mv : Value} {k gv cv : Nat} (h : Inn w0 N T vs ln i lv ls mv k w) (hi : i < N) (ho : OwnS w' 0 (.slice (some ⟨gv, 0, none⟩) (ln i + k + 1) cv) (List.replicate (ln i + k) (mk i) ++ [mk i]))
    (hl : (mv.ownBlock = some gv ∧ w.grownBy w' (some gv)) ∨ (gv = w.heap.size ∧ w.grownBy w' none)) : Inn w0 N T vs ln i lv ls (.slice (some ⟨gv, 0, none⟩) (ln i + k + 1) cv) (k + 1) w' := by
  have ho2 : OwnS w' 0 (.slice (some ⟨gv, 0, none⟩) (ln i + k + 1) cv) (List.replicate (ln i + (k + 1)) (mk i)) := by
    have e : List.replicate (ln i + (k + 1)) (mk i) = List.replicate (ln i + k) (mk i) ++ [mk i] := by rw [← Nat.add_assoc, List.replicate_succ']
    rw [e]; exact ho
  rcases hl with ⟨hb, hg⟩ | ⟨hb, hg⟩
  · have hd := h.d gv hb
    have Og : Only w w' (fun b => b = gv) := Only.grown hg (fun k hk => by simpa using hk.symm)
    have vne : ∀ q, q < N → q ≠ i → (vs q).ownBlock ≠ some gv := fun q hq hqi hh => by
      rcases h.c with e | e
      · exact h.L.sep q i hq hi hqi gv hh (by rw [← e]; exact hb)
      · exact (e gv hb).1 q hq hh
    have L := h.L
    refine ⟨⟨fun j hj => (World.cell?_of_block (w := w) (Og.block T (World.block_lt_of_cell? w _ (L.row j hj)) (fun e2 => hd.2.2 e2.symm))).trans (L.row j hj), fun j hj => ?_, fun j h1 h2 => row_only (L.rest j h1 h2) Og (fun b hb2 e2 => vne j h2 (by omega) (by rw [hb2, e2])), fun j hj => row_only (L.lng j hj) Og (fun b hb2 e2 => hd.1 j hj (by rw [hb2, e2])),
      row_only L.lrow Og (fun b hb2 e2 => hd.2.1 (by rw [hb2, e2])), L.sep, L.nT, L.fl, L.vlt, L.s2, L.s3, L.tl, ?_⟩, ho2, ?_, ?_⟩
    · by_cases hji : j = i
      · subst hji
        by_cases hs : (vs j).ownBlock = some gv
        · exact pre_str (L.txt j hj) (L.fl j hj) ho2 (by omega) (by rw [hs]; rfl)
        · exact (L.txt j hj).only Og (fun b hb2 e2 => hs (by rw [hb2, e2]))
      · exact (L.txt j hj).only Og (fun b hb2 e2 => vne j hj hji (by rw [hb2, e2]))
    · refine ⟨Og.os.trans L.O.os, Og.tape.trans L.O.tape, Og.output.trans L.O.output, Nat.le_trans L.O.size Og.size, fun x hx hn => (hg.block x (Nat.lt_of_lt_of_le hx L.O.size) (fun e2 => ?_)).trans (L.O.block x hx hn)⟩
      have e3 : x = gv := by simpa using e2
      subst e3
      rcases h.c with e | e
      · exact hn ⟨i, hi, by rw [← e]; exact hb⟩
      · have := (e x hb).2; omega
    · rcases h.c with e | e
      · exact .inl (by rw [← e, hb]; rfl)
      · exact .inr (fun b hb2 => e b (by rw [hb]; exact hb2))
    · intro b hb2
      have e3 : gv = b := by simpa [Value.ownBlock] using hb2
      subst e3
      exact hd
  · have dB : Below w.heap.size w w' := ⟨hg.os, hg.tape, hg.output, hg.size, fun x hx => hg.block x hx (by simp)⟩
    have L := lg_below h.L dB
    have sz := h.L.O.size
    subst hb
    refine ⟨L, ho2, .inr (fun b hb2 => ?_), fun b hb2 => ?_⟩
    · have e3 : w.heap.size = b := by simpa [Value.ownBlock] using hb2
      exact ⟨fun q hq hh => by have := h.L.vlt q hq b hh; omega, by omega⟩
    · have e3 : w.heap.size = b := by simpa [Value.ownBlock] using hb2
      exact ⟨fun j hj hh => by have := (World.ownsRow.lt (h.L.lng j hj) b hh).2; omega, fun hh => by have := (h.L.lrow.lt b hh).2; omega, by have := h.L.tl; omega⟩

/-- List i has been grown: it goes to the long ones. -/
theorem lg_next {mv lv' : Value} {ty : TypeId} (h : Inn w0 N T vs ln i lv ls mv 90 w) (hi : i < N) (ho : w'.ownsRow 0 22 1 lv' (i + 1) ((List.range i).map ls ++ [mv])) (hg : (w.alloc (.cells #[mv] ty)).grownBy w' lv.ownBlock)
    (hl : lv'.ownBlock = lv.ownBlock ∨ lv'.ownBlock = some (w.heap.size + 1)) : Lg w0 N T vs ln (i + 1) (i + 1) lv' (fun j => if j = i then mv else ls j) w' := by
  have g2 : w.grownBy w' lv.ownBlock := (World.grownBy_alloc _ _ _).trans hg
  have Og : Only w w' (fun b => lv.ownBlock = some b) := Only.grown g2 (fun k hk => hk)
  have L := h.L
  have sz := L.O.size
  refine ⟨fun j hj => (World.cell?_of_block (w := w) (Og.block T (World.block_lt_of_cell? w _ (L.row j hj)) (fun e => (L.s3 T e).2.2.1 rfl))).trans (L.row j hj), fun j hj => (L.txt j hj).only Og (fun b hb e => (L.s3 b e).1 j hj hb),
    fun j h1 h2 => row_only (L.rest j h1 h2) Og (fun b hb e => (L.s3 b e).1 j h2 hb), fun j hj => ?_, ?_, L.sep, L.nT, L.fl, L.vlt, fun j q hj h1 h2 b hb => ?_, fun b hb => ?_, L.tl, ?_⟩
  · by_cases e : j = i
    · subst e
      rw [if_pos rfl]
      exact row_only h.own Og (fun b hb e2 => (h.d b hb).2.1 e2)
    · rw [if_neg e]
      exact row_only (L.lng j (by omega)) Og (fun b hb e2 => (L.s3 b e2).2.1 j (by omega) hb)
  · have e : (List.range (i + 1)).map (fun j => if j = i then mv else ls j) = (List.range i).map ls ++ [mv] := by
      rw [List.range_succ, List.map_append]
      congr 1
      · apply List.map_congr_left
        intro j hj
        rw [if_neg (by have := List.mem_range.1 hj; omega)]
      · simp
    rw [e]; exact ho
  · by_cases e : j = i
    · subst e
      rw [if_pos rfl] at hb
      rcases h.c with e2 | e2
      · exact L.sep j q hi h2 (by omega) b (by rw [← e2]; exact hb)
      · exact (e2 b hb).1 q h2
    · rw [if_neg e] at hb
      exact L.s2 j q (by omega) h1 h2 b hb
  · rcases hl with e | e
    · have h3 := L.s3 b (by rw [← e]; exact hb)
      refine ⟨h3.1, fun j hj => ?_, h3.2.2.1, h3.2.2.2⟩
      by_cases e2 : j = i
      · subst e2; rw [if_pos rfl]; exact fun hh => (h.d b hh).2.1 (by rw [← e]; exact hb)
      · rw [if_neg e2]; exact h3.2.1 j (by omega)
    · rw [e] at hb
      have eb : w.heap.size + 1 = b := by simpa using hb
      refine ⟨fun q hq hh => by have := L.vlt q hq b hh; omega, fun j hj => ?_, by have := L.tl; omega, by omega⟩
      by_cases e2 : j = i
      · subst e2; rw [if_pos rfl]; exact fun hh => by have := (World.ownsRow.lt h.own b hh).2; omega
      · rw [if_neg e2]; exact fun hh => by have := (World.ownsRow.lt (L.lng j (by omega)) b hh).2; omega
  · refine ⟨Og.os.trans L.O.os, Og.tape.trans L.O.tape, Og.output.trans L.O.output, Nat.le_trans L.O.size Og.size, fun x hx hn => (Og.block x (Nat.lt_of_lt_of_le hx L.O.size) (fun e2 => ?_)).trans (L.O.block x hx hn)⟩
    have := (L.s3 x e2).2.2.2
    omega
end

end Go.Proofs.YtnfdifkcchciaaaDoor
