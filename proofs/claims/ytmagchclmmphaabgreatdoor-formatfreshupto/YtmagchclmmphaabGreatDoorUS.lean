import Derived.Deep.QuietTactic
import Derived.BigQuiet
namespace Go.Proofs.YtmagchclmmphaabGreatDoor

/-! ### A region in two phases: the first operations only read, and all the others wait for them -/
section
variable {P : Program} {md : Region.Mode} {ops : Array Oper} {C : World → Prop}
/-- What has come up has come up behind all that it waits for. -/
def ClosedL (md : Region.Mode) (ops : Array Oper) (listed : Array Bool) : Prop :=
  ∀ (j : Nat) (oj : Oper), ops[j]? = some oj → listed.getD j true = true → ∀ e ∈ oj.after, Region.binds md e = true → listed.getD e.on false = true
/-- Does one wait for another, over some others? -/
def waitsL (md : Region.Mode) (ops : Array Oper) : Nat → Nat → Nat → Bool
  | 0, _, _ => false
  | f + 1, j, i => match ops[j]? with
    | none => false
    | some o => o.after.any fun e => Region.binds md e && (e.on == i || waitsL md ops f e.on i)
theorem getD_of (l : Array Bool) (i : Nat) (h : l.getD i true = false) : l.getD i false = false := by
  rcases Nat.lt_or_ge i l.size with h' | h'
  · simpa [h'] using h
  · simp [Array.getElem?_eq_none h']
theorem getD_to (l : Array Bool) (i : Nat) (h : l.getD i false = true) : l.getD i true = true := by
  rcases Nat.lt_or_ge i l.size with h' | h'
  · simpa [h'] using h
  · simp [Array.getElem?_eq_none h'] at h
theorem waits_un {listed : Array Bool} (hc : ClosedL md ops listed) {i : Nat} (hi : listed.getD i true = false) : ∀ (f j : Nat), waitsL md ops f j i = true → ∃ e oj, ops[j]? = some oj ∧ e ∈ oj.after ∧ Region.binds md e = true ∧ listed.getD e.on false = false
  | 0, _, h => by simp [waitsL] at h
  | f + 1, j, h => by
    unfold waitsL at h
    cases ho : ops[j]? with
    | none => simp [ho] at h
    | some oj =>
      simp only [ho] at h
      obtain ⟨e, he, h2⟩ : ∃ e ∈ oj.after, (Region.binds md e && (e.on == i || waitsL md ops f e.on i)) = true := by
        obtain ⟨i1, hi1, h2⟩ := Array.any_eq_true.1 h
        exact ⟨_, Array.getElem_mem hi1, h2⟩
      simp only [Bool.and_eq_true, Bool.or_eq_true, beq_iff_eq] at h2
      obtain ⟨hb, h3⟩ := h2
      refine ⟨e, oj, rfl, he, hb, ?_⟩
      rcases h3 with rfl | h3
      · exact getD_of _ _ hi
      · cases hx : listed.getD e.on false with
        | false => rfl
        | true =>
          obtain ⟨e', oj', h4, h5, h6, h7⟩ := waits_un hc hi f e.on h3
          have := hc _ _ h4 (getD_to _ _ hx) e' h5 h6
          rw [h7] at this; cases this
/-- The others wait for each of the first n. -/
def phasedB (md : Region.Mode) (ops : Array Oper) (n : Nat) : Bool :=
  (List.range ops.size).all fun j => decide (j < n) || (List.range n).all fun i => waitsL md ops ops.size j i
theorem phased_lt {n : Nat} {listed : Array Bool} (hp : phasedB md ops n = true) (hc : ClosedL md ops listed) {i j : Nat} (hin : i < n) (hi : listed.getD i true = false) (hj : j ∈ Region.ready md ops listed) : j < n := by
  obtain ⟨h0, oj, ho, hall⟩ := mem_ready.1 hj
  rcases Nat.lt_or_ge j n with h | h
  · exact h
  · unfold phasedB at hp
    rw [List.all_eq_true] at hp
    have h1 := hp j (List.mem_range.2 (Array.getElem?_eq_some_iff.1 ho).1)
    simp only [Bool.or_eq_true, decide_eq_true_eq, List.all_eq_true, List.mem_range] at h1
    rcases h1 with h1 | h1
    · exact h1
    · obtain ⟨e, oj', h4, h5, h6, h7⟩ := waits_un hc hi _ _ (h1 i hin)
      rw [ho] at h4
      cases h4
      rw [hall e h5 h6] at h7
      cases h7
theorem ClosedL.set {listed : Array Bool} (hc : ClosedL md ops listed) {j : Nat} (hj : j ∈ Region.ready md ops listed) : ClosedL md ops (listed.setIfInBounds j true) := by
  intro k ok hk hl e he hb
  by_cases hjk : j = k
  · subst hjk
    obtain ⟨h0, oj, ho, hall⟩ := mem_ready.1 hj
    rw [ho] at hk
    cases hk
    exact getD_set_true (hall e he hb)
  · rw [getD_set_ne true hjk] at hl
    exact getD_set_true (hc k ok hk hl e he hb)
/-- Whatever order is picked until the first n have all come up. -/
def wpFirst (P : Program) (md : Region.Mode) (ops : Array Oper) (C : World → Prop) (n : Nat) (T : Array Bool → Act → Prop) : Nat → Array Bool → Act → Prop
  | 0, listed, a => (∀ j, j < n → listed.getD j true = true) ∧ T listed a
  | m + 1, listed, a => Region.ready md ops listed ≠ [] ∧ ∀ i ∈ Region.ready md ops listed, qOp P ops C i (wpFirst P md ops C n T m (listed.setIfInBounds i true)) a
theorem wpAny_of_first {n : Nat} {T : Array Bool → Act → Prop} {Q : Exit → Act → World → Prop} {k : Nat} (hT : ∀ listed a w, C w → T listed a → wpAny P md ops Q k listed a w) :
    ∀ (m : Nat) (listed : Array Bool) (a : Act) (w : World), C w → wpFirst P md ops C n T m listed a → wpAny P md ops Q (k + m) listed a w
  | 0, _, _, _, hw, h => hT _ _ _ hw h.2
  | m + 1, _, _, _, hw, h => ⟨fun h0 => absurd h0 h.1, fun i hi => wpOp_of_qOp hw (fun a' w' hw' => wpAny_of_first hT m _ a' w' hw') (h.2 i hi)⟩
theorem wpFirst_first {n : Nat} {T : Array Bool → Act → Prop} {i : Nat} {oi : Oper} {v : Value} (hi : ops[i]? = some oi) (hin : i < n) (hp : phasedB md ops n = true)
    (hsel : ∀ (j : Nat) (o : Oper) cs b, ops[j]? = some o → o.op ≠ .select cs b) :
    ∀ (fuel : Nat) (listed : Array Bool) (a : Act), ClosedL md ops listed →
      (∀ j oj, ops[j]? = some oj → j ≠ i → listed.getD j true = false → (∀ e ∈ oj.after, Region.binds md e = true → e.on ≠ i) → oi.apart ops oj = true) →
      i ∈ Region.ready md ops listed → YieldsIn P ops C oi v a →
      wpFirst P md ops C n T fuel (listed.setIfInBounds i true) (a.put oi.dst v) → wpFirst P md ops C n T (fuel + 1) listed a := by
  intro fuel
  induction fuel with
  | zero =>
    intro listed a hc _ hr hy H
    refine ⟨fun h => (by rw [h] at hr; cases hr), fun j hj => ?_⟩
    by_cases hji : j = i
    · subst hji; exact hy.qOp hi H
    · have hjn := phased_lt hp hc hin (mem_ready.1 hr).1 hj
      have h1 := H.1 j hjn
      rw [getD_set_ne true (Ne.symm hji), (mem_ready.1 hj).1] at h1
      cases h1
  | succ fuel ih =>
    intro listed a hc hfree hr hy H
    refine ⟨fun h => (by rw [h] at hr; cases hr), fun j hj => ?_⟩
    by_cases hji : j = i
    · subst hji; exact hy.qOp hi H
    · have h1 := H.2 j (ready_mono hj hji)
      obtain ⟨hjun, oj, hoj, hall⟩ := mem_ready.1 hj
      have hnot : ∀ e ∈ oj.after, Region.binds md e = true → e.on ≠ i := fun e he hb heq => by
        have h1 := hall e he hb
        rw [heq, getD_of _ _ (mem_ready.1 hr).1] at h1
        cases h1
      have h2 := qOp_put hoj (hfree j oj hoj hji hjun hnot) (fun cs b => hsel i oi cs b hi) (fun cs b => hsel j oj cs b hoj) hy h1
      have hfree' : ∀ k ok, ops[k]? = some ok → k ≠ i → (listed.setIfInBounds j true).getD k true = false →
          (∀ e ∈ ok.after, Region.binds md e = true → e.on ≠ i) → oi.apart ops ok = true := fun k ok hk hki hun hno => by
        refine hfree k ok hk hki ?_ hno
        by_cases hjk : j = k
        · subst hjk; exact hjun
        · rw [getD_set_ne true hjk] at hun; exact hun
      refine qOp_mono (fun a' h3 => ih (listed.setIfInBounds j true) a' (hc.set hj) hfree' (ready_mono hr (Ne.symm hji)) h3.1 ?_) h2
      rw [Array.setIfInBounds_comm _ _ hji]
      exact h3.2
/-- The first ones, in their order; L: what has come up then. -/
def firstB (md : Region.Mode) (ops : Array Oper) (n : Nat) : Nat → Nat → Array Bool → Array Bool → Bool
  | 0, _, listed, L => (List.range n).all (fun j => listed.getD j true) && decide (listed = L)
  | fuel + 1, k, listed, L => (Region.ready md ops listed).contains k && Region.free md ops listed k && decide (k < n) && firstB md ops n fuel (k + 1) (listed.setIfInBounds k true) L
theorem wpFirst_lex {n : Nat} {L : Array Bool} {Q : Act → Prop} (hs : Region.noSelect ops = true) (hp : phasedB md ops n = true) : ∀ (l : List Oper) (k : Nat) (listed : Array Bool) (a : Act), ClosedL md ops listed → (∀ j o, l[j]? = some o → ops[k + j]? = some o) →
    firstB md ops n l.length k listed L = true → wpQuiet P ops C Q l a → wpFirst P md ops C n (fun listed' a' => listed' = L ∧ Q a') l.length listed a
  | [], _, _, _, _, _, hB, h => by
    simp only [List.length_nil, firstB, Bool.and_eq_true, List.all_eq_true, List.mem_range, decide_eq_true_eq] at hB
    exact ⟨hB.1, hB.2, h⟩
  | o :: l, k, listed, a, hc, hl, hB, h => by
    have h0 : ops[k]? = some o := hl 0 o rfl
    simp only [List.length_cons, firstB, Bool.and_eq_true, decide_eq_true_eq] at hB
    obtain ⟨⟨⟨hr, hf⟩, hk⟩, hB'⟩ := hB
    have hr' : k ∈ Region.ready md ops listed := by simpa using hr
    have hst : qOp P ops C k (wpQuiet P ops C Q l) a := by unfold qOp; simp only [h0]; exact h
    obtain ⟨v, hy, hK⟩ := yieldsIn_of_qOp h0 hst
    exact wpFirst_first h0 hk hp (Region.noSelect_spec hs) l.length listed a hc (Region.free_spec h0 hf) hr' hy
      (wpFirst_lex hs hp l (k + 1) _ _ (hc.set hr') (fun j o' ho => by have := hl (j + 1) o' (by simpa using ho); simpa [Nat.add_assoc, Nat.add_comm 1 j] using this) hB' hK)
/-- The others, one at a time. -/
def lineB (md : Region.Mode) (ops : Array Oper) : Nat → Nat → Array Bool → Bool
  | 0, _, listed => (Region.ready md ops listed).isEmpty
  | fuel + 1, k, listed => decide (Region.ready md ops listed = [k]) && lineB md ops fuel (k + 1) (listed.setIfInBounds k true)
theorem wpAny_line {Q : Exit → Act → World → Prop} : ∀ (l : List Oper) (k : Nat) (listed : Array Bool) (a : Act) (w : World), (∀ j o, l[j]? = some o → ops[k + j]? = some o) →
    lineB md ops l.length k listed = true → wpList P ops Q l a w → wpAny P md ops Q l.length listed a w
  | [], _, _, _, _, _, hB, h => ⟨by simpa [lineB] using hB, h⟩
  | o :: l, k, listed, a, w, hl, hB, h => by
    have h0 : ops[k]? = some o := hl 0 o rfl
    simp only [List.length_cons, lineB, Bool.and_eq_true, decide_eq_true_eq] at hB
    obtain ⟨hr, hB'⟩ := hB
    refine ⟨fun h1 => (by rw [hr] at h1; cases h1), fun j hj => ?_⟩
    rw [hr] at hj
    obtain rfl := List.mem_singleton.1 hj
    have NX : ∀ a' w', wpList P ops Q l a' w' → wpAny P md ops Q l.length (listed.setIfInBounds j true) a' w' := fun a' w' =>
      wpAny_line l (j + 1) _ a' w' (fun i o' ho => by have := hl (i + 1) o' (by simpa using ho); simpa [Nat.add_assoc, Nat.add_comm 1 i] using this) hB'
    unfold wpOp
    simp only [h0]
    unfold wpList at h
    split
    · rename_i hw
      rw [if_pos hw] at h
      exact h.imp (Oper.wp_mono NX) id
    · rename_i hw
      rw [if_neg hw] at h
      exact NX _ _ h
theorem closed_none (md : Region.Mode) (ops : Array Oper) : ClosedL md ops (Array.replicate ops.size false) := by
  intro j oj ho hl
  have := (Array.getElem?_eq_some_iff.1 ho).1
  simp [this] at hl
/-- Both phases, asked of a region's text. -/
def phaseB (ops : Array Oper) (n : Nat) (L : Array Bool) : Bool :=
  Nat.ble n ops.size && Region.noSelect ops && phasedB .any ops n && firstB .any ops n n 0 (Array.replicate ops.size false) L && lineB .any ops (ops.size - n) n L
/-- A region of two phases. -/
theorem wp_region_phase {id : Nat} {Q : Exit → Act → World → Prop} {a : Act} {w : World} {l : List Oper} (n : Nat) (L : Array Bool) (hm : P.follows .mixedOrders = true) (hB : phaseB l.toArray n L = true)
    (h : wpQuiet P l.toArray (fun w' => ∃ n, w' = w.drewN n) (fun a' => ∀ w', (∃ n, w' = w.drewN n) → wpList P l.toArray Q (l.drop n) a' w') (l.take n) a) : (Code.region id l.toArray true).wp P Q a w := by
  unfold phaseB at hB
  simp only [Bool.and_eq_true] at hB
  obtain ⟨⟨⟨⟨h0, h1⟩, h2⟩, h3⟩, h4⟩ := hB
  have hn : n ≤ l.length := by simpa using Nat.le_of_ble_eq_true h0
  refine wp_region_any hm ?_
  have hl1 : (l.take n).length = n := by simp [hn]
  have hl2 : (l.drop n).length = l.toArray.size - n := by simp
  have F := wpFirst_lex (P := P) (C := fun w' => ∃ n, w' = w.drewN n) (L := L) h1 h2 (l.take n) 0 (Array.replicate l.toArray.size false) a (closed_none _ _)
    (fun j o ho => by
      rw [List.getElem?_take] at ho
      split at ho
      · simpa using ho
      · cases ho) (by rw [hl1]; exact h3) h
  have A := wpAny_of_first (Q := Q) (k := l.toArray.size - n) (fun listed a' w' hw' hT => by
    obtain ⟨e, hT⟩ := hT
    subst e
    have := wpAny_line (P := P) (md := .any) (Q := Q) (l.drop n) n _ a' w' (fun j o ho => by rw [List.getElem?_drop] at ho; simpa using ho) (by rw [hl2]; exact h4) (hT w' hw')
    rwa [hl2] at this) _ _ _ (w.drewN 1) ⟨1, rfl⟩ F
  rw [hl1, show l.toArray.size - n + n = l.toArray.size by simp only [List.size_toArray]; omega] at A
  exact A
end
end Go.Proofs.YtmagchclmmphaabGreatDoor
namespace Go.Proofs.YtmagchclmmphaabGreatDoor

/-! ### Two phases, and the last operation of the first makes a block: it may come up ahead of some that read -/
/-- Operations that neither call nor write. -/
def readsOp : Op → Bool
  | .move _ | .load _ _ | .fieldAddr _ _ _ | .indexAddr _ _ _ | .index _ _ _ | .binOp _ _ _ _ _ | .convert _ _ _ | .slice _ _ _ _ _ | .build _ _ | .extract _ _ | .field _ _ _ => true
  | _ => false
theorem run_value {s : Sem Value} {P : Program} {w w' : World} {n : Next} (h : (do pure (.value (← s)) : Sem Next).run P w = .ok n w') : ∃ v, n = .value v := by
  rw [Sem.run_bind] at h
  cases hs : s.run P w with
  | ok v w1 =>
    rw [hs] at h
    cases h
    exact ⟨v, rfl⟩
  | halt x w1 => rw [hs] at h; cases h
theorem reads_value {o : Oper} (ho : readsOp o.op = true) {ρ : Operand → Value} {P : Program} {w w' : World} {n : Next} (h : (execOp ρ o).run P w = .ok n w') : ∃ v, n = .value v := by
  obtain ⟨d, op, ty, ps, af, gu⟩ := o
  cases op
  all_goals first
    | (cases ho; done)
    | exact run_value h
    | (cases h; exact ⟨_, rfl⟩)
section
variable {P : Program} {md : Region.Mode} {ops : Array Oper} {C0 C1 : World → Prop} {al : Nat}
/-- An operation that yields v and leaves the world as it is: by itself, or by a call. -/
def stays (P : Program) (o : Oper) (v : Value) (a : Act) (w : World) : Prop :=
  (execOp a.eval o).run P w = .ok (.value v) w ∨ ∃ f args, (execOp a.eval o).run P w = .ok (.enter f args) w ∧ Calls P f args w fun e w' => e = .returned v ∧ w' = w
/-- What an operation does in the first phase: number al takes a world of the first class to one of the second, the others leave each world as it is. -/
def stepTwo (P : Program) (C0 C1 : World → Prop) (al i : Nat) (o : Oper) (v : Value) (a : Act) : Prop :=
  (i = al → ∀ w, C0 w → ∃ w', (execOp a.eval o).run P w = .ok (.value v) w' ∧ C1 w') ∧ (i ≠ al → ∀ w, C0 w ∨ C1 w → stays P o v a w)
def qTwo (P : Program) (ops : Array Oper) (C0 C1 : World → Prop) (al i : Nat) (K : Act → Prop) (a : Act) : Prop :=
  match ops[i]? with
  | none => K a
  | some o => if Region.wanted o (yielded ops a.tmps) then ∃ v, stepTwo P C0 C1 al i o v a ∧ K (a.put o.dst v) else i ≠ al ∧ K (a.put o.dst undef)
def YieldsTwo (P : Program) (ops : Array Oper) (C0 C1 : World → Prop) (al i : Nat) (o : Oper) (v : Value) (a : Act) : Prop :=
  (Region.wanted o (yielded ops a.tmps) = true ∧ stepTwo P C0 C1 al i o v a) ∨ (Region.wanted o (yielded ops a.tmps) = false ∧ v = undef ∧ i ≠ al)
theorem stepTwo.of_same {i : Nat} {o : Oper} {v : Value} {a a' : Act} (h : stepTwo P C0 C1 al i o v a) (he : execOp a'.eval o = execOp a.eval o) : stepTwo P C0 C1 al i o v a' := by
  unfold stepTwo stays at *
  rwa [he]
theorem YieldsTwo.of_same {i : Nat} {o : Oper} {v : Value} {a a' : Act} (hy : YieldsTwo P ops C0 C1 al i o v a) (he : execOp a'.eval o = execOp a.eval o)
    (hw : Region.wanted o (yielded ops a'.tmps) = Region.wanted o (yielded ops a.tmps)) : YieldsTwo P ops C0 C1 al i o v a' := by
  rcases hy with ⟨h1, h2⟩ | ⟨h1, h2⟩
  · exact .inl ⟨hw.trans h1, h2.of_same he⟩
  · exact .inr ⟨hw.trans h1, h2⟩
theorem YieldsTwo.qTwo {i : Nat} {o : Oper} {v : Value} {a : Act} (hi : ops[i]? = some o) (hy : YieldsTwo P ops C0 C1 al i o v a) {K : Act → Prop} (h : K (a.put o.dst v)) : qTwo P ops C0 C1 al i K a := by
  unfold YtmagchclmmphaabGreatDoor.qTwo
  simp only [hi]
  rcases hy with ⟨hw, hv⟩ | ⟨hw, rfl, hn⟩
  · simp only [hw, if_true]; exact ⟨v, hv, h⟩
  · simp only [hw, Bool.false_eq_true, if_false]; exact ⟨hn, h⟩
theorem yieldsTwo_of {i : Nat} {o : Oper} {a : Act} {K : Act → Prop} (hi : ops[i]? = some o) (h : qTwo P ops C0 C1 al i K a) : ∃ v, YieldsTwo P ops C0 C1 al i o v a ∧ K (a.put o.dst v) := by
  unfold qTwo at h
  simp only [hi] at h
  by_cases hw : Region.wanted o (yielded ops a.tmps) = true
  · simp only [hw, if_true] at h
    obtain ⟨v, h1, h2⟩ := h
    exact ⟨v, .inl ⟨hw, h1⟩, h2⟩
  · simp only [hw] at h
    exact ⟨undef, .inr ⟨by simpa using hw, rfl, h.1⟩, h.2⟩
theorem qTwo_mono {i : Nat} {a : Act} {K K' : Act → Prop} (h : ∀ a, K a → K' a) (hh : qTwo P ops C0 C1 al i K a) : qTwo P ops C0 C1 al i K' a := by
  unfold qTwo at *
  split
  · rename_i ho; simp only [ho] at hh; exact h _ hh
  · rename_i o ho
    simp only [ho] at hh
    split
    · rename_i hw
      simp only [hw, if_true] at hh
      obtain ⟨v, h1, h2⟩ := hh
      exact ⟨v, h1, h _ h2⟩
    · rename_i hw
      simp only [hw] at hh
      exact ⟨hh.1, h _ hh.2⟩
theorem qTwo_put {i j : Nat} {oi oj : Oper} {v : Value} (hj : ops[j]? = some oj) (hap : oi.apart ops oj = true)
    (hsi : ∀ cs b, oi.op ≠ .select cs b) (hsj : ∀ cs b, oj.op ≠ .select cs b) {K : Act → Prop} {a : Act}
    (hy : YieldsTwo P ops C0 C1 al i oi v a) (h : qTwo P ops C0 C1 al j K (a.put oi.dst v)) :
    qTwo P ops C0 C1 al j (fun a' => YieldsTwo P ops C0 C1 al i oi v a' ∧ K (a'.put oi.dst v)) a := by
  obtain ⟨h1, h2, h3⟩ := Oper.apart_spec hap
  have keep : ∀ (a : Act), YieldsTwo P ops C0 C1 al i oi v a → ∀ u, YieldsTwo P ops C0 C1 al i oi v (a.put oj.dst u) := fun a hy u =>
    hy.of_same (execOp_put oi hsi a oj.dst u h3) (wanted_put oi a oj.dst u h3)
  unfold qTwo at *
  simp only [hj] at *
  rw [wanted_put oj a oi.dst v h1] at h
  split
  · rename_i hw
    simp only [hw, if_true] at h
    obtain ⟨u, hu, hn⟩ := h
    exact ⟨u, hu.of_same (execOp_put oj hsj a oi.dst v h1).symm, keep a hy u, by rw [← Act.put_comm a v u h2]; exact hn⟩
  · rename_i hw
    simp only [hw] at h
    exact ⟨h.1, keep a hy _, by rw [← Act.put_comm a v undef h2]; exact h.2⟩
def wpTwo (P : Program) (md : Region.Mode) (ops : Array Oper) (C0 C1 : World → Prop) (al n : Nat) (T : Array Bool → Act → Prop) : Nat → Array Bool → Act → Prop
  | 0, listed, a => (∀ j, j < n → listed.getD j true = true) ∧ T listed a
  | m + 1, listed, a => Region.ready md ops listed ≠ [] ∧ ∀ i ∈ Region.ready md ops listed, qTwo P ops C0 C1 al i (wpTwo P md ops C0 C1 al n T m (listed.setIfInBounds i true)) a
theorem getD_set_self {listed : Array Bool} {i : Nat} (h : listed.getD i true = false) : (listed.setIfInBounds i true).getD i true = true := by
  rcases Nat.lt_or_ge i listed.size with h' | h'
  · simp [h']
  · simp [Array.getElem?_eq_none h'] at h
theorem wpAny_of_two {n : Nat} {T : Array Bool → Act → Prop} {Q : Exit → Act → World → Prop} {k : Nat} (hal : al < n) (hT : ∀ listed a w, C1 w → T listed a → wpAny P md ops Q k listed a w) :
    ∀ (m : Nat) (listed : Array Bool) (a : Act) (w : World), (listed.getD al true = false → C0 w) → (listed.getD al true = true → C1 w) → wpTwo P md ops C0 C1 al n T m listed a → wpAny P md ops Q (k + m) listed a w
  | 0, listed, _, _, _, h1, h => hT _ _ _ (h1 (h.1 al hal)) h.2
  | m + 1, listed, a, w, h0, h1, h => by
    refine ⟨fun z => absurd z h.1, fun i hi => ?_⟩
    have hq := h.2 i hi
    have hun := (mem_ready.1 hi).1
    unfold qTwo at hq
    unfold wpOp
    split
    · rename_i ho
      have := (mem_ready.1 hi).2
      obtain ⟨o, ho2, _⟩ := this
      rw [ho] at ho2; cases ho2
    · rename_i o ho
      simp only [ho] at hq
      split
      · rename_i hw
        simp only [hw, if_true] at hq
        obtain ⟨v, hs, hn⟩ := hq
        left
        unfold Oper.wp
        by_cases hia : i = al
        · have hun' : listed.getD al true = false := hia ▸ hun
          obtain ⟨w', hr, hc⟩ := hs.1 hia w (h0 hun')
          rw [hr]
          exact wpAny_of_two hal hT m _ _ w' (fun z => (by rw [hia, getD_set_self hun'] at z; cases z)) (fun _ => hc) hn
        · have hc : C0 w ∨ C1 w := by
            cases hz : listed.getD al true
            · exact .inl (h0 hz)
            · exact .inr (h1 hz)
          have NX := wpAny_of_two hal hT m _ _ w (fun z => h0 (by rwa [getD_set_ne true hia] at z)) (fun z => h1 (by rwa [getD_set_ne true hia] at z)) hn
          rcases hs.2 hia w hc with hr | ⟨f, args, hr, hcl⟩
          · rw [hr]
            exact NX
          · rw [hr]
            exact hcl.mono fun e w'' ⟨he, hw''⟩ => by subst he; subst hw''; exact NX
      · rename_i hw
        simp only [hw] at hq
        exact wpAny_of_two hal hT m _ _ w (fun z => h0 (by rwa [getD_set_ne true hq.1] at z)) (fun z => h1 (by rwa [getD_set_ne true hq.1] at z)) hq.2
theorem wpTwo_first {n : Nat} {T : Array Bool → Act → Prop} {i : Nat} {oi : Oper} {v : Value} (hi : ops[i]? = some oi) (hin : i < n) (hp : phasedB md ops n = true)
    (hsel : ∀ (j : Nat) (o : Oper) cs b, ops[j]? = some o → o.op ≠ .select cs b) :
    ∀ (fuel : Nat) (listed : Array Bool) (a : Act), ClosedL md ops listed →
      (∀ j oj, ops[j]? = some oj → j ≠ i → listed.getD j true = false → (∀ e ∈ oj.after, Region.binds md e = true → e.on ≠ i) → oi.apart ops oj = true) →
      i ∈ Region.ready md ops listed → YieldsTwo P ops C0 C1 al i oi v a →
      wpTwo P md ops C0 C1 al n T fuel (listed.setIfInBounds i true) (a.put oi.dst v) → wpTwo P md ops C0 C1 al n T (fuel + 1) listed a := by
  intro fuel
  induction fuel with
  | zero =>
    intro listed a hc _ hr hy H
    refine ⟨fun h => (by rw [h] at hr; cases hr), fun j hj => ?_⟩
    by_cases hji : j = i
    · subst hji; exact hy.qTwo hi H
    · have hjn := phased_lt hp hc hin (mem_ready.1 hr).1 hj
      have h1 := H.1 j hjn
      rw [getD_set_ne true (Ne.symm hji), (mem_ready.1 hj).1] at h1
      cases h1
  | succ fuel ih =>
    intro listed a hc hfree hr hy H
    refine ⟨fun h => (by rw [h] at hr; cases hr), fun j hj => ?_⟩
    by_cases hji : j = i
    · subst hji; exact hy.qTwo hi H
    · have h1 := H.2 j (ready_mono hj hji)
      obtain ⟨hjun, oj, hoj, hall⟩ := mem_ready.1 hj
      have hnot : ∀ e ∈ oj.after, Region.binds md e = true → e.on ≠ i := fun e he hb heq => by
        have h1 := hall e he hb
        rw [heq, getD_of _ _ (mem_ready.1 hr).1] at h1
        cases h1
      have h2 := qTwo_put hoj (hfree j oj hoj hji hjun hnot) (fun cs b => hsel i oi cs b hi) (fun cs b => hsel j oj cs b hoj) hy h1
      have hfree' : ∀ k ok, ops[k]? = some ok → k ≠ i → (listed.setIfInBounds j true).getD k true = false →
          (∀ e ∈ ok.after, Region.binds md e = true → e.on ≠ i) → oi.apart ops ok = true := fun k ok hk hki hun hno => by
        refine hfree k ok hk hki ?_ hno
        by_cases hjk : j = k
        · subst hjk; exact hjun
        · rw [getD_set_ne true hjk] at hun; exact hun
      refine qTwo_mono (fun a' h3 => ih (listed.setIfInBounds j true) a' (hc.set hj) hfree' (ready_mono hr (Ne.symm hji)) h3.1 ?_) h2
      rw [Array.setIfInBounds_comm _ _ hji]
      exact h3.2
/-- What the last one of the first phase is to do. -/
def lastTwo (P : Program) (ops : Array Oper) (C0 C1 : World → Prop) (o : Oper) (Q : Act → Prop) (a : Act) : Prop :=
  Region.wanted o (yielded ops a.tmps) = true ∧ ∃ v, (∀ w, C0 w → ∃ w', (execOp a.eval o).run P w = .ok (.value v) w' ∧ C1 w') ∧ Q (a.put o.dst v)
/-- The first phase, in its order: operations that read, and calls that leave the world as it is. -/
def wpMix (P : Program) (ops : Array Oper) (C : World → Prop) (Q : Act → Prop) : List Oper → Act → Prop
  | [], a => Q a
  | o :: rest, a => if Region.wanted o (yielded ops a.tmps) then ∃ v, (∀ w, C w → stays P o v a w) ∧ wpMix P ops C Q rest (a.put o.dst v) else wpMix P ops C Q rest (a.put o.dst undef)
theorem mix_nil {C : World → Prop} {Q : Act → Prop} {a : Act} (h : Q a) : wpMix P ops C Q [] a := h
/-- Some that read. -/
theorem mix_reads {C : World → Prop} {Q : Act → Prop} : ∀ (pre rest : List Oper) (a : Act), (∀ o ∈ pre, readsOp o.op = true) → wpQuiet P ops C (wpMix P ops C Q rest) pre a → wpMix P ops C Q (pre ++ rest) a
  | [], _, _, _, h => h
  | o :: pre, rest, a, hr, h => by
    unfold wpQuiet at h
    rw [List.cons_append]
    unfold wpMix
    split
    · rename_i hw
      rw [if_pos hw] at h
      obtain ⟨v, h1, h2⟩ := h
      refine ⟨v, fun w hC => ?_, mix_reads pre rest _ (fun o' ho => hr o' (by simp [ho])) h2⟩
      have h3 := h1 w hC
      unfold Oper.quietAt at h3
      cases hrn : (execOp a.eval o).run P w with
      | ok nx w' =>
        obtain ⟨u, rfl⟩ := reads_value (hr o (by simp)) hrn
        rw [hrn] at h3
        obtain ⟨e1, e2⟩ := h3
        subst e1 e2
        exact .inl hrn
      | halt x w' => rw [hrn] at h3; simp only [Oper.quietUpon] at h3
    · rename_i hw
      rw [if_neg hw] at h
      exact mix_reads pre rest _ (fun o' ho => hr o' (by simp [ho])) h
theorem mix_take {C : World → Prop} {Q : Act → Prop} {l : List Oper} {a : Act} (k : Nat) (hr : ((l.take k).all fun o => readsOp o.op) = true) (h : wpQuiet P ops C (wpMix P ops C Q (l.drop k)) (l.take k) a) : wpMix P ops C Q l a := by
  have := mix_reads (P := P) (ops := ops) (C := C) (Q := Q) (l.take k) (l.drop k) a (fun o ho => by rw [List.all_eq_true] at hr; exact hr o ho) h
  rwa [List.take_append_drop] at this
/-- A call. -/
theorem mix_call {C : World → Prop} {Q : Act → Prop} {o : Oper} {rest : List Oper} {a : Act} (f : FuncId) (args : Array Value) (v : Value) (hw : Region.wanted o (yielded ops a.tmps) = true) (hr : ∀ w, C w → (execOp a.eval o).run P w = .ok (.enter f args) w) (hc : ∀ w, C w → Calls P f args w fun e w' => e = .returned v ∧ w' = w)
    (h : wpMix P ops C Q rest (a.put o.dst v)) : wpMix P ops C Q (o :: rest) a := by
  unfold wpMix
  rw [if_pos hw]
  exact ⟨v, fun w hC => .inr ⟨f, args, hr w hC, hc w hC⟩, h⟩
theorem mix_mono {C : World → Prop} {Q Q' : Act → Prop} (h : ∀ a, Q a → Q' a) : ∀ (l : List Oper) (a : Act), wpMix P ops C Q l a → wpMix P ops C Q' l a
  | [], a, hq => h a hq
  | o :: l, a, hq => by
    unfold wpMix at *
    split
    · rename_i hw
      rw [if_pos hw] at hq
      obtain ⟨v, h1, h2⟩ := hq
      exact ⟨v, h1, mix_mono h l _ h2⟩
    · rename_i hw
      rw [if_neg hw] at hq
      exact mix_mono h l _ hq
theorem wpTwo_lex {L : Array Bool} {oa : Oper} {Q : Act → Prop} (hs : Region.noSelect ops = true) (hp : phasedB md ops (al + 1) = true) (hoa : ops[al]? = some oa) : ∀ (l : List Oper) (k : Nat) (listed : Array Bool) (a : Act), ClosedL md ops listed → k + l.length = al → (∀ j o, l[j]? = some o → ops[k + j]? = some o) →
    firstB md ops (al + 1) (l.length + 1) k listed L = true → wpMix P ops (fun w => C0 w ∨ C1 w) (lastTwo P ops C0 C1 oa Q) l a → wpTwo P md ops C0 C1 al (al + 1) (fun listed' a' => listed' = L ∧ Q a') (l.length + 1) listed a
  | [], k, listed, a, hc, hk, _, hB, h => by
    obtain rfl : k = al := by simpa using hk
    simp only [List.length_nil, firstB, Bool.and_eq_true, List.all_eq_true, List.mem_range, decide_eq_true_eq] at hB
    obtain ⟨⟨⟨hr, hf⟩, hk⟩, hB1, hB2⟩ := hB
    have hr' : k ∈ Region.ready md ops listed := by simpa using hr
    obtain ⟨hw, v, hv, hQ⟩ := h
    exact wpTwo_first hoa hk hp (Region.noSelect_spec hs) 0 listed a hc (Region.free_spec hoa hf) hr' (.inl ⟨hw, fun _ => hv, fun z => absurd rfl z⟩) ⟨hB1, hB2, hQ⟩
  | o :: l, k, listed, a, hc, hk, hl, hB, h => by
    have h0 : ops[k]? = some o := hl 0 o rfl
    rw [List.length_cons] at hk hB
    unfold firstB at hB
    simp only [Bool.and_eq_true, decide_eq_true_eq] at hB
    obtain ⟨⟨⟨hr, hf⟩, hkn⟩, hB'⟩ := hB
    have hr' : k ∈ Region.ready md ops listed := by simpa using hr
    have hst : qTwo P ops C0 C1 al k (wpMix P ops (fun w => C0 w ∨ C1 w) (lastTwo P ops C0 C1 oa Q) l) a := by
      unfold qTwo
      simp only [h0]
      unfold wpMix at h
      split
      · rename_i hw
        rw [if_pos hw] at h
        obtain ⟨v, h1, h2⟩ := h
        exact ⟨v, ⟨fun z => by omega, fun _ w hw => h1 w hw⟩, h2⟩
      · rename_i hw
        rw [if_neg hw] at h
        exact ⟨by omega, h⟩
    obtain ⟨v, hy, hK⟩ := yieldsTwo_of h0 hst
    exact wpTwo_first h0 hkn hp (Region.noSelect_spec hs) (l.length + 1) listed a hc (Region.free_spec h0 hf) hr' hy
      (wpTwo_lex hs hp hoa l (k + 1) _ _ (hc.set hr') (by omega) (fun j o' ho => by have := hl (j + 1) o' (by simpa using ho); simpa [Nat.add_assoc, Nat.add_comm 1 j] using this) hB' hK)
end
/-- A world behind some draws, and behind a block that was made. -/
def tw (w : World) (b : Obj) (d : Nat) (q : Bool) : World := if q then (w.drewN d).alloc b else w.drewN d
structure TB where
  d : Nat
  q : Bool
  deriving Inhabited
theorem tw_cell {w : World} {a : Addr} {v : Value} (h : w.cell? a = some v) (b : Obj) (d : Nat) (q : Bool) : (tw w b d q).cell? a = some v := by
  cases q
  · exact h
  · exact (World.cell?_alloc_lt _ _ _ (World.block_lt_of_cell? w a h)).trans h
def allocB (ops : Array Oper) (n : Nat) (L : Array Bool) : Bool :=
  Nat.ble (n + 1) ops.size && Region.noSelect ops && phasedB .any ops (n + 1) && firstB .any ops (n + 1) (n + 1) 0 (Array.replicate ops.size false) L && lineB .any ops (ops.size - (n + 1)) (n + 1) L
/-- A region of two phases, the first of which ends with a new block. -/
theorem wp_region_alloc {P : Program} {id : Nat} {Q : Exit → Act → World → Prop} {a : Act} {w : World} {l : List Oper} (n : Nat) (L : Array Bool) (o : Oper) (b : Obj) (hm : P.follows .mixedOrders = true) (hB : allocB l.toArray n L = true) (ho : l[n]? = some o)
    (h : wpMix P l.toArray (fun w' => ∃ p : TB, w' = tw w b p.d p.q) (fun a' => Region.wanted o (yielded l.toArray a'.tmps) = true ∧ ∃ v, (∀ d, (execOp a'.eval o).run P (w.drewN d) = .ok (.value v) ((w.drewN d).alloc b)) ∧ ∀ d, wpList P l.toArray Q (l.drop (n + 1)) (a'.put o.dst v) ((w.drewN d).alloc b)) (l.take n) a) : (Code.region id l.toArray true).wp P Q a w := by
  unfold allocB at hB
  simp only [Bool.and_eq_true] at hB
  obtain ⟨⟨⟨⟨h0, h1⟩, h2⟩, h3⟩, h4⟩ := hB
  have hn : n + 1 ≤ l.length := by simpa using Nat.le_of_ble_eq_true h0
  refine wp_region_any hm ?_
  have hl1 : (l.take n).length = n := by simp; omega
  have hl2 : (l.drop (n + 1)).length = l.toArray.size - (n + 1) := by simp
  have eC : (fun w' => ∃ p : TB, w' = tw w b p.d p.q) = fun w' => (∃ d, w' = w.drewN d) ∨ ∃ d, w' = (w.drewN d).alloc b := by
    funext w'
    apply propext
    constructor
    · rintro ⟨⟨d, q⟩, rfl⟩
      cases q
      · exact .inl ⟨d, rfl⟩
      · exact .inr ⟨d, rfl⟩
    · rintro (⟨d, rfl⟩ | ⟨d, rfl⟩)
      · exact ⟨⟨d, false⟩, rfl⟩
      · exact ⟨⟨d, true⟩, rfl⟩
  rw [eC] at h
  have F := wpTwo_lex (P := P) (C0 := fun w' => ∃ d, w' = w.drewN d) (C1 := fun w' => ∃ d, w' = (w.drewN d).alloc b) (al := n) (L := L) (oa := o) (Q := fun a' => ∀ d, wpList P l.toArray Q (l.drop (n + 1)) a' ((w.drewN d).alloc b)) h1 h2 (by simpa using ho) (l.take n) 0 (Array.replicate l.toArray.size false) a (closed_none _ _) (by rw [hl1]; omega)
    (fun j o' ho' => by
      rw [List.getElem?_take] at ho'
      split at ho'
      · simpa using ho'
      · cases ho') (by rw [hl1]; exact h3) (mix_mono (fun a' hq => by
        obtain ⟨hw, v, hv, hk⟩ := hq
        exact ⟨hw, v, fun w' hw' => by obtain ⟨d, rfl⟩ := hw'; exact ⟨_, hv d, d, rfl⟩, hk⟩) _ _ h)
  have A := wpAny_of_two (Q := Q) (k := l.toArray.size - (n + 1)) (Nat.lt_succ_self n) (fun listed a' w' hw' hT => by
    obtain ⟨e, hT⟩ := hT
    subst e
    obtain ⟨d, rfl⟩ := hw'
    have := wpAny_line (P := P) (md := .any) (Q := Q) (l.drop (n + 1)) (n + 1) _ a' _ (fun j o' ho' => by rw [List.getElem?_drop] at ho'; simpa using ho') (by rw [hl2]; exact h4) (hT d)
    rwa [hl2] at this) _ _ _ (w.drewN 1) (fun _ => ⟨1, rfl⟩) (fun z => by
      have : n < l.length := by omega
      simp [this] at z) F
  rw [hl1, show l.toArray.size - (n + 1) + (n + 1) = l.toArray.size by simp only [List.size_toArray]; omega] at A
  exact A
end Go.Proofs.YtmagchclmmphaabGreatDoor
