import Derived.Deep.QuietTactic
import Derived.BigQuiet
namespace Go.Proofs.YtojnlpicgemlaabGreatDoor

/-! ### A region in two phases: the first operations only read, and all the others wait for them -/
section
variable {P : Program} {md : Region.Mode} {ops : Array Oper} {C : World → Prop}
/-- What has come up has come up behind all that it waits for. -/
def ClosedL (md : Region.Mode) (ops : Array Oper) (listed : Array Bool) : Prop :=
  ∀ (j : Nat) (oj : Oper), ops[j]? = some oj → listed.getD j true = true → ∀ e ∈ oj.after, Region.binds md e = true → listed.getD e.on false = true
/-- Does one wait for another, over some others? -/
def waitsL (md : Region.Mode) (ops : Array Oper) : Nat → Nat → Nat → Bool
  | 0, _, _ => false
  | f + 1, j, i => match ops[j]? with
    | none => false
    | some o => o.after.any fun e => Region.binds md e && (e.on == i || waitsL md ops f e.on i)
theorem getD_of (l : Array Bool) (i : Nat) (h : l.getD i true = false) : l.getD i false = false := by
  rcases Nat.lt_or_ge i l.size with h' | h'
  · simpa [h'] using h
  · simp [Array.getElem?_eq_none h']
theorem getD_to (l : Array Bool) (i : Nat) (h : l.getD i false = true) : l.getD i true = true := by
  rcases Nat.lt_or_ge i l.size with h' | h'
  · simpa [h'] using h
  · simp [Array.getElem?_eq_none h'] at h
theorem waits_un {listed : Array Bool} (hc : ClosedL md ops listed) {i : Nat} (hi : listed.getD i true = false) : ∀ (f j : Nat), waitsL md ops f j i = true → ∃ e oj, ops[j]? = some oj ∧ e ∈ oj.after ∧ Region.binds md e = true ∧ listed.getD e.on false = false
  | 0, _, h => by simp [waitsL] at h
  | f + 1, j, h => by
    unfold waitsL at h
    cases ho : ops[j]? with
    | none => simp [ho] at h
    | some oj =>
      simp only [ho] at h
      obtain ⟨e, he, h2⟩ : ∃ e ∈ oj.after, (Region.binds md e && (e.on == i || waitsL md ops f e.on i)) = true := by
        obtain ⟨i1, hi1, h2⟩ := Array.any_eq_true.1 h
        exact ⟨_, Array.getElem_mem hi1, h2⟩
      simp only [Bool.and_eq_true, Bool.or_eq_true, beq_iff_eq] at h2
      obtain ⟨hb, h3⟩ := h2
      refine ⟨e, oj, rfl, he, hb, ?_⟩
      rcases h3 with rfl | h3
      · exact getD_of _ _ hi
      · cases hx : listed.getD e.on false with
        | false => rfl
        | true =>
          obtain ⟨e', oj', h4, h5, h6, h7⟩ := waits_un hc hi f e.on h3
          have := hc _ _ h4 (getD_to _ _ hx) e' h5 h6
          rw [h7] at this; cases this
/-- The others wait for each of the first n. -/
def phasedB (md : Region.Mode) (ops : Array Oper) (n : Nat) : Bool :=
  (List.range ops.size).all fun j => decide (j < n) || (List.range n).all fun i => waitsL md ops ops.size j i
theorem phased_lt {n : Nat} {listed : Array Bool} (hp : phasedB md ops n = true) (hc : ClosedL md ops listed) {i j : Nat} (hin : i < n) (hi : listed.getD i true = false) (hj : j ∈ Region.ready md ops listed) : j < n := by
  obtain ⟨h0, oj, ho, hall⟩ := mem_ready.1 hj
  rcases Nat.lt_or_ge j n with h | h
  · exact h
  · unfold phasedB at hp
    rw [List.all_eq_true] at hp
    have h1 := hp j (List.mem_range.2 (Array.getElem?_eq_some_iff.1 ho).1)
    simp only [Bool.or_eq_true, decide_eq_true_eq, List.all_eq_true, List.mem_range] at h1
    rcases h1 with h1 | h1
    · exact h1
    · obtain ⟨e, oj', h4, h5, h6, h7⟩ := waits_un hc hi _ _ (h1 i hin)
      rw [ho] at h4
      cases h4
      rw [hall e h5 h6] at h7
      cases h7
theorem ClosedL.set {listed : Array Bool} (hc : ClosedL md ops listed) {j : Nat} (hj : j ∈ Region.ready md ops listed) : ClosedL md ops (listed.setIfInBounds j true) := by
  intro k ok hk hl e he hb
  by_cases hjk : j = k
  · subst hjk
    obtain ⟨h0, oj, ho, hall⟩ := mem_ready.1 hj
    rw [ho] at hk
    cases hk
    exact getD_set_true (hall e he hb)
  · rw [getD_set_ne true hjk] at hl
    exact getD_set_true (hc k ok hk hl e he hb)
/-- Whatever order is picked until the first n have all come up. -/
def wpFirst (P : Program) (md : Region.Mode) (ops : Array Oper) (C : World → Prop) (n : Nat) (T : Array Bool → Act → Prop) : Nat → Array Bool → Act → Prop
  | 0, listed, a => (∀ j, j < n → listed.getD j true = true) ∧ T listed a
  | m + 1, listed, a => Region.ready md ops listed ≠ [] ∧ ∀ i ∈ Region.ready md ops listed, qOp P ops C i (wpFirst P md ops C n T m (listed.setIfInBounds i true)) a
theorem wpAny_of_first {n : Nat} {T : Array Bool → Act → Prop} {Q : Exit → Act → World → Prop} {k : Nat} (hT : ∀ listed a w, C w → T listed a → wpAny P md ops Q k listed a w) :
    ∀ (m : Nat) (listed : Array Bool) (a : Act) (w : World), C w → wpFirst P md ops C n T m listed a → wpAny P md ops Q (k + m) listed a w
  | 0, _, _, _, hw, h => hT _ _ _ hw h.2
  | m + 1, _, _, _, hw, h => ⟨fun h0 => absurd h0 h.1, fun i hi => wpOp_of_qOp hw (fun a' w' hw' => wpAny_of_first hT m _ a' w' hw') (h.2 i hi)⟩
theorem wpFirst_first {n : Nat} {T : Array Bool → Act → Prop} {i : Nat} {oi : Oper} {v : Value} (hi : ops[i]? = some oi) (hin : i < n) (hp : phasedB md ops n = true)
    (hsel : ∀ (j : Nat) (o : Oper) cs b, ops[j]? = some o → o.op ≠ .select cs b) :
    ∀ (fuel : Nat) (listed : Array Bool) (a : Act), ClosedL md ops listed →
      (∀ j oj, ops[j]? = some oj → j ≠ i → listed.getD j true = false → (∀ e ∈ oj.after, Region.binds md e = true → e.on ≠ i) → oi.apart ops oj = true) →
      i ∈ Region.ready md ops listed → YieldsIn P ops C oi v a →
      wpFirst P md ops C n T fuel (listed.setIfInBounds i true) (a.put oi.dst v) → wpFirst P md ops C n T (fuel + 1) listed a := by
  intro fuel
  induction fuel with
  | zero =>
    intro listed a hc _ hr hy H
    refine ⟨fun h => (by rw [h] at hr; cases hr), fun j hj => ?_⟩
    by_cases hji : j = i
    · subst hji; exact hy.qOp hi H
    · have hjn := phased_lt hp hc hin (mem_ready.1 hr).1 hj
      have h1 := H.1 j hjn
      rw [getD_set_ne true (Ne.symm hji), (mem_ready.1 hj).1] at h1
      cases h1
  | succ fuel ih =>
    intro listed a hc hfree hr hy H
    refine ⟨fun h => (by rw [h] at hr; cases hr), fun j hj => ?_⟩
    by_cases hji : j = i
    · subst hji; exact hy.qOp hi H
    · have h1 := H.2 j (ready_mono hj hji)
      obtain ⟨hjun, oj, hoj, hall⟩ := mem_ready.1 hj
      have hnot : ∀ e ∈ oj.after, Region.binds md e = true → e.on ≠ i := fun e he hb heq => by
        have h1 := hall e he hb
        rw [heq, getD_of _ _ (mem_ready.1 hr).1] at h1
        cases h1
      have h2 := qOp_put hoj (hfree j oj hoj hji hjun hnot) (fun cs b => hsel i oi cs b hi) (fun cs b => hsel j oj cs b hoj) hy h1
      have hfree' : ∀ k ok, ops[k]? = some ok → k ≠ i → (listed.setIfInBounds j true).getD k true = false →
          (∀ e ∈ ok.after, Region.binds md e = true → e.on ≠ i) → oi.apart ops ok = true := fun k ok hk hki hun hno => by
        refine hfree k ok hk hki ?_ hno
        by_cases hjk : j = k
        · subst hjk; exact hjun
        · rw [getD_set_ne true hjk] at hun; exact hun
      refine qOp_mono (fun a' h3 => ih (listed.setIfInBounds j true) a' (hc.set hj) hfree' (ready_mono hr (Ne.symm hji)) h3.1 ?_) h2
      rw [Array.setIfInBounds_comm _ _ hji]
      exact h3.2
/-- The first ones, in their order; L: what has come up then. -/
def firstB (md : Region.Mode) (ops : Array Oper) (n : Nat) : Nat → Nat → Array Bool → Array Bool → Bool
  | 0, _, listed, L => (List.range n).all (fun j => listed.getD j true) && decide (listed = L)
  | fuel + 1, k, listed, L => (Region.ready md ops listed).contains k && Region.free md ops listed k && decide (k < n) && firstB md ops n fuel (k + 1) (listed.setIfInBounds k true) L
theorem wpFirst_lex {n : Nat} {L : Array Bool} {Q : Act → Prop} (hs : Region.noSelect ops = true) (hp : phasedB md ops n = true) : ∀ (l : List Oper) (k : Nat) (listed : Array Bool) (a : Act), ClosedL md ops listed → (∀ j o, l[j]? = some o → ops[k + j]? = some o) →
    firstB md ops n l.length k listed L = true → wpQuiet P ops C Q l a → wpFirst P md ops C n (fun listed' a' => listed' = L ∧ Q a') l.length listed a
  | [], _, _, _, _, _, hB, h => by
    simp only [List.length_nil, firstB, Bool.and_eq_true, List.all_eq_true, List.mem_range, decide_eq_true_eq] at hB
    exact ⟨hB.1, hB.2, h⟩
  | o :: l, k, listed, a, hc, hl, hB, h => by
    have h0 : ops[k]? = some o := hl 0 o rfl
    simp only [List.length_cons, firstB, Bool.and_eq_true, decide_eq_true_eq] at hB
    obtain ⟨⟨⟨hr, hf⟩, hk⟩, hB'⟩ := hB
    have hr' : k ∈ Region.ready md ops listed := by simpa using hr
    have hst : qOp P ops C k (wpQuiet P ops C Q l) a := by unfold qOp; simp only [h0]; exact h
    obtain ⟨v, hy, hK⟩ := yieldsIn_of_qOp h0 hst
    exact wpFirst_first h0 hk hp (Region.noSelect_spec hs) l.length listed a hc (Region.free_spec h0 hf) hr' hy
      (wpFirst_lex hs hp l (k + 1) _ _ (hc.set hr') (fun j o' ho => by have := hl (j + 1) o' (by simpa using ho); simpa [Nat.add_assoc, Nat.add_comm 1 j] using this) hB' hK)
/-- The others, one at a time. -/
def lineB (md : Region.Mode) (ops : Array Oper) : Nat → Nat → Array Bool → Bool
  | 0, _, listed => (Region.ready md ops listed).isEmpty
  | fuel + 1, k, listed => decide (Region.ready md ops listed = [k]) && lineB md ops fuel (k + 1) (listed.setIfInBounds k true)
theorem wpAny_line {Q : Exit → Act → World → Prop} : ∀ (l : List Oper) (k : Nat) (listed : Array Bool) (a : Act) (w : World), (∀ j o, l[j]? = some o → ops[k + j]? = some o) →
    lineB md ops l.length k listed = true → wpList P ops Q l a w → wpAny P md ops Q l.length listed a w
  | [], _, _, _, _, _, hB, h => ⟨by simpa [lineB] using hB, h⟩
  | o :: l, k, listed, a, w, hl, hB, h => by
    have h0 : ops[k]? = some o := hl 0 o rfl
    simp only [List.length_cons, lineB, Bool.and_eq_true, decide_eq_true_eq] at hB
    obtain ⟨hr, hB'⟩ := hB
    refine ⟨fun h1 => (by rw [hr] at h1; cases h1), fun j hj => ?_⟩
    rw [hr] at hj
    obtain rfl := List.mem_singleton.1 hj
    have NX : ∀ a' w', wpList P ops Q l a' w' → wpAny P md ops Q l.length (listed.setIfInBounds j true) a' w' := fun a' w' =>
      wpAny_line l (j + 1) _ a' w' (fun i o' ho => by have := hl (i + 1) o' (by simpa using ho); simpa [Nat.add_assoc, Nat.add_comm 1 i] using this) hB'
    unfold wpOp
    simp only [h0]
    unfold wpList at h
    split
    · rename_i hw
      rw [if_pos hw] at h
      exact h.imp (Oper.wp_mono NX) id
    · rename_i hw
      rw [if_neg hw] at h
      exact NX _ _ h
theorem closed_none (md : Region.Mode) (ops : Array Oper) : ClosedL md ops (Array.replicate ops.size false) := by
  intro j oj ho hl
  have := (Array.getElem?_eq_some_iff.1 ho).1
  simp [this] at hl
/-- Both phases, asked of a region's text. -/
def phaseB (ops : Array Oper) (n : Nat) (L : Array Bool) : Bool :=
  Nat.ble n ops.size && Region.noSelect ops && phasedB .any ops n && firstB .any ops n n 0 (Array.replicate ops.size false) L && lineB .any ops (ops.size - n) n L
/-- A region of two phases. -/
theorem wp_region_phase {id : Nat} {Q : Exit → Act → World → Prop} {a : Act} {w : World} {l : List Oper} (n : Nat) (L : Array Bool) (hm : P.follows .mixedOrders = true) (hB : phaseB l.toArray n L = true)
    (h : wpQuiet P l.toArray (fun w' => ∃ n, w' = w.drewN n) (fun a' => ∀ w', (∃ n, w' = w.drewN n) → wpList P l.toArray Q (l.drop n) a' w') (l.take n) a) : (Code.region id l.toArray true).wp P Q a w := by
  unfold phaseB at hB
  simp only [Bool.and_eq_true] at hB
  obtain ⟨⟨⟨⟨h0, h1⟩, h2⟩, h3⟩, h4⟩ := hB
  have hn : n ≤ l.length := by simpa using Nat.le_of_ble_eq_true h0
  refine wp_region_any hm ?_
  have hl1 : (l.take n).length = n := by simp [hn]
  have hl2 : (l.drop n).length = l.toArray.size - n := by simp
  have F := wpFirst_lex (P := P) (C := fun w' => ∃ n, w' = w.drewN n) (L := L) h1 h2 (l.take n) 0 (Array.replicate l.toArray.size false) a (closed_none _ _)
    (fun j o ho => by
      rw [List.getElem?_take] at ho
      split at ho
      · simpa using ho
      · cases ho) (by rw [hl1]; exact h3) h
  have A := wpAny_of_first (Q := Q) (k := l.toArray.size - n) (fun listed a' w' hw' hT => by
    obtain ⟨e, hT⟩ := hT
    subst e
    have := wpAny_line (P := P) (md := .any) (Q := Q) (l.drop n) n _ a' w' (fun j o ho => by rw [List.getElem?_drop] at ho; simpa using ho) (by rw [hl2]; exact h4) (hT w' hw')
    rwa [hl2] at this) _ _ _ (w.drewN 1) ⟨1, rfl⟩ F
  rw [hl1, show l.toArray.size - n + n = l.toArray.size by simp only [List.size_toArray]; omega] at A
  exact A
end
end Go.Proofs.YtojnlpicgemlaabGreatDoor
