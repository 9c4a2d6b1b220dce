import Derived.Test.YtgnpdhgphkocoaaGreatDoorQad
namespace Go.Proofs.YtgnpdhgphkocoaaGreatDoor
open Go.RowKit Go.Maps
attribute [local go_sem] Oper.semAt_some
/-! ### The steps as they lie -/
theorem idx_ne {N a f s p : Nat} (hp : p < N) (hf : f < N) (h : ¬ (s = a ∧ p = f)) : s * N + p ≠ a * N + f := fun e => by
  have hN : 0 < N := by omega
  have e1 : (s * N + p) / N = s := by rw [Nat.mul_comm, Nat.mul_add_div hN, Nat.div_eq_of_lt hp]; rfl
  have e2 : (a * N + f) / N = a := by rw [Nat.mul_comm, Nat.mul_add_div hN, Nat.div_eq_of_lt hf]; rfl
  have e3 : s = a := by rw [← e1, e, e2]
  subst e3
  exact h ⟨rfl, by omega⟩
theorem idx_lt {M N s p : Nat} (hs : s < M) (hp : p < N) : s * N + p < M * N := by
  have : (s + 1) * N ≤ M * N := Nat.mul_le_mul_right N hs
  have e : (s + 1) * N = s * N + N := Nat.succ_mul s N
  omega
/-- A table's cells while its sets are laid. -/
def stW (k : Nat) (bs : Nat → Nat) (c : Nat) : Value := if c % 2 = 0 then (if c / 2 < k then .pointer (some ⟨bs (c / 2), 0, none⟩) else .pointer none) else .slice none 0 0
structure StQ (B : Nat) (w : World) (gb M N k : Nat) (bs gs cs : Nat → Nat) : Prop where
  gr : Mrw w gb 128 (M * 2) (stW k bs) (M * 2)
  st : ∀ s, s < k → IsSet w (bs s) (gs s) (cs s) N 0 ∧ bs s ≠ gs s ∧ B ≤ bs s ∧ B ≤ gs s
  sx : ∀ s s', s < k → s' < k → s ≠ s' → gs s ≠ gs s'
  ge : B ≤ gb
theorem StQ.on {B : Nat} {w w' : World} {gb M N k : Nat} {bs gs cs : Nat → Nat} (h : StQ B w gb M N k bs gs cs) (d : Below w.heap.size w w') : StQ B w' gb M N k bs gs cs :=
  ⟨h.gr.below d h.gr.lt, fun s hs => ⟨(h.st s hs).1.below d, (h.st s hs).2⟩, h.sx, h.ge⟩
/-- One more set is laid. -/
theorem StQ.put {B : Nat} {w w' : World} {gb M N k : Nat} {bs gs cs : Nat → Nat} {b g c : Nat} (h : StQ B w gb M N k bs gs cs) (hk : k < M) (q : SetN w w' b g c N 0) (hB : B ≤ w.heap.size) : StQ B (w'.setCell ⟨gb, k * 2, none⟩ (.pointer (some ⟨b, 0, none⟩))) gb M N (k + 1) (updF bs k b) (updF gs k g) (updF cs k c) ∧ Mrw (w'.setCell ⟨gb, k * 2, none⟩ (.pointer (some ⟨b, 0, none⟩))) gb 128 (M * 2) (stW (k + 1) (updF bs k b)) (M * 2) := by
  obtain ⟨q1, q2, q3, q4, q5⟩ := q
  have hW := h.on q5
  have gl : gb < w.heap.size := h.gr.lt
  have o := only_set w' gb (k * 2) (.pointer (some ⟨b, 0, none⟩))
  have m : Mrw (w'.setCell ⟨gb, k * 2, none⟩ (.pointer (some ⟨b, 0, none⟩))) gb 128 (M * 2) (stW (k + 1) (updF bs k b)) (M * 2) := (hW.gr.upd (k * 2) _).congr fun c hc => by
    unfold stW
    by_cases e : c = k * 2
    · subst e
      rw [if_pos rfl, if_pos (by omega), if_pos (by omega), show k * 2 / 2 = k from by omega, updF_same]
    · rw [if_neg e]
      by_cases e0 : c % 2 = 0
      · rw [if_pos e0, if_pos e0]
        have e1 : c / 2 ≠ k := by omega
        by_cases e2 : c / 2 < k
        · rw [if_pos e2, if_pos (by omega), updF_ne _ _ e1]
        · rw [if_neg e2, if_neg (by omega)]
      · rw [if_neg e0, if_neg e0]
  obtain ⟨cb, hcb⟩ : ∃ cs, w'.heap[gb]? = some (.cells cs 128 (0, 0)) := by obtain ⟨c, e1, _⟩ := hW.gr; exact ⟨c, e1⟩
  have kd : ∀ q, q = gb → ∀ cs t fr, w'.heap[q]? = some (.cells cs t fr) → t ≠ 123 ∧ t ≠ 126 := fun q hq cs t fr z => by
    subst hq; rw [hcb] at z; injection z with z; injection z with _ z; subst z; exact ⟨by decide, by decide⟩
  refine ⟨⟨m, fun s hs => ?_, fun s s' hs hs' ne => ?_, h.ge⟩, m⟩
  · by_cases e : s = k
    · subst e
      rw [updF_same, updF_same, updF_same]
      exact ⟨set_other q1 o kd, q4, by omega, by omega⟩
    · rw [updF_ne _ _ e, updF_ne _ _ e, updF_ne _ _ e]
      have z := hW.st s (by omega)
      exact ⟨set_other z.1 o kd, z.2⟩
  · by_cases e : s = k
    · subst e
      rw [updF_same, updF_ne _ _ (fun z => ne z.symm)]
      have := (h.st s' (by omega)).1.glt
      omega
    · rw [updF_ne _ _ e]
      by_cases e2 : s' = k
      · subst e2
        rw [updF_same]
        have := (h.st s (by omega)).1.glt
        omega
      · rw [updF_ne _ _ e2]
        exact h.sx s s' (by omega) (by omega) ne
theorem StQ.nil {B : Nat} {w : World} {gb M N k s : Nat} {bs gs cs : Nat → Nat} (h : StQ B w gb M N k bs gs cs) : StQ B (w.setCell ⟨gb, s * 2 + 1, none⟩ (.slice none 0 0)) gb M N k bs gs cs := by
  have o := only_set w gb (s * 2 + 1) (.slice none 0 0)
  obtain ⟨cb, hcb⟩ : ∃ cs, w.heap[gb]? = some (.cells cs 128 (0, 0)) := by obtain ⟨c, e1, _⟩ := h.gr; exact ⟨c, e1⟩
  have kd : ∀ q, q = gb → ∀ cs t fr, w.heap[q]? = some (.cells cs t fr) → t ≠ 123 ∧ t ≠ 126 := fun q hq cs t fr z => by
    subst hq; rw [hcb] at z; injection z with z; injection z with _ z; subst z; exact ⟨by decide, by decide⟩
  refine ⟨(h.gr.upd (s * 2 + 1) _).congr fun c hc => ?_, fun s' hs => ⟨set_other (h.st s' hs).1 o kd, (h.st s' hs).2⟩, h.sx, h.ge⟩
  by_cases e : c = s * 2 + 1
  · subst e
    unfold stW
    rw [if_pos rfl, if_neg (by omega)]
  · rw [if_neg e]
/-- A table's cells: a set and a row of rows for each symbol. -/
def stV (N : Nat) (bs hs : Nat → Nat) (nl : Nat → Bool) (c : Nat) : Value := if c % 2 = 0 then .pointer (some ⟨bs (c / 2), 0, none⟩) else if nl (c / 2) then .slice none 0 0 else .slice (some ⟨hs (c / 2), 0, none⟩) N N
/-- The steps, laid out by symbols. -/
structure StP (B : Nat) (w : World) (gb M N : Nat) (bs gs cs hs X : Nat → Nat) (nl : Nat → Bool) (V : Nat → Value) (L : Nat → List Nat) : Prop where
  gr : Mrw w gb 128 (M * 2) (stV N bs hs nl) (M * 2)
  st : ∀ s, s < M → IsSet w (bs s) (gs s) (cs s) N (X s) ∧ bs s ≠ gs s ∧ B ≤ bs s ∧ B ≤ gs s
  sx : ∀ s s', s < M → s' < M → s ≠ s' → gs s ≠ gs s'
  rw : ∀ s, s < M → nl s = false → Mrw w (hs s) 22 N (fun p => V (s * N + p)) N ∧ B ≤ hs s
  hx : ∀ s s', s < M → s' < M → nl s = false → nl s' = false → s ≠ s' → hs s ≠ hs s'
  un : ∀ s p, s < M → p < N → nl s = true → V (s * N + p) = .slice none 0 0 ∧ L (s * N + p) = []
  fm : ∀ i, i < M * N → OwI w B (V i) (natI (L i))
  ap : ∀ i j, i < M * N → j < M * N → i ≠ j → ∀ k, (V i).ownBlock = some k → (V j).ownBlock ≠ some k
  ge : B ≤ gb
theorem StQ.full {B : Nat} {w : World} {gb M N : Nat} {bs gs cs : Nat → Nat} (h : StQ B w gb M N M bs gs cs) (hs : Nat → Nat) : StP B w gb M N bs gs cs hs (fun _ => 0) (fun _ => true) (fun _ => .slice none 0 0) (fun _ => []) :=
  ⟨h.gr.congr (fun c hc => by
    unfold stW stV
    by_cases e : c % 2 = 0
    · rw [if_pos e, if_pos e, if_pos (by omega)]
    · rw [if_neg e, if_neg e, if_pos rfl]), h.st, h.sx, (fun s _ e => by cases e), (fun s s' _ _ e => by cases e), (fun s p _ _ _ => ⟨rfl, rfl⟩), (fun i _ => owI_nil _ _), (fun i j _ _ _ k hk => by cases hk), h.ge⟩
section
variable {B : Nat} {w : World} {gb M N : Nat} {bs gs cs hs X : Nat → Nat} {nl : Nat → Bool} {V : Nat → Value} {L : Nat → List Nat}
theorem StP.on {w' : World} (h : StP B w gb M N bs gs cs hs X nl V L) (d : Below w.heap.size w w') : StP B w' gb M N bs gs cs hs X nl V L :=
  ⟨h.gr.below d h.gr.lt, fun s hs => ⟨(h.st s hs).1.below d, (h.st s hs).2⟩, h.sx, fun s hs e => ⟨(h.rw s hs e).1.below d (h.rw s hs e).1.lt, (h.rw s hs e).2⟩, h.hx, h.un, fun i hi => own_below (h.fm i hi) d, h.ap, h.ge⟩
/-- What changes is of a type that isn't the steps'. -/
theorem StP.other {w' : World} {R : Nat → Prop} (h : StP B w gb M N bs gs cs hs X nl V L) (o : Only w w' R) (hR : ∀ q, R q → ∃ cs fr, w.heap[q]? = some (.cells cs 85 fr)) : StP B w' gb M N bs gs cs hs X nl V L := by
  have gn : ∀ {H t n : Nat} {g : Nat → Value} {j : Nat}, Mrw w H t n g j → t ≠ 85 → ¬ R H := fun z ne e => by
    obtain ⟨c, e1, _⟩ := z
    obtain ⟨cs, fr, e2⟩ := hR _ e
    rw [e2] at e1; injection e1 with e1; injection e1 with _ e1 _; exact ne e1.symm
  refine ⟨h.gr.only o (gn h.gr (by decide)), fun s hs => ⟨set_other (h.st s hs).1 o (fun q hq cs t fr z => ?_), (h.st s hs).2⟩, h.sx, fun s hs e => ⟨(h.rw s hs e).1.only o (gn (h.rw s hs e).1 (by decide)), (h.rw s hs e).2⟩, h.hx, h.un, fun i hi => row_only (h.fm i hi) o (fun k hk e => ?_), h.ap, h.ge⟩
  · obtain ⟨cs2, fr2, e2⟩ := hR _ hq
    rw [e2] at z; injection z with z; injection z with _ z _; subst z; exact ⟨by decide, by decide⟩
  · obtain ⟨cs2, fr2, e2⟩ := hR _ e
    exact row_tag (h.fm i hi) e2 (by decide) hk
theorem StP.low {B2 : Nat} (h : StP B w gb M N bs gs cs hs X nl V L) (hB : B2 ≤ B) : StP B2 w gb M N bs gs cs hs X nl V L :=
  ⟨h.gr, fun s hs => ⟨(h.st s hs).1, (h.st s hs).2.1, Nat.le_trans hB (h.st s hs).2.2.1, Nat.le_trans hB (h.st s hs).2.2.2⟩, h.sx, fun s hs e => ⟨(h.rw s hs e).1, Nat.le_trans hB (h.rw s hs e).2⟩, h.hx, h.un, fun i hi => owns_down (h.fm i hi) hB, h.ap, Nat.le_trans hB h.ge⟩
/-- What is changed of the blocks must be of another type, or another row. -/
theorem StP.kind (h : StP B w gb M N bs gs cs hs X nl V L) : (∃ c, w.heap[gb]? = some (.cells c 128 (0, 0))) := by obtain ⟨c, e1, _⟩ := h.gr; exact ⟨c, e1⟩
/-- A symbol's rows are made. -/
theorem StP.new {a k : Nat} {w' : World} (h : StP B w gb M N bs gs cs hs X nl V L) (ha : a < M) (hn : nl a = true) (d : Below w.heap.size w w') (hk : w.heap.size ≤ k) (m : Mrw w' k 22 N (fun _ => .slice none 0 0) N) (hB : B ≤ w.heap.size) :
    StP B (w'.setCell ⟨gb, a * 2 + 1, none⟩ (.slice (some ⟨k, 0, none⟩) N N)) gb M N bs gs cs (updF hs a k) X (updF nl a false) V L := by
  have hW := h.on d
  obtain ⟨cb, hcb⟩ := hW.kind
  have gl : gb < w.heap.size := h.gr.lt
  have o := only_set w' gb (a * 2 + 1) (.slice (some ⟨k, 0, none⟩) N N)
  have kd : ∀ q, q = gb → ∀ cs t fr, w'.heap[q]? = some (.cells cs t fr) → t ≠ 123 ∧ t ≠ 126 := fun q hq cs t fr z => by
    subst hq; rw [hcb] at z; injection z with z; injection z with _ z; subst z; exact ⟨by decide, by decide⟩
  have gn : ∀ {H t n : Nat} {f : Nat → Value} {j : Nat}, Mrw w' H t n f j → t ≠ 128 → ¬ H = gb := fun z ne e => by
    obtain ⟨c, e1, _⟩ := z
    rw [e, hcb] at e1
    injection e1 with e1; injection e1 with _ e1
    exact ne e1.symm
  refine ⟨?_, fun s hs' => ?_, h.sx, fun s hs' e => ?_, fun s s' h1 h2 e1 e2 ne => ?_, fun s p h1 h2 e => ?_, fun i hi => ?_, h.ap, h.ge⟩
  · refine (hW.gr.upd (a * 2 + 1) _).congr fun c hc => ?_
    unfold stV
    by_cases e : c = a * 2 + 1
    · subst e
      rw [if_pos rfl, if_neg (by omega), show (a * 2 + 1) / 2 = a from by omega, updF_same, updF_same]
      rfl
    · rw [if_neg e]
      by_cases e0 : c % 2 = 0
      · rw [if_pos e0, if_pos e0]
      · rw [if_neg e0, if_neg e0, updF_ne _ _ (show c / 2 ≠ a by omega), updF_ne _ _ (show c / 2 ≠ a by omega)]
  · exact ⟨set_other (hW.st s hs').1 o kd, (hW.st s hs').2⟩
  · by_cases q : s = a
    · subst q
      rw [updF_same]
      refine ⟨(m.only o (gn m (by decide))).congr fun p hp => ?_, by omega⟩
      exact (h.un s p hs' hp hn).1.symm
    · rw [updF_ne _ _ q] at e ⊢
      have z := hW.rw s hs' e
      exact ⟨z.1.only o (gn z.1 (by decide)), z.2⟩
  · by_cases q : s = a
    · subst q
      rw [updF_ne _ _ (fun z => ne z.symm)] at e2 ⊢
      rw [updF_same]
      have := (h.rw s' h2 e2).1.lt
      omega
    · rw [updF_ne _ _ q] at e1 ⊢
      by_cases q2 : s' = a
      · subst q2
        rw [updF_same]
        have := (h.rw s h1 e1).1.lt
        omega
      · rw [updF_ne _ _ q2] at e2 ⊢
        exact h.hx s s' h1 h2 e1 e2 ne
  · by_cases q : s = a
    · subst q; rw [updF_same] at e; cases e
    · rw [updF_ne _ _ q] at e; exact h.un s p h1 h2 e
  · exact row_only (hW.fm i hi) o (fun k' hk' q => by subst q; exact row_tag (hW.fm i hi) hcb (by decide) hk')
/-- A state more from which the symbol leads anywhere. -/
theorem StP.add {a f : Nat} {w' : World} (h : StP B w gb M N bs gs cs hs X nl V L) (ha : a < M) (o : Only w w' (fun k => k = gs a)) (q : IsSet w' (bs a) (gs a) (cs a) N (X a ||| 2 ^ f)) : StP B w' gb M N bs gs cs hs (updF X a (X a ||| 2 ^ f)) nl V L := by
  have hs0 := (h.st a ha).1
  obtain ⟨-, cg, fg, hg⟩ := set_types hs0
  have gn : ∀ {H t n : Nat} {f : Nat → Value} {j : Nat}, Mrw w H t n f j → t ≠ 126 → ¬ H = gs a := fun z ne e => by
    obtain ⟨c, e1, _⟩ := z
    rw [e, hg] at e1
    injection e1 with e1; injection e1 with _ e1 _
    exact ne e1.symm
  refine ⟨h.gr.only o (gn h.gr (by decide)), fun s hs' => ?_, h.sx, fun s hs' e => ⟨(h.rw s hs' e).1.only o (gn (h.rw s hs' e).1 (by decide)), (h.rw s hs' e).2⟩, h.hx, h.un, fun i hi => ?_, h.ap, h.ge⟩
  · by_cases e : s = a
    · subst e
      rw [updF_same]
      exact ⟨q, (h.st s hs').2⟩
    · rw [updF_ne _ _ e]
      have z := h.st s hs'
      refine ⟨z.1.keep (o.block _ z.1.blt ?_) (o.block _ z.1.glt (h.sx s a hs' ha e)), z.2⟩
      intro e2
      obtain ⟨⟨c1, f1, h1⟩, -⟩ := set_types z.1
      rw [e2, hg] at h1
      injection h1 with h1; injection h1 with _ h1 _
      exact absurd h1 (by decide)
  · refine row_only (h.fm i hi) o (fun k' hk' e => ?_)
    subst e
    exact row_tag (h.fm i hi) hg (by decide) hk'
/-- A row that has grown is laid into its place. -/
theorem StP.app {a f : Nat} {w' : World} {v : Value} {T : List Nat} (h : StP B w gb M N bs gs cs hs X nl V L) (ha : a < M) (hf : f < N) (hn : nl a = false) (o : Only w w' (fun k => (V (a * N + f)).ownBlock = some k)) (ho : OwI w' B v (natI T)) (hb : ∀ k, v.ownBlock = some k → (V (a * N + f)).ownBlock = some k ∨ w.heap.size ≤ k) :
    StP B (w'.setCell ⟨hs a, f, none⟩ v) gb M N bs gs cs hs X nl (updF V (a * N + f) v) (updF L (a * N + f) T) := by
  have hi := idx_lt ha hf
  have own := h.fm _ hi
  obtain ⟨hm, hge⟩ := h.rw a ha hn
  obtain ⟨ch, hch, _⟩ := hm
  have hl : hs a < w.heap.size := (Array.getElem?_eq_some_iff.1 hch).1
  have nb : ∀ {k t : Nat} {c : Array Value} {fr : Nat × Nat}, w.heap[k]? = some (.cells c t fr) → t ≠ 3 → ¬ (V (a * N + f)).ownBlock = some k := fun z ne e => row_tag own z ne e
  have hm' : Mrw w' (hs a) 22 N (fun p => V (a * N + p)) N := (h.rw a ha hn).1.only o (nb hch (by decide))
  obtain ⟨cw, hcw⟩ : ∃ cs, w'.heap[hs a]? = some (.cells cs 22 (0, 0)) := by obtain ⟨c, e1, _⟩ := hm'; exact ⟨c, e1⟩
  have q := only_set w' (hs a) f v
  have two : Only w (w'.setCell ⟨hs a, f, none⟩ v) (fun k => (V (a * N + f)).ownBlock = some k ∨ k = hs a) := (o.mono (fun k _ e => .inl e)).trans (q.mono (fun k _ e => .inr e))
  have gn : ∀ {H t n : Nat} {g : Nat → Value} {j : Nat}, Mrw w H t n g j → t ≠ 22 → t ≠ 3 → ¬ ((V (a * N + f)).ownBlock = some H ∨ H = hs a) := fun z n1 n2 e => by
    obtain ⟨c, e1, _⟩ := z
    rcases e with e | e
    · exact nb e1 n2 e
    · rw [e, hch] at e1
      injection e1 with e1; injection e1 with _ e1
      exact n1 e1.symm
  refine ⟨h.gr.only two (gn h.gr (by decide) (by decide)), fun s hs' => ?_, h.sx, fun s hs' e => ?_, h.hx, fun s p h1 h2 e => ?_, fun i hi' => ?_, fun i j hi' hj ne k hk hk' => ?_, h.ge⟩
  · have z := h.st s hs'
    refine ⟨set_other z.1 two (fun k hk cs t fr z => ?_), z.2⟩
    rcases hk with hk | hk
    · by_cases e3 : t = 3
      · subst e3; exact ⟨by decide, by decide⟩
      · exact absurd hk (nb z e3)
    · subst hk; rw [hch] at z; injection z with z; injection z with _ z; subst z; exact ⟨by decide, by decide⟩
  · by_cases e2 : s = a
    · subst e2
      refine ⟨(hm'.upd f v).congr fun p hp => ?_, hge⟩
      by_cases e3 : p = f
      · subst e3; rw [if_pos rfl, updF_same]
      · rw [if_neg e3, updF_ne _ _ (by omega)]
    · have z := h.rw s hs' e
      refine ⟨(z.1.only two (fun q2 => ?_)).congr fun p hp => ?_, z.2⟩
      · obtain ⟨c, e1, _⟩ := z.1
        rcases q2 with q2 | q2
        · exact nb e1 (by decide) q2
        · exact h.hx s a hs' ha e hn e2 q2
      · rw [updF_ne _ _ (idx_ne hp hf (fun w => e2 w.1))]
  · have e2 : ¬ (s = a ∧ p = f) := fun z => by rw [z.1, hn] at e; cases e
    rw [updF_ne _ _ (idx_ne h2 hf e2), updF_ne _ _ (idx_ne h2 hf e2)]
    exact h.un s p h1 h2 e
  · by_cases e : i = a * N + f
    · subst e
      rw [updF_same, updF_same]
      exact row_only ho q (fun k hk e2 => by subst e2; exact row_tag ho hcw (by decide) hk)
    · rw [updF_ne _ _ e, updF_ne _ _ e]
      refine row_only (h.fm i hi') two (fun k hk e2 => ?_)
      rcases e2 with e2 | e2
      · exact h.ap i _ hi' hi e k hk e2
      · subst e2; exact row_tag (h.fm i hi') hch (by decide) hk
  · by_cases e : i = a * N + f
    · subst e
      rw [updF_same] at hk
      rw [updF_ne _ _ (fun z => ne z.symm)] at hk'
      rcases hb k hk with z | z
      · exact h.ap _ j hi hj ne k z hk'
      · have := ((h.fm j hj).lt k hk').2; omega
    · rw [updF_ne _ _ e] at hk
      by_cases e2 : j = a * N + f
      · subst e2
        rw [updF_same] at hk'
        rcases hb k hk' with z | z
        · exact h.ap i _ hi' hi ne k hk z
        · have := ((h.fm i hi').lt k hk).2; omega
      · rw [updF_ne _ _ e2] at hk'
        exact h.ap i j hi' hj ne k hk hk'
end
section
variable {P : Program} {md : Region.Mode} {ops : Array Oper} {C : World → Prop}
end
section
variable {P : Program} {ops : Array Oper} {Q : Exit → Act → World → Prop}
end
section
variable {P : Program} {ops : Array Oper} {Q : Exit → Act → World → Prop}
end
section
variable {P : Program} {Q : Exit → Act → World → Prop}
end
section
variable {P : Program} {ops : Array Oper} {Q : Exit → Act → World → Prop}
end
theorem two_al (w : World) (A Z : Array Value) (t u : TypeId) : Below w.heap.size w ((w.alloc (.cells A t)).alloc (.cells Z u)) ∧ ((w.alloc (.cells A t)).alloc (.cells Z u)).heap[w.heap.size]? = some (.cells A t (0, 0)) ∧ ((w.alloc (.cells A t)).alloc (.cells Z u)).heap[w.heap.size + 1]? = some (.cells Z u (0, 0)) ∧ ((w.alloc (.cells A t)).alloc (.cells Z u)).heap.size = w.heap.size + 2 := by
  refine ⟨((Below.refl _ _).alloc (Nat.le_refl _) _).alloc (by simp) _, (Below.heap_alloc _ _ _ (by simp)).trans (World.alloc_heap_new _ _), ?_, by simp⟩
  have := World.alloc_heap_new (w.alloc (.cells A t)) (.cells Z u)
  simpa using this
theorem set3 (w : World) (b : Nat) (v0 v1 v2 u0 u1 u2 : Value) (t : TypeId) (h : w.heap[b]? = some (.cells #[v0, v1, v2] t (0, 0))) : (((w.setCell ⟨b, 0, none⟩ u0).setCell ⟨b, 1, none⟩ u1).setCell ⟨b, 2, none⟩ u2).heap[b]? = some (.cells #[u0, u1, u2] t (0, 0)) :=
  heap_setCell_same _ _ 2 _ t _ (heap_setCell_same _ _ 1 _ t _ (heap_setCell_same _ _ 0 _ t _ h))
theorem set1 (w : World) (b : Nat) (v0 u0 : Value) (t : TypeId) (h : w.heap[b]? = some (.cells #[v0] t (0, 0))) : (w.setCell ⟨b, 0, none⟩ u0).heap[b]? = some (.cells #[u0] t (0, 0)) := heap_setCell_same _ _ 0 _ t _ h
theorem set2 (w : World) (b : Nat) (v0 v1 u0 u1 : Value) (t : TypeId) (h : w.heap[b]? = some (.cells #[v0, v1] t (0, 0))) : ((w.setCell ⟨b, 0, none⟩ u0).setCell ⟨b, 1, none⟩ u1).heap[b]? = some (.cells #[u0, u1] t (0, 0)) :=
  heap_setCell_same _ _ 1 _ t _ (heap_setCell_same _ _ 0 _ t _ h)
theorem three_al (w : World) (A Z Y : Array Value) (t u v : TypeId) : Below w.heap.size w (((w.alloc (.cells A t)).alloc (.cells Z u)).alloc (.cells Y v)) ∧ (((w.alloc (.cells A t)).alloc (.cells Z u)).alloc (.cells Y v)).heap[w.heap.size]? = some (.cells A t (0, 0)) ∧ (((w.alloc (.cells A t)).alloc (.cells Z u)).alloc (.cells Y v)).heap[w.heap.size + 1]? = some (.cells Z u (0, 0)) ∧ (((w.alloc (.cells A t)).alloc (.cells Z u)).alloc (.cells Y v)).heap[w.heap.size + 2]? = some (.cells Y v (0, 0)) := by
  obtain ⟨d, e1, e2, e3⟩ := two_al w A Z t u
  have hs : (w.alloc (.cells A t)).heap.size = w.heap.size + 1 := by simp
  refine ⟨d.alloc (by omega) _, (Below.heap_alloc _ _ _ (by omega)).trans e1, (Below.heap_alloc _ _ _ (by omega)).trans e2, ?_⟩
  have := World.alloc_heap_new ((w.alloc (.cells A t)).alloc (.cells Z u)) (.cells Y v)
  rw [e3] at this
  exact this
section
variable {α : Type} {φ : α → Nat → α} {M : Nat} {first : α} {T : List α} {K : List Nat} {c : Nat}
end
end Go.Proofs.YtgnpdhgphkocoaaGreatDoor
namespace Go.Proofs.YtgnpdhgphkocoaaGreatDoor
open Go.RowKit
/-! ### A region whose operations come in whatever order, one of which changes memory that was there; what it waits for comes ahead of it -/
section
variable {P : Program} {ops : Array Oper} {Q : Exit → Act → World → Prop}
def HopKw (P : Program) (ops : Array Oper) (Q : Exit → Act → World → Prop) (w : World) (J : Bool → World → Prop) (i0 : Nat) (fill : (Nat → Value) → Act) (L : List It) (i : Nat) (o : Oper) : Prop :=
  ∀ (y : Nat → Value) (W : World) (b : Bool), ((i == i0 || waitsL .any ops ops.size i0 i) = true → b = false) → J b W → w.heap.size ≤ W.heap.size → (∀ e ∈ o.after, Region.binds .any e = true → ndB e = true → ∃ lo hi, w.heap.size ≤ lo ∧ hi ≤ W.heap.size ∧ (itL L e.on).p y lo hi W) →
    ∀ K : Act → World → Prop, Shut (∀ x a' W', StpJ J i0 b L i y W W' → (itL L i).p (updV y i x) W.heap.size W'.heap.size W' → a' = fill (updV y i x) → K a' W') → if Region.wanted o (yielded ops (fill y).tmps) = true then Oper.wp P o (fill y) W K Q else K ((fill y).put o.dst undef) W
def HopsKw (P : Program) (ops : Array Oper) (Q : Exit → Act → World → Prop) (w : World) (J : Bool → World → Prop) (i0 : Nat) (fill : (Nat → Value) → Act) (L : List It) : Nat → List Oper → Prop
  | _, [] => True
  | k, o :: r => HopKw P ops Q w J i0 fill L k o ∧ HopsKw P ops Q w J i0 fill L (k + 1) r
theorem HopsKw.at {w : World} {J : Bool → World → Prop} {i0 : Nat} {fill : (Nat → Value) → Act} {L : List It} : ∀ (l : List Oper) (k i : Nat) (o : Oper), HopsKw P ops Q w J i0 fill L k l → l[i]? = some o → HopKw P ops Q w J i0 fill L (k + i) o
  | [], _, _, _, _, h => by simp at h
  | o' :: r, k, 0, o, H, h => by simp at h; subst h; exact H.1
  | o' :: r, k, i + 1, o, H, h => by
    have := HopsKw.at r (k + 1) i o H.2 (by simpa using h)
    rwa [show k + 1 + i = k + (i + 1) by omega] at this
theorem stjw_go {w : World} {J : Bool → World → Prop} {i0 : Nat} {fill : (Nat → Value) → Act} {L : List It} {n : Nat} {l2 : List Oper} {l1 : List Oper}
    (hi0 : i0 < n) (hp : phasedB .any ops n = true) (hdep : depsB ops n = true) (hret : retB ops n (L.map It.ret) (L.map It.reads) = true) (hl1 : ∀ j o, l1[j]? = some o ↔ (j < n ∧ ops[j]? = some o)) (hl2 : ∀ j o, l2[j]? = some o → ops[n + j]? = some o)
    (hline : ∀ listed : Array Bool, listed.size = ops.size → (∀ i, listed.getD i true = decide (i < n ∨ ops.size ≤ i)) → lineB .any ops l2.length n listed = true)
    (hmono : MonIL 0 L) (hop : HopsKw P ops Q w J i0 fill L 0 l1)
    (hfin : ∀ y lo hi W, MadeJ w J i0 L ops n (fun _ => true) y lo hi W → wpList P ops Q l2 (fill y) W) :
    ∀ (m : Nat) (x : Nat) (listed : Array Bool) (y : Nat → Value) (lo hi : Nat → Nat) (W : World), listed.size = ops.size → (∀ i, n ≤ i → i < ops.size → listed.getD i true = false) → ClosedL .any ops listed → cntM (fun i => !listed.getD i true) n = m →
      MadeJ w J i0 L ops n (fun i => listed.getD i true) y lo hi W → wpAny P .any ops Q (l2.length + m + x) listed (fill y) W := by
  intro m
  induction m with
  | zero =>
    intro x listed y lo hi W hsz hge hc hcnt hM
    have hall : ∀ i, i < n → listed.getD i true = true := fun i hi => by
      have := cntM_zero n hcnt i hi
      simpa using this
    refine line_more x n listed (fill y) W hl2 (hline listed hsz ?_) (hfin y lo hi W ?_)
    · intro i
      rcases Nat.lt_or_ge i n with h | h
      · rw [hall i h]; simp [h]
      · rcases Nat.lt_or_ge i ops.size with h2 | h2
        · rw [hge i h h2]; symm; simp; omega
        · rw [show listed.getD i true = true by simp [Array.getElem?_eq_none (show listed.size ≤ i by omega)]]; symm; simp; omega
    · exact ⟨by have q := hM.d; simp only [hall i0 hi0] at q; exact q, hM.sz, fun i hi _ hr => hM.fact i hi (hall i hi) (fun k hk _ => hr k hk rfl), fun i hi _ => hM.at' i hi (hall i hi), fun i j hi hj _ _ h => hM.apart i j hi hj (hall i hi) (hall j hj) h, fun j o e hj _ ho he hb => hM.order j o e hj (hall j hj) ho he hb⟩
  | succ m ih =>
    intro x listed y lo hi W hsz hge hc hcnt hM
    obtain ⟨i9, hi9, hf0, hless⟩ := cntM_least (f := fun i => !listed.getD i true) n (by omega)
    have hun : listed.getD i9 true = false := by simpa using hf0
    obtain ⟨o0, ho0, hd0⟩ := depsB_at hdep hi9
    have hin : ∀ i, i < n → i < listed.size := fun i hi => by
      obtain ⟨o, ho, _⟩ := depsB_at hdep hi
      have := (Array.getElem?_eq_some_iff.1 ho).1
      omega
    have hready : i9 ∈ Region.ready .any ops listed := mem_ready.2 ⟨hun, o0, ho0, fun e he hb => by
      have h1 := hd0 e he hb
      have h2 := hless e.on h1
      have h3 : listed.getD e.on true = true := by simpa using h2
      have h4 := hin e.on (by omega)
      simpa [h4] using h3⟩
    rw [show l2.length + (m + 1) + x = (l2.length + m + x) + 1 by omega]
    refine ⟨fun h => (by rw [h] at hready; cases hready), fun j hj => ?_⟩
    have hjn : j < n := phased_lt hp hc hi9 hun hj
    obtain ⟨hjun, oj, hoj, hall⟩ := mem_ready.1 hj
    have H := HopsKw.at l1 0 j oj hop ((hl1 j oj).2 ⟨hjn, hoj⟩)
    rw [Nat.zero_add] at H
    refine wpOp_step hoj (fun K' hK => H y W (listed.getD i0 true) (fun e => by
      cases hl : listed.getD i0 true with
      | false => rfl
      | true =>
        rw [Bool.or_eq_true] at e
        rcases e with e | e
        · rw [eq_of_beq e, hl] at hjun; cases hjun
        · have := waits_listed hc e hl
          rw [hjun] at this
          cases this) hM.d hM.sz (fun e he hb hnd => ?_) K' ?_)
    · have h1 := hall e he hb
      obtain ⟨o', ho', hd'⟩ := depsB_at hdep hjn
      rw [hoj] at ho'
      cases ho'
      have h2 := hd' e he hb
      have h3 := getD_to _ _ h1
      refine ⟨lo e.on, hi e.on, (hM.at' e.on (by omega) h3).1, (hM.at' e.on (by omega) h3).2.2, hM.fact e.on (by omega) h3 (fun k hk hlk hmem => ?_)⟩
      have hkj : j ≠ k := fun h => by rw [h] at hjun; rw [hjun] at hlk; cases hlk
      have := waits_listed hc (retB_at hret hk hjn hkj hmem hoj he hb hnd rfl) hlk
      rw [hjun] at this
      cases this
    · rintro v a' W' ⟨hD, hs2, hkeep⟩ hΦ rfl
      have hsj := hin j hjn
      have g1 : (listed.setIfInBounds j true).getD j true = true := by simp [hsj]
      refine hK _ _ ?_
      refine ih x (listed.setIfInBounds j true) (updV y j v) (fun i => if i = j then W.heap.size else lo i) (fun i => if i = j then W'.heap.size else hi i) W' (by simp [hsz]) (fun i h1 h2 => ?_) (hc.set hj) ?_ ?_
      · rw [getD_set_ne true (by omega)]; exact hge i h1 h2
      · have := cntM_drop (f := fun i => !listed.getD i true) (g := fun i => !(listed.setIfInBounds j true).getD i true) (j := j) (by simp only [hjun]; rfl) (by simp only [g1]; rfl) (fun i hi => by simp only [getD_set_ne true (Ne.symm hi)]) n hjn
        omega
      · have old : ∀ i, i ≠ j → (listed.setIfInBounds j true).getD i true = true → listed.getD i true = true := fun i h1 h2 => by rwa [getD_set_ne true (Ne.symm h1)] at h2
        have new : ∀ i, listed.getD i true = true → (listed.setIfInBounds j true).getD i true = true := fun i h => by
          by_cases e : j = i
          · subst e; exact g1
          · rwa [getD_set_ne true e]
        have hs := hM.sz
        refine ⟨?_, Nat.le_trans hs hs2, fun i hi h hr => ?_, fun i hi h => ?_, fun i k hi hk h1 h2 hne => ?_, fun k o e hk h1 ho he hb => ?_⟩
        · show J ((listed.setIfInBounds j true).getD i0 true) W'
          by_cases e : j = i0
          · subst e; rw [g1]; simpa using hD
          · rw [getD_set_ne true e]; rw [show (j == i0) = false by simpa using e, Bool.false_or] at hD; exact hD
        · by_cases e : i = j
          · subst e; simp only [if_pos]; exact hΦ
          · simp only [if_neg e]
            have hli := old i e h
            have h5 := hkeep i e (hr j hjn g1) _ _ (hM.at' i hi hli).2.2 (hM.fact i hi hli (fun k hk hlk => hr k hk (new k hlk)))
            have h6 := MonIL.at L 0 i hmono y (updV y j v) (lo i) _ W' W' (Nat.le_trans (hM.at' i hi hli).2.2 hs2) (Below.refl _ _) (fun q hq => by
              rw [Nat.zero_add] at hq
              have hne : q ≠ j := by
                rcases hq with hq | hq
                · rw [hq]; exact e
                · intro hqj
                  have := waits_listed hc (readB_at hret hi hq) hli
                  rw [hqj, hjun] at this
                  cases this
              simp [updV, hne])
            exact h6 h5
        · by_cases e : i = j
          · subst e; simp only [if_pos]; exact ⟨hs, hs2, Nat.le_refl _⟩
          · simp only [if_neg e]; have := hM.at' i hi (old i e h); exact ⟨this.1, this.2.1, by omega⟩
        · by_cases e : i = j
          · have e2 : k ≠ j := fun h => hne (by rw [e, h])
            simp only [if_pos e, if_neg e2]
            exact Or.inr (hM.at' k hk (old k e2 h2)).2.2
          · by_cases e2 : k = j
            · simp only [if_neg e, if_pos e2]
              exact Or.inl (hM.at' i hi (old i e h1)).2.2
            · simp only [if_neg e, if_neg e2]
              exact hM.apart i k hi hk (old i e h1) (old k e2 h2) hne
        · obtain ⟨o', ho', hd'⟩ := depsB_at hdep hk
          rw [ho] at ho'
          cases ho'
          have hlt := hd' e he hb
          by_cases e1 : k = j
          · subst e1
            rw [hoj] at ho
            cases ho
            have h3 := getD_to _ _ (hall e he hb)
            have e2 : e.on ≠ k := by omega
            simp only [if_pos, if_neg e2]
            exact (hM.at' e.on (by omega) h3).2.2
          · have h4 := old k e1 h1
            have h5 := getD_to _ _ (hc k o ho h4 e he hb)
            have e2 : e.on ≠ j := fun h => by rw [h, hjun] at h5; cases h5
            simp only [if_neg e1, if_neg e2]
            exact hM.order k o e hk h4 ho he hb
/-- **A region whose first operations come in whatever order, each with a fact of its own.** -/
theorem wp_region_stjw {id : Nat} {a : Act} {w : World} {l : List Oper} (J : Bool → World → Prop) (i0 : Nat) (L : List It) (hi0 : Nat.blt i0 L.length = true) (hJ0 : J false (w.drewN 1)) (hm : P.follows .mixedOrders = true) (hB : stB l.toArray L.length (L.map It.ret) (L.map It.reads) = true) (hmono : MonIL 0 L)
    (h : ∀ F : (Nat → Value) → Act, F = (fun y => fills 0 (l.take L.length) y a) → HopsKw P l.toArray Q w J i0 F L 0 (l.take L.length) ∧ ∀ y lo hi W, MadeJ w J i0 L l.toArray L.length (fun _ => true) y lo hi W → wpList P l.toArray Q (l.drop L.length) (F y) W) : (Code.region id l.toArray true).wp P Q a w := by
  unfold stB makeB at hB
  simp only [Bool.and_eq_true] at hB
  obtain ⟨⟨⟨⟨h0, h2⟩, h3⟩, h4⟩, h5⟩ := hB
  have hn : L.length ≤ l.length := by simpa using Nat.le_of_ble_eq_true h0
  refine wp_region_any hm ?_
  have hl2 : (l.drop L.length).length = l.toArray.size - L.length := by simp
  have F := stjw_go (P := P) (Q := Q) (w := w) (J := J) (i0 := i0) (fill := fun y => fills 0 (l.take L.length) y a) (L := L) (n := L.length) (ops := l.toArray) (l1 := l.take L.length) (l2 := l.drop L.length) (by simpa using hi0) h2 h3 h5
    (fun j o => by
      rw [List.getElem?_take]
      split
      · rename_i h; simp [h]
      · rename_i h; constructor
        · intro h'; cases h'
        · intro h'; exact absurd h'.1 h)
    (fun j o ho => by rw [List.getElem?_drop] at ho; simpa using ho)
    (fun listed hs hg => by
      rw [hl2]
      have e : listed = Array.ofFn (n := l.toArray.size) fun i => decide (i.1 < L.length) := by
        refine Array.ext (by simp [hs]) (fun i h5 h6 => ?_)
        have := hg i
        simp only [Array.getElem_ofFn]
        have e1 : listed.getD i true = listed[i] := by simp [h5]
        rw [← e1, this]
        have : i < l.toArray.size := by omega
        by_cases h7 : i < L.length
        · simp [h7]
        · simp only [h7, false_or, decide_false, decide_eq_false_iff_not]; omega
      rw [e]; exact h4)
    hmono (h _ rfl).1 (h _ rfl).2 L.length 0 (Array.replicate l.toArray.size false) (firstY l a) (fun _ => 0) (fun _ => 0) (w.drewN 1) (by simp) (fun i h5 h6 => by simp at h6; simp [h6]) (closed_none _ _) ?_ ?_
  · have e : (l.drop L.length).length + L.length + 0 = l.toArray.size := by rw [hl2]; simp; omega
    rw [e, fills_self l a (l.take L.length) 0 (fun j o ho => by
      rw [List.getElem?_take] at ho
      split at ho
      · simpa using ho
      · cases ho)] at F
    exact F
  · have : ∀ k, k ≤ L.length → cntM (fun i => !(Array.replicate l.toArray.size false).getD i true) k = k := by
      intro k
      induction k with
      | zero => intro _; rfl
      | succ k ih =>
        intro hk
        have h5 : k < l.toArray.size := by simp; omega
        simp only [cntM]
        rw [ih (by omega)]
        have : (Array.replicate l.toArray.size false).getD k true = false := by simp at h5; simp [h5]
        simp only [this]; rfl
    exact this L.length (Nat.le_refl _)
  · have none : ∀ i, i < L.length → (Array.replicate l.toArray.size false).getD i true = true → False := fun i hi h => by
      have : i < l.length := by omega
      simp [this] at h
    have hi1 : i0 < l.length := by
      have : i0 < L.length := by simpa using hi0
      omega
    exact ⟨by simpa [hi1] using hJ0, Nat.le_refl _, fun i hi h => (none i hi h).elim, fun i hi h => (none i hi h).elim, fun i j hi _ h _ _ => (none i hi h).elim, fun j o e hj h _ _ _ => (none j hj h).elim⟩
/-- What is asked of an operation: A is the state, told by its slots. -/
def HopLw (P : Program) (ops : Array Oper) (Q : Exit → Act → World → Prop) (w : World) (J : Bool → World → Prop) (i0 : Nat) (a : Act) (l : List Oper) (L : List It) (i : Nat) (o : Oper) : Prop :=
  ∀ (A : Act) (y : Nat → Value) (W : World) (b : Bool), (∀ (j : Nat) (o' : Oper) (d : Nat), l[j]? = some o' → o'.dst = some d → A.tmps.getD d undef = y j) → (∀ d, wrB d l = false → A.tmps.getD d undef = a.tmps.getD d undef) → ((i == i0 || waitsL .any ops ops.size i0 i) = true → b = false) → J b W → w.heap.size ≤ W.heap.size → (∀ e ∈ o.after, Region.binds .any e = true → ndB e = true → ∃ lo hi, w.heap.size ≤ lo ∧ hi ≤ W.heap.size ∧ (itL L e.on).p y lo hi W) →
    ∀ K : Act → World → Prop, Shut (∀ x W', StpJ J i0 b L i y W W' → (itL L i).p (updV y i x) W.heap.size W'.heap.size W' → K (A.put o.dst x) W') → if Region.wanted o (yielded ops A.tmps) = true then Oper.wp P o A W K Q else K (A.put o.dst undef) W
def HopsLw (P : Program) (ops : Array Oper) (Q : Exit → Act → World → Prop) (w : World) (J : Bool → World → Prop) (i0 : Nat) (a : Act) (l : List Oper) (L : List It) : Nat → List Oper → Prop
  | _, [] => True
  | k, o :: r => HopLw P ops Q w J i0 a l L k o ∧ HopsLw P ops Q w J i0 a l L (k + 1) r
theorem hopslw_of {ops : Array Oper} {w : World} {J : Bool → World → Prop} {i0 : Nat} {a : Act} {l : List Oper} {L : List It} (hs : slotsB a.tmps.size l = true) (h1 : onceB l = true) : ∀ (r : List Oper) (k : Nat), (∀ j o, r[j]? = some o → l[k + j]? = some o) → HopsLw P ops Q w J i0 a l L k r → HopsKw P ops Q w J i0 (fun y => fills 0 l y a) L k r
  | [], _, _, _ => trivial
  | o :: r, k, hl, H => by
    refine ⟨fun y W b hb d hz hd K hK => ?_, hopslw_of hs h1 r (k + 1) (fun j o' ho => by have := hl (j + 1) o' (by simpa using ho); rwa [show k + 1 + j = k + (j + 1) by omega]) H.2⟩
    have hk : l[k]? = some o := hl 0 o rfl
    refine H.1 (fills 0 l y a) y W b (fun j o' d' hj hd' => ?_) (fun d' hd' => fills_other l 0 y a d' hd') hb d hz hd K (fun x W' hst hp => ?_)
    · have hlt : d' < a.tmps.size := by
        unfold slotsB at hs
        rw [List.all_eq_true] at hs
        have := hs o' (List.mem_of_getElem? hj)
        rw [hd'] at this
        simpa using this
      have := fills_at l 0 j y a o' d' h1 hj hd' hlt
      rwa [Nat.zero_add] at this
    · refine hK x _ W' hst hp ?_
      have := fills_upd l 0 k y a o x h1 hk
      rwa [Nat.zero_add] at this
/-- **A region whose first operations come in whatever order, the state told by its slots.** -/
theorem wp_region_sw {id : Nat} {a : Act} {w : World} {l : List Oper} (J : Bool → World → Prop) (i0 : Nat) (L : List It) (hi0 : Nat.blt i0 L.length = true) (hJ0 : J false (w.drewN 1)) (hm : P.follows .mixedOrders = true) (hB : stB l.toArray L.length (L.map It.ret) (L.map It.reads) = true) (hO : onceB (l.take L.length) = true) (hS : slotsB a.tmps.size (l.take L.length) = true) (hmono : MonIL 0 L)
    (hop : HopsLw P l.toArray Q w J i0 a (l.take L.length) L 0 (l.take L.length))
    (hfin : ∀ y lo hi W, MadeJ w J i0 L l.toArray L.length (fun _ => true) y lo hi W → wpList P l.toArray Q (l.drop L.length) (fills 0 (l.take L.length) y a) W) : (Code.region id l.toArray true).wp P Q a w :=
  wp_region_stjw J i0 L hi0 hJ0 hm hB hmono (fun F hF => by
    subst hF
    exact ⟨hopslw_of hS hO _ 0 (fun j o ho => by rwa [Nat.zero_add]) hop, hfin⟩)
end
end Go.Proofs.YtgnpdhgphkocoaaGreatDoor
namespace Go.Proofs.YtgnpdhgphkocoaaGreatDoor
/-! ### A region in two phases: the first operations only read, and all the others wait for them -/
section
variable {P : Program} {md : Region.Mode} {ops : Array Oper} {C : World → Prop}
end
open Go.RowKit
/-! ### A region whose first operations make things, in whatever order, and whose others wait for all of them -/
section
variable {P : Program} {ops : Array Oper} {Q : Exit → Act → World → Prop}
theorem make_go {w : World} {fill : (Nat → Value) → Act} {Φ : Nat → Value → Nat → Nat → World → Prop} {n : Nat} {l2 : List Oper} {l1 : List Oper}
    (hp : phasedB .any ops n = true) (hdep : depsB ops n = true) (hl1 : ∀ j o, l1[j]? = some o ↔ (j < n ∧ ops[j]? = some o)) (hl2 : ∀ j o, l2[j]? = some o → ops[n + j]? = some o)
    (hline : ∀ listed : Array Bool, listed.size = ops.size → (∀ i, listed.getD i true = decide (i < n ∨ ops.size ≤ i)) → lineB .any ops l2.length n listed = true)
    (hmono : ∀ i x lo hi W W', i < n → hi ≤ W.heap.size → Below W.heap.size W W' → Φ i x lo hi W → Φ i x lo hi W')
    (hop : Hops P ops Q w fill Φ 0 l1)
    (hfin : ∀ y lo hi W, Made w Φ ops n (fun _ => true) y lo hi W → wpList P ops Q l2 (fill y) W) :
    ∀ (m : Nat) (x : Nat) (listed : Array Bool) (y : Nat → Value) (lo hi : Nat → Nat) (W : World), listed.size = ops.size → (∀ i, n ≤ i → i < ops.size → listed.getD i true = false) → ClosedL .any ops listed → cntM (fun i => !listed.getD i true) n = m →
      Made w Φ ops n (fun i => listed.getD i true) y lo hi W → wpAny P .any ops Q (l2.length + m + x) listed (fill y) W := by
  intro m
  induction m with
  | zero =>
    intro x listed y lo hi W hsz hge hc hcnt hM
    have hall : ∀ i, i < n → listed.getD i true = true := fun i hi => by
      have := cntM_zero n hcnt i hi
      simpa using this
    refine line_more x n listed (fill y) W hl2 (hline listed hsz ?_) (hfin y lo hi W ?_)
    · intro i
      rcases Nat.lt_or_ge i n with h | h
      · rw [hall i h]; simp [h]
      · rcases Nat.lt_or_ge i ops.size with h2 | h2
        · rw [hge i h h2]; symm; simp; omega
        · rw [show listed.getD i true = true by simp [Array.getElem?_eq_none (show listed.size ≤ i by omega)]]; symm; simp; omega
    · exact ⟨hM.d, fun i hi _ => hM.fact i hi (hall i hi), fun i hi _ => hM.at' i hi (hall i hi), fun i j hi hj _ _ h => hM.apart i j hi hj (hall i hi) (hall j hj) h, fun j o e hj _ ho he hb => hM.order j o e hj (hall j hj) ho he hb⟩
  | succ m ih =>
    intro x listed y lo hi W hsz hge hc hcnt hM
    obtain ⟨i0, hi0, hf0, hless⟩ := cntM_least (f := fun i => !listed.getD i true) n (by omega)
    have hun : listed.getD i0 true = false := by simpa using hf0
    obtain ⟨o0, ho0, hd0⟩ := depsB_at hdep hi0
    have hin : ∀ i, i < n → i < listed.size := fun i hi => by
      obtain ⟨o, ho, _⟩ := depsB_at hdep hi
      have := (Array.getElem?_eq_some_iff.1 ho).1
      omega
    have hready : i0 ∈ Region.ready .any ops listed := mem_ready.2 ⟨hun, o0, ho0, fun e he hb => by
      have h1 := hd0 e he hb
      have h2 := hless e.on h1
      have h3 : listed.getD e.on true = true := by simpa using h2
      have h4 := hin e.on (by omega)
      simpa [h4] using h3⟩
    rw [show l2.length + (m + 1) + x = (l2.length + m + x) + 1 by omega]
    refine ⟨fun h => (by rw [h] at hready; cases hready), fun j hj => ?_⟩
    have hjn : j < n := phased_lt hp hc hi0 hun hj
    obtain ⟨hjun, oj, hoj, hall⟩ := mem_ready.1 hj
    have H := Hops.at l1 0 j oj hop ((hl1 j oj).2 ⟨hjn, hoj⟩)
    rw [Nat.zero_add] at H
    refine wpOp_step hoj (fun K' hK => H y W hM.d (fun e he hb => ?_) K' ?_)
    · have h1 := hall e he hb
      obtain ⟨o', ho', hd'⟩ := depsB_at hdep hjn
      rw [hoj] at ho'
      cases ho'
      have h2 := hd' e he hb
      have h3 := getD_to _ _ h1
      exact ⟨lo e.on, hi e.on, (hM.at' e.on (by omega) h3).2.2, hM.fact e.on (by omega) h3⟩
    · rintro v a' W' hB hΦ rfl
      have hsj := hin j hjn
      have g1 : (listed.setIfInBounds j true).getD j true = true := by simp [hsj]
      refine hK _ _ ?_
      refine ih x (listed.setIfInBounds j true) (updV y j v) (fun i => if i = j then W.heap.size else lo i) (fun i => if i = j then W'.heap.size else hi i) W' (by simp [hsz]) (fun i h1 h2 => ?_) (hc.set hj) ?_ ?_
      · rw [getD_set_ne true (by omega)]; exact hge i h1 h2
      · have := cntM_drop (f := fun i => !listed.getD i true) (g := fun i => !(listed.setIfInBounds j true).getD i true) (j := j) (by simp only [hjun]; rfl) (by simp only [g1]; rfl) (fun i hi => by simp only [getD_set_ne true (Ne.symm hi)]) n hjn
        omega
      · have old : ∀ i, i ≠ j → (listed.setIfInBounds j true).getD i true = true → listed.getD i true = true := fun i h1 h2 => by rwa [getD_set_ne true (Ne.symm h1)] at h2
        have hs := hM.d.size
        have hs2 := hB.size
        refine ⟨hM.d.trans (hB.mono hs), fun i hi h => ?_, fun i hi h => ?_, fun i k hi hk h1 h2 hne => ?_, fun k o e hk h1 ho he hb => ?_⟩
        · by_cases e : i = j
          · subst e; simp only [updV, if_pos]; exact hΦ
          · simp only [updV, if_neg e]; exact hmono i _ _ _ W W' hi (hM.at' i hi (old i e h)).2.2 hB (hM.fact i hi (old i e h))
        · by_cases e : i = j
          · subst e; simp only [if_pos]; exact ⟨hs, hs2, Nat.le_refl _⟩
          · simp only [if_neg e]; have := hM.at' i hi (old i e h); exact ⟨this.1, this.2.1, by omega⟩
        · by_cases e : i = j
          · have e2 : k ≠ j := fun h => hne (by rw [e, h])
            simp only [if_pos e, if_neg e2]
            exact Or.inr (hM.at' k hk (old k e2 h2)).2.2
          · by_cases e2 : k = j
            · simp only [if_neg e, if_pos e2]
              exact Or.inl (hM.at' i hi (old i e h1)).2.2
            · simp only [if_neg e, if_neg e2]
              exact hM.apart i k hi hk (old i e h1) (old k e2 h2) hne
        · obtain ⟨o', ho', hd'⟩ := depsB_at hdep hk
          rw [ho] at ho'
          cases ho'
          have hlt := hd' e he hb
          by_cases e1 : k = j
          · subst e1
            rw [hoj] at ho
            cases ho
            have h3 := getD_to _ _ (hall e he hb)
            have e2 : e.on ≠ k := by omega
            simp only [if_pos, if_neg e2]
            exact (hM.at' e.on (by omega) h3).2.2
          · have h4 := old k e1 h1
            have h5 := getD_to _ _ (hc k o ho h4 e he hb)
            have e2 : e.on ≠ j := fun h => by rw [h, hjun] at h5; cases h5
            simp only [if_neg e1, if_neg e2]
            exact hM.order k o e hk h4 ho he hb
/-- **A region whose first n operations make things in whatever order.** -/
theorem wp_region_make {id : Nat} {a : Act} {w : World} {l : List Oper} (n : Nat) (fill : (Nat → Value) → Act) (Φ : Nat → Value → Nat → Nat → World → Prop) (y0 : Nat → Value) (hm : P.follows .mixedOrders = true) (hB : makeB l.toArray n = true) (ha : a = fill y0)
    (hmono : ∀ i x lo hi W W', i < n → hi ≤ W.heap.size → Below W.heap.size W W' → Φ i x lo hi W → Φ i x lo hi W')
    (hop : Hops P l.toArray Q w fill Φ 0 (l.take n))
    (hfin : ∀ y lo hi W, Made w Φ l.toArray n (fun _ => true) y lo hi W → wpList P l.toArray Q (l.drop n) (fill y) W) : (Code.region id l.toArray true).wp P Q a w := by
  unfold makeB at hB
  simp only [Bool.and_eq_true] at hB
  obtain ⟨⟨⟨h0, h2⟩, h3⟩, h4⟩ := hB
  have hn : n ≤ l.length := by simpa using Nat.le_of_ble_eq_true h0
  refine wp_region_any hm ?_
  have hl2 : (l.drop n).length = l.toArray.size - n := by simp
  have F := make_go (P := P) (Q := Q) (w := w) (fill := fill) (Φ := Φ) (n := n) (ops := l.toArray) (l1 := l.take n) (l2 := l.drop n) h2 h3
    (fun j o => by
      rw [List.getElem?_take]
      split
      · rename_i h; simp [h]
      · rename_i h; constructor
        · intro h'; cases h'
        · intro h'; exact absurd h'.1 h)
    (fun j o ho => by rw [List.getElem?_drop] at ho; simpa using ho)
    (fun listed hs hg => by
      rw [hl2]
      have e : listed = Array.ofFn (n := l.toArray.size) fun i => decide (i.1 < n) := by
        refine Array.ext (by simp [hs]) (fun i h5 h6 => ?_)
        have := hg i
        simp only [Array.getElem_ofFn]
        have e1 : listed.getD i true = listed[i] := by simp [h5]
        rw [← e1, this]
        have : i < l.toArray.size := by omega
        by_cases h7 : i < n
        · simp [h7]
        · simp only [h7, false_or, decide_false, decide_eq_false_iff_not]; omega
      rw [e]; exact h4)
    hmono hop hfin n 0 (Array.replicate l.toArray.size false) y0 (fun _ => 0) (fun _ => 0) (w.drewN 1) (by simp) (fun i h5 h6 => by simp at h6; simp [h6]) (closed_none _ _) ?_ ?_
  · rw [ha]
    have e : (l.drop n).length + n + 0 = l.toArray.size := by rw [hl2]; simp; omega
    rw [e] at F
    exact F
  · have : ∀ k, k ≤ n → cntM (fun i => !(Array.replicate l.toArray.size false).getD i true) k = k := by
      intro k
      induction k with
      | zero => intro _; rfl
      | succ k ih =>
        intro hk
        have h5 : k < l.toArray.size := by simp; omega
        simp only [cntM]
        rw [ih (by omega)]
        have : (Array.replicate l.toArray.size false).getD k true = false := by simp at h5; simp [h5]
        simp only [this]; rfl
    exact this n (Nat.le_refl _)
  · have none : ∀ i, i < n → (Array.replicate l.toArray.size false).getD i true = true → False := fun i hi h => by
      have : i < l.length := by omega
      simp [this] at h
    exact ⟨⟨rfl, rfl, rfl, Nat.le_refl _, fun _ _ => rfl⟩, fun i hi h => (none i hi h).elim, fun i hi h => (none i hi h).elim, fun i j hi _ h _ _ => (none i hi h).elim, fun j o e hj h _ _ _ => (none j hj h).elim⟩
/-- The same, the state read off the region. -/
theorem wp_region_mk {id : Nat} {a : Act} {w : World} {l : List Oper} (n : Nat) (Φ : Nat → Value → Nat → Nat → World → Prop) (hm : P.follows .mixedOrders = true) (hB : makeB l.toArray n = true)
    (hmono : ∀ i x lo hi W W', i < n → hi ≤ W.heap.size → Below W.heap.size W W' → Φ i x lo hi W → Φ i x lo hi W')
    (h : ∀ F : (Nat → Value) → Act, F = (fun y => fills 0 (l.take n) y a) → Hops P l.toArray Q w F Φ 0 (l.take n) ∧ ∀ y lo hi W, Made w Φ l.toArray n (fun _ => true) y lo hi W → wpList P l.toArray Q (l.drop n) (F y) W) : (Code.region id l.toArray true).wp P Q a w :=
  wp_region_make n _ Φ (firstY l a) hm hB (fills_self l a (l.take n) 0 (fun j o ho => by
    rw [List.getElem?_take] at ho
    split at ho
    · simpa using ho
    · cases ho)).symm hmono (h _ rfl).1 (h _ rfl).2
def isV (v : Value) : MkP := fun x _ _ _ => x = v
theorem isV_mono (v : Value) : MonoP (isV v) := fun _ _ _ _ _ _ _ h => h
/-- With the facts in a list. -/
theorem wp_region_mkL {id : Nat} {a : Act} {w : World} {l : List Oper} (L : List MkP) (hm : P.follows .mixedOrders = true) (hB : makeB l.toArray L.length = true) (hmono : MonoL L)
    (h : ∀ F : (Nat → Value) → Act, F = (fun y => fills 0 (l.take L.length) y a) → Hops P l.toArray Q w F (phiL L) 0 (l.take L.length) ∧ ∀ y lo hi W, Made w (phiL L) l.toArray L.length (fun _ => true) y lo hi W → wpList P l.toArray Q (l.drop L.length) (F y) W) : (Code.region id l.toArray true).wp P Q a w :=
  wp_region_mk L.length (phiL L) hm hB (fun i x lo hi W W' _ => MonoL.at L i hmono x lo hi W W') h
end
open Go.RowKit
/-! ### A region whose operations come in whatever order, each with a fact of its own; a fact may be given up -/
section
variable {P : Program} {ops : Array Oper} {Q : Exit → Act → World → Prop}
theorem stp_of {w : World} {L : List It} {i : Nat} {y : Nat → Value} {W W' : World} (hm : MonIL 0 L) (d : Below w.heap.size w W) (d1 : Below W.heap.size W W') : Stp w L i y W W' :=
  ⟨d.trans (d1.mono d.size), d1.size, fun j _ _ lo hi hs h => by
    have := MonIL.at L 0 j hm y y lo hi W W' hs d1 (fun _ _ => rfl)
    exact this h⟩
/-- None gives it up. -/
def notR (rs : List (List Nat)) (i : Nat) : Bool := rs.all fun l => !l.contains i
theorem notR_all {L : List It} {n : Nat} {is : Nat → Bool} (i : Nat) (h : notR (L.map It.ret) i = true) : ∀ k, k < n → is k = true → i ∉ (itL L k).ret := fun k _ _ hm => by
  unfold notR at h
  rw [List.all_eq_true] at h
  rcases Nat.lt_or_ge k L.length with hk | hk
  · have e : (itL L k).ret = (L[k]).ret := by unfold itL; simp [hk]
    have := h (L[k]).ret (List.mem_map.2 ⟨L[k], List.getElem_mem hk, rfl⟩)
    rw [e] at hm
    simp [hm] at this
  · have e : (itL L k).ret = [] := by unfold itL; simp [List.getElem?_eq_none hk]
    rw [e] at hm
    cases hm
theorem stp_keeps {w : World} {L : List It} {i : Nat} {y : Nat → Value} {W W' : World} (rs : List Nat) (hr : (itL L i).ret = rs) (d : Below w.heap.size w W') (hs : W.heap.size ≤ W'.heap.size) (h : Keeps y W W' (i :: rs) 0 L) : Stp w L i y W W' := ⟨d, hs, fun j hj hn => Keeps.at L 0 j h (by rw [Nat.zero_add]; rw [hr] at hn; simp [hj, hn])⟩
/-- One value. -/
def vI (i : Nat) (v : Value) : It := ⟨[], [], fun y _ _ _ => y i = v⟩
theorem vI_mono (i : Nat) (v : Value) : MonI i (vI i v) := fun _ _ _ _ _ _ _ _ hy h => (hy i (Or.inl rfl)).trans h
/-- A fact of the value alone. -/
def pI (i : Nat) (p : MkP) : It := ⟨[], [], fun y lo hi W => p (y i) lo hi W⟩
theorem pI_mono {i : Nat} {p : MkP} (h : MonoP p) : MonI i (pI i p) := fun y y' lo hi W W' hs d hy hp => by
  show p (y' i) lo hi W'
  rw [hy i (Or.inl rfl)]
  exact h _ _ _ _ _ hs d hp
end
open Go.RowKit
/-! ### The same, the state told by its slots alone -/
section
variable {P : Program} {Q : Exit → Act → World → Prop}
theorem got_bool {A : Act} {t : Nat} {b : Bool} (h : A.tmps.getD t undef = .bool b) : A.tmps[t]? = some (.bool b) := by
  rw [Array.getD_eq_getD_getElem?] at h
  cases hx : A.tmps[t]? with
  | none => rw [hx] at h; cases h
  | some v => rw [hx] at h; exact congrArg some h
theorem got_undef {A : Act} {t : Nat} (h : A.tmps.getD t undef = undef) : A.tmps[t]? = none ∨ A.tmps[t]? = some (.tuple #[]) := by
  rw [Array.getD_eq_getD_getElem?] at h
  cases hx : A.tmps[t]? with
  | none => exact Or.inl rfl
  | some v => rw [hx] at h; exact Or.inr (congrArg some h)
theorem fills_size : ∀ (r : List Oper) (k : Nat) (y : Nat → Value) (a : Act), (fills k r y a).tmps.size = a.tmps.size
  | [], _, _, _ => rfl
  | o :: r, k, y, a => by
    unfold fills
    rw [fills_size r (k + 1) y, put_size]
end
open Go.RowKit
/-! ### A region whose operations come in whatever order, one of which changes memory that was there -/
section
variable {P : Program} {ops : Array Oper} {Q : Exit → Act → World → Prop}
theorem stpj_of {J : Bool → World → Prop} {i0 : Nat} {b : Bool} {L : List It} {i : Nat} {y : Nat → Value} {W W' : World} (hm : MonIL 0 L) (hj : J (i == i0 || b) W') (d1 : Below W.heap.size W W') : StpJ J i0 b L i y W W' :=
  ⟨hj, d1.size, fun j _ _ lo hi hs h => by
    have := MonIL.at L 0 j hm y y lo hi W W' hs d1 (fun _ _ => rfl)
    exact this h⟩
theorem stpj_keeps {J : Bool → World → Prop} {i0 : Nat} {b : Bool} {L : List It} {i : Nat} {y : Nat → Value} {W W' : World} (rs : List Nat) (hr : (itL L i).ret = rs) (d : J (i == i0 || b) W') (hs : W.heap.size ≤ W'.heap.size) (h : Keeps y W W' (i :: rs) 0 L) : StpJ J i0 b L i y W W' := ⟨d, hs, fun j hj hn => Keeps.at L 0 j h (by rw [Nat.zero_add]; rw [hr] at hn; simp [hj, hn])⟩
end
open Go.RowKit
/-! ### A region whose operations come in whatever order, one of which changes memory that was there; what it waits for comes ahead of it -/
section
variable {P : Program} {ops : Array Oper} {Q : Exit → Act → World → Prop}
end
end Go.Proofs.YtgnpdhgphkocoaaGreatDoor
