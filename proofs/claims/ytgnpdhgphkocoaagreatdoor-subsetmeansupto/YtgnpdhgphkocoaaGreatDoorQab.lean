import Derived.Test.YtgnpdhgphkocoaaGreatDoorQaa
import Derived.RangeFuncRecord
import Derived.Deep.CutBlock
import Derived.Deep.CutRange
import Derived.Deep.DeepCutAuto
import Derived.Lib.Small
import Derived.Shelf.SlSortCmp.NoneTotal
import Derived.Ground.SlsfProg
import Derived.DeepKeys4
import Derived.Maps.OwnSet
import Derived.Lib.SlicesCompact
import Derived.Shelf.Small.Bits
import Derived.Shelf.Small.Wraps
import Derived.Shelf.Strconv.Itoa0
import Derived.Shelf.Slices.Turned
import Derived.Shelf.Slices.Equal
import Derived.Shelf.Slices.CompactI
import Derived.Shelf.Slices.SearchI
import Derived.Shelf.Slices.Cells
import Derived.Shelf.Slices.Empties2
import Derived.Shelf.SlicesE.Clone
import Derived.Shelf.SlSortCmp.Insertion
import Derived.Shelf.SlSortCmp.SiftDown1
import Derived.Shelf.SlSortCmp.HeapSort1
import Derived.Shelf.SlSortCmp.Insertion1
import Derived.Shelf.SlSortCmp.Median1
import Derived.Shelf.SlSortCmp.Pivot1
import Derived.Shelf.SlSortCmp.ReverseRange1
import Derived.Shelf.SlSortCmp.PartialInsertion1
import Derived.Shelf.SlSortCmp.PartitionEqual1
import Derived.Shelf.SlSortCmp.Partition1
import Derived.Shelf.SlSortCmp.Pdq1
import Derived.Shelf.SlSortCmp.Whole1
import Derived.Ground.Names2Prog
import Derived.Laws.CopyOwn
import Derived.Sort.OwnSortedInts
namespace Go.Proofs.YtgnpdhgphkocoaaGreatDoor
open Go.RowKit
/-! ### A region whose operations come in whatever order, each with a fact of its own; a fact may be given up -/
section
variable {P : Program} {ops : Array Oper} {Q : Exit → Act → World → Prop}
/-- Is a value handed over? -/
def ndB (e : Edge) : Bool := match e.ground with
  | .data => true
  | .guard => true
  | _ => false
/-- What is known of an operation that has come up; whose values it speaks of besides; whose facts end with it. -/
structure It where
  reads : List Nat
  ret : List Nat
  p : (Nat → Value) → Nat → Nat → World → Prop
def itL (L : List It) (i : Nat) : It := L.getD i ⟨[], [], fun _ _ _ _ => True⟩
/-- What memory that is only added to leaves as it is. -/
def MonI (i : Nat) (t : It) : Prop := ∀ y y' lo hi W W', hi ≤ W.heap.size → Below W.heap.size W W' → (∀ j, j = i ∨ j ∈ t.reads → y' j = y j) → t.p y lo hi W → t.p y' lo hi W'
def MonIL : Nat → List It → Prop
  | _, [] => True
  | k, t :: r => MonI k t ∧ MonIL (k + 1) r
theorem MonIL.at : ∀ (L : List It) (k i : Nat), MonIL k L → MonI (k + i) (itL L i)
  | [], _, _, _ => fun _ _ _ _ _ _ _ _ _ h => h
  | _ :: _, _, 0, h => h.1
  | _ :: r, k, i + 1, h => by
    have := MonIL.at r (k + 1) i h.2
    rwa [show k + 1 + i = k + (i + 1) by omega] at this
/-- What a step leaves as it is. -/
def Stp (w : World) (L : List It) (i : Nat) (y : Nat → Value) (W W' : World) : Prop := Below w.heap.size w W' ∧ W.heap.size ≤ W'.heap.size ∧ ∀ j, j ≠ i → j ∉ (itL L i).ret → ∀ lo hi, hi ≤ W.heap.size → (itL L j).p y lo hi W → (itL L j).p y lo hi W'
def HopI (P : Program) (ops : Array Oper) (Q : Exit → Act → World → Prop) (w : World) (fill : (Nat → Value) → Act) (L : List It) (i : Nat) (o : Oper) : Prop :=
  ∀ (y : Nat → Value) (W : World), Below w.heap.size w W → (∀ e ∈ o.after, Region.binds .any e = true → ndB e = true → ∃ lo hi, w.heap.size ≤ lo ∧ hi ≤ W.heap.size ∧ (itL L e.on).p y lo hi W) →
    ∀ K : Act → World → Prop, Shut (∀ x a' W', Stp w L i y W W' → (itL L i).p (updV y i x) W.heap.size W'.heap.size W' → a' = fill (updV y i x) → K a' W') → if Region.wanted o (yielded ops (fill y).tmps) = true then Oper.wp P o (fill y) W K Q else K ((fill y).put o.dst undef) W
def HopsI (P : Program) (ops : Array Oper) (Q : Exit → Act → World → Prop) (w : World) (fill : (Nat → Value) → Act) (L : List It) : Nat → List Oper → Prop
  | _, [] => True
  | k, o :: r => HopI P ops Q w fill L k o ∧ HopsI P ops Q w fill L (k + 1) r
theorem HopsI.at {w : World} {fill : (Nat → Value) → Act} {L : List It} : ∀ (l : List Oper) (k i : Nat) (o : Oper), HopsI P ops Q w fill L k l → l[i]? = some o → HopI P ops Q w fill L (k + i) o
  | [], _, _, _, _, h => by simp at h
  | o' :: r, k, 0, o, H, h => by simp at h; subst h; exact H.1
  | o' :: r, k, i + 1, o, H, h => by
    have := HopsI.at r (k + 1) i o H.2 (by simpa using h)
    rwa [show k + 1 + i = k + (i + 1) by omega] at this
/-- What has come up. -/
structure MadeI (w : World) (L : List It) (ops : Array Oper) (n : Nat) (is : Nat → Bool) (y : Nat → Value) (lo hi : Nat → Nat) (W : World) : Prop where
  d : Below w.heap.size w W
  fact : ∀ i, i < n → is i = true → (∀ k, k < n → is k = true → i ∉ (itL L k).ret) → (itL L i).p y (lo i) (hi i) W
  at' : ∀ i, i < n → is i = true → w.heap.size ≤ lo i ∧ lo i ≤ hi i ∧ hi i ≤ W.heap.size
  apart : ∀ i j, i < n → j < n → is i = true → is j = true → i ≠ j → hi i ≤ lo j ∨ hi j ≤ lo i
  order : ∀ j o e, j < n → is j = true → ops[j]? = some o → e ∈ o.after → Region.binds .any e = true → hi e.on ≤ lo j
/-- Asked of the region's text: a fact that ends with k is wanted by none that may come behind k; a fact speaks of none that may come behind it. -/
def retB (ops : Array Oper) (n : Nat) (rs rd : List (List Nat)) : Bool :=
  ((List.range n).all fun k => (rs.getD k []).all fun j => (List.range n).all fun i => match ops[i]? with
    | none => false
    | some o => decide (i = k) || o.after.all (fun e => !Region.binds .any e || !ndB e || !(e.on == j)) || waitsL .any ops ops.size k i) &&
  ((List.range n).all fun k => (rd.getD k []).all fun j => waitsL .any ops ops.size k j)
theorem getD_map {α β : Type} (f : α → β) : ∀ (L : List α) (i : Nat) (d : α), (L.map f).getD i (f d) = f (L.getD i d)
  | [], _, _ => rfl
  | _ :: _, 0, _ => rfl
  | _ :: _, _ + 1, _ => by simp
theorem retB_at {n : Nat} {L : List It} (h : retB ops n (L.map It.ret) (L.map It.reads) = true) {k j i : Nat} {o : Oper} {e : Edge} (hk : k < n) (hi : i < n) (hne : i ≠ k) (hj : j ∈ (itL L k).ret) (ho : ops[i]? = some o) (he : e ∈ o.after) (hb : Region.binds .any e = true) (hnd : ndB e = true) (hej : e.on = j) : waitsL .any ops ops.size k i = true := by
  unfold retB at h
  rw [Bool.and_eq_true] at h
  have h := h.1
  rw [List.all_eq_true] at h
  have h1 := h k (List.mem_range.2 hk)
  rw [List.all_eq_true] at h1
  have e1 : (L.map It.ret).getD k [] = (itL L k).ret := getD_map It.ret L k ⟨[], [], fun _ _ _ _ => True⟩
  rw [e1] at h1
  have h2 := h1 j hj
  rw [List.all_eq_true] at h2
  have h3 := h2 i (List.mem_range.2 hi)
  rw [ho] at h3
  simp only [Bool.or_eq_true, decide_eq_true_eq] at h3
  rcases h3 with (h3 | h3) | h3
  · exact absurd h3 hne
  · rw [Array.all_eq_true_iff_forall_mem] at h3
    have := h3 e he
    rw [hb, hnd, hej] at this
    simp at this
  · exact h3
theorem readB_at {n : Nat} {L : List It} (h : retB ops n (L.map It.ret) (L.map It.reads) = true) {k j : Nat} (hk : k < n) (hj : j ∈ (itL L k).reads) : waitsL .any ops ops.size k j = true := by
  unfold retB at h
  rw [Bool.and_eq_true] at h
  have h := h.2
  rw [List.all_eq_true] at h
  have h1 := h k (List.mem_range.2 hk)
  rw [List.all_eq_true] at h1
  have e1 : (L.map It.reads).getD k [] = (itL L k).reads := getD_map It.reads L k ⟨[], [], fun _ _ _ _ => True⟩
  rw [e1] at h1
  exact h1 j hj
theorem waits_listed {listed : Array Bool} (hc : ClosedL .any ops listed) {k j f : Nat} (hw : waitsL .any ops f k j = true) (hk : listed.getD k true = true) : listed.getD j true = true := by
  cases hj : listed.getD j true with
  | true => rfl
  | false =>
    obtain ⟨e, oj, h1, h2, h3, h4⟩ := waits_un hc hj f k hw
    have := hc k oj h1 hk e h2 h3
    rw [this] at h4
    cases h4
theorem st_go {w : World} {fill : (Nat → Value) → Act} {L : List It} {n : Nat} {l2 : List Oper} {l1 : List Oper}
    (hp : phasedB .any ops n = true) (hdep : depsB ops n = true) (hret : retB ops n (L.map It.ret) (L.map It.reads) = true) (hl1 : ∀ j o, l1[j]? = some o ↔ (j < n ∧ ops[j]? = some o)) (hl2 : ∀ j o, l2[j]? = some o → ops[n + j]? = some o)
    (hline : ∀ listed : Array Bool, listed.size = ops.size → (∀ i, listed.getD i true = decide (i < n ∨ ops.size ≤ i)) → lineB .any ops l2.length n listed = true)
    (hmono : MonIL 0 L) (hop : HopsI P ops Q w fill L 0 l1)
    (hfin : ∀ y lo hi W, MadeI w L ops n (fun _ => true) y lo hi W → wpList P ops Q l2 (fill y) W) :
    ∀ (m : Nat) (x : Nat) (listed : Array Bool) (y : Nat → Value) (lo hi : Nat → Nat) (W : World), listed.size = ops.size → (∀ i, n ≤ i → i < ops.size → listed.getD i true = false) → ClosedL .any ops listed → cntM (fun i => !listed.getD i true) n = m →
      MadeI w L ops n (fun i => listed.getD i true) y lo hi W → wpAny P .any ops Q (l2.length + m + x) listed (fill y) W := by
  intro m
  induction m with
  | zero =>
    intro x listed y lo hi W hsz hge hc hcnt hM
    have hall : ∀ i, i < n → listed.getD i true = true := fun i hi => by
      have := cntM_zero n hcnt i hi
      simpa using this
    refine line_more x n listed (fill y) W hl2 (hline listed hsz ?_) (hfin y lo hi W ?_)
    · intro i
      rcases Nat.lt_or_ge i n with h | h
      · rw [hall i h]; simp [h]
      · rcases Nat.lt_or_ge i ops.size with h2 | h2
        · rw [hge i h h2]; symm; simp; omega
        · rw [show listed.getD i true = true by simp [Array.getElem?_eq_none (show listed.size ≤ i by omega)]]; symm; simp; omega
    · exact ⟨hM.d, fun i hi _ hr => hM.fact i hi (hall i hi) (fun k hk _ => hr k hk rfl), fun i hi _ => hM.at' i hi (hall i hi), fun i j hi hj _ _ h => hM.apart i j hi hj (hall i hi) (hall j hj) h, fun j o e hj _ ho he hb => hM.order j o e hj (hall j hj) ho he hb⟩
  | succ m ih =>
    intro x listed y lo hi W hsz hge hc hcnt hM
    obtain ⟨i0, hi0, hf0, hless⟩ := cntM_least (f := fun i => !listed.getD i true) n (by omega)
    have hun : listed.getD i0 true = false := by simpa using hf0
    obtain ⟨o0, ho0, hd0⟩ := depsB_at hdep hi0
    have hin : ∀ i, i < n → i < listed.size := fun i hi => by
      obtain ⟨o, ho, _⟩ := depsB_at hdep hi
      have := (Array.getElem?_eq_some_iff.1 ho).1
      omega
    have hready : i0 ∈ Region.ready .any ops listed := mem_ready.2 ⟨hun, o0, ho0, fun e he hb => by
      have h1 := hd0 e he hb
      have h2 := hless e.on h1
      have h3 : listed.getD e.on true = true := by simpa using h2
      have h4 := hin e.on (by omega)
      simpa [h4] using h3⟩
    rw [show l2.length + (m + 1) + x = (l2.length + m + x) + 1 by omega]
    refine ⟨fun h => (by rw [h] at hready; cases hready), fun j hj => ?_⟩
    have hjn : j < n := phased_lt hp hc hi0 hun hj
    obtain ⟨hjun, oj, hoj, hall⟩ := mem_ready.1 hj
    have H := HopsI.at l1 0 j oj hop ((hl1 j oj).2 ⟨hjn, hoj⟩)
    rw [Nat.zero_add] at H
    refine wpOp_step hoj (fun K' hK => H y W hM.d (fun e he hb hnd => ?_) K' ?_)
    · have h1 := hall e he hb
      obtain ⟨o', ho', hd'⟩ := depsB_at hdep hjn
      rw [hoj] at ho'
      cases ho'
      have h2 := hd' e he hb
      have h3 := getD_to _ _ h1
      refine ⟨lo e.on, hi e.on, (hM.at' e.on (by omega) h3).1, (hM.at' e.on (by omega) h3).2.2, hM.fact e.on (by omega) h3 (fun k hk hlk hmem => ?_)⟩
      have hkj : j ≠ k := fun h => by rw [h] at hjun; rw [hjun] at hlk; cases hlk
      have := waits_listed hc (retB_at hret hk hjn hkj hmem hoj he hb hnd rfl) hlk
      rw [hjun] at this
      cases this
    · rintro v a' W' ⟨hD, hs2, hkeep⟩ hΦ rfl
      have hsj := hin j hjn
      have g1 : (listed.setIfInBounds j true).getD j true = true := by simp [hsj]
      refine hK _ _ ?_
      refine ih x (listed.setIfInBounds j true) (updV y j v) (fun i => if i = j then W.heap.size else lo i) (fun i => if i = j then W'.heap.size else hi i) W' (by simp [hsz]) (fun i h1 h2 => ?_) (hc.set hj) ?_ ?_
      · rw [getD_set_ne true (by omega)]; exact hge i h1 h2
      · have := cntM_drop (f := fun i => !listed.getD i true) (g := fun i => !(listed.setIfInBounds j true).getD i true) (j := j) (by simp only [hjun]; rfl) (by simp only [g1]; rfl) (fun i hi => by simp only [getD_set_ne true (Ne.symm hi)]) n hjn
        omega
      · have old : ∀ i, i ≠ j → (listed.setIfInBounds j true).getD i true = true → listed.getD i true = true := fun i h1 h2 => by rwa [getD_set_ne true (Ne.symm h1)] at h2
        have new : ∀ i, listed.getD i true = true → (listed.setIfInBounds j true).getD i true = true := fun i h => by
          by_cases e : j = i
          · subst e; exact g1
          · rwa [getD_set_ne true e]
        have hs := hM.d.size
        refine ⟨hD, fun i hi h hr => ?_, fun i hi h => ?_, fun i k hi hk h1 h2 hne => ?_, fun k o e hk h1 ho he hb => ?_⟩
        · by_cases e : i = j
          · subst e; simp only [if_pos]; exact hΦ
          · simp only [if_neg e]
            have hli := old i e h
            have h5 := hkeep i e (hr j hjn g1) _ _ (hM.at' i hi hli).2.2 (hM.fact i hi hli (fun k hk hlk => hr k hk (new k hlk)))
            have h6 := MonIL.at L 0 i hmono y (updV y j v) (lo i) _ W' W' (Nat.le_trans (hM.at' i hi hli).2.2 hs2) (Below.refl _ _) (fun q hq => by
              rw [Nat.zero_add] at hq
              have hne : q ≠ j := by
                rcases hq with hq | hq
                · rw [hq]; exact e
                · intro hqj
                  have := waits_listed hc (readB_at hret hi hq) hli
                  rw [hqj, hjun] at this
                  cases this
              simp [updV, hne])
            exact h6 h5
        · by_cases e : i = j
          · subst e; simp only [if_pos]; exact ⟨hs, hs2, Nat.le_refl _⟩
          · simp only [if_neg e]; have := hM.at' i hi (old i e h); exact ⟨this.1, this.2.1, by omega⟩
        · by_cases e : i = j
          · have e2 : k ≠ j := fun h => hne (by rw [e, h])
            simp only [if_pos e, if_neg e2]
            exact Or.inr (hM.at' k hk (old k e2 h2)).2.2
          · by_cases e2 : k = j
            · simp only [if_neg e, if_pos e2]
              exact Or.inl (hM.at' i hi (old i e h1)).2.2
            · simp only [if_neg e, if_neg e2]
              exact hM.apart i k hi hk (old i e h1) (old k e2 h2) hne
        · obtain ⟨o', ho', hd'⟩ := depsB_at hdep hk
          rw [ho] at ho'
          cases ho'
          have hlt := hd' e he hb
          by_cases e1 : k = j
          · subst e1
            rw [hoj] at ho
            cases ho
            have h3 := getD_to _ _ (hall e he hb)
            have e2 : e.on ≠ k := by omega
            simp only [if_pos, if_neg e2]
            exact (hM.at' e.on (by omega) h3).2.2
          · have h4 := old k e1 h1
            have h5 := getD_to _ _ (hc k o ho h4 e he hb)
            have e2 : e.on ≠ j := fun h => by rw [h, hjun] at h5; cases h5
            simp only [if_neg e1, if_neg e2]
            exact hM.order k o e hk h4 ho he hb
/-- Asked of a region's text. -/
def stB (ops : Array Oper) (n : Nat) (rs rd : List (List Nat)) : Bool := makeB ops n && retB ops n rs rd
/-- **A region whose first operations come in whatever order, each with a fact of its own.** -/
theorem wp_region_st {id : Nat} {a : Act} {w : World} {l : List Oper} (L : List It) (hm : P.follows .mixedOrders = true) (hB : stB l.toArray L.length (L.map It.ret) (L.map It.reads) = true) (hmono : MonIL 0 L)
    (h : ∀ F : (Nat → Value) → Act, F = (fun y => fills 0 (l.take L.length) y a) → HopsI P l.toArray Q w F L 0 (l.take L.length) ∧ ∀ y lo hi W, MadeI w L l.toArray L.length (fun _ => true) y lo hi W → wpList P l.toArray Q (l.drop L.length) (F y) W) : (Code.region id l.toArray true).wp P Q a w := by
  unfold stB makeB at hB
  simp only [Bool.and_eq_true] at hB
  obtain ⟨⟨⟨⟨h0, h2⟩, h3⟩, h4⟩, h5⟩ := hB
  have hn : L.length ≤ l.length := by simpa using Nat.le_of_ble_eq_true h0
  refine wp_region_any hm ?_
  have hl2 : (l.drop L.length).length = l.toArray.size - L.length := by simp
  have F := st_go (P := P) (Q := Q) (w := w) (fill := fun y => fills 0 (l.take L.length) y a) (L := L) (n := L.length) (ops := l.toArray) (l1 := l.take L.length) (l2 := l.drop L.length) h2 h3 h5
    (fun j o => by
      rw [List.getElem?_take]
      split
      · rename_i h; simp [h]
      · rename_i h; constructor
        · intro h'; cases h'
        · intro h'; exact absurd h'.1 h)
    (fun j o ho => by rw [List.getElem?_drop] at ho; simpa using ho)
    (fun listed hs hg => by
      rw [hl2]
      have e : listed = Array.ofFn (n := l.toArray.size) fun i => decide (i.1 < L.length) := by
        refine Array.ext (by simp [hs]) (fun i h5 h6 => ?_)
        have := hg i
        simp only [Array.getElem_ofFn]
        have e1 : listed.getD i true = listed[i] := by simp [h5]
        rw [← e1, this]
        have : i < l.toArray.size := by omega
        by_cases h7 : i < L.length
        · simp [h7]
        · simp only [h7, false_or, decide_false, decide_eq_false_iff_not]; omega
      rw [e]; exact h4)
    hmono (h _ rfl).1 (h _ rfl).2 L.length 0 (Array.replicate l.toArray.size false) (firstY l a) (fun _ => 0) (fun _ => 0) (w.drewN 1) (by simp) (fun i h5 h6 => by simp at h6; simp [h6]) (closed_none _ _) ?_ ?_
  · have e : (l.drop L.length).length + L.length + 0 = l.toArray.size := by rw [hl2]; simp; omega
    rw [e, fills_self l a (l.take L.length) 0 (fun j o ho => by
      rw [List.getElem?_take] at ho
      split at ho
      · simpa using ho
      · cases ho)] at F
    exact F
  · have : ∀ k, k ≤ L.length → cntM (fun i => !(Array.replicate l.toArray.size false).getD i true) k = k := by
      intro k
      induction k with
      | zero => intro _; rfl
      | succ k ih =>
        intro hk
        have h5 : k < l.toArray.size := by simp; omega
        simp only [cntM]
        rw [ih (by omega)]
        have : (Array.replicate l.toArray.size false).getD k true = false := by simp at h5; simp [h5]
        simp only [this]; rfl
    exact this L.length (Nat.le_refl _)
  · have none : ∀ i, i < L.length → (Array.replicate l.toArray.size false).getD i true = true → False := fun i hi h => by
      have : i < l.length := by omega
      simp [this] at h
    exact ⟨⟨rfl, rfl, rfl, Nat.le_refl _, fun _ _ => rfl⟩, fun i hi h => (none i hi h).elim, fun i hi h => (none i hi h).elim, fun i j hi _ h _ _ => (none i hi h).elim, fun j o e hj h _ _ _ => (none j hj h).elim⟩
/-- What a store leaves as it is, place by place. -/
def Keeps (y : Nat → Value) (W W' : World) (rs : List Nat) : Nat → List It → Prop
  | _, [] => True
  | k, t :: r => (k ∈ rs ∨ ∀ lo hi, hi ≤ W.heap.size → t.p y lo hi W → t.p y lo hi W') ∧ Keeps y W W' rs (k + 1) r
theorem Keeps.at {y : Nat → Value} {W W' : World} {rs : List Nat} : ∀ (L : List It) (k j : Nat), Keeps y W W' rs k L → k + j ∉ rs → ∀ lo hi, hi ≤ W.heap.size → (itL L j).p y lo hi W → (itL L j).p y lo hi W'
  | [], _, _, _, _ => fun _ _ _ h => h
  | _ :: _, _, 0, h, hn => h.1.resolve_left hn
  | _ :: r, k, j + 1, h, hn => Keeps.at r (k + 1) j h.2 (by rwa [show k + 1 + j = k + (j + 1) by omega])
end
/-! ### The same, the state told by its slots alone -/
section
variable {P : Program} {Q : Exit → Act → World → Prop}
theorem put_put (a : Act) (d : Nat) (x v : Value) : (a.put (some d) x).put (some d) v = a.put (some d) v := by
  simp [Act.put]
theorem put_swap (a : Act) {d e : Nat} (x v : Value) (h : d ≠ e) : (a.put (some d) x).put (some e) v = (a.put (some e) v).put (some d) x := by
  simp only [Act.put]
  rw [Array.setIfInBounds_comm _ _ h]
theorem put_size (a : Act) (d : Option Nat) (x : Value) : (a.put d x).tmps.size = a.tmps.size := by
  cases d <;> simp [Act.put]
theorem put_get (a : Act) {d : Nat} (x : Value) (h : d < a.tmps.size) : (a.put (some d) x).tmps.getD d undef = x := by
  simp [Act.put, h]
theorem put_other (a : Act) {d : Nat} {e : Option Nat} (x : Value) (h : e ≠ some d) : (a.put e x).tmps.getD d undef = a.tmps.getD d undef := by
  cases e with
  | none => rfl
  | some e =>
    have h2 : e ≠ d := fun h3 => h (by rw [h3])
    simp [Act.put, Array.getElem?_setIfInBounds_ne h2]
/-- Does one of the operations write a slot? -/
def wrB (d : Nat) (l : List Oper) : Bool := l.any fun o => o.dst == some d
theorem wrB_not {d : Nat} {l : List Oper} (h : wrB d l = false) {o : Oper} (ho : o ∈ l) : o.dst ≠ some d := by
  unfold wrB at h
  rw [List.any_eq_false] at h
  simpa using h o ho
/-- Each slot is written once. -/
def onceB : List Oper → Bool
  | [] => true
  | o :: r => (match o.dst with
    | none => true
    | some d => !wrB d r) && onceB r
theorem fills_other : ∀ (r : List Oper) (k : Nat) (y : Nat → Value) (a : Act) (d : Nat), wrB d r = false → (fills k r y a).tmps.getD d undef = a.tmps.getD d undef
  | [], _, _, _, _, _ => rfl
  | o :: r, k, y, a, d, h => by
    have h1 := wrB_not h (List.mem_cons_self ..)
    have h2 : wrB d r = false := by
      unfold wrB at h ⊢
      rw [List.any_cons, Bool.or_eq_false_iff] at h
      exact h.2
    unfold fills
    rw [fills_other r (k + 1) y _ d h2, put_other _ _ h1]
theorem fills_put : ∀ (r : List Oper) (k : Nat) (y : Nat → Value) (a : Act) (d : Nat) (x : Value), wrB d r = false → (fills k r y a).put (some d) x = fills k r y (a.put (some d) x)
  | [], _, _, _, _, _, _ => rfl
  | o :: r, k, y, a, d, x, h => by
    have h1 := wrB_not h (List.mem_cons_self ..)
    have h2 : wrB d r = false := by
      unfold wrB at h ⊢
      rw [List.any_cons, Bool.or_eq_false_iff] at h
      exact h.2
    unfold fills
    rw [fills_put r (k + 1) y _ d x h2]
    cases hd : o.dst with
    | none => rfl
    | some e => rw [put_swap _ _ _ (fun h3 => h1 (by rw [hd, h3]))]
theorem fills_congr : ∀ (r : List Oper) (k : Nat) (y y' : Nat → Value) (a : Act), (∀ j, k ≤ j → y j = y' j) → fills k r y a = fills k r y' a
  | [], _, _, _, _, _ => rfl
  | o :: r, k, y, y', a, h => by
    unfold fills
    rw [h k (Nat.le_refl _)]
    exact fills_congr r (k + 1) y y' _ (fun j hj => h j (by omega))
theorem fills_at : ∀ (r : List Oper) (k j : Nat) (y : Nat → Value) (a : Act) (o : Oper) (d : Nat), onceB r = true → r[j]? = some o → o.dst = some d → d < a.tmps.size → (fills k r y a).tmps.getD d undef = y (k + j)
  | [], _, _, _, _, _, _, _, h, _, _ => by simp at h
  | o' :: r, k, 0, y, a, o, d, h1, h, hd, hs => by
    simp at h
    subst h
    unfold onceB at h1
    rw [hd, Bool.and_eq_true] at h1
    unfold fills
    rw [fills_other r (k + 1) y _ d (by simpa using h1.1), hd, put_get _ _ hs]
    rfl
  | o' :: r, k, j + 1, y, a, o, d, h1, h, hd, hs => by
    unfold onceB at h1
    rw [Bool.and_eq_true] at h1
    unfold fills
    rw [fills_at r (k + 1) j y _ o d h1.2 (by simpa using h) hd (by rw [put_size]; exact hs)]
    rw [show k + 1 + j = k + (j + 1) by omega]
theorem fills_upd : ∀ (r : List Oper) (k j : Nat) (y : Nat → Value) (a : Act) (o : Oper) (x : Value), onceB r = true → r[j]? = some o → (fills k r y a).put o.dst x = fills k r (updV y (k + j) x) a
  | [], _, _, _, _, _, _, _, h => by simp at h
  | o' :: r, k, 0, y, a, o, x, h1, h => by
    simp at h
    subst h
    unfold onceB at h1
    rw [Bool.and_eq_true] at h1
    have e1 : updV y (k + 0) x k = x := by simp [updV]
    have e2 : ∀ b, fills (k + 1) r (updV y (k + 0) x) b = fills (k + 1) r y b := fun b => fills_congr r (k + 1) _ _ b (fun j hj => by simp only [updV]; rw [if_neg (by omega)])
    unfold fills
    rw [e1, e2]
    cases hd : o'.dst with
    | none => rfl
    | some d =>
      rw [hd] at h1
      rw [fills_put r (k + 1) y _ d x (by simpa using h1.1), put_put]
  | o' :: r, k, j + 1, y, a, o, x, h1, h => by
    unfold onceB at h1
    rw [Bool.and_eq_true] at h1
    unfold fills
    rw [fills_upd r (k + 1) j y _ o x h1.2 (by simpa using h)]
    have e1 : updV y (k + (j + 1)) x k = y k := by simp only [updV]; rw [if_neg (by omega)]
    rw [e1, show k + 1 + j = k + (j + 1) by omega]
/-- What is asked of an operation: A is the state, told by its slots. -/
def HopJ (P : Program) (ops : Array Oper) (Q : Exit → Act → World → Prop) (w : World) (a : Act) (l : List Oper) (L : List It) (i : Nat) (o : Oper) : Prop :=
  ∀ (A : Act) (y : Nat → Value) (W : World), (∀ (j : Nat) (o' : Oper) (d : Nat), l[j]? = some o' → o'.dst = some d → A.tmps.getD d undef = y j) → (∀ d, wrB d l = false → A.tmps.getD d undef = a.tmps.getD d undef) → Below w.heap.size w W → (∀ e ∈ o.after, Region.binds .any e = true → ndB e = true → ∃ lo hi, w.heap.size ≤ lo ∧ hi ≤ W.heap.size ∧ (itL L e.on).p y lo hi W) →
    ∀ K : Act → World → Prop, Shut (∀ x W', Stp w L i y W W' → (itL L i).p (updV y i x) W.heap.size W'.heap.size W' → K (A.put o.dst x) W') → if Region.wanted o (yielded ops A.tmps) = true then Oper.wp P o A W K Q else K (A.put o.dst undef) W
def HopsJ (P : Program) (ops : Array Oper) (Q : Exit → Act → World → Prop) (w : World) (a : Act) (l : List Oper) (L : List It) : Nat → List Oper → Prop
  | _, [] => True
  | k, o :: r => HopJ P ops Q w a l L k o ∧ HopsJ P ops Q w a l L (k + 1) r
/-- The slots that are written are there. -/
def slotsB (n : Nat) (l : List Oper) : Bool := l.all fun o => match o.dst with
  | none => true
  | some d => Nat.blt d n
theorem hops_of {ops : Array Oper} {w : World} {a : Act} {l : List Oper} {L : List It} (hs : slotsB a.tmps.size l = true) (h1 : onceB l = true) : ∀ (r : List Oper) (k : Nat), (∀ j o, r[j]? = some o → l[k + j]? = some o) → HopsJ P ops Q w a l L k r → HopsI P ops Q w (fun y => fills 0 l y a) L k r
  | [], _, _, _ => trivial
  | o :: r, k, hl, H => by
    refine ⟨fun y W d hd K hK => ?_, hops_of hs h1 r (k + 1) (fun j o' ho => by have := hl (j + 1) o' (by simpa using ho); rwa [show k + 1 + j = k + (j + 1) by omega]) H.2⟩
    have hk : l[k]? = some o := hl 0 o rfl
    refine H.1 (fills 0 l y a) y W (fun j o' d' hj hd' => ?_) (fun d' hd' => fills_other l 0 y a d' hd') d hd K (fun x W' hst hp => ?_)
    · have hlt : d' < a.tmps.size := by
        unfold slotsB at hs
        rw [List.all_eq_true] at hs
        have := hs o' (List.mem_of_getElem? hj)
        rw [hd'] at this
        simpa using this
      have := fills_at l 0 j y a o' d' h1 hj hd' hlt
      rwa [Nat.zero_add] at this
    · refine hK x _ W' hst hp ?_
      have := fills_upd l 0 k y a o x h1 hk
      rwa [Nat.zero_add] at this
/-- **A region whose first operations come in whatever order, the state told by its slots.** -/
theorem wp_region_sl {id : Nat} {a : Act} {w : World} {l : List Oper} (L : List It) (hm : P.follows .mixedOrders = true) (hB : stB l.toArray L.length (L.map It.ret) (L.map It.reads) = true) (hO : onceB (l.take L.length) = true) (hS : slotsB a.tmps.size (l.take L.length) = true) (hmono : MonIL 0 L)
    (hop : HopsJ P l.toArray Q w a (l.take L.length) L 0 (l.take L.length))
    (hfin : ∀ y lo hi W, MadeI w L l.toArray L.length (fun _ => true) y lo hi W → wpList P l.toArray Q (l.drop L.length) (fills 0 (l.take L.length) y a) W) : (Code.region id l.toArray true).wp P Q a w :=
  wp_region_st L hm hB hmono (fun F hF => by
    subst hF
    exact ⟨hops_of hS hO _ 0 (fun j o ho => by rwa [Nat.zero_add]) hop, hfin⟩)
end
end Go.Proofs.YtgnpdhgphkocoaaGreatDoor
namespace Go.Proofs.YtgnpdhgphkocoaaGreatDoor
open Go.RowKit
/-! ### nfa: which automata may be -/
attribute [local go_sem] Oper.semAt_some
abbrev EdT := Int × Int × Int
def RdN (W : World) (ao : Option Addr) (L : List Int) : Prop := ∀ (j : Nat) (h : j < L.length), ∃ g o, ao = some ⟨g, o, none⟩ ∧ W.cell? ⟨g, o + j, none⟩ = some (.int .i64 L[j])
def RdE (W : World) (ao : Option Addr) (L : List EdT) : Prop := ∀ (j : Nat) (h : j < L.length), ∃ g o, ao = some ⟨g, o, none⟩ ∧ W.cell? ⟨g, o + j * 3, none⟩ = some (.int .i64 L[j].1) ∧ W.cell? ⟨g, o + j * 3 + 1, none⟩ = some (.int .i64 L[j].2.1) ∧ W.cell? ⟨g, o + j * 3 + 2, none⟩ = some (.int .i64 L[j].2.2)
theorem RdN.on {W W' : World} {ao : Option Addr} {L : List Int} (h : RdN W ao L) (d : Below W.heap.size W W') : RdN W' ao L := fun j hj => by
  obtain ⟨g, o, rfl, c⟩ := h j hj
  exact ⟨g, o, rfl, (d.cell (p := ⟨g, o + j, none⟩) (World.block_lt_of_cell? W _ c)).trans c⟩
theorem RdE.on {W W' : World} {ao : Option Addr} {L : List EdT} (h : RdE W ao L) (d : Below W.heap.size W W') : RdE W' ao L := fun j hj => by
  obtain ⟨g, o, rfl, c1, c2, c3⟩ := h j hj
  have hg : g < W.heap.size := World.block_lt_of_cell? W ⟨g, o + j * 3, none⟩ c1
  exact ⟨g, o, rfl, (d.cell (p := ⟨g, o + j * 3, none⟩) hg).trans c1, (d.cell (p := ⟨g, o + j * 3 + 1, none⟩) hg).trans c2, (d.cell (p := ⟨g, o + j * 3 + 2, none⟩) hg).trans c3⟩
theorem cell_of {w : World} {b j : Nat} {cs : Array Value} {t : TypeId} {fr : Nat × Nat} {v : Value} (h : w.heap[b]? = some (.cells cs t fr)) (hv : cs[j]? = some v) : w.cell? ⟨b, j, none⟩ = some v := by simp [World.cell?, h, hv]
theorem fz_of {W : World} {b j : Nat} {c : Array Value} {t : TypeId} (h : W.heap[b]? = some (.cells c t (0, 0))) : W.frozen? ⟨b, j, none⟩ = false := by simp [World.frozen?, h]
theorem blk_on {W W' : World} {g : Nat} {o : Obj} (h : W.heap[g]? = some o) (d : Below W.heap.size W W') : W'.heap[g]? = some o := (d.block _ (Array.getElem?_eq_some_iff.1 h).1).trans h
/-- A number from 0 to one below a bound. -/
def inB (n x : Int) : Bool := decide (0 ≤ x ∧ x < n)
theorem inB_iff {n x : Int} : inB n x = true ↔ 0 ≤ x ∧ x < n := by simp [inB]
set_option maxRecDepth 100000 in
theorem within_any (x n : Int) (w : World) : Calls Tryz.prog 110 #[.int .i64 x, .int .i64 n] w fun e w' => e = .returned (.bool (inB n x)) ∧ w' = w := by
  by_cases h : 0 ≤ x
  · go_enter Tryz.func110, Tryz.ntmps110
    go_wp2
    go_ret
    exact ⟨by simp [inB, h], rfl⟩
  · go_enter Tryz.func110, Tryz.ntmps110
    go_wp2
    go_ret
    exact ⟨by simp [inB]; omega, rfl⟩
set_option maxRecDepth 100000 in
set_option maxHeartbeats 1000000 in
theorem allWithin_any (ao : Option Addr) (cp : Nat) (L : List Int) (n : Int) (w : World) (hr : Hid (RdN w ao L)) (hl : L.length ≤ 4194304) : Calls Tryz.prog 111 #[.slice ao L.length cp, .int .i64 n] w fun e w' => e = .returned (.bool (L.all (inB n))) ∧ w' = w := by
  obtain ⟨m, hm⟩ : ∃ m, m = L.length := ⟨_, rfl⟩
  have HL := hide hm
  rw [← hm]
  rw [← hm] at hl
  clear hm
  go_enter Tryz.func111, Tryz.ntmps111
  go_wp2
  go_loopw [9] (fun iv wr => ∃ i : Nat, i ≤ m ∧ iv = .int .i64 i ∧ wr = w ∧ Hid ((L.take i).all (inB n) = true)) (fun iv _ => m - (intOf iv).toNat)
  case atStart => exact ⟨0, Nat.zero_le _, rfl, rfl, hide (by simp)⟩
  case round =>
    obtain ⟨i, hi, rfl, hw, HY⟩ := hrel
    obtain rfl := hw
    by_cases hil : i < m
    · have i0 : (0 : Int) ≤ (i : Int) := by omega
      have i1 : (i : Int) < (m : Int) := by omega
      have hi2 : i < L.length := by rw [← HL.out]; exact hil
      obtain ⟨g, o, rfl, c⟩ := hr.out i hi2
      have HT := hide (show L.take (i + 1) = L.take i ++ [L[i]] by rw [List.take_add_one, List.getElem?_eq_getElem hi2]; rfl)
      have HM := hide (List.getElem_mem hi2)
      obtain ⟨x, hx⟩ : ∃ x, L[i] = x := ⟨_, rfl⟩
      rw [hx] at c HT HM
      clear hx
      cases hb : inB n x
      · go_wp2_with (go_at_call 110; refine (within_any x n wr).mono ?_; rintro e w2 ⟨rfl, rfl⟩)
        go_wp2
        go_ret
        refine ⟨?_, rfl⟩
        have : L.all (inB n) = false := List.all_eq_false.2 ⟨x, HM.out, by rw [hb]; simp⟩
        rw [this]
        rfl
      · go_wp2_with (go_at_call 110; refine (within_any x n wr).mono ?_; rintro e w2 ⟨rfl, rfl⟩)
        go_wp2
        go_roundw
        case rel => exact ⟨i + 1, by omega, by go_num, trivial, hide (by rw [HT.out, List.all_append, HY.out]; simp [hb])⟩
        case measure => simp [intOf]; omega
    · obtain rfl : m = i := by omega
      have i1 : ¬ (m : Int) < (m : Int) := by omega
      go_wp2
      go_ret
      refine ⟨?_, rfl⟩
      have q := HY.out
      rw [HL.out, List.take_length] at q
      rw [q]
      rfl
/-- An automaton may be. -/
def edOk (n m : Int) (e : EdT) : Bool := inB n e.1 && inB m e.2.1 && inB n e.2.2
def mayA (n m : Int) (St Fi : List Int) (Ed : List EdT) : Bool := inB 4097 n && inB 129 m && decide (Ed.length ≤ 65536) && St.all (inB n) && Fi.all (inB n) && Ed.all (edOk n m)
/-- Its lists, read. -/
structure RdA (W : World) (a1 a2 a3 : Option Addr) (St Fi : List Int) (Ed : List EdT) : Prop where
  s : RdN W a1 St
  f : RdN W a2 Fi
  e : RdE W a3 Ed
theorem RdA.on {W W' : World} {a1 a2 a3 : Option Addr} {St Fi : List Int} {Ed : List EdT} (h : RdA W a1 a2 a3 St Fi Ed) (d : Below W.heap.size W W') : RdA W' a1 a2 a3 St Fi Ed := ⟨h.s.on d, h.f.on d, h.e.on d⟩
set_option maxRecDepth 100000 in
set_option maxHeartbeats 4000000 in
theorem valid_any (w : World) (n m : Int) (a1 a2 a3 : Option Addr) (c1 c2 c3 : Nat) (St Fi : List Int) (Ed : List EdT) (hA : Hid (RdA w a1 a2 a3 St Fi Ed)) (h1 : St.length ≤ 4194304) (h2 : Fi.length ≤ 4194304) (h3 : Ed.length ≤ 4194304) :
    Calls Tryz.prog 88 #[.agg #[.int .i64 n, .int .i64 m, .slice a1 St.length c1, .slice a2 Fi.length c2, .slice a3 Ed.length c3]] w fun e w' => e = .returned (.int .i64 (if mayA n m St Fi Ed then 0 else 2)) ∧ Below w.heap.size w w' := by
  obtain ⟨W0, hW0⟩ : ∃ W0, w.alloc (.cells #[.int .i64 n, .int .i64 m, .slice a1 St.length c1, .slice a2 Fi.length c2, .slice a3 Ed.length c3] 25) = W0 := ⟨_, rfl⟩
  have d0 : Below w.heap.size w W0 := by rw [← hW0]; exact (Below.refl _ _).alloc (Nat.le_refl _) _
  have B0 : W0.heap[w.heap.size]? = some (.cells #[.int .i64 n, .int .i64 m, .slice a1 St.length c1, .slice a2 Fi.length c2, .slice a3 Ed.length c3] 25 (0, 0)) := by rw [← hW0]; exact World.alloc_heap_new _ _
  have HD := hide (And.intro d0 B0)
  have k0 : W0.cell? ⟨w.heap.size, 0, none⟩ = some (.int .i64 n) := cell_of B0 rfl
  have k1 : W0.cell? ⟨w.heap.size, 1, none⟩ = some (.int .i64 m) := cell_of B0 rfl
  have k2 : W0.cell? ⟨w.heap.size, 2, none⟩ = some (.slice a1 St.length c1) := cell_of B0 rfl
  have k3 : W0.cell? ⟨w.heap.size, 3, none⟩ = some (.slice a2 Fi.length c2) := cell_of B0 rfl
  have k4 : W0.cell? ⟨w.heap.size, 4, none⟩ = some (.slice a3 Ed.length c3) := cell_of B0 rfl
  have HA := hide (hA.out.on d0)
  clear d0 B0 hA
  have T1 := allWithin_any a1 c1 St n W0 (hide HA.out.s) h1
  have T2 := allWithin_any a2 c2 Fi n W0 (hide HA.out.f) h2
  obtain ⟨r, hr⟩ : ∃ r : Int, (if mayA n m St Fi Ed then (0 : Int) else 2) = r := ⟨_, rfl⟩
  rw [hr]
  have HR := hide hr
  have HB : Hid (mayA n m St Fi Ed = false → Ending.returned (.int .i64 2) = Ending.returned (.int .i64 r)) := hide (fun h => by rw [← HR.out, h]; rfl)
  clear hr
  go_enter Tryz.func88, Tryz.ntmps88
  cases e1 : inB 4097 n
  · go_wp2_with (go_at_call 110; refine (within_any _ _ _).mono ?_; rintro e w2 ⟨rfl, hw⟩; obtain rfl := hw.symm)
    go_ret
    exact ⟨HB.out (by simp [mayA, e1]), HD.out.1⟩
  cases e2 : inB 129 m
  · go_wp2_with (go_at_call 110; refine (within_any _ _ _).mono ?_; rintro e w2 ⟨rfl, hw⟩; obtain rfl := hw.symm)
    go_ret
    exact ⟨HB.out (by simp [mayA, e2]), HD.out.1⟩
  by_cases e3 : Ed.length ≤ 65536
  case neg =>
    have i3 : (65536 : Int) < (Ed.length : Int) := by omega
    go_wp2_with (go_at_call 110; refine (within_any _ _ _).mono ?_; rintro e w2 ⟨rfl, hw⟩; obtain rfl := hw.symm)
    go_ret
    exact ⟨HB.out (by simp [mayA, e3]), HD.out.1⟩
  have i3 : ¬ (65536 : Int) < (Ed.length : Int) := by omega
  cases e4 : St.all (inB n)
  · rw [e4] at T1
    go_wp2_with (first
      | (go_at_call 110; refine (within_any _ _ _).mono ?_; rintro e w2 ⟨rfl, hw⟩; obtain rfl := hw.symm)
      | (go_at_call 111; refine T1.mono ?_; rintro e w2 ⟨rfl, hw⟩; obtain rfl := hw.symm))
    go_ret
    exact ⟨HB.out (by simp [mayA, e4]), HD.out.1⟩
  rw [e4] at T1
  cases e5 : Fi.all (inB n)
  · rw [e5] at T2
    go_wp2_with (first
      | (go_at_call 110; refine (within_any _ _ _).mono ?_; rintro e w2 ⟨rfl, hw⟩; obtain rfl := hw.symm)
      | (go_at_call_of 111 a1; refine T1.mono ?_; rintro e w2 ⟨rfl, hw⟩; obtain rfl := hw.symm)
      | (go_at_call_of 111 a2; refine T2.mono ?_; rintro e w2 ⟨rfl, hw⟩; obtain rfl := hw.symm))
    go_ret
    exact ⟨HB.out (by simp [mayA, e5]), HD.out.1⟩
  rw [e5] at T2
  have HM : Hid (Ed.all (edOk n m) = true → mayA n m St Fi Ed = true) := hide (fun h => by simp [mayA, e1, e2, e3, e4, e5, h])
  obtain ⟨L, hL⟩ : ∃ L, Ed.length = L := ⟨_, rfl⟩
  have HL := hide hL
  rw [hL] at k4 h3 e3 i3 hW0
  rw [hL]
  clear hL
  go_upto_region 5 with (first
    | (go_at_call 110; refine (within_any _ _ _).mono ?_; rintro e w2 ⟨rfl, hw⟩; obtain rfl := hw.symm)
    | (go_at_call_of 111 a1; refine T1.mono ?_; rintro e w2 ⟨rfl, hw⟩; obtain rfl := hw.symm)
      | (go_at_call_of 111 a2; refine T2.mono ?_; rintro e w2 ⟨rfl, hw⟩; obtain rfl := hw.symm))
  clear T1 T2 e1 e2 e4 e5
  go_wp2
  go_loopw [38] (fun iv wr => ∃ i : Nat, i ≤ L ∧ iv = .int .i64 i ∧ Hid (Below W0.heap.size W0 wr ∧ (Ed.take i).all (edOk n m) = true)) (fun iv _ => L - (intOf iv).toNat)
  case atStart => exact ⟨0, Nat.zero_le _, rfl, hide ⟨Below.refl _ _, by simp⟩⟩
  case round =>
    obtain ⟨i, hi, rfl, HY⟩ := hrel
    by_cases hil : i < L
    · have i0 : (0 : Int) ≤ (i : Int) := by omega
      have i1 : (i : Int) < (L : Int) := by omega
      have hi2 : i < Ed.length := by rw [HL.out]; exact hil
      obtain ⟨g, o, rfl, q1, q2, q3⟩ := (HA.out.e.on HY.out.1) i hi2
      have HT := hide (show Ed.take (i + 1) = Ed.take i ++ [Ed[i]] by rw [List.take_add_one, List.getElem?_eq_getElem hi2]; rfl)
      have HN := hide (List.getElem_mem hi2)
      obtain ⟨x, hx⟩ : ∃ x, Ed[i] = x := ⟨_, rfl⟩
      rw [hx] at q1 q2 q3 HT HN
      clear hx
      obtain ⟨x1, x2, x3⟩ := x
      obtain ⟨W1, hW1⟩ : ∃ W1, wr.alloc (.cells #[.int .i64 x1, .int .i64 x2, .int .i64 x3] 62) = W1 := ⟨_, rfl⟩
      have HW : Hid (W1.heap[wr.heap.size]? = some (.cells #[.int .i64 x1, .int .i64 x2, .int .i64 x3] 62 (0, 0)) ∧ Below W0.heap.size W0 W1) := hide (by rw [← hW1]; exact ⟨World.alloc_heap_new _ _, HY.out.1.alloc HY.out.1.size _⟩)
      have HBx := hide (blk_on HD.out.2 HW.out.2)
      have y0 : W1.cell? ⟨wr.heap.size, 0, none⟩ = some (.int .i64 x1) := cell_of HW.out.1 rfl
      have y1 : W1.cell? ⟨wr.heap.size, 1, none⟩ = some (.int .i64 x2) := cell_of HW.out.1 rfl
      have y2 : W1.cell? ⟨wr.heap.size, 2, none⟩ = some (.int .i64 x3) := cell_of HW.out.1 rfl
      have z0 : W1.cell? ⟨w.heap.size, 0, none⟩ = some (.int .i64 n) := cell_of HBx.out rfl
      have z1 : W1.cell? ⟨w.heap.size, 1, none⟩ = some (.int .i64 m) := cell_of HBx.out rfl
      have HBd : Hid (edOk n m (x1, x2, x3) = false → mayA n m St Fi Ed = false) := hide (fun h => by
        have : Ed.all (edOk n m) = false := List.all_eq_false.2 ⟨_, HN.out, by rw [h]; simp⟩
        simp [mayA, this])
      cases f1 : inB n x1
      · go_wp2_with (go_at_call 110; refine (within_any _ _ _).mono ?_; rintro e w2 ⟨rfl, hw⟩; obtain rfl := hw.symm)
        go_ret
        exact ⟨HB.out (HBd.out (by simp [edOk, f1])), HD.out.1.trans (HW.out.2.mono HD.out.1.size)⟩
      cases f2 : inB m x2
      · go_wp2_with (go_at_call 110; refine (within_any _ _ _).mono ?_; rintro e w2 ⟨rfl, hw⟩; obtain rfl := hw.symm)
        go_ret
        exact ⟨HB.out (HBd.out (by simp [edOk, f2])), HD.out.1.trans (HW.out.2.mono HD.out.1.size)⟩
      cases f3 : inB n x3
      · go_wp2_with (go_at_call 110; refine (within_any _ _ _).mono ?_; rintro e w2 ⟨rfl, hw⟩; obtain rfl := hw.symm)
        go_ret
        exact ⟨HB.out (HBd.out (by simp [edOk, f3])), HD.out.1.trans (HW.out.2.mono HD.out.1.size)⟩
      go_wp2_with (go_at_call 110; refine (within_any _ _ _).mono ?_; rintro e w2 ⟨rfl, hw⟩; obtain rfl := hw.symm)
      go_roundw
      case rel => exact ⟨i + 1, by omega, by go_num, hide ⟨HW.out.2, by rw [HT.out, List.all_append, HY.out.2]; simp [edOk, f1, f2, f3]⟩⟩
      case measure => simp [intOf]; omega
    · obtain rfl : L = i := by omega
      have i1 : ¬ (L : Int) < (L : Int) := by omega
      go_wp2
      go_ret
      have q := HY.out.2
      rw [← HL.out, List.take_length] at q
      exact ⟨by rw [← HR.out, HM.out q]; rfl, HD.out.1.trans (HY.out.1.mono HD.out.1.size)⟩
end Go.Proofs.YtgnpdhgphkocoaaGreatDoor
namespace Go.Proofs.YtgnpdhgphkocoaaGreatDoor
open Go.RowKit
attribute [local go_sem] Oper.semAt_some
/-! ### Sets of states; Post and Pre -/
theorem readsI_of {W : World} {ao : Option Addr} {L : List Int} (h : RdN W ao L) : ReadsI W ao L := fun k hk => by
  obtain ⟨g, o, e, c⟩ := h k hk
  exact ⟨g, o, e, by rw [c, List.getD_eq_getElem?_getD, List.getElem?_eq_getElem hk]; rfl⟩
theorem okI_of {n : Nat} {L : List Int} (h : L.all (inB n) = true) : okI n L = true := by
  unfold okI
  rw [List.all_eq_true] at h ⊢
  intro x hx
  have := h x hx
  simpa [inB] using this
theorem own_blk {w w' : World} {B e sz n g cap : Nat} {xs : List Value} (h : w.ownsRow B e sz (.slice (some ⟨g, 0, none⟩) n cap) n xs) (hg : w'.heap[g]? = w.heap[g]?) : w'.ownsRow B e sz (.slice (some ⟨g, 0, none⟩) n cap) n xs := by
  refine ⟨h.1, ?_⟩
  rcases h.2 with z | ⟨g', cap', cur, e1, hb, hc, rest⟩
  · exact .inl z
  · cases e1
    exact .inr ⟨g, cap, cur, rfl, hb, hg.trans hc, rest⟩
theorem IsSet.keep {w w' : World} {b g cap n X : Nat} (h : IsSet w b g cap n X) (h1 : w'.heap[b]? = w.heap[b]?) (h2 : w'.heap[g]? = w.heap[g]?) : IsSet w' b g cap n X := ⟨h.hn, h.hX, h1.trans h.blk, own_blk h.own h2⟩
/-- An edge's ends. -/
def ends (back : Bool) (e : EdT) : Int × Int := if back then (e.2.2, e.1) else (e.1, e.2.2)
/-! ### image -/
def imgF (back : Bool) (X : Nat) (sym : Int) (L : List EdT) : Nat := L.foldl (fun R e => if e.2.1 = sym ∧ hasB X (ends back e).1 = true then R ||| 2 ^ (ends back e).2.toNat else R) 0
theorem imgF_test (back : Bool) (X : Nat) (sym : Int) (L : List EdT) (q : Nat) : (imgF back X sym L).testBit q = true ↔ ∃ e ∈ L, e.2.1 = sym ∧ hasB X (ends back e).1 = true ∧ (ends back e).2.toNat = q := by
  suffices h : ∀ R : Nat, (L.foldl (fun (R : Nat) (e : EdT) => if e.2.1 = sym ∧ hasB X (ends back e).1 = true then R ||| 2 ^ (ends back e).2.toNat else R) R).testBit q = true ↔ R.testBit q = true ∨ ∃ e ∈ L, e.2.1 = sym ∧ hasB X (ends back e).1 = true ∧ (ends back e).2.toNat = q by
    unfold imgF
    rw [h]
    simp
  induction L with
  | nil => intro R; simp
  | cons a L ih =>
    intro R
    rw [List.foldl_cons, ih]
    by_cases hc : a.2.1 = sym ∧ hasB X (ends back a).1 = true
    · rw [if_pos hc, Nat.testBit_or, Nat.testBit_two_pow]
      simp only [Bool.or_eq_true, decide_eq_true_eq, List.mem_cons, exists_eq_or_imp]
      constructor
      · rintro ((h | h) | h)
        · exact .inl h
        · exact .inr (.inl ⟨hc.1, hc.2, h⟩)
        · exact .inr (.inr h)
      · rintro (h | ⟨_, _, h⟩ | h)
        · exact .inl (.inl h)
        · exact .inl (.inr h)
        · exact .inr h
    · rw [if_neg hc]
      simp only [List.mem_cons, exists_eq_or_imp]
      constructor
      · rintro (h | h)
        · exact .inl h
        · exact .inr (.inr h)
      · rintro (h | ⟨h1, h2, _⟩ | h)
        · exact .inl h
        · exact absurd ⟨h1, h2⟩ hc
        · exact .inr h
theorem may_parts {n m : Int} {St Fi : List Int} {Ed : List EdT} (h : mayA n m St Fi Ed = true) : (0 ≤ n ∧ n ≤ 4096) ∧ (0 ≤ m ∧ m ≤ 128) ∧ Ed.length ≤ 65536 ∧ St.all (inB n) = true ∧ Fi.all (inB n) = true ∧ ∀ e ∈ Ed, (0 ≤ e.1 ∧ e.1 < n) ∧ (0 ≤ e.2.1 ∧ e.2.1 < m) ∧ 0 ≤ e.2.2 ∧ e.2.2 < n := by
  unfold mayA at h
  simp only [Bool.and_eq_true, decide_eq_true_eq, inB_iff] at h
  obtain ⟨⟨⟨⟨⟨h1, h2⟩, h3⟩, h4⟩, h5⟩, h6⟩ := h
  refine ⟨by omega, by omega, h3, h4, h5, fun e he => ?_⟩
  have := List.all_eq_true.1 h6 e he
  simp only [edOk, Bool.and_eq_true, inB_iff] at this
  exact ⟨this.1.1, this.1.2, this.2⟩
open Go.Maps
/-! ### How two edges are compared -/
structure Only (w w' : World) (R : Nat → Prop) : Prop where
  os : w'.os = w.os
  tape : w'.tape = w.tape
  output : w'.output = w.output
  size : w.heap.size ≤ w'.heap.size
  block : ∀ k, k < w.heap.size → ¬ R k → w'.heap[k]? = w.heap[k]?
theorem Only.ofBelow {w w' : World} {R : Nat → Prop} (h : Below w.heap.size w w') : Only w w' R := ⟨h.os, h.tape, h.output, h.size, fun k hk _ => h.block k hk⟩
theorem Only.toBelow {w w' : World} {R : Nat → Prop} {B : Nat} (h : Only w w' R) (hB : B ≤ w.heap.size) (hR : ∀ k, R k → B ≤ k) : Below B w w' :=
  ⟨h.os, h.tape, h.output, h.size, fun k hk => h.block k (by omega) (fun hr => by have := hR k hr; omega)⟩
theorem Only.trans {a b c : World} {R : Nat → Prop} (h : Only a b R) (k : Only b c R) : Only a c R :=
  ⟨k.os.trans h.os, k.tape.trans h.tape, k.output.trans h.output, Nat.le_trans h.size k.size, fun i hi hn => (k.block i (Nat.lt_of_lt_of_le hi h.size) hn).trans (h.block i hi hn)⟩
theorem Only.mono {w w' : World} {R R' : Nat → Prop} (h : Only w w' R) (hr : ∀ k, k < w.heap.size → R k → R' k) : Only w w' R' := ⟨h.os, h.tape, h.output, h.size, fun k hk hn => h.block k hk (fun h' => hn (hr k hk h'))⟩
/-- What is new may be written. -/
theorem Only.andNew {a b c : World} {R S : Nat → Prop} (h : Only a b R) (k : Only b c S) (hs : ∀ i, i < a.heap.size → S i → R i) : Only a c R :=
  ⟨k.os.trans h.os, k.tape.trans h.tape, k.output.trans h.output, Nat.le_trans h.size k.size, fun i hi hn => (k.block i (Nat.lt_of_lt_of_le hi h.size) (fun hx => hn (hs i hi hx))).trans (h.block i hi hn)⟩
theorem flat_get {α : Type} (cs : α → List Value) (sz : Nat) (hl : ∀ a, (cs a).length = sz) : ∀ (l : List α) (j i : Nat) (hj : j < l.length), i < sz → (l.flatMap cs)[j * sz + i]? = (cs l[j])[i]?
  | a :: l, 0, i, _, hi => by
    rw [Nat.zero_mul, Nat.zero_add, List.flatMap_cons, List.getElem?_append_left (by rw [hl]; exact hi)]; rfl
  | a :: l, j + 1, i, hj, hi => by
    rw [List.flatMap_cons, List.getElem?_append_right (by rw [hl, Nat.succ_mul]; omega), hl, show (j + 1) * sz + i - sz = j * sz + i by rw [Nat.succ_mul]; omega]
    exact flat_get cs sz hl l j i (by simpa using hj) hi
theorem nan_any (x : Int) (w : World) : Calls Tryz.prog 130 #[.int .i64 x] w fun e w' => e = .returned (.bool false) ∧ w' = w := by
  go_enter Tryz.func130, Tryz.ntmps130
  go_wp2
  go_ret
  simp
theorem cmpi_any (x y : Int) (w : World) : Calls Tryz.prog 123 #[.int .i64 x, .int .i64 y] w fun e w' => e = .returned (.int .i64 (Lib.compareInt x y)) ∧ w' = w := by
  unfold Lib.compareInt
  by_cases h1 : x < y
  · go_enter Tryz.func123, Tryz.ntmps123
    go_wp2_with (go_at_call 130; refine (nan_any _ _).mono ?_; rintro e w' ⟨rfl, rfl⟩)
    go_ret
    simp
  · by_cases h2 : y < x
    · go_enter Tryz.func123, Tryz.ntmps123
      go_wp2_with (go_at_call 130; refine (nan_any _ _).mono ?_; rintro e w' ⟨rfl, rfl⟩)
      go_ret
      simp
    · go_enter Tryz.func123, Tryz.ntmps123
      go_wp2_with (go_at_call 130; refine (nan_any _ _).mono ?_; rintro e w' ⟨rfl, rfl⟩)
      go_ret
      simp
/-- How two edges stand: by From, by Sym, by To. -/
def cmpE (x y : EdT) : Int := if x.1 ≠ y.1 then Lib.compareInt x.1 y.1 else if x.2.1 ≠ y.2.1 then Lib.compareInt x.2.1 y.2.1 else Lib.compareInt x.2.2 y.2.2
theorem two_new (w : World) (a b : Obj) (n : Nat) : ((w.alloc a).alloc b).drewN n = { w with heap := w.heap ++ #[a, b], drawn := w.drawn + n } := by
  have h : (w.heap.push a).push b = w.heap ++ #[a, b] := by apply Array.ext'; simp
  show ({ w with heap := (w.heap.push a).push b, drawn := w.drawn + n } : World) = _
  rw [h]
set_option maxRecDepth 100000 in
set_option maxHeartbeats 1000000 in
theorem cmpE_any (x y : EdT) (w : World) : Calls Tryz.prog 125 #[.agg #[.int .i64 x.1, .int .i64 x.2.1, .int .i64 x.2.2], .agg #[.int .i64 y.1, .int .i64 y.2.1, .int .i64 y.2.2]] w fun e w' => e = .returned (.int .i64 (cmpE x y)) ∧ ∃ q os, w' = { w with heap := w.heap ++ os, drawn := w.drawn + q } := by
  obtain ⟨x0, x1, x2⟩ := x
  obtain ⟨y0, y1, y2⟩ := y
  simp only
  obtain ⟨W0, hW0⟩ : ∃ W0, (w.alloc (.cells #[.int .i64 x0, .int .i64 x1, .int .i64 x2] 62)).alloc (.cells #[.int .i64 y0, .int .i64 y1, .int .i64 y2] 62) = W0 := ⟨_, rfl⟩
  have a0 : W0.heap[w.heap.size]? = some (.cells #[.int .i64 x0, .int .i64 x1, .int .i64 x2] 62 (0, 0)) := by rw [← hW0]; exact (Below.heap_alloc _ _ _ (by simp)).trans (World.alloc_heap_new _ _)
  have b0 : W0.heap[w.heap.size + 1]? = some (.cells #[.int .i64 y0, .int .i64 y1, .int .i64 y2] 62 (0, 0)) := by
    rw [← hW0]
    have := World.alloc_heap_new (w.alloc (.cells #[.int .i64 x0, .int .i64 x1, .int .i64 x2] 62)) (.cells #[.int .i64 y0, .int .i64 y1, .int .i64 y2] 62)
    simpa using this
  have c0 : W0.cell? ⟨w.heap.size, 0, none⟩ = some (.int .i64 x0) := by simp [World.cell?, a0]
  have c1 : W0.cell? ⟨w.heap.size, 1, none⟩ = some (.int .i64 x1) := by simp [World.cell?, a0]
  have c2 : W0.cell? ⟨w.heap.size, 2, none⟩ = some (.int .i64 x2) := by simp [World.cell?, a0]
  have d0 : W0.cell? ⟨w.heap.size + 1, 0, none⟩ = some (.int .i64 y0) := by simp [World.cell?, b0]
  have d1 : W0.cell? ⟨w.heap.size + 1, 1, none⟩ = some (.int .i64 y1) := by simp [World.cell?, b0]
  have d2 : W0.cell? ⟨w.heap.size + 1, 2, none⟩ = some (.int .i64 y2) := by simp [World.cell?, b0]
  have HW := hide hW0
  clear a0 b0
  unfold cmpE
  simp only
  have T0 := fun W => cmpi_any x0 y0 W
  have T1 := fun W => cmpi_any x1 y1 W
  have T2 := fun W => cmpi_any x2 y2 W
  by_cases h0 : x0 = y0
  · by_cases h1 : x1 = y1
    · by_cases h2 : x2 = y2
      · subst h0; subst h1; subst h2
        rw [if_neg (by simp), if_neg (by simp), show Lib.compareInt x2 x2 = 0 by simp [Lib.compareInt]]
        go_enter Tryz.func125, Tryz.ntmps125
        go_wp2_with fail
        go_ret
        exact ⟨rfl, 0, _, by rw [← HW.out]; exact two_new w _ _ 0⟩
      · subst h0; subst h1
        rw [if_neg (by simp), if_neg (by simp)]
        go_enter Tryz.func125, Tryz.ntmps125
        go_wp2_with (go_at_call 123; refine (T2 _).mono ?_; rintro e w' ⟨rfl, rfl⟩)
        go_ret
        exact ⟨rfl, 0, _, by rw [← HW.out]; exact two_new w _ _ 0⟩
    · subst h0
      rw [if_neg (by simp), if_pos h1]
      go_enter Tryz.func125, Tryz.ntmps125
      go_wp2_with (go_at_call 123; refine (T1 _).mono ?_; rintro e w' ⟨rfl, rfl⟩)
      go_ret
      exact ⟨rfl, 0, _, by rw [← HW.out]; exact two_new w _ _ 0⟩
  · rw [if_pos h0]
    go_enter Tryz.func125, Tryz.ntmps125
    go_wp2_with (go_at_call 123; refine (T0 _).mono ?_; rintro e w' ⟨rfl, rfl⟩)
    go_ret
    exact ⟨rfl, 0, _, by rw [← HW.out]; exact two_new w _ _ 0⟩
end Go.Proofs.YtgnpdhgphkocoaaGreatDoor
namespace Go.Proofs
open Go.Shelf
def Tryz.sortEdge_ren : Go.Shelf.Ren := ⟨fun | 6 => 131 | 15 => 134 | 14 => 135 | 28 => 144 | 29 => 145 | 20 => 146 | 21 => 147 | 22 => 148 | 23 => 149 | 24 => 150 | 25 => 151 | 26 => 152 | 27 => 153 | 46 => 159 | 47 => 155 | 48 => 156 | 49 => 160 | 50 => 161 | 57 => 163 | n => n, fun | 22 => 23 | 24 => 62 | 25 => 150 | 3 => 3 | 39 => 125 | 0 => 0 | 53 => 167 | 55 => 126 | 4 => 4 | 46 => 161 | 45 => 160 | 50 => 117 | 5 => 5 | 9 => 9 | 66 => 173 | 70 => 177 | 76 => 181 | 77 => 182 | n => n, fun | n => n⟩
theorem Tryz.sortEdge : Go.Proofs.SlLaysF0.n6 Tryz.prog Tryz.sortEdge_ren := {
  mixed := by kernel_rfl
  f6 := ⟨Tryz.f131.name, by decide, Tryz.func131.trans (congrArg some (by kernel_rfl))⟩
  f14 := ⟨Tryz.f135.name, by decide, Tryz.func135.trans (congrArg some (by kernel_rfl))⟩
  f15 := Tryz.func134.trans (congrArg some (by kernel_rfl))
  f20 := ⟨Tryz.f146.name, by decide, Tryz.func146.trans (congrArg some (by kernel_rfl))⟩
  f21 := ⟨Tryz.f147.name, by decide, Tryz.func147.trans (congrArg some (by kernel_rfl))⟩
  f22 := ⟨Tryz.f148.name, by decide, Tryz.func148.trans (congrArg some (by kernel_rfl))⟩
  f23 := ⟨Tryz.f149.name, by decide, Tryz.func149.trans (congrArg some (by kernel_rfl))⟩
  f24 := ⟨Tryz.f150.name, by decide, Tryz.func150.trans (congrArg some (by kernel_rfl))⟩
  f25 := ⟨Tryz.f151.name, by decide, Tryz.func151.trans (congrArg some (by kernel_rfl))⟩
  f26 := ⟨Tryz.f152.name, by decide, Tryz.func152.trans (congrArg some (by kernel_rfl))⟩
  f27 := ⟨Tryz.f153.name, by decide, Tryz.func153.trans (congrArg some (by kernel_rfl))⟩
  f28 := Tryz.func144.trans (congrArg some (by kernel_rfl))
  f29 := Tryz.func145.trans (congrArg some (by kernel_rfl))
  f46 := ⟨Tryz.f159.name, by decide, Tryz.func159.trans (congrArg some (by kernel_rfl))⟩
  f47 := Tryz.func155.trans (congrArg some (by kernel_rfl))
  f48 := Tryz.func156.trans (congrArg some (by kernel_rfl))
  f49 := ⟨Tryz.f160.name, by decide, Tryz.func160.trans (congrArg some (by kernel_rfl))⟩
  f50 := ⟨Tryz.f161.name, by decide, Tryz.func161.trans (congrArg some (by kernel_rfl))⟩
  f57 := ⟨Tryz.f163.name, by decide, Tryz.func163.trans (congrArg some (by kernel_rfl))⟩
  t0 := Tryz.underlying0
  a0 := Tryz.isAgg0
  z0 := Tryz.sizeOf0
  v0 := Tryz.zeroValue0
  t3 := Tryz.underlying3
  a3 := Tryz.isAgg3
  z3 := Tryz.sizeOf3
  v3 := Tryz.zeroValue3
  t4 := Tryz.underlying4
  a4 := Tryz.isAgg4
  z4 := Tryz.sizeOf4
  v4 := Tryz.zeroValue4
  t5 := Tryz.underlying5
  a5 := Tryz.isAgg5
  z5 := Tryz.sizeOf5
  v5 := Tryz.zeroValue5
  t9 := Tryz.underlying9
  a9 := Tryz.isAgg9
  z9 := Tryz.sizeOf9
  v9 := Tryz.zeroValue9
  t22 := Tryz.underlying23
  a22 := Tryz.isAgg23
  z22 := Tryz.sizeOf23
  v22 := Tryz.zeroValue23
  t25 := Tryz.underlying150
  a25 := Tryz.isAgg150
  z25 := Tryz.sizeOf150
  v25 := Tryz.zeroValue150
  t39 := Tryz.underlying125
  a39 := Tryz.isAgg125
  z39 := Tryz.sizeOf125
  v39 := Tryz.zeroValue125
  t45 := Tryz.underlying160
  a45 := Tryz.isAgg160
  z45 := Tryz.sizeOf160
  v45 := Tryz.zeroValue160
  t46 := Tryz.underlying161
  a46 := Tryz.isAgg161
  z46 := Tryz.sizeOf161
  v46 := Tryz.zeroValue161
  t50 := Tryz.underlying117
  a50 := Tryz.isAgg117
  z50 := Tryz.sizeOf117
  v50 := Tryz.zeroValue117
  t53 := Tryz.underlying167
  a53 := Tryz.isAgg167
  z53 := Tryz.sizeOf167
  v53 := Tryz.zeroValue167
  t55 := Tryz.underlying126
  a55 := Tryz.isAgg126
  z55 := Tryz.sizeOf126
  v55 := Tryz.zeroValue126
  t66 := Tryz.underlying173
  a66 := Tryz.isAgg173
  z66 := Tryz.sizeOf173
  v66 := Tryz.zeroValue173
  t70 := Tryz.underlying177
  a70 := Tryz.isAgg177
  z70 := Tryz.sizeOf177
  v70 := Tryz.zeroValue177
  t76 := Tryz.underlying181
  a76 := Tryz.isAgg181
  z76 := Tryz.sizeOf181
  v76 := Tryz.zeroValue181
  t77 := Tryz.underlying182
  a77 := Tryz.isAgg182
  z77 := Tryz.sizeOf182
  v77 := Tryz.zeroValue182 }
end Go.Proofs
namespace Go.Proofs.YtgnpdhgphkocoaaGreatDoor
open Go.RowKit Go.Maps Go.Shelf Go.Sort
/-! ### Edges sorted -/
/-- An edge's cells. -/
def encE (x : EdT) : List Value := [.int .i64 x.1, .int .i64 x.2.1, .int .i64 x.2.2]
def ltE (x y : EdT) : Bool := decide (x.1 < y.1 ∨ (x.1 = y.1 ∧ (x.2.1 < y.2.1 ∨ (x.2.1 = y.2.1 ∧ x.2.2 < y.2.2))))
theorem ltE_iff {x y : EdT} : ltE x y = true ↔ x.1 < y.1 ∨ (x.1 = y.1 ∧ (x.2.1 < y.2.1 ∨ (x.2.1 = y.2.1 ∧ x.2.2 < y.2.2))) := decide_eq_true_iff
theorem ltE_not {x y : EdT} : ltE x y = false ↔ ¬ (x.1 < y.1 ∨ (x.1 = y.1 ∧ (x.2.1 < y.2.1 ∨ (x.2.1 = y.2.1 ∧ x.2.2 < y.2.2)))) := decide_eq_false_iff_not
theorem cmp_pos (x y : Int) : (x < y ∧ Lib.compareInt x y = -1) ∨ (y < x ∧ Lib.compareInt x y = 1) ∨ (x = y ∧ Lib.compareInt x y = 0) := by
  unfold Lib.compareInt
  rcases Int.lt_trichotomy x y with h | h | h
  · exact .inl ⟨h, by simp [h]⟩
  · exact .inr (.inr ⟨h, by simp [h]⟩)
  · exact .inr (.inl ⟨h, by rw [if_neg (by omega), if_pos (by omega)]⟩)
theorem ltE_is : ltOf cmpE = ltE := by
  funext x y
  unfold ltOf cmpE ltE
  rcases cmp_pos x.1 y.1 with ⟨h1, e1⟩ | ⟨h1, e1⟩ | ⟨h1, e1⟩ <;> rcases cmp_pos x.2.1 y.2.1 with ⟨h2, e2⟩ | ⟨h2, e2⟩ | ⟨h2, e2⟩ <;> rcases cmp_pos x.2.2 y.2.2 with ⟨h3, e3⟩ | ⟨h3, e3⟩ | ⟨h3, e3⟩ <;> simp only [e1, e2, e3] <;> (repeat' split) <;> simp <;> omega
theorem swoE : SWO ltE where
  irrefl x := by rw [ltE_not]; omega
  trans x y z h1 h2 := by rw [ltE_iff] at *; omega
  ntrans x y z h1 h2 := by rw [ltE_not] at *; omega
theorem totE (x y : EdT) (h1 : ltE x y = false) (h2 : ltE y x = false) : x = y := by
  rw [ltE_not] at h1 h2
  exact Prod.ext (by omega) (Prod.ext (by omega) (by omega))
theorem encE_len (x : EdT) : (encE x).length = 3 := rfl
theorem flatE (L : List EdT) : (flatK encE 3 L.toArray).toList = L.flatMap encE := by
  have hz : (L.flatMap encE).length = L.length * 3 := by
    induction L with
    | nil => rfl
    | cons x L ih => rw [List.flatMap_cons, List.length_append, ih, encE_len, List.length_cons]; omega
  apply List.ext_getElem?
  intro t
  by_cases ht : t < L.length * 3
  · have h1 : t / 3 < L.length := by omega
    have h2 : t % 3 < 3 := by omega
    have e := flat_get encE 3 encE_len L (t / 3) (t % 3) h1 h2
    rw [show t / 3 * 3 + t % 3 = t by omega] at e
    rw [e, Array.getElem?_toList]
    have hs : t < (flatK encE 3 L.toArray).size := by simpa using ht
    have g := get_flatK encE 3 L.toArray t (by simpa using ht)
    rw [getElem!_pos _ t hs] at g
    rw [Array.getElem?_eq_getElem hs, g]
    have h3 : t % 3 < (encE L[t / 3]).length := by rw [encE_len]; exact h2
    have h4 : L.toArray[t / 3]! = L[t / 3] := by rw [getElem!_pos _ _ (by simpa using h1)]; simp
    rw [List.getElem?_eq_getElem h3, h4, getElem!_pos (encE L[t / 3]) (t % 3) h3]
  · rw [List.getElem?_eq_none (by rw [Array.length_toList, size_flatK]; simpa using ht), List.getElem?_eq_none (by omega)]
/-- A list of edges in order. -/
def sortE (L : List EdT) : List EdT := L.mergeSort fun x y => !ltE y x
theorem sortE_len (L : List EdT) : (sortE L).length = L.length := List.length_mergeSort _
theorem cmpLays (blk off size : Nat) (w : World) : CmpLays Tryz.prog 125 #[] encE 3 cmpE blk off size w := fun _ _ _ _ x y => (cmpE_any x y _).mono fun _ _ ⟨he, q, os, hw⟩ => ⟨he, q, os, hw⟩
theorem sortE_any (W : World) (B : Nat) (v : Value) (L : List EdT) (hv : W.ownsRow B 62 3 v L.length (L.flatMap encE)) (hl : L.length ≤ 4194304) :
    Calls Tryz.prog 131 #[v, .func (.func 125) #[] #[]] W fun e w' => e = .returned (.tuple #[]) ∧ w'.ownsRow B 62 3 v L.length ((sortE L).flatMap encE) ∧ Only W w' (fun k => v.ownBlock = some k) := by
  rcases hv.2 with ⟨rfl, h0⟩ | ⟨g, cap, cur, rfl, hB, hb, hn, hcap, hsz, hxs⟩
  · obtain rfl : L = [] := List.eq_nil_of_length_eq_zero h0
    refine (AnyF.slices_SortFunc_none Tryz.sortEdge none 0 (.func (.func 125) #[] #[]) W).mono ?_
    rintro e w' ⟨rfl, rfl⟩
    refine ⟨rfl, ?_, Only.ofBelow (Below.refl _ _)⟩
    rw [show sortE [] = [] by simp [sortE]]
    exact hv
  · have eg : ∀ args w, (callFunc 125 args).run Tryz.prog w = .ok (.enter 125 args) w := enters_of Tryz.func125 (by kernel_rfl) rfl
    have hg : g < W.heap.size := (Array.getElem?_eq_some_iff.1 hb).1
    have hH : HoldsK encE 3 W g 0 L.toArray := by
      intro j hj
      have hj2 : j < L.length * 3 := by simpa using hj
      refine ⟨?_, by simp [World.frozen?, hb]⟩
      have hfe : (flatK encE 3 L.toArray).toList[j]? = cur.toList[j]? := by rw [flatE, ← hxs, List.getElem?_take_of_lt hj2]
      have hs : j < (flatK encE 3 L.toArray).size := hj
      rw [Array.getElem?_toList, Array.getElem?_eq_getElem hs, Array.getElem?_toList] at hfe
      simp only [World.cell?, hb, Nat.zero_add]
      simp only [Option.isSome_none, Bool.false_eq_true, if_false, id]
      rw [← hfe, getElem!_pos (flatK encE 3 L.toArray) j hs]
    have hO : SWO (ltOf cmpE) := by rw [ltE_is]; exact swoE
    have H := AnyQ.slices_SortFunc_total Tryz.sortEdge 3 Tryz.isAgg62 Tryz.sizeOf62 encE encE_len (fun x v hv => by simp [encE] at hv; rcases hv with rfl | rfl | rfl <;> rfl) cmpE hO 125 #[] g 0 cap L.toArray W eg (cmpLays g 0 _ W) hH hg (by simp; omega) (by rw [ltE_is]; exact totE)
    rw [ltE_is] at H
    have e1 : L.toArray.size = L.length := by simp
    rw [e1] at H
    refine Calls.mono H ?_
    rintro e w' ⟨rfl, n, os, rfl⟩
    have hq : (sortWorldK encE 3 W g 0 n (sortE L).toArray os).heap[g]? = some (.cells (putCells id 0 (flatK encE 3 (sortE L).toArray) cur) 62 (0, 0)) := by
      unfold sortWorldK putRowK
      rw [heap_grow_old _ _ (by simpa using hg)]
      simp [putRow, mapBlock, Sort.ahead, Array.getElem?_modify, hb, onCells]
    have hfs : (flatK encE 3 (sortE L).toArray).size = L.length * 3 := by simp [sortE_len]
    refine ⟨rfl, ⟨?_, .inr ⟨g, cap, _, rfl, hB, hq, hn, hcap, by simp [putCells, hsz], ?_⟩⟩, ?_⟩
    · rw [← flatE, Array.length_toList, hfs]
    · rw [← flatE]
      apply List.ext_getElem?
      intro j
      by_cases hj : j < L.length * 3
      · have hj3 : j < cur.size := by rw [hsz]; have := Nat.mul_le_mul_right 3 hn; omega
        rw [List.getElem?_take_of_lt hj, Array.getElem?_toList, Array.getElem?_toList]
        simp [putCells, hj3, sortE_len, hj]
      · rw [List.getElem?_take_eq_none (by omega), List.getElem?_eq_none (by rw [Array.length_toList, hfs]; omega)]
    · refine ⟨rfl, rfl, rfl, by simp [sortWorldK, putRowK, putRow, mapBlock, Sort.ahead, grow], fun k hk hne => ?_⟩
      unfold sortWorldK putRowK
      rw [heap_grow_old _ _ (by simpa using hk)]
      have : g ≠ k := fun e => hne (by rw [e]; rfl)
      simp [putRow, mapBlock, Sort.ahead, Array.getElem?_modify, this]
end Go.Proofs.YtgnpdhgphkocoaaGreatDoor
namespace Go.Proofs.YtgnpdhgphkocoaaGreatDoor
open Go.RowKit Go.Maps
attribute [local go_sem] Oper.semAt_some
/-! ### Edges that stand side by side, each once -/
/-- A made row being filled: its cells below k are known. -/
def Mrw (W : World) (H : Nat) (t : TypeId) (N : Nat) (val : Nat → Value) (k : Nat) : Prop :=
  ∃ cur : Array Value, W.heap[H]? = some (.cells cur t (0, 0)) ∧ cur.size = N ∧ ∀ j, j < k → cur[j]? = some (val j)
theorem Mrw.cell {W : World} {H : Nat} {t : TypeId} {N : Nat} {val : Nat → Value} {k : Nat} (h : Mrw W H t N val k) (j : Nat) (hj : j < N) : ∃ u, W.cell? ⟨H, j, none⟩ = some u := by
  obtain ⟨cur, h1, h2, _⟩ := h
  exact ⟨cur[j]'(by omega), cell_of h1 (Array.getElem?_eq_getElem (by omega))⟩
theorem Mrw.fz {W : World} {H : Nat} {t : TypeId} {N : Nat} {val : Nat → Value} {k : Nat} (h : Mrw W H t N val k) (j : Nat) : W.frozen? ⟨H, j, none⟩ = false := by
  obtain ⟨cur, h1, _⟩ := h
  exact fz_of h1
theorem Mrw.set {W : World} {H : Nat} {t : TypeId} {N : Nat} {val : Nat → Value} {k : Nat} (h : Mrw W H t N val k) (j : Nat) (hj : k ≤ j) (u : Value) : Mrw (W.setCell ⟨H, j, none⟩ u) H t N val k := by
  obtain ⟨cur, h1, h2, h3⟩ := h
  refine ⟨_, heap_setCell_same W H j cur t u h1, by simpa using h2, fun i hi => ?_⟩
  rw [Array.getElem?_setIfInBounds_ne (by omega)]
  exact h3 i hi
theorem Mrw.put {W : World} {H : Nat} {t : TypeId} {N : Nat} {val : Nat → Value} {k : Nat} (h : Mrw W H t N val k) (hk : k < N) (u : Value) (hu : val k = u) : Mrw (W.setCell ⟨H, k, none⟩ u) H t N val (k + 1) := by
  obtain ⟨cur, h1, h2, h3⟩ := h
  refine ⟨_, heap_setCell_same W H k cur t u h1, by simpa using h2, fun i hi => ?_⟩
  by_cases e : i = k
  · subst e
    rw [Array.getElem?_setIfInBounds_self_of_lt (by omega), hu]
  · rw [Array.getElem?_setIfInBounds_ne (by omega)]
    exact h3 i (by omega)
theorem Mrw.at {W : World} {H : Nat} {t : TypeId} {N : Nat} {val : Nat → Value} {k : Nat} (h : Mrw W H t N val k) (j : Nat) (hj : j < k) : W.cell? ⟨H, j, none⟩ = some (val j) := by
  obtain ⟨cur, h1, h2, h3⟩ := h
  exact cell_of h1 (h3 j hj)
theorem Mrw.below {W W' : World} {H : Nat} {t : TypeId} {N : Nat} {val : Nat → Value} {k B : Nat} (h : Mrw W H t N val k) (d : Below B W W') (hB : H < B) : Mrw W' H t N val k := by
  obtain ⟨cur, h1, h2, h3⟩ := h
  exact ⟨cur, (d.block _ hB).trans h1, h2, h3⟩
theorem Mrw.lt {W : World} {H : Nat} {t : TypeId} {N : Nat} {val : Nat → Value} {k : Nat} (h : Mrw W H t N val k) : H < W.heap.size := by
  obtain ⟨cur, h1, _⟩ := h
  exact (Array.getElem?_eq_some_iff.1 h1).1
theorem only_set (w : World) (g k : Nat) (v : Value) : Only w (w.setCell ⟨g, k, none⟩ v) (fun i => i = g) :=
  ⟨rfl, rfl, rfl, by simp [World.setCell], fun i _ hn => Below.heap_setCell _ _ _ _ (fun e => hn (by rw [e]))⟩
theorem row_only {w w' : World} {R : Nat → Prop} {B : Nat} {e : TypeId} {sz n : Nat} {v : Value} {xs : List Value} (h : w.ownsRow B e sz v n xs) (ho : Only w w' R) (hn : ∀ k, v.ownBlock = some k → ¬ R k) : w'.ownsRow B e sz v n xs := by
  refine ⟨h.1, ?_⟩
  have hlt := h.lt
  rcases h.2 with h2 | ⟨g, cap, cur, rfl, hb, hg, rest⟩
  · exact .inl h2
  · exact .inr ⟨g, cap, cur, rfl, hb, (ho.block g (hlt g rfl).2 (hn g rfl)).trans hg, rest⟩
theorem only3 (W : World) (b i j k : Nat) (x y z : Value) : Only W (((W.setCell ⟨b, i, none⟩ x).setCell ⟨b, j, none⟩ y).setCell ⟨b, k, none⟩ z) (fun q => q = b) := ((only_set W b i x).trans (only_set _ b j y)).trans (only_set _ b k z)
theorem below_drewN2 {B : Nat} {w w' : World} (d : Below B w w') (n : Nat) : Below B w (w'.drewN n) := ⟨d.os, d.tape, d.output, d.size, d.block⟩
theorem Mrw.upd {W : World} {H : Nat} {t : TypeId} {N : Nat} {f : Nat → Value} (h : Mrw W H t N f N) (j : Nat) (u : Value) : Mrw (W.setCell ⟨H, j, none⟩ u) H t N (fun c => if c = j then u else f c) N := by
  obtain ⟨cur, h1, h2, h3⟩ := h
  refine ⟨_, heap_setCell_same W H j cur t u h1, by simpa using h2, fun i hi => ?_⟩
  by_cases e : i = j
  · subst e
    rw [Array.getElem?_setIfInBounds_self_of_lt (by omega)]
    simp
  · rw [Array.getElem?_setIfInBounds_ne (by omega), h3 i hi]
    simp [e]
theorem Mrw.congr {W : World} {H : Nat} {t : TypeId} {N : Nat} {f g : Nat → Value} (h : Mrw W H t N f N) (e : ∀ c, c < N → f c = g c) : Mrw W H t N g N := by
  obtain ⟨cur, h1, h2, h3⟩ := h
  exact ⟨cur, h1, h2, fun j hj => by rw [h3 j hj, e j hj]⟩
theorem Mrw.drew {W : World} {H : Nat} {t : TypeId} {N : Nat} {f : Nat → Value} (h : Mrw W H t N f N) : Mrw W.drew H t N f N := h
theorem Mrw.alloc {W : World} {H : Nat} {t : TypeId} {N : Nat} {f : Nat → Value} (h : Mrw W H t N f N) (o : Obj) : Mrw (W.alloc o) H t N f N := h.below ((Below.refl _ _).alloc (Nat.le_refl _) _) h.lt
theorem Mrw.only {W W' : World} {H : Nat} {t : TypeId} {N : Nat} {f : Nat → Value} {P : Nat → Prop} (h : Mrw W H t N f N) (o : Only W W' P) (hP : ¬ P H) : Mrw W' H t N f N := by
  have hl := h.lt
  obtain ⟨cur, h1, h2, h3⟩ := h
  exact ⟨cur, (o.block H hl hP).trans h1, h2, h3⟩
theorem Mrw.ne {W : World} {H K : Nat} {t u : TypeId} {N M : Nat} {f g : Nat → Value} {a b : Nat} (h : Mrw W H t N f a) (k : Mrw W K u M g b) (htu : t ≠ u) : H ≠ K := by
  rintro rfl
  obtain ⟨c, h1, _⟩ := h
  obtain ⟨d, k1, _⟩ := k
  rw [h1] at k1
  simp only [Option.some.injEq, Obj.cells.injEq] at k1
  exact htu k1.2.1
theorem edges_at {w : World} {g o : Nat} {L : List EdT} (h : RdE w (some ⟨g, o, none⟩) L) (j : Nat) (u : Value) (hu : (L.flatMap encE)[j]? = some u) : w.cell? ⟨g, o + j, none⟩ = some u := by
  have hz : (L.flatMap encE).length = L.length * 3 := by
    clear h hu
    induction L with
    | nil => rfl
    | cons x L ih => rw [List.flatMap_cons, List.length_append, ih, encE_len, List.length_cons]; omega
  have hj : j < L.length * 3 := by
    have := (List.getElem?_eq_some_iff.1 hu).1
    omega
  have h1 : j / 3 < L.length := by omega
  have e := flat_get encE 3 encE_len L (j / 3) (j % 3) h1 (by omega)
  rw [show j / 3 * 3 + j % 3 = j by omega, hu] at e
  obtain ⟨g', o', e', c0, c1, c2⟩ := h (j / 3) h1
  cases e'
  have h3 : j % 3 = 0 ∨ j % 3 = 1 ∨ j % 3 = 2 := by omega
  rcases h3 with q | q | q
  · rw [q] at e
    rw [show o + j = o + j / 3 * 3 by omega, c0]
    exact e.symm
  · rw [q] at e
    rw [show o + j = o + j / 3 * 3 + 1 by omega, c1]
    exact e.symm
  · rw [q] at e
    rw [show o + j = o + j / 3 * 3 + 2 by omega, c2]
    exact e.symm
theorem encE_one (L : List EdT) : ∀ u ∈ L.flatMap encE, u.oneCell' = true := by
  intro u hu
  obtain ⟨x, _, hx⟩ := List.mem_flatMap.1 hu
  simp only [encE, List.mem_cons, List.not_mem_nil, or_false] at hx
  rcases hx with rfl | rfl | rfl <;> rfl
theorem encE_flat (L : List EdT) : (L.flatMap encE).length = L.length * 3 := by
  induction L with
  | nil => rfl
  | cons x L ih => rw [List.flatMap_cons, List.length_append, ih, encE_len, List.length_cons]; omega
/-- The cells of edges in a row. -/
def EdF (f : Nat → Value) (d : Array EdT) : Prop := ∀ j, j < d.size → f (j * 3) = .int .i64 d[j]!.1 ∧ f (j * 3 + 1) = .int .i64 d[j]!.2.1 ∧ f (j * 3 + 2) = .int .i64 d[j]!.2.2
theorem EdF.set {f : Nat → Value} {d : Array EdT} (h : EdF f d) (k : Nat) (x : EdT) : EdF (fun c => if c = k * 3 + 2 then .int .i64 x.2.2 else if c = k * 3 + 1 then .int .i64 x.2.1 else if c = k * 3 then .int .i64 x.1 else f c) (d.setIfInBounds k x) := by
  intro j hj
  rw [Array.size_setIfInBounds] at hj
  by_cases e : j = k
  · subst e
    rw [Sort.getElem!_set_same d j x hj]
    refine ⟨?_, ?_, ?_⟩
    · show (if _ then _ else _) = _
      rw [if_neg (by omega), if_neg (by omega), if_pos rfl]
    · show (if _ then _ else _) = _
      rw [if_neg (by omega), if_pos rfl]
    · show (if _ then _ else _) = _
      rw [if_pos rfl]
  · rw [Sort.getElem!_set_other d k j x e]
    obtain ⟨h0, h1, h2⟩ := h j hj
    refine ⟨?_, ?_, ?_⟩
    · show (if _ then _ else _) = _
      rw [if_neg (by omega), if_neg (by omega), if_neg (by omega)]; exact h0
    · show (if _ then _ else _) = _
      rw [if_neg (by omega), if_neg (by omega), if_neg (by omega)]; exact h1
    · show (if _ then _ else _) = _
      rw [if_neg (by omega), if_neg (by omega), if_neg (by omega)]; exact h2
theorem edF_cells {W : World} {g N : Nat} {f : Nat → Value} {d : Array EdT} (hM : Mrw W g 62 N f N) (hF : EdF f d) (hN : d.size * 3 ≤ N) {j : Nat} (hj : j < d.size) {x0 x1 x2 : Int} (hx : d[j]! = (x0, x1, x2)) : W.cell? ⟨g, j * 3, none⟩ = some (.int .i64 x0) ∧ W.cell? ⟨g, j * 3 + 1, none⟩ = some (.int .i64 x1) ∧ W.cell? ⟨g, j * 3 + 2, none⟩ = some (.int .i64 x2) := by
  obtain ⟨h0, h1, h2⟩ := hF j hj
  rw [hx] at h0 h1 h2
  exact ⟨(hM.at _ (by omega)).trans (congrArg some h0), (hM.at _ (by omega)).trans (congrArg some h1), (hM.at _ (by omega)).trans (congrArg some h2)⟩
theorem rd_low {W : World} {g N n : Nat} {f : Nat → Value} {L : List EdT} {dk : Array EdT} (hM : Mrw W g 62 N f N) (hN : n * 3 ≤ N) (hl : L.length ≤ n) (hL : ∀ j, j < L.length → L[j]? = some dk[j]!) (hF : ∀ j, j < L.length → f (j * 3) = .int .i64 dk[j]!.1 ∧ f (j * 3 + 1) = .int .i64 dk[j]!.2.1 ∧ f (j * 3 + 2) = .int .i64 dk[j]!.2.2) : RdE W (some ⟨g, 0, none⟩) L := fun j hj => by
  obtain ⟨h0, h1, h2⟩ := hF j hj
  have e : L[j] = dk[j]! := Option.some.inj ((List.getElem?_eq_getElem hj).symm.trans (hL j hj))
  rw [← e] at h0 h1 h2
  exact ⟨g, 0, rfl, by rw [Nat.zero_add, hM.at _ (by omega), h0], by rw [Nat.zero_add, hM.at _ (by omega), h1], by rw [Nat.zero_add, hM.at _ (by omega), h2]⟩
theorem all_kept {d : Array EdT} {n : Nat} (hn : d.size = n) (hk : ∀ j, j < n → Lib.keeps d j = true) : Lib.compactUpTo d n = d.toList := by
  rw [Lib.compactUpTo_all d n hk, ← hn]
  exact Lib.range_map_get d
theorem rd_all {W : World} {g N n : Nat} {f : Nat → Value} {d : Array EdT} (hn : d.size = n) (hM : Mrw W g 62 N f N) (hN : n * 3 ≤ N) (hF : EdF f d) (hk : ∀ j, j < n → Lib.keeps d j = true) : (Lib.compactUpTo d n).length = n ∧ RdE W (some ⟨g, 0, none⟩) (Lib.compactUpTo d n) := by
  rw [all_kept hn hk]
  refine ⟨by simpa using hn, rd_low (dk := d) hM hN (by simp; omega) (fun j hj => ?_) fun j hj => hF j (by simpa using hj)⟩
  have hj' : j < d.size := by simpa using hj
  rw [Array.getElem?_toList, Array.getElem?_eq_getElem hj', getElem!_pos d j hj']
/-- Cells set one behind the other. -/
theorem set_cells {t : TypeId} {g N : Nat} : ∀ (xs : List Value) (o : Nat) {W : World} {f : Nat → Value}, Mrw W g t N f N → ∃ f', Mrw (W.setCells g o xs) g t N f' N ∧ (∀ c, c < o → f' c = f c) ∧ Only W (W.setCells g o xs) (fun k => k = g)
  | [], _, _, f, h => ⟨f, h, fun _ _ => rfl, Only.ofBelow (Below.refl _ _)⟩
  | x :: xs, o, W, f, h => by
    obtain ⟨f', h1, h2, h3⟩ := set_cells xs (o + 1) (h.upd o x)
    refine ⟨f', h1, fun c hc => ?_, (only_set W g o x).trans h3⟩
    rw [h2 c (by omega)]
    exact if_neg (by omega)
theorem zeroE (n : Nat) : (Builtin.zeroCells #[Value.int .i64 0, .int .i64 0, .int .i64 0] n).toList = List.replicate (n * 3) (.int .i64 0) := by
  apply List.ext_getElem
  · simp [Builtin.zeroCells]
  · intro i h1 h2
    have h3 : i % 3 = 0 ∨ i % 3 = 1 ∨ i % 3 = 2 := by omega
    simp [Builtin.zeroCells]
    rcases h3 with q | q | q <;> simp [q]
theorem clear_run (W : World) (ty : TypeId) (g o n c : Nat) (hn : 0 < n) (hc : ∀ j, j < n * 3 → (W.cell? ⟨g, o + j, none⟩).isSome = true) (hf : ∀ j, j < n * 3 → W.frozen? ⟨g, o + j, none⟩ = false) :
    (Builtin.clear_ #[23] ty #[.slice (some ⟨g, o, none⟩) n c]).run Tryz.prog W = .ok (.tuple #[]) (W.setCells g o (List.replicate (n * 3) (.int .i64 0))) := by
  have hst := run_storeCells_cells (P := Tryz.prog) g o (List.replicate (n * 3) (.int .i64 0)) 0 W (by simpa using hc) (by simpa using hf) (by intro v hv'; rw [List.eq_of_mem_replicate hv']; rfl)
  simp only [Nat.add_zero] at hst
  obtain ⟨m, rfl⟩ : ∃ m, n = m + 1 := ⟨n - 1, by omega⟩
  have hz : ∀ w : World, (zeroValue 62).run Tryz.prog w = .ok (.agg #[.int .i64 0, .int .i64 0, .int .i64 0]) w := fun w => by kernel_rfl
  have hcl : (Value.agg #[.int .i64 0, .int .i64 0, .int .i64 0]).cells = #[.int .i64 0, .int .i64 0, .int .i64 0] := rfl
  simp [Builtin.clear_, run_underlying Tryz.underlying23, hz, hcl, zeroE, hst]
set_option maxRecDepth 100000 in
set_option maxHeartbeats 4000000 in
theorem compactA (w : World) (g cap n : Nat) (d : Array EdT) (hn : Hid (d.size = n)) (f : Nat → Value) (hM : Hid (Mrw w g 62 (cap * 3) f (cap * 3))) (hF : Hid (EdF f d)) (hcap : n ≤ cap) (hl : n ≤ 4194304) :
    Calls Tryz.prog 132 #[.slice (some ⟨g, 0, none⟩) n cap] w fun e w' => e = .returned (.slice (some ⟨g, 0, none⟩) (Lib.compactUpTo d n).length cap) ∧ RdE w' (some ⟨g, 0, none⟩) (Lib.compactUpTo d n) ∧ Only w w' (fun k => k = g) ∧ ∃ f', Mrw w' g 62 (cap * 3) f' (cap * 3) := by
  by_cases h2 : n < 2
  · have i1 : (n : Int) < 2 := by omega
    go_enter Tryz.func132, Tryz.ntmps132
    go_wp2
    go_ret
    obtain ⟨e1, e2⟩ := rd_all hn.out hM.out (by omega) hF.out fun j hj => Lib.keeps_lt_one d j (by omega)
    exact ⟨by rw [e1]; rfl, e2, Only.ofBelow (Below.refl _ _), _, hM.out⟩
  · have i1 : ¬ (n : Int) < 2 := by omega
    go_enter Tryz.func132, Tryz.ntmps132
    go_wp2_with fail
    go_loopw [3] (fun i wr => ∃ m : Nat, m + 1 ≤ n ∧ i = .int .i64 ((m + 1 : Nat) : Int) ∧ Hid (Mrw wr g 62 (cap * 3) f (cap * 3) ∧ Below w.heap.size w wr ∧ ∀ j, j < m + 1 → Lib.keeps d j = true)) (fun i _ => n - (intOf i).toNat)
    case atStart => exact ⟨0, by omega, rfl, hide ⟨hM.out, Below.refl _ _, fun j hj => Lib.keeps_lt_one d j (by omega)⟩⟩
    case round =>
      obtain ⟨m, hm, rfl, HK⟩ := hrel
      obtain ⟨wi, rfl⟩ : ∃ z, z = wr := ⟨_, rfl⟩
      by_cases hlt : m + 1 < n
      · have j0 : (m : Int) + 1 < (n : Int) := by omega
        have j1 : (m : Int) < (n : Int) := by omega
        have j2 : (0 : Int) ≤ (m : Int) := by omega
        have j3 : (0 : Int) ≤ (m : Int) + 1 := by omega
        obtain ⟨⟨x0, x1, x2⟩, hx⟩ : ∃ x, d[m + 1]! = x := ⟨_, rfl⟩
        obtain ⟨⟨y0, y1, y2⟩, hy⟩ : ∃ y, d[m]! = y := ⟨_, rfl⟩
        obtain ⟨p0, p1, p2⟩ := edF_cells HK.out.1 hF.out (by rw [hn.out]; omega) (by rw [hn.out]; omega) hx
        obtain ⟨q0, q1, q2⟩ := edF_cells HK.out.1 hF.out (by rw [hn.out]; omega) (show m < d.size by rw [hn.out]; omega) hy
        have HE : Hid (Lib.keeps d (m + 1) = !decide (x0 = y0 ∧ x1 = y1 ∧ x2 = y2)) := hide (by
          unfold Lib.keeps
          rw [Nat.add_sub_cancel, hx, hy]
          simp)
        clear hx hy
        go_upto_region 6 with fail
        go_cut [25] from 16 to 25 (fun b wx => b = .bool (!Lib.keeps d (m + 1)) ∧ Hid (Mrw wx g 62 (cap * 3) f (cap * 3) ∧ Below w.heap.size w wx))
        case first =>
          by_cases g0 : x0 = y0
          · by_cases g1 : x1 = y1
            · by_cases g2 : x2 = y2
              · subst g0 g1 g2
                refine wp_region_phase 9 #[true, true, true, true, true, true, true, true, true, false] (by kernel_rfl) (by kernel_rfl) ?_
                simp only [List.take_succ_cons, List.take_zero, List.drop_succ_cons, List.drop_zero]
                repeat (go_big_quiet_step (fail))
                refine wpQuiet_nil ?_
                intro wz hz
                obtain ⟨nq, rfl⟩ := hz
                go_wp2_with fail
                go_meet
                exact ⟨by rw [HE.out]; simp [], hide ⟨HK.out.1, below_drewN2 HK.out.2.1 nq⟩⟩
              · subst g0 g1
                refine wp_region_phase 9 #[true, true, true, true, true, true, true, true, true, false] (by kernel_rfl) (by kernel_rfl) ?_
                simp only [List.take_succ_cons, List.take_zero, List.drop_succ_cons, List.drop_zero]
                repeat (go_big_quiet_step (fail))
                refine wpQuiet_nil ?_
                intro wz hz
                obtain ⟨nq, rfl⟩ := hz
                go_wp2_with fail
                go_meet
                exact ⟨by rw [HE.out]; simp [g2], hide ⟨HK.out.1, below_drewN2 HK.out.2.1 nq⟩⟩
            · subst g0
              refine wp_region_phase 9 #[true, true, true, true, true, true, true, true, true, false] (by kernel_rfl) (by kernel_rfl) ?_
              simp only [List.take_succ_cons, List.take_zero, List.drop_succ_cons, List.drop_zero]
              repeat (go_big_quiet_step (fail))
              refine wpQuiet_nil ?_
              intro wz hz
              obtain ⟨nq, rfl⟩ := hz
              go_wp2_with fail
              go_meet
              exact ⟨by rw [HE.out]; simp [g1], hide ⟨HK.out.1, below_drewN2 HK.out.2.1 nq⟩⟩
          · skip
            refine wp_region_phase 9 #[true, true, true, true, true, true, true, true, true, false] (by kernel_rfl) (by kernel_rfl) ?_
            simp only [List.take_succ_cons, List.take_zero, List.drop_succ_cons, List.drop_zero]
            repeat (go_big_quiet_step (fail))
            refine wpQuiet_nil ?_
            intro wz hz
            obtain ⟨nq, rfl⟩ := hz
            go_wp2_with fail
            go_meet
            exact ⟨by rw [HE.out]; simp [g0], hide ⟨HK.out.1, below_drewN2 HK.out.2.1 nq⟩⟩
        case rest =>
          obtain ⟨rfl, HB⟩ := hcut
          rename World => wx
          clear p0 p1 p2 q0 q1 q2 HE
          by_cases hk : Lib.keeps d (m + 1) = true
          · rw [hk]
            have HKK := hide hk
            clear hk
            go_wp2_with fail
            exact ⟨⟨m + 1, by omega, by go_num, hide ⟨HB.out.1, HB.out.2, fun j hj => if e : j = m + 1 then by rw [e]; exact HKK.out else HK.out.2.2 j (by omega)⟩⟩, by simp [intOf]; omega⟩
          · have hk' : Lib.keeps d (m + 1) = false := by simpa using hk
            rw [hk']
            have HI := hide (Lib.CompInv.start HK.out.2.2 hk')
            clear hk hk' HK
            have c1 : m + 1 ≤ cap := by omega
            have c2 : m + 1 ≤ n := by omega
            go_upto_region 8 with fail
            go_wp2_with fail
            have hs := HI.out
            go_loopw [3, 5] (fun s3 s5 wr => ∃ (kk m2 : Nat) (dk : Array EdT) (f' : Nat → Value), s3 = .int .i64 (kk : Nat) ∧ s5 = .int .i64 ((m2 + 1 : Nat) : Int) ∧ m + 1 + (m2 + 1) ≤ n ∧ Hid (Mrw wr g 62 (cap * 3) f' (cap * 3) ∧ EdF f' dk ∧ Lib.CompInv d (m + 1 + (m2 + 1)) kk dk ∧ Only w wr (fun k => k = g))) (fun _ s5 _ => n - (intOf s5).toNat)
            case atStart => exact ⟨m + 1, 0, d, f, rfl, rfl, by omega, hide ⟨HB.out.1, hF.out, HI.out, Only.ofBelow HB.out.2⟩⟩
            case round =>
              obtain ⟨kk, m2, dk, f', rfl, rfl, hle, HJ⟩ := hrel
              obtain ⟨wj, rfl⟩ : ∃ z, z = wr := ⟨_, rfl⟩
              have hkk := HJ.out.2.2.1.lt
              by_cases hlt2 : m + 1 + (m2 + 1) < n
              · have l0 : (m2 : Int) + 1 < ((n - (m + 1) : Nat) : Int) := by omega
                have l1 : (m2 : Int) < ((n - (m + 1) : Nat) : Int) := by omega
                have l2 : (0 : Int) ≤ (m2 : Int) := by omega
                have l3 : (0 : Int) ≤ (m2 : Int) + 1 := by omega
                have hds := HJ.out.2.2.1.size
                obtain ⟨⟨x0, x1, x2⟩, hx⟩ : ∃ x, d[m + 1 + (m2 + 1)]! = x := ⟨_, rfl⟩
                obtain ⟨⟨y0, y1, y2⟩, hy⟩ : ∃ y, d[m + 1 + m2]! = y := ⟨_, rfl⟩
                have HC : Hid (∀ W, Mrw W g 62 (cap * 3) f' (cap * 3) → (W.cell? ⟨g, (m + 1) * 3 + (m2 + 1) * 3, none⟩ = some (.int .i64 x0) ∧ W.cell? ⟨g, (m + 1) * 3 + (m2 + 1) * 3 + 1, none⟩ = some (.int .i64 x1) ∧ W.cell? ⟨g, (m + 1) * 3 + (m2 + 1) * 3 + 2, none⟩ = some (.int .i64 x2)) ∧ (W.cell? ⟨g, (m + 1) * 3 + m2 * 3, none⟩ = some (.int .i64 y0) ∧ W.cell? ⟨g, (m + 1) * 3 + m2 * 3 + 1, none⟩ = some (.int .i64 y1) ∧ W.cell? ⟨g, (m + 1) * 3 + m2 * 3 + 2, none⟩ = some (.int .i64 y2))) := hide (fun W hW => by
                  have e1 := edF_cells hW HJ.out.2.1 (by rw [hds, hn.out]; omega) (show m + 1 + (m2 + 1) < dk.size by rw [hds, hn.out]; omega) ((HJ.out.2.2.1.high _ (by omega)).trans hx)
                  have e2 := edF_cells hW HJ.out.2.1 (by rw [hds, hn.out]; omega) (show m + 1 + m2 < dk.size by rw [hds, hn.out]; omega) ((HJ.out.2.2.1.high _ (by omega)).trans hy)
                  rw [show (m + 1 + (m2 + 1)) * 3 = (m + 1) * 3 + (m2 + 1) * 3 by omega] at e1
                  rw [show (m + 1 + m2) * 3 = (m + 1) * 3 + m2 * 3 by omega] at e2
                  exact ⟨e1, e2⟩)
                have HE : Hid (Lib.keeps d (m + 1 + (m2 + 1)) = !decide (x0 = y0 ∧ x1 = y1 ∧ x2 = y2)) := hide (by
                  unfold Lib.keeps
                  rw [show m + 1 + (m2 + 1) - 1 = m + 1 + m2 by omega, hx, hy]
                  simp)
                have HX := hide hx
                clear hx hy hs
                go_upto_region 11 with fail
                go_cut [44] from 35 to 44 (fun b wx => b = .bool (Lib.keeps d (m + 1 + (m2 + 1))) ∧ Hid (Mrw wx g 62 (cap * 3) f' (cap * 3) ∧ Only w wx (fun k => k = g)))
                case first =>
                  obtain ⟨⟨p0, p1, p2⟩, q0, q1, q2⟩ := HC.out wj HJ.out.1
                  by_cases g0 : x0 = y0
                  · by_cases g1 : x1 = y1
                    · by_cases g2 : x2 = y2
                      · subst g0 g1 g2
                        refine wp_region_phase 9 #[true, true, true, true, true, true, true, true, true, false] (by kernel_rfl) (by kernel_rfl) ?_
                        simp only [List.take_succ_cons, List.take_zero, List.drop_succ_cons, List.drop_zero]
                        repeat (go_big_quiet_step (fail))
                        refine wpQuiet_nil ?_
                        intro wz hz
                        obtain ⟨nq, rfl⟩ := hz
                        go_wp2_with fail
                        go_meet
                        exact ⟨by rw [HE.out]; simp [], hide ⟨HJ.out.1, HJ.out.2.2.2.trans (Only.ofBelow (below_drewN2 (Below.refl _ _) nq))⟩⟩
                      · subst g0 g1
                        refine wp_region_phase 9 #[true, true, true, true, true, true, true, true, true, false] (by kernel_rfl) (by kernel_rfl) ?_
                        simp only [List.take_succ_cons, List.take_zero, List.drop_succ_cons, List.drop_zero]
                        repeat (go_big_quiet_step (fail))
                        refine wpQuiet_nil ?_
                        intro wz hz
                        obtain ⟨nq, rfl⟩ := hz
                        go_wp2_with fail
                        go_meet
                        exact ⟨by rw [HE.out]; simp [g2], hide ⟨HJ.out.1, HJ.out.2.2.2.trans (Only.ofBelow (below_drewN2 (Below.refl _ _) nq))⟩⟩
                    · subst g0
                      refine wp_region_phase 9 #[true, true, true, true, true, true, true, true, true, false] (by kernel_rfl) (by kernel_rfl) ?_
                      simp only [List.take_succ_cons, List.take_zero, List.drop_succ_cons, List.drop_zero]
                      repeat (go_big_quiet_step (fail))
                      refine wpQuiet_nil ?_
                      intro wz hz
                      obtain ⟨nq, rfl⟩ := hz
                      go_wp2_with fail
                      go_meet
                      exact ⟨by rw [HE.out]; simp [g1], hide ⟨HJ.out.1, HJ.out.2.2.2.trans (Only.ofBelow (below_drewN2 (Below.refl _ _) nq))⟩⟩
                  · skip
                    refine wp_region_phase 9 #[true, true, true, true, true, true, true, true, true, false] (by kernel_rfl) (by kernel_rfl) ?_
                    simp only [List.take_succ_cons, List.take_zero, List.drop_succ_cons, List.drop_zero]
                    repeat (go_big_quiet_step (fail))
                    refine wpQuiet_nil ?_
                    intro wz hz
                    obtain ⟨nq, rfl⟩ := hz
                    go_wp2_with fail
                    go_meet
                    exact ⟨by rw [HE.out]; simp [g0], hide ⟨HJ.out.1, HJ.out.2.2.2.trans (Only.ofBelow (below_drewN2 (Below.refl _ _) nq))⟩⟩
                case rest =>
                  obtain ⟨rfl, HB2⟩ := hcut
                  rename World => wy
                  clear HE
                  by_cases hk : Lib.keeps d (m + 1 + (m2 + 1)) = true
                  · rw [hk]
                    have HKK := hide hk
                    clear hk
                    obtain ⟨⟨p0, p1, p2⟩, _⟩ := HC.out wy HB2.out.1
                    obtain ⟨u0, hu0⟩ := HB2.out.1.cell (kk * 3) (by omega)
                    obtain ⟨u1, hu1⟩ := HB2.out.1.cell (kk * 3 + 1) (by omega)
                    obtain ⟨u2, hu2⟩ := HB2.out.1.cell (kk * 3 + 2) (by omega)
                    have f0 := HB2.out.1.fz (kk * 3)
                    have f1 := HB2.out.1.fz (kk * 3 + 1)
                    have f2 := HB2.out.1.fz (kk * 3 + 2)
                    have k1 : (kk : Int) < (n : Int) := by omega
                    have k2 : (0 : Int) ≤ (kk : Int) := by omega
                    go_wp2_with fail
                    exact ⟨⟨kk + 1, m2 + 1, dk.setIfInBounds kk (x0, x1, x2), _, by go_num, by go_num, by omega, hide ⟨((HB2.out.1.upd (kk * 3) _).upd (kk * 3 + 1) _).upd (kk * 3 + 2) _, HJ.out.2.1.set kk (x0, x1, x2), by have := HJ.out.2.2.1.keep (by rw [hn.out]; omega) HKK.out; rwa [HX.out] at this, HB2.out.2.trans (only3 wy g _ _ _ _ _ _)⟩⟩, by simp [intOf]; omega⟩
                  · have hk' : Lib.keeps d (m + 1 + (m2 + 1)) = false := by simpa using hk
                    rw [hk']
                    have HKK := hide hk'
                    clear hk hk'
                    go_wp2_with fail
                    exact ⟨⟨kk, m2 + 1, dk, f', by go_num, by go_num, by omega, hide ⟨HB2.out.1, HJ.out.2.1, HJ.out.2.2.1.skip HKK.out, HB2.out.2⟩⟩, by simp [intOf]; omega⟩
              · have l0 : ¬ (m2 : Int) + 1 < ((n - (m + 1) : Nat) : Int) := by omega
                have hend : m + 1 + (m2 + 1) = n := by omega
                rw [hend] at HJ
                obtain ⟨f2, hM2, hF2, hO2⟩ := set_cells (List.replicate ((n - kk) * 3) (.int .i64 0)) (kk * 3) HJ.out.1
                have hcl := fun ty => clear_run wj ty g (kk * 3) (n - kk) (cap - kk) (by omega) (fun j hj => by obtain ⟨u, hu⟩ := HJ.out.1.cell (kk * 3 + j) (by omega); rw [hu]; rfl) (fun j _ => HJ.out.1.fz _)
                have HZ := hide (And.intro hM2 (And.intro hF2 hO2))
                have k1 : kk ≤ n := by omega
                have k2 : kk ≤ cap := by omega
                have k3 : (kk : Int) ≤ (n : Int) := by omega
                have k4 : (kk : Int) ≤ (cap : Int) := by omega
                clear hM2 hF2 hO2 hs
                go_wp2
                go_ret
                obtain ⟨hM2, hF2, hO2⟩ := HZ.out
                have I := HJ.out.2.2.1
                refine ⟨by rw [I.len]; rfl, rd_low (n := n) (dk := dk) hM2 (by omega) (by rw [I.len]; omega) (fun j hj => I.low j (by rw [I.len] at hj; exact hj)) (fun j hj => ?_), HJ.out.2.2.2.trans hO2, _, hM2⟩
                rw [I.len] at hj
                rw [hF2 _ (by omega), hF2 _ (by omega), hF2 _ (by omega)]
                exact HJ.out.2.1 j (by rw [I.size, hn.out]; omega)
      · have j0 : ¬ (m : Int) + 1 < (n : Int) := by omega
        obtain rfl : n = m + 1 := by omega
        go_wp2
        go_ret
        obtain ⟨e1, e2⟩ := rd_all hn.out HK.out.1 (by omega) hF.out HK.out.2.2
        exact ⟨by rw [e1]; rfl, e2, Only.ofBelow HK.out.2.1, _, HK.out.1⟩
theorem rdE_cells {W : World} {B b cap : Nat} {X : List EdT} (h : W.ownsRow B 62 3 (.slice (some ⟨b, 0, none⟩) X.length cap) X.length (X.flatMap encE)) (j : Nat) (hj : j < X.length) : W.cell? ⟨b, j * 3, none⟩ = some (.int .i64 X[j].1) ∧ W.cell? ⟨b, j * 3 + 1, none⟩ = some (.int .i64 X[j].2.1) ∧ W.cell? ⟨b, j * 3 + 2, none⟩ = some (.int .i64 X[j].2.2) := by
  have hn : ∀ r, r < 3 → W.cell? ⟨b, j * 3 + r, none⟩ = (encE X[j])[r]? := fun r hr => by
    have c := h.cellAt (j * 3 + r) (show j * 3 + r < X.length * 3 by omega)
    rw [c, flat_get encE 3 encE_len X j r hj hr]
  exact ⟨hn 0 (by omega), hn 1 (by omega), hn 2 (by omega)⟩
theorem rdE_only {W W' : World} {R : Nat → Prop} {ao : Option Addr} {L : List EdT} (h : RdE W ao L) (ho : Only W W' R) (hn : ∀ g o, ao = some ⟨g, o, none⟩ → ¬ R g) : RdE W' ao L := fun j hj => by
  obtain ⟨g, o, e, c0, c1, c2⟩ := h j hj
  have hb := World.block_lt_of_cell? W _ c0
  have k := ho.block g hb (hn g o e)
  exact ⟨g, o, e, (World.cell?_of_block (a := ⟨g, o + j * 3, none⟩) k).trans c0, (World.cell?_of_block (a := ⟨g, o + j * 3 + 1, none⟩) k).trans c1, (World.cell?_of_block (a := ⟨g, o + j * 3 + 2, none⟩) k).trans c2⟩
theorem row_block {W : World} {B n : Nat} {v : Value} {L : List EdT} (h : W.ownsRow B 62 3 v n (L.flatMap encE)) (hn : n = L.length) : (v = .slice none 0 0 ∧ L = []) ∨ ∃ g cap f, v = .slice (some ⟨g, 0, none⟩) n cap ∧ n ≤ cap ∧ B ≤ g ∧ Mrw W g 62 (cap * 3) f (cap * 3) ∧ EdF f L.toArray := by
  rcases h.2 with ⟨rfl, h0⟩ | ⟨g, cap, cur, rfl, hB, hb, hnc, hcm, hcs, htake⟩
  · exact .inl ⟨rfl, List.eq_nil_of_length_eq_zero (by omega)⟩
  · refine .inr ⟨g, cap, fun c => cur[c]?.getD default, rfl, hnc, hB, ⟨cur, hb, hcs, fun j hj => ?_⟩, fun j hj => ?_⟩
    · show cur[j]? = some (cur[j]?.getD default)
      rw [Array.getElem?_eq_getElem (by omega)]; rfl
    · have hj' : j < L.length := by simpa using hj
      subst hn
      have c := rdE_cells h j hj'
      have e : L.toArray[j]! = L[j] := by rw [getElem!_pos _ j (by simpa using hj')]; simp
      rw [e]
      have k : ∀ r, r < 3 → W.cell? ⟨g, j * 3 + r, none⟩ = some (cur[j * 3 + r]?.getD default) := fun r hr => by
        have : j * 3 + r < cur.size := by omega
        rw [cell_of hb (Array.getElem?_eq_getElem this), Array.getElem?_eq_getElem this]; rfl
      obtain ⟨c0, c1, c2⟩ := c
      have k0 := k 0 (by omega)
      have k1 := k 1 (by omega)
      have k2 := k 2 (by omega)
      rw [Nat.add_zero] at k0
      exact ⟨Option.some.inj (k0.symm.trans c0), Option.some.inj (k1.symm.trans c1), Option.some.inj (k2.symm.trans c2)⟩
end Go.Proofs.YtgnpdhgphkocoaaGreatDoor
namespace Go.Proofs
open Go.Shelf Go.RowKit Go.Lib Go.Sort
def Tryz.laysNm220_ren : Go.Shelf.Ren := ⟨fun | 20 => 129 | n => n, fun | 22 => 22 | 3 => 3 | 4 => 4 | 0 => 0 | n => n, fun | n => n⟩
theorem Tryz.laysNm220 : Go.Proofs.Lays2.n20 Tryz.prog Tryz.laysNm220_ren := {
  mixed := by kernel_rfl
  f20 := Tryz.func129.trans (congrArg some (by kernel_rfl))
  t0 := Tryz.underlying0
  a0 := Tryz.isAgg0
  z0 := Tryz.sizeOf0
  v0 := Tryz.zeroValue0
  t3 := Tryz.underlying3
  a3 := Tryz.isAgg3
  z3 := Tryz.sizeOf3
  v3 := Tryz.zeroValue3
  t4 := Tryz.underlying4
  a4 := Tryz.isAgg4
  z4 := Tryz.sizeOf4
  v4 := Tryz.zeroValue4
  t22 := Tryz.underlying22
  a22 := Tryz.isAgg22
  z22 := Tryz.sizeOf22
  v22 := Tryz.zeroValue22
  i3 := by kernel_rfl }
theorem Tryz.slices_Compact_int (blk off cap : Nat) (zs : List Int) (w : World) (hH : Holds (Value.int .i64) w blk off zs.toArray) (hsz : zs.length ≤ 9223372036854775807) (hcap : zs.length ≤ cap) :
    Calls Tryz.prog 129 #[.slice (some ⟨blk, off, none⟩) zs.length cap] w fun e w' => e = .returned (.slice (some ⟨blk, off, none⟩) (Lib.compact zs).length cap) ∧ ∃ q, w' = putRow (Value.int .i64) (Sort.ahead w q) blk off (Lib.compact zs ++ List.replicate (zs.length - (Lib.compact zs).length) 0).toArray := Any.slices_Compact_int Tryz.laysNm220 blk off cap zs w hH hsz hcap
def Tryz.laysSlF6_f125_ren : Go.Shelf.Ren := ⟨fun | 6 => 128 | 15 => 134 | 14 => 133 | 28 => 144 | 29 => 145 | 20 => 136 | 21 => 137 | 22 => 138 | 23 => 139 | 24 => 140 | 25 => 141 | 26 => 142 | 27 => 143 | 46 => 154 | 47 => 155 | 48 => 156 | 49 => 157 | 50 => 158 | 57 => 162 | n => n, fun | 22 => 22 | 24 => 3 | 25 => 148 | 3 => 3 | 39 => 125 | 0 => 0 | 53 => 167 | 55 => 126 | 4 => 4 | 46 => 161 | 45 => 160 | 50 => 117 | 5 => 5 | 9 => 9 | 66 => 173 | 70 => 177 | 76 => 181 | 77 => 182 | n => n, fun | n => n⟩
theorem Tryz.laysSlF6_f125 : Go.Proofs.SlLaysF.n6 Tryz.prog Tryz.laysSlF6_f125_ren := {
  mixed := by kernel_rfl
  f6 := ⟨Tryz.f128.name, by decide, Tryz.func128.trans (congrArg some (by kernel_rfl))⟩
  f14 := ⟨Tryz.f133.name, by decide, Tryz.func133.trans (congrArg some (by kernel_rfl))⟩
  f15 := Tryz.func134.trans (congrArg some (by kernel_rfl))
  f20 := ⟨Tryz.f136.name, by decide, Tryz.func136.trans (congrArg some (by kernel_rfl))⟩
  f21 := ⟨Tryz.f137.name, by decide, Tryz.func137.trans (congrArg some (by kernel_rfl))⟩
  f22 := ⟨Tryz.f138.name, by decide, Tryz.func138.trans (congrArg some (by kernel_rfl))⟩
  f23 := ⟨Tryz.f139.name, by decide, Tryz.func139.trans (congrArg some (by kernel_rfl))⟩
  f24 := ⟨Tryz.f140.name, by decide, Tryz.func140.trans (congrArg some (by kernel_rfl))⟩
  f25 := ⟨Tryz.f141.name, by decide, Tryz.func141.trans (congrArg some (by kernel_rfl))⟩
  f26 := ⟨Tryz.f142.name, by decide, Tryz.func142.trans (congrArg some (by kernel_rfl))⟩
  f27 := ⟨Tryz.f143.name, by decide, Tryz.func143.trans (congrArg some (by kernel_rfl))⟩
  f28 := Tryz.func144.trans (congrArg some (by kernel_rfl))
  f29 := Tryz.func145.trans (congrArg some (by kernel_rfl))
  f46 := ⟨Tryz.f154.name, by decide, Tryz.func154.trans (congrArg some (by kernel_rfl))⟩
  f47 := Tryz.func155.trans (congrArg some (by kernel_rfl))
  f48 := Tryz.func156.trans (congrArg some (by kernel_rfl))
  f49 := ⟨Tryz.f157.name, by decide, Tryz.func157.trans (congrArg some (by kernel_rfl))⟩
  f50 := ⟨Tryz.f158.name, by decide, Tryz.func158.trans (congrArg some (by kernel_rfl))⟩
  f57 := ⟨Tryz.f162.name, by decide, Tryz.func162.trans (congrArg some (by kernel_rfl))⟩
  t0 := Tryz.underlying0
  a0 := Tryz.isAgg0
  z0 := Tryz.sizeOf0
  v0 := Tryz.zeroValue0
  t3 := Tryz.underlying3
  a3 := Tryz.isAgg3
  z3 := Tryz.sizeOf3
  v3 := Tryz.zeroValue3
  t4 := Tryz.underlying4
  a4 := Tryz.isAgg4
  z4 := Tryz.sizeOf4
  v4 := Tryz.zeroValue4
  t5 := Tryz.underlying5
  a5 := Tryz.isAgg5
  z5 := Tryz.sizeOf5
  v5 := Tryz.zeroValue5
  t9 := Tryz.underlying9
  a9 := Tryz.isAgg9
  z9 := Tryz.sizeOf9
  v9 := Tryz.zeroValue9
  t22 := Tryz.underlying22
  a22 := Tryz.isAgg22
  z22 := Tryz.sizeOf22
  v22 := Tryz.zeroValue22
  a24 := Tryz.isAgg3
  z24 := Tryz.sizeOf3
  t25 := Tryz.underlying148
  a25 := Tryz.isAgg148
  z25 := Tryz.sizeOf148
  v25 := Tryz.zeroValue148
  t39 := Tryz.underlying125
  a39 := Tryz.isAgg125
  z39 := Tryz.sizeOf125
  v39 := Tryz.zeroValue125
  t45 := Tryz.underlying160
  a45 := Tryz.isAgg160
  z45 := Tryz.sizeOf160
  v45 := Tryz.zeroValue160
  t46 := Tryz.underlying161
  a46 := Tryz.isAgg161
  z46 := Tryz.sizeOf161
  v46 := Tryz.zeroValue161
  t50 := Tryz.underlying117
  a50 := Tryz.isAgg117
  z50 := Tryz.sizeOf117
  v50 := Tryz.zeroValue117
  t53 := Tryz.underlying167
  a53 := Tryz.isAgg167
  z53 := Tryz.sizeOf167
  v53 := Tryz.zeroValue167
  t55 := Tryz.underlying126
  a55 := Tryz.isAgg126
  z55 := Tryz.sizeOf126
  v55 := Tryz.zeroValue126
  t66 := Tryz.underlying173
  a66 := Tryz.isAgg173
  z66 := Tryz.sizeOf173
  v66 := Tryz.zeroValue173
  t70 := Tryz.underlying177
  a70 := Tryz.isAgg177
  z70 := Tryz.sizeOf177
  v70 := Tryz.zeroValue177
  t76 := Tryz.underlying181
  a76 := Tryz.isAgg181
  z76 := Tryz.sizeOf181
  v76 := Tryz.zeroValue181
  t77 := Tryz.underlying182
  a77 := Tryz.isAgg182
  z77 := Tryz.sizeOf182
  v77 := Tryz.zeroValue182 }
def Tryz.laysSlF06_f125_ren : Go.Shelf.Ren := ⟨fun | 6 => 128 | 15 => 134 | 14 => 133 | 28 => 144 | 29 => 145 | 20 => 136 | 21 => 137 | 22 => 138 | 23 => 139 | 24 => 140 | 25 => 141 | 26 => 142 | 27 => 143 | 46 => 154 | 47 => 155 | 48 => 156 | 49 => 157 | 50 => 158 | 57 => 162 | n => n, fun | 22 => 22 | 24 => 3 | 25 => 148 | 3 => 3 | 39 => 125 | 0 => 0 | 53 => 167 | 55 => 126 | 4 => 4 | 46 => 161 | 45 => 160 | 50 => 117 | 5 => 5 | 9 => 9 | 66 => 173 | 70 => 177 | 76 => 181 | 77 => 182 | n => n, fun | n => n⟩
theorem Tryz.laysSlF06_f125 : Go.Proofs.SlLaysF0.n6 Tryz.prog Tryz.laysSlF06_f125_ren := {
  mixed := by kernel_rfl
  f6 := ⟨Tryz.f128.name, by decide, Tryz.func128.trans (congrArg some (by kernel_rfl))⟩
  f14 := ⟨Tryz.f133.name, by decide, Tryz.func133.trans (congrArg some (by kernel_rfl))⟩
  f15 := Tryz.func134.trans (congrArg some (by kernel_rfl))
  f20 := ⟨Tryz.f136.name, by decide, Tryz.func136.trans (congrArg some (by kernel_rfl))⟩
  f21 := ⟨Tryz.f137.name, by decide, Tryz.func137.trans (congrArg some (by kernel_rfl))⟩
  f22 := ⟨Tryz.f138.name, by decide, Tryz.func138.trans (congrArg some (by kernel_rfl))⟩
  f23 := ⟨Tryz.f139.name, by decide, Tryz.func139.trans (congrArg some (by kernel_rfl))⟩
  f24 := ⟨Tryz.f140.name, by decide, Tryz.func140.trans (congrArg some (by kernel_rfl))⟩
  f25 := ⟨Tryz.f141.name, by decide, Tryz.func141.trans (congrArg some (by kernel_rfl))⟩
  f26 := ⟨Tryz.f142.name, by decide, Tryz.func142.trans (congrArg some (by kernel_rfl))⟩
  f27 := ⟨Tryz.f143.name, by decide, Tryz.func143.trans (congrArg some (by kernel_rfl))⟩
  f28 := Tryz.func144.trans (congrArg some (by kernel_rfl))
  f29 := Tryz.func145.trans (congrArg some (by kernel_rfl))
  f46 := ⟨Tryz.f154.name, by decide, Tryz.func154.trans (congrArg some (by kernel_rfl))⟩
  f47 := Tryz.func155.trans (congrArg some (by kernel_rfl))
  f48 := Tryz.func156.trans (congrArg some (by kernel_rfl))
  f49 := ⟨Tryz.f157.name, by decide, Tryz.func157.trans (congrArg some (by kernel_rfl))⟩
  f50 := ⟨Tryz.f158.name, by decide, Tryz.func158.trans (congrArg some (by kernel_rfl))⟩
  f57 := ⟨Tryz.f162.name, by decide, Tryz.func162.trans (congrArg some (by kernel_rfl))⟩
  t0 := Tryz.underlying0
  a0 := Tryz.isAgg0
  z0 := Tryz.sizeOf0
  v0 := Tryz.zeroValue0
  t3 := Tryz.underlying3
  a3 := Tryz.isAgg3
  z3 := Tryz.sizeOf3
  v3 := Tryz.zeroValue3
  t4 := Tryz.underlying4
  a4 := Tryz.isAgg4
  z4 := Tryz.sizeOf4
  v4 := Tryz.zeroValue4
  t5 := Tryz.underlying5
  a5 := Tryz.isAgg5
  z5 := Tryz.sizeOf5
  v5 := Tryz.zeroValue5
  t9 := Tryz.underlying9
  a9 := Tryz.isAgg9
  z9 := Tryz.sizeOf9
  v9 := Tryz.zeroValue9
  t22 := Tryz.underlying22
  a22 := Tryz.isAgg22
  z22 := Tryz.sizeOf22
  v22 := Tryz.zeroValue22
  t25 := Tryz.underlying148
  a25 := Tryz.isAgg148
  z25 := Tryz.sizeOf148
  v25 := Tryz.zeroValue148
  t39 := Tryz.underlying125
  a39 := Tryz.isAgg125
  z39 := Tryz.sizeOf125
  v39 := Tryz.zeroValue125
  t45 := Tryz.underlying160
  a45 := Tryz.isAgg160
  z45 := Tryz.sizeOf160
  v45 := Tryz.zeroValue160
  t46 := Tryz.underlying161
  a46 := Tryz.isAgg161
  z46 := Tryz.sizeOf161
  v46 := Tryz.zeroValue161
  t50 := Tryz.underlying117
  a50 := Tryz.isAgg117
  z50 := Tryz.sizeOf117
  v50 := Tryz.zeroValue117
  t53 := Tryz.underlying167
  a53 := Tryz.isAgg167
  z53 := Tryz.sizeOf167
  v53 := Tryz.zeroValue167
  t55 := Tryz.underlying126
  a55 := Tryz.isAgg126
  z55 := Tryz.sizeOf126
  v55 := Tryz.zeroValue126
  t66 := Tryz.underlying173
  a66 := Tryz.isAgg173
  z66 := Tryz.sizeOf173
  v66 := Tryz.zeroValue173
  t70 := Tryz.underlying177
  a70 := Tryz.isAgg177
  z70 := Tryz.sizeOf177
  v70 := Tryz.zeroValue177
  t76 := Tryz.underlying181
  a76 := Tryz.isAgg181
  z76 := Tryz.sizeOf181
  v76 := Tryz.zeroValue181
  t77 := Tryz.underlying182
  a77 := Tryz.isAgg182
  z77 := Tryz.sizeOf182
  v77 := Tryz.zeroValue182 }
theorem Tryz.slices_SortFunc_none {α : Type} [Inhabited α] (p : Option Addr) (cap : Nat) (fv : Value) (w : World) :
    Calls Tryz.prog 128 #[.slice p 0 cap, fv] w fun e w' => e = .returned (.tuple #[]) ∧ w' = w := AnyF.slices_SortFunc_none Tryz.laysSlF06_f125 p cap fv w
theorem Tryz.slices_SortFunc_total {α : Type} [Inhabited α] (enc : α → Value) (h1 : OneCell enc) (cf : α → α → Int) (hO : SWO (ltOf cf)) (g : Nat) (cb : Array Value) (blk off cap : Nat) (d : Array α) (w : World) (eg : ∀ args w, (callFunc g args).run Tryz.prog w = .ok (.enter g args) w) (hcmp : CmpLays1 Tryz.prog g cb enc cf blk off d.size w) (hH : Holds enc w blk off d) (hblk : blk < w.heap.size) (hsz : d.size < 4611686018427387904) (hT : ∀ x y, (ltOf cf) x y = false → (ltOf cf) y x = false → x = y) :
    Calls Tryz.prog 128 #[.slice (some ⟨blk, off, none⟩) d.size cap, .func (.func g) #[] cb] w fun e w' =>
      e = .returned (.tuple #[]) ∧ ∃ n os, w' = sortWorld enc w blk off n (d.toList.mergeSort fun x y => !(ltOf cf) y x).toArray os := Any.slices_SortFunc_total Tryz.laysSlF6_f125 enc h1 cf hO g cb blk off cap d w eg hcmp hH hblk hsz hT
end Go.Proofs
namespace Go.Proofs.YtgnpdhgphkocoaaGreatDoor
open Go.RowKit Go.Maps Go.Shelf Go.Sort
attribute [local go_sem] Oper.semAt_some
/-! ### Numbers in order, each once -/
theorem row_cut {w : World} {B g cap n : Nat} {e : TypeId} {sz : Nat} {xs : List Value} (h : w.ownsRow B e sz (.slice (some ⟨g, 0, none⟩) n cap) n xs) (m : Nat) (hm : m ≤ n) : w.ownsRow B e sz (.slice (some ⟨g, 0, none⟩) m cap) m (xs.take (m * sz)) := by
  have hle : m * sz ≤ n * sz := Nat.mul_le_mul_right _ hm
  refine ⟨by rw [List.length_take, h.1]; omega, ?_⟩
  rcases h.2 with ⟨hv, _⟩ | ⟨g', cap', cur, hv, hb, hg, h1, h2, h3, h4⟩
  · cases hv
  · cases hv
    exact .inr ⟨g, cap, cur, rfl, hb, hg, by omega, h2, h3, by rw [← h4, List.take_take, Nat.min_eq_left hle]⟩
/-- A list of numbers in order. -/
def sortI (L : List Int) : List Int := L.mergeSort fun x y => decide (x ≤ y)
/-- A list's numbers, rising, each once. -/
def riseL (L : List Int) : List Int := Lib.compact (sortI L)
theorem sortI_len (L : List Int) : (sortI L).length = L.length := List.length_mergeSort _
theorem compact_len {α : Type} [DecidableEq α] [Inhabited α] (zs : List α) : (Lib.compact zs).length ≤ zs.length := by
  unfold Lib.compact Lib.compactUpTo
  rw [List.length_map]
  exact Nat.le_trans (List.length_filter_le _ _) (by simp)
theorem ltI_is : (fun x y : Int => !(ltOf Lib.compareInt) y x) = fun x y => decide (x ≤ y) := by
  funext x y
  unfold ltOf
  rcases cmp_pos y x with ⟨h, e⟩ | ⟨h, e⟩ | ⟨h, e⟩ <;> rw [e] <;> simp <;> omega
theorem ltI_iff (x y : Int) : ltOf Lib.compareInt x y = true ↔ x < y := by
  unfold ltOf
  rcases cmp_pos x y with ⟨h, e⟩ | ⟨h, e⟩ | ⟨h, e⟩ <;> rw [e] <;> simp <;> omega
theorem ltI_not (x y : Int) : ltOf Lib.compareInt x y = false ↔ ¬ x < y := by rw [← ltI_iff, Bool.not_eq_true]
theorem swoI : SWO (ltOf Lib.compareInt) where
  irrefl x := by rw [ltI_not]; omega
  trans x y z h1 h2 := by rw [ltI_iff] at *; omega
  ntrans x y z h1 h2 := by rw [ltI_not] at *; omega
theorem row_partsI {w : World} {B g cap n : Nat} {L : List Int} (hn : n = L.length) (hv : w.ownsRow B 3 1 (.slice (some ⟨g, 0, none⟩) n cap) n (L.map (Value.int .i64))) : ∃ cur, B ≤ g ∧ w.heap[g]? = some (.cells cur 3 (0, 0)) ∧ L.length ≤ cap ∧ cap ≤ maxLen ∧ cur.size = cap * 1 ∧ cur.toList.take L.length = L.map (Value.int .i64) := by
  subst hn
  rcases hv.2 with ⟨hv, _⟩ | ⟨g', cap', cur, hv, hb, hg, h1, h2, h3, h4⟩
  · cases hv
  · cases hv
    exact ⟨cur, hb, hg, h1, h2, h3, by rw [← h4, Nat.mul_one]⟩
theorem sortI_any (W : World) (B g cap n : Nat) (L : List Int) (hn : n = L.length) (hv : W.ownsRow B 3 1 (.slice (some ⟨g, 0, none⟩) n cap) n (L.map (Value.int .i64))) (hl : n ≤ 4194304) :
    Calls Tryz.prog 128 #[.slice (some ⟨g, 0, none⟩) n cap, .func (.func 123) #[] #[]] W fun e w' => e = .returned (.tuple #[]) ∧ w'.ownsRow B 3 1 (.slice (some ⟨g, 0, none⟩) n cap) n ((sortI L).map (Value.int .i64)) ∧ W.grownBy w' (some g) := by
  obtain ⟨cur, hB, hb, h1, h2, h3, h4⟩ := row_partsI hn hv
  subst hn
  have hg : g < W.heap.size := (Array.getElem?_eq_some_iff.1 hb).1
  have eg : ∀ args w, (callFunc 123 args).run Tryz.prog w = .ok (.enter 123 args) w := enters_of Tryz.func123 (by kernel_rfl) rfl
  have H := Tryz.slices_SortFunc_total (Value.int .i64) (fun _ => rfl) Lib.compareInt swoI 123 #[] g 0 cap L.toArray W eg
    (fun m os dk _ x y => (cmpi_any x y _).mono fun _ _ ⟨he, hw⟩ => ⟨he, 0, #[], by rw [hw]; simp [grow, World.drewN]⟩) (holds_of_blockI hb h4) hg (by simp; omega) (fun x y a b => by rw [ltI_not] at a b; omega)
  have e1 : L.toArray.size = L.length := by simp
  rw [e1, ltI_is] at H
  refine Calls.mono H ?_
  rintro e w' ⟨rfl, k, os, rfl⟩
  exact ⟨rfl, ownsRow_sortedI (ts := sortI L) (ss := L) (sortI_len L) hB hb h1 h2 h3, grownBy_sortedI _⟩
theorem compactI_any (W : World) (B g cap n : Nat) (L : List Int) (hn : n = L.length) (hv : W.ownsRow B 3 1 (.slice (some ⟨g, 0, none⟩) n cap) n (L.map (Value.int .i64))) (hl : n ≤ 4194304) :
    Calls Tryz.prog 129 #[.slice (some ⟨g, 0, none⟩) n cap] W fun e w' => e = .returned (.slice (some ⟨g, 0, none⟩) (Lib.compact L).length cap) ∧ w'.ownsRow B 3 1 (.slice (some ⟨g, 0, none⟩) (Lib.compact L).length cap) (Lib.compact L).length ((Lib.compact L).map (Value.int .i64)) ∧ W.grownBy w' (some g) := by
  obtain ⟨cur, hB, hb, h1, h2, h3, h4⟩ := row_partsI hn hv
  subst hn
  refine (Tryz.slices_Compact_int g 0 cap L W (holds_of_blockI hb h4) (by omega) h1).mono ?_
  rintro e w' ⟨rfl, q, hw⟩
  have hc := compact_len L
  have hlen : (Lib.compact L ++ List.replicate (L.length - (Lib.compact L).length) 0).length = L.length := by
    rw [List.length_append, List.length_replicate]; omega
  have g0 : ∀ W : World, grow W #[] = W := fun W => by simp [grow]
  rw [← g0 (putRow _ _ _ _ _)] at hw
  have hrow := ownsRow_sortedI (n := q) (os := #[]) hlen hB hb h1 h2 h3
  rw [← hw] at hrow
  have hr := row_cut hrow _ hc
  rw [Nat.mul_one, List.map_append, List.take_left' (by simp)] at hr
  exact ⟨rfl, hr, by rw [hw]; exact grownBy_sortedI _⟩
set_option maxRecDepth 100000 in
set_option maxHeartbeats 1000000 in
theorem orderedI_any (w : World) (ao : Option Addr) (c : Nat) (L : List Int) (hA : Hid (RdN w ao L)) (hl : L.length ≤ 4194304) :
    Calls Tryz.prog 122 #[.slice ao L.length c, .func (.func 123) #[] #[]] w fun e w' => ∃ g' c', e = .returned (.slice (some ⟨g', 0, none⟩) (riseL L).length c') ∧ w'.ownsRow w.heap.size 3 1 (.slice (some ⟨g', 0, none⟩) (riseL L).length c') (riseL L).length ((riseL L).map (Value.int .i64)) ∧ Below w.heap.size w w' := by
  obtain ⟨i9, hi9, hz90, hz91, hz92⟩ := info_parts info3
  obtain ⟨m, hm⟩ : ∃ m, m = L.length := ⟨_, rfl⟩
  have HL := hide hm
  rw [← hm]
  rw [← hm] at hl
  clear hm
  go_enter Tryz.func122, Tryz.ntmps122
  go_wp2_with (at_make; refine wpList_make_full _ rfl _ _ 22 rfl w.heap.size 3 i9 (.int .i64 0) 1 Tryz.underlying22 hi9 hz90 hz91 _ _ _ _ m rfl rfl (by go_num) (by go_num) (by rw [hz92]; omega) (by unfold maxLen; omega) (Nat.le_refl _) ?_)
  intro w1 ho hg
  have D1 : Below w.heap.size w w1 := (Below.refl _ _).grown hg (Nat.le_refl _) (by intro k hk; cases hk)
  have hxy : ∃ cur : List Value, w1.heap[w.heap.size]? = some (.cells cur.toArray 3 (0, 0)) ∧ cur.length = m := by
    rcases ho.2 with ⟨hv, _⟩ | ⟨g', cap', cur, hv, hb, hg, h1, h2, h3, h4⟩
    · cases hv
    · cases hv
      exact ⟨cur.toList, by simpa using hg, by simpa using h3⟩
  obtain ⟨cur, hcur, hcl⟩ := hxy
  obtain ⟨X, hX⟩ : ∃ X, X = L.map (Value.int .i64) := ⟨_, rfl⟩
  have hXl : X.length = m := by rw [hX, List.length_map, HL.out]
  have HX := hide (And.intro hX hXl)
  have HC := hide (And.intro hcur (And.intro hcl D1))
  clear ho hg D1 hcur hcl hX hXl
  go_wp2_with (refine wpList_copy_splice rfl (.tmp 9) (.tmp 10) 22 22 rfl 3 Tryz.underlying22 (by rw [hi9]; simp [hz91]) _ _ _ _ _ _ rfl rfl w.heap.size 0 cur 3 HC.out.1 X (by rw [HX.out.2]; exact (Nat.min_self m).symm) ?_ (by rw [HX.out.2, HC.out.2.1]; omega) ?_ w.heap.size w HC.out.2.2 (Nat.le_refl _) ?_)
  · intro hp
    have h0 : 0 < L.length := by rw [← HL.out, ← HX.out.2]; exact hp
    obtain ⟨g, o, rfl, _⟩ := hA.out 0 h0
    refine ⟨_, rfl, fun j v hv => ?_⟩
    rw [HX.out.1, List.getElem?_map] at hv
    obtain ⟨x, hx, rfl⟩ := Option.map_eq_some_iff.1 hv
    obtain ⟨hj, rfl⟩ := List.getElem?_eq_some_iff.1 hx
    obtain ⟨g', o', e, c0⟩ := (hA.out.on HC.out.2.2) j hj
    cases e
    have ea : Addr.add ⟨g, o, none⟩ j = ⟨g, o + j, none⟩ := by
      unfold Addr.add
      by_cases q : j = 0
      · subst q; simp
      · simp [q]
    rw [ea]
    exact c0
  · intro v hv
    rw [HX.out.1] at hv
    obtain ⟨x, _, rfl⟩ := List.mem_map.1 hv
    rfl
  intro w2 HG2 d2
  have hr2 : w2.ownsRow w.heap.size 3 1 (.slice (some ⟨w.heap.size, 0, none⟩) m m) m (L.map (Value.int .i64)) := by
    have e : splice cur 0 X = L.map (Value.int .i64) := by
      unfold splice
      rw [List.take_zero, List.drop_eq_nil_of_le (by rw [HX.out.2, HC.out.2.1]; omega), List.nil_append, List.append_nil, HX.out.1]
    have hg := HG2.out
    rw [e] at hg
    exact ⟨by rw [List.length_map, ← HL.out]; omega, .inr ⟨_, m, _, rfl, Nat.le_refl _, hg, Nat.le_refl _, by unfold maxLen; omega, by simp [← HL.out], List.take_of_length_le (by simp [← HL.out])⟩⟩
  have HR := hide (And.intro hr2 d2)
  clear hr2 d2 HG2 HC
  go_wp2_with (go_at_call 128; refine (sortI_any _ w.heap.size w.heap.size m m L HL.out (by exact HR.out.1) hl).mono ?_; rintro e w3 ⟨rfl, hr3, hg3⟩)
  have HS := hide (And.intro hr3 (HR.out.2.grown hg3 HR.out.2.size (fun k hk => by cases hk; exact Nat.le_refl _)))
  clear hr3 hg3
  go_wp2_with (go_at_call 129; refine (compactI_any _ w.heap.size w.heap.size m m (sortI L) (by rw [sortI_len]; exact HL.out) (by exact HS.out.1) hl).mono ?_; rintro e w4 ⟨rfl, hr4, hg4⟩)
  go_ret
  exact ⟨_, _, rfl, hr4, HS.out.2.grown hg4 HS.out.2.size (fun k hk => by cases hk; exact Nat.le_refl _)⟩
end Go.Proofs.YtgnpdhgphkocoaaGreatDoor
