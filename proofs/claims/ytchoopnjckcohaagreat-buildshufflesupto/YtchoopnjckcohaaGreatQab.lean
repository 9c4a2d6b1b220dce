import Derived.Test.YtchoopnjckcohaaGreatQaa
import Derived.RangeFuncNested
import Derived.RangeFuncBound
import Derived.RangeFuncCalls
import Derived.RangeFuncLeaves
import Derived.RangeFuncBox
import Derived.Shelf.Abstract
import Derived.Shelf.RegionOpen
import Derived.OwnWalkIn
import Derived.TacticsInMore
import Derived.LoopNIn
import Derived.LoopIn
import Derived.RangeFuncNested
import Derived.RangeFuncBound
import Derived.RangeFuncCalls
import Derived.RangeFuncLeaves
import Derived.RangeFuncBox
import Derived.Shelf.Abstract
import Derived.Shelf.RegionOpen
import Derived.OwnWalkIn
import Derived.TacticsInMore
import Derived.LoopNIn
import Derived.LoopIn
import Derived.RangeFuncNested
import Derived.RangeFuncBound
import Derived.RangeFuncCalls
import Derived.RangeFuncLeaves
import Derived.RangeFuncBox
import Derived.Shelf.Abstract
import Derived.Shelf.RegionOpen
import Derived.OwnWalkIn
import Derived.TacticsInMore
import Derived.LoopNIn
import Derived.LoopIn
import Derived.RangeFuncNested
import Derived.RangeFuncBound
import Derived.RangeFuncCalls
import Derived.RangeFuncLeaves
import Derived.RangeFuncBox
import Derived.Shelf.Abstract
import Derived.Shelf.RegionOpen
import Derived.OwnWalkIn
import Derived.TacticsInMore
import Derived.LoopNIn
import Derived.LoopIn
import Derived.RangeFuncNested
import Derived.RangeFuncBound
import Derived.RangeFuncCalls
import Derived.RangeFuncLeaves
import Derived.RangeFuncBox
import Derived.Shelf.Abstract
import Derived.Shelf.RegionOpen
import Derived.OwnWalkIn
import Derived.TacticsInMore
import Derived.LoopNIn
import Derived.LoopIn
import Derived.RangeFuncNested
import Derived.RangeFuncBound
import Derived.RangeFuncCalls
import Derived.RangeFuncLeaves
import Derived.RangeFuncBox
import Derived.Shelf.Abstract
import Derived.Shelf.RegionOpen
import Derived.OwnWalkIn
import Derived.TacticsInMore
import Derived.LoopNIn
import Derived.LoopIn
import Derived.RangeFuncNested
import Derived.RangeFuncBound
import Derived.RangeFuncCalls
import Derived.RangeFuncLeaves
import Derived.RangeFuncBox
import Derived.Shelf.Abstract
import Derived.Shelf.RegionOpen
import Derived.OwnWalkIn
import Derived.TacticsInMore
import Derived.LoopNIn
import Derived.LoopIn
import Derived.RangeFuncNested
import Derived.RangeFuncBound
import Derived.RangeFuncCalls
import Derived.RangeFuncLeaves
import Derived.RangeFuncBox
import Derived.Shelf.Abstract
import Derived.Shelf.RegionOpen
import Derived.OwnWalkIn
import Derived.TacticsInMore
import Derived.LoopNIn
import Derived.LoopIn
import Derived.RangeFuncNested
import Derived.RangeFuncBound
import Derived.RangeFuncCalls
import Derived.RangeFuncLeaves
import Derived.RangeFuncBox
import Derived.Shelf.Abstract
import Derived.Shelf.RegionOpen
import Derived.OwnWalkIn
import Derived.TacticsInMore
import Derived.LoopNIn
import Derived.LoopIn
import Derived.RangeFuncNested
import Derived.RangeFuncBound
import Derived.RangeFuncCalls
import Derived.RangeFuncLeaves
import Derived.RangeFuncBox
import Derived.Shelf.Abstract
import Derived.Shelf.RegionOpen
import Derived.OwnWalkIn
import Derived.TacticsInMore
import Derived.LoopNIn
import Derived.LoopIn
import Derived.RangeFuncNested
import Derived.RangeFuncBound
import Derived.RangeFuncCalls
import Derived.RangeFuncLeaves
import Derived.RangeFuncBox
import Derived.Shelf.Abstract
import Derived.Shelf.RegionOpen
import Derived.OwnWalkIn
import Derived.TacticsInMore
import Derived.LoopNIn
import Derived.LoopIn
import Derived.RangeFuncNested
import Derived.RangeFuncBound
import Derived.RangeFuncCalls
import Derived.RangeFuncLeaves
import Derived.RangeFuncBox
import Derived.Shelf.Abstract
import Derived.Shelf.RegionOpen
import Derived.OwnWalkIn
import Derived.TacticsInMore
import Derived.LoopNIn
import Derived.LoopIn
import Derived.RangeFuncNested
import Derived.RangeFuncBound
import Derived.RangeFuncCalls
import Derived.RangeFuncLeaves
import Derived.RangeFuncBox
import Derived.Shelf.Abstract
import Derived.Shelf.RegionOpen
import Derived.OwnWalkIn
import Derived.TacticsInMore
import Derived.LoopNIn
import Derived.LoopIn
import Derived.RangeFuncNested
import Derived.RangeFuncBound
import Derived.RangeFuncCalls
import Derived.RangeFuncLeaves
import Derived.RangeFuncBox
import Derived.Shelf.Abstract
import Derived.Shelf.RegionOpen
import Derived.OwnWalkIn
import Derived.TacticsInMore
import Derived.LoopNIn
import Derived.LoopIn
import Derived.RangeFuncNested
import Derived.RangeFuncBound
import Derived.RangeFuncCalls
import Derived.RangeFuncLeaves
import Derived.RangeFuncBox
import Derived.Shelf.Abstract
import Derived.Shelf.RegionOpen
import Derived.OwnWalkIn
import Derived.TacticsInMore
import Derived.LoopNIn
import Derived.LoopIn
import Derived.RangeFuncNested
import Derived.RangeFuncBound
import Derived.RangeFuncCalls
import Derived.RangeFuncLeaves
import Derived.RangeFuncBox
import Derived.Shelf.Abstract
import Derived.Shelf.RegionOpen
import Derived.OwnWalkIn
import Derived.TacticsInMore
import Derived.LoopNIn
import Derived.LoopIn
import Derived.RangeFuncNested
import Derived.RangeFuncBound
import Derived.RangeFuncCalls
import Derived.RangeFuncLeaves
import Derived.RangeFuncBox
import Derived.Shelf.Abstract
import Derived.Shelf.RegionOpen
import Derived.OwnWalkIn
import Derived.TacticsInMore
import Derived.LoopNIn
import Derived.LoopIn
import Derived.RangeFuncNested
import Derived.RangeFuncBound
import Derived.RangeFuncCalls
import Derived.RangeFuncLeaves
import Derived.RangeFuncBox
import Derived.Shelf.Abstract
import Derived.Shelf.RegionOpen
import Derived.OwnWalkIn
import Derived.TacticsInMore
import Derived.LoopNIn
import Derived.LoopIn
import Derived.RangeFuncNested
import Derived.RangeFuncBound
import Derived.RangeFuncCalls
import Derived.RangeFuncLeaves
import Derived.RangeFuncBox
import Derived.Shelf.Abstract
import Derived.Shelf.RegionOpen
import Derived.OwnWalkIn
import Derived.TacticsInMore
import Derived.LoopNIn
import Derived.LoopIn
import Derived.RangeFuncNested
import Derived.RangeFuncBound
import Derived.RangeFuncCalls
import Derived.RangeFuncLeaves
import Derived.RangeFuncBox
import Derived.Shelf.Abstract
import Derived.Shelf.RegionOpen
import Derived.OwnWalkIn
import Derived.TacticsInMore
import Derived.LoopNIn
import Derived.LoopIn
import Derived.RangeFuncNested
import Derived.RangeFuncBound
import Derived.RangeFuncCalls
import Derived.RangeFuncLeaves
import Derived.RangeFuncBox
import Derived.Shelf.Abstract
import Derived.Shelf.RegionOpen
import Derived.OwnWalkIn
import Derived.TacticsInMore
import Derived.LoopNIn
import Derived.LoopIn
import Derived.RangeFuncNested
import Derived.RangeFuncBound
import Derived.RangeFuncCalls
import Derived.RangeFuncLeaves
import Derived.RangeFuncBox
import Derived.Shelf.Abstract
import Derived.Shelf.RegionOpen
import Derived.OwnWalkIn
import Derived.TacticsInMore
import Derived.LoopNIn
import Derived.LoopIn
import Derived.RangeFuncNested
import Derived.RangeFuncBound
import Derived.RangeFuncCalls
import Derived.RangeFuncLeaves
import Derived.RangeFuncBox
import Derived.Shelf.Abstract
import Derived.Shelf.RegionOpen
import Derived.OwnWalkIn
import Derived.TacticsInMore
import Derived.LoopNIn
import Derived.LoopIn
import Derived.RangeFuncNested
import Derived.RangeFuncBound
import Derived.RangeFuncCalls
import Derived.RangeFuncLeaves
import Derived.RangeFuncBox
import Derived.Shelf.Abstract
import Derived.Shelf.RegionOpen
import Derived.OwnWalkIn
import Derived.TacticsInMore
import Derived.LoopNIn
import Derived.LoopIn
import Derived.Maps.AppendAt
namespace Go.Proofs.YtchoopnjckcohaaGreat
open Go.RowKit
/-! ### A region whose operations come in whatever order, each with a fact of its own; a fact may be given up -/
section
variable {P : Program} {ops : Array Oper} {Q : Exit → Act → World → Prop}
/-- Is a value handed over? -/
def ndB (e : Edge) : Bool := match e.ground with
  | .data => true
  | .guard => true
  | _ => false
/-- What is known of an operation that has come up; whose values it speaks of besides; whose facts end with it. -/
structure It where
  reads : List Nat
  ret : List Nat
  p : (Nat → Value) → Nat → Nat → World → Prop
def itL (L : List It) (i : Nat) : It := L.getD i ⟨[], [], fun _ _ _ _ => True⟩
/-- What memory that is only added to leaves as it is. -/
def MonI (i : Nat) (t : It) : Prop := ∀ y y' lo hi W W', hi ≤ W.heap.size → Below W.heap.size W W' → (∀ j, j = i ∨ j ∈ t.reads → y' j = y j) → t.p y lo hi W → t.p y' lo hi W'
def MonIL : Nat → List It → Prop
  | _, [] => True
  | k, t :: r => MonI k t ∧ MonIL (k + 1) r
theorem MonIL.at : ∀ (L : List It) (k i : Nat), MonIL k L → MonI (k + i) (itL L i)
  | [], _, _, _ => fun _ _ _ _ _ _ _ _ _ h => h
  | _ :: _, _, 0, h => h.1
  | _ :: r, k, i + 1, h => by
    have := MonIL.at r (k + 1) i h.2
    rwa [show k + 1 + i = k + (i + 1) by omega] at this
/-- What a step leaves as it is. -/
def Stp (w : World) (L : List It) (i : Nat) (y : Nat → Value) (W W' : World) : Prop := Below w.heap.size w W' ∧ W.heap.size ≤ W'.heap.size ∧ ∀ j, j ≠ i → j ∉ (itL L i).ret → ∀ lo hi, hi ≤ W.heap.size → (itL L j).p y lo hi W → (itL L j).p y lo hi W'
theorem stp_of {w : World} {L : List It} {i : Nat} {y : Nat → Value} {W W' : World} (hm : MonIL 0 L) (d : Below w.heap.size w W) (d1 : Below W.heap.size W W') : Stp w L i y W W' :=
  ⟨d.trans (d1.mono d.size), d1.size, fun j _ _ lo hi hs h => by
    have := MonIL.at L 0 j hm y y lo hi W W' hs d1 (fun _ _ => rfl)
    exact this h⟩
def HopI (P : Program) (ops : Array Oper) (Q : Exit → Act → World → Prop) (w : World) (fill : (Nat → Value) → Act) (L : List It) (i : Nat) (o : Oper) : Prop :=
  ∀ (y : Nat → Value) (W : World), Below w.heap.size w W → (∀ e ∈ o.after, Region.binds .any e = true → ndB e = true → ∃ lo hi, w.heap.size ≤ lo ∧ hi ≤ W.heap.size ∧ (itL L e.on).p y lo hi W) →
    ∀ K : Act → World → Prop, Shut (∀ x a' W', Stp w L i y W W' → (itL L i).p (updV y i x) W.heap.size W'.heap.size W' → a' = fill (updV y i x) → K a' W') → if Region.wanted o (yielded ops (fill y).tmps) = true then Oper.wp P o (fill y) W K Q else K ((fill y).put o.dst undef) W
def HopsI (P : Program) (ops : Array Oper) (Q : Exit → Act → World → Prop) (w : World) (fill : (Nat → Value) → Act) (L : List It) : Nat → List Oper → Prop
  | _, [] => True
  | k, o :: r => HopI P ops Q w fill L k o ∧ HopsI P ops Q w fill L (k + 1) r
theorem HopsI.at {w : World} {fill : (Nat → Value) → Act} {L : List It} : ∀ (l : List Oper) (k i : Nat) (o : Oper), HopsI P ops Q w fill L k l → l[i]? = some o → HopI P ops Q w fill L (k + i) o
  | [], _, _, _, _, h => by simp at h
  | o' :: r, k, 0, o, H, h => by simp at h; subst h; exact H.1
  | o' :: r, k, i + 1, o, H, h => by
    have := HopsI.at r (k + 1) i o H.2 (by simpa using h)
    rwa [show k + 1 + i = k + (i + 1) by omega] at this
/-- What has come up. -/
structure MadeI (w : World) (L : List It) (ops : Array Oper) (n : Nat) (is : Nat → Bool) (y : Nat → Value) (lo hi : Nat → Nat) (W : World) : Prop where
  d : Below w.heap.size w W
  fact : ∀ i, i < n → is i = true → (∀ k, k < n → is k = true → i ∉ (itL L k).ret) → (itL L i).p y (lo i) (hi i) W
  at' : ∀ i, i < n → is i = true → w.heap.size ≤ lo i ∧ lo i ≤ hi i ∧ hi i ≤ W.heap.size
  apart : ∀ i j, i < n → j < n → is i = true → is j = true → i ≠ j → hi i ≤ lo j ∨ hi j ≤ lo i
  order : ∀ j o e, j < n → is j = true → ops[j]? = some o → e ∈ o.after → Region.binds .any e = true → hi e.on ≤ lo j
/-- Asked of the region's text: a fact that ends with k is wanted by none that may come behind k; a fact speaks of none that may come behind it. -/
def retB (ops : Array Oper) (n : Nat) (rs rd : List (List Nat)) : Bool :=
  ((List.range n).all fun k => (rs.getD k []).all fun j => (List.range n).all fun i => match ops[i]? with
    | none => false
    | some o => decide (i = k) || o.after.all (fun e => !Region.binds .any e || !ndB e || !(e.on == j)) || waitsL .any ops ops.size k i) &&
  ((List.range n).all fun k => (rd.getD k []).all fun j => waitsL .any ops ops.size k j)
theorem getD_map {α β : Type} (f : α → β) : ∀ (L : List α) (i : Nat) (d : α), (L.map f).getD i (f d) = f (L.getD i d)
  | [], _, _ => rfl
  | _ :: _, 0, _ => rfl
  | _ :: _, _ + 1, _ => by simp
theorem retB_at {n : Nat} {L : List It} (h : retB ops n (L.map It.ret) (L.map It.reads) = true) {k j i : Nat} {o : Oper} {e : Edge} (hk : k < n) (hi : i < n) (hne : i ≠ k) (hj : j ∈ (itL L k).ret) (ho : ops[i]? = some o) (he : e ∈ o.after) (hb : Region.binds .any e = true) (hnd : ndB e = true) (hej : e.on = j) : waitsL .any ops ops.size k i = true := by
  unfold retB at h
  rw [Bool.and_eq_true] at h
  have h := h.1
  rw [List.all_eq_true] at h
  have h1 := h k (List.mem_range.2 hk)
  rw [List.all_eq_true] at h1
  have e1 : (L.map It.ret).getD k [] = (itL L k).ret := getD_map It.ret L k ⟨[], [], fun _ _ _ _ => True⟩
  rw [e1] at h1
  have h2 := h1 j hj
  rw [List.all_eq_true] at h2
  have h3 := h2 i (List.mem_range.2 hi)
  rw [ho] at h3
  simp only [Bool.or_eq_true, decide_eq_true_eq] at h3
  rcases h3 with (h3 | h3) | h3
  · exact absurd h3 hne
  · rw [Array.all_eq_true_iff_forall_mem] at h3
    have := h3 e he
    rw [hb, hnd, hej] at this
    simp at this
  · exact h3
theorem readB_at {n : Nat} {L : List It} (h : retB ops n (L.map It.ret) (L.map It.reads) = true) {k j : Nat} (hk : k < n) (hj : j ∈ (itL L k).reads) : waitsL .any ops ops.size k j = true := by
  unfold retB at h
  rw [Bool.and_eq_true] at h
  have h := h.2
  rw [List.all_eq_true] at h
  have h1 := h k (List.mem_range.2 hk)
  rw [List.all_eq_true] at h1
  have e1 : (L.map It.reads).getD k [] = (itL L k).reads := getD_map It.reads L k ⟨[], [], fun _ _ _ _ => True⟩
  rw [e1] at h1
  exact h1 j hj
theorem waits_listed {listed : Array Bool} (hc : ClosedL .any ops listed) {k j f : Nat} (hw : waitsL .any ops f k j = true) (hk : listed.getD k true = true) : listed.getD j true = true := by
  cases hj : listed.getD j true with
  | true => rfl
  | false =>
    obtain ⟨e, oj, h1, h2, h3, h4⟩ := waits_un hc hj f k hw
    have := hc k oj h1 hk e h2 h3
    rw [this] at h4
    cases h4
theorem st_go {w : World} {fill : (Nat → Value) → Act} {L : List It} {n : Nat} {l2 : List Oper} {l1 : List Oper}
    (hp : phasedB .any ops n = true) (hdep : depsB ops n = true) (hret : retB ops n (L.map It.ret) (L.map It.reads) = true) (hl1 : ∀ j o, l1[j]? = some o ↔ (j < n ∧ ops[j]? = some o)) (hl2 : ∀ j o, l2[j]? = some o → ops[n + j]? = some o)
    (hline : ∀ listed : Array Bool, listed.size = ops.size → (∀ i, listed.getD i true = decide (i < n ∨ ops.size ≤ i)) → lineB .any ops l2.length n listed = true)
    (hmono : MonIL 0 L) (hop : HopsI P ops Q w fill L 0 l1)
    (hfin : ∀ y lo hi W, MadeI w L ops n (fun _ => true) y lo hi W → wpList P ops Q l2 (fill y) W) :
    ∀ (m : Nat) (x : Nat) (listed : Array Bool) (y : Nat → Value) (lo hi : Nat → Nat) (W : World), listed.size = ops.size → (∀ i, n ≤ i → i < ops.size → listed.getD i true = false) → ClosedL .any ops listed → cntM (fun i => !listed.getD i true) n = m →
      MadeI w L ops n (fun i => listed.getD i true) y lo hi W → wpAny P .any ops Q (l2.length + m + x) listed (fill y) W := by
  intro m
  induction m with
  | zero =>
    intro x listed y lo hi W hsz hge hc hcnt hM
    have hall : ∀ i, i < n → listed.getD i true = true := fun i hi => by
      have := cntM_zero n hcnt i hi
      simpa using this
    refine line_more x n listed (fill y) W hl2 (hline listed hsz ?_) (hfin y lo hi W ?_)
    · intro i
      rcases Nat.lt_or_ge i n with h | h
      · rw [hall i h]; simp [h]
      · rcases Nat.lt_or_ge i ops.size with h2 | h2
        · rw [hge i h h2]; symm; simp; omega
        · rw [show listed.getD i true = true by simp [Array.getElem?_eq_none (show listed.size ≤ i by omega)]]; symm; simp; omega
    · exact ⟨hM.d, fun i hi _ hr => hM.fact i hi (hall i hi) (fun k hk _ => hr k hk rfl), fun i hi _ => hM.at' i hi (hall i hi), fun i j hi hj _ _ h => hM.apart i j hi hj (hall i hi) (hall j hj) h, fun j o e hj _ ho he hb => hM.order j o e hj (hall j hj) ho he hb⟩
  | succ m ih =>
    intro x listed y lo hi W hsz hge hc hcnt hM
    obtain ⟨i0, hi0, hf0, hless⟩ := cntM_least (f := fun i => !listed.getD i true) n (by omega)
    have hun : listed.getD i0 true = false := by simpa using hf0
    obtain ⟨o0, ho0, hd0⟩ := depsB_at hdep hi0
    have hin : ∀ i, i < n → i < listed.size := fun i hi => by
      obtain ⟨o, ho, _⟩ := depsB_at hdep hi
      have := (Array.getElem?_eq_some_iff.1 ho).1
      omega
    have hready : i0 ∈ Region.ready .any ops listed := mem_ready.2 ⟨hun, o0, ho0, fun e he hb => by
      have h1 := hd0 e he hb
      have h2 := hless e.on h1
      have h3 : listed.getD e.on true = true := by simpa using h2
      have h4 := hin e.on (by omega)
      simpa [h4] using h3⟩
    rw [show l2.length + (m + 1) + x = (l2.length + m + x) + 1 by omega]
    refine ⟨fun h => (by rw [h] at hready; cases hready), fun j hj => ?_⟩
    have hjn : j < n := phased_lt hp hc hi0 hun hj
    obtain ⟨hjun, oj, hoj, hall⟩ := mem_ready.1 hj
    have H := HopsI.at l1 0 j oj hop ((hl1 j oj).2 ⟨hjn, hoj⟩)
    rw [Nat.zero_add] at H
    refine wpOp_step hoj (fun K' hK => H y W hM.d (fun e he hb hnd => ?_) K' ?_)
    · have h1 := hall e he hb
      obtain ⟨o', ho', hd'⟩ := depsB_at hdep hjn
      rw [hoj] at ho'
      cases ho'
      have h2 := hd' e he hb
      have h3 := getD_to _ _ h1
      refine ⟨lo e.on, hi e.on, (hM.at' e.on (by omega) h3).1, (hM.at' e.on (by omega) h3).2.2, hM.fact e.on (by omega) h3 (fun k hk hlk hmem => ?_)⟩
      have hkj : j ≠ k := fun h => by rw [h] at hjun; rw [hjun] at hlk; cases hlk
      have := waits_listed hc (retB_at hret hk hjn hkj hmem hoj he hb hnd rfl) hlk
      rw [hjun] at this
      cases this
    · rintro v a' W' ⟨hD, hs2, hkeep⟩ hΦ rfl
      have hsj := hin j hjn
      have g1 : (listed.setIfInBounds j true).getD j true = true := by simp [hsj]
      refine hK _ _ ?_
      refine ih x (listed.setIfInBounds j true) (updV y j v) (fun i => if i = j then W.heap.size else lo i) (fun i => if i = j then W'.heap.size else hi i) W' (by simp [hsz]) (fun i h1 h2 => ?_) (hc.set hj) ?_ ?_
      · rw [getD_set_ne true (by omega)]; exact hge i h1 h2
      · have := cntM_drop (f := fun i => !listed.getD i true) (g := fun i => !(listed.setIfInBounds j true).getD i true) (j := j) (by simp only [hjun]; rfl) (by simp only [g1]; rfl) (fun i hi => by simp only [getD_set_ne true (Ne.symm hi)]) n hjn
        omega
      · have old : ∀ i, i ≠ j → (listed.setIfInBounds j true).getD i true = true → listed.getD i true = true := fun i h1 h2 => by rwa [getD_set_ne true (Ne.symm h1)] at h2
        have new : ∀ i, listed.getD i true = true → (listed.setIfInBounds j true).getD i true = true := fun i h => by
          by_cases e : j = i
          · subst e; exact g1
          · rwa [getD_set_ne true e]
        have hs := hM.d.size
        refine ⟨hD, fun i hi h hr => ?_, fun i hi h => ?_, fun i k hi hk h1 h2 hne => ?_, fun k o e hk h1 ho he hb => ?_⟩
        · by_cases e : i = j
          · subst e; simp only [if_pos]; exact hΦ
          · simp only [if_neg e]
            have hli := old i e h
            have h5 := hkeep i e (hr j hjn g1) _ _ (hM.at' i hi hli).2.2 (hM.fact i hi hli (fun k hk hlk => hr k hk (new k hlk)))
            have h6 := MonIL.at L 0 i hmono y (updV y j v) (lo i) _ W' W' (Nat.le_trans (hM.at' i hi hli).2.2 hs2) (Below.refl _ _) (fun q hq => by
              rw [Nat.zero_add] at hq
              have hne : q ≠ j := by
                rcases hq with hq | hq
                · rw [hq]; exact e
                · intro hqj
                  have := waits_listed hc (readB_at hret hi hq) hli
                  rw [hqj, hjun] at this
                  cases this
              simp [updV, hne])
            exact h6 h5
        · by_cases e : i = j
          · subst e; simp only [if_pos]; exact ⟨hs, hs2, Nat.le_refl _⟩
          · simp only [if_neg e]; have := hM.at' i hi (old i e h); exact ⟨this.1, this.2.1, by omega⟩
        · by_cases e : i = j
          · have e2 : k ≠ j := fun h => hne (by rw [e, h])
            simp only [if_pos e, if_neg e2]
            exact Or.inr (hM.at' k hk (old k e2 h2)).2.2
          · by_cases e2 : k = j
            · simp only [if_neg e, if_pos e2]
              exact Or.inl (hM.at' i hi (old i e h1)).2.2
            · simp only [if_neg e, if_neg e2]
              exact hM.apart i k hi hk (old i e h1) (old k e2 h2) hne
        · obtain ⟨o', ho', hd'⟩ := depsB_at hdep hk
          rw [ho] at ho'
          cases ho'
          have hlt := hd' e he hb
          by_cases e1 : k = j
          · subst e1
            rw [hoj] at ho
            cases ho
            have h3 := getD_to _ _ (hall e he hb)
            have e2 : e.on ≠ k := by omega
            simp only [if_pos, if_neg e2]
            exact (hM.at' e.on (by omega) h3).2.2
          · have h4 := old k e1 h1
            have h5 := getD_to _ _ (hc k o ho h4 e he hb)
            have e2 : e.on ≠ j := fun h => by rw [h, hjun] at h5; cases h5
            simp only [if_neg e1, if_neg e2]
            exact hM.order k o e hk h4 ho he hb
/-- Asked of a region's text. -/
def stB (ops : Array Oper) (n : Nat) (rs rd : List (List Nat)) : Bool := makeB ops n && retB ops n rs rd
/-- **A region whose first operations come in whatever order, each with a fact of its own.** -/
theorem wp_region_st {id : Nat} {a : Act} {w : World} {l : List Oper} (L : List It) (hm : P.follows .mixedOrders = true) (hB : stB l.toArray L.length (L.map It.ret) (L.map It.reads) = true) (hmono : MonIL 0 L)
    (h : ∀ F : (Nat → Value) → Act, F = (fun y => fills 0 (l.take L.length) y a) → HopsI P l.toArray Q w F L 0 (l.take L.length) ∧ ∀ y lo hi W, MadeI w L l.toArray L.length (fun _ => true) y lo hi W → wpList P l.toArray Q (l.drop L.length) (F y) W) : (Code.region id l.toArray true).wp P Q a w := by
  unfold stB makeB at hB
  simp only [Bool.and_eq_true] at hB
  obtain ⟨⟨⟨⟨h0, h2⟩, h3⟩, h4⟩, h5⟩ := hB
  have hn : L.length ≤ l.length := by simpa using Nat.le_of_ble_eq_true h0
  refine wp_region_any hm ?_
  have hl2 : (l.drop L.length).length = l.toArray.size - L.length := by simp
  have F := st_go (P := P) (Q := Q) (w := w) (fill := fun y => fills 0 (l.take L.length) y a) (L := L) (n := L.length) (ops := l.toArray) (l1 := l.take L.length) (l2 := l.drop L.length) h2 h3 h5
    (fun j o => by
      rw [List.getElem?_take]
      split
      · rename_i h; simp [h]
      · rename_i h; constructor
        · intro h'; cases h'
        · intro h'; exact absurd h'.1 h)
    (fun j o ho => by rw [List.getElem?_drop] at ho; simpa using ho)
    (fun listed hs hg => by
      rw [hl2]
      have e : listed = Array.ofFn (n := l.toArray.size) fun i => decide (i.1 < L.length) := by
        refine Array.ext (by simp [hs]) (fun i h5 h6 => ?_)
        have := hg i
        simp only [Array.getElem_ofFn]
        have e1 : listed.getD i true = listed[i] := by simp [h5]
        rw [← e1, this]
        have : i < l.toArray.size := by omega
        by_cases h7 : i < L.length
        · simp [h7]
        · simp only [h7, false_or, decide_false, decide_eq_false_iff_not]; omega
      rw [e]; exact h4)
    hmono (h _ rfl).1 (h _ rfl).2 L.length 0 (Array.replicate l.toArray.size false) (firstY l a) (fun _ => 0) (fun _ => 0) (w.drewN 1) (by simp) (fun i h5 h6 => by simp at h6; simp [h6]) (closed_none _ _) ?_ ?_
  · have e : (l.drop L.length).length + L.length + 0 = l.toArray.size := by rw [hl2]; simp; omega
    rw [e, fills_self l a (l.take L.length) 0 (fun j o ho => by
      rw [List.getElem?_take] at ho
      split at ho
      · simpa using ho
      · cases ho)] at F
    exact F
  · have : ∀ k, k ≤ L.length → cntM (fun i => !(Array.replicate l.toArray.size false).getD i true) k = k := by
      intro k
      induction k with
      | zero => intro _; rfl
      | succ k ih =>
        intro hk
        have h5 : k < l.toArray.size := by simp; omega
        simp only [cntM]
        rw [ih (by omega)]
        have : (Array.replicate l.toArray.size false).getD k true = false := by simp at h5; simp [h5]
        simp only [this]; rfl
    exact this L.length (Nat.le_refl _)
  · have none : ∀ i, i < L.length → (Array.replicate l.toArray.size false).getD i true = true → False := fun i hi h => by
      have : i < l.length := by omega
      simp [this] at h
    exact ⟨⟨rfl, rfl, rfl, Nat.le_refl _, fun _ _ => rfl⟩, fun i hi h => (none i hi h).elim, fun i hi h => (none i hi h).elim, fun i j hi _ h _ _ => (none i hi h).elim, fun j o e hj h _ _ _ => (none j hj h).elim⟩
/-- None gives it up. -/
def notR (rs : List (List Nat)) (i : Nat) : Bool := rs.all fun l => !l.contains i
theorem notR_all {L : List It} {n : Nat} {is : Nat → Bool} (i : Nat) (h : notR (L.map It.ret) i = true) : ∀ k, k < n → is k = true → i ∉ (itL L k).ret := fun k _ _ hm => by
  unfold notR at h
  rw [List.all_eq_true] at h
  rcases Nat.lt_or_ge k L.length with hk | hk
  · have e : (itL L k).ret = (L[k]).ret := by unfold itL; simp [hk]
    have := h (L[k]).ret (List.mem_map.2 ⟨L[k], List.getElem_mem hk, rfl⟩)
    rw [e] at hm
    simp [hm] at this
  · have e : (itL L k).ret = [] := by unfold itL; simp [List.getElem?_eq_none hk]
    rw [e] at hm
    cases hm
/-- What a store leaves as it is, place by place. -/
def Keeps (y : Nat → Value) (W W' : World) (rs : List Nat) : Nat → List It → Prop
  | _, [] => True
  | k, t :: r => (k ∈ rs ∨ ∀ lo hi, hi ≤ W.heap.size → t.p y lo hi W → t.p y lo hi W') ∧ Keeps y W W' rs (k + 1) r
theorem Keeps.at {y : Nat → Value} {W W' : World} {rs : List Nat} : ∀ (L : List It) (k j : Nat), Keeps y W W' rs k L → k + j ∉ rs → ∀ lo hi, hi ≤ W.heap.size → (itL L j).p y lo hi W → (itL L j).p y lo hi W'
  | [], _, _, _, _ => fun _ _ _ h => h
  | _ :: _, _, 0, h, hn => h.1.resolve_left hn
  | _ :: r, k, j + 1, h, hn => Keeps.at r (k + 1) j h.2 (by rwa [show k + 1 + j = k + (j + 1) by omega])
/-- One value. -/
def vI (i : Nat) (v : Value) : It := ⟨[], [], fun y _ _ _ => y i = v⟩
theorem vI_mono (i : Nat) (v : Value) : MonI i (vI i v) := fun _ _ _ _ _ _ _ _ hy h => (hy i (Or.inl rfl)).trans h
/-- A fact of the value alone. -/
def pI (i : Nat) (p : MkP) : It := ⟨[], [], fun y lo hi W => p (y i) lo hi W⟩
theorem pI_mono {i : Nat} {p : MkP} (h : MonoP p) : MonI i (pI i p) := fun y y' lo hi W W' hs d hy hp => by
  show p (y' i) lo hi W'
  rw [hy i (Or.inl rfl)]
  exact h _ _ _ _ _ hs d hp
end
/-! ### The same, the state told by its slots alone -/
section
variable {P : Program} {Q : Exit → Act → World → Prop}
theorem put_put (a : Act) (d : Nat) (x v : Value) : (a.put (some d) x).put (some d) v = a.put (some d) v := by
  simp [Act.put]
theorem put_swap (a : Act) {d e : Nat} (x v : Value) (h : d ≠ e) : (a.put (some d) x).put (some e) v = (a.put (some e) v).put (some d) x := by
  simp only [Act.put]
  rw [Array.setIfInBounds_comm _ _ h]
theorem put_size (a : Act) (d : Option Nat) (x : Value) : (a.put d x).tmps.size = a.tmps.size := by
  cases d <;> simp [Act.put]
theorem put_get (a : Act) {d : Nat} (x : Value) (h : d < a.tmps.size) : (a.put (some d) x).tmps.getD d undef = x := by
  simp [Act.put, h]
theorem put_other (a : Act) {d : Nat} {e : Option Nat} (x : Value) (h : e ≠ some d) : (a.put e x).tmps.getD d undef = a.tmps.getD d undef := by
  cases e with
  | none => rfl
  | some e =>
    have h2 : e ≠ d := fun h3 => h (by rw [h3])
    simp [Act.put, Array.getElem?_setIfInBounds_ne h2]
theorem got_bool {A : Act} {t : Nat} {b : Bool} (h : A.tmps.getD t undef = .bool b) : A.tmps[t]? = some (.bool b) := by
  rw [Array.getD_eq_getD_getElem?] at h
  cases hx : A.tmps[t]? with
  | none => rw [hx] at h; cases h
  | some v => rw [hx] at h; exact congrArg some h
/-- Does one of the operations write a slot? -/
def wrB (d : Nat) (l : List Oper) : Bool := l.any fun o => o.dst == some d
theorem wrB_not {d : Nat} {l : List Oper} (h : wrB d l = false) {o : Oper} (ho : o ∈ l) : o.dst ≠ some d := by
  unfold wrB at h
  rw [List.any_eq_false] at h
  simpa using h o ho
/-- Each slot is written once. -/
def onceB : List Oper → Bool
  | [] => true
  | o :: r => (match o.dst with
    | none => true
    | some d => !wrB d r) && onceB r
theorem fills_other : ∀ (r : List Oper) (k : Nat) (y : Nat → Value) (a : Act) (d : Nat), wrB d r = false → (fills k r y a).tmps.getD d undef = a.tmps.getD d undef
  | [], _, _, _, _, _ => rfl
  | o :: r, k, y, a, d, h => by
    have h1 := wrB_not h (List.mem_cons_self ..)
    have h2 : wrB d r = false := by
      unfold wrB at h ⊢
      rw [List.any_cons, Bool.or_eq_false_iff] at h
      exact h.2
    unfold fills
    rw [fills_other r (k + 1) y _ d h2, put_other _ _ h1]
theorem fills_put : ∀ (r : List Oper) (k : Nat) (y : Nat → Value) (a : Act) (d : Nat) (x : Value), wrB d r = false → (fills k r y a).put (some d) x = fills k r y (a.put (some d) x)
  | [], _, _, _, _, _, _ => rfl
  | o :: r, k, y, a, d, x, h => by
    have h1 := wrB_not h (List.mem_cons_self ..)
    have h2 : wrB d r = false := by
      unfold wrB at h ⊢
      rw [List.any_cons, Bool.or_eq_false_iff] at h
      exact h.2
    unfold fills
    rw [fills_put r (k + 1) y _ d x h2]
    cases hd : o.dst with
    | none => rfl
    | some e => rw [put_swap _ _ _ (fun h3 => h1 (by rw [hd, h3]))]
theorem fills_congr : ∀ (r : List Oper) (k : Nat) (y y' : Nat → Value) (a : Act), (∀ j, k ≤ j → y j = y' j) → fills k r y a = fills k r y' a
  | [], _, _, _, _, _ => rfl
  | o :: r, k, y, y', a, h => by
    unfold fills
    rw [h k (Nat.le_refl _)]
    exact fills_congr r (k + 1) y y' _ (fun j hj => h j (by omega))
theorem fills_at : ∀ (r : List Oper) (k j : Nat) (y : Nat → Value) (a : Act) (o : Oper) (d : Nat), onceB r = true → r[j]? = some o → o.dst = some d → d < a.tmps.size → (fills k r y a).tmps.getD d undef = y (k + j)
  | [], _, _, _, _, _, _, _, h, _, _ => by simp at h
  | o' :: r, k, 0, y, a, o, d, h1, h, hd, hs => by
    simp at h
    subst h
    unfold onceB at h1
    rw [hd, Bool.and_eq_true] at h1
    unfold fills
    rw [fills_other r (k + 1) y _ d (by simpa using h1.1), hd, put_get _ _ hs]
    rfl
  | o' :: r, k, j + 1, y, a, o, d, h1, h, hd, hs => by
    unfold onceB at h1
    rw [Bool.and_eq_true] at h1
    unfold fills
    rw [fills_at r (k + 1) j y _ o d h1.2 (by simpa using h) hd (by rw [put_size]; exact hs)]
    rw [show k + 1 + j = k + (j + 1) by omega]
theorem fills_upd : ∀ (r : List Oper) (k j : Nat) (y : Nat → Value) (a : Act) (o : Oper) (x : Value), onceB r = true → r[j]? = some o → (fills k r y a).put o.dst x = fills k r (updV y (k + j) x) a
  | [], _, _, _, _, _, _, _, h => by simp at h
  | o' :: r, k, 0, y, a, o, x, h1, h => by
    simp at h
    subst h
    unfold onceB at h1
    rw [Bool.and_eq_true] at h1
    have e1 : updV y (k + 0) x k = x := by simp [updV]
    have e2 : ∀ b, fills (k + 1) r (updV y (k + 0) x) b = fills (k + 1) r y b := fun b => fills_congr r (k + 1) _ _ b (fun j hj => by simp only [updV]; rw [if_neg (by omega)])
    unfold fills
    rw [e1, e2]
    cases hd : o'.dst with
    | none => rfl
    | some d =>
      rw [hd] at h1
      rw [fills_put r (k + 1) y _ d x (by simpa using h1.1), put_put]
  | o' :: r, k, j + 1, y, a, o, x, h1, h => by
    unfold onceB at h1
    rw [Bool.and_eq_true] at h1
    unfold fills
    rw [fills_upd r (k + 1) j y _ o x h1.2 (by simpa using h)]
    have e1 : updV y (k + (j + 1)) x k = y k := by simp only [updV]; rw [if_neg (by omega)]
    rw [e1, show k + 1 + j = k + (j + 1) by omega]
/-- What is asked of an operation: A is the state, told by its slots. -/
def HopJ (P : Program) (ops : Array Oper) (Q : Exit → Act → World → Prop) (w : World) (a : Act) (l : List Oper) (L : List It) (i : Nat) (o : Oper) : Prop :=
  ∀ (A : Act) (y : Nat → Value) (W : World), (∀ (j : Nat) (o' : Oper) (d : Nat), l[j]? = some o' → o'.dst = some d → A.tmps.getD d undef = y j) → (∀ d, wrB d l = false → A.tmps.getD d undef = a.tmps.getD d undef) → Below w.heap.size w W → (∀ e ∈ o.after, Region.binds .any e = true → ndB e = true → ∃ lo hi, w.heap.size ≤ lo ∧ hi ≤ W.heap.size ∧ (itL L e.on).p y lo hi W) →
    ∀ K : Act → World → Prop, Shut (∀ x W', Stp w L i y W W' → (itL L i).p (updV y i x) W.heap.size W'.heap.size W' → K (A.put o.dst x) W') → if Region.wanted o (yielded ops A.tmps) = true then Oper.wp P o A W K Q else K (A.put o.dst undef) W
def HopsJ (P : Program) (ops : Array Oper) (Q : Exit → Act → World → Prop) (w : World) (a : Act) (l : List Oper) (L : List It) : Nat → List Oper → Prop
  | _, [] => True
  | k, o :: r => HopJ P ops Q w a l L k o ∧ HopsJ P ops Q w a l L (k + 1) r
/-- The slots that are written are there. -/
def slotsB (n : Nat) (l : List Oper) : Bool := l.all fun o => match o.dst with
  | none => true
  | some d => Nat.blt d n
theorem hops_of {ops : Array Oper} {w : World} {a : Act} {l : List Oper} {L : List It} (hs : slotsB a.tmps.size l = true) (h1 : onceB l = true) : ∀ (r : List Oper) (k : Nat), (∀ j o, r[j]? = some o → l[k + j]? = some o) → HopsJ P ops Q w a l L k r → HopsI P ops Q w (fun y => fills 0 l y a) L k r
  | [], _, _, _ => trivial
  | o :: r, k, hl, H => by
    refine ⟨fun y W d hd K hK => ?_, hops_of hs h1 r (k + 1) (fun j o' ho => by have := hl (j + 1) o' (by simpa using ho); rwa [show k + 1 + j = k + (j + 1) by omega]) H.2⟩
    have hk : l[k]? = some o := hl 0 o rfl
    refine H.1 (fills 0 l y a) y W (fun j o' d' hj hd' => ?_) (fun d' hd' => fills_other l 0 y a d' hd') d hd K (fun x W' hst hp => ?_)
    · have hlt : d' < a.tmps.size := by
        unfold slotsB at hs
        rw [List.all_eq_true] at hs
        have := hs o' (List.mem_of_getElem? hj)
        rw [hd'] at this
        simpa using this
      have := fills_at l 0 j y a o' d' h1 hj hd' hlt
      rwa [Nat.zero_add] at this
    · refine hK x _ W' hst hp ?_
      have := fills_upd l 0 k y a o x h1 hk
      rwa [Nat.zero_add] at this
/-- **A region whose first operations come in whatever order, the state told by its slots.** -/
theorem wp_region_sl {id : Nat} {a : Act} {w : World} {l : List Oper} (L : List It) (hm : P.follows .mixedOrders = true) (hB : stB l.toArray L.length (L.map It.ret) (L.map It.reads) = true) (hO : onceB (l.take L.length) = true) (hS : slotsB a.tmps.size (l.take L.length) = true) (hmono : MonIL 0 L)
    (hop : HopsJ P l.toArray Q w a (l.take L.length) L 0 (l.take L.length))
    (hfin : ∀ y lo hi W, MadeI w L l.toArray L.length (fun _ => true) y lo hi W → wpList P l.toArray Q (l.drop L.length) (fills 0 (l.take L.length) y a) W) : (Code.region id l.toArray true).wp P Q a w :=
  wp_region_st L hm hB hmono (fun F hF => by
    subst hF
    exact ⟨hops_of hS hO _ 0 (fun j o ho => by rwa [Nat.zero_add]) hop, hfin⟩)
end
end Go.Proofs.YtchoopnjckcohaaGreat
namespace Go.Proofs.YtchoopnjckcohaaGreat
open Go.RowKit Go.Maps
attribute [local go_sem] Oper.semAt_some
/-! ### part: what lies among some states, renumbered -/
theorem own_below {W W' : World} {B n sz : Nat} {e : TypeId} {v : Value} {xs : List Value} (h : W.ownsRow B e sz v n xs) (d : Below W.heap.size W W') : W'.ownsRow B e sz v n xs := row_only h (Only.ofBelow (R := fun _ => False) d) (fun _ _ => id)
theorem owns_down {W : World} {B C : Nat} {e : TypeId} {sz : Nat} {v : Value} {n : Nat} {xs : List Value} (h : W.ownsRow B e sz v n xs) (hC : C ≤ B) : W.ownsRow C e sz v n xs :=
  ⟨h.1, h.2.imp id (fun ⟨g, cap, cur, h1, h2, h3, h4⟩ => ⟨g, cap, cur, h1, Nat.le_trans hC h2, h3, h4⟩)⟩
theorem own_slice {W : World} {B n sz : Nat} {e : TypeId} {v : Value} {xs : List Value} (h : W.ownsRow B e sz v n xs) : ∃ b c, v = .slice b n c := by
  rcases h.2 with ⟨hv, hn⟩ | ⟨g, cap, cur, hv, _⟩
  · exact ⟨none, 0, by rw [hv, hn]⟩
  · exact ⟨_, cap, hv⟩
theorem three_cells {W : World} {x : EdT} {t : TypeId} {p : Nat} (z : W.heap[p]? = some (.cells #[.int .i64 x.1, .int .i64 x.2.1, .int .i64 x.2.2] t (0, 0))) : ∀ (j : Nat) (u : Value), (encE x)[j]? = some u → W.cell? ((⟨p, 0, none⟩ : Addr).add j) = some u := fun j u hu => by
  rw [Addr.add_lit]
  match j, hu with
  | 0, hu => exact cell_of z (by simpa [encE] using hu)
  | 1, hu => exact cell_of z (by simpa [encE] using hu)
  | 2, hu => exact cell_of z (by simpa [encE] using hu)
  | (j + 3), hu => simp [encE] at hu
open Go.Shelf
/-! ### Symbols -/
def symOk (m : Int) : Bool := decide (0 ≤ m ∧ m ≤ 128)
def badS (m x : Int) : Bool := decide (x < 0 ∨ m ≤ x)
set_option maxRecDepth 100000 in
set_option maxHeartbeats 2000000 in
theorem mayBe_any (w : World) (m : Int) : Calls Tryz.prog 30 #[.int .i64 m] w fun e w' => e = .returned (.bool (symOk m)) ∧ w' = w := by
  by_cases h0 : 0 ≤ m
  · by_cases h1 : m ≤ 128
    · have e : symOk m = true := decide_eq_true ⟨h0, h1⟩
      rw [e]
      clear e
      go_enter Tryz.func30, Tryz.ntmps30
      go_wp2_with fail
      go_ret
      exact ⟨rfl, rfl⟩
    · have e : symOk m = false := decide_eq_false (fun h => h1 h.2)
      rw [e]
      clear e
      go_enter Tryz.func30, Tryz.ntmps30
      go_wp2_with fail
      go_ret
      exact ⟨rfl, rfl⟩
  · have e : symOk m = false := decide_eq_false (fun h => h0 h.1)
    rw [e]
    clear e
    have h0' : m < 0 := by omega
    go_enter Tryz.func30, Tryz.ntmps30
    go_wp2_with fail
    go_ret
    exact ⟨rfl, rfl⟩
set_option maxRecDepth 100000 in
set_option maxHeartbeats 2000000 in
theorem clos53 (w : World) (b : Nat) (m x : Int) (hb : w.cell? ⟨b, 0, none⟩ = some (.int .i64 m)) : Calls Tryz.prog 29 #[.int .i64 x, .pointer (some ⟨b, 0, none⟩)] w fun e w' => e = .returned (.bool (badS m x)) ∧ Below w.heap.size w w' := by
  by_cases h0 : x < 0
  · have e : badS m x = true := decide_eq_true (.inl h0)
    rw [e]
    clear e
    go_enter Tryz.func29, Tryz.ntmps29
    go_wp2_with fail
    go_ret
    exact ⟨rfl, Below.refl _ _⟩
  · by_cases h1 : m ≤ x
    · have e : badS m x = true := decide_eq_true (.inr h1)
      rw [e]
      clear e
      have h0' : 0 ≤ x := by omega
      go_enter Tryz.func29, Tryz.ntmps29
      go_wp2_with fail
      go_ret
      exact ⟨rfl, Below.refl _ _⟩
    · have e : badS m x = false := decide_eq_false (fun h => h.elim h0 h1)
      rw [e]
      clear e
      have h0' : 0 ≤ x := by omega
      have h1' : x < m := by omega
      go_enter Tryz.func29, Tryz.ntmps29
      go_wp2_with fail
      go_ret
      exact ⟨rfl, Below.refl _ _⟩
/-! ### Marks of states -/
set_option maxRecDepth 100000 in
set_option maxHeartbeats 2000000 in
theorem clos122 (w : World) (b gf N q : Nat) (f : Nat → Bool) (hb : w.cell? ⟨b, 0, none⟩ = some (.slice (some ⟨gf, 0, none⟩) N N)) (hM : Mrw w gf 4 N (fun c => .bool (f c)) N) (hq : q < N) : Calls Tryz.prog 74 #[.int .i64 (q : Int), .pointer (some ⟨b, 0, none⟩)] w fun e w' => e = .returned (.bool (f q)) ∧ Below w.heap.size w w' := by
  have q0 : (0 : Int) ≤ (q : Int) := by omega
  have q1 : (q : Int) < (N : Int) := by omega
  have c1 := hM.at q hq
  clear hM
  generalize f q = y at c1
  go_enter Tryz.func74, Tryz.ntmps74
  go_wp2_with fail
  go_ret
  exact ⟨rfl, Below.refl _ _⟩
set_option maxRecDepth 100000 in
set_option maxHeartbeats 2000000 in
theorem clos128 (w : World) (b gf N q : Nat) (f : Nat → Bool) (hb : w.cell? ⟨b, 0, none⟩ = some (.slice (some ⟨gf, 0, none⟩) N N)) (hM : Mrw w gf 4 N (fun c => .bool (f c)) N) (hq : q < N) : Calls Tryz.prog 76 #[.int .i64 (q : Int), .pointer (some ⟨b, 0, none⟩)] w fun e w' => e = .returned (.bool (f q)) ∧ Below w.heap.size w w' := by
  have q0 : (0 : Int) ≤ (q : Int) := by omega
  have q1 : (q : Int) < (N : Int) := by omega
  have c1 := hM.at q hq
  clear hM
  generalize f q = y at c1
  go_enter Tryz.func76, Tryz.ntmps76
  go_wp2_with fail
  go_ret
  exact ⟨rfl, Below.refl _ _⟩
set_option maxRecDepth 100000 in
set_option maxHeartbeats 2000000 in
theorem idx53 (w : World) (ao : Option Addr) (c : Nat) (L : List Int) (b : Nat) (m : Int) (hb : Hid (w.cell? ⟨b, 0, none⟩ = some (.int .i64 m))) (hr : Hid (RdN w ao L)) (hl : L.length ≤ 4194304) :
    Calls Tryz.prog 52 #[.slice ao L.length c, .func (.func 29) #[] #[.pointer (some ⟨b, 0, none⟩)]] w fun e w' => ∃ r : Int, e = .returned (.int .i64 r) ∧ decide (0 ≤ r) = L.any (badS m) ∧ Below w.heap.size w w' := by
  obtain ⟨n, en⟩ : ∃ n, L.length = n := ⟨_, rfl⟩
  rw [en]
  rw [en] at hl
  have HN := hide en
  clear en
  go_enter Tryz.func52, Tryz.ntmps52
  go_wp2_with fail
  go_loopw [8] (fun iv wr => ∃ i : Nat, i ≤ n ∧ iv = .int .i64 (i : Int) ∧ Hid ((∀ x ∈ L.take i, (badS m) x = false) ∧ Below w.heap.size w wr)) (fun iv _ => n - (intOf iv).toNat)
  case atStart => exact ⟨0, Nat.zero_le _, rfl, hide ⟨fun x hx => by simp at hx, Below.refl _ _⟩⟩
  case round =>
    obtain ⟨i, hi, rfl, HY⟩ := hrel
    by_cases hlt : i < n
    · have l0 : (i : Int) < (n : Int) := by omega
      have i0 : (0 : Int) ≤ (i : Int) := by omega
      have hil : i < L.length := by have := HN.out; omega
      obtain ⟨g, o, ea, ca⟩ := (hr.out.on HY.out.2) i hil
      subst ea
      have HX := hide (List.getElem_mem hil)
      have HT := hide (List.take_succ_eq_append_getElem hil)
      have HG := hide (show L[i] ∈ L from List.getElem_mem hil)
      obtain ⟨x, hx⟩ : ∃ x, L[i] = x := ⟨_, rfl⟩
      rw [hx] at ca HT HG
      clear hx HX
      have TC : Calls Tryz.prog 29 #[.int .i64 x, .pointer (some ⟨b, 0, none⟩)] wr fun e w' => e = .returned (.bool ((badS m) x)) ∧ Below wr.heap.size wr w' := clos53 wr b m x ((HY.out.2.cell (World.block_lt_of_cell? w _ hb.out)).trans hb.out)
      obtain ⟨y, hy⟩ : ∃ y, (badS m) x = y := ⟨_, rfl⟩
      rw [hy] at TC
      have HP := hide hy
      clear hy
      go_wp2_with fail
      refine TC.mono ?_
      rintro e w2 ⟨rfl, d2⟩
      have HD := hide (HY.out.2.trans (d2.mono HY.out.2.size))
      clear d2 TC
      cases y with
      | true =>
        go_wp2_with fail
        go_ret
        refine ⟨(i : Int), rfl, ?_, HD.out⟩
        rw [decide_eq_true i0, eq_comm, List.any_eq_true]
        exact ⟨x, HG.out, HP.out⟩
      | false =>
        go_wp2_with fail
        go_roundw
        case rel => exact ⟨i + 1, by omega, by go_num, hide ⟨fun z hz => by
          rw [HT.out] at hz
          rcases List.mem_append.1 hz with hz | hz
          · exact HY.out.1 z hz
          · rw [List.mem_singleton.1 hz]; exact HP.out, HD.out⟩⟩
        case measure => simp [intOf]; omega
    · have l0 : ¬ (i : Int) < (n : Int) := by omega
      have e : L.any (badS m) = false := by
        have hi2 : i = n := by omega
        have t := HY.out.1
        rw [hi2, List.take_of_length_le (by have := HN.out; omega)] at t
        rw [List.any_eq_false]
        intro x hx hc
        have t2 := t x hx
        rw [show (badS m) x = true from hc] at t2
        cases t2
      have HE := hide e
      clear e
      go_wp2_with fail
      go_ret
      exact ⟨-1, rfl, by rw [HE.out]; decide, HY.out.2⟩
set_option maxRecDepth 100000 in
set_option maxHeartbeats 2000000 in
theorem cont53 (w : World) (ao : Option Addr) (c : Nat) (L : List Int) (b : Nat) (m : Int) (hb : Hid (w.cell? ⟨b, 0, none⟩ = some (.int .i64 m))) (hr : Hid (RdN w ao L)) (hl : L.length ≤ 4194304) :
    Calls Tryz.prog 28 #[.slice ao L.length c, .func (.func 29) #[] #[.pointer (some ⟨b, 0, none⟩)]] w fun e w' => e = .returned (.bool (L.any (badS m))) ∧ Below w.heap.size w w' := by
  have T := idx53 w ao c L b m hb hr hl
  obtain ⟨y, hy⟩ : ∃ y, L.any (badS m) = y := ⟨_, rfl⟩
  rw [hy] at T ⊢
  generalize L.length = n at T
  clear hy
  go_enter Tryz.func28, Tryz.ntmps28
  go_wp2_with fail
  refine T.mono ?_
  rintro e w2 ⟨r, rfl, hr2, d2⟩
  have HR := hide (And.intro hr2 d2)
  clear hr2 d2 T
  go_wp2_with fail
  go_ret
  exact ⟨by rw [← HR.out.1]; rfl, HR.out.2⟩
set_option maxRecDepth 100000 in
set_option maxHeartbeats 2000000 in
theorem idx122 (w : World) (ao : Option Addr) (c : Nat) (L : List Int) (b gf N : Nat) (f : Nat → Bool) (hb : Hid (w.cell? ⟨b, 0, none⟩ = some (.slice (some ⟨gf, 0, none⟩) N N))) (hM : Hid (Mrw w gf 4 N (fun c => .bool (f c)) N)) (hin : Hid (∀ x ∈ L, ∃ q : Nat, q < N ∧ x = (q : Int))) (hr : Hid (RdN w ao L)) (hl : L.length ≤ 4194304) :
    Calls Tryz.prog 52 #[.slice ao L.length c, .func (.func 74) #[] #[.pointer (some ⟨b, 0, none⟩)]] w fun e w' => ∃ r : Int, e = .returned (.int .i64 r) ∧ decide (0 ≤ r) = L.any (fun x => f x.toNat) ∧ Below w.heap.size w w' := by
  obtain ⟨n, en⟩ : ∃ n, L.length = n := ⟨_, rfl⟩
  rw [en]
  rw [en] at hl
  have HN := hide en
  clear en
  go_enter Tryz.func52, Tryz.ntmps52
  go_wp2_with fail
  go_loopw [8] (fun iv wr => ∃ i : Nat, i ≤ n ∧ iv = .int .i64 (i : Int) ∧ Hid ((∀ x ∈ L.take i, (fun x => f x.toNat) x = false) ∧ Below w.heap.size w wr)) (fun iv _ => n - (intOf iv).toNat)
  case atStart => exact ⟨0, Nat.zero_le _, rfl, hide ⟨fun x hx => by simp at hx, Below.refl _ _⟩⟩
  case round =>
    obtain ⟨i, hi, rfl, HY⟩ := hrel
    by_cases hlt : i < n
    · have l0 : (i : Int) < (n : Int) := by omega
      have i0 : (0 : Int) ≤ (i : Int) := by omega
      have hil : i < L.length := by have := HN.out; omega
      obtain ⟨g, o, ea, ca⟩ := (hr.out.on HY.out.2) i hil
      subst ea
      have HX := hide (List.getElem_mem hil)
      have HT := hide (List.take_succ_eq_append_getElem hil)
      have HG := hide (show L[i] ∈ L from List.getElem_mem hil)
      obtain ⟨x, hx⟩ : ∃ x, L[i] = x := ⟨_, rfl⟩
      rw [hx] at ca HT HG
      clear hx HX
      have TC : Calls Tryz.prog 74 #[.int .i64 x, .pointer (some ⟨b, 0, none⟩)] wr fun e w' => e = .returned (.bool ((fun x => f x.toNat) x)) ∧ Below wr.heap.size wr w' := (by
        obtain ⟨q, hq, e⟩ := hin.out x HG.out
        have t := clos122 wr b gf N q f ((HY.out.2.cell (World.block_lt_of_cell? w _ hb.out)).trans hb.out) (hM.out.below HY.out.2 hM.out.lt) hq
        subst e
        exact t)
      obtain ⟨y, hy⟩ : ∃ y, (fun x => f x.toNat) x = y := ⟨_, rfl⟩
      rw [hy] at TC
      have HP := hide hy
      clear hy
      go_wp2_with fail
      refine TC.mono ?_
      rintro e w2 ⟨rfl, d2⟩
      have HD := hide (HY.out.2.trans (d2.mono HY.out.2.size))
      clear d2 TC
      cases y with
      | true =>
        go_wp2_with fail
        go_ret
        refine ⟨(i : Int), rfl, ?_, HD.out⟩
        rw [decide_eq_true i0, eq_comm, List.any_eq_true]
        exact ⟨x, HG.out, HP.out⟩
      | false =>
        go_wp2_with fail
        go_roundw
        case rel => exact ⟨i + 1, by omega, by go_num, hide ⟨fun z hz => by
          rw [HT.out] at hz
          rcases List.mem_append.1 hz with hz | hz
          · exact HY.out.1 z hz
          · rw [List.mem_singleton.1 hz]; exact HP.out, HD.out⟩⟩
        case measure => simp [intOf]; omega
    · have l0 : ¬ (i : Int) < (n : Int) := by omega
      have e : L.any (fun x => f x.toNat) = false := by
        have hi2 : i = n := by omega
        have t := HY.out.1
        rw [hi2, List.take_of_length_le (by have := HN.out; omega)] at t
        rw [List.any_eq_false]
        intro x hx hc
        have t2 := t x hx
        rw [show (fun x => f x.toNat) x = true from hc] at t2
        cases t2
      have HE := hide e
      clear e
      go_wp2_with fail
      go_ret
      exact ⟨-1, rfl, by rw [HE.out]; decide, HY.out.2⟩
set_option maxRecDepth 100000 in
set_option maxHeartbeats 2000000 in
theorem cont122 (w : World) (ao : Option Addr) (c : Nat) (L : List Int) (b gf N : Nat) (f : Nat → Bool) (hb : Hid (w.cell? ⟨b, 0, none⟩ = some (.slice (some ⟨gf, 0, none⟩) N N))) (hM : Hid (Mrw w gf 4 N (fun c => .bool (f c)) N)) (hin : Hid (∀ x ∈ L, ∃ q : Nat, q < N ∧ x = (q : Int))) (hr : Hid (RdN w ao L)) (hl : L.length ≤ 4194304) :
    Calls Tryz.prog 28 #[.slice ao L.length c, .func (.func 74) #[] #[.pointer (some ⟨b, 0, none⟩)]] w fun e w' => e = .returned (.bool (L.any (fun x => f x.toNat))) ∧ Below w.heap.size w w' := by
  have T := idx122 w ao c L b gf N f hb hM hin hr hl
  obtain ⟨y, hy⟩ : ∃ y, L.any (fun x => f x.toNat) = y := ⟨_, rfl⟩
  rw [hy] at T ⊢
  generalize L.length = n at T
  clear hy
  go_enter Tryz.func28, Tryz.ntmps28
  go_wp2_with fail
  refine T.mono ?_
  rintro e w2 ⟨r, rfl, hr2, d2⟩
  have HR := hide (And.intro hr2 d2)
  clear hr2 d2 T
  go_wp2_with fail
  go_ret
  exact ⟨by rw [← HR.out.1]; rfl, HR.out.2⟩
set_option maxRecDepth 100000 in
set_option maxHeartbeats 2000000 in
theorem idx128 (w : World) (ao : Option Addr) (c : Nat) (L : List Int) (b gf N : Nat) (f : Nat → Bool) (hb : Hid (w.cell? ⟨b, 0, none⟩ = some (.slice (some ⟨gf, 0, none⟩) N N))) (hM : Hid (Mrw w gf 4 N (fun c => .bool (f c)) N)) (hin : Hid (∀ x ∈ L, ∃ q : Nat, q < N ∧ x = (q : Int))) (hr : Hid (RdN w ao L)) (hl : L.length ≤ 4194304) :
    Calls Tryz.prog 52 #[.slice ao L.length c, .func (.func 76) #[] #[.pointer (some ⟨b, 0, none⟩)]] w fun e w' => ∃ r : Int, e = .returned (.int .i64 r) ∧ decide (0 ≤ r) = L.any (fun x => f x.toNat) ∧ Below w.heap.size w w' := by
  obtain ⟨n, en⟩ : ∃ n, L.length = n := ⟨_, rfl⟩
  rw [en]
  rw [en] at hl
  have HN := hide en
  clear en
  go_enter Tryz.func52, Tryz.ntmps52
  go_wp2_with fail
  go_loopw [8] (fun iv wr => ∃ i : Nat, i ≤ n ∧ iv = .int .i64 (i : Int) ∧ Hid ((∀ x ∈ L.take i, (fun x => f x.toNat) x = false) ∧ Below w.heap.size w wr)) (fun iv _ => n - (intOf iv).toNat)
  case atStart => exact ⟨0, Nat.zero_le _, rfl, hide ⟨fun x hx => by simp at hx, Below.refl _ _⟩⟩
  case round =>
    obtain ⟨i, hi, rfl, HY⟩ := hrel
    by_cases hlt : i < n
    · have l0 : (i : Int) < (n : Int) := by omega
      have i0 : (0 : Int) ≤ (i : Int) := by omega
      have hil : i < L.length := by have := HN.out; omega
      obtain ⟨g, o, ea, ca⟩ := (hr.out.on HY.out.2) i hil
      subst ea
      have HX := hide (List.getElem_mem hil)
      have HT := hide (List.take_succ_eq_append_getElem hil)
      have HG := hide (show L[i] ∈ L from List.getElem_mem hil)
      obtain ⟨x, hx⟩ : ∃ x, L[i] = x := ⟨_, rfl⟩
      rw [hx] at ca HT HG
      clear hx HX
      have TC : Calls Tryz.prog 76 #[.int .i64 x, .pointer (some ⟨b, 0, none⟩)] wr fun e w' => e = .returned (.bool ((fun x => f x.toNat) x)) ∧ Below wr.heap.size wr w' := (by
        obtain ⟨q, hq, e⟩ := hin.out x HG.out
        have t := clos128 wr b gf N q f ((HY.out.2.cell (World.block_lt_of_cell? w _ hb.out)).trans hb.out) (hM.out.below HY.out.2 hM.out.lt) hq
        subst e
        exact t)
      obtain ⟨y, hy⟩ : ∃ y, (fun x => f x.toNat) x = y := ⟨_, rfl⟩
      rw [hy] at TC
      have HP := hide hy
      clear hy
      go_wp2_with fail
      refine TC.mono ?_
      rintro e w2 ⟨rfl, d2⟩
      have HD := hide (HY.out.2.trans (d2.mono HY.out.2.size))
      clear d2 TC
      cases y with
      | true =>
        go_wp2_with fail
        go_ret
        refine ⟨(i : Int), rfl, ?_, HD.out⟩
        rw [decide_eq_true i0, eq_comm, List.any_eq_true]
        exact ⟨x, HG.out, HP.out⟩
      | false =>
        go_wp2_with fail
        go_roundw
        case rel => exact ⟨i + 1, by omega, by go_num, hide ⟨fun z hz => by
          rw [HT.out] at hz
          rcases List.mem_append.1 hz with hz | hz
          · exact HY.out.1 z hz
          · rw [List.mem_singleton.1 hz]; exact HP.out, HD.out⟩⟩
        case measure => simp [intOf]; omega
    · have l0 : ¬ (i : Int) < (n : Int) := by omega
      have e : L.any (fun x => f x.toNat) = false := by
        have hi2 : i = n := by omega
        have t := HY.out.1
        rw [hi2, List.take_of_length_le (by have := HN.out; omega)] at t
        rw [List.any_eq_false]
        intro x hx hc
        have t2 := t x hx
        rw [show (fun x => f x.toNat) x = true from hc] at t2
        cases t2
      have HE := hide e
      clear e
      go_wp2_with fail
      go_ret
      exact ⟨-1, rfl, by rw [HE.out]; decide, HY.out.2⟩
set_option maxRecDepth 100000 in
set_option maxHeartbeats 2000000 in
theorem cont128 (w : World) (ao : Option Addr) (c : Nat) (L : List Int) (b gf N : Nat) (f : Nat → Bool) (hb : Hid (w.cell? ⟨b, 0, none⟩ = some (.slice (some ⟨gf, 0, none⟩) N N))) (hM : Hid (Mrw w gf 4 N (fun c => .bool (f c)) N)) (hin : Hid (∀ x ∈ L, ∃ q : Nat, q < N ∧ x = (q : Int))) (hr : Hid (RdN w ao L)) (hl : L.length ≤ 4194304) :
    Calls Tryz.prog 28 #[.slice ao L.length c, .func (.func 76) #[] #[.pointer (some ⟨b, 0, none⟩)]] w fun e w' => e = .returned (.bool (L.any (fun x => f x.toNat))) ∧ Below w.heap.size w w' := by
  have T := idx128 w ao c L b gf N f hb hM hin hr hl
  obtain ⟨y, hy⟩ : ∃ y, L.any (fun x => f x.toNat) = y := ⟨_, rfl⟩
  rw [hy] at T ⊢
  generalize L.length = n at T
  clear hy
  go_enter Tryz.func28, Tryz.ntmps28
  go_wp2_with fail
  refine T.mono ?_
  rintro e w2 ⟨r, rfl, hr2, d2⟩
  have HR := hide (And.intro hr2 d2)
  clear hr2 d2 T
  go_wp2_with fail
  go_ret
  exact ⟨by rw [← HR.out.1]; rfl, HR.out.2⟩
/-! ### finals -/
def finB (Fi : List Int) (q : Nat) : Bool := decide ((q : Int) ∈ Fi)
theorem finB_next {Fi : List Int} {i f : Nat} (hi : i < Fi.length) (ef : Fi[i] = (f : Int)) (c : Nat) : finB (Fi.take (i + 1)) c = if c = f then true else finB (Fi.take i) c := by
  unfold finB
  rw [List.take_succ_eq_append_getElem hi, ef]
  by_cases e : c = f
  · subst e
    rw [if_pos rfl]
    exact decide_eq_true (by simp)
  · rw [if_neg e]
    refine decide_eq_decide.2 ?_
    rw [List.mem_append, List.mem_singleton]
    constructor
    · rintro (h | h)
      · exact h
      · exact absurd (Int.ofNat.inj h) e
    · exact .inl
set_option maxRecDepth 100000 in
set_option maxHeartbeats 2000000 in
theorem finals_any (w : World) (N : Nat) (mv : Int) (a1 a2 a3 : Option Addr) (c1 c2 c3 n1 n3 : Nat) (Fi : List Int) (hf : Hid (RdN w a2 Fi)) (hin : Hid (∀ x ∈ Fi, ∃ q : Nat, q < N ∧ x = (q : Int))) (hl : Fi.length ≤ 4194304) (hN : N ≤ 8192) :
    Calls Tryz.prog 38 #[.agg #[.int .i64 (N : Int), .int .i64 mv, .slice a1 n1 c1, .slice a2 Fi.length c2, .slice a3 n3 c3]] w fun e w' => ∃ gf, e = .returned (.slice (some ⟨gf, 0, none⟩) N N) ∧ Hid (Mrw w' gf 4 N (fun c => .bool (finB Fi c)) N ∧ w.heap.size ≤ gf) ∧ Below w.heap.size w w' := by
  obtain ⟨n2, e2⟩ : ∃ n, Fi.length = n := ⟨_, rfl⟩
  rw [e2]
  rw [e2] at hl
  have HE := hide e2
  clear e2
  obtain ⟨W0, hW0⟩ : ∃ W0, w.alloc (.cells #[.int .i64 (N : Int), .int .i64 mv, .slice a1 n1 c1, .slice a2 n2 c2, .slice a3 n3 c3] 25) = W0 := ⟨_, rfl⟩
  have HB : Hid (W0.heap[w.heap.size]? = some (.cells #[.int .i64 (N : Int), .int .i64 mv, .slice a1 n1 c1, .slice a2 n2 c2, .slice a3 n3 c3] 25 (0, 0)) ∧ Below w.heap.size w W0) := hide (by rw [← hW0]; exact ⟨World.alloc_heap_new _ _, (Below.refl _ _).alloc (Nat.le_refl _) _⟩)
  have q0 : W0.cell? ⟨w.heap.size, 0, none⟩ = some (.int .i64 (N : Int)) := cell_of HB.out.1 rfl
  obtain ⟨i4, hi4, hz40, hz41, hz42⟩ := info_parts info4
  go_enter Tryz.func38, Tryz.ntmps38
  go_upto_region 2 with (at_make; refine wpList_make_full _ rfl _ _ 76 rfl W0.heap.size 4 i4 (.bool false) 1 Tryz.underlying76 hi4 hz40 hz41 _ _ _ _ N rfl rfl (by go_num) (by go_num) (by rw [hz42]; omega) (by unfold maxLen; omega) (Nat.le_refl _) ?_; intro w6 ho hg)
  have D6 : Below W0.heap.size W0 w6 := (Below.refl _ _).grown hg (Nat.le_refl _) (by intro k hk; cases hk)
  have M6 : Mrw w6 W0.heap.size 4 N (fun c => .bool (finB (Fi.take 0) c)) N := by
    have t := ho
    rw [Nat.mul_one] at t
    exact (mask_made t).2.congr (fun c _ => by simp [finB])
  have H6 := hide (And.intro M6 D6)
  have B1 := blk_on HB.out.1 D6
  have q3 : w6.cell? ⟨w.heap.size, 3, none⟩ = some (.slice a2 n2 c2) := cell_of B1 rfl
  clear ho hg D6 M6 q0 hW0 B1
  go_wp2_with fail
  go_loopw [12] (fun iv wr => ∃ i : Nat, i ≤ n2 ∧ iv = .int .i64 (i : Int) ∧ Hid (Mrw wr W0.heap.size 4 N (fun c => .bool (finB (Fi.take i) c)) N ∧ Below W0.heap.size W0 wr)) (fun iv _ => n2 - (intOf iv).toNat)
  case atStart => exact ⟨0, Nat.zero_le _, rfl, H6⟩
  case round =>
    obtain ⟨i, hi, rfl, HY⟩ := hrel
    clear H6
    by_cases hlt : i < n2
    · have l0 : (i : Int) < (n2 : Int) := by omega
      have i0 : (0 : Int) ≤ (i : Int) := by omega
      have hil : i < Fi.length := by have := HE.out; omega
      obtain ⟨g, o, ea, ca⟩ := (hf.out.on (HB.out.2.trans (HY.out.2.mono HB.out.2.size))) i hil
      subst ea
      obtain ⟨f, hf2, ef⟩ := hin.out _ (List.getElem_mem hil)
      have HN := hide (finB_next hil ef)
      rw [ef] at ca
      have f0 : (0 : Int) ≤ (f : Int) := by omega
      have f1 : (f : Int) < (N : Int) := by omega
      have cu := HY.out.1.at f hf2
      have zu : wr.frozen? ⟨W0.heap.size, f, none⟩ = false := HY.out.1.fz f
      have J : Hid (Mrw (wr.setCell ⟨W0.heap.size, f, none⟩ (.bool true)) W0.heap.size 4 N (fun c => .bool (finB (Fi.take (i + 1)) c)) N ∧ Below W0.heap.size W0 (wr.setCell ⟨W0.heap.size, f, none⟩ (.bool true))) := hide ⟨(HY.out.1.upd f (.bool true)).congr (fun c _ => by rw [HN.out c]; by_cases e : c = f <;> simp [e]), HY.out.2.setCell (Nat.le_refl _) _⟩
      clear HY ef
      go_wp2_with fail
      go_roundw
      case rel => exact ⟨i + 1, by omega, by go_num, J⟩
      case measure => simp [intOf]; omega
    · have l0 : ¬ (i : Int) < (n2 : Int) := by omega
      have J : Hid (Mrw wr W0.heap.size 4 N (fun c => .bool (finB Fi c)) N ∧ Below w.heap.size w wr) := hide (by
        have t := HY.out.1
        rw [List.take_of_length_le (by have := HE.out; omega)] at t
        exact ⟨t, HB.out.2.trans (HY.out.2.mono HB.out.2.size)⟩)
      have hs := HB.out.2.size
      clear HY
      go_wp2_with fail
      go_ret
      exact ⟨_, rfl, hide ⟨J.out.1, hs⟩, J.out.2⟩
/-- Is a state of the first list one of the second? -/
def emptB (St Fi : List Int) : Bool := St.any fun x => finB Fi x.toNat
set_option maxRecDepth 100000 in
set_option maxHeartbeats 2000000 in
theorem takesEmpty_any (w : World) (N : Nat) (mv : Int) (a1 a2 a3 : Option Addr) (c1 c2 c3 n3 : Nat) (St Fi : List Int) (hs : Hid (RdN w a1 St)) (hf : Hid (RdN w a2 Fi)) (hins : Hid (∀ x ∈ St, ∃ q : Nat, q < N ∧ x = (q : Int))) (hinf : Hid (∀ x ∈ Fi, ∃ q : Nat, q < N ∧ x = (q : Int))) (h1 : St.length ≤ 4194304) (hl : Fi.length ≤ 4194304) (hN : N ≤ 8192) :
    Calls Tryz.prog 55 #[.agg #[.int .i64 (N : Int), .int .i64 mv, .slice a1 St.length c1, .slice a2 Fi.length c2, .slice a3 n3 c3]] w fun e w' => e = .returned (.bool (emptB St Fi)) ∧ Below w.heap.size w w' := by
  obtain ⟨W0, hW0⟩ : ∃ W0, w.alloc (.cells #[.int .i64 (N : Int), .int .i64 mv, .slice a1 St.length c1, .slice a2 Fi.length c2, .slice a3 n3 c3] 25) = W0 := ⟨_, rfl⟩
  have HB : Hid (W0.heap[w.heap.size]? = some (.cells #[.int .i64 (N : Int), .int .i64 mv, .slice a1 St.length c1, .slice a2 Fi.length c2, .slice a3 n3 c3] 25 (0, 0)) ∧ Below w.heap.size w W0) := hide (by rw [← hW0]; exact ⟨World.alloc_heap_new _ _, (Below.refl _ _).alloc (Nat.le_refl _) _⟩)
  obtain ⟨y, hy⟩ : ∃ y, emptB St Fi = y := ⟨_, rfl⟩
  rw [hy]
  have HYY := hide hy
  clear hy
  have T93 := finals_any W0 N mv a1 a2 a3 c1 c2 c3 St.length n3 Fi (hide (hf.out.on HB.out.2)) hinf hl hN
  have q0 : W0.cell? ⟨w.heap.size, 0, none⟩ = some (.int .i64 (N : Int)) := cell_of HB.out.1 rfl
  have q1 : W0.cell? ⟨w.heap.size, 1, none⟩ = some (.int .i64 mv) := cell_of HB.out.1 rfl
  have q2 : W0.cell? ⟨w.heap.size, 2, none⟩ = some (.slice a1 St.length c1) := cell_of HB.out.1 rfl
  have q3 : W0.cell? ⟨w.heap.size, 3, none⟩ = some (.slice a2 Fi.length c2) := cell_of HB.out.1 rfl
  have q4 : W0.cell? ⟨w.heap.size, 4, none⟩ = some (.slice a3 n3 c3) := cell_of HB.out.1 rfl
  go_enter Tryz.func55, Tryz.ntmps55
  go_upto_region 2 with (go_at_call 38; refine T93.mono ?_; rintro e w1 ⟨gf, rfl, HM, d1⟩)
  obtain ⟨b, hb⟩ : ∃ k, w1.heap.size = k := ⟨_, rfl⟩
  rw [hb]
  obtain ⟨w2, hw2⟩ : ∃ W, w1.alloc (.cells #[.slice (some ⟨gf, 0, none⟩) N N] 76) = W := ⟨_, rfl⟩
  rw [hw2]
  have H2 : Hid (w2.cell? ⟨b, 0, none⟩ = some (.slice (some ⟨gf, 0, none⟩) N N) ∧ Mrw w2 gf 4 N (fun c => .bool (finB Fi c)) N ∧ w2.heap[w.heap.size]? = some (.cells #[.int .i64 (N : Int), .int .i64 mv, .slice a1 St.length c1, .slice a2 Fi.length c2, .slice a3 n3 c3] 25 (0, 0)) ∧ Below w.heap.size w w2) := hide (by
    have d : Below w1.heap.size w1 w2 := by rw [← hw2]; exact (Below.refl _ _).alloc (Nat.le_refl _) _
    have dd := d1.trans (d.mono d1.size)
    exact ⟨by rw [← hw2, ← hb]; exact cell_of (World.alloc_heap_new _ _) rfl, HM.out.1.below d HM.out.1.lt, blk_on HB.out.1 dd, HB.out.2.trans (dd.mono HB.out.2.size)⟩)
  clear T93 d1 HM hw2 hb q0 q1 q2 q3 q4 hW0
  have T52 := cont128 w2 a1 c1 St b gf N (finB Fi) (hide H2.out.1) (hide H2.out.2.1) hins (hide (hs.out.on H2.out.2.2.2)) h1
  have q2 : w2.cell? ⟨w.heap.size, 2, none⟩ = some (.slice a1 St.length c1) := cell_of H2.out.2.2.1 rfl
  rw [show (St.any fun x => finB Fi x.toNat) = emptB St Fi from rfl, HYY.out] at T52
  go_wp2_with fail
  refine T52.mono ?_
  rintro e w3 ⟨rfl, d3⟩
  have HZ := hide (H2.out.2.2.2.trans (d3.mono H2.out.2.2.2.size))
  clear d3 T52 q2
  go_wp2_with fail
  go_ret
  exact ⟨rfl, HZ.out⟩
/-! ### Two automata that are alike -/
theorem box4 (w : World) (o1 o2 o3 o4 : Obj) : Below w.heap.size w ((((w.alloc o1).alloc o2).alloc o3).alloc o4) ∧ ((((w.alloc o1).alloc o2).alloc o3).alloc o4).heap[w.heap.size]? = some o1 ∧ ((((w.alloc o1).alloc o2).alloc o3).alloc o4).heap[w.heap.size + 1]? = some o2 ∧ ((((w.alloc o1).alloc o2).alloc o3).alloc o4).heap[w.heap.size + 1 + 1]? = some o3 ∧ ((((w.alloc o1).alloc o2).alloc o3).alloc o4).heap[w.heap.size + 1 + 1 + 1]? = some o4 := by
  refine ⟨((((Below.refl _ _).alloc (Nat.le_refl _) _).alloc (by simp) _).alloc (by simp <;> omega) _).alloc (by simp <;> omega) _, ?_, ?_, ?_, ?_⟩
  · exact (Below.heap_alloc _ _ _ (by simp <;> omega)).trans ((Below.heap_alloc _ _ _ (by simp <;> omega)).trans ((Below.heap_alloc _ _ _ (by simp)).trans (World.alloc_heap_new _ _)))
  · have := World.alloc_heap_new (w.alloc o1) o2
    rw [World.size_alloc] at this
    exact (Below.heap_alloc _ _ _ (by simp <;> omega)).trans ((Below.heap_alloc _ _ _ (by simp)).trans this)
  · have := World.alloc_heap_new ((w.alloc o1).alloc o2) o3
    rw [World.size_alloc, World.size_alloc] at this
    exact (Below.heap_alloc _ _ _ (by simp)).trans this
  · have := World.alloc_heap_new (((w.alloc o1).alloc o2).alloc o3) o4
    rw [World.size_alloc, World.size_alloc, World.size_alloc] at this
    exact this
end Go.Proofs.YtchoopnjckcohaaGreat
namespace Go.Proofs.YtchoopnjckcohaaGreat
open Go.RowKit Go.Maps
/-! ### Edges in order, each once -/
def SsE (l : List EdT) : Prop := l.Pairwise fun a b => ltE a b = true
theorem ltE_ir (x : EdT) : ltE x x = false := swoE.irrefl x
theorem ltE_as {x y : EdT} (h : ltE x y = true) (k : ltE y x = true) : False := by rw [ltE_iff] at h k; omega
theorem ss_eq : ∀ (A B : List EdT), SsE A → SsE B → (∀ x, x ∈ A ↔ x ∈ B) → A = B
  | [], [], _, _, _ => rfl
  | [], b :: B, _, _, h => absurd ((h b).2 (by simp)) (by simp)
  | a :: A, [], _, _, h => absurd ((h a).1 (by simp)) (by simp)
  | a :: A, b :: B, hA, hB, h => by
    unfold SsE at hA hB
    rw [List.pairwise_cons] at hA hB
    have e : a = b := by
      rcases List.mem_cons.1 ((h a).1 (by simp)) with q | q
      · exact q
      · rcases List.mem_cons.1 ((h b).2 (by simp)) with r | r
        · exact r.symm
        · exact (ltE_as (hB.1 a q) (hA.1 b r)).elim
    subst e
    congr 1
    refine ss_eq A B hA.2 hB.2 fun x => ⟨fun q => ?_, fun q => ?_⟩
    · rcases List.mem_cons.1 ((h x).1 (by simp [q])) with r | r
      · subst r; have := hA.1 x q; rw [ltE_ir] at this; cases this
      · exact r
    · rcases List.mem_cons.1 ((h x).2 (by simp [q])) with r | r
      · subst r; have := hB.1 x q; rw [ltE_ir] at this; cases this
      · exact r
theorem cp_mem {α : Type} [Inhabited α] [DecidableEq α] {zs : List α} {x : α} (h : x ∈ Lib.compact zs) : x ∈ zs := by
  unfold Lib.compact Lib.compactUpTo at h
  obtain ⟨j, hj, rfl⟩ := List.mem_map.1 h
  have hj' := List.mem_range.1 (List.mem_filter.1 hj).1
  rw [getElem!_pos _ j (by simpa using hj')]
  simp
theorem cp_has {α : Type} [Inhabited α] [DecidableEq α] {zs : List α} : ∀ (j : Nat) (h : j < zs.length), zs[j] ∈ Lib.compact zs
  | 0, h => by
    unfold Lib.compact Lib.compactUpTo
    refine List.mem_map.2 ⟨0, List.mem_filter.2 ⟨List.mem_range.2 h, by simp [Lib.keeps]⟩, ?_⟩
    simp [h]
  | j + 1, h => by
    by_cases e : zs[j + 1] = zs[j]
    · rw [e]; exact cp_has j (by omega)
    · unfold Lib.compact Lib.compactUpTo
      refine List.mem_map.2 ⟨j + 1, List.mem_filter.2 ⟨List.mem_range.2 h, ?_⟩, ?_⟩
      · unfold Lib.keeps
        rw [decide_eq_true_eq]
        right
        rw [getElem!_pos _ (j + 1) (by simpa using h), getElem!_pos _ (j + 1 - 1) (by simp; omega)]
        simpa using e
      · simp [h]
theorem cpE_ss {zs : List EdT} (hs : zs.Pairwise fun a b => ltE b a = false) : SsE (Lib.compact zs) := by
  have key : ∀ m, m ≤ zs.length → (Lib.compactUpTo zs.toArray m).Pairwise (fun a b => ltE a b = true) ∧ (∀ x ∈ Lib.compactUpTo zs.toArray m, ∃ j, j < m ∧ ∃ h : j < zs.length, x = zs[j]) := by
    intro m
    induction m with
    | zero => intro _; exact ⟨by simp [Lib.compactUpTo], fun x hx => by simp [Lib.compactUpTo] at hx⟩
    | succ m ih =>
      intro hm
      obtain ⟨k1, k2⟩ := ih (by omega)
      rw [Lib.compactUpTo_succ]
      by_cases hk : Lib.keeps zs.toArray m = true
      · rw [if_pos hk]
        have hm' : m < zs.length := by omega
        have em : zs.toArray[m]! = zs[m] := by simp [hm']
        refine ⟨?_, fun x hx => ?_⟩
        · rw [List.pairwise_append]
          refine ⟨k1, by simp, fun x hx y hy => ?_⟩
          rw [List.mem_singleton.1 hy, em]
          obtain ⟨j, hj, hjl, rfl⟩ := k2 x hx
          unfold Lib.keeps at hk
          rw [decide_eq_true_eq] at hk
          have hm0 : m ≠ 0 := by omega
          have hk2 := hk.resolve_left hm0
          have e1 : zs.toArray[m - 1]! = zs[m - 1] := by simp [show m - 1 < zs.length by omega]
          rw [em, e1] at hk2
          have l1 : ltE zs[m] zs[m - 1] = false := (List.pairwise_iff_getElem.1 hs) (m - 1) m (by omega) hm' (by omega)
          have l3 : ltE zs[m - 1] zs[m] = true := by
            cases q : ltE zs[m - 1] zs[m]
            · exact absurd (totE _ _ l1 q) hk2
            · rfl
          rcases Nat.lt_or_ge j (m - 1) with q | q
          · have l2 : ltE zs[m - 1] zs[j] = false := (List.pairwise_iff_getElem.1 hs) j (m - 1) hjl (by omega) q
            rw [ltE_iff] at l3 ⊢
            rw [ltE_not] at l2
            omega
          · have : j = m - 1 := by omega
            subst this; exact l3
        · rcases List.mem_append.1 hx with hx | hx
          · obtain ⟨j, hj, q⟩ := k2 x hx
            exact ⟨j, by omega, q⟩
          · rw [List.mem_singleton.1 hx]; exact ⟨m, by omega, hm', em⟩
      · rw [if_neg hk, List.append_nil]
        exact ⟨k1, fun x hx => by obtain ⟨j, hj, q⟩ := k2 x hx; exact ⟨j, by omega, q⟩⟩
  exact (key zs.length (Nat.le_refl _)).1
theorem sortE_up (L : List EdT) : (sortE L).Pairwise fun a b => ltE b a = false := by
  have hp : (sortE L).Pairwise fun a b => (!ltE b a) = true := List.pairwise_mergeSort (le := fun x y => !ltE y x) (fun a b c h1 h2 => by
    simp only [Bool.not_eq_true', ltE_not] at *
    omega) (fun a b => by
    cases h1 : ltE b a
    · simp
    · cases h2 : ltE a b
      · simp
      · exact (ltE_as h1 h2).elim) L
  exact hp.imp fun q => by simpa using q
theorem riseE_ss (L : List EdT) : SsE (riseE L) := cpE_ss (sortE_up L)
theorem riseE_iff (L : List EdT) (x : EdT) : x ∈ riseE L ↔ x ∈ L := by
  constructor
  · intro h
    have := cp_mem h
    unfold sortE at this
    exact List.mem_mergeSort.1 this
  · intro h
    have h' : x ∈ sortE L := by unfold sortE; exact List.mem_mergeSort.2 h
    obtain ⟨j, hj, rfl⟩ := List.getElem_of_mem h'
    exact cp_has j hj
theorem riseE_len (L : List EdT) : (riseE L).length ≤ L.length := Nat.le_trans (compact_len _) (Nat.le_of_eq (sortE_len L))
theorem riseL_iff (L : List Int) (x : Int) : x ∈ riseL L ↔ x ∈ L := by
  constructor
  · intro h
    have := cp_mem h
    unfold sortI at this
    exact List.mem_mergeSort.1 this
  · intro h
    have h' : x ∈ sortI L := by unfold sortI; exact List.mem_mergeSort.2 h
    obtain ⟨j, hj, rfl⟩ := List.getElem_of_mem h'
    exact cp_has j hj
theorem riseL_len (L : List Int) : (riseL L).length ≤ L.length := Nat.le_trans (compact_len _) (Nat.le_of_eq (sortI_len L))
/-! ### The edges from a state by a symbol -/
theorem pre_count {α : Type} (P : α → Bool) : ∀ (L : List α), (L.Pairwise fun a b => P b = true → P a = true) → ∀ (i : Nat) (h : i < L.length), (P L[i] = true ↔ i < (L.filter P).length)
  | [], _, i, h => absurd h (Nat.not_lt_zero i)
  | a :: L, hp, i, h => by
    rw [List.pairwise_cons] at hp
    cases ha : P a
    · have hn : ∀ b ∈ L, P b = false := fun b hb => by
        cases hb2 : P b
        · rfl
        · rw [hp.1 b hb hb2] at ha; cases ha
      have hf : (a :: L).filter P = [] := by
        rw [List.filter_eq_nil_iff]
        intro b hb
        rcases List.mem_cons.1 hb with rfl | hb
        · simp [ha]
        · simp [hn b hb]
      rw [hf]
      cases i with
      | zero => simp [ha]
      | succ i =>
        have h2 : i < L.length := by simpa using h
        simp [hn L[i] (List.getElem_mem h2)]
    · rw [List.filter_cons_of_pos ha, List.length_cons]
      cases i with
      | zero => simp [ha]
      | succ i =>
        have h2 : i < L.length := by simpa using h
        have := pre_count P L hp.2 i h2
        rw [List.getElem_cons_succ, this]
        omega
def fromL (Es : List EdT) (p : Nat) (y : Int) : List EdT := Es.filter fun e => decide (e.1 = (p : Int) ∧ e.2.1 = y)
theorem fromL_iff {Es : List EdT} {p : Nat} {y : Int} {x : EdT} : x ∈ fromL Es p y ↔ x ∈ Es ∧ x.1 = (p : Int) ∧ x.2.1 = y := by
  unfold fromL
  rw [List.mem_filter, decide_eq_true_eq]
theorem fromL_ss {Es : List EdT} (hS : SsE Es) (p : Nat) (y : Int) : SsE (fromL Es p y) := List.Pairwise.filter _ hS
/-- A part of a list. -/
def subL (Es : List EdT) (lo hi : Nat) : List EdT := (Es.drop lo).take (hi - lo)
theorem subL_len {Es : List EdT} {lo hi : Nat} (h : hi ≤ Es.length) : (subL Es lo hi).length = hi - lo := by
  unfold subL; rw [List.length_take, List.length_drop]; omega
theorem subL_get {Es : List EdT} {lo hi : Nat} (t : Nat) (h : t < (subL Es lo hi).length) : ∃ h2 : lo + t < Es.length, (subL Es lo hi)[t] = Es[lo + t] := by
  unfold subL at h ⊢
  rw [List.length_take, List.length_drop] at h
  refine ⟨by omega, ?_⟩
  rw [List.getElem_take, List.getElem_drop]
theorem subL_ss {Es : List EdT} (hS : SsE Es) (lo hi : Nat) : SsE (subL Es lo hi) := List.Pairwise.sublist ((List.take_sublist _ _).trans (List.drop_sublist _ _)) hS
end Go.Proofs.YtchoopnjckcohaaGreat
namespace Go.Proofs.YtchoopnjckcohaaGreat
open Go.RowKit Go.Maps
attribute [local go_sem] Oper.semAt_some
theorem box3 (w : World) (A Z : Array Value) (t u : TypeId) : Below w.heap.size w ((w.alloc (.cells A t)).alloc (.cells Z u)) ∧ ((w.alloc (.cells A t)).alloc (.cells Z u)).heap[w.heap.size]? = some (.cells A t (0, 0)) ∧ ((w.alloc (.cells A t)).alloc (.cells Z u)).heap[w.heap.size + 1]? = some (.cells Z u (0, 0)) ∧ ((w.alloc (.cells A t)).alloc (.cells Z u)).heap.size = w.heap.size + 2 := by
  refine ⟨((Below.refl _ _).alloc (Nat.le_refl _) _).alloc (by simp) _, (Below.heap_alloc _ _ _ (by simp)).trans (World.alloc_heap_new _ _), ?_, by simp⟩
  have := World.alloc_heap_new (w.alloc (.cells A t)) (.cells Z u)
  simpa using this
theorem set6 (w : World) (b : Nat) (v0 v1 v2 v3 v4 v5 u0 u1 u2 u3 u4 u5 : Value) (t : TypeId) (h : w.heap[b]? = some (.cells #[v0, v1, v2, v3, v4, v5] t (0, 0))) :
    ((((((w.setCell ⟨b, 0, none⟩ u0).setCell ⟨b, 1, none⟩ u1).setCell ⟨b, 2, none⟩ u2).setCell ⟨b, 3, none⟩ u3).setCell ⟨b, 4, none⟩ u4).setCell ⟨b, 5, none⟩ u5).heap[b]? = some (.cells #[u0, u1, u2, u3, u4, u5] t (0, 0)) :=
  heap_setCell_same _ _ 5 _ t _ (heap_setCell_same _ _ 4 _ t _ (heap_setCell_same _ _ 3 _ t _ (heap_setCell_same _ _ 2 _ t _ (heap_setCell_same _ _ 1 _ t _ (heap_setCell_same _ _ 0 _ t _ h)))))
theorem only6 (w : World) (b : Nat) (u0 u1 u2 u3 u4 u5 : Value) : Only w ((((((w.setCell ⟨b, 0, none⟩ u0).setCell ⟨b, 1, none⟩ u1).setCell ⟨b, 2, none⟩ u2).setCell ⟨b, 3, none⟩ u3).setCell ⟨b, 4, none⟩ u4).setCell ⟨b, 5, none⟩ u5) (fun k => k = b) :=
  (only5 w b u0 u1 u2 u3 u4).trans (only_set _ _ 5 _)
/-- How many edges start at the state before a number. -/
def cntAt (L : List EdT) (c : Nat) : Nat := (L.filter fun e => decide (e.1 + 1 = (c : Int))).length
/-- How many edges start below a number. -/
def lessC (L : List EdT) (c : Nat) : Nat := (L.filter fun e => decide (e.1 < (c : Int))).length
theorem cntAt_le (L : List EdT) (c : Nat) : cntAt L c ≤ L.length := List.length_filter_le _ _
theorem lessC_le (L : List EdT) (c : Nat) : lessC L c ≤ L.length := List.length_filter_le _ _
theorem cntAt_snoc (L : List EdT) (x : EdT) (c : Nat) : cntAt (L ++ [x]) c = cntAt L c + if x.1 + 1 = (c : Int) then 1 else 0 := by
  unfold cntAt
  rw [List.filter_append, List.length_append]
  by_cases h : x.1 + 1 = (c : Int) <;> simp [h]
theorem lessC_succ (L : List EdT) (c : Nat) : lessC L (c + 1) = cntAt L (c + 1) + lessC L c := by
  unfold lessC cntAt
  induction L with
  | nil => rfl
  | cons x L ih =>
    simp only [List.filter_cons]
    rcases Int.lt_trichotomy x.1 (c : Int) with h | h | h
    · rw [if_pos (by simp; omega), if_neg (by simp; omega), if_pos (by simpa using h), List.length_cons, List.length_cons, ih]; omega
    · rw [if_pos (by simp; omega), if_pos (by simp; omega), if_neg (by simp; omega), List.length_cons, List.length_cons, ih]; omega
    · rw [if_neg (by simp; omega), if_neg (by simp; omega), if_neg (by simp; omega), ih]
theorem lessC_zero (L : List EdT) (h : ∀ e ∈ L, 0 ≤ e.1) : lessC L 0 = 0 ∧ cntAt L 0 = 0 := by
  unfold lessC cntAt
  constructor <;> rw [List.length_eq_zero_iff, List.filter_eq_nil_iff] <;> intro e he <;> have := h e he <;> simp <;> omega
/-- The row of beginnings while the second loop runs. -/
def firstV (L : List EdT) (p c : Nat) : Value := .int .i64 ((if c ≤ p then lessC L c else cntAt L c : Nat) : Int)
open Go.Shelf
/-! ### Rows by state and symbol -/
/-- An edge by its row. -/
def kE (m : Nat) (L : List EdT) : List EdT := L.map fun e => (e.1 * (m : Int) + e.2.1, 0, e.2.2)
def toL (L : List EdT) : List Int := L.map fun e => e.2.2
theorem kE_len (m : Nat) (L : List EdT) : (kE m L).length = L.length := by simp [kE]
theorem set3 (w : World) (b : Nat) (v0 v1 v2 u0 u1 u2 : Value) (t : TypeId) (h : w.heap[b]? = some (.cells #[v0, v1, v2] t (0, 0))) : (((w.setCell ⟨b, 0, none⟩ u0).setCell ⟨b, 1, none⟩ u1).setCell ⟨b, 2, none⟩ u2).heap[b]? = some (.cells #[u0, u1, u2] t (0, 0)) :=
  heap_setCell_same _ _ 2 _ t _ (heap_setCell_same _ _ 1 _ t _ (heap_setCell_same _ _ 0 _ t _ h))
theorem nr_step {W1 w5 : World} {B i cE d5 : Nat} {aE z5 : Option Addr} {Ed : List EdT} {p s x3 : Int} (hT : Ed.take (i + 1) = Ed.take i ++ [(p, s, x3)]) (ho : w5.ownsRow B 3 1 (.slice z5 (i + 1) d5) (i + 1) ((toL (Ed.take i)).map (Value.int .i64) ++ [.int .i64 x3])) (hg : (W1.alloc (.cells #[.int .i64 x3] 3)).grownBy w5 (Value.slice aE i cE).ownBlock) : w5.ownsRow B 3 1 (.slice z5 (i + 1) d5) (i + 1) ((toL (Ed.take (i + 1))).map (Value.int .i64)) ∧ Only W1 w5 (fun k => (Value.slice aE i cE).ownBlock = some k) := by
  refine ⟨?_, ?_⟩
  · rw [hT]
    unfold toL at ho ⊢
    rw [List.map_append, List.map_append]
    exact ho
  · exact ⟨hg.os, hg.tape, hg.output, by have := hg.size; rw [World.size_alloc] at this; omega, fun x hx hn => (hg.block x (by rw [World.size_alloc]; omega) (fun e => hn e.symm)).trans (Below.heap_alloc _ _ _ hx)⟩
theorem nr_box {W1 w5 : World} {B b n : Nat} {v : Value} {xs : List Value} {o : Obj} (hR : W1.ownsRow B 3 1 v n xs) (o1 : Only W1 w5 (fun k => v.ownBlock = some k)) (hb : W1.heap[b]? = some o) (hlt : b < B) : w5.heap[b]? = some o :=
  (o1.block _ (Array.getElem?_eq_some_iff.1 hb).1 (fun h => by have := (hR.lt _ h).1; omega)).trans hb
theorem row_tag {W : World} {B k n sz : Nat} {e t : TypeId} {v : Value} {xs : List Value} {cs : Array Value} {fr : Nat × Nat} (h : W.ownsRow B e sz v n xs) (hb : W.heap[k]? = some (.cells cs t fr)) (hne : t ≠ e) (hk : v.ownBlock = some k) : False := by
  rcases h.2 with ⟨hv, _⟩ | ⟨g', cap', cur', hv, _, hgc, _⟩
  · subst hv
    cases hk
  · subst hv
    have e2 : g' = k := by simpa [Value.ownBlock] using hk
    subst e2
    rw [hgc] at hb
    cases hb
    exact hne rfl
/-- What newRows answers: the ends in their order, and where each row begins. -/
structure RwA (B : Nat) (w : World) (m R : Nat) (Ed : List EdT) (aE : Option Addr) (n cE g : Nat) : Prop where
  ow : w.ownsRow B 3 1 (.slice aE n cE) n ((toL Ed).map (Value.int .i64))
  fi : Mrw w g 3 (R + 1) (fun c => .int .i64 ((lessC (kE m Ed) c : Nat) : Int)) (R + 1)
  ge : B ≤ g
set_option maxRecDepth 100000 in
set_option maxHeartbeats 4000000 in
theorem newRows_any (w : World) (N m : Nat) (a1 a2 a3 : Option Addr) (l1 l2 c1 c2 c3 : Nat) (Ed : List EdT) (hN : N ≤ 4096) (hm : m ≤ 128) (hE : Hid (RdE w a3 Ed)) (hl : Ed.length ≤ 4194304) (hF : Hid (∀ e ∈ Ed, (0 ≤ e.1 ∧ e.1 < (N : Int)) ∧ 0 ≤ e.2.1 ∧ e.2.1 < (m : Int))) :
    Calls Tryz.prog 34 #[.agg #[.int .i64 (N : Int), .int .i64 (m : Int), .slice a1 l1 c1, .slice a2 l2 c2, .slice a3 Ed.length c3]] w fun e w' => ∃ aE cE g, e = .returned (.agg #[.int .i64 (m : Int), .slice aE Ed.length cE, .slice (some ⟨g, 0, none⟩) (N * m + 1) (N * m + 1)]) ∧ Hid (RwA w.heap.size w' m (N * m) Ed aE Ed.length cE g) ∧ Below w.heap.size w w' := by
  obtain ⟨n3, en⟩ : ∃ n, Ed.length = n := ⟨_, rfl⟩
  obtain ⟨R, hR⟩ : ∃ R, N * m = R := ⟨_, rfl⟩
  rw [en, hR]
  rw [en] at hl
  have hRl : R ≤ 524288 := by rw [← hR]; exact Nat.le_trans (Nat.mul_le_mul hN hm) (by decide)
  have HN3 := hide en
  have HRR := hide hR
  obtain ⟨i9, hi9, hz90, hz91, hz92⟩ := info_parts info3
  obtain ⟨M, hM⟩ : ∃ M, M = madeCells (Value.int .i64 0).cells ((((R : Nat) : Int) + 1).toNat * i9.size) := ⟨_, rfl⟩
  have hmk : ∀ W : World, (Instr.makeSlice 22 (.int .i64 ((R : Int) + 1)) (.int .i64 ((R : Int) + 1))).run Tryz.prog W = .ok (.slice (some ⟨W.heap.size, 0, none⟩) (R + 1) (R + 1)) (W.alloc (.cells M 3)) := fun W => by
    have h := run_make (P := Tryz.prog) W 22 3 i9 (.int .i64 0) Tryz.underlying22 hi9 hz90 .i64 .i64 ((R : Int) + 1) ((R : Int) + 1) (by omega) (by omega) (by rw [hz92]; omega) (by omega)
    rw [← hM] at h
    rw [h]
    have : ((R : Int) + 1).toNat = R + 1 := by omega
    rw [this]
  have hwr : IntKind.i64.wrap ((R : Int) + 1) = (R : Int) + 1 := by rw [IntKind.wrap_i64]; omega
  have hmk : ∀ W : World, (Instr.makeSlice 22 (.int .i64 (IntKind.i64.wrap ((R : Int) + 1))) (.int .i64 (IntKind.i64.wrap ((R : Int) + 1)))).run Tryz.prog W = .ok (.slice (some ⟨W.heap.size, 0, none⟩) (R + 1) (R + 1)) (W.alloc (.cells M 3)) := by rw [hwr]; exact hmk
  clear hwr
  have hmul : IntKind.i64.wrap ((N : Int) * (m : Int)) = (R : Int) := by
    have : (N : Int) * (m : Int) = (R : Int) := by rw [← hR]; simp
    rw [this, IntKind.wrap_i64]
    omega
  have HM := hide (And.intro hM hz91)
  have HI := hide (And.intro hi9 (And.intro hz90 (And.intro hz91 hz92)))
  clear hM hi9 hz90 hz91 hz92 en hR
  obtain ⟨W0, hW0⟩ : ∃ W0, (w.alloc (.cells #[.int .i64 (N : Int), .int .i64 (m : Int), .slice a1 l1 c1, .slice a2 l2 c2, .slice a3 n3 c3] 25)).alloc (.cells #[.int .i64 0, .slice none 0 0, .slice none 0 0] 67) = W0 := ⟨_, rfl⟩
  have HD := hide (box3 w #[.int .i64 (N : Int), .int .i64 (m : Int), .slice a1 l1 c1, .slice a2 l2 c2, .slice a3 n3 c3] #[.int .i64 0, .slice none 0 0, .slice none 0 0] 25 67)
  rw [hW0] at HD
  have B0 := HD.out.2.1
  have k0 : W0.cell? ⟨w.heap.size, 0, none⟩ = some (.int .i64 (N : Int)) := cell_of B0 rfl
  have k1 : W0.cell? ⟨w.heap.size, 1, none⟩ = some (.int .i64 (m : Int)) := cell_of B0 rfl
  clear B0
  go_enter Tryz.func34, Tryz.ntmps34
  go_upto_region 1 with fail
  go_cut [3] from 3 to 16 (fun p3 W => ∃ b g, p3 = .pointer (some ⟨b, 0, none⟩) ∧ Hid (W.heap[b]? = some (.cells #[.int .i64 (m : Int), .slice none 0 0, .slice (some ⟨g, 0, none⟩) (R + 1) (R + 1)] 67 (0, 0)) ∧ W.heap[g]? = some (.cells M 3 (0, 0)) ∧ b ≠ g ∧ W0.heap.size ≤ b ∧ W0.heap.size ≤ g ∧ Below W0.heap.size W0 W))
  case first =>
    go_region_held3 (fun W2 => W2.cell? ⟨w.heap.size, 0, none⟩ = some (.int .i64 (N : Int)) ∧ W2.cell? ⟨w.heap.size, 1, none⟩ = some (.int .i64 (m : Int)))
      (first | go_keep | assumption)
      (fail)
    · go_wp2_with fail
      go_meet
      refine ⟨W0.heap.size + 1, W0.heap.size, rfl, hide ?_⟩
      have q := box3 W0 M #[.int .i64 (m : Int), .slice none 0 0, .slice (some ⟨W0.heap.size, 0, none⟩) (R + 1) (R + 1)] 3 67
      exact ⟨q.2.2.1, q.2.1, by omega, by omega, by omega, q.1.drew⟩
    · go_wp2_with fail
      go_meet
      refine ⟨W0.heap.size, W0.heap.size + 1, rfl, hide ?_⟩
      have q := box3 W0 #[.int .i64 (m : Int), .slice none 0 0, .slice (some ⟨W0.heap.size + 1, 0, none⟩) (R + 1) (R + 1)] M 67 3
      exact ⟨q.2.1, q.2.2.1, by omega, by omega, by omega, q.1.drew⟩
  case rest =>
    obtain ⟨b, g, rfl, HX⟩ := hcut
    rename World => wx
    clear hmk k0 k1 hmul
    have y4 : wx.cell? ⟨w.heap.size, 4, none⟩ = some (.slice a3 n3 c3) := cell_of (blk_on HD.out.2.1 HX.out.2.2.2.2.2) rfl
    have m0 : Mrw wx g 3 (R + 1) (fun c => .int .i64 ((cntAt (kE m (Ed.take 0)) c : Nat) : Int)) (R + 1) := by
      refine ⟨M, HX.out.2.1, by rw [HM.out.1, HM.out.2, size_madeCells]; omega, fun j hj => ?_⟩
      rw [HM.out.1, HM.out.2]
      rw [← Array.getElem?_toList, show (Value.int .i64 0).cells = #[Value.int .i64 0] from rfl, toList_madeCells_one, List.getElem?_replicate, if_pos (by omega)]
      simp [cntAt, kE]
    have HP : Hid (b ≠ g ∧ W0.heap.size ≤ b ∧ W0.heap.size ≤ g ∧ b < wx.heap.size ∧ g < wx.heap.size ∧ W0.heap.size = w.heap.size + 2) := hide ⟨HX.out.2.2.1, HX.out.2.2.2.1, HX.out.2.2.2.2.1, (Array.getElem?_eq_some_iff.1 HX.out.1).1, (Array.getElem?_eq_some_iff.1 HX.out.2.1).1, HD.out.2.2.2⟩
    have H0 : Hid (wx.ownsRow wx.heap.size 3 1 (.slice none 0 0) 0 ((toL (Ed.take 0)).map (Value.int .i64)) ∧ Mrw wx g 3 (R + 1) (fun c => .int .i64 ((cntAt (kE m (Ed.take 0)) c : Nat) : Int)) (R + 1) ∧ wx.heap[b]? = some (.cells #[.int .i64 (m : Int), .slice none 0 0, .slice (some ⟨g, 0, none⟩) (R + 1) (R + 1)] 67 (0, 0)) ∧ Below W0.heap.size W0 wx ∧ wx.heap.size ≤ wx.heap.size) := hide ⟨World.ownsRow_nil _ _ _ _, m0, HX.out.1, HX.out.2.2.2.2.2, Nat.le_refl _⟩
    clear m0 HX
    go_wp2_with fail
    clear y4
    go_loopw [20] (fun iv wr => ∃ i : Nat, i ≤ n3 ∧ iv = .int .i64 (i : Int) ∧ ∃ aE cE, Hid (wr.ownsRow wx.heap.size 3 1 (.slice aE i cE) i ((toL (Ed.take i)).map (Value.int .i64)) ∧ Mrw wr g 3 (R + 1) (fun c => .int .i64 ((cntAt (kE m (Ed.take i)) c : Nat) : Int)) (R + 1) ∧ wr.heap[b]? = some (.cells #[.int .i64 (m : Int), .slice aE i cE, .slice (some ⟨g, 0, none⟩) (R + 1) (R + 1)] 67 (0, 0)) ∧ Below W0.heap.size W0 wr ∧ wx.heap.size ≤ wr.heap.size)) (fun iv _ => n3 - (intOf iv).toNat)
    case atStart => exact ⟨0, Nat.zero_le _, rfl, none, 0, H0⟩
    case round =>
      obtain ⟨i, hi, rfl, aE, cE, HY⟩ := hrel
      clear H0
      by_cases hil : i < n3
      · have i0 : (0 : Int) ≤ (i : Int) := by omega
        have i1 : (i : Int) < (n3 : Int) := by omega
        have hjl : i < Ed.length := by have := HN3.out; omega
        obtain ⟨ge, o, ea, q1, q2, q3⟩ := (hE.out.on (HD.out.1.trans (HY.out.2.2.2.1.mono HD.out.1.size))) i hjl
        subst ea
        have HTk := hide (List.take_succ_eq_append_getElem hjl)
        have HN := hide (hF.out Ed[i] (List.getElem_mem hjl))
        obtain ⟨x, hx⟩ : ∃ x, Ed[i] = x := ⟨_, rfl⟩
        rw [hx] at q1 q2 q3 HTk HN
        clear hx
        obtain ⟨x1, x2, x3⟩ := x
        obtain ⟨p, hp⟩ := Int.eq_ofNat_of_zero_le HN.out.1.1
        obtain ⟨s, hs⟩ := Int.eq_ofNat_of_zero_le HN.out.2.1
        have hp : x1 = (p : Int) := hp
        have hs : x2 = (s : Int) := hs
        subst hp hs
        have hp1 : p < N := by have := HN.out.1.2; simp only at this; omega
        have hs1 : s < m := by have := HN.out.2.2; simp only at this; omega
        obtain ⟨k, hk⟩ : ∃ k, p * m + s = k := ⟨_, rfl⟩
        have hkR : k < R := by
          rw [← hk, ← HRR.out]
          have : (p + 1) * m ≤ N * m := Nat.mul_le_mul_right _ hp1
          rw [Nat.add_mul, Nat.one_mul] at this
          omega
        have epm : (p : Int) * (m : Int) = ((p * m : Nat) : Int) := by simp
        have e1 : IntKind.i64.wrap ((p : Int) * (m : Int)) = (p : Int) * (m : Int) := by rw [epm, IntKind.wrap_i64]; omega
        have e2 : IntKind.i64.wrap ((p : Int) * (m : Int) + (s : Int)) = (k : Int) := by rw [epm, IntKind.wrap_i64]; omega
        clear epm
        have e3 : IntKind.i64.wrap ((k : Int) + 1) = (k : Int) + 1 := by rw [IntKind.wrap_i64]; omega
        have HKK := hide hk
        clear hk
        obtain ⟨W1, hW1⟩ : ∃ W1, wr.alloc (.cells #[.int .i64 (p : Int), .int .i64 (s : Int), .int .i64 x3] 50) = W1 := ⟨_, rfl⟩
        have HW : Hid (W1.heap[wr.heap.size]? = some (.cells #[.int .i64 (p : Int), .int .i64 (s : Int), .int .i64 x3] 50 (0, 0)) ∧ Below wr.heap.size wr W1 ∧ W1.heap.size = wr.heap.size + 1) := hide (by rw [← hW1]; exact ⟨World.alloc_heap_new _ _, (Below.refl _ _).alloc (Nat.le_refl _) _, by simp⟩)
        have y2 : W1.cell? ⟨wr.heap.size, 2, none⟩ = some (.int .i64 x3) := cell_of HW.out.1 rfl
        have b1 : W1.cell? ⟨b, 1, none⟩ = some (.slice aE i cE) := cell_of (blk_on HY.out.2.2.1 HW.out.2.1) rfl
        have HR1 := hide (own_below HY.out.1 HW.out.2.1)
        have hwx := HY.out.2.2.2.2
        have hw1 := HW.out.2.1.size
        obtain ⟨hi9, hz90, hz91, hz92⟩ := HI.out
        go_upto_region 6 with (at_builtin; refine wpList_append_own_at _ rfl _ _ 22 rfl wx.heap.size 3 i9 _ 1 8 Tryz.underlying22 hi9 hz90 hz91 hz92 rfl (by omega) (.slice aE i cE) i ((toL (Ed.take i)).map (Value.int .i64)) rfl (HR1.out.alloc _) ⟨W1.heap.size, 0, none⟩ 1 1 [.int .i64 x3] rfl rfl (World.news_of_block (cs := #[.int .i64 x3]) (t := 3) (fr := (0, 0)) (heap_alloc_new W1 _)) (by simp [Value.oneCell']) (by unfold maxLen; omega) (by omega) (by rw [World.size_alloc]; omega) ?_; intro v5 w5 ho hg hn5 hl5; obtain ⟨z5, d5, e5⟩ := own_slice ho; subst e5; have HG : Hid (w5.ownsRow wx.heap.size 3 1 (.slice z5 (i + 1) d5) (i + 1) ((toL (Ed.take (i + 1))).map (Value.int .i64)) ∧ Only W1 w5 (fun k => (Value.slice aE i cE).ownBlock = some k)) := hide (nr_step HTk.out ho hg); have Bb5 : Hid (w5.heap[b]? = some (.cells #[.int .i64 (m : Int), .slice aE i cE, .slice (some ⟨g, 0, none⟩) (R + 1) (R + 1)] 67 (0, 0))) := hide (nr_box HR1.out HG.out.2 (blk_on HY.out.2.2.1 HW.out.2.1) HP.out.2.2.2.1); have cb5 : w5.cell? ⟨b, 1, none⟩ = some (.slice aE i cE) := cell_of Bb5.out rfl; have fb5 : w5.frozen? ⟨b, 1, none⟩ = false := fz_of Bb5.out; clear ho hg hn5 hl5)
        obtain ⟨w6, hw6⟩ : ∃ W, w5.setCell ⟨b, 1, none⟩ (.slice z5 (i + 1) d5) = W := ⟨_, rfl⟩
        rw [hw6]
        have H6 : Hid (w6.ownsRow wx.heap.size 3 1 (.slice z5 (i + 1) d5) (i + 1) ((toL (Ed.take (i + 1))).map (Value.int .i64)) ∧ Mrw w6 g 3 (R + 1) (fun c => .int .i64 ((cntAt (kE m (Ed.take i)) c : Nat) : Int)) (R + 1) ∧ w6.heap[b]? = some (.cells #[.int .i64 (m : Int), .slice z5 (i + 1) d5, .slice (some ⟨g, 0, none⟩) (R + 1) (R + 1)] 67 (0, 0)) ∧ Below W0.heap.size W0 w6 ∧ wx.heap.size ≤ w6.heap.size ∧ w6.heap[wr.heap.size]? = some (.cells #[.int .i64 (p : Int), .int .i64 (s : Int), .int .i64 x3] 50 (0, 0))) := hide (by
          have hR := HR1.out
          have lo : ∀ k, (Value.slice aE i cE).ownBlock = some k → wx.heap.size ≤ k := fun k hk => (hR.lt k hk).1
          have o1 := HG.out.2
          have o2 : Only w5 w6 (fun k => k = b) := by rw [← hw6]; exact only_set _ _ _ _
          have pp := HP.out
          have Be := (o1.block _ (Array.getElem?_eq_some_iff.1 HW.out.1).1 (fun h => row_tag hR HW.out.1 (by decide) h)).trans HW.out.1
          have Mg := ((HY.out.2.1.below HW.out.2.1 HY.out.2.1.lt).only o1 (fun h => by have := lo _ h; omega)).only o2 (fun h => pp.1 h.symm)
          have d1 := HY.out.2.2.2.1.trans (HW.out.2.1.mono HY.out.2.2.2.1.size)
          have d5' := d1.trans (o1.toBelow d1.size (fun k hk => by have := lo _ hk; have := pp.2.2.2.2.2; have := HY.out.2.2.2.1.size; omega))
          exact ⟨row_only HG.out.1 o2 (fun k hk e => by have := (HG.out.1.lt k hk).1; omega), Mg, by rw [← hw6]; exact heap_setCell_same _ _ 1 _ 67 _ Bb5.out, d5'.trans (o2.toBelow d5'.size (fun k hk => by rw [hk]; exact pp.2.1)), Nat.le_trans hwx (Nat.le_trans HW.out.2.1.size (Nat.le_trans o1.size o2.size)), (o2.block _ (Array.getElem?_eq_some_iff.1 Be).1 (by have := HY.out.2.2.2.2; omega)).trans Be⟩)
        clear hw6 HG Bb5 cb5 fb5 HR1 HW y2 b1 hi9 hz90 hz91 hz92 hW1 hw1 hwx
        have b2 : w6.cell? ⟨b, 2, none⟩ = some (.slice (some ⟨g, 0, none⟩) (R + 1) (R + 1)) := cell_of H6.out.2.2.1 rfl
        have y0 : w6.cell? ⟨wr.heap.size, 0, none⟩ = some (.int .i64 (p : Int)) := cell_of H6.out.2.2.2.2.2 rfl
        have y1 : w6.cell? ⟨wr.heap.size, 1, none⟩ = some (.int .i64 (s : Int)) := cell_of H6.out.2.2.2.2.2 rfl
        have z1 : w6.cell? ⟨w.heap.size, 1, none⟩ = some (.int .i64 (m : Int)) := cell_of (blk_on HD.out.2.1 H6.out.2.2.2.1) rfl
        have r0 := H6.out.2.1.at (k + 1) (by omega)
        have r1 := H6.out.2.1.fz (k + 1)
        have hc := Nat.le_trans (cntAt_le (kE m (Ed.take i)) (k + 1)) (by rw [kE_len, List.length_take]; omega : (kE m (Ed.take i)).length ≤ i)
        obtain ⟨cn, hcn⟩ : ∃ cn, cntAt (kE m (Ed.take i)) (k + 1) = cn := ⟨_, rfl⟩
        simp only [hcn] at r0 hc
        have HC := hide hcn
        clear hcn
        have j4 : (k : Int) + 1 < (R : Int) + 1 := by omega
        have j5 : (0 : Int) ≤ (k : Int) + 1 := by omega
        have j6 : IntKind.i64.wrap ((cn : Int) + 1) = (cn : Int) + 1 := by rw [IntKind.wrap_i64]; omega
        have J : Hid ((w6.setCell ⟨g, k + 1, none⟩ (.int .i64 ((cn : Int) + 1))).ownsRow wx.heap.size 3 1 (.slice z5 (i + 1) d5) (i + 1) ((toL (Ed.take (i + 1))).map (Value.int .i64)) ∧ Mrw (w6.setCell ⟨g, k + 1, none⟩ (.int .i64 ((cn : Int) + 1))) g 3 (R + 1) (fun c => .int .i64 ((cntAt (kE m (Ed.take (i + 1))) c : Nat) : Int)) (R + 1) ∧ (w6.setCell ⟨g, k + 1, none⟩ (.int .i64 ((cn : Int) + 1))).heap[b]? = some (.cells #[.int .i64 (m : Int), .slice z5 (i + 1) d5, .slice (some ⟨g, 0, none⟩) (R + 1) (R + 1)] 67 (0, 0)) ∧ Below W0.heap.size W0 (w6.setCell ⟨g, k + 1, none⟩ (.int .i64 ((cn : Int) + 1))) ∧ wx.heap.size ≤ (w6.setCell ⟨g, k + 1, none⟩ (.int .i64 ((cn : Int) + 1))).heap.size) := hide (by
          have o := only_set w6 g (k + 1) (.int .i64 ((cn : Int) + 1))
          have pp := HP.out
          refine ⟨row_only H6.out.1 o (fun q hq e => by have := (H6.out.1.lt q hq).1; omega), (H6.out.2.1.upd (k + 1) _).congr fun c hc => ?_, (o.block b (Array.getElem?_eq_some_iff.1 H6.out.2.2.1).1 (fun e => pp.1 e)).trans H6.out.2.2.1, H6.out.2.2.2.1.trans (o.toBelow H6.out.2.2.2.1.size (fun q hq => by rw [hq]; exact pp.2.2.1)), Nat.le_trans H6.out.2.2.2.2.1 o.size⟩
          rw [HTk.out, show kE m (Ed.take i ++ [((p : Int), (s : Int), x3)]) = kE m (Ed.take i) ++ [((p : Int) * (m : Int) + (s : Int), 0, x3)] by simp [kE], cntAt_snoc]
          have ek : (p : Int) * (m : Int) + (s : Int) = (k : Int) := by rw [← HKK.out]; simp
          simp only [ek]
          by_cases e : c = k + 1
          · subst e
            rw [if_pos rfl, if_pos (by simp), HC.out]
            rfl
          · rw [if_neg e, if_neg (by omega)]
            rfl)
        clear H6 HTk
        go_wp2_with fail
        refine ⟨⟨i + 1, by omega, by go_num, z5, d5, J⟩, by simp [intOf]; omega⟩
      · obtain rfl : n3 = i := by omega
        have i1 : ¬ (n3 : Int) < (n3 : Int) := by omega
        have y0 : wr.cell? ⟨w.heap.size, 0, none⟩ = some (.int .i64 (N : Int)) := cell_of (blk_on HD.out.2.1 HY.out.2.2.2.1) rfl
        have y1 : wr.cell? ⟨w.heap.size, 1, none⟩ = some (.int .i64 (m : Int)) := cell_of (blk_on HD.out.2.1 HY.out.2.2.2.1) rfl
        have hmul : IntKind.i64.wrap ((N : Int) * (m : Int)) = (R : Int) := by
          have : (N : Int) * (m : Int) = (R : Int) := by rw [← HRR.out]; simp
          rw [this, IntKind.wrap_i64]
          omega
        have HZ : Hid (wr.ownsRow wx.heap.size 3 1 (.slice aE n3 cE) n3 ((toL Ed).map (Value.int .i64)) ∧ Mrw wr g 3 (R + 1) (firstV (kE m Ed) 0) (R + 1) ∧ wr.heap[b]? = some (.cells #[.int .i64 (m : Int), .slice aE n3 cE, .slice (some ⟨g, 0, none⟩) (R + 1) (R + 1)] 67 (0, 0)) ∧ Below W0.heap.size W0 wr ∧ wx.heap.size ≤ wr.heap.size) := hide (by
          have t := HY.out
          rw [List.take_of_length_le (by have := HN3.out; omega)] at t
          refine ⟨t.1, t.2.1.congr (fun c _ => ?_), t.2.2⟩
          unfold firstV
          by_cases e : c ≤ 0
          · obtain rfl : c = 0 := by omega
            have q := lessC_zero (kE m Ed) (fun e he => by
              obtain ⟨x, hx, rfl⟩ := List.mem_map.1 he
              have := hF.out x hx
              have h2 : 0 ≤ x.1 * (m : Int) := Int.mul_nonneg this.1.1 (by omega)
              show 0 ≤ x.1 * (m : Int) + x.2.1
              omega)
            rw [if_pos e, q.1, q.2]
          · rw [if_neg e])
        clear HY
        go_upto_region 8 with fail
        go_wp2_with fail
        clear y0 y1 hmul
        go_loopw [52] (fun iv wr => ∃ p : Nat, p ≤ R ∧ iv = .int .i64 (p : Int) ∧ Hid (wr.ownsRow wx.heap.size 3 1 (.slice aE n3 cE) n3 ((toL Ed).map (Value.int .i64)) ∧ Mrw wr g 3 (R + 1) (firstV (kE m Ed) p) (R + 1) ∧ wr.heap[b]? = some (.cells #[.int .i64 (m : Int), .slice aE n3 cE, .slice (some ⟨g, 0, none⟩) (R + 1) (R + 1)] 67 (0, 0)) ∧ Below W0.heap.size W0 wr ∧ wx.heap.size ≤ wr.heap.size)) (fun iv _ => R - (intOf iv).toNat)
        case atStart => exact ⟨0, Nat.zero_le _, rfl, HZ⟩
        case round =>
          obtain ⟨p, hp, rfl, HQ⟩ := hrel
          clear HZ
          by_cases hlt : p < R
          · have j0 : (0 : Int) ≤ (p : Int) := by omega
            have j1 : (p : Int) < (R : Int) := by omega
            have j2 : (p : Int) < (R : Int) + 1 := by omega
            have j3 : (p : Int) + 1 < (R : Int) + 1 := by omega
            have j4 : (0 : Int) ≤ (p : Int) + 1 := by omega
            have r0 := HQ.out.2.1.at p (by omega)
            have r1 := HQ.out.2.1.at (p + 1) (by omega)
            have r2 := HQ.out.2.1.fz (p + 1)
            have y5 : wr.cell? ⟨b, 2, none⟩ = some (.slice (some ⟨g, 0, none⟩) (R + 1) (R + 1)) := cell_of HQ.out.2.2.1 rfl
            unfold firstV at r0 r1
            rw [if_pos (Nat.le_refl _)] at r0
            rw [if_neg (by omega)] at r1
            have u0 := lessC_le (kE m Ed) p
            have u1 := cntAt_le (kE m Ed) (p + 1)
            rw [kE_len, HN3.out] at u0 u1
            have HS := hide (lessC_succ (kE m Ed) p)
            generalize lessC (kE m Ed) p = s at r0 u0 HS
            generalize cntAt (kE m Ed) (p + 1) = c at r1 u1 HS
            have v0 : (s : Int) ≤ 4194304 := by omega
            have v1 : (c : Int) ≤ 4194304 := by omega
            have v2 : (0 : Int) ≤ (s : Int) := by omega
            have v3 : (0 : Int) ≤ (c : Int) := by omega
            go_upto_region 11 with fail
            refine wp_region_phase 12 #[true, true, true, true, true, true, true, true, true, true, true, true, false, false] (by kernel_rfl) (by kernel_rfl) ?_
            simp only [List.take_succ_cons, List.take_zero, List.drop_succ_cons, List.drop_zero]
            repeat (go_big_quiet_step (fail))
            refine wpQuiet_nil ?_
            intro wz hzz
            obtain ⟨nq, rfl⟩ := hzz
            have J : Hid (((wr.drewN nq).setCell ⟨g, p + 1, none⟩ (.int .i64 ((c : Int) + (s : Int)))).ownsRow wx.heap.size 3 1 (.slice aE n3 cE) n3 ((toL Ed).map (Value.int .i64)) ∧ Mrw ((wr.drewN nq).setCell ⟨g, p + 1, none⟩ (.int .i64 ((c : Int) + (s : Int)))) g 3 (R + 1) (firstV (kE m Ed) (p + 1)) (R + 1) ∧ ((wr.drewN nq).setCell ⟨g, p + 1, none⟩ (.int .i64 ((c : Int) + (s : Int)))).heap[b]? = some (.cells #[.int .i64 (m : Int), .slice aE n3 cE, .slice (some ⟨g, 0, none⟩) (R + 1) (R + 1)] 67 (0, 0)) ∧ Below W0.heap.size W0 ((wr.drewN nq).setCell ⟨g, p + 1, none⟩ (.int .i64 ((c : Int) + (s : Int)))) ∧ wx.heap.size ≤ ((wr.drewN nq).setCell ⟨g, p + 1, none⟩ (.int .i64 ((c : Int) + (s : Int)))).heap.size) := hide (by
              have o := only_set (wr.drewN nq) g (p + 1) (.int .i64 ((c : Int) + (s : Int)))
              have pp := HP.out
              have hb1 : (wr.drewN nq).heap[b]? = some (.cells #[.int .i64 (m : Int), .slice aE n3 cE, .slice (some ⟨g, 0, none⟩) (R + 1) (R + 1)] 67 (0, 0)) := HQ.out.2.2.1
              have mq : Mrw (wr.drewN nq) g 3 (R + 1) (firstV (kE m Ed) p) (R + 1) := HQ.out.2.1
              have hw1 : (wr.drewN nq).ownsRow wx.heap.size 3 1 (.slice aE n3 cE) n3 ((toL Ed).map (Value.int .i64)) := HQ.out.1
              refine ⟨row_only hw1 o (fun q hq e => by have := (hw1.lt q hq).1; omega), (mq.upd (p + 1) _).congr fun k hk => ?_, (o.block b (Array.getElem?_eq_some_iff.1 hb1).1 (fun e => pp.1 e)).trans hb1, (below_drewN' HQ.out.2.2.2.1 nq).trans (o.toBelow HQ.out.2.2.2.1.size (fun k hk => by rw [hk]; exact pp.2.2.1)), Nat.le_trans HQ.out.2.2.2.2 o.size⟩
              unfold firstV
              by_cases e : k = p + 1
              · subst e
                rw [if_pos rfl, if_pos (Nat.le_refl _), HS.out]
                simp
              · rw [if_neg e]
                by_cases e2 : k ≤ p
                · rw [if_pos e2, if_pos (by omega)]
                · rw [if_neg e2, if_neg (by omega)])
            have wcs : IntKind.i64.wrap ((c : Int) + (s : Int)) = (c : Int) + (s : Int) := by rw [IntKind.wrap_i64]; omega
            go_wp2_with fail
            go_roundw
            case rel => exact ⟨p + 1, by omega, by go_num, by first | exact J | (simp only [wcs]; exact J)⟩
            case measure => simp [intOf]; omega
          · obtain rfl : R = p := by omega
            have j1 : ¬ (R : Int) < (R : Int) := by omega
            have F3 := blk_on HD.out.2.2.1 HQ.out.2.2.2.1
            have HQ2 := HQ.out.2.2.1
            have o0 : wr.cell? ⟨w.heap.size + 1, 0, none⟩ = some (.int .i64 0) := cell_of F3 rfl
            have f0 : wr.frozen? ⟨w.heap.size + 1, 0, none⟩ = false := fz_of F3
            have k0 : wr.cell? ⟨b, 0, none⟩ = some (.int .i64 (m : Int)) := cell_of HQ2 rfl
            have o1 : wr.cell? ⟨w.heap.size + 1, 1, none⟩ = some (.slice none 0 0) := cell_of F3 rfl
            have f1 : wr.frozen? ⟨w.heap.size + 1, 1, none⟩ = false := fz_of F3
            have k1 : wr.cell? ⟨b, 1, none⟩ = some (.slice aE n3 cE) := cell_of HQ2 rfl
            have o2 : wr.cell? ⟨w.heap.size + 1, 2, none⟩ = some (.slice none 0 0) := cell_of F3 rfl
            have f2 : wr.frozen? ⟨w.heap.size + 1, 2, none⟩ = false := fz_of F3
            have k2 : wr.cell? ⟨b, 2, none⟩ = some (.slice (some ⟨g, 0, none⟩) (R + 1) (R + 1)) := cell_of HQ2 rfl
            have O6 := hide (And.intro (set3 wr (w.heap.size + 1) _ _ _ (.int .i64 (m : Int)) (.slice aE n3 cE) (.slice (some ⟨g, 0, none⟩) (R + 1) (R + 1)) 67 F3) (only3 wr (w.heap.size + 1) 0 1 2 (.int .i64 (m : Int)) (.slice aE n3 cE) (.slice (some ⟨g, 0, none⟩) (R + 1) (R + 1))))
            clear F3 HQ2
            go_wp2_with fail
            refine bodyPost_ret (results_cell_row (p := 2) (ty := 67) rfl _ _ (w.heap.size + 1) 67 _ (0, 0) _ rfl O6.out.1 Tryz.underlying67 rfl (by kernel_rfl)) rfl ?_
            have pp := HP.out
            have oo := O6.out.2
            have dd := HD.out.1.trans (HQ.out.2.2.2.1.mono HD.out.1.size)
            refine ⟨aE, cE, g, rfl, hide ⟨owns_down (B := wx.heap.size) ?_ ?_, (HQ.out.2.1.congr (fun c hc => by unfold firstV; rw [if_pos (by omega)])).only oo (by omega), by omega⟩, dd.trans (oo.toBelow dd.size (fun k hk => by omega))⟩
            · exact row_only HQ.out.1 oo (fun q hq e => by have := (HQ.out.1.lt q hq).1; omega)
            · omega
/-! ### A walk's step: what it holds -/
theorem only_drew {w w' : World} {R : Nat → Prop} (h : Only w w' R) : Only w w'.drew R := ⟨h.os, h.tape, h.output, h.size, h.block⟩
/-! ### After and Accepts -/
theorem wordErr_zero {n m : Int} {St Fi : List Int} {Ed : List EdT} {Wd : List Int} (h : wordErr n m St Fi Ed Wd = 0) : mayA n m St Fi Ed = true ∧ Wd.all (inB m) = true := by
  unfold wordErr at h
  split at h
  · rename_i h1
    split at h
    · rename_i h2; exact ⟨h1, h2⟩
    · cases h
  · cases h
/-! ### The law's own lists -/
theorem rdN_own {W : World} {B g c n : Nat} {X L : List Int} (h : W.ownsRow B 3 1 (.slice (some ⟨g, 0, none⟩) n c) n (X.map (Value.int .i64))) (hp : L <+: X) : RdN W (some ⟨g, 0, none⟩) L := fun j hj => by
  obtain ⟨t, rfl⟩ := hp
  refine ⟨g, 0, rfl, ?_⟩
  have := h.cells (g := g) rfl j (.int .i64 L[j]) (by rw [List.getElem?_map, List.getElem?_append_left hj, List.getElem?_eq_getElem hj]; rfl)
  rw [Addr.add_lit] at this
  simpa using this
/-! ### The law's and the document's questions about lists -/
set_option maxRecDepth 100000 in
set_option maxHeartbeats 1000000 in
theorem in60 (w : World) (ao : Option Addr) (L : List Int) (c : Nat) (x : Int) (hr : Hid (RdN w ao L)) (hl : L.length ≤ 4194304) :
    Calls Tryz.prog 65 #[.slice ao L.length c, .int .i64 x] w fun e w' => e = .returned (.bool (decide (x ∈ L))) ∧ w' = w := by
  go_enter Tryz.func65, Tryz.ntmps65
  go_wp2
  go_loopw [5] (fun iv wr => ∃ i : Nat, i ≤ L.length ∧ iv = .int .i64 i ∧ Hid (∀ t (h : t < L.length), t < i → L[t] ≠ x) ∧ wr = w) (fun iv _ => L.length - (intOf iv).toNat)
  case atStart => exact ⟨0, Nat.zero_le _, rfl, hide (fun t _ h => absurd h (Nat.not_lt_zero t)), rfl⟩
  case round =>
    obtain ⟨i, hi, rfl, HY, hw⟩ := hrel
    obtain rfl := hw.symm
    clear hw
    by_cases hlt : i < L.length
    · have l0 : (i : Int) < (L.length : Int) := by omega
      have l1 : (0 : Int) ≤ (i : Int) := by omega
      obtain ⟨g, o, rfl, q⟩ := hr.out i hlt
      by_cases he : L[i] = x
      · have hm : x ∈ L := he ▸ List.getElem_mem hlt
        rw [he] at q
        have hd : Hid (decide (x ∈ L) = true) := hide (by simpa using hm)
        clear he hm
        go_wp2
        refine bodyPost_ret (results_tmp rfl _ _ _) rfl ?_
        exact ⟨by rw [hd.out]; rfl, rfl⟩
      · have HN : Hid (∀ t (h : t < L.length), t < i + 1 → L[t] ≠ x) := hide (fun t ht h2 => by
          rcases Nat.lt_or_ge t i with h3 | h3
          · exact HY.out t ht h3
          · obtain rfl : t = i := by omega
            exact he)
        have hb : (L[i] == x) = false := by simpa using he
        generalize L[i] = y at q he hb
        go_wp2
        go_roundw
        case rel => exact ⟨i + 1, by omega, by go_num, HN, by simp⟩
        case measure => simp [intOf]; omega
    · have l0 : ¬ (i : Int) < (L.length : Int) := by omega
      have hd : Hid (decide (x ∈ L) = false) := hide (by
        rw [decide_eq_false_iff_not]
        intro hm
        obtain ⟨t, ht, e⟩ := List.getElem_of_mem hm
        exact HY.out t ht (by omega) e)
      go_wp2
      refine bodyPost_ret (results_tmp rfl _ _ _) rfl ?_
      exact ⟨by rw [hd.out]; rfl, rfl⟩
set_option maxRecDepth 100000 in
set_option maxHeartbeats 1000000 in
theorem meets18 (w : World) (ao bo : Option Addr) (A B : List Int) (c d : Nat) (hA : Hid (RdN w ao A)) (hB : Hid (RdN w bo B)) (hl : A.length ≤ 4194304) (hk : B.length ≤ 4194304) :
    Calls Tryz.prog 43 #[.slice ao A.length c, .slice bo B.length d] w fun e w' => e = .returned (.bool (A.any fun x => decide (x ∈ B))) ∧ w' = w := by
  go_enter Tryz.func43, Tryz.ntmps43
  go_wp2
  go_loopw [5] (fun iv wr => ∃ i : Nat, i ≤ A.length ∧ iv = .int .i64 i ∧ Hid (∀ t (h : t < A.length), t < i → A[t] ∉ B) ∧ wr = w) (fun iv _ => A.length - (intOf iv).toNat)
  case atStart => exact ⟨0, Nat.zero_le _, rfl, hide (fun t _ h => absurd h (Nat.not_lt_zero t)), rfl⟩
  case round =>
    obtain ⟨i, hi, rfl, HY, hw⟩ := hrel
    obtain rfl := hw.symm
    clear hw
    by_cases hlt : i < A.length
    · have l0 : (i : Int) < (A.length : Int) := by omega
      have l1 : (0 : Int) ≤ (i : Int) := by omega
      obtain ⟨g, o, rfl, q⟩ := hA.out i hlt
      have T := in60 w bo B d A[i] hB hk
      by_cases he : A[i] ∈ B
      · have hd : Hid ((A.any fun x => decide (x ∈ B)) = true) := hide (List.any_eq_true.2 ⟨A[i], List.getElem_mem hlt, by simpa using he⟩)
        rw [show decide (A[i] ∈ B) = true by simpa using he] at T
        generalize A[i] = y at q T
        clear he
        go_wp2_with (go_at_call 65; refine T.mono ?_; rintro e w2 ⟨rfl, hw2⟩; obtain rfl := hw2.symm)
        refine bodyPost_ret (results_tmp rfl _ _ _) rfl ?_
        exact ⟨by rw [hd.out]; rfl, rfl⟩
      · have HN : Hid (∀ t (h : t < A.length), t < i + 1 → A[t] ∉ B) := hide (fun t ht h2 => by
          rcases Nat.lt_or_ge t i with h3 | h3
          · exact HY.out t ht h3
          · obtain rfl : t = i := by omega
            exact he)
        rw [show decide (A[i] ∈ B) = false by simpa using he] at T
        generalize A[i] = y at q T
        clear he
        go_wp2_with (go_at_call 65; refine T.mono ?_; rintro e w2 ⟨rfl, hw2⟩; obtain rfl := hw2.symm)
        go_roundw
        case rel => exact ⟨i + 1, by omega, by go_num, HN, by simp⟩
        case measure => simp [intOf]; omega
    · have l0 : ¬ (i : Int) < (A.length : Int) := by omega
      have hd : Hid ((A.any fun x => decide (x ∈ B)) = false) := hide (by
        rw [List.any_eq_false]
        intro x hx
        obtain ⟨t, ht, e⟩ := List.getElem_of_mem hx
        have := HY.out t ht (by omega)
        rw [e] at this
        simpa using this)
      go_wp2
      refine bodyPost_ret (results_tmp rfl _ _ _) rfl ?_
      exact ⟨by rw [hd.out]; rfl, rfl⟩
set_option maxRecDepth 100000 in
set_option maxHeartbeats 1000000 in
theorem sameInts_any (w : World) (ao bo : Option Addr) (A B : List Int) (c d : Nat) (hA : Hid (RdN w ao A)) (hB : Hid (RdN w bo B)) (hl : A.length ≤ 4194304) (hk : B.length ≤ 4194304) :
    Calls Tryz.prog 26 #[.slice ao A.length c, .slice bo B.length d] w fun e w' => e = .returned (.bool (decide (A = B))) ∧ Below w.heap.size w w' := by
  go_enter Tryz.func26, Tryz.ntmps26
  by_cases hlen : A.length = B.length
  · have hl2 : ((A.length : Int) != (B.length : Int)) = false := by simp [hlen]
    go_wp2
    go_loopw [5] (fun iv wr => ∃ i : Nat, i ≤ A.length ∧ iv = .int .i64 i ∧ Hid (∀ t (h : t < A.length), t < i → A[t] = B[t]'(by omega)) ∧ Hid (Below w.heap.size w wr)) (fun iv _ => A.length - (intOf iv).toNat)
    case atStart => exact ⟨0, Nat.zero_le _, rfl, hide (fun t _ h => absurd h (Nat.not_lt_zero t)), hide (Below.refl _ _)⟩
    case round =>
      obtain ⟨i, hi, rfl, HY, HW⟩ := hrel
      by_cases hlt : i < A.length
      · have l0 : (i : Int) < (A.length : Int) := by omega
        have l1 : (0 : Int) ≤ (i : Int) := by omega
        have hltB : i < B.length := by omega
        have l2 : (i : Int) < (B.length : Int) := by omega
        obtain ⟨g, o, hao, q⟩ := (hA.out.on HW.out) i hlt
        obtain ⟨g', o', hbo, q'⟩ := (hB.out.on HW.out) i hltB
        subst hao hbo
        by_cases he : A[i] = B[i]
        · have HN : Hid (∀ t (h : t < A.length), t < i + 1 → A[t] = B[t]'(by omega)) := hide (fun t ht h2 => by
            rcases Nat.lt_or_ge t i with h3 | h3
            · exact HY.out t ht h3
            · obtain rfl : t = i := by omega
              exact he)
          rw [← he] at q'
          generalize A[i] = x at q q' he
          have hb : (x != x) = false := by simp
          clear he
          go_wp2
          refine wp_region_phase 8 #[true, true, true, true, true, true, true, true, false] (by kernel_rfl) (by kernel_rfl) ?_
          simp only [List.take_succ_cons, List.take_zero, List.drop_succ_cons, List.drop_zero]
          repeat (go_big_quiet_step (fail))
          refine wpQuiet_nil ?_
          intro wz hzz
          obtain ⟨nq, rfl⟩ := hzz
          go_wp2_with fail
          go_roundw
          case rel => exact ⟨i + 1, by omega, by go_num, HN, hide (below_drewN2 HW.out nq)⟩
          case measure => simp [intOf]; omega
        · have hd : Hid (decide (A = B) = false) := hide (by
            rw [decide_eq_false_iff_not]
            intro e
            subst e
            exact he rfl)
          have hb : (A[i] != B[i]) = true := by simpa using he
          generalize A[i] = x at q he hb
          generalize B[i] = y at q' he hb
          go_wp2
          refine wp_region_phase 8 #[true, true, true, true, true, true, true, true, false] (by kernel_rfl) (by kernel_rfl) ?_
          simp only [List.take_succ_cons, List.take_zero, List.drop_succ_cons, List.drop_zero]
          repeat (go_big_quiet_step (fail))
          refine wpQuiet_nil ?_
          intro wz hzz
          obtain ⟨nq, rfl⟩ := hzz
          go_wp2_with fail
          refine bodyPost_ret (results_tmp rfl _ _ _) rfl ?_
          exact ⟨by rw [hd.out]; rfl, below_drewN2 HW.out nq⟩
      · have l0 : ¬ (i : Int) < (A.length : Int) := by omega
        have hd : Hid (decide (A = B) = true) := hide (by
          rw [decide_eq_true_eq]
          exact List.ext_getElem hlen fun t h1 h2 => HY.out t h1 (by omega))
        go_wp2
        refine bodyPost_ret (results_tmp rfl _ _ _) rfl ?_
        exact ⟨by rw [hd.out]; rfl, HW.out⟩
  · have hl2 : ((A.length : Int) != (B.length : Int)) = true := by simp; omega
    have hd : Hid (decide (A = B) = false) := hide (by
      rw [decide_eq_false_iff_not]
      intro e
      exact hlen (by rw [e]))
    go_wp2
    refine bodyPost_ret (results_tmp rfl _ _ _) rfl ?_
    exact ⟨by rw [hd.out]; rfl, Below.refl _ _⟩
/-! ### The small automaton's answers -/
theorem rise_one (x : Int) : riseL [x] = [x] := by
  unfold riseL sortI
  rw [List.mergeSort_singleton]
  apply Lib.compact_all
  intro j hj
  obtain rfl : j = 0 := by simpa using hj
  simp [Lib.keeps]
theorem alloc_below (w : World) (o : Obj) : Below w.heap.size w (w.alloc o) := (Below.refl _ _).alloc (Nat.le_refl _) _
end Go.Proofs.YtchoopnjckcohaaGreat
namespace Go.Proofs.YtchoopnjckcohaaGreat
open Go.RowKit Go.Maps Go.Shelf
/-! ### Paths -/
/-- A word leads from a state to another. -/
def Rch (Ed : List EdT) : List Int → Int → Int → Prop
  | [], p, q => p = q
  | y :: W, p, q => ∃ r, (p, y, r) ∈ Ed ∧ Rch Ed W r q
/-! ### Numbers in order, each once -/
theorem cpL_ss {zs : List Int} (hs : zs.Pairwise (· ≤ ·)) : (Lib.compact zs).Pairwise (· < ·) := by
  have key : ∀ m, m ≤ zs.length → (Lib.compactUpTo zs.toArray m).Pairwise (· < ·) ∧ (∀ x ∈ Lib.compactUpTo zs.toArray m, ∃ j, j < m ∧ ∃ h : j < zs.length, x = zs[j]) := by
    intro m
    induction m with
    | zero => intro _; exact ⟨by simp [Lib.compactUpTo], fun x hx => by simp [Lib.compactUpTo] at hx⟩
    | succ m ih =>
      intro hm
      obtain ⟨k1, k2⟩ := ih (by omega)
      rw [Lib.compactUpTo_succ]
      by_cases hk : Lib.keeps zs.toArray m = true
      · rw [if_pos hk]
        have hm' : m < zs.length := by omega
        have em : zs.toArray[m]! = zs[m] := by simp [hm']
        refine ⟨?_, fun x hx => ?_⟩
        · rw [List.pairwise_append]
          refine ⟨k1, by simp, fun x hx y hy => ?_⟩
          rw [List.mem_singleton.1 hy, em]
          obtain ⟨j, hj, hjl, rfl⟩ := k2 x hx
          unfold Lib.keeps at hk
          rw [decide_eq_true_eq] at hk
          have hm0 : m ≠ 0 := by omega
          have hk2 := hk.resolve_left hm0
          have e1 : zs.toArray[m - 1]! = zs[m - 1] := by simp [show m - 1 < zs.length by omega]
          rw [em, e1] at hk2
          have l1 : zs[m - 1] ≤ zs[m] := (List.pairwise_iff_getElem.1 hs) (m - 1) m (by omega) hm' (by omega)
          rcases Nat.lt_or_ge j (m - 1) with q | q
          · have l2 : zs[j] ≤ zs[m - 1] := (List.pairwise_iff_getElem.1 hs) j (m - 1) hjl (by omega) q
            omega
          · have : j = m - 1 := by omega
            subst this; omega
        · rcases List.mem_append.1 hx with hx | hx
          · obtain ⟨j, hj, q⟩ := k2 x hx
            exact ⟨j, by omega, q⟩
          · rw [List.mem_singleton.1 hx]; exact ⟨m, by omega, hm', em⟩
      · rw [if_neg hk, List.append_nil]
        exact ⟨k1, fun x hx => by obtain ⟨j, hj, q⟩ := k2 x hx; exact ⟨j, by omega, q⟩⟩
  exact (key zs.length (Nat.le_refl _)).1
theorem sortI_up (L : List Int) : (sortI L).Pairwise (· ≤ ·) := by
  have hp : (sortI L).Pairwise fun a b => decide (a ≤ b) = true := List.pairwise_mergeSort (le := fun x y : Int => decide (x ≤ y)) (fun a b c h1 h2 => by
    simp only [decide_eq_true_eq] at *
    omega) (fun a b => by
    simp only [Bool.or_eq_true, decide_eq_true_eq]
    omega) L
  exact hp.imp fun q => by simpa using q
theorem riseL_ss (L : List Int) : (riseL L).Pairwise (· < ·) := cpL_ss (sortI_up L)
theorem ssL_eq : ∀ (A B : List Int), A.Pairwise (· < ·) → B.Pairwise (· < ·) → (∀ x, x ∈ A ↔ x ∈ B) → A = B
  | [], [], _, _, _ => rfl
  | [], b :: B, _, _, h => absurd ((h b).2 (by simp)) (by simp)
  | a :: A, [], _, _, h => absurd ((h a).1 (by simp)) (by simp)
  | a :: A, b :: B, hA, hB, h => by
    rw [List.pairwise_cons] at hA hB
    have e : a = b := by
      rcases List.mem_cons.1 ((h a).1 (by simp)) with q | q
      · exact q
      · rcases List.mem_cons.1 ((h b).2 (by simp)) with r | r
        · exact r.symm
        · have := hB.1 a q; have := hA.1 b r; omega
    subst e
    congr 1
    refine ssL_eq A B hA.2 hB.2 fun x => ⟨fun q => ?_, fun q => ?_⟩
    · rcases List.mem_cons.1 ((h x).1 (by simp [q])) with r | r
      · subst r; have := hA.1 x q; omega
      · exact r
    · rcases List.mem_cons.1 ((h x).2 (by simp [q])) with r | r
      · subst r; have := hB.1 x q; omega
      · exact r
/-! ### Which words are taken -/
theorem may_of {n m : Int} {St Fi : List Int} {Ed : List EdT} (h1 : 0 ≤ n ∧ n ≤ 4096) (h2 : 0 ≤ m ∧ m ≤ 128) (h3 : Ed.length ≤ 65536) (h4 : ∀ x ∈ St, 0 ≤ x ∧ x < n) (h5 : ∀ x ∈ Fi, 0 ≤ x ∧ x < n) (h6 : ∀ e ∈ Ed, (0 ≤ e.1 ∧ e.1 < n) ∧ (0 ≤ e.2.1 ∧ e.2.1 < m) ∧ 0 ≤ e.2.2 ∧ e.2.2 < n) : mayA n m St Fi Ed = true := by
  unfold mayA
  simp only [Bool.and_eq_true, List.all_eq_true, decide_eq_true_eq]
  refine ⟨⟨⟨⟨⟨inB_iff.2 (by omega), inB_iff.2 (by omega)⟩, h3⟩, fun x hx => inB_iff.2 (h4 x hx)⟩, fun x hx => inB_iff.2 (h5 x hx)⟩, fun e he => ?_⟩
  obtain ⟨q1, q2, q3⟩ := h6 e he
  unfold edOk
  rw [inB_iff.2 q1, inB_iff.2 q2, inB_iff.2 q3]
  rfl
theorem may_st {n m : Int} {St Fi : List Int} {Ed : List EdT} (h : mayA n m St Fi Ed = true) : (∀ x ∈ St, 0 ≤ x ∧ x < n) ∧ (∀ x ∈ Fi, 0 ≤ x ∧ x < n) := by
  obtain ⟨_, _, _, h4, h5, _⟩ := may_parts h
  exact ⟨fun x hx => inB_iff.1 (List.all_eq_true.1 h4 x hx), fun x hx => inB_iff.1 (List.all_eq_true.1 h5 x hx)⟩
/-- A word leads from a start to an end. -/
def Tak (St Fi : List Int) (Ed : List EdT) (Wd : List Int) : Prop := ∃ p, p ∈ St ∧ ∃ q, q ∈ Fi ∧ Rch Ed Wd p q
open Classical in
theorem wordErr_iff {n m : Int} {St Fi : List Int} {Ed : List EdT} {Wd : List Int} : wordErr n m St Fi Ed Wd = 0 ↔ mayA n m St Fi Ed = true ∧ Wd.all (inB m) = true :=
  ⟨wordErr_zero, fun ⟨h1, h2⟩ => by unfold wordErr; rw [if_pos h1, if_pos h2]⟩
open Classical in
theorem rch_same {E E' : List EdT} (h : ∀ e, e ∈ E ↔ e ∈ E') : ∀ (W : List Int) (p q : Int), Rch E W p q ↔ Rch E' W p q
  | [], _, _ => Iff.rfl
  | y :: W, p, q => by
    constructor
    · rintro ⟨r, h1, h2⟩; exact ⟨r, (h _).1 h1, (rch_same h W r q).1 h2⟩
    · rintro ⟨r, h1, h2⟩; exact ⟨r, (h _).2 h1, (rch_same h W r q).2 h2⟩
/-- In order, each once: the same words. -/
theorem may_rise {n m : Int} {St Fi : List Int} {Ed : List EdT} (h : mayA n m St Fi Ed = true) : mayA n m (riseL St) (riseL Fi) (riseE Ed) = true := by
  obtain ⟨h1, h2, h3, _, _, h6⟩ := may_parts h
  obtain ⟨h4, h5⟩ := may_st h
  exact may_of h1 h2 (Nat.le_trans (riseE_len Ed) h3) (fun x hx => h4 x ((riseL_iff St x).1 hx)) (fun x hx => h5 x ((riseL_iff Fi x).1 hx)) (fun e he => h6 e ((riseE_iff Ed e).1 he))
end Go.Proofs.YtchoopnjckcohaaGreat
namespace Go.Proofs.YtchoopnjckcohaaGreat
open Go.RowKit Go.Maps Go.Shelf
attribute [local go_sem] Oper.semAt_some
/-! ### Reverse -/
/-! ### The law's takes and turned -/
theorem rd_own {W : World} {B n : Nat} {v : Value} {X : List Int} (h : W.ownsRow B 3 1 v n (X.map (Value.int .i64))) : ∃ ao c, v = .slice ao X.length c ∧ RdN W ao X := by
  have hn : n = X.length := by have := h.1; simpa using this.symm
  subst hn
  rcases h.2 with ⟨hv, h0⟩ | ⟨g, cap, cur, hv, _⟩
  · exact ⟨none, 0, by rw [hv, h0], fun j hj => by omega⟩
  · subst hv
    exact ⟨some ⟨g, 0, none⟩, cap, rfl, rdN_own h (List.prefix_refl X)⟩
/-! ### Lists written over where they lie -/
theorem Only.cellK {w w' : World} {R : Nat → Prop} (h : Only w w' R) {b : Nat} {o : Obj} (hb : w.heap[b]? = some o) (hn : ¬ R b) : w'.heap[b]? = some o := (h.block b (Array.getElem?_eq_some_iff.1 hb).1 hn).trans hb
section
variable {W0 W : World} {B : Nat} {na : Int} {h1 c1 h2 c2 h3 c3 : Nat} {S F : List Int} {E : List EdT} {i j l : Nat}
end
section
variable {w W W' : World} {B : Nat} {v0 v1 v2 v3 v4 : Value} {bb : Array Value}
end
end Go.Proofs.YtchoopnjckcohaaGreat
namespace Go.Proofs.YtchoopnjckcohaaGreat
open Go.RowKit Go.Maps Go.Shelf
/-! ### What a drawn region's calls and boxes make -/
/-- A box for an automaton, with nothing in it yet. -/
def boxP : MkP := fun x lo hi W => x = .pointer (some ⟨lo, 0, none⟩) ∧ lo < hi ∧ W.heap[lo]? = some (.cells #[.int .i64 0, .int .i64 0, .slice none 0 0, .slice none 0 0, .slice none 0 0] 25 (0, 0))
theorem boxP_mono : MonoP boxP := fun _ _ _ _ _ hs d ⟨e, l, z⟩ => ⟨e, l, (d.block _ (by omega)).trans z⟩
end Go.Proofs.YtchoopnjckcohaaGreat
namespace Go.Proofs.YtchoopnjckcohaaGreat
open Go.RowKit Go.Maps Go.Shelf
attribute [local go_sem] Oper.semAt_some
/-! ### The document's With and Set -/
theorem own_rdN {W : World} {B c : Nat} {b : Option Addr} {X : List Int} (h : W.ownsRow B 3 1 (.slice b X.length c) X.length (X.map (Value.int .i64))) : RdN W b X := by
  obtain ⟨b', c', hv, hD⟩ := rd_own h
  cases hv
  exact hD
/-- Another block written: a row stays. -/
theorem own_keep {W W' : World} {B n sz p : Nat} {e t : TypeId} {v : Value} {xs : List Value} {cs : Array Value} (h : W.ownsRow B e sz v n xs) (z : W.heap[p]? = some (.cells cs t (0, 0))) (ne : e ≠ t) (o : Only W W' (fun k => k = p)) : W'.ownsRow B e sz v n xs := by
  refine ⟨h.1, ?_⟩
  rcases h.2 with h1 | ⟨g, cap, cur, hv, hb, hg, rest⟩
  · exact Or.inl h1
  · refine Or.inr ⟨g, cap, cur, hv, hb, o.cellK hg (fun e2 => ?_), rest⟩
    subst e2
    rw [z] at hg
    injection hg with hg
    injection hg with _ h2 _
    exact ne h2.symm
theorem one_cells {W : World} {v : Value} {t : TypeId} {p : Nat} (z : W.heap[p]? = some (.cells #[v] t (0, 0))) : ∀ (j : Nat) (u : Value), [v][j]? = some u → W.cell? ((⟨p, 0, none⟩ : Addr).add j) = some u := fun j u hu => by
  cases j with
  | zero =>
    obtain rfl : v = u := by simpa using hu
    rw [Addr.add_lit]
    exact cell_of z rfl
  | succ j => simp at hu
/-- A number behind a row of one's own. -/
theorem wpList_appI {ops : Array Oper} {rest : List Oper} {o : Oper} {a : Act} {Q : Exit → Act → World → Prop} {w : World} (hgd : o.guard = none) (s x : Operand)
    (ho : o.op = .call { callee := .builtin .append, args := #[s, x], argTypes := #[22, 22] }) (B : Nat) (v : Value) (X : List Int) (hs : a.eval s = v) (hown : w.ownsRow B 3 1 v X.length (X.map (Value.int .i64))) (p : Nat) (y : Int) (hx : a.eval x = .slice (some ⟨p, 0, none⟩) 1 1) (hp : w.heap[p]? = some (.cells #[.int .i64 y] 3 (0, 0))) (hl : X.length ≤ 16777216) (w0 : World) (D : Below B w0 w) (hB : B ≤ w0.heap.size)
    (h : ∀ v' w', Hid (w'.ownsRow B 3 1 v' (X ++ [y]).length ((X ++ [y]).map (Value.int .i64))) → Hid (Below B w0 w') → wpList Tryz.prog ops Q rest (a.put o.dst v') w') : wpList Tryz.prog ops Q (o :: rest) a w := by
  obtain ⟨i3, hi3, hz30, hz31, hz32⟩ := info_parts info3
  have hs0 := D.size
  refine wpList_append_own_at _ hgd s x 22 ho B 3 i3 _ 1 8 Tryz.underlying22 hi3 hz30 hz31 hz32 rfl (by omega) v X.length (X.map (Value.int .i64)) hs hown ⟨p, 0, none⟩ 1 1 [.int .i64 y] hx rfl (one_cells hp) (by simp [Value.oneCell']) (by unfold maxLen; omega) (by omega) (by omega) ?_
  intro v2 w2 h2 hgr _ _
  have hb := hown.lt
  exact h v2 w2 (hide (by rw [List.map_append, List.length_append]; exact h2)) (hide (D.grown hgr (by omega) (fun k hk => (hb k hk).1)))
def stepW (n : Int) (s : Bool × List Int) (x : Int) : Bool × List Int :=
  let t : Bool × List Int := if s.1 = false ∧ n ≤ x then (true, s.2 ++ [n]) else s
  if x = n then t else (t.1, t.2 ++ [x])
def wS (n : Int) (L : List Int) : Bool × List Int := L.foldl (stepW n) (false, [])
def withF (L : List Int) (n : Int) : List Int := if (wS n L).1 then (wS n L).2 else (wS n L).2 ++ [n]
theorem wS_take {n : Int} {L : List Int} {i : Nat} (h : i < L.length) : wS n (L.take (i + 1)) = stepW n (wS n (L.take i)) L[i] := by
  unfold wS
  rw [List.take_succ_eq_append_getElem h, List.foldl_append]
  rfl
theorem stepW_len (n : Int) (s : Bool × List Int) (x : Int) : (stepW n s x).2.length ≤ s.2.length + 2 := by
  unfold stepW
  simp only
  split <;> split <;> simp <;> omega
theorem foldW_len (n : Int) : ∀ (L : List Int) (s : Bool × List Int), (L.foldl (stepW n) s).2.length ≤ s.2.length + 2 * L.length
  | [], s => by simp
  | x :: L, s => by
    have h1 := stepW_len n s x
    have h2 := foldW_len n L (stepW n s x)
    simp only [List.foldl_cons, List.length_cons]
    omega
theorem wS_len (n : Int) (L : List Int) (i : Nat) : (wS n (L.take i)).2.length ≤ 2 * L.length := by
  have h := foldW_len n (L.take i) (false, [])
  have h2 : (L.take i).length ≤ L.length := by rw [List.length_take]; omega
  unfold wS
  simp only [List.length_nil] at h
  omega
set_option maxRecDepth 100000 in
set_option maxHeartbeats 4000000 in
theorem with_any (w : World) (ao : Option Addr) (L : List Int) (cp : Nat) (n : Int) (hr : Hid (RdN w ao L)) (hl : L.length ≤ 4194304) :
    Calls Tryz.prog 80 #[.slice ao L.length cp, .int .i64 n] w fun e w' => ∃ b c, e = .returned (.slice b (withF L n).length c) ∧ Hid (w'.ownsRow w.heap.size 3 1 (.slice b (withF L n).length c) (withF L n).length ((withF L n).map (Value.int .i64))) ∧ Below w.heap.size w w' := by
  go_enter Tryz.func80, Tryz.ntmps80
  go_wp2
  go_loopw [5, 6, 7] (fun ov pv iv wr => ∃ i : Nat, i ≤ L.length ∧ pv = .bool (wS n (L.take i)).1 ∧ iv = .int .i64 i ∧ Hid (wr.ownsRow w.heap.size 3 1 ov (wS n (L.take i)).2.length ((wS n (L.take i)).2.map (Value.int .i64)) ∧ Below w.heap.size w wr)) (fun _ _ iv _ => L.length - (intOf iv).toNat)
  case atStart => exact ⟨0, Nat.zero_le _, rfl, rfl, hide ⟨World.ownsRow_nil _ _ _ _, Below.refl _ _⟩⟩
  case round =>
    obtain ⟨i, hi, rfl, rfl, HY⟩ := hrel
    by_cases hlt : i < L.length
    · have i0 : (i : Int) < (L.length : Int) := by omega
      have i1 : (0 : Int) ≤ (i : Int) := by omega
      have iw : IntKind.i64.wrap ((i : Int) + 1) = (i : Int) + 1 := by rw [IntKind.wrap_i64]; omega
      have HLn : Hid ((wS n (L.take i)).2.length ≤ 8388608) := hide (by have := wS_len n L i; omega)
      obtain ⟨g, o, hao, q0⟩ := hr.out i hlt
      subst hao
      have QC0 : Hid (∀ w2, Below w.heap.size w w2 → w2.cell? ⟨g, o + i, none⟩ = some (.int .i64 L[i])) := hide (fun w2 d => (d.cell (p := ⟨g, o + i, none⟩) (World.block_lt_of_cell? w _ q0)).trans q0)
      have q := QC0.out wr HY.out.2
      clear q0
      have HS := hide (wS_take (n := n) hlt)
      generalize L[i] = x at q HS QC0
      generalize wS n (L.take i) = s at HY HS HLn ⊢
      obtain ⟨p, X⟩ := s
      simp only at HY HLn ⊢
      have NX : Hid (∀ (p2 : Bool) (X2 : List Int) (v2 : Value) (w2 : World), stepW n (p, X) x = (p2, X2) → w2.ownsRow w.heap.size 3 1 v2 X2.length (X2.map (Value.int .i64)) → Below w.heap.size w w2 → ∃ j : Nat, j ≤ L.length ∧ Value.bool p2 = .bool (wS n (L.take j)).1 ∧ Value.int .i64 ((i : Int) + 1) = .int .i64 j ∧ Hid (w2.ownsRow w.heap.size 3 1 v2 (wS n (L.take j)).2.length ((wS n (L.take j)).2.map (Value.int .i64)) ∧ Below w.heap.size w w2)) := hide (fun p2 X2 v2 w2 e o d => ⟨i + 1, by omega, by rw [HS.out, e], by simp, hide ⟨by rw [HS.out, e]; exact o, d⟩⟩)
      have QC := QC0
      cases p with
      | false =>
        by_cases hge : n ≤ x
        · by_cases he : x = n
          · have b0 : (x != n) = false := by simpa using he
            have HN := hide (show stepW n (false, X) x = (true, X ++ [n]) by simp [stepW, he])
            clear he
            go_wp2_with (at_builtin; refine wpList_appI rfl _ _ rfl w.heap.size u5 X rfl (own_below HY.out.1 ((Below.refl _ _).alloc (Nat.le_refl _) _)) wr.heap.size n rfl (World.alloc_heap_new _ _) (by have := HLn.out; (try simp only [List.length_append, List.length_cons, List.length_nil]); omega) w (HY.out.2.alloc HY.out.2.size _) (Nat.le_refl _) ?_; intro v2 w2 HO2 HD2; have q2 := QC.out w2 HD2.out)
            go_roundw
            case rel => exact NX.out _ _ _ _ HN.out HO2.out HD2.out
            case measure => simp [intOf]; omega
          · have b0 : (x != n) = true := by simpa using he
            have HN := hide (show stepW n (false, X) x = (true, X ++ [n] ++ [x]) by simp [stepW, hge, he])
            clear he
            go_wp2_with (first
              | (at_builtin; refine wpList_appI rfl _ _ rfl w.heap.size u5 X rfl (own_below HY.out.1 ((Below.refl _ _).alloc (Nat.le_refl _) _)) wr.heap.size n rfl (World.alloc_heap_new _ _) (by have := HLn.out; (try simp only [List.length_append, List.length_cons, List.length_nil]); omega) w (HY.out.2.alloc HY.out.2.size _) (Nat.le_refl _) ?_; intro v2 w2 HO2 HD2; have q2 := QC.out w2 HD2.out)
              | (at_builtin; refine wpList_appI rfl _ _ rfl w.heap.size v2 (X ++ [n]) rfl (own_below HO2.out ((Below.refl _ _).alloc (Nat.le_refl _) _)) w2.heap.size x rfl (World.alloc_heap_new _ _) (by have := HLn.out; (try simp only [List.length_append, List.length_cons, List.length_nil]); omega) w (HD2.out.alloc HD2.out.size _) (Nat.le_refl _) ?_; intro v3 w3 HO3 HD3))
            go_roundw
            case rel => exact NX.out _ _ _ _ HN.out HO3.out HD3.out
            case measure => simp [intOf]; omega
        · have he : ¬ x = n := by omega
          have b0 : (x != n) = true := by simpa using he
          have HN := hide (show stepW n (false, X) x = (false, X ++ [x]) by simp [stepW, hge, he])
          clear he
          go_wp2_with (at_builtin; refine wpList_appI rfl _ _ rfl w.heap.size u5 X rfl (own_below HY.out.1 ((Below.refl _ _).alloc (Nat.le_refl _) _)) wr.heap.size x rfl (World.alloc_heap_new _ _) (by have := HLn.out; (try simp only [List.length_append, List.length_cons, List.length_nil]); omega) w (HY.out.2.alloc HY.out.2.size _) (Nat.le_refl _) ?_; intro v2 w2 HO2 HD2)
          go_roundw
          case rel => exact NX.out _ _ _ _ HN.out HO2.out HD2.out
          case measure => simp [intOf]; omega
      | true =>
        by_cases he : x = n
        · have b0 : (x != n) = false := by simpa using he
          have HN := hide (show stepW n (true, X) x = (true, X) by simp [stepW, he])
          clear he
          go_wp2_with fail
          go_roundw
          case rel => exact NX.out _ _ _ _ HN.out HY.out.1 HY.out.2
          case measure => simp [intOf]; omega
        · have b0 : (x != n) = true := by simpa using he
          have HN := hide (show stepW n (true, X) x = (true, X ++ [x]) by simp [stepW, he])
          clear he
          go_wp2_with (at_builtin; refine wpList_appI rfl _ _ rfl w.heap.size u5 X rfl (own_below HY.out.1 ((Below.refl _ _).alloc (Nat.le_refl _) _)) wr.heap.size x rfl (World.alloc_heap_new _ _) (by have := HLn.out; (try simp only [List.length_append, List.length_cons, List.length_nil]); omega) w (HY.out.2.alloc HY.out.2.size _) (Nat.le_refl _) ?_; intro v2 w2 HO2 HD2)
          go_roundw
          case rel => exact NX.out _ _ _ _ HN.out HO2.out HD2.out
          case measure => simp [intOf]; omega
    · have i0 : ¬ (i : Int) < (L.length : Int) := by omega
      have etk : L.take i = L := List.take_of_length_le (by omega)
      have HLn : Hid ((wS n (L.take i)).2.length ≤ 8388608) := hide (by have := wS_len n L i; omega)
      rw [etk] at HY HLn ⊢
      have HF : Hid (withF L n = if (wS n L).1 then (wS n L).2 else (wS n L).2 ++ [n]) := hide rfl
      generalize wS n L = s at HY HF HLn ⊢
      obtain ⟨p, X⟩ := s
      simp only at HY HF HLn ⊢
      cases p with
      | false =>
        go_wp2_with (at_builtin; refine wpList_appI rfl _ _ rfl w.heap.size u5 X rfl (own_below HY.out.1 ((Below.refl _ _).alloc (Nat.le_refl _) _)) wr.heap.size n rfl (World.alloc_heap_new _ _) (by have := HLn.out; (try simp only [List.length_append, List.length_cons, List.length_nil]); omega) w (HY.out.2.alloc HY.out.2.size _) (Nat.le_refl _) ?_; intro v2 w2 HO2 HD2; have HF2 := HF.out; simp only [Bool.false_eq_true, if_false] at HF2; obtain ⟨b, c, hv⟩ := own_slice HO2.out; subst hv; have HF3 := hide HF2; clear HF2)
        refine bodyPost_ret (results_tmp rfl _ _ _) rfl ?_
        exact ⟨b, c, by rw [HF3.out, List.length_append]; rfl, by rw [HF3.out]; exact HO2, HD2.out⟩
      | true =>
        have HF2 := HF.out
        simp only [if_true] at HF2
        have HF3 := hide HF2
        clear HF2
        obtain ⟨b, c, hv⟩ := own_slice HY.out.1
        subst hv
        go_wp2_with fail
        refine bodyPost_ret (results_tmp rfl _ _ _) rfl ?_
        exact ⟨b, c, by rw [HF3.out]; rfl, by rw [HF3.out]; exact hide HY.out.1, HY.out.2⟩
theorem foldW_put (n : Int) : ∀ (X O : List Int), X.foldl (stepW n) (true, O) = (true, O ++ X.filter (fun x => decide (x ≠ n)))
  | [], O => by simp
  | x :: X, O => by
    rw [List.foldl_cons]
    by_cases h : x = n
    · rw [show stepW n (true, O) x = (true, O) by simp [stepW, h], foldW_put n X O]
      simp [h]
    · rw [show stepW n (true, O) x = (true, O ++ [x]) by simp [stepW, h], foldW_put n X (O ++ [x])]
      simp [h]
theorem foldW_up (n : Int) : ∀ (X O : List Int), X.Pairwise (· < ·) → (if (X.foldl (stepW n) (false, O)).1 then (X.foldl (stepW n) (false, O)).2 else (X.foldl (stepW n) (false, O)).2 ++ [n]) = O ++ X.filter (fun x => decide (x < n)) ++ [n] ++ X.filter (fun x => decide (n < x))
  | [], O, _ => by simp
  | x :: X, O, h => by
    rw [List.pairwise_cons] at h
    rw [List.foldl_cons]
    by_cases hx : x < n
    · rw [show stepW n (false, O) x = (false, O ++ [x]) by simp [stepW, show ¬ n ≤ x by omega, show ¬ x = n by omega], foldW_up n X (O ++ [x]) h.2]
      simp [hx, show ¬ n < x by omega]
    · have hgt : ∀ y ∈ X, n < y := fun y hy => by have := h.1 y hy; omega
      have f1 : X.filter (fun x => decide (x < n)) = [] := List.filter_eq_nil_iff.2 fun y hy => by have := hgt y hy; simp; omega
      have f2 : X.filter (fun x => decide (n < x)) = X := List.filter_eq_self.2 fun y hy => by simpa using hgt y hy
      have f3 : X.filter (fun x => decide (x ≠ n)) = X := List.filter_eq_self.2 fun y hy => by have := hgt y hy; simp; omega
      by_cases he : x = n
      · rw [show stepW n (false, O) x = (true, O ++ [n]) by simp [stepW, he], foldW_put, f3]
        simp [f1, f2, he]
      · rw [show stepW n (false, O) x = (true, O ++ [n] ++ [x]) by simp [stepW, he, show n ≤ x by omega], foldW_put, f3]
        simp [f1, f2, hx, show n < x by omega]
theorem with_up {X : List Int} (n : Int) (h : X.Pairwise (· < ·)) : withF X n = X.filter (fun x => decide (x < n)) ++ [n] ++ X.filter (fun x => decide (n < x)) := by
  unfold withF wS
  rw [foldW_up n X [] h, List.nil_append]
theorem rise_nil : riseL [] = [] := List.eq_nil_of_length_eq_zero (Nat.le_zero.1 (riseL_len []))
theorem with_rise (A : List Int) (n : Int) : withF (riseL A) n = riseL (A ++ [n]) := by
  have hs := riseL_ss A
  refine ssL_eq _ _ ?_ (riseL_ss _) fun x => ?_
  · rw [with_up n hs, List.append_assoc, List.pairwise_append]
    refine ⟨hs.filter _, ?_, ?_⟩
    · rw [List.singleton_append, List.pairwise_cons]
      exact ⟨fun y hy => by simpa using (List.mem_filter.1 hy).2, hs.filter _⟩
    · intro a ha b hb
      have h1 : a < n := by simpa using (List.mem_filter.1 ha).2
      rw [List.singleton_append, List.mem_cons] at hb
      rcases hb with rfl | hb
      · exact h1
      · have h2 : n < b := by simpa using (List.mem_filter.1 hb).2
        omega
  · rw [with_up n hs, riseL_iff]
    simp only [List.mem_append, List.mem_filter, List.mem_singleton, decide_eq_true_eq, riseL_iff]
    constructor
    · rintro ((⟨h, _⟩ | h) | ⟨h, _⟩)
      · exact Or.inl h
      · exact Or.inr h
      · exact Or.inl h
    · rintro (h | h)
      · rcases Int.lt_trichotomy x n with h1 | h1 | h1
        · exact Or.inl (Or.inl ⟨h, h1⟩)
        · exact Or.inl (Or.inr h1)
        · exact Or.inr ⟨h, h1⟩
      · exact Or.inl (Or.inr h)
set_option maxRecDepth 100000 in
set_option maxHeartbeats 4000000 in
theorem set_any (w : World) (ao : Option Addr) (L : List Int) (cp : Nat) (hr : Hid (RdN w ao L)) (hl : L.length ≤ 4194304) :
    Calls Tryz.prog 63 #[.slice ao L.length cp] w fun e w' => ∃ b c, e = .returned (.slice b (riseL L).length c) ∧ Hid (w'.ownsRow w.heap.size 3 1 (.slice b (riseL L).length c) (riseL L).length ((riseL L).map (Value.int .i64))) ∧ Below w.heap.size w w' := by
  go_enter Tryz.func63, Tryz.ntmps63
  go_wp2
  go_loopw [3, 4] (fun ov iv wr => ∃ i b c, i ≤ L.length ∧ ov = .slice b (riseL (L.take i)).length c ∧ iv = .int .i64 (i : Nat) ∧ Hid (wr.ownsRow w.heap.size 3 1 (.slice b (riseL (L.take i)).length c) (riseL (L.take i)).length ((riseL (L.take i)).map (Value.int .i64)) ∧ Below w.heap.size w wr)) (fun _ iv _ => L.length - (intOf iv).toNat)
  case atStart => exact ⟨0, none, 0, Nat.zero_le _, by rw [List.take_zero, rise_nil]; rfl, rfl, hide ⟨by rw [List.take_zero, rise_nil]; exact World.ownsRow_nil _ _ _ _, Below.refl _ _⟩⟩
  case round =>
    obtain ⟨i, b, c, hi, rfl, rfl, HY⟩ := hrel
    by_cases hlt : i < L.length
    · have i0 : (i : Int) < (L.length : Int) := by omega
      have i1 : (0 : Int) ≤ (i : Int) := by omega
      have iw : IntKind.i64.wrap ((i : Int) + 1) = (i : Int) + 1 := by rw [IntKind.wrap_i64]; omega
      obtain ⟨g, o, hao, q⟩ := (hr.out.on HY.out.2) i hlt
      subst hao
      have hlen : (riseL (L.take i)).length ≤ 4194304 := Nat.le_trans (riseL_len _) (by rw [List.length_take]; omega)
      have T := with_any wr b (riseL (L.take i)) c L[i] (hide (own_rdN HY.out.1)) hlen
      rw [with_rise, ← List.take_succ_eq_append_getElem hlt] at T
      generalize L[i] = x at q T
      generalize riseL (L.take i) = X at HY T ⊢
      clear hlen
      obtain ⟨Y, hY⟩ : ∃ Y, riseL (L.take (i + 1)) = Y := ⟨_, rfl⟩
      rw [hY] at T
      have HE := hide hY
      clear hY
      go_wp2_with (go_at_call 80; refine T.mono ?_; rintro e w2 ⟨b2, c2, rfl, HR, d2⟩; have HD := hide (HY.out.2.trans (d2.mono HY.out.2.size)); have HR2 := hide (owns_down HR.out HY.out.2.size); clear d2 HR)
      go_roundw
      case rel => exact ⟨i + 1, b2, c2, by omega, by rw [HE.out], by go_num, hide ⟨by rw [HE.out]; exact HR2.out, HD.out⟩⟩
      case measure => simp [intOf]; omega
    · have i0 : ¬ (i : Int) < (L.length : Int) := by omega
      have etk : L.take i = L := List.take_of_length_le (by omega)
      rw [etk] at HY ⊢
      go_wp2_with fail
      refine bodyPost_ret (results_tmp rfl _ _ _) rfl ?_
      exact ⟨b, c, rfl, hide HY.out.1, HY.out.2⟩
/-! ### A row of the ends -/
theorem kE_less (m : Nat) (L : List EdT) (c : Nat) : lessC (kE m L) c = (L.filter fun e => decide (e.1 * (m : Int) + e.2.1 < (c : Int))).length := by
  unfold lessC kE
  rw [List.filter_map, List.length_map]
  rfl
theorem key_up {m : Nat} {a b : EdT} (h : ltE a b = true) (ha : a.2.1 < (m : Int)) (hb : 0 ≤ b.2.1) : a.1 * (m : Int) + a.2.1 ≤ b.1 * (m : Int) + b.2.1 := by
  rw [ltE_iff] at h
  by_cases e : a.1 = b.1
  · rw [e]
    omega
  · have h2 : a.1 + 1 ≤ b.1 := by omega
    have h3 := Int.mul_le_mul_of_nonneg_right h2 (show (0 : Int) ≤ (m : Int) by omega)
    rw [Int.add_mul, Int.one_mul] at h3
    omega
theorem key_at {m : Nat} {Ed : List EdT} (hS : SsE Ed) (hF : ∀ e ∈ Ed, 0 ≤ e.2.1 ∧ e.2.1 < (m : Int)) (c i : Nat) (h : i < Ed.length) : Ed[i].1 * (m : Int) + Ed[i].2.1 < (c : Int) ↔ i < lessC (kE m Ed) c := by
  have := pre_count (fun e : EdT => decide (e.1 * (m : Int) + e.2.1 < (c : Int))) Ed (List.Pairwise.imp_of_mem (fun {a b} ha hb hab hc => by
    rw [decide_eq_true_eq] at hc ⊢
    have := key_up (m := m) hab (hF a ha).2 (hF b hb).1
    omega) hS) i h
  rw [kE_less, ← this, decide_eq_true_eq]
theorem key_one {m : Nat} {x1 x2 p s : Int} (hx : 0 ≤ x2 ∧ x2 < (m : Int)) (hs : 0 ≤ s ∧ s < (m : Int)) (h : x1 * (m : Int) + x2 = p * (m : Int) + s) : x1 = p ∧ x2 = s := by
  have m0 : (0 : Int) ≤ (m : Int) := by omega
  by_cases e : x1 = p
  · subst e
    exact ⟨rfl, by omega⟩
  · exfalso
    rcases Int.lt_or_gt_of_ne e with q | q
    · have h3 := Int.mul_le_mul_of_nonneg_right (show x1 + 1 ≤ p by omega) m0
      rw [Int.add_mul, Int.one_mul] at h3
      omega
    · have h3 := Int.mul_le_mul_of_nonneg_right (show p + 1 ≤ x1 by omega) m0
      rw [Int.add_mul, Int.one_mul] at h3
      omega
theorem row_eq {m p s k : Nat} {Ed : List EdT} (hS : SsE Ed) (hF : ∀ e ∈ Ed, 0 ≤ e.2.1 ∧ e.2.1 < (m : Int)) (hs : s < m) (hk : p * m + s = k) : subL Ed (lessC (kE m Ed) k) (lessC (kE m Ed) (k + 1)) = fromL Ed p (s : Int) := by
  have ek : (k : Int) = (p : Int) * (m : Int) + (s : Int) := by rw [← hk]; simp
  have le : lessC (kE m Ed) (k + 1) ≤ Ed.length := Nat.le_trans (lessC_le _ _) (Nat.le_of_eq (kE_len _ _))
  refine ss_eq _ _ (subL_ss hS _ _) (fromL_ss hS _ _) fun x => ⟨fun hx => ?_, fun hx => ?_⟩
  · obtain ⟨t, ht, rfl⟩ := List.getElem_of_mem hx
    obtain ⟨h2, e⟩ := subL_get t ht
    rw [subL_len le] at ht
    have a1 := key_at hS hF k _ h2
    have a2 := key_at hS hF (k + 1) _ h2
    have b1 : ¬ Ed[lessC (kE m Ed) k + t].1 * (m : Int) + Ed[lessC (kE m Ed) k + t].2.1 < (k : Int) := fun q => by have := a1.1 q; omega
    have b2 := a2.2 (by omega)
    have hm := List.getElem_mem h2
    rw [e, fromL_iff]
    exact ⟨hm, key_one (hF _ hm) ⟨by omega, by omega⟩ (by omega)⟩
  · rw [fromL_iff] at hx
    obtain ⟨hx, h1, h2⟩ := hx
    obtain ⟨i, hi, rfl⟩ := List.getElem_of_mem hx
    have a1 := key_at hS hF k i hi
    have a2 := key_at hS hF (k + 1) i hi
    rw [h1, h2] at a1 a2
    have b1 : lessC (kE m Ed) k ≤ i := Nat.le_of_not_lt fun q => by have := a1.2 q; omega
    have b2 := a2.1 (by omega)
    obtain ⟨t, rfl⟩ : ∃ t, i = lessC (kE m Ed) k + t := ⟨i - lessC (kE m Ed) k, by omega⟩
    have ht : t < (subL Ed (lessC (kE m Ed) k) (lessC (kE m Ed) (k + 1))).length := by rw [subL_len le]; omega
    obtain ⟨h3, e⟩ := subL_get t ht
    rw [← e]
    exact List.getElem_mem ht
theorem toL_len (L : List EdT) : (toL L).length = L.length := by simp [toL]
theorem toL_rd {w : World} {g o : Nat} {Ed : List EdT} (h : RdN w (some ⟨g, o, none⟩) (toL Ed)) (lo hi : Nat) : RdN w (some ⟨g, o + lo, none⟩) (toL (subL Ed lo hi)) := fun j hj => by
  have hj' : j < (subL Ed lo hi).length := by rw [toL_len] at hj; exact hj
  obtain ⟨h2, e⟩ := subL_get j hj'
  obtain ⟨g', o', he, q⟩ := h (lo + j) (by rw [toL_len]; exact h2)
  cases he
  refine ⟨g, o + lo, rfl, ?_⟩
  have e1 : (toL Ed)[lo + j]'(by rw [toL_len]; exact h2) = Ed[lo + j].2.2 := by simp [toL]
  have e2 : (toL (subL Ed lo hi))[j] = (subL Ed lo hi)[j].2.2 := by simp [toL]
  rw [show o + lo + j = o + (lo + j) by omega, q, e2, e, e1]
theorem row_cap {W : World} {B n c sz : Nat} {e : TypeId} {b : Option Addr} {xs : List Value} (h : W.ownsRow B e sz (.slice b n c) n xs) : (b = none ∧ n = 0 ∧ c = 0) ∨ ∃ g, b = some ⟨g, 0, none⟩ ∧ n ≤ c ∧ B ≤ g := by
  rcases h.2 with ⟨hv, hn⟩ | ⟨g', cap', cur', hv, hb, _, hc, _⟩
  · cases hv
    exact .inl ⟨rfl, rfl, rfl⟩
  · cases hv
    exact .inr ⟨g', rfl, hc, hb⟩
set_option maxRecDepth 100000 in
set_option maxHeartbeats 1000000 in
theorem of_any (w : World) (B m R p s n k : Nat) (aE : Option Addr) (cE g : Nat) (Ed : List EdT) (hn : Ed.length = n) (hA : Hid (RwA B w m R Ed aE n cE g)) (hS : Hid (SsE Ed)) (hF : Hid (∀ e ∈ Ed, 0 ≤ e.2.1 ∧ e.2.1 < (m : Int))) (hs : s < m) (hk : p * m + s = k) (hkR : k < R) (hR : R ≤ 524288) (hl : n ≤ 4194304) :
    Calls Tryz.prog 41 #[.agg #[.int .i64 (m : Int), .slice aE n cE, .slice (some ⟨g, 0, none⟩) (R + 1) (R + 1)], .int .i64 (p : Int), .int .i64 (s : Int)] w fun e w' => ∃ a c, e = .returned (.slice a (fromL Ed p (s : Int)).length c) ∧ Hid (RdN w a (toL (fromL Ed p (s : Int))) ∧ (fromL Ed p (s : Int)).length ≤ c ∧ Below w.heap.size w w') := by
  obtain ⟨W0, hW0⟩ : ∃ W0, w.alloc (.cells #[.int .i64 (m : Int), .slice aE n cE, .slice (some ⟨g, 0, none⟩) (R + 1) (R + 1)] 67) = W0 := ⟨_, rfl⟩
  have HD : Hid (Below w.heap.size w W0) := hide (by rw [← hW0]; exact (Below.refl _ _).alloc (Nat.le_refl _) _)
  have b0 : W0.heap[w.heap.size]? = some (.cells #[.int .i64 (m : Int), .slice aE n cE, .slice (some ⟨g, 0, none⟩) (R + 1) (R + 1)] 67 (0, 0)) := by rw [← hW0]; exact World.alloc_heap_new _ _
  have k0 : W0.cell? ⟨w.heap.size, 0, none⟩ = some (.int .i64 (m : Int)) := cell_of b0 rfl
  have k1 : W0.cell? ⟨w.heap.size, 1, none⟩ = some (.slice aE n cE) := cell_of b0 rfl
  have k2 : W0.cell? ⟨w.heap.size, 2, none⟩ = some (.slice (some ⟨g, 0, none⟩) (R + 1) (R + 1)) := cell_of b0 rfl
  have HM := hide (hA.out.fi.below HD.out hA.out.fi.lt)
  have r0 := HM.out.at k (by omega)
  have r1 := HM.out.at (k + 1) (by omega)
  have u0 := lessC_le (kE m Ed) k
  have u1 := lessC_le (kE m Ed) (k + 1)
  have u2 : lessC (kE m Ed) k ≤ lessC (kE m Ed) (k + 1) := by rw [lessC_succ]; omega
  rw [kE_len, hn] at u0 u1
  have HL := hide (subL_len (Es := Ed) (lo := lessC (kE m Ed) k) (hi := lessC (kE m Ed) (k + 1)) (by rw [hn]; exact u1))
  have HC := hide (row_cap hA.out.ow)
  have HO : Hid (RdN w aE (toL Ed)) := hide (own_rdN (c := cE) (by rw [toL_len, hn]; exact hA.out.ow))
  have HR : Hid (∀ g', aE = some ⟨g', 0, none⟩ → RdN w (some ⟨g', lessC (kE m Ed) k, none⟩) (toL (subL Ed (lessC (kE m Ed) k) (lessC (kE m Ed) (k + 1))))) := hide (fun g' e => by
    have q := HO.out
    rw [e] at q
    have q2 := toL_rd q (lessC (kE m Ed) k) (lessC (kE m Ed) (k + 1))
    rw [Nat.zero_add] at q2
    exact q2)
  rw [row_eq hS.out hF.out hs hk] at HL HR
  generalize fromL Ed p (s : Int) = F at HL HR ⊢
  generalize lessC (kE m Ed) k = lo at *
  generalize lessC (kE m Ed) (k + 1) = hi at *
  have epm : (p : Int) * (m : Int) = ((p * m : Nat) : Int) := by simp
  have e1 : IntKind.i64.wrap ((p : Int) * (m : Int)) = (p : Int) * (m : Int) := by rw [epm, IntKind.wrap_i64]; omega
  have e2 : IntKind.i64.wrap ((p : Int) * (m : Int) + (s : Int)) = (k : Int) := by rw [epm, IntKind.wrap_i64]; omega
  have e3 : IntKind.i64.wrap ((k : Int) + 1) = (k : Int) + 1 := by rw [IntKind.wrap_i64]; omega
  have v0 : (0 : Int) ≤ (k : Int) := by omega
  have v1 : (k : Int) < (R : Int) + 1 := by omega
  have v2 : (k : Int) + 1 < (R : Int) + 1 := by omega
  have v3 : (lo : Int) ≤ (hi : Int) := by omega
  have v5 : (k : Int) ≤ 524288 := by omega
  have v6 : (0 : Int) ≤ (lo : Int) := by omega
  clear b0 hA hS hF HO HM epm hk hn
  rcases HC.out with ⟨rfl, rfl, rfl⟩ | ⟨gE, rfl, hc, -⟩
  · obtain rfl : lo = 0 := by omega
    obtain rfl : hi = 0 := by omega
    have hn : F = [] := List.eq_nil_of_length_eq_zero (by have := HL.out; omega)
    subst hn
    clear HR HL HC u0 u1 u2
    go_enter Tryz.func41, Tryz.ntmps41
    go_upto_region 2 with fail
    refine wp_region_phase 13 #[true, true, true, true, true, true, true, true, true, true, true, true, true, false, false] (by kernel_rfl) (by kernel_rfl) ?_
    simp only [List.take_succ_cons, List.take_zero, List.drop_succ_cons, List.drop_zero]
    repeat (go_big_quiet_step (fail))
    refine wpQuiet_nil ?_
    intro wz hzz
    obtain ⟨nq, rfl⟩ := hzz
    go_wp2_with fail
    refine bodyPost_ret (results_tmp rfl _ _ _) rfl ?_
    exact ⟨none, 0, rfl, hide ⟨fun j hj => absurd hj (Nat.not_lt_zero _), Nat.le_refl _, below_drewN2 HD.out nq⟩⟩
  · have v4 : (hi : Int) ≤ (cE : Int) := by omega
    have HR2 := hide (HR.out gE rfl)
    clear HR HC
    go_enter Tryz.func41, Tryz.ntmps41
    go_upto_region 2 with fail
    refine wp_region_phase 13 #[true, true, true, true, true, true, true, true, true, true, true, true, true, false, false] (by kernel_rfl) (by kernel_rfl) ?_
    simp only [List.take_succ_cons, List.take_zero, List.drop_succ_cons, List.drop_zero]
    repeat (go_big_quiet_step (fail))
    refine wpQuiet_nil ?_
    intro wz hzz
    obtain ⟨nq, rfl⟩ := hzz
    go_wp2_with fail
    · rename cE = lo => hkl
      subst hkl
      refine bodyPost_ret (results_tmp rfl _ _ _) rfl ?_
      have hn : F = [] := List.eq_nil_of_length_eq_zero (by have := HL.out; omega)
      refine ⟨some ⟨gE, 0, none⟩, 0, by rw [HL.out]; rfl, hide ⟨by rw [hn]; intro j hj; exact absurd hj (Nat.not_lt_zero _), by rw [hn]; exact Nat.le_refl _, below_drewN2 HD.out nq⟩⟩
    · refine bodyPost_ret (results_tmp rfl _ _ _) rfl ?_
      exact ⟨some ⟨gE, lo, none⟩, cE - lo, by rw [HL.out]; rfl, hide ⟨HR2.out, by rw [HL.out]; omega, below_drewN2 HD.out nq⟩⟩
end Go.Proofs.YtchoopnjckcohaaGreat
