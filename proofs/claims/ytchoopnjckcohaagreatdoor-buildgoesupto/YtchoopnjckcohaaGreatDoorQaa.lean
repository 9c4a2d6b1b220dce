import Derived.Test.YtchoopnjckcohaaGreatDoorProg
import Derived.Deep.QuietTactic
import Derived.BigQuiet
import Derived.Below
import Derived.Deep.RegionHeld
import Derived.WalkKit
import Derived.WalkSpells
import Derived.WalkLawsBesides
import Derived.Lib.TrailingZeros
import Derived.Deep.AppendLies
import Derived.Deep.RegionWith
import Derived.BigRegion
import Derived.Deep.RegionHeld3
import Derived.RangeFuncRecord
import Derived.Deep.CutBlock
import Derived.Deep.CutRange
import Derived.Deep.DeepCutAuto
import Derived.Shelf.Small.Bits
import Derived.Shelf.Small.Wraps
import Derived.Shelf.Strconv.Itoa0
import Derived.Shelf.Slices.Turned
import Derived.Shelf.Slices.Equal
import Derived.Shelf.Slices.CompactI
import Derived.Shelf.Slices.SearchI
import Derived.Shelf.Slices.Cells
import Derived.Shelf.Slices.Empties2
import Derived.Shelf.SlicesE.Clone
import Derived.Shelf.SlSortCmp.Insertion
import Derived.Shelf.SlSortCmp.SiftDown1
import Derived.Shelf.SlSortCmp.HeapSort1
import Derived.Shelf.SlSortCmp.Insertion1
import Derived.Shelf.SlSortCmp.Median1
import Derived.Shelf.SlSortCmp.Pivot1
import Derived.Shelf.SlSortCmp.ReverseRange1
import Derived.Shelf.SlSortCmp.PartialInsertion1
import Derived.Shelf.SlSortCmp.PartitionEqual1
import Derived.Shelf.SlSortCmp.Partition1
import Derived.Shelf.SlSortCmp.Pdq1
import Derived.Shelf.SlSortCmp.Whole1
import Derived.Shelf.SlSortCmp.NoneTotal
import Derived.Ground.Names2Prog
import Derived.Ground.SlsfProg
import Derived.Lib.Small
import Derived.DeepKeys4
import Derived.Maps.OwnSet
set_option maxRecDepth 100000
set_option maxHeartbeats 40000000
namespace Go.Proofs.YtchoopnjckcohaaGreatDoor
section
variable {P : Program} {md : Region.Mode} {ops : Array Oper} {C : World → Prop}
def ClosedL (md : Region.Mode) (ops : Array Oper) (listed : Array Bool) : Prop :=
 ∀ (j : Nat) (oj : Oper), ops[j]? = some oj → listed.getD j true = true → ∀ e ∈ oj.after, Region.binds md e = true → listed.getD e.on false = true
def waitsL (md : Region.Mode) (ops : Array Oper) : Nat → Nat → Nat → Bool
 | 0, _, _ => false
 | f + 1, j, i => match ops[j]? with
  | none => false
  | some o => o.after.any fun e => Region.binds md e && (e.on == i || waitsL md ops f e.on i)
theorem getD_of (l : Array Bool) (i : Nat) (h : l.getD i true = false) : l.getD i false = false := by
 rcases Nat.lt_or_ge i l.size with h' | h'
 · simpa [h'] using h
 · simp [Array.getElem?_eq_none h']
theorem getD_to (l : Array Bool) (i : Nat) (h : l.getD i false = true) : l.getD i true = true := by
 rcases Nat.lt_or_ge i l.size with h' | h'
 · simpa [h'] using h
 · simp [Array.getElem?_eq_none h'] at h
theorem waits_un {listed : Array Bool} (hc : ClosedL md ops listed) {i : Nat} (hi : listed.getD i true = false) : ∀ (f j : Nat), waitsL md ops f j i = true → ∃ e oj, ops[j]? = some oj ∧ e ∈ oj.after ∧ Region.binds md e = true ∧ listed.getD e.on false = false
 | 0, _, h => by simp [waitsL] at h
 | f + 1, j, h => by
  unfold waitsL at h
  cases ho : ops[j]? with
  | none => simp [ho] at h
  | some oj =>
   simp only [ho] at h
   obtain ⟨e, he, h2⟩ : ∃ e ∈ oj.after, (Region.binds md e && (e.on == i || waitsL md ops f e.on i)) = true := by
    obtain ⟨i1, hi1, h2⟩ := Array.any_eq_true.1 h
    exact ⟨_, Array.getElem_mem hi1, h2⟩
   simp only [Bool.and_eq_true, Bool.or_eq_true, beq_iff_eq] at h2
   obtain ⟨hb, h3⟩ := h2
   refine ⟨e, oj, rfl, he, hb, ?_⟩
   rcases h3 with rfl | h3
   · exact getD_of _ _ hi
   · cases hx : listed.getD e.on false with
     | false => rfl
     | true =>
      obtain ⟨e', oj', h4, h5, h6, h7⟩ := waits_un hc hi f e.on h3
      have := hc _ _ h4 (getD_to _ _ hx) e' h5 h6
      rw [h7] at this; cases this
def phasedB (md : Region.Mode) (ops : Array Oper) (n : Nat) : Bool :=
 (List.range ops.size).all fun j => decide (j < n) || (List.range n).all fun i => waitsL md ops ops.size j i
theorem phased_lt {n : Nat} {listed : Array Bool} (hp : phasedB md ops n = true) (hc : ClosedL md ops listed) {i j : Nat} (hin : i < n) (hi : listed.getD i true = false) (hj : j ∈ Region.ready md ops listed) : j < n := by
 obtain ⟨h0, oj, ho, hall⟩ := mem_ready.1 hj
 rcases Nat.lt_or_ge j n with h | h
 · exact h
 · unfold phasedB at hp
   rw [List.all_eq_true] at hp
   have h1 := hp j (List.mem_range.2 (Array.getElem?_eq_some_iff.1 ho).1)
   simp only [Bool.or_eq_true, decide_eq_true_eq, List.all_eq_true, List.mem_range] at h1
   rcases h1 with h1 | h1
   · exact h1
   · obtain ⟨e, oj', h4, h5, h6, h7⟩ := waits_un hc hi _ _ (h1 i hin)
     rw [ho] at h4
     cases h4
     rw [hall e h5 h6] at h7
     cases h7
theorem ClosedL.set {listed : Array Bool} (hc : ClosedL md ops listed) {j : Nat} (hj : j ∈ Region.ready md ops listed) : ClosedL md ops (listed.setIfInBounds j true) := by
 intro k ok hk hl e he hb
 by_cases hjk : j = k
 · subst hjk
   obtain ⟨h0, oj, ho, hall⟩ := mem_ready.1 hj
   rw [ho] at hk
   cases hk
   exact getD_set_true (hall e he hb)
 · rw [getD_set_ne true hjk] at hl
   exact getD_set_true (hc k ok hk hl e he hb)
def wpFirst (P : Program) (md : Region.Mode) (ops : Array Oper) (C : World → Prop) (n : Nat) (T : Array Bool → Act → Prop) : Nat → Array Bool → Act → Prop
 | 0, listed, a => (∀ j, j < n → listed.getD j true = true) ∧ T listed a
 | m + 1, listed, a => Region.ready md ops listed ≠ [] ∧ ∀ i ∈ Region.ready md ops listed, qOp P ops C i (wpFirst P md ops C n T m (listed.setIfInBounds i true)) a
theorem wpAny_of_first {n : Nat} {T : Array Bool → Act → Prop} {Q : Exit → Act → World → Prop} {k : Nat} (hT : ∀ listed a w, C w → T listed a → wpAny P md ops Q k listed a w) :
 ∀ (m : Nat) (listed : Array Bool) (a : Act) (w : World), C w → wpFirst P md ops C n T m listed a → wpAny P md ops Q (k + m) listed a w
 | 0, _, _, _, hw, h => hT _ _ _ hw h.2
 | m + 1, _, _, _, hw, h => ⟨fun h0 => absurd h0 h.1, fun i hi => wpOp_of_qOp hw (fun a' w' hw' => wpAny_of_first hT m _ a' w' hw') (h.2 i hi)⟩
theorem wpFirst_first {n : Nat} {T : Array Bool → Act → Prop} {i : Nat} {oi : Oper} {v : Value} (hi : ops[i]? = some oi) (hin : i < n) (hp : phasedB md ops n = true)
 (hsel : ∀ (j : Nat) (o : Oper) cs b, ops[j]? = some o → o.op ≠ .select cs b) :
 ∀ (fuel : Nat) (listed : Array Bool) (a : Act), ClosedL md ops listed →
  (∀ j oj, ops[j]? = some oj → j ≠ i → listed.getD j true = false → (∀ e ∈ oj.after, Region.binds md e = true → e.on ≠ i) → oi.apart ops oj = true) →
  i ∈ Region.ready md ops listed → YieldsIn P ops C oi v a →
  wpFirst P md ops C n T fuel (listed.setIfInBounds i true) (a.put oi.dst v) → wpFirst P md ops C n T (fuel + 1) listed a := by
 intro fuel
 induction fuel with
 | zero =>
  intro listed a hc _ hr hy H
  refine ⟨fun h => (by rw [h] at hr; cases hr), fun j hj => ?_⟩
  by_cases hji : j = i
  · subst hji; exact hy.qOp hi H
  · have hjn := phased_lt hp hc hin (mem_ready.1 hr).1 hj
    have h1 := H.1 j hjn
    rw [getD_set_ne true (Ne.symm hji), (mem_ready.1 hj).1] at h1
    cases h1
 | succ fuel ih =>
  intro listed a hc hfree hr hy H
  refine ⟨fun h => (by rw [h] at hr; cases hr), fun j hj => ?_⟩
  by_cases hji : j = i
  · subst hji; exact hy.qOp hi H
  · have h1 := H.2 j (ready_mono hj hji)
    obtain ⟨hjun, oj, hoj, hall⟩ := mem_ready.1 hj
    have hnot : ∀ e ∈ oj.after, Region.binds md e = true → e.on ≠ i := fun e he hb heq => by
     have h1 := hall e he hb
     rw [heq, getD_of _ _ (mem_ready.1 hr).1] at h1
     cases h1
    have h2 := qOp_put hoj (hfree j oj hoj hji hjun hnot) (fun cs b => hsel i oi cs b hi) (fun cs b => hsel j oj cs b hoj) hy h1
    have hfree' : ∀ k ok, ops[k]? = some ok → k ≠ i → (listed.setIfInBounds j true).getD k true = false →
     (∀ e ∈ ok.after, Region.binds md e = true → e.on ≠ i) → oi.apart ops ok = true := fun k ok hk hki hun hno => by
     refine hfree k ok hk hki ?_ hno
     by_cases hjk : j = k
     · subst hjk; exact hjun
     · rw [getD_set_ne true hjk] at hun; exact hun
    refine qOp_mono (fun a' h3 => ih (listed.setIfInBounds j true) a' (hc.set hj) hfree' (ready_mono hr (Ne.symm hji)) h3.1 ?_) h2
    rw [Array.setIfInBounds_comm _ _ hji]
    exact h3.2
def firstB (md : Region.Mode) (ops : Array Oper) (n : Nat) : Nat → Nat → Array Bool → Array Bool → Bool
 | 0, _, listed, L => (List.range n).all (fun j => listed.getD j true) && decide (listed = L)
 | fuel + 1, k, listed, L => (Region.ready md ops listed).contains k && Region.free md ops listed k && decide (k < n) && firstB md ops n fuel (k + 1) (listed.setIfInBounds k true) L
theorem wpFirst_lex {n : Nat} {L : Array Bool} {Q : Act → Prop} (hs : Region.noSelect ops = true) (hp : phasedB md ops n = true) : ∀ (l : List Oper) (k : Nat) (listed : Array Bool) (a : Act), ClosedL md ops listed → (∀ j o, l[j]? = some o → ops[k + j]? = some o) →
 firstB md ops n l.length k listed L = true → wpQuiet P ops C Q l a → wpFirst P md ops C n (fun listed' a' => listed' = L ∧ Q a') l.length listed a
 | [], _, _, _, _, _, hB, h => by
  simp only [List.length_nil, firstB, Bool.and_eq_true, List.all_eq_true, List.mem_range, decide_eq_true_eq] at hB
  exact ⟨hB.1, hB.2, h⟩
 | o :: l, k, listed, a, hc, hl, hB, h => by
  have h0 : ops[k]? = some o := hl 0 o rfl
  simp only [List.length_cons, firstB, Bool.and_eq_true, decide_eq_true_eq] at hB
  obtain ⟨⟨⟨hr, hf⟩, hk⟩, hB'⟩ := hB
  have hr' : k ∈ Region.ready md ops listed := by simpa using hr
  have hst : qOp P ops C k (wpQuiet P ops C Q l) a := by unfold qOp; simp only [h0]; exact h
  obtain ⟨v, hy, hK⟩ := yieldsIn_of_qOp h0 hst
  exact wpFirst_first h0 hk hp (Region.noSelect_spec hs) l.length listed a hc (Region.free_spec h0 hf) hr' hy
   (wpFirst_lex hs hp l (k + 1) _ _ (hc.set hr') (fun j o' ho => by have := hl (j + 1) o' (by simpa using ho); simpa [Nat.add_assoc, Nat.add_comm 1 j] using this) hB' hK)
def lineB (md : Region.Mode) (ops : Array Oper) : Nat → Nat → Array Bool → Bool
 | 0, _, listed => (Region.ready md ops listed).isEmpty
 | fuel + 1, k, listed => decide (Region.ready md ops listed = [k]) && lineB md ops fuel (k + 1) (listed.setIfInBounds k true)
theorem wpAny_line {Q : Exit → Act → World → Prop} : ∀ (l : List Oper) (k : Nat) (listed : Array Bool) (a : Act) (w : World), (∀ j o, l[j]? = some o → ops[k + j]? = some o) →
 lineB md ops l.length k listed = true → wpList P ops Q l a w → wpAny P md ops Q l.length listed a w
 | [], _, _, _, _, _, hB, h => ⟨by simpa [lineB] using hB, h⟩
 | o :: l, k, listed, a, w, hl, hB, h => by
  have h0 : ops[k]? = some o := hl 0 o rfl
  simp only [List.length_cons, lineB, Bool.and_eq_true, decide_eq_true_eq] at hB
  obtain ⟨hr, hB'⟩ := hB
  refine ⟨fun h1 => (by rw [hr] at h1; cases h1), fun j hj => ?_⟩
  rw [hr] at hj
  obtain rfl := List.mem_singleton.1 hj
  have NX : ∀ a' w', wpList P ops Q l a' w' → wpAny P md ops Q l.length (listed.setIfInBounds j true) a' w' := fun a' w' =>
   wpAny_line l (j + 1) _ a' w' (fun i o' ho => by have := hl (i + 1) o' (by simpa using ho); simpa [Nat.add_assoc, Nat.add_comm 1 i] using this) hB'
  unfold wpOp
  simp only [h0]
  unfold wpList at h
  split
  · rename_i hw
    rw [if_pos hw] at h
    exact h.imp (Oper.wp_mono NX) id
  · rename_i hw
    rw [if_neg hw] at h
    exact NX _ _ h
theorem closed_none (md : Region.Mode) (ops : Array Oper) : ClosedL md ops (Array.replicate ops.size false) := by
 intro j oj ho hl
 have := (Array.getElem?_eq_some_iff.1 ho).1
 simp [this] at hl
def phaseB (ops : Array Oper) (n : Nat) (L : Array Bool) : Bool :=
 Nat.ble n ops.size && Region.noSelect ops && phasedB .any ops n && firstB .any ops n n 0 (Array.replicate ops.size false) L && lineB .any ops (ops.size - n) n L
theorem wp_region_phase {id : Nat} {Q : Exit → Act → World → Prop} {a : Act} {w : World} {l : List Oper} (n : Nat) (L : Array Bool) (hm : P.follows .mixedOrders = true) (hB : phaseB l.toArray n L = true)
 (h : wpQuiet P l.toArray (fun w' => ∃ n, w' = w.drewN n) (fun a' => ∀ w', (∃ n, w' = w.drewN n) → wpList P l.toArray Q (l.drop n) a' w') (l.take n) a) : (Code.region id l.toArray true).wp P Q a w := by
 unfold phaseB at hB
 simp only [Bool.and_eq_true] at hB
 obtain ⟨⟨⟨⟨h0, h1⟩, h2⟩, h3⟩, h4⟩ := hB
 have hn : n ≤ l.length := by simpa using Nat.le_of_ble_eq_true h0
 refine wp_region_any hm ?_
 have hl1 : (l.take n).length = n := by simp [hn]
 have hl2 : (l.drop n).length = l.toArray.size - n := by simp
 have F := wpFirst_lex (P := P) (C := fun w' => ∃ n, w' = w.drewN n) (L := L) h1 h2 (l.take n) 0 (Array.replicate l.toArray.size false) a (closed_none _ _)
  (fun j o ho => by
   rw [List.getElem?_take] at ho
   split at ho
   · simpa using ho
   · cases ho) (by rw [hl1]; exact h3) h
 have A := wpAny_of_first (Q := Q) (k := l.toArray.size - n) (fun listed a' w' hw' hT => by
  obtain ⟨e, hT⟩ := hT
  subst e
  have := wpAny_line (P := P) (md := .any) (Q := Q) (l.drop n) n _ a' w' (fun j o ho => by rw [List.getElem?_drop] at ho; simpa using ho) (by rw [hl2]; exact h4) (hT w' hw')
  rwa [hl2] at this) _ _ _ (w.drewN 1) ⟨1, rfl⟩ F
 rw [hl1, show l.toArray.size - n + n = l.toArray.size by simp only [List.size_toArray]; omega] at A
 exact A
end
open Go.RowKit
def cntM (f : Nat → Bool) : Nat → Nat
 | 0 => 0
 | n + 1 => cntM f n + (if f n then 1 else 0)
theorem cntM_same {f g : Nat → Bool} {n : Nat} (h : ∀ i, i < n → g i = f i) : cntM g n = cntM f n := by
 induction n with
 | zero => rfl
 | succ n ih => simp only [cntM]; rw [ih (fun i hi => h i (by omega)), h n (by omega)]
theorem cntM_drop {f g : Nat → Bool} {j : Nat} (hj : f j = true) (gj : g j = false) (h : ∀ i, i ≠ j → g i = f i) : ∀ n, j < n → cntM g n + 1 = cntM f n
 | 0, hn => by omega
 | n + 1, hn => by
  simp only [cntM]
  rcases Nat.lt_or_ge j n with h1 | h1
  · have := cntM_drop hj gj h n h1
    rw [h n (by omega)]
    omega
  · have e : j = n := by omega
    subst e
    rw [cntM_same (f := f) (g := g) (fun i hi => h i (by omega)), hj, gj]
    simp
theorem cntM_least {f : Nat → Bool} : ∀ n, 0 < cntM f n → ∃ i, i < n ∧ f i = true ∧ ∀ j, j < i → f j = false
 | 0, h => by simp [cntM] at h
 | n + 1, h => by
  rcases Nat.eq_zero_or_pos (cntM f n) with h0 | h0
  · refine ⟨n, by omega, ?_, ?_⟩
    · simp only [cntM, h0] at h
      cases hf : f n with
      | true => rfl
      | false => rw [hf] at h; simp at h
    · intro j hj
      cases hf : f j with
      | false => rfl
      | true =>
       exfalso
       have : ∀ n, j < n → 0 < cntM f n := by
        intro n
        induction n with
        | zero => intro h; omega
        | succ n ih =>
         intro h
         simp only [cntM]
         rcases Nat.lt_or_ge j n with h1 | h1
         · have := ih h1; omega
         · have e : j = n := by omega
           subst e; rw [hf]; simp
       have := this n hj
       omega
  · obtain ⟨i, h1, h2, h3⟩ := cntM_least n h0
    exact ⟨i, by omega, h2, h3⟩
theorem cntM_zero {f : Nat → Bool} : ∀ n, cntM f n = 0 → ∀ i, i < n → f i = false
 | 0, _, i, h => by omega
 | n + 1, h, i, hi => by
  simp only [cntM] at h
  rcases Nat.lt_or_ge i n with h1 | h1
  · exact cntM_zero n (by omega) i h1
  · have e : i = n := by omega
    subst e
    cases hf : f i with
    | false => rfl
    | true => rw [hf] at h; simp at h
section
variable {P : Program} {ops : Array Oper} {Q : Exit → Act → World → Prop}
def updV (y : Nat → Value) (i : Nat) (x : Value) : Nat → Value := fun j => if j = i then x else y j
def Hop (P : Program) (ops : Array Oper) (Q : Exit → Act → World → Prop) (w : World) (fill : (Nat → Value) → Act) (Φ : Nat → Value → Nat → Nat → World → Prop) (i : Nat) (o : Oper) : Prop :=
 ∀ (y : Nat → Value) (W : World), Below w.heap.size w W → (∀ e ∈ o.after, Region.binds .any e = true → ∃ lo hi, hi ≤ W.heap.size ∧ Φ e.on (y e.on) lo hi W) →
  ∀ K : Act → World → Prop, Shut (∀ x a' W', Below W.heap.size W W' → Φ i x W.heap.size W'.heap.size W' → a' = fill (updV y i x) → K a' W') → if Region.wanted o (yielded ops (fill y).tmps) = true then Oper.wp P o (fill y) W K Q else K ((fill y).put o.dst undef) W
def Hops (P : Program) (ops : Array Oper) (Q : Exit → Act → World → Prop) (w : World) (fill : (Nat → Value) → Act) (Φ : Nat → Value → Nat → Nat → World → Prop) : Nat → List Oper → Prop
 | _, [] => True
 | k, o :: r => Hop P ops Q w fill Φ k o ∧ Hops P ops Q w fill Φ (k + 1) r
theorem Hops.at {w : World} {fill : (Nat → Value) → Act} {Φ : Nat → Value → Nat → Nat → World → Prop} : ∀ (l : List Oper) (k i : Nat) (o : Oper), Hops P ops Q w fill Φ k l → l[i]? = some o → Hop P ops Q w fill Φ (k + i) o
 | [], _, _, _, _, h => by simp at h
 | o' :: r, k, 0, o, H, h => by simp at h; subst h; exact H.1
 | o' :: r, k, i + 1, o, H, h => by
  have := Hops.at r (k + 1) i o H.2 (by simpa using h)
  rwa [show k + 1 + i = k + (i + 1) by omega] at this
structure Made (w : World) (Φ : Nat → Value → Nat → Nat → World → Prop) (ops : Array Oper) (n : Nat) (is : Nat → Bool) (y : Nat → Value) (lo hi : Nat → Nat) (W : World) : Prop where
 d : Below w.heap.size w W
 fact : ∀ i, i < n → is i = true → Φ i (y i) (lo i) (hi i) W
 at' : ∀ i, i < n → is i = true → w.heap.size ≤ lo i ∧ lo i ≤ hi i ∧ hi i ≤ W.heap.size
 apart : ∀ i j, i < n → j < n → is i = true → is j = true → i ≠ j → hi i ≤ lo j ∨ hi j ≤ lo i
 order : ∀ j o e, j < n → is j = true → ops[j]? = some o → e ∈ o.after → Region.binds .any e = true → hi e.on ≤ lo j
def depsB (ops : Array Oper) (n : Nat) : Bool := (List.range n).all fun i => match ops[i]? with
 | none => false
 | some o => o.after.all fun e => !Region.binds .any e || decide (e.on < i)
theorem depsB_at {n : Nat} (h : depsB ops n = true) {i : Nat} (hi : i < n) : ∃ o, ops[i]? = some o ∧ ∀ e ∈ o.after, Region.binds .any e = true → e.on < i := by
 unfold depsB at h
 rw [List.all_eq_true] at h
 have := h i (List.mem_range.2 hi)
 split at this
 · cases this
 · rename_i o ho
   refine ⟨o, ho, fun e he hb => ?_⟩
   rw [Array.all_eq_true_iff_forall_mem] at this
   have := this e he
   rw [hb] at this
   simpa using this
theorem line_more {L : List Oper} : ∀ (x k : Nat) (listed : Array Bool) (a : Act) (w : World), (∀ j o, L[j]? = some o → ops[k + j]? = some o) →
 lineB .any ops L.length k listed = true → wpList P ops Q L a w → wpAny P .any ops Q (L.length + x) listed a w := by
 induction L with
 | nil =>
  intro x k listed a w _ hB h
  have hr : Region.ready .any ops listed = [] := by simpa [lineB] using hB
  cases x with
  | zero => exact ⟨hr, h⟩
  | succ x => exact ⟨fun _ => h, fun i hi => by rw [hr] at hi; cases hi⟩
 | cons o L ih =>
  intro x k listed a w hl hB h
  have h0 : ops[k]? = some o := hl 0 o rfl
  simp only [List.length_cons, lineB, Bool.and_eq_true, decide_eq_true_eq] at hB
  obtain ⟨hr, hB'⟩ := hB
  rw [List.length_cons, show L.length + 1 + x = (L.length + x) + 1 by omega]
  refine ⟨fun h1 => (by rw [hr] at h1; cases h1), fun j hj => ?_⟩
  rw [hr] at hj
  obtain rfl := List.mem_singleton.1 hj
  have NX : ∀ a' w', wpList P ops Q L a' w' → wpAny P .any ops Q (L.length + x) (listed.setIfInBounds j true) a' w' := fun a' w' =>
   ih x (j + 1) _ a' w' (fun i o' ho => by have := hl (i + 1) o' (by simpa using ho); simpa [Nat.add_assoc, Nat.add_comm 1 i] using this) hB'
  unfold wpOp
  simp only [h0]
  unfold wpList at h
  split
  · rename_i hw
    rw [if_pos hw] at h
    exact h.imp (Oper.wp_mono NX) id
  · rename_i hw
    rw [if_neg hw] at h
    exact NX _ _ h
theorem make_go {w : World} {fill : (Nat → Value) → Act} {Φ : Nat → Value → Nat → Nat → World → Prop} {n : Nat} {l2 : List Oper} {l1 : List Oper}
 (hp : phasedB .any ops n = true) (hdep : depsB ops n = true) (hl1 : ∀ j o, l1[j]? = some o ↔ (j < n ∧ ops[j]? = some o)) (hl2 : ∀ j o, l2[j]? = some o → ops[n + j]? = some o)
 (hline : ∀ listed : Array Bool, listed.size = ops.size → (∀ i, listed.getD i true = decide (i < n ∨ ops.size ≤ i)) → lineB .any ops l2.length n listed = true)
 (hmono : ∀ i x lo hi W W', i < n → hi ≤ W.heap.size → Below W.heap.size W W' → Φ i x lo hi W → Φ i x lo hi W')
 (hop : Hops P ops Q w fill Φ 0 l1)
 (hfin : ∀ y lo hi W, Made w Φ ops n (fun _ => true) y lo hi W → wpList P ops Q l2 (fill y) W) :
 ∀ (m : Nat) (x : Nat) (listed : Array Bool) (y : Nat → Value) (lo hi : Nat → Nat) (W : World), listed.size = ops.size → (∀ i, n ≤ i → i < ops.size → listed.getD i true = false) → ClosedL .any ops listed → cntM (fun i => !listed.getD i true) n = m →
  Made w Φ ops n (fun i => listed.getD i true) y lo hi W → wpAny P .any ops Q (l2.length + m + x) listed (fill y) W := by
 intro m
 induction m with
 | zero =>
  intro x listed y lo hi W hsz hge hc hcnt hM
  have hall : ∀ i, i < n → listed.getD i true = true := fun i hi => by
   have := cntM_zero n hcnt i hi
   simpa using this
  refine line_more x n listed (fill y) W hl2 (hline listed hsz ?_) (hfin y lo hi W ?_)
  · intro i
    rcases Nat.lt_or_ge i n with h | h
    · rw [hall i h]; simp [h]
    · rcases Nat.lt_or_ge i ops.size with h2 | h2
      · rw [hge i h h2]; symm; simp; omega
      · rw [show listed.getD i true = true by simp [Array.getElem?_eq_none (show listed.size ≤ i by omega)]]; symm; simp; omega
  · exact ⟨hM.d, fun i hi _ => hM.fact i hi (hall i hi), fun i hi _ => hM.at' i hi (hall i hi), fun i j hi hj _ _ h => hM.apart i j hi hj (hall i hi) (hall j hj) h, fun j o e hj _ ho he hb => hM.order j o e hj (hall j hj) ho he hb⟩
 | succ m ih =>
  intro x listed y lo hi W hsz hge hc hcnt hM
  obtain ⟨i0, hi0, hf0, hless⟩ := cntM_least (f := fun i => !listed.getD i true) n (by omega)
  have hun : listed.getD i0 true = false := by simpa using hf0
  obtain ⟨o0, ho0, hd0⟩ := depsB_at hdep hi0
  have hin : ∀ i, i < n → i < listed.size := fun i hi => by
   obtain ⟨o, ho, _⟩ := depsB_at hdep hi
   have := (Array.getElem?_eq_some_iff.1 ho).1
   omega
  have hready : i0 ∈ Region.ready .any ops listed := mem_ready.2 ⟨hun, o0, ho0, fun e he hb => by
   have h1 := hd0 e he hb
   have h2 := hless e.on h1
   have h3 : listed.getD e.on true = true := by simpa using h2
   have h4 := hin e.on (by omega)
   simpa [h4] using h3⟩
  rw [show l2.length + (m + 1) + x = (l2.length + m + x) + 1 by omega]
  refine ⟨fun h => (by rw [h] at hready; cases hready), fun j hj => ?_⟩
  have hjn : j < n := phased_lt hp hc hi0 hun hj
  obtain ⟨hjun, oj, hoj, hall⟩ := mem_ready.1 hj
  have H := Hops.at l1 0 j oj hop ((hl1 j oj).2 ⟨hjn, hoj⟩)
  rw [Nat.zero_add] at H
  refine wpOp_step hoj (fun K' hK => H y W hM.d (fun e he hb => ?_) K' ?_)
  · have h1 := hall e he hb
    obtain ⟨o', ho', hd'⟩ := depsB_at hdep hjn
    rw [hoj] at ho'
    cases ho'
    have h2 := hd' e he hb
    have h3 := getD_to _ _ h1
    exact ⟨lo e.on, hi e.on, (hM.at' e.on (by omega) h3).2.2, hM.fact e.on (by omega) h3⟩
  · rintro v a' W' hB hΦ rfl
    have hsj := hin j hjn
    have g1 : (listed.setIfInBounds j true).getD j true = true := by simp [hsj]
    refine hK _ _ ?_
    refine ih x (listed.setIfInBounds j true) (updV y j v) (fun i => if i = j then W.heap.size else lo i) (fun i => if i = j then W'.heap.size else hi i) W' (by simp [hsz]) (fun i h1 h2 => ?_) (hc.set hj) ?_ ?_
    · rw [getD_set_ne true (by omega)]; exact hge i h1 h2
    · have := cntM_drop (f := fun i => !listed.getD i true) (g := fun i => !(listed.setIfInBounds j true).getD i true) (j := j) (by simp only [hjun]; rfl) (by simp only [g1]; rfl) (fun i hi => by simp only [getD_set_ne true (Ne.symm hi)]) n hjn
      omega
    · have old : ∀ i, i ≠ j → (listed.setIfInBounds j true).getD i true = true → listed.getD i true = true := fun i h1 h2 => by rwa [getD_set_ne true (Ne.symm h1)] at h2
      have hs := hM.d.size
      have hs2 := hB.size
      refine ⟨hM.d.trans (hB.mono hs), fun i hi h => ?_, fun i hi h => ?_, fun i k hi hk h1 h2 hne => ?_, fun k o e hk h1 ho he hb => ?_⟩
      · by_cases e : i = j
        · subst e; simp only [updV, if_pos]; exact hΦ
        · simp only [updV, if_neg e]; exact hmono i _ _ _ W W' hi (hM.at' i hi (old i e h)).2.2 hB (hM.fact i hi (old i e h))
      · by_cases e : i = j
        · subst e; simp only [if_pos]; exact ⟨hs, hs2, Nat.le_refl _⟩
        · simp only [if_neg e]; have := hM.at' i hi (old i e h); exact ⟨this.1, this.2.1, by omega⟩
      · by_cases e : i = j
        · have e2 : k ≠ j := fun h => hne (by rw [e, h])
          simp only [if_pos e, if_neg e2]
          exact Or.inr (hM.at' k hk (old k e2 h2)).2.2
        · by_cases e2 : k = j
          · simp only [if_neg e, if_pos e2]
            exact Or.inl (hM.at' i hi (old i e h1)).2.2
          · simp only [if_neg e, if_neg e2]
            exact hM.apart i k hi hk (old i e h1) (old k e2 h2) hne
      · obtain ⟨o', ho', hd'⟩ := depsB_at hdep hk
        rw [ho] at ho'
        cases ho'
        have hlt := hd' e he hb
        by_cases e1 : k = j
        · subst e1
          rw [hoj] at ho
          cases ho
          have h3 := getD_to _ _ (hall e he hb)
          have e2 : e.on ≠ k := by omega
          simp only [if_pos, if_neg e2]
          exact (hM.at' e.on (by omega) h3).2.2
        · have h4 := old k e1 h1
          have h5 := getD_to _ _ (hc k o ho h4 e he hb)
          have e2 : e.on ≠ j := fun h => by rw [h, hjun] at h5; cases h5
          simp only [if_neg e1, if_neg e2]
          exact hM.order k o e hk h4 ho he hb
def makeB (ops : Array Oper) (n : Nat) : Bool := Nat.ble n ops.size && phasedB .any ops n && depsB ops n && lineB .any ops (ops.size - n) n (Array.ofFn (n := ops.size) fun i => decide (i.1 < n))
theorem wp_region_make {id : Nat} {a : Act} {w : World} {l : List Oper} (n : Nat) (fill : (Nat → Value) → Act) (Φ : Nat → Value → Nat → Nat → World → Prop) (y0 : Nat → Value) (hm : P.follows .mixedOrders = true) (hB : makeB l.toArray n = true) (ha : a = fill y0)
 (hmono : ∀ i x lo hi W W', i < n → hi ≤ W.heap.size → Below W.heap.size W W' → Φ i x lo hi W → Φ i x lo hi W')
 (hop : Hops P l.toArray Q w fill Φ 0 (l.take n))
 (hfin : ∀ y lo hi W, Made w Φ l.toArray n (fun _ => true) y lo hi W → wpList P l.toArray Q (l.drop n) (fill y) W) : (Code.region id l.toArray true).wp P Q a w := by
 unfold makeB at hB
 simp only [Bool.and_eq_true] at hB
 obtain ⟨⟨⟨h0, h2⟩, h3⟩, h4⟩ := hB
 have hn : n ≤ l.length := by simpa using Nat.le_of_ble_eq_true h0
 refine wp_region_any hm ?_
 have hl2 : (l.drop n).length = l.toArray.size - n := by simp
 have F := make_go (P := P) (Q := Q) (w := w) (fill := fill) (Φ := Φ) (n := n) (ops := l.toArray) (l1 := l.take n) (l2 := l.drop n) h2 h3
  (fun j o => by
   rw [List.getElem?_take]
   split
   · rename_i h; simp [h]
   · rename_i h; constructor
     · intro h'; cases h'
     · intro h'; exact absurd h'.1 h)
  (fun j o ho => by rw [List.getElem?_drop] at ho; simpa using ho)
  (fun listed hs hg => by
   rw [hl2]
   have e : listed = Array.ofFn (n := l.toArray.size) fun i => decide (i.1 < n) := by
    refine Array.ext (by simp [hs]) (fun i h5 h6 => ?_)
    have := hg i
    simp only [Array.getElem_ofFn]
    have e1 : listed.getD i true = listed[i] := by simp [h5]
    rw [← e1, this]
    have : i < l.toArray.size := by omega
    by_cases h7 : i < n
    · simp [h7]
    · simp only [h7, false_or, decide_false, decide_eq_false_iff_not]; omega
   rw [e]; exact h4)
  hmono hop hfin n 0 (Array.replicate l.toArray.size false) y0 (fun _ => 0) (fun _ => 0) (w.drewN 1) (by simp) (fun i h5 h6 => by simp at h6; simp [h6]) (closed_none _ _) ?_ ?_
 · rw [ha]
   have e : (l.drop n).length + n + 0 = l.toArray.size := by rw [hl2]; simp; omega
   rw [e] at F
   exact F
 · have : ∀ k, k ≤ n → cntM (fun i => !(Array.replicate l.toArray.size false).getD i true) k = k := by
    intro k
    induction k with
    | zero => intro _; rfl
    | succ k ih =>
     intro hk
     have h5 : k < l.toArray.size := by simp; omega
     simp only [cntM]
     rw [ih (by omega)]
     have : (Array.replicate l.toArray.size false).getD k true = false := by simp at h5; simp [h5]
     simp only [this]; rfl
   exact this n (Nat.le_refl _)
 · have none : ∀ i, i < n → (Array.replicate l.toArray.size false).getD i true = true → False := fun i hi h => by
    have : i < l.length := by omega
    simp [this] at h
   exact ⟨⟨rfl, rfl, rfl, Nat.le_refl _, fun _ _ => rfl⟩, fun i hi h => (none i hi h).elim, fun i hi h => (none i hi h).elim, fun i j hi _ h _ _ => (none i hi h).elim, fun j o e hj h _ _ _ => (none j hj h).elim⟩
def fills : Nat → List Oper → (Nat → Value) → Act → Act
 | _, [], _, a => a
 | k, o :: r, y, a => fills (k + 1) r y (a.put o.dst (y k))
def firstY (l : List Oper) (a : Act) (i : Nat) : Value := match l[i]? with
 | none => undef
 | some o => match o.dst with
  | none => undef
  | some d => a.tmps.getD d undef
theorem put_self (a : Act) (d : Nat) : a.put (some d) (a.tmps.getD d undef) = a := by
 unfold Act.put
 have : a.tmps.setIfInBounds d (a.tmps.getD d undef) = a.tmps := by
  refine Array.ext (by simp) (fun i h1 h2 => ?_)
  by_cases e : d = i
  · subst e
    simp [h2]
  · rw [Array.getElem_setIfInBounds_ne (by simpa using h1) e]
 simp only [this]
theorem fills_self (l : List Oper) (a : Act) : ∀ (r : List Oper) (k : Nat), (∀ j o, r[j]? = some o → l[k + j]? = some o) → fills k r (firstY l a) a = a
 | [], _, _ => rfl
 | o :: r, k, h => by
  have h0 : l[k]? = some o := h 0 o rfl
  have e : a.put o.dst (firstY l a k) = a := by
   unfold firstY
   rw [h0]
   show a.put o.dst (match o.dst with
    | none => undef
    | some d => a.tmps.getD d undef) = a
   cases o.dst with
   | none => rfl
   | some d => exact put_self a d
  unfold fills
  rw [e]
  exact fills_self l a r (k + 1) (fun j o' ho => by have := h (j + 1) o' (by simpa using ho); rwa [show k + 1 + j = k + (j + 1) by omega])
theorem wp_region_mk {id : Nat} {a : Act} {w : World} {l : List Oper} (n : Nat) (Φ : Nat → Value → Nat → Nat → World → Prop) (hm : P.follows .mixedOrders = true) (hB : makeB l.toArray n = true)
 (hmono : ∀ i x lo hi W W', i < n → hi ≤ W.heap.size → Below W.heap.size W W' → Φ i x lo hi W → Φ i x lo hi W')
 (h : ∀ F : (Nat → Value) → Act, F = (fun y => fills 0 (l.take n) y a) → Hops P l.toArray Q w F Φ 0 (l.take n) ∧ ∀ y lo hi W, Made w Φ l.toArray n (fun _ => true) y lo hi W → wpList P l.toArray Q (l.drop n) (F y) W) : (Code.region id l.toArray true).wp P Q a w :=
 wp_region_make n _ Φ (firstY l a) hm hB (fills_self l a (l.take n) 0 (fun j o ho => by
  rw [List.getElem?_take] at ho
  split at ho
  · simpa using ho
  · cases ho)).symm hmono (h _ rfl).1 (h _ rfl).2
abbrev MkP := Value → Nat → Nat → World → Prop
def MonoP (p : MkP) : Prop := ∀ x lo hi W W', hi ≤ W.heap.size → Below W.heap.size W W' → p x lo hi W → p x lo hi W'
def MonoL : List MkP → Prop
 | [] => True
 | p :: r => MonoP p ∧ MonoL r
def phiL (L : List MkP) (i : Nat) : MkP := L.getD i (fun _ _ _ _ => True)
theorem MonoL.at : ∀ (L : List MkP) (i : Nat), MonoL L → MonoP (phiL L i)
 | [], _, _ => fun _ _ _ _ _ _ _ h => h
 | _ :: _, 0, h => h.1
 | _ :: r, i + 1, h => MonoL.at r i h.2
def isV (v : Value) : MkP := fun x _ _ _ => x = v
theorem isV_mono (v : Value) : MonoP (isV v) := fun _ _ _ _ _ _ _ h => h
theorem wp_region_mkL {id : Nat} {a : Act} {w : World} {l : List Oper} (L : List MkP) (hm : P.follows .mixedOrders = true) (hB : makeB l.toArray L.length = true) (hmono : MonoL L)
 (h : ∀ F : (Nat → Value) → Act, F = (fun y => fills 0 (l.take L.length) y a) → Hops P l.toArray Q w F (phiL L) 0 (l.take L.length) ∧ ∀ y lo hi W, Made w (phiL L) l.toArray L.length (fun _ => true) y lo hi W → wpList P l.toArray Q (l.drop L.length) (F y) W) : (Code.region id l.toArray true).wp P Q a w :=
 wp_region_mk L.length (phiL L) hm hB (fun i x lo hi W W' _ => MonoL.at L i hmono x lo hi W W') h
end
section
variable {P : Program} {ops : Array Oper} {Q : Exit → Act → World → Prop}
def ndB (e : Edge) : Bool := match e.ground with
 | .data => true
 | .guard => true
 | _ => false
structure It where
 reads : List Nat
 ret : List Nat
 p : (Nat → Value) → Nat → Nat → World → Prop
def itL (L : List It) (i : Nat) : It := L.getD i ⟨[], [], fun _ _ _ _ => True⟩
def MonI (i : Nat) (t : It) : Prop := ∀ y y' lo hi W W', hi ≤ W.heap.size → Below W.heap.size W W' → (∀ j, j = i ∨ j ∈ t.reads → y' j = y j) → t.p y lo hi W → t.p y' lo hi W'
def MonIL : Nat → List It → Prop
 | _, [] => True
 | k, t :: r => MonI k t ∧ MonIL (k + 1) r
theorem MonIL.at : ∀ (L : List It) (k i : Nat), MonIL k L → MonI (k + i) (itL L i)
 | [], _, _, _ => fun _ _ _ _ _ _ _ _ _ h => h
 | _ :: _, _, 0, h => h.1
 | _ :: r, k, i + 1, h => by
  have := MonIL.at r (k + 1) i h.2
  rwa [show k + 1 + i = k + (i + 1) by omega] at this
def Stp (w : World) (L : List It) (i : Nat) (y : Nat → Value) (W W' : World) : Prop := Below w.heap.size w W' ∧ W.heap.size ≤ W'.heap.size ∧ ∀ j, j ≠ i → j ∉ (itL L i).ret → ∀ lo hi, hi ≤ W.heap.size → (itL L j).p y lo hi W → (itL L j).p y lo hi W'
theorem stp_of {w : World} {L : List It} {i : Nat} {y : Nat → Value} {W W' : World} (hm : MonIL 0 L) (d : Below w.heap.size w W) (d1 : Below W.heap.size W W') : Stp w L i y W W' :=
 ⟨d.trans (d1.mono d.size), d1.size, fun j _ _ lo hi hs h => by
  have := MonIL.at L 0 j hm y y lo hi W W' hs d1 (fun _ _ => rfl)
  exact this h⟩
def HopI (P : Program) (ops : Array Oper) (Q : Exit → Act → World → Prop) (w : World) (fill : (Nat → Value) → Act) (L : List It) (i : Nat) (o : Oper) : Prop :=
 ∀ (y : Nat → Value) (W : World), Below w.heap.size w W → (∀ e ∈ o.after, Region.binds .any e = true → ndB e = true → ∃ lo hi, w.heap.size ≤ lo ∧ hi ≤ W.heap.size ∧ (itL L e.on).p y lo hi W) →
  ∀ K : Act → World → Prop, Shut (∀ x a' W', Stp w L i y W W' → (itL L i).p (updV y i x) W.heap.size W'.heap.size W' → a' = fill (updV y i x) → K a' W') → if Region.wanted o (yielded ops (fill y).tmps) = true then Oper.wp P o (fill y) W K Q else K ((fill y).put o.dst undef) W
def HopsI (P : Program) (ops : Array Oper) (Q : Exit → Act → World → Prop) (w : World) (fill : (Nat → Value) → Act) (L : List It) : Nat → List Oper → Prop
 | _, [] => True
 | k, o :: r => HopI P ops Q w fill L k o ∧ HopsI P ops Q w fill L (k + 1) r
theorem HopsI.at {w : World} {fill : (Nat → Value) → Act} {L : List It} : ∀ (l : List Oper) (k i : Nat) (o : Oper), HopsI P ops Q w fill L k l → l[i]? = some o → HopI P ops Q w fill L (k + i) o
 | [], _, _, _, _, h => by simp at h
 | o' :: r, k, 0, o, H, h => by simp at h; subst h; exact H.1
 | o' :: r, k, i + 1, o, H, h => by
  have := HopsI.at r (k + 1) i o H.2 (by simpa using h)
  rwa [show k + 1 + i = k + (i + 1) by omega] at this
structure MadeI (w : World) (L : List It) (ops : Array Oper) (n : Nat) (is : Nat → Bool) (y : Nat → Value) (lo hi : Nat → Nat) (W : World) : Prop where
 d : Below w.heap.size w W
 fact : ∀ i, i < n → is i = true → (∀ k, k < n → is k = true → i ∉ (itL L k).ret) → (itL L i).p y (lo i) (hi i) W
 at' : ∀ i, i < n → is i = true → w.heap.size ≤ lo i ∧ lo i ≤ hi i ∧ hi i ≤ W.heap.size
 apart : ∀ i j, i < n → j < n → is i = true → is j = true → i ≠ j → hi i ≤ lo j ∨ hi j ≤ lo i
 order : ∀ j o e, j < n → is j = true → ops[j]? = some o → e ∈ o.after → Region.binds .any e = true → hi e.on ≤ lo j
def retB (ops : Array Oper) (n : Nat) (rs rd : List (List Nat)) : Bool :=
 ((List.range n).all fun k => (rs.getD k []).all fun j => (List.range n).all fun i => match ops[i]? with
  | none => false
  | some o => decide (i = k) || o.after.all (fun e => !Region.binds .any e || !ndB e || !(e.on == j)) || waitsL .any ops ops.size k i) &&
 ((List.range n).all fun k => (rd.getD k []).all fun j => waitsL .any ops ops.size k j)
theorem getD_map {α β : Type} (f : α → β) : ∀ (L : List α) (i : Nat) (d : α), (L.map f).getD i (f d) = f (L.getD i d)
 | [], _, _ => rfl
 | _ :: _, 0, _ => rfl
 | _ :: _, _ + 1, _ => by simp
theorem retB_at {n : Nat} {L : List It} (h : retB ops n (L.map It.ret) (L.map It.reads) = true) {k j i : Nat} {o : Oper} {e : Edge} (hk : k < n) (hi : i < n) (hne : i ≠ k) (hj : j ∈ (itL L k).ret) (ho : ops[i]? = some o) (he : e ∈ o.after) (hb : Region.binds .any e = true) (hnd : ndB e = true) (hej : e.on = j) : waitsL .any ops ops.size k i = true := by
 unfold retB at h
 rw [Bool.and_eq_true] at h
 have h := h.1
 rw [List.all_eq_true] at h
 have h1 := h k (List.mem_range.2 hk)
 rw [List.all_eq_true] at h1
 have e1 : (L.map It.ret).getD k [] = (itL L k).ret := getD_map It.ret L k ⟨[], [], fun _ _ _ _ => True⟩
 rw [e1] at h1
 have h2 := h1 j hj
 rw [List.all_eq_true] at h2
 have h3 := h2 i (List.mem_range.2 hi)
 rw [ho] at h3
 simp only [Bool.or_eq_true, decide_eq_true_eq] at h3
 rcases h3 with (h3 | h3) | h3
 · exact absurd h3 hne
 · rw [Array.all_eq_true_iff_forall_mem] at h3
   have := h3 e he
   rw [hb, hnd, hej] at this
   simp at this
 · exact h3
theorem readB_at {n : Nat} {L : List It} (h : retB ops n (L.map It.ret) (L.map It.reads) = true) {k j : Nat} (hk : k < n) (hj : j ∈ (itL L k).reads) : waitsL .any ops ops.size k j = true := by
 unfold retB at h
 rw [Bool.and_eq_true] at h
 have h := h.2
 rw [List.all_eq_true] at h
 have h1 := h k (List.mem_range.2 hk)
 rw [List.all_eq_true] at h1
 have e1 : (L.map It.reads).getD k [] = (itL L k).reads := getD_map It.reads L k ⟨[], [], fun _ _ _ _ => True⟩
 rw [e1] at h1
 exact h1 j hj
theorem waits_listed {listed : Array Bool} (hc : ClosedL .any ops listed) {k j f : Nat} (hw : waitsL .any ops f k j = true) (hk : listed.getD k true = true) : listed.getD j true = true := by
 cases hj : listed.getD j true with
 | true => rfl
 | false =>
  obtain ⟨e, oj, h1, h2, h3, h4⟩ := waits_un hc hj f k hw
  have := hc k oj h1 hk e h2 h3
  rw [this] at h4
  cases h4
theorem st_go {w : World} {fill : (Nat → Value) → Act} {L : List It} {n : Nat} {l2 : List Oper} {l1 : List Oper}
 (hp : phasedB .any ops n = true) (hdep : depsB ops n = true) (hret : retB ops n (L.map It.ret) (L.map It.reads) = true) (hl1 : ∀ j o, l1[j]? = some o ↔ (j < n ∧ ops[j]? = some o)) (hl2 : ∀ j o, l2[j]? = some o → ops[n + j]? = some o)
 (hline : ∀ listed : Array Bool, listed.size = ops.size → (∀ i, listed.getD i true = decide (i < n ∨ ops.size ≤ i)) → lineB .any ops l2.length n listed = true)
 (hmono : MonIL 0 L) (hop : HopsI P ops Q w fill L 0 l1)
 (hfin : ∀ y lo hi W, MadeI w L ops n (fun _ => true) y lo hi W → wpList P ops Q l2 (fill y) W) :
 ∀ (m : Nat) (x : Nat) (listed : Array Bool) (y : Nat → Value) (lo hi : Nat → Nat) (W : World), listed.size = ops.size → (∀ i, n ≤ i → i < ops.size → listed.getD i true = false) → ClosedL .any ops listed → cntM (fun i => !listed.getD i true) n = m →
  MadeI w L ops n (fun i => listed.getD i true) y lo hi W → wpAny P .any ops Q (l2.length + m + x) listed (fill y) W := by
 intro m
 induction m with
 | zero =>
  intro x listed y lo hi W hsz hge hc hcnt hM
  have hall : ∀ i, i < n → listed.getD i true = true := fun i hi => by
   have := cntM_zero n hcnt i hi
   simpa using this
  refine line_more x n listed (fill y) W hl2 (hline listed hsz ?_) (hfin y lo hi W ?_)
  · intro i
    rcases Nat.lt_or_ge i n with h | h
    · rw [hall i h]; simp [h]
    · rcases Nat.lt_or_ge i ops.size with h2 | h2
      · rw [hge i h h2]; symm; simp; omega
      · rw [show listed.getD i true = true by simp [Array.getElem?_eq_none (show listed.size ≤ i by omega)]]; symm; simp; omega
  · exact ⟨hM.d, fun i hi _ hr => hM.fact i hi (hall i hi) (fun k hk _ => hr k hk rfl), fun i hi _ => hM.at' i hi (hall i hi), fun i j hi hj _ _ h => hM.apart i j hi hj (hall i hi) (hall j hj) h, fun j o e hj _ ho he hb => hM.order j o e hj (hall j hj) ho he hb⟩
 | succ m ih =>
  intro x listed y lo hi W hsz hge hc hcnt hM
  obtain ⟨i0, hi0, hf0, hless⟩ := cntM_least (f := fun i => !listed.getD i true) n (by omega)
  have hun : listed.getD i0 true = false := by simpa using hf0
  obtain ⟨o0, ho0, hd0⟩ := depsB_at hdep hi0
  have hin : ∀ i, i < n → i < listed.size := fun i hi => by
   obtain ⟨o, ho, _⟩ := depsB_at hdep hi
   have := (Array.getElem?_eq_some_iff.1 ho).1
   omega
  have hready : i0 ∈ Region.ready .any ops listed := mem_ready.2 ⟨hun, o0, ho0, fun e he hb => by
   have h1 := hd0 e he hb
   have h2 := hless e.on h1
   have h3 : listed.getD e.on true = true := by simpa using h2
   have h4 := hin e.on (by omega)
   simpa [h4] using h3⟩
  rw [show l2.length + (m + 1) + x = (l2.length + m + x) + 1 by omega]
  refine ⟨fun h => (by rw [h] at hready; cases hready), fun j hj => ?_⟩
  have hjn : j < n := phased_lt hp hc hi0 hun hj
  obtain ⟨hjun, oj, hoj, hall⟩ := mem_ready.1 hj
  have H := HopsI.at l1 0 j oj hop ((hl1 j oj).2 ⟨hjn, hoj⟩)
  rw [Nat.zero_add] at H
  refine wpOp_step hoj (fun K' hK => H y W hM.d (fun e he hb hnd => ?_) K' ?_)
  · have h1 := hall e he hb
    obtain ⟨o', ho', hd'⟩ := depsB_at hdep hjn
    rw [hoj] at ho'
    cases ho'
    have h2 := hd' e he hb
    have h3 := getD_to _ _ h1
    refine ⟨lo e.on, hi e.on, (hM.at' e.on (by omega) h3).1, (hM.at' e.on (by omega) h3).2.2, hM.fact e.on (by omega) h3 (fun k hk hlk hmem => ?_)⟩
    have hkj : j ≠ k := fun h => by rw [h] at hjun; rw [hjun] at hlk; cases hlk
    have := waits_listed hc (retB_at hret hk hjn hkj hmem hoj he hb hnd rfl) hlk
    rw [hjun] at this
    cases this
  · rintro v a' W' ⟨hD, hs2, hkeep⟩ hΦ rfl
    have hsj := hin j hjn
    have g1 : (listed.setIfInBounds j true).getD j true = true := by simp [hsj]
    refine hK _ _ ?_
    refine ih x (listed.setIfInBounds j true) (updV y j v) (fun i => if i = j then W.heap.size else lo i) (fun i => if i = j then W'.heap.size else hi i) W' (by simp [hsz]) (fun i h1 h2 => ?_) (hc.set hj) ?_ ?_
    · rw [getD_set_ne true (by omega)]; exact hge i h1 h2
    · have := cntM_drop (f := fun i => !listed.getD i true) (g := fun i => !(listed.setIfInBounds j true).getD i true) (j := j) (by simp only [hjun]; rfl) (by simp only [g1]; rfl) (fun i hi => by simp only [getD_set_ne true (Ne.symm hi)]) n hjn
      omega
    · have old : ∀ i, i ≠ j → (listed.setIfInBounds j true).getD i true = true → listed.getD i true = true := fun i h1 h2 => by rwa [getD_set_ne true (Ne.symm h1)] at h2
      have new : ∀ i, listed.getD i true = true → (listed.setIfInBounds j true).getD i true = true := fun i h => by
       by_cases e : j = i
       · subst e; exact g1
       · rwa [getD_set_ne true e]
      have hs := hM.d.size
      refine ⟨hD, fun i hi h hr => ?_, fun i hi h => ?_, fun i k hi hk h1 h2 hne => ?_, fun k o e hk h1 ho he hb => ?_⟩
      · by_cases e : i = j
        · subst e; simp only [if_pos]; exact hΦ
        · simp only [if_neg e]
          have hli := old i e h
          have h5 := hkeep i e (hr j hjn g1) _ _ (hM.at' i hi hli).2.2 (hM.fact i hi hli (fun k hk hlk => hr k hk (new k hlk)))
          have h6 := MonIL.at L 0 i hmono y (updV y j v) (lo i) _ W' W' (Nat.le_trans (hM.at' i hi hli).2.2 hs2) (Below.refl _ _) (fun q hq => by
           rw [Nat.zero_add] at hq
           have hne : q ≠ j := by
            rcases hq with hq | hq
            · rw [hq]; exact e
            · intro hqj
              have := waits_listed hc (readB_at hret hi hq) hli
              rw [hqj, hjun] at this
              cases this
           simp [updV, hne])
          exact h6 h5
      · by_cases e : i = j
        · subst e; simp only [if_pos]; exact ⟨hs, hs2, Nat.le_refl _⟩
        · simp only [if_neg e]; have := hM.at' i hi (old i e h); exact ⟨this.1, this.2.1, by omega⟩
      · by_cases e : i = j
        · have e2 : k ≠ j := fun h => hne (by rw [e, h])
          simp only [if_pos e, if_neg e2]
          exact Or.inr (hM.at' k hk (old k e2 h2)).2.2
        · by_cases e2 : k = j
          · simp only [if_neg e, if_pos e2]
            exact Or.inl (hM.at' i hi (old i e h1)).2.2
          · simp only [if_neg e, if_neg e2]
            exact hM.apart i k hi hk (old i e h1) (old k e2 h2) hne
      · obtain ⟨o', ho', hd'⟩ := depsB_at hdep hk
        rw [ho] at ho'
        cases ho'
        have hlt := hd' e he hb
        by_cases e1 : k = j
        · subst e1
          rw [hoj] at ho
          cases ho
          have h3 := getD_to _ _ (hall e he hb)
          have e2 : e.on ≠ k := by omega
          simp only [if_pos, if_neg e2]
          exact (hM.at' e.on (by omega) h3).2.2
        · have h4 := old k e1 h1
          have h5 := getD_to _ _ (hc k o ho h4 e he hb)
          have e2 : e.on ≠ j := fun h => by rw [h, hjun] at h5; cases h5
          simp only [if_neg e1, if_neg e2]
          exact hM.order k o e hk h4 ho he hb
def stB (ops : Array Oper) (n : Nat) (rs rd : List (List Nat)) : Bool := makeB ops n && retB ops n rs rd
theorem wp_region_st {id : Nat} {a : Act} {w : World} {l : List Oper} (L : List It) (hm : P.follows .mixedOrders = true) (hB : stB l.toArray L.length (L.map It.ret) (L.map It.reads) = true) (hmono : MonIL 0 L)
 (h : ∀ F : (Nat → Value) → Act, F = (fun y => fills 0 (l.take L.length) y a) → HopsI P l.toArray Q w F L 0 (l.take L.length) ∧ ∀ y lo hi W, MadeI w L l.toArray L.length (fun _ => true) y lo hi W → wpList P l.toArray Q (l.drop L.length) (F y) W) : (Code.region id l.toArray true).wp P Q a w := by
 unfold stB makeB at hB
 simp only [Bool.and_eq_true] at hB
 obtain ⟨⟨⟨⟨h0, h2⟩, h3⟩, h4⟩, h5⟩ := hB
 have hn : L.length ≤ l.length := by simpa using Nat.le_of_ble_eq_true h0
 refine wp_region_any hm ?_
 have hl2 : (l.drop L.length).length = l.toArray.size - L.length := by simp
 have F := st_go (P := P) (Q := Q) (w := w) (fill := fun y => fills 0 (l.take L.length) y a) (L := L) (n := L.length) (ops := l.toArray) (l1 := l.take L.length) (l2 := l.drop L.length) h2 h3 h5
  (fun j o => by
   rw [List.getElem?_take]
   split
   · rename_i h; simp [h]
   · rename_i h; constructor
     · intro h'; cases h'
     · intro h'; exact absurd h'.1 h)
  (fun j o ho => by rw [List.getElem?_drop] at ho; simpa using ho)
  (fun listed hs hg => by
   rw [hl2]
   have e : listed = Array.ofFn (n := l.toArray.size) fun i => decide (i.1 < L.length) := by
    refine Array.ext (by simp [hs]) (fun i h5 h6 => ?_)
    have := hg i
    simp only [Array.getElem_ofFn]
    have e1 : listed.getD i true = listed[i] := by simp [h5]
    rw [← e1, this]
    have : i < l.toArray.size := by omega
    by_cases h7 : i < L.length
    · simp [h7]
    · simp only [h7, false_or, decide_false, decide_eq_false_iff_not]; omega
   rw [e]; exact h4)
  hmono (h _ rfl).1 (h _ rfl).2 L.length 0 (Array.replicate l.toArray.size false) (firstY l a) (fun _ => 0) (fun _ => 0) (w.drewN 1) (by simp) (fun i h5 h6 => by simp at h6; simp [h6]) (closed_none _ _) ?_ ?_
 · have e : (l.drop L.length).length + L.length + 0 = l.toArray.size := by rw [hl2]; simp; omega
   rw [e, fills_self l a (l.take L.length) 0 (fun j o ho => by
    rw [List.getElem?_take] at ho
    split at ho
    · simpa using ho
    · cases ho)] at F
   exact F
 · have : ∀ k, k ≤ L.length → cntM (fun i => !(Array.replicate l.toArray.size false).getD i true) k = k := by
    intro k
    induction k with
    | zero => intro _; rfl
    | succ k ih =>
     intro hk
     have h5 : k < l.toArray.size := by simp; omega
     simp only [cntM]
     rw [ih (by omega)]
     have : (Array.replicate l.toArray.size false).getD k true = false := by simp at h5; simp [h5]
     simp only [this]; rfl
   exact this L.length (Nat.le_refl _)
 · have none : ∀ i, i < L.length → (Array.replicate l.toArray.size false).getD i true = true → False := fun i hi h => by
    have : i < l.length := by omega
    simp [this] at h
   exact ⟨⟨rfl, rfl, rfl, Nat.le_refl _, fun _ _ => rfl⟩, fun i hi h => (none i hi h).elim, fun i hi h => (none i hi h).elim, fun i j hi _ h _ _ => (none i hi h).elim, fun j o e hj h _ _ _ => (none j hj h).elim⟩
def notR (rs : List (List Nat)) (i : Nat) : Bool := rs.all fun l => !l.contains i
theorem notR_all {L : List It} {n : Nat} {is : Nat → Bool} (i : Nat) (h : notR (L.map It.ret) i = true) : ∀ k, k < n → is k = true → i ∉ (itL L k).ret := fun k _ _ hm => by
 unfold notR at h
 rw [List.all_eq_true] at h
 rcases Nat.lt_or_ge k L.length with hk | hk
 · have e : (itL L k).ret = (L[k]).ret := by unfold itL; simp [hk]
   have := h (L[k]).ret (List.mem_map.2 ⟨L[k], List.getElem_mem hk, rfl⟩)
   rw [e] at hm
   simp [hm] at this
 · have e : (itL L k).ret = [] := by unfold itL; simp [List.getElem?_eq_none hk]
   rw [e] at hm
   cases hm
def Keeps (y : Nat → Value) (W W' : World) (rs : List Nat) : Nat → List It → Prop
 | _, [] => True
 | k, t :: r => (k ∈ rs ∨ ∀ lo hi, hi ≤ W.heap.size → t.p y lo hi W → t.p y lo hi W') ∧ Keeps y W W' rs (k + 1) r
theorem Keeps.at {y : Nat → Value} {W W' : World} {rs : List Nat} : ∀ (L : List It) (k j : Nat), Keeps y W W' rs k L → k + j ∉ rs → ∀ lo hi, hi ≤ W.heap.size → (itL L j).p y lo hi W → (itL L j).p y lo hi W'
 | [], _, _, _, _ => fun _ _ _ h => h
 | _ :: _, _, 0, h, hn => h.1.resolve_left hn
 | _ :: r, k, j + 1, h, hn => Keeps.at r (k + 1) j h.2 (by rwa [show k + 1 + j = k + (j + 1) by omega])
theorem stp_keeps {w : World} {L : List It} {i : Nat} {y : Nat → Value} {W W' : World} (rs : List Nat) (hr : (itL L i).ret = rs) (d : Below w.heap.size w W') (hs : W.heap.size ≤ W'.heap.size) (h : Keeps y W W' (i :: rs) 0 L) : Stp w L i y W W' := ⟨d, hs, fun j hj hn => Keeps.at L 0 j h (by rw [Nat.zero_add]; rw [hr] at hn; simp [hj, hn])⟩
def vI (i : Nat) (v : Value) : It := ⟨[], [], fun y _ _ _ => y i = v⟩
theorem vI_mono (i : Nat) (v : Value) : MonI i (vI i v) := fun _ _ _ _ _ _ _ _ hy h => (hy i (Or.inl rfl)).trans h
def pI (i : Nat) (p : MkP) : It := ⟨[], [], fun y lo hi W => p (y i) lo hi W⟩
theorem pI_mono {i : Nat} {p : MkP} (h : MonoP p) : MonI i (pI i p) := fun y y' lo hi W W' hs d hy hp => by
 show p (y' i) lo hi W'
 rw [hy i (Or.inl rfl)]
 exact h _ _ _ _ _ hs d hp
end
section
variable {P : Program} {Q : Exit → Act → World → Prop}
theorem put_put (a : Act) (d : Nat) (x v : Value) : (a.put (some d) x).put (some d) v = a.put (some d) v := by
 simp [Act.put]
theorem put_swap (a : Act) {d e : Nat} (x v : Value) (h : d ≠ e) : (a.put (some d) x).put (some e) v = (a.put (some e) v).put (some d) x := by
 simp only [Act.put]
 rw [Array.setIfInBounds_comm _ _ h]
theorem put_size (a : Act) (d : Option Nat) (x : Value) : (a.put d x).tmps.size = a.tmps.size := by
 cases d <;> simp [Act.put]
theorem put_get (a : Act) {d : Nat} (x : Value) (h : d < a.tmps.size) : (a.put (some d) x).tmps.getD d undef = x := by
 simp [Act.put, h]
theorem put_other (a : Act) {d : Nat} {e : Option Nat} (x : Value) (h : e ≠ some d) : (a.put e x).tmps.getD d undef = a.tmps.getD d undef := by
 cases e with
 | none => rfl
 | some e =>
  have h2 : e ≠ d := fun h3 => h (by rw [h3])
  simp [Act.put, Array.getElem?_setIfInBounds_ne h2]
theorem got_bool {A : Act} {t : Nat} {b : Bool} (h : A.tmps.getD t undef = .bool b) : A.tmps[t]? = some (.bool b) := by
 rw [Array.getD_eq_getD_getElem?] at h
 cases hx : A.tmps[t]? with
 | none => rw [hx] at h; cases h
 | some v => rw [hx] at h; exact congrArg some h
theorem got_undef {A : Act} {t : Nat} (h : A.tmps.getD t undef = undef) : A.tmps[t]? = none ∨ A.tmps[t]? = some (.tuple #[]) := by
 rw [Array.getD_eq_getD_getElem?] at h
 cases hx : A.tmps[t]? with
 | none => exact Or.inl rfl
 | some v => rw [hx] at h; exact Or.inr (congrArg some h)
def wrB (d : Nat) (l : List Oper) : Bool := l.any fun o => o.dst == some d
theorem wrB_not {d : Nat} {l : List Oper} (h : wrB d l = false) {o : Oper} (ho : o ∈ l) : o.dst ≠ some d := by
 unfold wrB at h
 rw [List.any_eq_false] at h
 simpa using h o ho
def onceB : List Oper → Bool
 | [] => true
 | o :: r => (match o.dst with
  | none => true
  | some d => !wrB d r) && onceB r
theorem fills_other : ∀ (r : List Oper) (k : Nat) (y : Nat → Value) (a : Act) (d : Nat), wrB d r = false → (fills k r y a).tmps.getD d undef = a.tmps.getD d undef
 | [], _, _, _, _, _ => rfl
 | o :: r, k, y, a, d, h => by
  have h1 := wrB_not h (List.mem_cons_self ..)
  have h2 : wrB d r = false := by
   unfold wrB at h ⊢
   rw [List.any_cons, Bool.or_eq_false_iff] at h
   exact h.2
  unfold fills
  rw [fills_other r (k + 1) y _ d h2, put_other _ _ h1]
theorem fills_put : ∀ (r : List Oper) (k : Nat) (y : Nat → Value) (a : Act) (d : Nat) (x : Value), wrB d r = false → (fills k r y a).put (some d) x = fills k r y (a.put (some d) x)
 | [], _, _, _, _, _, _ => rfl
 | o :: r, k, y, a, d, x, h => by
  have h1 := wrB_not h (List.mem_cons_self ..)
  have h2 : wrB d r = false := by
   unfold wrB at h ⊢
   rw [List.any_cons, Bool.or_eq_false_iff] at h
   exact h.2
  unfold fills
  rw [fills_put r (k + 1) y _ d x h2]
  cases hd : o.dst with
  | none => rfl
  | some e => rw [put_swap _ _ _ (fun h3 => h1 (by rw [hd, h3]))]
theorem fills_congr : ∀ (r : List Oper) (k : Nat) (y y' : Nat → Value) (a : Act), (∀ j, k ≤ j → y j = y' j) → fills k r y a = fills k r y' a
 | [], _, _, _, _, _ => rfl
 | o :: r, k, y, y', a, h => by
  unfold fills
  rw [h k (Nat.le_refl _)]
  exact fills_congr r (k + 1) y y' _ (fun j hj => h j (by omega))
theorem fills_at : ∀ (r : List Oper) (k j : Nat) (y : Nat → Value) (a : Act) (o : Oper) (d : Nat), onceB r = true → r[j]? = some o → o.dst = some d → d < a.tmps.size → (fills k r y a).tmps.getD d undef = y (k + j)
 | [], _, _, _, _, _, _, _, h, _, _ => by simp at h
 | o' :: r, k, 0, y, a, o, d, h1, h, hd, hs => by
  simp at h
  subst h
  unfold onceB at h1
  rw [hd, Bool.and_eq_true] at h1
  unfold fills
  rw [fills_other r (k + 1) y _ d (by simpa using h1.1), hd, put_get _ _ hs]
  rfl
 | o' :: r, k, j + 1, y, a, o, d, h1, h, hd, hs => by
  unfold onceB at h1
  rw [Bool.and_eq_true] at h1
  unfold fills
  rw [fills_at r (k + 1) j y _ o d h1.2 (by simpa using h) hd (by rw [put_size]; exact hs)]
  rw [show k + 1 + j = k + (j + 1) by omega]
theorem fills_upd : ∀ (r : List Oper) (k j : Nat) (y : Nat → Value) (a : Act) (o : Oper) (x : Value), onceB r = true → r[j]? = some o → (fills k r y a).put o.dst x = fills k r (updV y (k + j) x) a
 | [], _, _, _, _, _, _, _, h => by simp at h
 | o' :: r, k, 0, y, a, o, x, h1, h => by
  simp at h
  subst h
  unfold onceB at h1
  rw [Bool.and_eq_true] at h1
  have e1 : updV y (k + 0) x k = x := by simp [updV]
  have e2 : ∀ b, fills (k + 1) r (updV y (k + 0) x) b = fills (k + 1) r y b := fun b => fills_congr r (k + 1) _ _ b (fun j hj => by simp only [updV]; rw [if_neg (by omega)])
  unfold fills
  rw [e1, e2]
  cases hd : o'.dst with
  | none => rfl
  | some d =>
   rw [hd] at h1
   rw [fills_put r (k + 1) y _ d x (by simpa using h1.1), put_put]
 | o' :: r, k, j + 1, y, a, o, x, h1, h => by
  unfold onceB at h1
  rw [Bool.and_eq_true] at h1
  unfold fills
  rw [fills_upd r (k + 1) j y _ o x h1.2 (by simpa using h)]
  have e1 : updV y (k + (j + 1)) x k = y k := by simp only [updV]; rw [if_neg (by omega)]
  rw [e1, show k + 1 + j = k + (j + 1) by omega]
def HopJ (P : Program) (ops : Array Oper) (Q : Exit → Act → World → Prop) (w : World) (a : Act) (l : List Oper) (L : List It) (i : Nat) (o : Oper) : Prop :=
 ∀ (A : Act) (y : Nat → Value) (W : World), (∀ (j : Nat) (o' : Oper) (d : Nat), l[j]? = some o' → o'.dst = some d → A.tmps.getD d undef = y j) → (∀ d, wrB d l = false → A.tmps.getD d undef = a.tmps.getD d undef) → Below w.heap.size w W → (∀ e ∈ o.after, Region.binds .any e = true → ndB e = true → ∃ lo hi, w.heap.size ≤ lo ∧ hi ≤ W.heap.size ∧ (itL L e.on).p y lo hi W) →
  ∀ K : Act → World → Prop, Shut (∀ x W', Stp w L i y W W' → (itL L i).p (updV y i x) W.heap.size W'.heap.size W' → K (A.put o.dst x) W') → if Region.wanted o (yielded ops A.tmps) = true then Oper.wp P o A W K Q else K (A.put o.dst undef) W
def HopsJ (P : Program) (ops : Array Oper) (Q : Exit → Act → World → Prop) (w : World) (a : Act) (l : List Oper) (L : List It) : Nat → List Oper → Prop
 | _, [] => True
 | k, o :: r => HopJ P ops Q w a l L k o ∧ HopsJ P ops Q w a l L (k + 1) r
def slotsB (n : Nat) (l : List Oper) : Bool := l.all fun o => match o.dst with
 | none => true
 | some d => Nat.blt d n
theorem hops_of {ops : Array Oper} {w : World} {a : Act} {l : List Oper} {L : List It} (hs : slotsB a.tmps.size l = true) (h1 : onceB l = true) : ∀ (r : List Oper) (k : Nat), (∀ j o, r[j]? = some o → l[k + j]? = some o) → HopsJ P ops Q w a l L k r → HopsI P ops Q w (fun y => fills 0 l y a) L k r
 | [], _, _, _ => trivial
 | o :: r, k, hl, H => by
  refine ⟨fun y W d hd K hK => ?_, hops_of hs h1 r (k + 1) (fun j o' ho => by have := hl (j + 1) o' (by simpa using ho); rwa [show k + 1 + j = k + (j + 1) by omega]) H.2⟩
  have hk : l[k]? = some o := hl 0 o rfl
  refine H.1 (fills 0 l y a) y W (fun j o' d' hj hd' => ?_) (fun d' hd' => fills_other l 0 y a d' hd') d hd K (fun x W' hst hp => ?_)
  · have hlt : d' < a.tmps.size := by
     unfold slotsB at hs
     rw [List.all_eq_true] at hs
     have := hs o' (List.mem_of_getElem? hj)
     rw [hd'] at this
     simpa using this
    have := fills_at l 0 j y a o' d' h1 hj hd' hlt
    rwa [Nat.zero_add] at this
  · refine hK x _ W' hst hp ?_
    have := fills_upd l 0 k y a o x h1 hk
    rwa [Nat.zero_add] at this
theorem wp_region_sl {id : Nat} {a : Act} {w : World} {l : List Oper} (L : List It) (hm : P.follows .mixedOrders = true) (hB : stB l.toArray L.length (L.map It.ret) (L.map It.reads) = true) (hO : onceB (l.take L.length) = true) (hS : slotsB a.tmps.size (l.take L.length) = true) (hmono : MonIL 0 L)
 (hop : HopsJ P l.toArray Q w a (l.take L.length) L 0 (l.take L.length))
 (hfin : ∀ y lo hi W, MadeI w L l.toArray L.length (fun _ => true) y lo hi W → wpList P l.toArray Q (l.drop L.length) (fills 0 (l.take L.length) y a) W) : (Code.region id l.toArray true).wp P Q a w :=
 wp_region_st L hm hB hmono (fun F hF => by
  subst hF
  exact ⟨hops_of hS hO _ 0 (fun j o ho => by rwa [Nat.zero_add]) hop, hfin⟩)
end
def elems (n X : Nat) : List Nat := (List.range n).filter (fun i => X.testBit i)
def cnt (n X : Nat) : Nat := (elems n X).length
theorem testBit_mod_lt (X a i : Nat) (h : i < a) : (X % 2 ^ a).testBit i = X.testBit i := by
 rw [Nat.testBit_mod_two_pow]; simp [h]
theorem elems_add (a m X : Nat) : elems (a + m) X = elems a (X % 2 ^ a) ++ (elems m (X / 2 ^ a)).map (a + ·) := by
 unfold elems
 rw [List.range_add, List.filter_append, List.filter_map]
 congr 1
 · apply List.filter_congr
   intro i hi
   rw [testBit_mod_lt _ _ _ (List.mem_range.1 hi)]
 · congr 1
   apply List.filter_congr
   intro i _
   simp [Nat.testBit_div_two_pow, Nat.add_comm]
theorem cnt_add (a m X : Nat) : cnt (a + m) X = cnt a (X % 2 ^ a) + cnt m (X / 2 ^ a) := by
 simp [cnt, elems_add]
theorem cnt_le (n X : Nat) : cnt n X ≤ n := by
 unfold cnt elems
 have := List.length_filter_le (fun i => X.testBit i) (List.range n)
 simpa using this
theorem and_split (h l mh ml : Nat) (hl : l < 256) (hml : ml < 256) : (h * 256 + l) &&& (mh * 256 + ml) = (h &&& mh) * 256 + (l &&& ml) := by
 have hlt : l &&& ml < 256 := Nat.lt_of_le_of_lt Nat.and_le_left hl
 have e1 : ((h * 256 + l) &&& (mh * 256 + ml)) / 256 = h &&& mh := by
  have := Nat.and_div_two_pow (a := h * 256 + l) (b := mh * 256 + ml) (n := 8)
  simp only [show (2:Nat)^8 = 256 from rfl] at this
  rw [this, show (h * 256 + l) / 256 = h by omega, show (mh * 256 + ml) / 256 = mh by omega]
 have e2 : ((h * 256 + l) &&& (mh * 256 + ml)) % 256 = l &&& ml := by
  have := Nat.and_mod_two_pow (a := h * 256 + l) (b := mh * 256 + ml) (n := 8)
  simp only [show (2:Nat)^8 = 256 from rfl] at this
  rw [this, show (h * 256 + l) % 256 = l by omega, show (mh * 256 + ml) % 256 = ml by omega]
 omega
def M (c : Nat) : Nat → Nat
 | 0 => 0
 | k + 1 => M c k * 256 + c
def pA (k x : Nat) : Nat := (x / 2 &&& M 85 k) + (x &&& M 85 k)
def pB (k x : Nat) : Nat := (pA k x / 4 &&& M 51 k) + (pA k x &&& M 51 k)
def pC (k x : Nat) : Nat := (pB k x / 16 + pB k x) &&& M 15 k
def a1 (l : Nat) : Nat := (l / 2 &&& 85) + (l &&& 85)
def b1 (l : Nat) : Nat := (a1 l / 4 &&& 51) + (a1 l &&& 51)
def c1 (l : Nat) : Nat := (b1 l / 16 + b1 l) &&& 15
theorem a_fin : ∀ l < 256, (a1 l < 256 ∧ (128 + l / 2) &&& 85 = l / 2 &&& 85) := by decide +kernel
theorem b_fin : ∀ r < 4, ∀ l < 256, (b1 l ≤ 68 ∧ b1 l % 16 ≤ 4 ∧ (r * 64 + a1 l / 4) &&& 51 = a1 l / 4 &&& 51) := by decide +kernel
theorem c_fin : ∀ r < 5, ∀ l < 256, ((r * 16 + b1 l / 16 + b1 l) &&& 15 = c1 l ∧ c1 l = cnt 8 l) := by decide +kernel
theorem pA_step (k h l : Nat) (hl : l < 256) : pA (k + 1) (h * 256 + l) = pA k h * 256 + a1 l := by
 have f := (a_fin l hl)
 have hd : (h * 256 + l) / 2 = (h / 2) * 256 + (h % 2 * 128 + l / 2) := by omega
 unfold pA
 rw [M, hd, and_split _ _ _ _ (by omega) (by omega), and_split _ _ _ _ hl (by omega)]
 have e : (h % 2 * 128 + l / 2) &&& 85 = l / 2 &&& 85 := by
  rcases Nat.mod_two_eq_zero_or_one h with hh | hh <;> rw [hh]
  · simp
  · simpa using f.2
 rw [e]; unfold a1; omega
theorem pB_step (k h l : Nat) (hl : l < 256) : pB (k + 1) (h * 256 + l) = pB k h * 256 + b1 l := by
 have f := (a_fin l hl).1
 unfold pB
 rw [pA_step k h l hl, M]
 have hd : (pA k h * 256 + a1 l) / 4 = (pA k h / 4) * 256 + (pA k h % 4 * 64 + a1 l / 4) := by omega
 rw [hd, and_split _ _ _ _ (by omega) (by omega), and_split _ _ _ _ f (by omega), (b_fin (pA k h % 4) (by omega) l hl).2.2]
 unfold b1; omega
theorem pB_mod (k h : Nat) : pB k h % 16 ≤ 4 := by
 cases k with
 | zero => simp [pB, pA, M]
 | succ k =>
  have e : h = (h / 256) * 256 + h % 256 := by omega
  rw [e, pB_step k _ _ (by omega)]
  have := (b_fin 0 (by omega) (h % 256) (by omega)).2.1
  omega
theorem pC_step (k h l : Nat) (hl : l < 256) : pC (k + 1) (h * 256 + l) = pC k h * 256 + c1 l := by
 have f := (b_fin 0 (by omega) l hl).1
 have g := pB_mod k h
 unfold pC
 rw [pB_step k h l hl, M]
 have hd : (pB k h * 256 + b1 l) / 16 + (pB k h * 256 + b1 l) = (pB k h / 16 + pB k h) * 256 + (pB k h % 16 * 16 + b1 l / 16 + b1 l) := by omega
 rw [hd, and_split _ _ _ _ (by omega) (by omega), (c_fin (pB k h % 16) (by omega) l hl).1]
theorem pC_eq (k x : Nat) : pC (k + 1) x = pC k (x / 256) * 256 + cnt 8 (x % 256) := by
 have e : x = (x / 256) * 256 + x % 256 := by omega
 have h := pC_step k (x / 256) (x % 256) (by omega)
 rw [← e] at h
 rw [h, (c_fin 0 (by omega) (x % 256) (by omega)).2]
theorem pA_le (k x : Nat) : pA k x ≤ 2 * M 85 k := by
 unfold pA
 have := @Nat.and_le_right (x / 2) (M 85 k)
 have := @Nat.and_le_right x (M 85 k)
 omega
theorem pB_le (k x : Nat) : pB k x ≤ 2 * M 51 k := by
 unfold pB
 have := @Nat.and_le_right (pA k x / 4) (M 51 k)
 have := @Nat.and_le_right (pA k x) (M 51 k)
 omega
theorem pC_le (k x : Nat) : pC k x ≤ M 15 k := by
 unfold pC
 exact Nat.and_le_right
theorem M85 : M 85 8 = 6148914691236517205 := by decide +kernel
theorem M51 : M 51 8 = 3689348814741910323 := by decide +kernel
theorem M15 : M 15 8 = 1085102592571150095 := by decide +kernel
theorem pop_fin (e0 e1 e2 e3 e4 e5 e6 e7 x3 x4 x5 x6 : Nat) (h0 : e0 ≤ 8) (h1 : e1 ≤ 8) (h2 : e2 ≤ 8) (h3 : e3 ≤ 8) (h4 : e4 ≤ 8) (h5 : e5 ≤ 8) (h6 : e6 ≤ 8) (h7 : e7 ≤ 8)
 (k3 : x3 = (((((((e7 * 256 + e6) * 256 + e5) * 256 + e4) * 256 + e3) * 256 + e2) * 256 + e1) * 256 + e0)) (k4 : x4 = x3 + x3 / 256) (k5 : x5 = x4 + x4 / 65536) (k6 : x6 = x5 + x5 / 4294967296) :
 x6 % 128 = e0 + e1 + e2 + e3 + e4 + e5 + e6 + e7 := by
 have d3 : x3 / 256 = ((((((e7 * 256 + e6) * 256 + e5) * 256 + e4) * 256 + e3) * 256 + e2) * 256 + e1) := by omega
 have f4 : x4 = (((((((e7 * 256 + (e6 + e7)) * 256 + (e5 + e6)) * 256 + (e4 + e5)) * 256 + (e3 + e4)) * 256 + (e2 + e3)) * 256 + (e1 + e2)) * 256 + (e0 + e1)) := by omega
 have d4 : x4 / 65536 = (((((e7 * 256 + (e6 + e7)) * 256 + (e5 + e6)) * 256 + (e4 + e5)) * 256 + (e3 + e4)) * 256 + (e2 + e3)) := by clear k4 d3 k3; omega
 have f5 : ∃ m, x5 = m * 4294967296 + ((((e3 + e4 + e5 + e6) * 256 + (e2 + e3 + e4 + e5)) * 256 + (e1 + e2 + e3 + e4)) * 256 + (e0 + e1 + e2 + e3)) ∧ ∃ j, m = j * 256 + (e4 + e5 + e6 + e7) := by
  refine ⟨((e7 * 256 + (e6 + e7)) * 256 + (e5 + e6 + e7)) * 256 + (e4 + e5 + e6 + e7), ?_, ((e7 * 256 + (e6 + e7)) * 256 + (e5 + e6 + e7)), rfl⟩
  rw [k5, d4, f4]; clear k4 d3 k3 k5 f4 d4 k6; omega
 obtain ⟨m, hm, j, hj⟩ := f5
 have d5 : x5 / 4294967296 = m := by clear k4 d3 k3 k5 f4 d4 k6; omega
 rw [k6, d5, hm, hj]; clear k4 d3 k3 k5 f4 d4 k6 hm hj d5; omega
theorem pop_eq (x x4 x5 x6 : Nat) (hx : x < 18446744073709551616) (k4 : x4 = pC 8 x + pC 8 x / 256) (k5 : x5 = x4 + x4 / 65536) (k6 : x6 = x5 + x5 / 4294967296) : x6 % 128 = cnt 64 x := by
 have e := pop_fin (cnt 8 (x % 256)) (cnt 8 (x / 256 % 256)) (cnt 8 (x / 256 / 256 % 256)) (cnt 8 (x / 256 / 256 / 256 % 256)) (cnt 8 (x / 256 / 256 / 256 / 256 % 256)) (cnt 8 (x / 256 / 256 / 256 / 256 / 256 % 256)) (cnt 8 (x / 256 / 256 / 256 / 256 / 256 / 256 % 256)) (cnt 8 (x / 256 / 256 / 256 / 256 / 256 / 256 / 256 % 256)) (pC 8 x) x4 x5 x6
  (cnt_le _ _) (cnt_le _ _) (cnt_le _ _) (cnt_le _ _) (cnt_le _ _) (cnt_le _ _) (cnt_le _ _) (cnt_le _ _)
  (by rw [pC_eq 7, pC_eq 6, pC_eq 5, pC_eq 4, pC_eq 3, pC_eq 2, pC_eq 1, pC_eq 0]; simp [pC, M]) k4 k5 k6
 rw [e]
 have p8 : (2 : Nat) ^ 8 = 256 := rfl
 rw [show (64 : Nat) = 8 + 56 from rfl, cnt_add, show (56 : Nat) = 8 + 48 from rfl, cnt_add, show (48 : Nat) = 8 + 40 from rfl, cnt_add, show (40 : Nat) = 8 + 32 from rfl, cnt_add, show (32 : Nat) = 8 + 24 from rfl, cnt_add, show (24 : Nat) = 8 + 16 from rfl, cnt_add, show (16 : Nat) = 8 + 8 from rfl, cnt_add, p8]
 have : x / 256 / 256 / 256 / 256 / 256 / 256 / 256 % 256 = x / 256 / 256 / 256 / 256 / 256 / 256 / 256 := by omega
 rw [this]; omega
theorem ret_int {k : IntKind} {a b : Int} (h : a = b) : Ending.returned (.int k a) = .returned (.int k b) := by rw [h]
theorem bit_wrap (k : Nat) (h : k < 64) : IntKind.u64.wrap (2 ^ k) = (2 ^ k : Nat) := by
 rw [IntKind.wrap_u64]
 have hl : (2:Nat)^k < 18446744073709551616 := by
  have : (2:Nat)^k < 2^64 := Nat.pow_lt_pow_right (by decide) h
  exact this
 have e : ((2:Int)^k) = ((2^k : Nat) : Int) := by simp
 rw [e]
 generalize (2:Nat)^k = z at hl
 omega
theorem bit_any (i : Int) (w : World) (h0 : 0 ≤ i) (h1 : i ≤ 65535) :
 Calls Tryz.prog 154 #[.int .i64 i] w fun e w' => e = .returned (.int .u64 ((2 ^ (i % 64).toNat : Nat) : Int)) ∧ w' = w := by
 go_enter Tryz.func154, Tryz.ntmps154
 go_wp2
 go_ret
 exact ⟨ret_int (bit_wrap _ (by omega)), rfl⟩
theorem inRange_any (b : Nat) (i n : Int) (w : World) (hc : w.cell? ⟨b, 0, none⟩ = some (.int .i64 n)) :
 Calls Tryz.prog 153 #[.pointer (some ⟨b, 0, none⟩), .int .i64 i] w fun e w' => e = .returned (.bool (decide (0 ≤ i ∧ i < n))) ∧ w' = w := by
 by_cases h : 0 ≤ i
 all_goals
  go_enter Tryz.func153, Tryz.ntmps153
  go_wp2
  go_ret
  exact ⟨by simp; omega, rfl⟩
def TabAt (w : World) : Prop := ∀ j, j < 64 → w.cell? ⟨0, j, none⟩ = some (.int .u8 (Lib.deBruijn64tab.getD j 0))
theorem tz_core (x k idx : Nat) (w : World) (hx0 : ((x : Int) == 0) = false)
 (key : IntKind.u64.wrap (bits BinOp.and IntKind.u64 (x : Int) (IntKind.u64.wrap (-(x : Int))) * 285870213051353865) / 288230376151711744 = (idx : Int))
 (hi : idx < 64) (hk : k < 64) (hcell : w.cell? ⟨0, idx, none⟩ = some (.int .u8 k)) :
 Calls Tryz.prog 143 #[.int .u64 x] w fun e w' => e = .returned (.int .i64 k) ∧ w' = w := by
 go_enter Tryz.func143, Tryz.ntmps143
 go_wp2_with (simp only [key])
 go_ret
 exact ⟨rfl, rfl⟩
theorem tz_key (x a : Nat) (hx : x < 18446744073709551616) (hx0 : x ≠ 0) (hlow : x &&& (18446744073709551616 - x) = a) :
 IntKind.u64.wrap (bits BinOp.and IntKind.u64 (x : Int) (IntKind.u64.wrap (-(x : Int))) * 285870213051353865) / 288230376151711744 = ((a * 285870213051353865 % 18446744073709551616 / 288230376151711744 : Nat) : Int) := by
 have e1 : IntKind.u64.wrap (-(x : Int)) = ((18446744073709551616 - x : Nat) : Int) := by rw [IntKind.wrap_u64]; omega
 rw [e1, bits_and_u64_nat x _ hx (by omega), hlow, IntKind.wrap_u64]
 omega
theorem tz_any (x : Nat) (hx : x < 18446744073709551616) (hx0 : x ≠ 0) (w : World) (hT : TabAt w) :
 Calls Tryz.prog 143 #[.int .u64 x] w fun e w' => e = .returned (.int .i64 (Lib.ctz 64 x)) ∧ w' = w := by
 obtain ⟨hlow, hk⟩ := Lib.lowest_bit 64 x hx0 hx
 obtain ⟨hi, htab⟩ := Lib.deBruijn64_at _ hk
 have hcell := hT _ hi
 rw [htab] at hcell
 exact tz_core x _ _ w (by simp; omega) (tz_key x _ hx hx0 hlow) hi hk hcell
theorem ones_core (x x1 x2 x3 x4 x5 x6 r : Nat) (w : World)
 (k1 : IntKind.u64.wrap (bits BinOp.and IntKind.u64 ((x : Int) / 2) 6148914691236517205 + bits BinOp.and IntKind.u64 (x : Int) 6148914691236517205) = (x1 : Int))
 (k2 : IntKind.u64.wrap (bits BinOp.and IntKind.u64 ((x1 : Int) / 4) 3689348814741910323 + bits BinOp.and IntKind.u64 (x1 : Int) 3689348814741910323) = (x2 : Int))
 (k3 : bits BinOp.and IntKind.u64 (IntKind.u64.wrap ((x2 : Int) / 16 + (x2 : Int))) 1085102592571150095 = (x3 : Int))
 (k4 : IntKind.u64.wrap ((x3 : Int) + (x3 : Int) / 256) = (x4 : Int))
 (k5 : IntKind.u64.wrap ((x4 : Int) + (x4 : Int) / 65536) = (x5 : Int))
 (k6 : IntKind.u64.wrap ((x5 : Int) + (x5 : Int) / 4294967296) = (x6 : Int))
 (k7 : bits BinOp.and IntKind.i64 (wrap64 (x6 : Int)) 127 = (r : Int)) :
 Calls Tryz.prog 142 #[.int .u64 x] w fun e w' => e = .returned (.int .i64 r) ∧ w' = w := by
 go_enter Tryz.func142, Tryz.ntmps142
 go_wp2
 go_ret
 exact ⟨rfl, rfl⟩
theorem wrap64_small (x : Nat) (h : x < 9223372036854775808) : wrap64 (x : Int) = x := by
 unfold wrap64; omega
theorem and127 (x : Nat) (h : x < 9223372036854775808) : bits BinOp.and IntKind.i64 (x : Int) 127 = ((x % 128 : Nat) : Int) := by
 have h1 : (BitVec.ofInt 64 (x : Int)).toNat = x := by
  rw [BitVec.ofInt_natCast, BitVec.toNat_ofNat]; exact Nat.mod_eq_of_lt (by omega)
 have h2 : (BitVec.ofInt 64 (127 : Int)).toNat = 127 := by decide
 have h3 : x &&& 127 = x % 128 := Nat.and_two_pow_sub_one_eq_mod x 7
 show IntKind.i64.wrap ((BitVec.ofInt 64 (x : Int) &&& BitVec.ofInt 64 (127 : Int)).toNat : Int) = _
 rw [BitVec.toNat_and, h1, h2, h3]
 simp [IntKind.wrap, IntKind.bits, IntKind.signed]
 omega
theorem wrap_add_div (a d : Nat) (h : a + a / d < 18446744073709551616) : IntKind.u64.wrap ((a : Int) + (a : Int) / (d : Int)) = ((a + a / d : Nat) : Int) := by
 rw [IntKind.wrap_u64, ← Int.natCast_ediv, ← Int.natCast_add]
 generalize a + a / d = z at *
 omega
theorem ones_any (x : Nat) (w : World) (hx : x < 18446744073709551616) :
 Calls Tryz.prog 142 #[.int .u64 x] w fun e w' => e = .returned (.int .i64 (cnt 64 x)) ∧ w' = w := by
 have hA := pA_le 8 x
 have hB := pB_le 8 x
 have hC := pC_le 8 x
 rw [M85] at hA; rw [M51] at hB; rw [M15] at hC
 have hp := pop_eq x _ _ _ hx rfl rfl rfl
 have q1 : ((6148914691236517205 : Nat) : Int) = 6148914691236517205 := rfl
 have q2 : ((3689348814741910323 : Nat) : Int) = 3689348814741910323 := rfl
 have q3 : ((1085102592571150095 : Nat) : Int) = 1085102592571150095 := rfl
 have hBd : pB 8 x = (pA 8 x / 4 &&& 3689348814741910323) + (pA 8 x &&& 3689348814741910323) := by unfold pB; rw [M51]
 have hAd : pA 8 x = (x / 2 &&& 6148914691236517205) + (x &&& 6148914691236517205) := by unfold pA; rw [M85]
 have hCd : pC 8 x = (pB 8 x / 16 + pB 8 x) &&& 1085102592571150095 := by unfold pC; rw [M15]
 rw [← hp]
 generalize pA 8 x = A at *
 generalize pB 8 x = B at *
 generalize pC 8 x = C at *
 refine ones_core x A B C (C + C / 256) (C + C / 256 + (C + C / 256) / 65536) (C + C / 256 + (C + C / 256) / 65536 + (C + C / 256 + (C + C / 256) / 65536) / 4294967296) _ w ?_ ?_ ?_ ?_ ?_ ?_ ?_
 · rw [← q1, show ((x : Int) / 2) = ((x / 2 : Nat) : Int) by omega, bits_and_u64_nat _ _ (by omega) (by omega), bits_and_u64_nat _ _ hx (by omega), IntKind.wrap_u64]
   omega
 · rw [← q2, show ((A : Int) / 4) = ((A / 4 : Nat) : Int) by omega, bits_and_u64_nat _ _ (by omega) (by omega), bits_and_u64_nat _ _ (by omega) (by omega), IntKind.wrap_u64]
   omega
 · rw [IntKind.wrap_u64, ← q3, show ((B : Int) / 16 + B) % 18446744073709551616 = ((B / 16 + B : Nat) : Int) by omega, bits_and_u64_nat _ _ (by omega) (by omega)]
   omega
 · exact wrap_add_div C 256 (by clear hp hAd hBd hCd; omega)
 · exact wrap_add_div _ 65536 (by clear hp hAd hBd hCd; omega)
 · exact wrap_add_div _ 4294967296 (by clear hp hAd hBd hCd; omega)
 · rw [wrap64_small _ (by clear hp hAd hBd hCd; omega), and127 _ (by clear hp hAd hBd hCd; omega)]
def nw (n : Nat) : Nat := (n + 63) / 64
def wordAt (X k : Nat) : Nat := X / 2 ^ (64 * k) % 18446744073709551616
theorem wordAt_lt (X k : Nat) : wordAt X k < 18446744073709551616 := Nat.mod_lt _ (by decide)
theorem elems_mod (a X : Nat) : elems a (X % 2 ^ a) = elems a X := by
 unfold elems
 apply List.filter_congr
 intro i hi
 rw [testBit_mod_lt _ _ _ (List.mem_range.1 hi)]
theorem elems_word (X k : Nat) : elems 64 (wordAt X k) = elems 64 (X / 2 ^ (64 * k)) := by
 have := elems_mod 64 (X / 2 ^ (64 * k))
 exact this
theorem elems_succ (X k : Nat) : elems (64 * (k + 1)) X = elems (64 * k) X ++ (elems 64 (wordAt X k)).map (64 * k + ·) := by
 rw [show 64 * (k + 1) = 64 * k + 64 by omega, elems_add, elems_mod, elems_word]
theorem cnt_succ (X k : Nat) : cnt (64 * (k + 1)) X = cnt (64 * k) X + cnt 64 (wordAt X k) := by
 simp [cnt, elems_succ]
theorem elems_zero (n : Nat) : elems n 0 = [] := by simp [elems]
theorem elems_full (n m X : Nat) (hX : X < 2 ^ n) (h : n ≤ m) : elems m X = elems n X := by
 obtain ⟨d, rfl⟩ : ∃ d, m = n + d := ⟨m - n, by omega⟩
 rw [elems_add, elems_mod, Nat.div_eq_of_lt hX, elems_zero]
 simp
theorem cnt_full (n X : Nat) (hX : X < 2 ^ n) : cnt (64 * nw n) X = cnt n X := by
 unfold cnt
 rw [elems_full n _ X hX (by unfold nw; omega)]
theorem mem_elems {n X i : Nat} : i ∈ elems n X ↔ i < n ∧ X.testBit i = true := by
 simp [elems]
theorem ctz_spec (x : Nat) (h0 : x ≠ 0) (hx : x < 18446744073709551616) : ∃ m, x = 2 ^ Lib.ctz 64 x * (2 * m + 1) ∧ Lib.ctz 64 x < 64 := by
 unfold Lib.ctz
 rw [if_neg h0]
 exact Lib.ctzFrom_spec 64 x (by omega) hx
theorem testBit_odd (c m i : Nat) : (2 ^ c * (2 * m + 1)).testBit i = (decide (i = c) || (decide (c < i) && m.testBit (i - c - 1))) := by
 rw [Nat.mul_comm, Nat.testBit_mul_two_pow]
 by_cases h : i = c
 · subst h; simp [Nat.testBit_zero]
 · by_cases h2 : c < i
   · obtain ⟨j, rfl⟩ : ∃ j, i = c + (j + 1) := ⟨i - c - 1, by omega⟩
     have e1 : c + (j + 1) - c = j + 1 := by omega
     have e2 : c + (j + 1) - c - 1 = j := by omega
     rw [e2, e1, Nat.testBit_succ, show (2 * m + 1) / 2 = m by omega]
     simp
   · have : ¬ c ≤ i := by omega
     simp [h, h2, this]
theorem and_pred (c m : Nat) : (2 ^ c * (2 * m + 1)) &&& (2 ^ c * (2 * m + 1) - 1) = 2 ^ (c + 1) * m := by
 apply Nat.eq_of_testBit_eq
 intro i
 have hp : 0 < 2 ^ c := Nat.two_pow_pos c
 have e : 2 ^ c * (2 * m + 1) - 1 = 2 ^ c * (2 * m) + (2 ^ c - 1) := by
  rw [Nat.mul_add]; omega
 rw [Nat.testBit_and, testBit_odd, e, Nat.testBit_two_pow_mul_add _ (by omega), Nat.mul_comm (2 ^ (c + 1)), Nat.testBit_mul_two_pow]
 by_cases h : i < c
 · have h1 : ¬ i = c := by omega
   have h2 : ¬ c < i := by omega
   have h3 : ¬ c + 1 ≤ i := by omega
   simp [h1, h2, h3]
 · rw [if_neg h]
   by_cases h1 : i = c
   · subst h1
     have : ¬ (i + 1 ≤ i) := by omega
     simp [Nat.testBit_zero, this]
   · obtain ⟨j, rfl⟩ : ∃ j, i = c + (j + 1) := ⟨i - c - 1, by omega⟩
     have e1 : c + (j + 1) - c = j + 1 := by omega
     have e2 : c + (j + 1) - c - 1 = j := by omega
     have e3 : c + (j + 1) - (c + 1) = j := by omega
     have e4 : c + 1 ≤ c + (j + 1) := by omega
     rw [e2, e1, e3, Nat.testBit_succ, show (2 * m) / 2 = m by omega]
     simp [e4]
theorem elems_step (x : Nat) (h0 : x ≠ 0) (hx : x < 18446744073709551616) : elems 64 x = Lib.ctz 64 x :: elems 64 (x &&& (x - 1)) := by
 obtain ⟨m, hm, hc⟩ := ctz_spec x h0 hx
 generalize Lib.ctz 64 x = c at *
 subst hm
 rw [and_pred]
 have hr : List.range 64 = List.range c ++ (c :: (List.range (63 - c)).map (c + 1 + ·)) := by
  rw [show (64 : Nat) = c + (1 + (63 - c)) by omega, List.range_add]
  congr 1
  rw [List.range_add]
  have e : c + (1 + (63 - c)) - (1 + (63 - c)) = c := by omega
  simp [Function.comp_def, Nat.add_assoc]
 have p1 : (List.range c).filter (fun i => (2 ^ c * (2 * m + 1)).testBit i) = [] := by
  rw [List.filter_eq_nil_iff]
  intro i hi
  have := List.mem_range.1 hi
  rw [testBit_odd]
  simp; omega
 have p2 : (List.range c).filter (fun i => (2 ^ (c + 1) * m).testBit i) = [] := by
  rw [List.filter_eq_nil_iff]
  intro i hi
  have := List.mem_range.1 hi
  rw [Nat.mul_comm, Nat.testBit_mul_two_pow]
  simp; omega
 unfold elems
 rw [hr, List.filter_append, List.filter_append, p1, p2, List.filter_cons, List.filter_cons]
 have b1 : (2 ^ c * (2 * m + 1)).testBit c = true := by rw [testBit_odd]; simp
 have b2 : (2 ^ (c + 1) * m).testBit c = false := by rw [Nat.mul_comm, Nat.testBit_mul_two_pow]; simp; omega
 rw [b1, b2]
 simp only [List.nil_append, if_true, Bool.false_eq_true, if_false]
 congr 1
 apply List.filter_congr
 intro i hi
 obtain ⟨j, _, rfl⟩ := List.mem_map.1 hi
 rw [testBit_odd, Nat.mul_comm, Nat.testBit_mul_two_pow]
 have e3 : c + 1 + j - c - 1 = j := by omega
 have e4 : c + 1 + j - (c + 1) = j := by omega
 rw [e3, e4]
 have h5 : ¬ (c + 1 + j = c) := by omega
 have h6 : c < c + 1 + j := by omega
 have h7 : c + 1 ≤ c + 1 + j := by omega
 simp [h5, h6, h7]
theorem and_pred_lt (x : Nat) (h0 : x ≠ 0) : x &&& (x - 1) < x := Nat.lt_of_le_of_lt Nat.and_le_right (by omega)
def wordVals (n X : Nat) : List Value := (List.range (nw n)).map fun k => .int .u64 (wordAt X k)
theorem wordVals_length (n X : Nat) : (wordVals n X).length = nw n := by simp [wordVals]
theorem wordVals_get (n X k : Nat) (h : k < nw n) : (wordVals n X)[k]? = some (.int .u64 (wordAt X k)) := by
 simp [wordVals, h]
structure IsSet (w : World) (b g cap n X : Nat) : Prop where
 hn : n ≤ 8192
 hX : X < 2 ^ n
 blk : w.heap[b]? = some (.cells #[.int .i64 n, .slice (some ⟨g, 0, none⟩) (nw n) cap] 120 (0, 0))
 own : w.ownsRow 0 143 1 (.slice (some ⟨g, 0, none⟩) (nw n) cap) (nw n) (wordVals n X)
theorem IsSet.c0 {w : World} {b g cap n X : Nat} (h : IsSet w b g cap n X) : w.cell? ⟨b, 0, none⟩ = some (.int .i64 n) := by
 rw [cell_of_row w b 0 _ 120 (0, 0) h.blk]; rfl
theorem IsSet.c1 {w : World} {b g cap n X : Nat} (h : IsSet w b g cap n X) : w.cell? ⟨b, 1, none⟩ = some (.slice (some ⟨g, 0, none⟩) (nw n) cap) := by
 rw [cell_of_row w b 1 _ 120 (0, 0) h.blk]; rfl
theorem IsSet.word {w : World} {b g cap n X : Nat} (h : IsSet w b g cap n X) (k : Nat) (hk : k < nw n) : w.cell? ⟨g, k, none⟩ = some (.int .u64 (wordAt X k)) := by
 have := h.own.cells (g := g) rfl k _ (wordVals_get n X k hk)
 rw [Addr.add_lit] at this
 simpa using this
theorem nw_le {n : Nat} (h : n ≤ 8192) : nw n ≤ 128 := by unfold nw; omega
theorem cell_lt {w : World} {k : Nat} {o : Obj} (h : w.heap[k]? = some o) : k < w.heap.size := (Array.getElem?_eq_some_iff.1 h).1
theorem IsSet.blt {w : World} {b g cap n X : Nat} (h : IsSet w b g cap n X) : b < w.heap.size := cell_lt h.blk
theorem IsSet.glt {w : World} {b g cap n X : Nat} (h : IsSet w b g cap n X) : g < w.heap.size := (h.own.lt g rfl).2
theorem IsSet.below {w w' : World} {b g cap n X : Nat} (h : IsSet w b g cap n X) (hb : Below w.heap.size w w') : IsSet w' b g cap n X := by
 refine ⟨h.hn, h.hX, ?_, ?_⟩
 · rw [hb.block b h.blt]; exact h.blk
 · exact h.own.kept (row := none) ⟨hb.os, hb.tape, hb.output, hb.size, fun k hk _ => hb.block k hk⟩ (.inr (by simp [Value.ownBlock]))
theorem count_any (b g cap n X : Nat) (w : World) (hs : IsSet w b g cap n X) :
 Calls Tryz.prog 116 #[.pointer (some ⟨b, 0, none⟩)] w fun e w' => e = .returned (.int .i64 (cnt n X)) ∧ w' = w := by
 have h1 := hs.c1
 have hnw := nw_le hs.hn
 have hfull := cnt_full n X hs.hX
 have HF : Hid (cnt (64 * nw n) X = cnt n X) := hfull
 have hword := hs.word
 clear hfull hs
 generalize nw n = m at *
 go_enter Tryz.func116, Tryz.ntmps116
 go_wp2
 go_loop [3, 11] (fun c i => ∃ k : Nat, k ≤ m ∧ i = .int .i64 k ∧ c = .int .i64 (cnt (64 * k) X)) (fun _ i => m - (intOf i).toNat)
 case atStart => exact ⟨0, Nat.zero_le _, rfl, rfl⟩
 case round =>
  obtain ⟨k, hk, rfl, rfl⟩ := hrel
  by_cases hlt : k < m
  · have hw := hword k hlt
    have hc1 := cnt_le (64 * k) X
    have hc2 := cnt_le 64 (wordAt X k)
    have HS : Hid (cnt (64 * (k + 1)) X = cnt (64 * k) X + cnt 64 (wordAt X k)) := cnt_succ X k
    have hlw := wordAt_lt X k
    clear hword
    go_wp2_with (go_at_call 142; refine (ones_any _ _ hlw).mono ?_; rintro e w' ⟨rfl, rfl⟩)
    go_round
    case rel => exact ⟨k + 1, by omega, by go_num, by rw [HS.out]; go_num⟩
    case measure => simp [intOf]; omega
  · clear hword
    go_wp2
    go_ret
    have : k = m := by omega
    subst this
    exact ⟨ret_int (by rw [← HF.out]), rfl⟩
theorem inRange_no (b : Nat) (i n : Int) (w : World) (hc : w.cell? ⟨b, 0, none⟩ = some (.int .i64 n)) (hi : ¬ (0 ≤ i ∧ i < n)) :
 Calls Tryz.prog 153 #[.pointer (some ⟨b, 0, none⟩), .int .i64 i] w fun e w' => e = .returned (.bool false) ∧ w' = w := by
 have := inRange_any b i n w hc
 rwa [decide_eq_false hi] at this
theorem inRange_yes (b : Nat) (i n : Int) (w : World) (hc : w.cell? ⟨b, 0, none⟩ = some (.int .i64 n)) (hi : 0 ≤ i ∧ i < n) :
 Calls Tryz.prog 153 #[.pointer (some ⟨b, 0, none⟩), .int .i64 i] w fun e w' => e = .returned (.bool true) ∧ w' = w := by
 have := inRange_any b i n w hc
 rwa [decide_eq_true hi] at this
def hasB (X : Nat) (i : Int) : Bool := decide (0 ≤ i) && X.testBit i.toNat
theorem ownsRow_base {w : World} {base base' : Nat} {e : TypeId} {size : Nat} {v : Value} {n : Nat} {xs : List Value} (h : w.ownsRow base e size v n xs) (hb : base' ≤ base) : w.ownsRow base' e size v n xs := by
 refine ⟨h.1, ?_⟩
 rcases h.2 with h2 | ⟨g, cap, cur, hv, hg, r⟩
 · exact .inl h2
 · exact .inr ⟨g, cap, cur, hv, by omega, r⟩
theorem wordVals_zero (n : Nat) : wordVals n 0 = List.replicate (nw n) (.int .u64 0) := by
 unfold wordVals wordAt
 apply List.ext_getElem?
 intro i
 by_cases h : i < nw n <;> simp [h]
theorem info67 : (Tryz.prog.info? 143).map (fun i => (i.zero, i.size, i.bytes)) = some (some (.int .u64 0), 1, 8) := by kernel_rfl
theorem new_ok (n : Nat) (w : World) (h : n ≤ 8192) :
 Calls Tryz.prog 137 #[.int .i64 n] w fun e w' => ∃ b g cap, e = .returned (.tuple #[.pointer (some ⟨b, 0, none⟩), .int .i64 0]) ∧ IsSet w' b g cap n 0 ∧ w.heap.size ≤ b ∧ w.heap.size ≤ g ∧ b ≠ g ∧ Below w.heap.size w w' := by
 obtain ⟨i0, hi, hz0, hz1, hz2⟩ := info_parts info67
 go_enter Tryz.func137, Tryz.ntmps137
 go_wp2_with (at_make; refine wpList_make_full _ rfl _ _ 118 rfl w.heap.size 143 i0 (.int .u64 0) 1 Tryz.underlying118 hi hz0 hz1 _ _ _ _ (nw n) rfl rfl ?_ ?_ ?_ ?_ ?_ ?_)
 · unfold nw; omega
 · unfold nw; omega
 · rw [hz2]; unfold nw; omega
 · unfold nw maxLen; omega
 · exact Nat.le_refl _
 · intro w1 hown hgrow
   go_wp2
   go_ret2
   have hg : w.heap.size < w1.heap.size := (hown.lt _ rfl).2
   rw [toList_madeCells_one, ← wordVals_zero] at hown
   have hA := hown.alloc (.cells #[.int .i64 n, .slice (some ⟨w.heap.size, 0, none⟩) (nw n) (nw n)] 120)
   refine ⟨w1.heap.size, w.heap.size, nw n, rfl, ⟨h, Nat.two_pow_pos n, heap_alloc_new _ _, ownsRow_base hA (Nat.zero_le _)⟩, by omega, Nat.le_refl _, by omega, ?_⟩
   exact ((Below.refl _ _).grown hgrow (Nat.le_refl _) (by intro k hk; cases hk)).alloc (by omega) _
theorem elems_sorted (n X : Nat) : (elems n X).Pairwise (· < ·) := List.Pairwise.filter _ List.pairwise_lt_range
theorem wordAt_testBit (X k t : Nat) : (wordAt X k).testBit t = (decide (t < 64) && X.testBit (64 * k + t)) := by
 have e : wordAt X k = X / 2 ^ (64 * k) % 2 ^ 64 := rfl
 rw [e, Nat.testBit_mod_two_pow, Nat.testBit_div_two_pow, Nat.add_comm]
theorem hide {p : Prop} (h : p) : Hid p := h
theorem IsSet.drew {w : World} {b g cap n X : Nat} (h : IsSet w b g cap n X) : IsSet w.drew b g cap n X := ⟨h.hn, h.hX, h.blk, h.own.drew⟩
theorem IsSet.store {w : World} {b g cap n X X' j : Nat} {v : Int} (h : IsSet w b g cap n X) (hbg : b ≠ g) (hj : j < nw n) (hX' : X' < 2 ^ n)
 (ho : ∀ i, i < nw n → i ≠ j → wordAt X' i = wordAt X i) (hv : v = (wordAt X' j : Int)) : IsSet (w.setCell ⟨g, j, none⟩ (.int .u64 v)) b g cap n X' := by
 refine ⟨h.hn, hX', ?_, ?_⟩
 · rw [heap_setCell_other w ⟨g, j, none⟩ b _ hbg]; exact h.blk
 · have := (h.own.stored j (.int .u64 v)).1
   have e : (wordVals n X).set j (.int .u64 v) = wordVals n X' := by
    apply List.ext_getElem?
    intro i
    rw [List.getElem?_set]
    by_cases hij : j = i
    · subst hij
      rw [if_pos rfl, if_pos (by rw [wordVals_length]; exact hj), wordVals_get n X' j hj, hv]
    · rw [if_neg hij]
      by_cases hi : i < nw n
      · rw [wordVals_get n X i hi, wordVals_get n X' i hi, ho i hi (fun h => hij h.symm)]
      · rw [List.getElem?_eq_none (by rw [wordVals_length]; omega), List.getElem?_eq_none (by rw [wordVals_length]; omega)]
   rwa [e] at this
theorem below_drewN' {B : Nat} {w w' : World} (h : Below B w w') (q : Nat) : Below B w (w'.drewN q) := ⟨h.os, h.tape, h.output, h.size, h.block⟩
theorem info_parts {P : Program} {t : TypeId} {z : Option Value} {s b : Nat} (h : (P.info? t).map (fun i => (i.zero, i.size, i.bytes)) = some (z, s, b)) : ∃ i, P.info? t = some i ∧ i.zero = z ∧ i.size = s ∧ i.bytes = b := by
 cases hi : P.info? t with
 | none => simp [hi] at h
 | some i =>
  rw [hi] at h
  simp only [Option.map_some, Option.some.injEq, Prod.mk.injEq] at h
  exact ⟨i, rfl, h.1, h.2.1, h.2.2⟩
theorem info3 : (Tryz.prog.info? 3).map (fun i => (i.zero, i.size, i.bytes)) = some (some (.int .i64 0), 1, 8) := by kernel_rfl
def intV (l : List Nat) : List Value := l.map fun (i : Nat) => .int .i64 (i : Int)
structure LSt (w : World) (B base c : Nat) (l : List Nat) (wr : World) : Prop where
 ex : ∃ g cap, wr.heap[c]? = some (.cells #[.slice (some ⟨g, 0, none⟩) l.length cap] 22 (0, 0)) ∧ wr.ownsRow base 3 1 (.slice (some ⟨g, 0, none⟩) l.length cap) l.length (intV l) ∧ g ≠ c
 below : Below B w wr
 base_le : base ≤ wr.heap.size
theorem put_any (w0 : World) (c base B j : Nat) (i : Int) (hij : i = (j : Int)) (l : List Nat) (w : World) (hst : LSt w0 B base c l w) (hBc : B ≤ c) (hBb : B ≤ base) (hn : l.length ≤ 100000) :
 Calls Tryz.prog 118 #[.int .i64 i, .pointer (some ⟨c, 0, none⟩)] w fun e w' => e = .returned (.bool true) ∧ LSt w0 B base c (l ++ [j]) w' := by
 obtain ⟨⟨gv, capv, hc, hown, hne⟩, hbw, hbase⟩ := hst
 obtain ⟨i0, hi, hz0, hz1, hz2⟩ := info_parts info3
 have hcell := cell_of_one hc
 have hclt := cell_lt hc
 have HIJ := hide hij
 clear hij
 go_enter Tryz.func118, Tryz.ntmps118
 go_wp2_with (at_builtin; refine wpList_append_lies _ rfl _ _ _ rfl base 3 i0 _ 1 8 Tryz.underlying22 hi hz0 hz1 hz2 rfl (by omega) _ l.length (intV l) rfl (hown.alloc _) ⟨w.heap.size, 0, none⟩ 1 1 [.int .i64 i] rfl rfl (World.news_of_block (cs := #[.int .i64 i]) (t := 3) (fr := (0, 0)) (heap_alloc_new w _)) (by simp [Value.oneCell']) (by omega) (by unfold maxLen; omega) (by omega) (by simp; omega) (w.heap.size + 1) (by simp) ?_)
 intro g cap w1 hown1 hgr hat hlt
 have hc1 : w1.heap[c]? = some (.cells #[.slice (some ⟨gv, 0, none⟩) l.length capv] 22 (0, 0)) := by
  rw [hgr.block c (by simp; omega) (by simp [Value.ownBlock]; omega), heap_alloc_old _ _ hclt]; exact hc
 have hgc : g ≠ c := by
  rcases hat with h | h
  · simp [Value.ownBlock] at h; omega
  · omega
 have hcell1 := cell_of_one hc1
 have hfree1 := free_of_one hc1
 have hgv := (hown.lt gv rfl).1
 have hb1 : Below B w0 w1 := (hbw.alloc (by omega) _).grown hgr (by simp; omega) (by intro k hk; simp [Value.ownBlock] at hk; omega)
 have hsz := hgr.size
 clear hat hgr hcell hc hown
 go_wp2
 go_ret
 have hV : intV l ++ [.int .i64 i] = intV (l ++ [j]) := by simp [intV, HIJ.out]
 have hL : (l ++ [j]).length = l.length + 1 := by simp
 rw [hV] at hown1
 refine ⟨rfl, ⟨g, cap, ?_, ?_, hgc⟩, hb1.setCell hBc _, ?_⟩
 · rw [hL]; exact one_setCell hc1
 · rw [hL]; exact ownsRow_setCell_other hown1 (by simp [Value.ownBlock]; omega) _
 · simp at hsz ⊢; omega
theorem TabAt.below {w w' : World} {B : Nat} (h : TabAt w) (hb : Below B w w') (h0 : 0 < B) : TabAt w' := fun j hj => (hb.cell (p := ⟨0, j, none⟩) h0).trans (h j hj)
theorem and_pred_u64 (y : Nat) (h0 : y ≠ 0) (hy : y < 18446744073709551616) : bits BinOp.and IntKind.u64 (y : Int) ((y : Int) - 1) = ((y &&& (y - 1) : Nat) : Int) := by
 rw [show ((y : Int) - 1) = ((y - 1 : Nat) : Int) by omega, bits_and_u64_nat _ _ hy (by omega)]
theorem walk_list (w : World) (g cap m X c base B : Nat) (hword : ∀ k, k < m → w.cell? ⟨g, k, none⟩ = some (.int .u64 (wordAt X k))) (hm : m ≤ 128) (hT : TabAt w) (hgB : g < B) (hB0 : 0 < B)
 (hst : LSt w B base c [] w) (hBc : B ≤ c) (hBb : B ≤ base) :
 Calls Tryz.prog 117 #[.slice (some ⟨g, 0, none⟩) m cap, .func (.func 118) #[] #[.pointer (some ⟨c, 0, none⟩)]] w fun e w' => e = .returned (.tuple #[]) ∧ LSt w B base c (elems (64 * m) X) w' := by
 go_enter Tryz.func117, Tryz.ntmps117
 go_wp2
 go_loopw [8] (fun i wr => ∃ k : Nat, k ≤ m ∧ i = .int .i64 k ∧ LSt w B base c (elems (64 * k) X) wr) (fun i _ => m - (intOf i).toNat)
 case atStart => exact ⟨0, Nat.zero_le _, rfl, by simpa [elems] using hst⟩
 case round =>
  obtain ⟨k, hk, rfl, hsr⟩ := hrel
  clear hst
  by_cases hlt : k < m
  · have hcw : wr.cell? ⟨g, k, none⟩ = some (.int .u64 (wordAt X k)) := (hsr.below.cell hgB).trans (hword k hlt)
    have hwl := wordAt_lt X k
    clear hword
    go_wp2
    go_loopw [5] (fun yy wi => ∃ (y : Nat) (acc : List Nat), yy = .int .u64 y ∧ y < 18446744073709551616 ∧ LSt w B base c acc wi ∧ acc ++ (elems 64 y).map (64 * k + ·) = elems (64 * (k + 1)) X) (fun yy _ => (intOf yy).toNat)
    case atStart => exact ⟨_, _, rfl, hwl, hsr, (elems_succ X k).symm⟩
    case round =>
     obtain ⟨y, acc, rfl, hy, hsi, hacc⟩ := hrel
     have HA := hide hacc
     clear hacc hcw hsr
     by_cases h0 : y = 0
     · have hyb : ((y : Int) != 0) = false := by simp [h0]
       have HY := hide h0
       clear h0
       go_wp2
       go_roundw
       case rel =>
        have e := HA.out
        rw [HY.out, elems_zero] at e
        simp at e
        subst e
        exact ⟨k + 1, by omega, by go_num, hsi⟩
       case measure => simp [intOf]; omega
     · have hyb : ((y : Int) != 0) = true := by simp [h0]
       have hT2 : TabAt wr := hT.below hsi.below hB0
       have hc64 : Lib.ctz 64 y < 64 := by obtain ⟨_, _, h⟩ := ctz_spec y h0 hy; exact h
       have hstep : Hid (acc ++ [64 * k + Lib.ctz 64 y] ++ (elems 64 (y &&& (y - 1))).map (64 * k + ·) = elems (64 * (k + 1)) X) := by
        rw [← HA.out, elems_step y h0 hy]
        show _ = _
        simp
       have hacl : acc.length ≤ 100000 := by
        have h1 := congrArg List.length HA.out
        have h2 := cnt_le (64 * (k + 1)) X
        unfold cnt at h2
        simp at h1
        omega
       have hyp := and_pred_u64 y h0 hy
       have hlt2 := and_pred_lt y h0
       go_wp2_with (first | (go_at_call 143; refine (tz_any y hy h0 _ hT2).mono ?_; rintro e w' ⟨rfl, hw⟩; obtain rfl := hw.symm; clear hw) | (go_at_call 118; refine (put_any w c base B (64 * k + Lib.ctz 64 y) _ (by omega) acc _ hsi hBc hBb hacl).mono ?_; rintro e w2 ⟨rfl, hsi2⟩))
       go_roundw
       case rel => exact ⟨y &&& (y - 1), _, rfl, by omega, hsi2, hstep.out⟩
       case measure => simp [intOf]; omega
  · clear hword
    go_wp2
    go_end0
    have hke : k = m := by omega
    subst hke
    exact ⟨rfl, hsr⟩
theorem list_any (b g cap n X : Nat) (w : World) (hs : IsSet w b g cap n X) (hT : TabAt w) :
 Calls Tryz.prog 77 #[.pointer (some ⟨b, 0, none⟩)] w fun e w' => ∃ gl capl, e = .returned (.slice (some ⟨gl, 0, none⟩) (elems n X).length capl) ∧ w'.ownsRow w.heap.size 3 1 (.slice (some ⟨gl, 0, none⟩) (elems n X).length capl) (elems n X).length (intV (elems n X)) ∧ Below w.heap.size w w' := by
 have h1 := hs.c1
 have hblt := hs.blt
 have hglt := hs.glt
 have hcl := cnt_le n X
 have hn := hs.hn
 have hw0 : 0 < w.heap.size := by omega
 obtain ⟨i0, hi, hz0, hz1, hz2⟩ := info_parts info3
 go_enter Tryz.func77, Tryz.ntmps77
 go_wp2_with (first | (go_at_call 116; refine (count_any b g cap n X _ hs).mono ?_; rintro e w' ⟨rfl, hw⟩; obtain rfl := hw.symm; clear hw) | (at_make; refine wpList_make_own _ rfl _ _ 22 rfl w.heap.size 3 i0 (.int .i64 0) 1 Tryz.underlying22 hi hz0 hz1 _ _ _ (cnt n X) rfl rfl rfl ?_ ?_ ?_ ?_))
 · rw [hz2]; omega
 · unfold maxLen; omega
 · exact Nat.le_refl _
 · intro w1 hown hgrow
   have hb1 : Below w.heap.size w w1 := (Below.refl _ _).grown hgrow (Nat.le_refl _) (by intro k hk; cases hk)
   have hs1 := hs.below hb1
   have h11 := hs1.c1
   have hlt1 : w.heap.size < w1.heap.size := (hown.lt _ rfl).2
   have hT1 := hT.below hb1 hw0
   have hblt1 : b < w1.heap.size := hs1.blt
   clear hs h1
   go_wp2_with fail
   have hA := fun o => (Below.refl w.heap.size w1).alloc (by omega) o
   refine (walk_list _ g cap (nw n) X w1.heap.size w.heap.size w.heap.size (fun k hk => by rw [(hA _).cell (p := ⟨g, k, none⟩) hglt]; exact hs1.word k hk) (nw_le hn) (hT1.below (hA _) hw0) hglt hw0 ⟨⟨w.heap.size, cnt n X, heap_alloc_new _ _, hown.alloc _, by omega⟩, Below.refl _ _, by simp; omega⟩ (by omega) (Nat.le_refl _)).mono ?_
   rintro e w2 ⟨rfl, hst⟩
   obtain ⟨⟨gl, capl, hc, hownl, hne⟩, hbl, hbase⟩ := hst
   have hfull := elems_full n (64 * nw n) X hs1.hX (by unfold nw; omega)
   rw [hfull] at hc hownl
   have hcell := cell_of_one hc
   have hb2 : Below w.heap.size w w2 := (hb1.alloc (by omega) _).trans hbl
   clear hc hbl hs1 hA hfull hown hgrow
   go_wp2
   go_ret
   exact ⟨gl, capl, rfl, hownl, hb2⟩
theorem or_bit (X j : Nat) : bits BinOp.or IntKind.u64 (wordAt X (j / 64) : Int) ((2 ^ (j % 64) : Nat) : Int) = (wordAt (X ||| 2 ^ j) (j / 64) : Int) := by
 have hl : (2:Nat) ^ (j % 64) < 18446744073709551616 := Nat.lt_of_lt_of_le (Nat.pow_lt_pow_right (by decide) (Nat.mod_lt j (by decide))) (Nat.le_refl (2 ^ 64))
 rw [bits_or_u64_nat _ _ (wordAt_lt _ _) hl]
 congr 1
 apply Nat.eq_of_testBit_eq
 intro t
 rw [Nat.testBit_or, wordAt_testBit, wordAt_testBit, Nat.testBit_or, Nat.testBit_two_pow, Nat.testBit_two_pow]
 by_cases ht : t < 64
 · have : (j % 64 = t) ↔ (j = 64 * (j / 64) + t) := by omega
   simp [ht, this]
 · have : ¬ (j % 64 = t) := by omega
   simp [ht, this]
theorem or_other (X j i : Nat) (hne : i ≠ j / 64) : wordAt (X ||| 2 ^ j) i = wordAt X i := by
 apply Nat.eq_of_testBit_eq
 intro t
 rw [wordAt_testBit, wordAt_testBit, Nat.testBit_or, Nat.testBit_two_pow]
 by_cases ht : t < 64
 · have : ¬ (j = 64 * i + t) := by omega
   simp [this]
 · simp [ht]
theorem or_lt (n X j : Nat) (hX : X < 2 ^ n) (hj : j < n) : X ||| 2 ^ j < 2 ^ n := Nat.or_lt_two_pow hX (Nat.pow_lt_pow_right (by decide) hj)
theorem add_out (b g cap n X : Nat) (i : Int) (w : World) (hs : IsSet w b g cap n X) (hi : ¬ (0 ≤ i ∧ i < (n : Int))) :
 Calls Tryz.prog 138 #[.pointer (some ⟨b, 0, none⟩), .int .i64 i] w fun e w' => e = .returned (.int .i64 10) ∧ w' = w := by
 have h0 := hs.c0
 have HI := hide hi
 clear hs hi
 go_enter Tryz.func138, Tryz.ntmps138
 go_wp2_with (go_at_call 153; refine (inRange_no b i n _ h0 HI.out).mono ?_; rintro e w' ⟨rfl, hw⟩; obtain rfl := hw.symm; clear hw)
 go_ret
 exact ⟨rfl, rfl⟩
theorem add_in (b g cap n X j B : Nat) (w : World) (hs : IsSet w b g cap n X) (hbg : b ≠ g) (hj : j < n) (hB : B ≤ g) :
 Calls Tryz.prog 138 #[.pointer (some ⟨b, 0, none⟩), .int .i64 j] w fun e w' => e = .returned (.int .i64 0) ∧ IsSet w' b g cap n (X ||| 2 ^ j) ∧ Below B w w' := by
 have h0 := hs.c0
 have h1 := hs.c1
 have hn := hs.hn
 have hix : j / 64 < nw n := by unfold nw; omega
 have hw := hs.word (j / 64) hix
 have hfz : w.frozen? ⟨g, j / 64, none⟩ = false := hs.own.frozenAt _
 have HS := hide hs
 obtain ⟨q, hq⟩ : ∃ q, j / 64 = q := ⟨_, rfl⟩
 have hi2 : IntKind.i64.wrap ((j : Int) / 64) = (q : Int) := by rw [IntKind.wrap_i64]; omega
 rw [hq] at hix hw hfz
 have hi0 : (0 : Int) ≤ (q : Int) := by omega
 have hi1 : (q : Int) < (nw n : Int) := by omega
 have HQ := hide hq
 clear hs hq
 go_enter Tryz.func138, Tryz.ntmps138
 go_wp2_with (go_at_call 153; refine (inRange_yes b j n _ h0 (by omega)).mono ?_; rintro e w' ⟨rfl, hw⟩; obtain rfl := hw.symm; clear hw)
 go_region_with (go_at_call 154; refine (bit_any j _ (by omega) (by omega)).mono ?_; rintro e w' ⟨rfl, rfl⟩)
 all_goals go_wp2
 all_goals go_ret
 all_goals
  refine ⟨rfl, IsSet.drew (HS.out.store hbg hix (or_lt n X j HS.out.hX hj) (fun i _ hne => or_other X j i (by rw [HQ.out]; exact hne)) ?_), (Below.setCell (Below.refl _ _) hB _).drew⟩
  rw [← HQ.out]
  have hm : (((j : Int) % 64).toNat) = j % 64 := by omega
  have := or_bit X j
  first
   | exact this
   | (simp only [hm]; exact this)
   | (simp only [hm]; simpa using this)
def setI (n : Nat) (l : List Int) : Nat := l.foldl (fun X i => if 0 ≤ i ∧ i < (n : Int) then X ||| 2 ^ i.toNat else X) 0
theorem setI_snoc (n : Nat) (l : List Int) (i : Int) : setI n (l ++ [i]) = if 0 ≤ i ∧ i < (n : Int) then setI n l ||| 2 ^ i.toNat else setI n l := by
 simp [setI]
def ReadsI (w : World) (ao : Option Addr) (l : List Int) : Prop := ∀ k, k < l.length → ∃ g o, ao = some ⟨g, o, none⟩ ∧ w.cell? ⟨g, o + k, none⟩ = some (.int .i64 (l.getD k 0))
theorem take_one (l : List Int) (k : Nat) (h : k < l.length) : l.take (k + 1) = l.take k ++ [l.getD k 0] := by
 rw [List.take_succ_eq_append_getElem h]; simp [List.getD, h]
def okI (n : Nat) (l : List Int) : Bool := l.all fun i => decide (0 ≤ i ∧ i < (n : Int))
theorem okI_false {n : Nat} {l : List Int} {k : Nat} {x : Int} (hlt : k < l.length) (hx : l.getD k 0 = x) (hin : ¬ (0 ≤ x ∧ x < (n : Int))) : okI n l = false := by
 unfold okI
 rw [List.all_eq_false]
 refine ⟨x, ?_, by simpa using hin⟩
 rw [← hx, List.getD_eq_getElem?_getD, List.getElem?_eq_getElem hlt]
 exact List.getElem_mem hlt
theorem okI_take_one {n : Nat} {l : List Int} {k : Nat} {x : Int} (ht : l.take (k + 1) = l.take k ++ [x]) (h : okI n (l.take k) = true) (hin : 0 ≤ x ∧ x < (n : Int)) : okI n (l.take (k + 1)) = true := by
 unfold okI at h ⊢
 rw [ht, List.all_append, h]
 simpa using hin
theorem of81_any (ao : Option Addr) (cp n : Nat) (l : List Int) (w : World) (hn : n ≤ 8192) (hr : ReadsI w ao l) (hlen : l.length ≤ 9223372036854775807) :
 Calls Tryz.prog 150 #[.int .i64 n, .slice ao l.length cp] w fun e w' => (okI n l = true ∧ ∃ b g cap, e = .returned (.tuple #[.pointer (some ⟨b, 0, none⟩), .int .i64 0]) ∧ IsSet w' b g cap n (setI n l) ∧ w.heap.size ≤ b ∧ w.heap.size ≤ g ∧ b ≠ g ∧ Below w.heap.size w w') ∨ (okI n l = false ∧ e = .returned (.tuple #[.pointer none, .int .i64 10]) ∧ Below w.heap.size w w') := by
 go_enter Tryz.func150, Tryz.ntmps150
 go_wp2_with fail
 refine (new_ok n _ hn).mono ?_
 rintro e w1 ⟨b, g, cap, rfl, hs1, hb, hg, hbg, hb1⟩
 go_wp2
 go_loopw [21] (fun i wr => ∃ k : Nat, k ≤ l.length ∧ i = .int .i64 k ∧ IsSet wr b g cap n (setI n (l.take k)) ∧ Hid (okI n (l.take k) = true) ∧ Below w.heap.size w wr) (fun i _ => l.length - (intOf i).toNat)
 case atStart => exact ⟨0, Nat.zero_le _, rfl, hs1, rfl, hb1⟩
 case round =>
  obtain ⟨k, hk, rfl, hsr, HO, hbr⟩ := hrel
  clear hs1 hb1
  by_cases hlt : k < l.length
  · obtain ⟨ga, oa, rfl, hc⟩ := hr k hlt
    have hgl : ga < w.heap.size := World.block_lt_of_cell? w ⟨ga, oa + k, none⟩ hc
    have hc2 := (hbr.cell (p := ⟨ga, oa + k, none⟩) hgl).trans hc
    have ht := take_one l k hlt
    obtain ⟨x, hx⟩ : ∃ x, l.getD k 0 = x := ⟨_, rfl⟩
    rw [hx] at hc2 ht
    have HT := hide ht
    have HW := hide hr
    have HX := hide hx
    clear ht hx hr hc
    by_cases hin : 0 ≤ x ∧ x < (n : Int)
    · obtain ⟨j, rfl⟩ := Int.eq_ofNat_of_zero_le hin.1
      have hj : j < n := by omega
      go_wp2_with fail
      refine (add_in b g cap n _ j w.heap.size _ hsr hbg hj hg).mono ?_
      rintro e w2 ⟨rfl, hs2, hb2⟩
      have hc3 := (hb2.cell (p := ⟨ga, oa + k, none⟩) hgl).trans hc2
      have hb3 := hbr.trans hb2
      have HO2 := hide (okI_take_one HT.out HO.out hin)
      clear hsr hbr hb2 hc2
      go_wp2
      go_roundw
      case rel => exact ⟨k + 1, by omega, by go_num, by rw [HT.out, setI_snoc, if_pos hin]; exact hs2, HO2, hb3⟩
      case measure => simp [intOf]; omega
    · have HF := hide (okI_false hlt HX.out hin)
      have HB := hide hbr
      go_wp2_with fail
      refine (add_out b g cap n _ x _ hsr hin).mono ?_
      rintro e w2 ⟨rfl, rfl⟩
      clear hin hbr hsr
      go_wp2
      go_ret2
      exact .inr ⟨HF.out, rfl, HB.out⟩
  · obtain rfl : k = l.length := by omega
    have HS := hide hsr
    have HB := hide hbr
    have HN := hide (And.intro hb (And.intro hg hbg))
    rw [List.take_length] at HO HS
    clear hsr hbr hr hb hg hbg
    go_wp2
    go_ret2
    exact .inl ⟨HO.out, _, _, _, rfl, HS.out, HN.out.1, HN.out.2.1, HN.out.2.2, HB.out⟩
end Go.Proofs.YtchoopnjckcohaaGreatDoor
namespace Go.Proofs.YtchoopnjckcohaaGreatDoor
open Go.RowKit
attribute [local go_sem] Oper.semAt_some
abbrev EdT := Int × Int × Int
def RdN (W : World) (ao : Option Addr) (L : List Int) : Prop := ∀ (j : Nat) (h : j < L.length), ∃ g o, ao = some ⟨g, o, none⟩ ∧ W.cell? ⟨g, o + j, none⟩ = some (.int .i64 L[j])
def RdE (W : World) (ao : Option Addr) (L : List EdT) : Prop := ∀ (j : Nat) (h : j < L.length), ∃ g o, ao = some ⟨g, o, none⟩ ∧ W.cell? ⟨g, o + j * 3, none⟩ = some (.int .i64 L[j].1) ∧ W.cell? ⟨g, o + j * 3 + 1, none⟩ = some (.int .i64 L[j].2.1) ∧ W.cell? ⟨g, o + j * 3 + 2, none⟩ = some (.int .i64 L[j].2.2)
theorem RdN.on {W W' : World} {ao : Option Addr} {L : List Int} (h : RdN W ao L) (d : Below W.heap.size W W') : RdN W' ao L := fun j hj => by
 obtain ⟨g, o, rfl, c⟩ := h j hj
 exact ⟨g, o, rfl, (d.cell (p := ⟨g, o + j, none⟩) (World.block_lt_of_cell? W _ c)).trans c⟩
theorem RdE.on {W W' : World} {ao : Option Addr} {L : List EdT} (h : RdE W ao L) (d : Below W.heap.size W W') : RdE W' ao L := fun j hj => by
 obtain ⟨g, o, rfl, c1, c2, c3⟩ := h j hj
 have hg : g < W.heap.size := World.block_lt_of_cell? W ⟨g, o + j * 3, none⟩ c1
 exact ⟨g, o, rfl, (d.cell (p := ⟨g, o + j * 3, none⟩) hg).trans c1, (d.cell (p := ⟨g, o + j * 3 + 1, none⟩) hg).trans c2, (d.cell (p := ⟨g, o + j * 3 + 2, none⟩) hg).trans c3⟩
theorem cell_of {w : World} {b j : Nat} {cs : Array Value} {t : TypeId} {fr : Nat × Nat} {v : Value} (h : w.heap[b]? = some (.cells cs t fr)) (hv : cs[j]? = some v) : w.cell? ⟨b, j, none⟩ = some v := by simp [World.cell?, h, hv]
theorem fz_of {W : World} {b j : Nat} {c : Array Value} {t : TypeId} (h : W.heap[b]? = some (.cells c t (0, 0))) : W.frozen? ⟨b, j, none⟩ = false := by simp [World.frozen?, h]
theorem blk_on {W W' : World} {g : Nat} {o : Obj} (h : W.heap[g]? = some o) (d : Below W.heap.size W W') : W'.heap[g]? = some o := (d.block _ (Array.getElem?_eq_some_iff.1 h).1).trans h
def inB (n x : Int) : Bool := decide (0 ≤ x ∧ x < n)
theorem inB_iff {n x : Int} : inB n x = true ↔ 0 ≤ x ∧ x < n := by simp [inB]
theorem inB_not {n x : Int} : inB n x = false ↔ ¬ (0 ≤ x ∧ x < n) := by simp [inB]
theorem within_any (x n : Int) (w : World) : Calls Tryz.prog 111 #[.int .i64 x, .int .i64 n] w fun e w' => e = .returned (.bool (inB n x)) ∧ w' = w := by
 by_cases h : 0 ≤ x
 · go_enter Tryz.func111, Tryz.ntmps111
   go_wp2
   go_ret
   exact ⟨by simp [inB, h], rfl⟩
 · go_enter Tryz.func111, Tryz.ntmps111
   go_wp2
   go_ret
   exact ⟨by simp [inB]; omega, rfl⟩
theorem allWithin_any (ao : Option Addr) (cp : Nat) (L : List Int) (n : Int) (w : World) (hr : Hid (RdN w ao L)) (hl : L.length ≤ 4194304) : Calls Tryz.prog 112 #[.slice ao L.length cp, .int .i64 n] w fun e w' => e = .returned (.bool (L.all (inB n))) ∧ w' = w := by
 obtain ⟨m, hm⟩ : ∃ m, m = L.length := ⟨_, rfl⟩
 have HL := hide hm
 rw [← hm]
 rw [← hm] at hl
 clear hm
 go_enter Tryz.func112, Tryz.ntmps112
 go_wp2
 go_loopw [9] (fun iv wr => ∃ i : Nat, i ≤ m ∧ iv = .int .i64 i ∧ wr = w ∧ Hid ((L.take i).all (inB n) = true)) (fun iv _ => m - (intOf iv).toNat)
 case atStart => exact ⟨0, Nat.zero_le _, rfl, rfl, hide (by simp)⟩
 case round =>
  obtain ⟨i, hi, rfl, hw, HY⟩ := hrel
  obtain rfl := hw
  by_cases hil : i < m
  · have i0 : (0 : Int) ≤ (i : Int) := by omega
    have i1 : (i : Int) < (m : Int) := by omega
    have hi2 : i < L.length := by rw [← HL.out]; exact hil
    obtain ⟨g, o, rfl, c⟩ := hr.out i hi2
    have HT := hide (show L.take (i + 1) = L.take i ++ [L[i]] by rw [List.take_add_one, List.getElem?_eq_getElem hi2]; rfl)
    have HM := hide (List.getElem_mem hi2)
    obtain ⟨x, hx⟩ : ∃ x, L[i] = x := ⟨_, rfl⟩
    rw [hx] at c HT HM
    clear hx
    cases hb : inB n x
    · go_wp2_with (go_at_call 111; refine (within_any x n wr).mono ?_; rintro e w2 ⟨rfl, rfl⟩)
      go_wp2
      go_ret
      refine ⟨?_, rfl⟩
      have : L.all (inB n) = false := List.all_eq_false.2 ⟨x, HM.out, by rw [hb]; simp⟩
      rw [this]
      rfl
    · go_wp2_with (go_at_call 111; refine (within_any x n wr).mono ?_; rintro e w2 ⟨rfl, rfl⟩)
      go_wp2
      go_roundw
      case rel => exact ⟨i + 1, by omega, by go_num, trivial, hide (by rw [HT.out, List.all_append, HY.out]; simp [hb])⟩
      case measure => simp [intOf]; omega
  · obtain rfl : m = i := by omega
    have i1 : ¬ (m : Int) < (m : Int) := by omega
    go_wp2
    go_ret
    refine ⟨?_, rfl⟩
    have q := HY.out
    rw [HL.out, List.take_length] at q
    rw [q]
    rfl
def edOk (n m : Int) (e : EdT) : Bool := inB n e.1 && inB m e.2.1 && inB n e.2.2
def mayA (n m : Int) (St Fi : List Int) (Ed : List EdT) : Bool := inB 4097 n && inB 129 m && decide (Ed.length ≤ 65536) && St.all (inB n) && Fi.all (inB n) && Ed.all (edOk n m)
structure RdA (W : World) (a1 a2 a3 : Option Addr) (St Fi : List Int) (Ed : List EdT) : Prop where
 s : RdN W a1 St
 f : RdN W a2 Fi
 e : RdE W a3 Ed
theorem RdA.on {W W' : World} {a1 a2 a3 : Option Addr} {St Fi : List Int} {Ed : List EdT} (h : RdA W a1 a2 a3 St Fi Ed) (d : Below W.heap.size W W') : RdA W' a1 a2 a3 St Fi Ed := ⟨h.s.on d, h.f.on d, h.e.on d⟩
theorem valid_any (w : World) (n m : Int) (a1 a2 a3 : Option Addr) (c1 c2 c3 : Nat) (St Fi : List Int) (Ed : List EdT) (hA : Hid (RdA w a1 a2 a3 St Fi Ed)) (h1 : St.length ≤ 4194304) (h2 : Fi.length ≤ 4194304) (h3 : Ed.length ≤ 4194304) :
 Calls Tryz.prog 75 #[.agg #[.int .i64 n, .int .i64 m, .slice a1 St.length c1, .slice a2 Fi.length c2, .slice a3 Ed.length c3]] w fun e w' => e = .returned (.int .i64 (if mayA n m St Fi Ed then 0 else 2)) ∧ Below w.heap.size w w' := by
 obtain ⟨W0, hW0⟩ : ∃ W0, w.alloc (.cells #[.int .i64 n, .int .i64 m, .slice a1 St.length c1, .slice a2 Fi.length c2, .slice a3 Ed.length c3] 25) = W0 := ⟨_, rfl⟩
 have d0 : Below w.heap.size w W0 := by rw [← hW0]; exact (Below.refl _ _).alloc (Nat.le_refl _) _
 have B0 : W0.heap[w.heap.size]? = some (.cells #[.int .i64 n, .int .i64 m, .slice a1 St.length c1, .slice a2 Fi.length c2, .slice a3 Ed.length c3] 25 (0, 0)) := by rw [← hW0]; exact World.alloc_heap_new _ _
 have HD := hide (And.intro d0 B0)
 have k0 : W0.cell? ⟨w.heap.size, 0, none⟩ = some (.int .i64 n) := cell_of B0 rfl
 have k1 : W0.cell? ⟨w.heap.size, 1, none⟩ = some (.int .i64 m) := cell_of B0 rfl
 have k2 : W0.cell? ⟨w.heap.size, 2, none⟩ = some (.slice a1 St.length c1) := cell_of B0 rfl
 have k3 : W0.cell? ⟨w.heap.size, 3, none⟩ = some (.slice a2 Fi.length c2) := cell_of B0 rfl
 have k4 : W0.cell? ⟨w.heap.size, 4, none⟩ = some (.slice a3 Ed.length c3) := cell_of B0 rfl
 have HA := hide (hA.out.on d0)
 clear d0 B0 hA
 have T1 := allWithin_any a1 c1 St n W0 (hide HA.out.s) h1
 have T2 := allWithin_any a2 c2 Fi n W0 (hide HA.out.f) h2
 obtain ⟨r, hr⟩ : ∃ r : Int, (if mayA n m St Fi Ed then (0 : Int) else 2) = r := ⟨_, rfl⟩
 rw [hr]
 have HR := hide hr
 have HB : Hid (mayA n m St Fi Ed = false → Ending.returned (.int .i64 2) = Ending.returned (.int .i64 r)) := hide (fun h => by rw [← HR.out, h]; rfl)
 clear hr
 go_enter Tryz.func75, Tryz.ntmps75
 cases e1 : inB 4097 n
 · go_wp2_with (go_at_call 111; refine (within_any _ _ _).mono ?_; rintro e w2 ⟨rfl, hw⟩; obtain rfl := hw.symm)
   go_ret
   exact ⟨HB.out (by simp [mayA, e1]), HD.out.1⟩
 cases e2 : inB 129 m
 · go_wp2_with (go_at_call 111; refine (within_any _ _ _).mono ?_; rintro e w2 ⟨rfl, hw⟩; obtain rfl := hw.symm)
   go_ret
   exact ⟨HB.out (by simp [mayA, e2]), HD.out.1⟩
 by_cases e3 : Ed.length ≤ 65536
 case neg =>
  have i3 : (65536 : Int) < (Ed.length : Int) := by omega
  go_wp2_with (go_at_call 111; refine (within_any _ _ _).mono ?_; rintro e w2 ⟨rfl, hw⟩; obtain rfl := hw.symm)
  go_ret
  exact ⟨HB.out (by simp [mayA, e3]), HD.out.1⟩
 have i3 : ¬ (65536 : Int) < (Ed.length : Int) := by omega
 cases e4 : St.all (inB n)
 · rw [e4] at T1
   go_wp2_with (first
    | (go_at_call 111; refine (within_any _ _ _).mono ?_; rintro e w2 ⟨rfl, hw⟩; obtain rfl := hw.symm)
    | (go_at_call 112; refine T1.mono ?_; rintro e w2 ⟨rfl, hw⟩; obtain rfl := hw.symm))
   go_ret
   exact ⟨HB.out (by simp [mayA, e4]), HD.out.1⟩
 rw [e4] at T1
 cases e5 : Fi.all (inB n)
 · rw [e5] at T2
   go_wp2_with (first
    | (go_at_call 111; refine (within_any _ _ _).mono ?_; rintro e w2 ⟨rfl, hw⟩; obtain rfl := hw.symm)
    | (go_at_call_of 112 a1; refine T1.mono ?_; rintro e w2 ⟨rfl, hw⟩; obtain rfl := hw.symm)
    | (go_at_call_of 112 a2; refine T2.mono ?_; rintro e w2 ⟨rfl, hw⟩; obtain rfl := hw.symm))
   go_ret
   exact ⟨HB.out (by simp [mayA, e5]), HD.out.1⟩
 rw [e5] at T2
 have HM : Hid (Ed.all (edOk n m) = true → mayA n m St Fi Ed = true) := hide (fun h => by simp [mayA, e1, e2, e3, e4, e5, h])
 obtain ⟨L, hL⟩ : ∃ L, Ed.length = L := ⟨_, rfl⟩
 have HL := hide hL
 rw [hL] at k4 h3 e3 i3 hW0
 rw [hL]
 clear hL
 go_upto_region 5 with (first
  | (go_at_call 111; refine (within_any _ _ _).mono ?_; rintro e w2 ⟨rfl, hw⟩; obtain rfl := hw.symm)
  | (go_at_call_of 112 a1; refine T1.mono ?_; rintro e w2 ⟨rfl, hw⟩; obtain rfl := hw.symm)
   | (go_at_call_of 112 a2; refine T2.mono ?_; rintro e w2 ⟨rfl, hw⟩; obtain rfl := hw.symm))
 clear T1 T2 e1 e2 e4 e5
 go_wp2
 go_loopw [38] (fun iv wr => ∃ i : Nat, i ≤ L ∧ iv = .int .i64 i ∧ Hid (Below W0.heap.size W0 wr ∧ (Ed.take i).all (edOk n m) = true)) (fun iv _ => L - (intOf iv).toNat)
 case atStart => exact ⟨0, Nat.zero_le _, rfl, hide ⟨Below.refl _ _, by simp⟩⟩
 case round =>
  obtain ⟨i, hi, rfl, HY⟩ := hrel
  by_cases hil : i < L
  · have i0 : (0 : Int) ≤ (i : Int) := by omega
    have i1 : (i : Int) < (L : Int) := by omega
    have hi2 : i < Ed.length := by rw [HL.out]; exact hil
    obtain ⟨g, o, rfl, q1, q2, q3⟩ := (HA.out.e.on HY.out.1) i hi2
    have HT := hide (show Ed.take (i + 1) = Ed.take i ++ [Ed[i]] by rw [List.take_add_one, List.getElem?_eq_getElem hi2]; rfl)
    have HN := hide (List.getElem_mem hi2)
    obtain ⟨x, hx⟩ : ∃ x, Ed[i] = x := ⟨_, rfl⟩
    rw [hx] at q1 q2 q3 HT HN
    clear hx
    obtain ⟨x1, x2, x3⟩ := x
    obtain ⟨W1, hW1⟩ : ∃ W1, wr.alloc (.cells #[.int .i64 x1, .int .i64 x2, .int .i64 x3] 61) = W1 := ⟨_, rfl⟩
    have HW : Hid (W1.heap[wr.heap.size]? = some (.cells #[.int .i64 x1, .int .i64 x2, .int .i64 x3] 61 (0, 0)) ∧ Below W0.heap.size W0 W1) := hide (by rw [← hW1]; exact ⟨World.alloc_heap_new _ _, HY.out.1.alloc HY.out.1.size _⟩)
    have HBx := hide (blk_on HD.out.2 HW.out.2)
    have y0 : W1.cell? ⟨wr.heap.size, 0, none⟩ = some (.int .i64 x1) := cell_of HW.out.1 rfl
    have y1 : W1.cell? ⟨wr.heap.size, 1, none⟩ = some (.int .i64 x2) := cell_of HW.out.1 rfl
    have y2 : W1.cell? ⟨wr.heap.size, 2, none⟩ = some (.int .i64 x3) := cell_of HW.out.1 rfl
    have z0 : W1.cell? ⟨w.heap.size, 0, none⟩ = some (.int .i64 n) := cell_of HBx.out rfl
    have z1 : W1.cell? ⟨w.heap.size, 1, none⟩ = some (.int .i64 m) := cell_of HBx.out rfl
    have HBd : Hid (edOk n m (x1, x2, x3) = false → mayA n m St Fi Ed = false) := hide (fun h => by
     have : Ed.all (edOk n m) = false := List.all_eq_false.2 ⟨_, HN.out, by rw [h]; simp⟩
     simp [mayA, this])
    cases f1 : inB n x1
    · go_wp2_with (go_at_call 111; refine (within_any _ _ _).mono ?_; rintro e w2 ⟨rfl, hw⟩; obtain rfl := hw.symm)
      go_ret
      exact ⟨HB.out (HBd.out (by simp [edOk, f1])), HD.out.1.trans (HW.out.2.mono HD.out.1.size)⟩
    cases f2 : inB m x2
    · go_wp2_with (go_at_call 111; refine (within_any _ _ _).mono ?_; rintro e w2 ⟨rfl, hw⟩; obtain rfl := hw.symm)
      go_ret
      exact ⟨HB.out (HBd.out (by simp [edOk, f2])), HD.out.1.trans (HW.out.2.mono HD.out.1.size)⟩
    cases f3 : inB n x3
    · go_wp2_with (go_at_call 111; refine (within_any _ _ _).mono ?_; rintro e w2 ⟨rfl, hw⟩; obtain rfl := hw.symm)
      go_ret
      exact ⟨HB.out (HBd.out (by simp [edOk, f3])), HD.out.1.trans (HW.out.2.mono HD.out.1.size)⟩
    go_wp2_with (go_at_call 111; refine (within_any _ _ _).mono ?_; rintro e w2 ⟨rfl, hw⟩; obtain rfl := hw.symm)
    go_roundw
    case rel => exact ⟨i + 1, by omega, by go_num, hide ⟨HW.out.2, by rw [HT.out, List.all_append, HY.out.2]; simp [edOk, f1, f2, f3]⟩⟩
    case measure => simp [intOf]; omega
  · obtain rfl : L = i := by omega
    have i1 : ¬ (L : Int) < (L : Int) := by omega
    go_wp2
    go_ret
    have q := HY.out.2
    rw [← HL.out, List.take_length] at q
    exact ⟨by rw [← HR.out, HM.out q]; rfl, HD.out.1.trans (HY.out.1.mono HD.out.1.size)⟩
end Go.Proofs.YtchoopnjckcohaaGreatDoor
namespace Go.Proofs.YtchoopnjckcohaaGreatDoor
open Go.RowKit
/-! ### Short words for drawn regions -/
theorem zsb {A : Act} {t : Nat} {v : Value} (h : A.tmps.getD t undef = v) : A.tmps.getD t undef = v ∧ A.tmps[t]?.getD undef = v := ⟨h, by rw [← h, Array.getD_eq_getD_getElem?]⟩
theorem zsr {A : Act} {t : Nat} {x v : Value} (h : A.tmps.getD t undef = x) (e : x = v) : A.tmps.getD t undef = v ∧ A.tmps[t]?.getD undef = v := zsb (h.trans e)
theorem zsq {A : Act} {t j a b : Nat} {y : Nat → Value} {L : List It} {W : World} {v : Value} (h : A.tmps.getD t undef = y j) (e : ∃ lo hi, a ≤ lo ∧ hi ≤ b ∧ (itL L j).p y lo hi W) (hv : itL L j = vI j v) : A.tmps.getD t undef = v ∧ A.tmps[t]?.getD undef = v := by
  obtain ⟨_, _, _, _, e⟩ := e
  rw [hv] at e
  exact zsb (h.trans e)
theorem zsg {A : Act} {y : Nat → Value} {l : List Oper} {L : List It} {E : Array Edge} {a b : Nat} {W : World} {v : Value} (j t : Nat) (g : Ground) (hy : ∀ (j : Nat) (o' : Oper) (d : Nat), l[j]? = some o' → o'.dst = some d → A.tmps.getD d undef = y j) (hd : ∀ e ∈ E, Region.binds .any e = true → ndB e = true → ∃ lo hi, a ≤ lo ∧ hi ≤ b ∧ (itL L e.on).p y lo hi W) (hv : itL L j = vI j v) (h1 : l[j]?.bind Oper.dst = some t := by exact rfl) (h3 : (⟨j, g⟩ : Edge) ∈ E := by simp) (h4 : Region.binds .any ⟨j, g⟩ = true := by exact rfl) (h5 : ndB ⟨j, g⟩ = true := by exact rfl) : A.tmps.getD t undef = v ∧ A.tmps[t]?.getD undef = v := by
  cases h : l[j]? with
  | none => rw [h] at h1; cases h1
  | some o => rw [h] at h1; exact zsq (hy j o t h h1) (hd _ h3 h4 h5) hv
theorem zgd {A : Act} {y : Nat → Value} {l : List Oper} {L : List It} {E : Array Edge} {a b : Nat} {W : World} {v : Bool} (j t : Nat) (hy : ∀ (j : Nat) (o' : Oper) (d : Nat), l[j]? = some o' → o'.dst = some d → A.tmps.getD d undef = y j) (hd : ∀ e ∈ E, Region.binds .any e = true → ndB e = true → ∃ lo hi, a ≤ lo ∧ hi ≤ b ∧ (itL L e.on).p y lo hi W) (hv : itL L j = vI j (.bool v)) (h1 : l[j]?.bind Oper.dst = some t := by exact rfl) (h3 : (⟨j, .guard⟩ : Edge) ∈ E := by simp) (h4 : Region.binds .any ⟨j, .guard⟩ = true := by exact rfl) (h5 : ndB ⟨j, .guard⟩ = true := by exact rfl) : A.tmps[t]? = some (.bool v) := got_bool (zsg j t .guard hy hd hv h1 h3 h4 h5).1
theorem zev {j a b : Nat} {y : Nat → Value} {L : List It} {W : World} {v : Value} (e : ∃ lo hi, a ≤ lo ∧ hi ≤ b ∧ (itL L j).p y lo hi W) (hv : itL L j = vI j v) : y j = v := by
  obtain ⟨_, _, _, _, e⟩ := e
  rw [hv] at e
  exact e
theorem MadeI.v {w : World} {L : List It} {ops : Array Oper} {n : Nat} {is : Nat → Bool} {y : Nat → Value} {lo hi : Nat → Nat} {W : World} (hM : MadeI w L ops n is y lo hi W) (i : Nat) {v : Value} (h1 : i < n) (h2 : is i = true) (h3 : notR (L.map It.ret) i = true) (hv : itL L i = vI i v) : y i = v := by
  have e := hM.fact i h1 h2 (notR_all i h3)
  rw [hv] at e
  exact e
theorem zkq {w : World} {L : List It} {i : Nat} {A : Act} {d : Option Nat} {y : Nat → Value} {W : World} {K : Act → World → Prop} {x : Value} (hK : Shut (∀ x W', Stp w L i y W W' → (itL L i).p (updV y i x) W.heap.size W'.heap.size W' → K (A.put d x) W')) (hm : MonIL 0 L) (hd : Below w.heap.size w W) (h : (itL L i).p (updV y i x) W.heap.size W.heap.size W) : K (A.put d x) W := hK.out x W (stp_of hm hd (Below.refl _ _)) h
theorem zc5 {w : World} {b : Nat} {t : TypeId} {fr : Nat × Nat} {v0 v1 v2 v3 v4 : Value} (h : w.heap[b]? = some (.cells #[v0, v1, v2, v3, v4] t fr)) : w.cell? ⟨b, 0, none⟩ = some v0 ∧ w.cell? ⟨b, 1, none⟩ = some v1 ∧ w.cell? ⟨b, 2, none⟩ = some v2 ∧ w.cell? ⟨b, 3, none⟩ = some v3 ∧ w.cell? ⟨b, 4, none⟩ = some v4 := ⟨cell_of h rfl, cell_of h rfl, cell_of h rfl, cell_of h rfl, cell_of h rfl⟩
theorem zc12 {w : World} {b : Nat} {t : TypeId} {fr : Nat × Nat} {v0 v1 v2 v3 v4 v5 v6 v7 v8 v9 v10 v11 : Value} (h : w.heap[b]? = some (.cells #[v0, v1, v2, v3, v4, v5, v6, v7, v8, v9, v10, v11] t fr)) : w.cell? ⟨b, 0, none⟩ = some v0 ∧ w.cell? ⟨b, 1, none⟩ = some v1 ∧ w.cell? ⟨b, 2, none⟩ = some v2 ∧ w.cell? ⟨b, 3, none⟩ = some v3 ∧ w.cell? ⟨b, 4, none⟩ = some v4 ∧ w.cell? ⟨b, 5, none⟩ = some v5 ∧ w.cell? ⟨b, 6, none⟩ = some v6 ∧ w.cell? ⟨b, 7, none⟩ = some v7 ∧ w.cell? ⟨b, 8, none⟩ = some v8 ∧ w.cell? ⟨b, 9, none⟩ = some v9 ∧ w.cell? ⟨b, 10, none⟩ = some v10 ∧ w.cell? ⟨b, 11, none⟩ = some v11 := ⟨cell_of h rfl, cell_of h rfl, cell_of h rfl, cell_of h rfl, cell_of h rfl, cell_of h rfl, cell_of h rfl, cell_of h rfl, cell_of h rfl, cell_of h rfl, cell_of h rfl, cell_of h rfl⟩
theorem zd2 {w : World} {b : Nat} {t : TypeId} {f : Nat × Nat} {c : Array Value} {v0 v1 : Value} (h : w.heap[b]? = some (.cells c t f)) (h0 : c[0]? = some v0) (h1 : c[1]? = some v1) : w.cell? ⟨b, 0, none⟩ = some v0 ∧ w.cell? ⟨b, 1, none⟩ = some v1 := ⟨cell_of h h0, cell_of h h1⟩
theorem zd3 {w : World} {b : Nat} {t : TypeId} {f : Nat × Nat} {c : Array Value} {v0 v1 v2 : Value} (h : w.heap[b]? = some (.cells c t f)) (h0 : c[0]? = some v0) (h1 : c[1]? = some v1) (h2 : c[2]? = some v2) : w.cell? ⟨b, 0, none⟩ = some v0 ∧ w.cell? ⟨b, 1, none⟩ = some v1 ∧ w.cell? ⟨b, 2, none⟩ = some v2 := ⟨cell_of h h0, cell_of h h1, cell_of h h2⟩
theorem zd4 {w : World} {b : Nat} {t : TypeId} {f : Nat × Nat} {c : Array Value} {v0 v1 v2 v3 : Value} (h : w.heap[b]? = some (.cells c t f)) (h0 : c[0]? = some v0) (h1 : c[1]? = some v1) (h2 : c[2]? = some v2) (h3 : c[3]? = some v3) : w.cell? ⟨b, 0, none⟩ = some v0 ∧ w.cell? ⟨b, 1, none⟩ = some v1 ∧ w.cell? ⟨b, 2, none⟩ = some v2 ∧ w.cell? ⟨b, 3, none⟩ = some v3 := ⟨cell_of h h0, cell_of h h1, cell_of h h2, cell_of h h3⟩
theorem zd5 {w : World} {b : Nat} {t : TypeId} {f : Nat × Nat} {c : Array Value} {v0 v1 v2 v3 v4 : Value} (h : w.heap[b]? = some (.cells c t f)) (h0 : c[0]? = some v0) (h1 : c[1]? = some v1) (h2 : c[2]? = some v2) (h3 : c[3]? = some v3) (h4 : c[4]? = some v4) : w.cell? ⟨b, 0, none⟩ = some v0 ∧ w.cell? ⟨b, 1, none⟩ = some v1 ∧ w.cell? ⟨b, 2, none⟩ = some v2 ∧ w.cell? ⟨b, 3, none⟩ = some v3 ∧ w.cell? ⟨b, 4, none⟩ = some v4 := ⟨cell_of h h0, cell_of h h1, cell_of h h2, cell_of h h3, cell_of h h4⟩
theorem zd6 {w : World} {b : Nat} {t : TypeId} {f : Nat × Nat} {c : Array Value} {v0 v1 v2 v3 v4 v5 : Value} (h : w.heap[b]? = some (.cells c t f)) (h0 : c[0]? = some v0) (h1 : c[1]? = some v1) (h2 : c[2]? = some v2) (h3 : c[3]? = some v3) (h4 : c[4]? = some v4) (h5 : c[5]? = some v5) : w.cell? ⟨b, 0, none⟩ = some v0 ∧ w.cell? ⟨b, 1, none⟩ = some v1 ∧ w.cell? ⟨b, 2, none⟩ = some v2 ∧ w.cell? ⟨b, 3, none⟩ = some v3 ∧ w.cell? ⟨b, 4, none⟩ = some v4 ∧ w.cell? ⟨b, 5, none⟩ = some v5 := ⟨cell_of h h0, cell_of h h1, cell_of h h2, cell_of h h3, cell_of h h4, cell_of h h5⟩
end Go.Proofs.YtchoopnjckcohaaGreatDoor
namespace Go.Proofs
open Go.Shelf Go.RowKit Go.Lib Go.Sort
def Tryz.laysNm220_ren : Go.Shelf.Ren := ⟨fun | 20 => 149 | n => n, fun | 22 => 22 | 3 => 3 | 4 => 4 | 0 => 0 | n => n, fun | n => n⟩
theorem Tryz.laysNm220 : Go.Proofs.Lays2.n20 Tryz.prog Tryz.laysNm220_ren := {
 mixed := by kernel_rfl
 f20 := Tryz.func149.trans (congrArg some (by kernel_rfl))
 t0 := Tryz.underlying0
 a0 := Tryz.isAgg0
 z0 := Tryz.sizeOf0
 v0 := Tryz.zeroValue0
 t3 := Tryz.underlying3
 a3 := Tryz.isAgg3
 z3 := Tryz.sizeOf3
 v3 := Tryz.zeroValue3
 t4 := Tryz.underlying4
 a4 := Tryz.isAgg4
 z4 := Tryz.sizeOf4
 v4 := Tryz.zeroValue4
 t22 := Tryz.underlying22
 a22 := Tryz.isAgg22
 z22 := Tryz.sizeOf22
 v22 := Tryz.zeroValue22
 i3 := by kernel_rfl }
theorem Tryz.slices_Compact_int (blk off cap : Nat) (zs : List Int) (w : World) (hH : Holds (Value.int .i64) w blk off zs.toArray) (hsz : zs.length ≤ 9223372036854775807) (hcap : zs.length ≤ cap) :
 Calls Tryz.prog 149 #[.slice (some ⟨blk, off, none⟩) zs.length cap] w fun e w' => e = .returned (.slice (some ⟨blk, off, none⟩) (Lib.compact zs).length cap) ∧ ∃ q, w' = putRow (Value.int .i64) (Sort.ahead w q) blk off (Lib.compact zs ++ List.replicate (zs.length - (Lib.compact zs).length) 0).toArray := Any.slices_Compact_int Tryz.laysNm220 blk off cap zs w hH hsz hcap
theorem Tryz.slices_Compact_int_empty (a : Option Addr) (cap : Nat) (w : World) :
 Calls Tryz.prog 149 #[.slice a 0 cap] w fun e w' => e = .returned (.slice a 0 cap) ∧ w' = w := Any.slices_Compact_int_empty Tryz.laysNm220 a cap w
def Tryz.laysSlF6_f125_ren : Go.Shelf.Ren := ⟨fun | 6 => 157 | 15 => 162 | 14 => 168 | 28 => 179 | 29 => 180 | 20 => 181 | 21 => 182 | 22 => 183 | 23 => 184 | 24 => 185 | 25 => 186 | 26 => 187 | 27 => 188 | 46 => 202 | 47 => 198 | 48 => 199 | 49 => 203 | 50 => 204 | 57 => 209 | n => n, fun | 22 => 22 | 24 => 3 | 25 => 146 | 3 => 3 | 39 => 160 | 0 => 0 | 53 => 180 | 55 => 143 | 4 => 4 | 46 => 174 | 45 => 173 | 50 => 154 | 5 => 5 | 9 => 9 | 66 => 191 | 70 => 195 | 76 => 201 | 77 => 159 | n => n, fun | n => n⟩
theorem Tryz.laysSlF6_f125 : Go.Proofs.SlLaysF.n6 Tryz.prog Tryz.laysSlF6_f125_ren := {
 mixed := by kernel_rfl
 f6 := ⟨Tryz.f157.name, by decide, Tryz.func157.trans (congrArg some (by kernel_rfl))⟩
 f14 := ⟨Tryz.f168.name, by decide, Tryz.func168.trans (congrArg some (by kernel_rfl))⟩
 f15 := Tryz.func162.trans (congrArg some (by kernel_rfl))
 f20 := ⟨Tryz.f181.name, by decide, Tryz.func181.trans (congrArg some (by kernel_rfl))⟩
 f21 := ⟨Tryz.f182.name, by decide, Tryz.func182.trans (congrArg some (by kernel_rfl))⟩
 f22 := ⟨Tryz.f183.name, by decide, Tryz.func183.trans (congrArg some (by kernel_rfl))⟩
 f23 := ⟨Tryz.f184.name, by decide, Tryz.func184.trans (congrArg some (by kernel_rfl))⟩
 f24 := ⟨Tryz.f185.name, by decide, Tryz.func185.trans (congrArg some (by kernel_rfl))⟩
 f25 := ⟨Tryz.f186.name, by decide, Tryz.func186.trans (congrArg some (by kernel_rfl))⟩
 f26 := ⟨Tryz.f187.name, by decide, Tryz.func187.trans (congrArg some (by kernel_rfl))⟩
 f27 := ⟨Tryz.f188.name, by decide, Tryz.func188.trans (congrArg some (by kernel_rfl))⟩
 f28 := Tryz.func179.trans (congrArg some (by kernel_rfl))
 f29 := Tryz.func180.trans (congrArg some (by kernel_rfl))
 f46 := ⟨Tryz.f202.name, by decide, Tryz.func202.trans (congrArg some (by kernel_rfl))⟩
 f47 := Tryz.func198.trans (congrArg some (by kernel_rfl))
 f48 := Tryz.func199.trans (congrArg some (by kernel_rfl))
 f49 := ⟨Tryz.f203.name, by decide, Tryz.func203.trans (congrArg some (by kernel_rfl))⟩
 f50 := ⟨Tryz.f204.name, by decide, Tryz.func204.trans (congrArg some (by kernel_rfl))⟩
 f57 := ⟨Tryz.f209.name, by decide, Tryz.func209.trans (congrArg some (by kernel_rfl))⟩
 t0 := Tryz.underlying0
 a0 := Tryz.isAgg0
 z0 := Tryz.sizeOf0
 v0 := Tryz.zeroValue0
 t3 := Tryz.underlying3
 a3 := Tryz.isAgg3
 z3 := Tryz.sizeOf3
 v3 := Tryz.zeroValue3
 t4 := Tryz.underlying4
 a4 := Tryz.isAgg4
 z4 := Tryz.sizeOf4
 v4 := Tryz.zeroValue4
 t5 := Tryz.underlying5
 a5 := Tryz.isAgg5
 z5 := Tryz.sizeOf5
 v5 := Tryz.zeroValue5
 t9 := Tryz.underlying9
 a9 := Tryz.isAgg9
 z9 := Tryz.sizeOf9
 v9 := Tryz.zeroValue9
 t22 := Tryz.underlying22
 a22 := Tryz.isAgg22
 z22 := Tryz.sizeOf22
 v22 := Tryz.zeroValue22
 a24 := Tryz.isAgg3
 z24 := Tryz.sizeOf3
 t25 := Tryz.underlying146
 a25 := Tryz.isAgg146
 z25 := Tryz.sizeOf146
 v25 := Tryz.zeroValue146
 t39 := Tryz.underlying160
 a39 := Tryz.isAgg160
 z39 := Tryz.sizeOf160
 v39 := Tryz.zeroValue160
 t45 := Tryz.underlying173
 a45 := Tryz.isAgg173
 z45 := Tryz.sizeOf173
 v45 := Tryz.zeroValue173
 t46 := Tryz.underlying174
 a46 := Tryz.isAgg174
 z46 := Tryz.sizeOf174
 v46 := Tryz.zeroValue174
 t50 := Tryz.underlying154
 a50 := Tryz.isAgg154
 z50 := Tryz.sizeOf154
 v50 := Tryz.zeroValue154
 t53 := Tryz.underlying180
 a53 := Tryz.isAgg180
 z53 := Tryz.sizeOf180
 v53 := Tryz.zeroValue180
 t55 := Tryz.underlying143
 a55 := Tryz.isAgg143
 z55 := Tryz.sizeOf143
 v55 := Tryz.zeroValue143
 t66 := Tryz.underlying191
 a66 := Tryz.isAgg191
 z66 := Tryz.sizeOf191
 v66 := Tryz.zeroValue191
 t70 := Tryz.underlying195
 a70 := Tryz.isAgg195
 z70 := Tryz.sizeOf195
 v70 := Tryz.zeroValue195
 t76 := Tryz.underlying201
 a76 := Tryz.isAgg201
 z76 := Tryz.sizeOf201
 v76 := Tryz.zeroValue201
 t77 := Tryz.underlying159
 a77 := Tryz.isAgg159
 z77 := Tryz.sizeOf159
 v77 := Tryz.zeroValue159 }
theorem Tryz.slices_SortFunc_total {α : Type} [Inhabited α] (enc : α → Value) (h1 : OneCell enc) (cf : α → α → Int) (hO : SWO (ltOf cf)) (g : Nat) (cb : Array Value) (blk off cap : Nat) (d : Array α) (w : World) (eg : ∀ args w, (callFunc g args).run Tryz.prog w = .ok (.enter g args) w) (hcmp : CmpLays1 Tryz.prog g cb enc cf blk off d.size w) (hH : Holds enc w blk off d) (hblk : blk < w.heap.size) (hsz : d.size < 4611686018427387904) (hT : ∀ x y, (ltOf cf) x y = false → (ltOf cf) y x = false → x = y) :
 Calls Tryz.prog 157 #[.slice (some ⟨blk, off, none⟩) d.size cap, .func (.func g) #[] cb] w fun e w' =>
  e = .returned (.tuple #[]) ∧ ∃ n os, w' = sortWorld enc w blk off n (d.toList.mergeSort fun x y => !(ltOf cf) y x).toArray os := Any.slices_SortFunc_total Tryz.laysSlF6_f125 enc h1 cf hO g cb blk off cap d w eg hcmp hH hblk hsz hT
end Go.Proofs
namespace Go.Proofs.YtchoopnjckcohaaGreatDoor
open Go.RowKit
attribute [local go_sem] Oper.semAt_some
theorem readsI_of {W : World} {ao : Option Addr} {L : List Int} (h : RdN W ao L) : ReadsI W ao L := fun k hk => by
 obtain ⟨g, o, e, c⟩ := h k hk
 exact ⟨g, o, e, by rw [c, List.getD_eq_getElem?_getD, List.getElem?_eq_getElem hk]; rfl⟩
theorem okI_of {n : Nat} {L : List Int} (h : L.all (inB n) = true) : okI n L = true := by
 unfold okI
 rw [List.all_eq_true] at h ⊢
 intro x hx
 have := h x hx
 simpa [inB] using this
theorem own_blk {w w' : World} {B e sz n g cap : Nat} {xs : List Value} (h : w.ownsRow B e sz (.slice (some ⟨g, 0, none⟩) n cap) n xs) (hg : w'.heap[g]? = w.heap[g]?) : w'.ownsRow B e sz (.slice (some ⟨g, 0, none⟩) n cap) n xs := by
 refine ⟨h.1, ?_⟩
 rcases h.2 with z | ⟨g', cap', cur, e1, hb, hc, rest⟩
 · exact .inl z
 · cases e1
   exact .inr ⟨g, cap, cur, rfl, hb, hg.trans hc, rest⟩
theorem IsSet.keep {w w' : World} {b g cap n X : Nat} (h : IsSet w b g cap n X) (h1 : w'.heap[b]? = w.heap[b]?) (h2 : w'.heap[g]? = w.heap[g]?) : IsSet w' b g cap n X := ⟨h.hn, h.hX, h1.trans h.blk, own_blk h.own h2⟩
def ends (back : Bool) (e : EdT) : Int × Int := if back then (e.2.2, e.1) else (e.1, e.2.2)
open Go.Maps
structure Only (w w' : World) (R : Nat → Prop) : Prop where
 os : w'.os = w.os
 tape : w'.tape = w.tape
 output : w'.output = w.output
 size : w.heap.size ≤ w'.heap.size
 block : ∀ k, k < w.heap.size → ¬ R k → w'.heap[k]? = w.heap[k]?
theorem Only.ofBelow {w w' : World} {R : Nat → Prop} (h : Below w.heap.size w w') : Only w w' R := ⟨h.os, h.tape, h.output, h.size, fun k hk _ => h.block k hk⟩
theorem Only.toBelow {w w' : World} {R : Nat → Prop} {B : Nat} (h : Only w w' R) (hB : B ≤ w.heap.size) (hR : ∀ k, R k → B ≤ k) : Below B w w' :=
 ⟨h.os, h.tape, h.output, h.size, fun k hk => h.block k (by omega) (fun hr => by have := hR k hr; omega)⟩
theorem Only.trans {a b c : World} {R : Nat → Prop} (h : Only a b R) (k : Only b c R) : Only a c R :=
 ⟨k.os.trans h.os, k.tape.trans h.tape, k.output.trans h.output, Nat.le_trans h.size k.size, fun i hi hn => (k.block i (Nat.lt_of_lt_of_le hi h.size) hn).trans (h.block i hi hn)⟩
theorem Only.mono {w w' : World} {R R' : Nat → Prop} (h : Only w w' R) (hr : ∀ k, k < w.heap.size → R k → R' k) : Only w w' R' := ⟨h.os, h.tape, h.output, h.size, fun k hk hn => h.block k hk (fun h' => hn (hr k hk h'))⟩
theorem Only.andNew {a b c : World} {R S : Nat → Prop} (h : Only a b R) (k : Only b c S) (hs : ∀ i, i < a.heap.size → S i → R i) : Only a c R :=
 ⟨k.os.trans h.os, k.tape.trans h.tape, k.output.trans h.output, Nat.le_trans h.size k.size, fun i hi hn => (k.block i (Nat.lt_of_lt_of_le hi h.size) (fun hx => hn (hs i hi hx))).trans (h.block i hi hn)⟩
theorem flat_get {α : Type} (cs : α → List Value) (sz : Nat) (hl : ∀ a, (cs a).length = sz) : ∀ (l : List α) (j i : Nat) (hj : j < l.length), i < sz → (l.flatMap cs)[j * sz + i]? = (cs l[j])[i]?
 | a :: l, 0, i, _, hi => by
  rw [Nat.zero_mul, Nat.zero_add, List.flatMap_cons, List.getElem?_append_left (by rw [hl]; exact hi)]; rfl
 | a :: l, j + 1, i, hj, hi => by
  rw [List.flatMap_cons, List.getElem?_append_right (by rw [hl, Nat.succ_mul]; omega), hl, show (j + 1) * sz + i - sz = j * sz + i by rw [Nat.succ_mul]; omega]
  exact flat_get cs sz hl l j i (by simpa using hj) hi
theorem nan_any (x : Int) (w : World) : Calls Tryz.prog 158 #[.int .i64 x] w fun e w' => e = .returned (.bool false) ∧ w' = w := by
 go_enter Tryz.func158, Tryz.ntmps158
 go_wp2
 go_ret
 simp
theorem cmpi_any (x y : Int) (w : World) : Calls Tryz.prog 145 #[.int .i64 x, .int .i64 y] w fun e w' => e = .returned (.int .i64 (Lib.compareInt x y)) ∧ w' = w := by
 unfold Lib.compareInt
 by_cases h1 : x < y
 · go_enter Tryz.func145, Tryz.ntmps145
   go_wp2_with (go_at_call 158; refine (nan_any _ _).mono ?_; rintro e w' ⟨rfl, rfl⟩)
   go_ret
   simp
 · by_cases h2 : y < x
   · go_enter Tryz.func145, Tryz.ntmps145
     go_wp2_with (go_at_call 158; refine (nan_any _ _).mono ?_; rintro e w' ⟨rfl, rfl⟩)
     go_ret
     simp
   · go_enter Tryz.func145, Tryz.ntmps145
     go_wp2_with (go_at_call 158; refine (nan_any _ _).mono ?_; rintro e w' ⟨rfl, rfl⟩)
     go_ret
     simp
def cmpE (x y : EdT) : Int := if x.1 ≠ y.1 then Lib.compareInt x.1 y.1 else if x.2.1 ≠ y.2.1 then Lib.compareInt x.2.1 y.2.1 else Lib.compareInt x.2.2 y.2.2
theorem two_new (w : World) (a b : Obj) (n : Nat) : ((w.alloc a).alloc b).drewN n = { w with heap := w.heap ++ #[a, b], drawn := w.drawn + n } := by
 have h : (w.heap.push a).push b = w.heap ++ #[a, b] := by apply Array.ext'; simp
 show ({ w with heap := (w.heap.push a).push b, drawn := w.drawn + n } : World) = _
 rw [h]
theorem cmpE_any (x y : EdT) (w : World) : Calls Tryz.prog 147 #[.agg #[.int .i64 x.1, .int .i64 x.2.1, .int .i64 x.2.2], .agg #[.int .i64 y.1, .int .i64 y.2.1, .int .i64 y.2.2]] w fun e w' => e = .returned (.int .i64 (cmpE x y)) ∧ ∃ q os, w' = { w with heap := w.heap ++ os, drawn := w.drawn + q } := by
 obtain ⟨x0, x1, x2⟩ := x
 obtain ⟨y0, y1, y2⟩ := y
 simp only
 obtain ⟨W0, hW0⟩ : ∃ W0, (w.alloc (.cells #[.int .i64 x0, .int .i64 x1, .int .i64 x2] 61)).alloc (.cells #[.int .i64 y0, .int .i64 y1, .int .i64 y2] 61) = W0 := ⟨_, rfl⟩
 have a0 : W0.heap[w.heap.size]? = some (.cells #[.int .i64 x0, .int .i64 x1, .int .i64 x2] 61 (0, 0)) := by rw [← hW0]; exact (Below.heap_alloc _ _ _ (by simp)).trans (World.alloc_heap_new _ _)
 have b0 : W0.heap[w.heap.size + 1]? = some (.cells #[.int .i64 y0, .int .i64 y1, .int .i64 y2] 61 (0, 0)) := by
  rw [← hW0]
  have := World.alloc_heap_new (w.alloc (.cells #[.int .i64 x0, .int .i64 x1, .int .i64 x2] 61)) (.cells #[.int .i64 y0, .int .i64 y1, .int .i64 y2] 61)
  simpa using this
 have c0 : W0.cell? ⟨w.heap.size, 0, none⟩ = some (.int .i64 x0) := by simp [World.cell?, a0]
 have c1 : W0.cell? ⟨w.heap.size, 1, none⟩ = some (.int .i64 x1) := by simp [World.cell?, a0]
 have c2 : W0.cell? ⟨w.heap.size, 2, none⟩ = some (.int .i64 x2) := by simp [World.cell?, a0]
 have d0 : W0.cell? ⟨w.heap.size + 1, 0, none⟩ = some (.int .i64 y0) := by simp [World.cell?, b0]
 have d1 : W0.cell? ⟨w.heap.size + 1, 1, none⟩ = some (.int .i64 y1) := by simp [World.cell?, b0]
 have d2 : W0.cell? ⟨w.heap.size + 1, 2, none⟩ = some (.int .i64 y2) := by simp [World.cell?, b0]
 have HW := hide hW0
 clear a0 b0
 unfold cmpE
 simp only
 have T0 := fun W => cmpi_any x0 y0 W
 have T1 := fun W => cmpi_any x1 y1 W
 have T2 := fun W => cmpi_any x2 y2 W
 by_cases h0 : x0 = y0
 · by_cases h1 : x1 = y1
   · by_cases h2 : x2 = y2
     · subst h0; subst h1; subst h2
       rw [if_neg (by simp), if_neg (by simp), show Lib.compareInt x2 x2 = 0 by simp [Lib.compareInt]]
       go_enter Tryz.func147, Tryz.ntmps147
       go_wp2_with fail
       go_ret
       exact ⟨rfl, 0, _, by rw [← HW.out]; exact two_new w _ _ 0⟩
     · subst h0; subst h1
       rw [if_neg (by simp), if_neg (by simp)]
       go_enter Tryz.func147, Tryz.ntmps147
       go_wp2_with (go_at_call 145; refine (T2 _).mono ?_; rintro e w' ⟨rfl, rfl⟩)
       go_ret
       exact ⟨rfl, 0, _, by rw [← HW.out]; exact two_new w _ _ 0⟩
   · subst h0
     rw [if_neg (by simp), if_pos h1]
     go_enter Tryz.func147, Tryz.ntmps147
     go_wp2_with (go_at_call 145; refine (T1 _).mono ?_; rintro e w' ⟨rfl, rfl⟩)
     go_ret
     exact ⟨rfl, 0, _, by rw [← HW.out]; exact two_new w _ _ 0⟩
 · rw [if_pos h0]
   go_enter Tryz.func147, Tryz.ntmps147
   go_wp2_with (go_at_call 145; refine (T0 _).mono ?_; rintro e w' ⟨rfl, rfl⟩)
   go_ret
   exact ⟨rfl, 0, _, by rw [← HW.out]; exact two_new w _ _ 0⟩
end Go.Proofs.YtchoopnjckcohaaGreatDoor
namespace Go.Proofs
open Go.Shelf
def Tryz.sortEdge_ren : Go.Shelf.Ren := ⟨fun | 6 => 159 | 15 => 162 | 14 => 169 | 28 => 179 | 29 => 180 | 20 => 189 | 21 => 190 | 22 => 191 | 23 => 192 | 24 => 193 | 25 => 194 | 26 => 195 | 27 => 196 | 46 => 205 | 47 => 198 | 48 => 199 | 49 => 206 | 50 => 207 | 57 => 210 | n => n, fun | 22 => 23 | 24 => 61 | 25 => 148 | 3 => 3 | 39 => 160 | 0 => 0 | 53 => 180 | 55 => 143 | 4 => 4 | 46 => 174 | 45 => 173 | 50 => 154 | 5 => 5 | 9 => 9 | 66 => 191 | 70 => 195 | 76 => 201 | 77 => 159 | n => n, fun | n => n⟩
theorem Tryz.sortEdge : Go.Proofs.SlLaysF0.n6 Tryz.prog Tryz.sortEdge_ren := {
 mixed := by kernel_rfl
 f6 := ⟨Tryz.f159.name, by decide, Tryz.func159.trans (congrArg some (by kernel_rfl))⟩
 f14 := ⟨Tryz.f169.name, by decide, Tryz.func169.trans (congrArg some (by kernel_rfl))⟩
 f15 := Tryz.func162.trans (congrArg some (by kernel_rfl))
 f20 := ⟨Tryz.f189.name, by decide, Tryz.func189.trans (congrArg some (by kernel_rfl))⟩
 f21 := ⟨Tryz.f190.name, by decide, Tryz.func190.trans (congrArg some (by kernel_rfl))⟩
 f22 := ⟨Tryz.f191.name, by decide, Tryz.func191.trans (congrArg some (by kernel_rfl))⟩
 f23 := ⟨Tryz.f192.name, by decide, Tryz.func192.trans (congrArg some (by kernel_rfl))⟩
 f24 := ⟨Tryz.f193.name, by decide, Tryz.func193.trans (congrArg some (by kernel_rfl))⟩
 f25 := ⟨Tryz.f194.name, by decide, Tryz.func194.trans (congrArg some (by kernel_rfl))⟩
 f26 := ⟨Tryz.f195.name, by decide, Tryz.func195.trans (congrArg some (by kernel_rfl))⟩
 f27 := ⟨Tryz.f196.name, by decide, Tryz.func196.trans (congrArg some (by kernel_rfl))⟩
 f28 := Tryz.func179.trans (congrArg some (by kernel_rfl))
 f29 := Tryz.func180.trans (congrArg some (by kernel_rfl))
 f46 := ⟨Tryz.f205.name, by decide, Tryz.func205.trans (congrArg some (by kernel_rfl))⟩
 f47 := Tryz.func198.trans (congrArg some (by kernel_rfl))
 f48 := Tryz.func199.trans (congrArg some (by kernel_rfl))
 f49 := ⟨Tryz.f206.name, by decide, Tryz.func206.trans (congrArg some (by kernel_rfl))⟩
 f50 := ⟨Tryz.f207.name, by decide, Tryz.func207.trans (congrArg some (by kernel_rfl))⟩
 f57 := ⟨Tryz.f210.name, by decide, Tryz.func210.trans (congrArg some (by kernel_rfl))⟩
 t0 := Tryz.underlying0
 a0 := Tryz.isAgg0
 z0 := Tryz.sizeOf0
 v0 := Tryz.zeroValue0
 t3 := Tryz.underlying3
 a3 := Tryz.isAgg3
 z3 := Tryz.sizeOf3
 v3 := Tryz.zeroValue3
 t4 := Tryz.underlying4
 a4 := Tryz.isAgg4
 z4 := Tryz.sizeOf4
 v4 := Tryz.zeroValue4
 t5 := Tryz.underlying5
 a5 := Tryz.isAgg5
 z5 := Tryz.sizeOf5
 v5 := Tryz.zeroValue5
 t9 := Tryz.underlying9
 a9 := Tryz.isAgg9
 z9 := Tryz.sizeOf9
 v9 := Tryz.zeroValue9
 t22 := Tryz.underlying23
 a22 := Tryz.isAgg23
 z22 := Tryz.sizeOf23
 v22 := Tryz.zeroValue23
 t25 := Tryz.underlying148
 a25 := Tryz.isAgg148
 z25 := Tryz.sizeOf148
 v25 := Tryz.zeroValue148
 t39 := Tryz.underlying160
 a39 := Tryz.isAgg160
 z39 := Tryz.sizeOf160
 v39 := Tryz.zeroValue160
 t45 := Tryz.underlying173
 a45 := Tryz.isAgg173
 z45 := Tryz.sizeOf173
 v45 := Tryz.zeroValue173
 t46 := Tryz.underlying174
 a46 := Tryz.isAgg174
 z46 := Tryz.sizeOf174
 v46 := Tryz.zeroValue174
 t50 := Tryz.underlying154
 a50 := Tryz.isAgg154
 z50 := Tryz.sizeOf154
 v50 := Tryz.zeroValue154
 t53 := Tryz.underlying180
 a53 := Tryz.isAgg180
 z53 := Tryz.sizeOf180
 v53 := Tryz.zeroValue180
 t55 := Tryz.underlying143
 a55 := Tryz.isAgg143
 z55 := Tryz.sizeOf143
 v55 := Tryz.zeroValue143
 t66 := Tryz.underlying191
 a66 := Tryz.isAgg191
 z66 := Tryz.sizeOf191
 v66 := Tryz.zeroValue191
 t70 := Tryz.underlying195
 a70 := Tryz.isAgg195
 z70 := Tryz.sizeOf195
 v70 := Tryz.zeroValue195
 t76 := Tryz.underlying201
 a76 := Tryz.isAgg201
 z76 := Tryz.sizeOf201
 v76 := Tryz.zeroValue201
 t77 := Tryz.underlying159
 a77 := Tryz.isAgg159
 z77 := Tryz.sizeOf159
 v77 := Tryz.zeroValue159 }
end Go.Proofs
namespace Go.Proofs.YtchoopnjckcohaaGreatDoor
open Go.RowKit Go.Maps Go.Shelf Go.Sort
def encE (x : EdT) : List Value := [.int .i64 x.1, .int .i64 x.2.1, .int .i64 x.2.2]
def ltE (x y : EdT) : Bool := decide (x.1 < y.1 ∨ (x.1 = y.1 ∧ (x.2.1 < y.2.1 ∨ (x.2.1 = y.2.1 ∧ x.2.2 < y.2.2))))
theorem ltE_iff {x y : EdT} : ltE x y = true ↔ x.1 < y.1 ∨ (x.1 = y.1 ∧ (x.2.1 < y.2.1 ∨ (x.2.1 = y.2.1 ∧ x.2.2 < y.2.2))) := decide_eq_true_iff
theorem ltE_not {x y : EdT} : ltE x y = false ↔ ¬ (x.1 < y.1 ∨ (x.1 = y.1 ∧ (x.2.1 < y.2.1 ∨ (x.2.1 = y.2.1 ∧ x.2.2 < y.2.2)))) := decide_eq_false_iff_not
theorem cmp_pos (x y : Int) : (x < y ∧ Lib.compareInt x y = -1) ∨ (y < x ∧ Lib.compareInt x y = 1) ∨ (x = y ∧ Lib.compareInt x y = 0) := by
 unfold Lib.compareInt
 rcases Int.lt_trichotomy x y with h | h | h
 · exact .inl ⟨h, by simp [h]⟩
 · exact .inr (.inr ⟨h, by simp [h]⟩)
 · exact .inr (.inl ⟨h, by rw [if_neg (by omega), if_pos (by omega)]⟩)
theorem ltE_is : ltOf cmpE = ltE := by
 funext x y
 unfold ltOf cmpE ltE
 rcases cmp_pos x.1 y.1 with ⟨h1, e1⟩ | ⟨h1, e1⟩ | ⟨h1, e1⟩ <;> rcases cmp_pos x.2.1 y.2.1 with ⟨h2, e2⟩ | ⟨h2, e2⟩ | ⟨h2, e2⟩ <;> rcases cmp_pos x.2.2 y.2.2 with ⟨h3, e3⟩ | ⟨h3, e3⟩ | ⟨h3, e3⟩ <;> simp only [e1, e2, e3] <;> (repeat' split) <;> simp <;> omega
theorem swoE : SWO ltE where
 irrefl x := by rw [ltE_not]; omega
 trans x y z h1 h2 := by rw [ltE_iff] at *; omega
 ntrans x y z h1 h2 := by rw [ltE_not] at *; omega
theorem totE (x y : EdT) (h1 : ltE x y = false) (h2 : ltE y x = false) : x = y := by
 rw [ltE_not] at h1 h2
 exact Prod.ext (by omega) (Prod.ext (by omega) (by omega))
theorem encE_len (x : EdT) : (encE x).length = 3 := rfl
theorem flatE (L : List EdT) : (flatK encE 3 L.toArray).toList = L.flatMap encE := by
 have hz : (L.flatMap encE).length = L.length * 3 := by
  induction L with
  | nil => rfl
  | cons x L ih => rw [List.flatMap_cons, List.length_append, ih, encE_len, List.length_cons]; omega
 apply List.ext_getElem?
 intro t
 by_cases ht : t < L.length * 3
 · have h1 : t / 3 < L.length := by omega
   have h2 : t % 3 < 3 := by omega
   have e := flat_get encE 3 encE_len L (t / 3) (t % 3) h1 h2
   rw [show t / 3 * 3 + t % 3 = t by omega] at e
   rw [e, Array.getElem?_toList]
   have hs : t < (flatK encE 3 L.toArray).size := by simpa using ht
   have g := get_flatK encE 3 L.toArray t (by simpa using ht)
   rw [getElem!_pos _ t hs] at g
   rw [Array.getElem?_eq_getElem hs, g]
   have h3 : t % 3 < (encE L[t / 3]).length := by rw [encE_len]; exact h2
   have h4 : L.toArray[t / 3]! = L[t / 3] := by rw [getElem!_pos _ _ (by simpa using h1)]; simp
   rw [List.getElem?_eq_getElem h3, h4, getElem!_pos (encE L[t / 3]) (t % 3) h3]
 · rw [List.getElem?_eq_none (by rw [Array.length_toList, size_flatK]; simpa using ht), List.getElem?_eq_none (by omega)]
def sortE (L : List EdT) : List EdT := L.mergeSort fun x y => !ltE y x
theorem sortE_len (L : List EdT) : (sortE L).length = L.length := List.length_mergeSort _
theorem cmpLays (blk off size : Nat) (w : World) : CmpLays Tryz.prog 147 #[] encE 3 cmpE blk off size w := fun _ _ _ _ x y => (cmpE_any x y _).mono fun _ _ ⟨he, q, os, hw⟩ => ⟨he, q, os, hw⟩
theorem sortE_any (W : World) (B : Nat) (v : Value) (L : List EdT) (hv : W.ownsRow B 61 3 v L.length (L.flatMap encE)) (hl : L.length ≤ 4194304) :
 Calls Tryz.prog 159 #[v, .func (.func 147) #[] #[]] W fun e w' => e = .returned (.tuple #[]) ∧ w'.ownsRow B 61 3 v L.length ((sortE L).flatMap encE) ∧ Only W w' (fun k => v.ownBlock = some k) := by
 rcases hv.2 with ⟨rfl, h0⟩ | ⟨g, cap, cur, rfl, hB, hb, hn, hcap, hsz, hxs⟩
 · obtain rfl : L = [] := List.eq_nil_of_length_eq_zero h0
   refine (AnyF.slices_SortFunc_none Tryz.sortEdge none 0 (.func (.func 147) #[] #[]) W).mono ?_
   rintro e w' ⟨rfl, rfl⟩
   refine ⟨rfl, ?_, Only.ofBelow (Below.refl _ _)⟩
   rw [show sortE [] = [] by simp [sortE]]
   exact hv
 · have eg : ∀ args w, (callFunc 147 args).run Tryz.prog w = .ok (.enter 147 args) w := enters_of Tryz.func147 (by kernel_rfl) rfl
   have hg : g < W.heap.size := (Array.getElem?_eq_some_iff.1 hb).1
   have hH : HoldsK encE 3 W g 0 L.toArray := by
    intro j hj
    have hj2 : j < L.length * 3 := by simpa using hj
    refine ⟨?_, by simp [World.frozen?, hb]⟩
    have hfe : (flatK encE 3 L.toArray).toList[j]? = cur.toList[j]? := by rw [flatE, ← hxs, List.getElem?_take_of_lt hj2]
    have hs : j < (flatK encE 3 L.toArray).size := hj
    rw [Array.getElem?_toList, Array.getElem?_eq_getElem hs, Array.getElem?_toList] at hfe
    simp only [World.cell?, hb, Nat.zero_add]
    simp only [Option.isSome_none, Bool.false_eq_true, if_false, id]
    rw [← hfe, getElem!_pos (flatK encE 3 L.toArray) j hs]
   have hO : SWO (ltOf cmpE) := by rw [ltE_is]; exact swoE
   have H := AnyQ.slices_SortFunc_total Tryz.sortEdge 3 Tryz.isAgg61 Tryz.sizeOf61 encE encE_len (fun x v hv => by simp [encE] at hv; rcases hv with rfl | rfl | rfl <;> rfl) cmpE hO 147 #[] g 0 cap L.toArray W eg (cmpLays g 0 _ W) hH hg (by simp; omega) (by rw [ltE_is]; exact totE)
   rw [ltE_is] at H
   have e1 : L.toArray.size = L.length := by simp
   rw [e1] at H
   refine Calls.mono H ?_
   rintro e w' ⟨rfl, n, os, rfl⟩
   have hq : (sortWorldK encE 3 W g 0 n (sortE L).toArray os).heap[g]? = some (.cells (putCells id 0 (flatK encE 3 (sortE L).toArray) cur) 61 (0, 0)) := by
    unfold sortWorldK putRowK
    rw [heap_grow_old _ _ (by simpa using hg)]
    simp [putRow, mapBlock, Sort.ahead, Array.getElem?_modify, hb, onCells]
   have hfs : (flatK encE 3 (sortE L).toArray).size = L.length * 3 := by simp [sortE_len]
   refine ⟨rfl, ⟨?_, .inr ⟨g, cap, _, rfl, hB, hq, hn, hcap, by simp [putCells, hsz], ?_⟩⟩, ?_⟩
   · rw [← flatE, Array.length_toList, hfs]
   · rw [← flatE]
     apply List.ext_getElem?
     intro j
     by_cases hj : j < L.length * 3
     · have hj3 : j < cur.size := by rw [hsz]; have := Nat.mul_le_mul_right 3 hn; omega
       rw [List.getElem?_take_of_lt hj, Array.getElem?_toList, Array.getElem?_toList]
       simp [putCells, hj3, sortE_len, hj]
     · rw [List.getElem?_take_eq_none (by omega), List.getElem?_eq_none (by rw [Array.length_toList, hfs]; omega)]
   · refine ⟨rfl, rfl, rfl, by simp [sortWorldK, putRowK, putRow, mapBlock, Sort.ahead, grow], fun k hk hne => ?_⟩
     unfold sortWorldK putRowK
     rw [heap_grow_old _ _ (by simpa using hk)]
     have : g ≠ k := fun e => hne (by rw [e]; rfl)
     simp [putRow, mapBlock, Sort.ahead, Array.getElem?_modify, this]
end Go.Proofs.YtchoopnjckcohaaGreatDoor
