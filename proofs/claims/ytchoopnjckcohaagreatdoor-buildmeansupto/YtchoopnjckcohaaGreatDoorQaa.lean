import Derived.Deep.QuietTactic
import Derived.BigQuiet
import Derived.Below
import Derived.Deep.RegionHeld
set_option maxRecDepth 100000
set_option maxHeartbeats 40000000
namespace Go.Proofs.YtchoopnjckcohaaGreatDoor
section
variable {P : Program} {md : Region.Mode} {ops : Array Oper} {C : World → Prop}
def ClosedL (md : Region.Mode) (ops : Array Oper) (listed : Array Bool) : Prop :=
 ∀ (j : Nat) (oj : Oper), ops[j]? = some oj → listed.getD j true = true → ∀ e ∈ oj.after, Region.binds md e = true → listed.getD e.on false = true
def waitsL (md : Region.Mode) (ops : Array Oper) : Nat → Nat → Nat → Bool
 | 0, _, _ => false
 | f + 1, j, i => match ops[j]? with
  | none => false
  | some o => o.after.any fun e => Region.binds md e && (e.on == i || waitsL md ops f e.on i)
theorem getD_of (l : Array Bool) (i : Nat) (h : l.getD i true = false) : l.getD i false = false := by
 rcases Nat.lt_or_ge i l.size with h' | h'
 · simpa [h'] using h
 · simp [Array.getElem?_eq_none h']
theorem getD_to (l : Array Bool) (i : Nat) (h : l.getD i false = true) : l.getD i true = true := by
 rcases Nat.lt_or_ge i l.size with h' | h'
 · simpa [h'] using h
 · simp [Array.getElem?_eq_none h'] at h
theorem waits_un {listed : Array Bool} (hc : ClosedL md ops listed) {i : Nat} (hi : listed.getD i true = false) : ∀ (f j : Nat), waitsL md ops f j i = true → ∃ e oj, ops[j]? = some oj ∧ e ∈ oj.after ∧ Region.binds md e = true ∧ listed.getD e.on false = false
 | 0, _, h => by simp [waitsL] at h
 | f + 1, j, h => by
  unfold waitsL at h
  cases ho : ops[j]? with
  | none => simp [ho] at h
  | some oj =>
   simp only [ho] at h
   obtain ⟨e, he, h2⟩ : ∃ e ∈ oj.after, (Region.binds md e && (e.on == i || waitsL md ops f e.on i)) = true := by
    obtain ⟨i1, hi1, h2⟩ := Array.any_eq_true.1 h
    exact ⟨_, Array.getElem_mem hi1, h2⟩
   simp only [Bool.and_eq_true, Bool.or_eq_true, beq_iff_eq] at h2
   obtain ⟨hb, h3⟩ := h2
   refine ⟨e, oj, rfl, he, hb, ?_⟩
   rcases h3 with rfl | h3
   · exact getD_of _ _ hi
   · cases hx : listed.getD e.on false with
     | false => rfl
     | true =>
      obtain ⟨e', oj', h4, h5, h6, h7⟩ := waits_un hc hi f e.on h3
      have := hc _ _ h4 (getD_to _ _ hx) e' h5 h6
      rw [h7] at this; cases this
def phasedB (md : Region.Mode) (ops : Array Oper) (n : Nat) : Bool :=
 (List.range ops.size).all fun j => decide (j < n) || (List.range n).all fun i => waitsL md ops ops.size j i
theorem phased_lt {n : Nat} {listed : Array Bool} (hp : phasedB md ops n = true) (hc : ClosedL md ops listed) {i j : Nat} (hin : i < n) (hi : listed.getD i true = false) (hj : j ∈ Region.ready md ops listed) : j < n := by
 obtain ⟨h0, oj, ho, hall⟩ := mem_ready.1 hj
 rcases Nat.lt_or_ge j n with h | h
 · exact h
 · unfold phasedB at hp
   rw [List.all_eq_true] at hp
   have h1 := hp j (List.mem_range.2 (Array.getElem?_eq_some_iff.1 ho).1)
   simp only [Bool.or_eq_true, decide_eq_true_eq, List.all_eq_true, List.mem_range] at h1
   rcases h1 with h1 | h1
   · exact h1
   · obtain ⟨e, oj', h4, h5, h6, h7⟩ := waits_un hc hi _ _ (h1 i hin)
     rw [ho] at h4
     cases h4
     rw [hall e h5 h6] at h7
     cases h7
theorem ClosedL.set {listed : Array Bool} (hc : ClosedL md ops listed) {j : Nat} (hj : j ∈ Region.ready md ops listed) : ClosedL md ops (listed.setIfInBounds j true) := by
 intro k ok hk hl e he hb
 by_cases hjk : j = k
 · subst hjk
   obtain ⟨h0, oj, ho, hall⟩ := mem_ready.1 hj
   rw [ho] at hk
   cases hk
   exact getD_set_true (hall e he hb)
 · rw [getD_set_ne true hjk] at hl
   exact getD_set_true (hc k ok hk hl e he hb)
def wpFirst (P : Program) (md : Region.Mode) (ops : Array Oper) (C : World → Prop) (n : Nat) (T : Array Bool → Act → Prop) : Nat → Array Bool → Act → Prop
 | 0, listed, a => (∀ j, j < n → listed.getD j true = true) ∧ T listed a
 | m + 1, listed, a => Region.ready md ops listed ≠ [] ∧ ∀ i ∈ Region.ready md ops listed, qOp P ops C i (wpFirst P md ops C n T m (listed.setIfInBounds i true)) a
theorem wpAny_of_first {n : Nat} {T : Array Bool → Act → Prop} {Q : Exit → Act → World → Prop} {k : Nat} (hT : ∀ listed a w, C w → T listed a → wpAny P md ops Q k listed a w) :
 ∀ (m : Nat) (listed : Array Bool) (a : Act) (w : World), C w → wpFirst P md ops C n T m listed a → wpAny P md ops Q (k + m) listed a w
 | 0, _, _, _, hw, h => hT _ _ _ hw h.2
 | m + 1, _, _, _, hw, h => ⟨fun h0 => absurd h0 h.1, fun i hi => wpOp_of_qOp hw (fun a' w' hw' => wpAny_of_first hT m _ a' w' hw') (h.2 i hi)⟩
theorem wpFirst_first {n : Nat} {T : Array Bool → Act → Prop} {i : Nat} {oi : Oper} {v : Value} (hi : ops[i]? = some oi) (hin : i < n) (hp : phasedB md ops n = true)
 (hsel : ∀ (j : Nat) (o : Oper) cs b, ops[j]? = some o → o.op ≠ .select cs b) :
 ∀ (fuel : Nat) (listed : Array Bool) (a : Act), ClosedL md ops listed →
  (∀ j oj, ops[j]? = some oj → j ≠ i → listed.getD j true = false → (∀ e ∈ oj.after, Region.binds md e = true → e.on ≠ i) → oi.apart ops oj = true) →
  i ∈ Region.ready md ops listed → YieldsIn P ops C oi v a →
  wpFirst P md ops C n T fuel (listed.setIfInBounds i true) (a.put oi.dst v) → wpFirst P md ops C n T (fuel + 1) listed a := by
 intro fuel
 induction fuel with
 | zero =>
  intro listed a hc _ hr hy H
  refine ⟨fun h => (by rw [h] at hr; cases hr), fun j hj => ?_⟩
  by_cases hji : j = i
  · subst hji; exact hy.qOp hi H
  · have hjn := phased_lt hp hc hin (mem_ready.1 hr).1 hj
    have h1 := H.1 j hjn
    rw [getD_set_ne true (Ne.symm hji), (mem_ready.1 hj).1] at h1
    cases h1
 | succ fuel ih =>
  intro listed a hc hfree hr hy H
  refine ⟨fun h => (by rw [h] at hr; cases hr), fun j hj => ?_⟩
  by_cases hji : j = i
  · subst hji; exact hy.qOp hi H
  · have h1 := H.2 j (ready_mono hj hji)
    obtain ⟨hjun, oj, hoj, hall⟩ := mem_ready.1 hj
    have hnot : ∀ e ∈ oj.after, Region.binds md e = true → e.on ≠ i := fun e he hb heq => by
     have h1 := hall e he hb
     rw [heq, getD_of _ _ (mem_ready.1 hr).1] at h1
     cases h1
    have h2 := qOp_put hoj (hfree j oj hoj hji hjun hnot) (fun cs b => hsel i oi cs b hi) (fun cs b => hsel j oj cs b hoj) hy h1
    have hfree' : ∀ k ok, ops[k]? = some ok → k ≠ i → (listed.setIfInBounds j true).getD k true = false →
     (∀ e ∈ ok.after, Region.binds md e = true → e.on ≠ i) → oi.apart ops ok = true := fun k ok hk hki hun hno => by
     refine hfree k ok hk hki ?_ hno
     by_cases hjk : j = k
     · subst hjk; exact hjun
     · rw [getD_set_ne true hjk] at hun; exact hun
    refine qOp_mono (fun a' h3 => ih (listed.setIfInBounds j true) a' (hc.set hj) hfree' (ready_mono hr (Ne.symm hji)) h3.1 ?_) h2
    rw [Array.setIfInBounds_comm _ _ hji]
    exact h3.2
def firstB (md : Region.Mode) (ops : Array Oper) (n : Nat) : Nat → Nat → Array Bool → Array Bool → Bool
 | 0, _, listed, L => (List.range n).all (fun j => listed.getD j true) && decide (listed = L)
 | fuel + 1, k, listed, L => (Region.ready md ops listed).contains k && Region.free md ops listed k && decide (k < n) && firstB md ops n fuel (k + 1) (listed.setIfInBounds k true) L
theorem wpFirst_lex {n : Nat} {L : Array Bool} {Q : Act → Prop} (hs : Region.noSelect ops = true) (hp : phasedB md ops n = true) : ∀ (l : List Oper) (k : Nat) (listed : Array Bool) (a : Act), ClosedL md ops listed → (∀ j o, l[j]? = some o → ops[k + j]? = some o) →
 firstB md ops n l.length k listed L = true → wpQuiet P ops C Q l a → wpFirst P md ops C n (fun listed' a' => listed' = L ∧ Q a') l.length listed a
 | [], _, _, _, _, _, hB, h => by
  simp only [List.length_nil, firstB, Bool.and_eq_true, List.all_eq_true, List.mem_range, decide_eq_true_eq] at hB
  exact ⟨hB.1, hB.2, h⟩
 | o :: l, k, listed, a, hc, hl, hB, h => by
  have h0 : ops[k]? = some o := hl 0 o rfl
  simp only [List.length_cons, firstB, Bool.and_eq_true, decide_eq_true_eq] at hB
  obtain ⟨⟨⟨hr, hf⟩, hk⟩, hB'⟩ := hB
  have hr' : k ∈ Region.ready md ops listed := by simpa using hr
  have hst : qOp P ops C k (wpQuiet P ops C Q l) a := by unfold qOp; simp only [h0]; exact h
  obtain ⟨v, hy, hK⟩ := yieldsIn_of_qOp h0 hst
  exact wpFirst_first h0 hk hp (Region.noSelect_spec hs) l.length listed a hc (Region.free_spec h0 hf) hr' hy
   (wpFirst_lex hs hp l (k + 1) _ _ (hc.set hr') (fun j o' ho => by have := hl (j + 1) o' (by simpa using ho); simpa [Nat.add_assoc, Nat.add_comm 1 j] using this) hB' hK)
def lineB (md : Region.Mode) (ops : Array Oper) : Nat → Nat → Array Bool → Bool
 | 0, _, listed => (Region.ready md ops listed).isEmpty
 | fuel + 1, k, listed => decide (Region.ready md ops listed = [k]) && lineB md ops fuel (k + 1) (listed.setIfInBounds k true)
theorem wpAny_line {Q : Exit → Act → World → Prop} : ∀ (l : List Oper) (k : Nat) (listed : Array Bool) (a : Act) (w : World), (∀ j o, l[j]? = some o → ops[k + j]? = some o) →
 lineB md ops l.length k listed = true → wpList P ops Q l a w → wpAny P md ops Q l.length listed a w
 | [], _, _, _, _, _, hB, h => ⟨by simpa [lineB] using hB, h⟩
 | o :: l, k, listed, a, w, hl, hB, h => by
  have h0 : ops[k]? = some o := hl 0 o rfl
  simp only [List.length_cons, lineB, Bool.and_eq_true, decide_eq_true_eq] at hB
  obtain ⟨hr, hB'⟩ := hB
  refine ⟨fun h1 => (by rw [hr] at h1; cases h1), fun j hj => ?_⟩
  rw [hr] at hj
  obtain rfl := List.mem_singleton.1 hj
  have NX : ∀ a' w', wpList P ops Q l a' w' → wpAny P md ops Q l.length (listed.setIfInBounds j true) a' w' := fun a' w' =>
   wpAny_line l (j + 1) _ a' w' (fun i o' ho => by have := hl (i + 1) o' (by simpa using ho); simpa [Nat.add_assoc, Nat.add_comm 1 i] using this) hB'
  unfold wpOp
  simp only [h0]
  unfold wpList at h
  split
  · rename_i hw
    rw [if_pos hw] at h
    exact h.imp (Oper.wp_mono NX) id
  · rename_i hw
    rw [if_neg hw] at h
    exact NX _ _ h
theorem closed_none (md : Region.Mode) (ops : Array Oper) : ClosedL md ops (Array.replicate ops.size false) := by
 intro j oj ho hl
 have := (Array.getElem?_eq_some_iff.1 ho).1
 simp [this] at hl
def phaseB (ops : Array Oper) (n : Nat) (L : Array Bool) : Bool :=
 Nat.ble n ops.size && Region.noSelect ops && phasedB .any ops n && firstB .any ops n n 0 (Array.replicate ops.size false) L && lineB .any ops (ops.size - n) n L
theorem wp_region_phase {id : Nat} {Q : Exit → Act → World → Prop} {a : Act} {w : World} {l : List Oper} (n : Nat) (L : Array Bool) (hm : P.follows .mixedOrders = true) (hB : phaseB l.toArray n L = true)
 (h : wpQuiet P l.toArray (fun w' => ∃ n, w' = w.drewN n) (fun a' => ∀ w', (∃ n, w' = w.drewN n) → wpList P l.toArray Q (l.drop n) a' w') (l.take n) a) : (Code.region id l.toArray true).wp P Q a w := by
 unfold phaseB at hB
 simp only [Bool.and_eq_true] at hB
 obtain ⟨⟨⟨⟨h0, h1⟩, h2⟩, h3⟩, h4⟩ := hB
 have hn : n ≤ l.length := by simpa using Nat.le_of_ble_eq_true h0
 refine wp_region_any hm ?_
 have hl1 : (l.take n).length = n := by simp [hn]
 have hl2 : (l.drop n).length = l.toArray.size - n := by simp
 have F := wpFirst_lex (P := P) (C := fun w' => ∃ n, w' = w.drewN n) (L := L) h1 h2 (l.take n) 0 (Array.replicate l.toArray.size false) a (closed_none _ _)
  (fun j o ho => by
   rw [List.getElem?_take] at ho
   split at ho
   · simpa using ho
   · cases ho) (by rw [hl1]; exact h3) h
 have A := wpAny_of_first (Q := Q) (k := l.toArray.size - n) (fun listed a' w' hw' hT => by
  obtain ⟨e, hT⟩ := hT
  subst e
  have := wpAny_line (P := P) (md := .any) (Q := Q) (l.drop n) n _ a' w' (fun j o ho => by rw [List.getElem?_drop] at ho; simpa using ho) (by rw [hl2]; exact h4) (hT w' hw')
  rwa [hl2] at this) _ _ _ (w.drewN 1) ⟨1, rfl⟩ F
 rw [hl1, show l.toArray.size - n + n = l.toArray.size by simp only [List.size_toArray]; omega] at A
 exact A
end
open Go.RowKit
def cntM (f : Nat → Bool) : Nat → Nat
 | 0 => 0
 | n + 1 => cntM f n + (if f n then 1 else 0)
theorem cntM_same {f g : Nat → Bool} {n : Nat} (h : ∀ i, i < n → g i = f i) : cntM g n = cntM f n := by
 induction n with
 | zero => rfl
 | succ n ih => simp only [cntM]; rw [ih (fun i hi => h i (by omega)), h n (by omega)]
theorem cntM_drop {f g : Nat → Bool} {j : Nat} (hj : f j = true) (gj : g j = false) (h : ∀ i, i ≠ j → g i = f i) : ∀ n, j < n → cntM g n + 1 = cntM f n
 | 0, hn => by omega
 | n + 1, hn => by
  simp only [cntM]
  rcases Nat.lt_or_ge j n with h1 | h1
  · have := cntM_drop hj gj h n h1
    rw [h n (by omega)]
    omega
  · have e : j = n := by omega
    subst e
    rw [cntM_same (f := f) (g := g) (fun i hi => h i (by omega)), hj, gj]
    simp
theorem cntM_least {f : Nat → Bool} : ∀ n, 0 < cntM f n → ∃ i, i < n ∧ f i = true ∧ ∀ j, j < i → f j = false
 | 0, h => by simp [cntM] at h
 | n + 1, h => by
  rcases Nat.eq_zero_or_pos (cntM f n) with h0 | h0
  · refine ⟨n, by omega, ?_, ?_⟩
    · simp only [cntM, h0] at h
      cases hf : f n with
      | true => rfl
      | false => rw [hf] at h; simp at h
    · intro j hj
      cases hf : f j with
      | false => rfl
      | true =>
       exfalso
       have : ∀ n, j < n → 0 < cntM f n := by
        intro n
        induction n with
        | zero => intro h; omega
        | succ n ih =>
         intro h
         simp only [cntM]
         rcases Nat.lt_or_ge j n with h1 | h1
         · have := ih h1; omega
         · have e : j = n := by omega
           subst e; rw [hf]; simp
       have := this n hj
       omega
  · obtain ⟨i, h1, h2, h3⟩ := cntM_least n h0
    exact ⟨i, by omega, h2, h3⟩
theorem cntM_zero {f : Nat → Bool} : ∀ n, cntM f n = 0 → ∀ i, i < n → f i = false
 | 0, _, i, h => by omega
 | n + 1, h, i, hi => by
  simp only [cntM] at h
  rcases Nat.lt_or_ge i n with h1 | h1
  · exact cntM_zero n (by omega) i h1
  · have e : i = n := by omega
    subst e
    cases hf : f i with
    | false => rfl
    | true => rw [hf] at h; simp at h
section
variable {P : Program} {ops : Array Oper} {Q : Exit → Act → World → Prop}
def updV (y : Nat → Value) (i : Nat) (x : Value) : Nat → Value := fun j => if j = i then x else y j
def Hop (P : Program) (ops : Array Oper) (Q : Exit → Act → World → Prop) (w : World) (fill : (Nat → Value) → Act) (Φ : Nat → Value → Nat → Nat → World → Prop) (i : Nat) (o : Oper) : Prop :=
 ∀ (y : Nat → Value) (W : World), Below w.heap.size w W → (∀ e ∈ o.after, Region.binds .any e = true → ∃ lo hi, hi ≤ W.heap.size ∧ Φ e.on (y e.on) lo hi W) →
  ∀ K : Act → World → Prop, Shut (∀ x a' W', Below W.heap.size W W' → Φ i x W.heap.size W'.heap.size W' → a' = fill (updV y i x) → K a' W') → if Region.wanted o (yielded ops (fill y).tmps) = true then Oper.wp P o (fill y) W K Q else K ((fill y).put o.dst undef) W
def Hops (P : Program) (ops : Array Oper) (Q : Exit → Act → World → Prop) (w : World) (fill : (Nat → Value) → Act) (Φ : Nat → Value → Nat → Nat → World → Prop) : Nat → List Oper → Prop
 | _, [] => True
 | k, o :: r => Hop P ops Q w fill Φ k o ∧ Hops P ops Q w fill Φ (k + 1) r
theorem Hops.at {w : World} {fill : (Nat → Value) → Act} {Φ : Nat → Value → Nat → Nat → World → Prop} : ∀ (l : List Oper) (k i : Nat) (o : Oper), Hops P ops Q w fill Φ k l → l[i]? = some o → Hop P ops Q w fill Φ (k + i) o
 | [], _, _, _, _, h => by simp at h
 | o' :: r, k, 0, o, H, h => by simp at h; subst h; exact H.1
 | o' :: r, k, i + 1, o, H, h => by
  have := Hops.at r (k + 1) i o H.2 (by simpa using h)
  rwa [show k + 1 + i = k + (i + 1) by omega] at this
structure Made (w : World) (Φ : Nat → Value → Nat → Nat → World → Prop) (ops : Array Oper) (n : Nat) (is : Nat → Bool) (y : Nat → Value) (lo hi : Nat → Nat) (W : World) : Prop where
 d : Below w.heap.size w W
 fact : ∀ i, i < n → is i = true → Φ i (y i) (lo i) (hi i) W
 at' : ∀ i, i < n → is i = true → w.heap.size ≤ lo i ∧ lo i ≤ hi i ∧ hi i ≤ W.heap.size
 apart : ∀ i j, i < n → j < n → is i = true → is j = true → i ≠ j → hi i ≤ lo j ∨ hi j ≤ lo i
 order : ∀ j o e, j < n → is j = true → ops[j]? = some o → e ∈ o.after → Region.binds .any e = true → hi e.on ≤ lo j
def depsB (ops : Array Oper) (n : Nat) : Bool := (List.range n).all fun i => match ops[i]? with
 | none => false
 | some o => o.after.all fun e => !Region.binds .any e || decide (e.on < i)
theorem depsB_at {n : Nat} (h : depsB ops n = true) {i : Nat} (hi : i < n) : ∃ o, ops[i]? = some o ∧ ∀ e ∈ o.after, Region.binds .any e = true → e.on < i := by
 unfold depsB at h
 rw [List.all_eq_true] at h
 have := h i (List.mem_range.2 hi)
 split at this
 · cases this
 · rename_i o ho
   refine ⟨o, ho, fun e he hb => ?_⟩
   rw [Array.all_eq_true_iff_forall_mem] at this
   have := this e he
   rw [hb] at this
   simpa using this
theorem line_more {L : List Oper} : ∀ (x k : Nat) (listed : Array Bool) (a : Act) (w : World), (∀ j o, L[j]? = some o → ops[k + j]? = some o) →
 lineB .any ops L.length k listed = true → wpList P ops Q L a w → wpAny P .any ops Q (L.length + x) listed a w := by
 induction L with
 | nil =>
  intro x k listed a w _ hB h
  have hr : Region.ready .any ops listed = [] := by simpa [lineB] using hB
  cases x with
  | zero => exact ⟨hr, h⟩
  | succ x => exact ⟨fun _ => h, fun i hi => by rw [hr] at hi; cases hi⟩
 | cons o L ih =>
  intro x k listed a w hl hB h
  have h0 : ops[k]? = some o := hl 0 o rfl
  simp only [List.length_cons, lineB, Bool.and_eq_true, decide_eq_true_eq] at hB
  obtain ⟨hr, hB'⟩ := hB
  rw [List.length_cons, show L.length + 1 + x = (L.length + x) + 1 by omega]
  refine ⟨fun h1 => (by rw [hr] at h1; cases h1), fun j hj => ?_⟩
  rw [hr] at hj
  obtain rfl := List.mem_singleton.1 hj
  have NX : ∀ a' w', wpList P ops Q L a' w' → wpAny P .any ops Q (L.length + x) (listed.setIfInBounds j true) a' w' := fun a' w' =>
   ih x (j + 1) _ a' w' (fun i o' ho => by have := hl (i + 1) o' (by simpa using ho); simpa [Nat.add_assoc, Nat.add_comm 1 i] using this) hB'
  unfold wpOp
  simp only [h0]
  unfold wpList at h
  split
  · rename_i hw
    rw [if_pos hw] at h
    exact h.imp (Oper.wp_mono NX) id
  · rename_i hw
    rw [if_neg hw] at h
    exact NX _ _ h
theorem make_go {w : World} {fill : (Nat → Value) → Act} {Φ : Nat → Value → Nat → Nat → World → Prop} {n : Nat} {l2 : List Oper} {l1 : List Oper}
 (hp : phasedB .any ops n = true) (hdep : depsB ops n = true) (hl1 : ∀ j o, l1[j]? = some o ↔ (j < n ∧ ops[j]? = some o)) (hl2 : ∀ j o, l2[j]? = some o → ops[n + j]? = some o)
 (hline : ∀ listed : Array Bool, listed.size = ops.size → (∀ i, listed.getD i true = decide (i < n ∨ ops.size ≤ i)) → lineB .any ops l2.length n listed = true)
 (hmono : ∀ i x lo hi W W', i < n → hi ≤ W.heap.size → Below W.heap.size W W' → Φ i x lo hi W → Φ i x lo hi W')
 (hop : Hops P ops Q w fill Φ 0 l1)
 (hfin : ∀ y lo hi W, Made w Φ ops n (fun _ => true) y lo hi W → wpList P ops Q l2 (fill y) W) :
 ∀ (m : Nat) (x : Nat) (listed : Array Bool) (y : Nat → Value) (lo hi : Nat → Nat) (W : World), listed.size = ops.size → (∀ i, n ≤ i → i < ops.size → listed.getD i true = false) → ClosedL .any ops listed → cntM (fun i => !listed.getD i true) n = m →
  Made w Φ ops n (fun i => listed.getD i true) y lo hi W → wpAny P .any ops Q (l2.length + m + x) listed (fill y) W := by
 intro m
 induction m with
 | zero =>
  intro x listed y lo hi W hsz hge hc hcnt hM
  have hall : ∀ i, i < n → listed.getD i true = true := fun i hi => by
   have := cntM_zero n hcnt i hi
   simpa using this
  refine line_more x n listed (fill y) W hl2 (hline listed hsz ?_) (hfin y lo hi W ?_)
  · intro i
    rcases Nat.lt_or_ge i n with h | h
    · rw [hall i h]; simp [h]
    · rcases Nat.lt_or_ge i ops.size with h2 | h2
      · rw [hge i h h2]; symm; simp; omega
      · rw [show listed.getD i true = true by simp [Array.getElem?_eq_none (show listed.size ≤ i by omega)]]; symm; simp; omega
  · exact ⟨hM.d, fun i hi _ => hM.fact i hi (hall i hi), fun i hi _ => hM.at' i hi (hall i hi), fun i j hi hj _ _ h => hM.apart i j hi hj (hall i hi) (hall j hj) h, fun j o e hj _ ho he hb => hM.order j o e hj (hall j hj) ho he hb⟩
 | succ m ih =>
  intro x listed y lo hi W hsz hge hc hcnt hM
  obtain ⟨i0, hi0, hf0, hless⟩ := cntM_least (f := fun i => !listed.getD i true) n (by omega)
  have hun : listed.getD i0 true = false := by simpa using hf0
  obtain ⟨o0, ho0, hd0⟩ := depsB_at hdep hi0
  have hin : ∀ i, i < n → i < listed.size := fun i hi => by
   obtain ⟨o, ho, _⟩ := depsB_at hdep hi
   have := (Array.getElem?_eq_some_iff.1 ho).1
   omega
  have hready : i0 ∈ Region.ready .any ops listed := mem_ready.2 ⟨hun, o0, ho0, fun e he hb => by
   have h1 := hd0 e he hb
   have h2 := hless e.on h1
   have h3 : listed.getD e.on true = true := by simpa using h2
   have h4 := hin e.on (by omega)
   simpa [h4] using h3⟩
  rw [show l2.length + (m + 1) + x = (l2.length + m + x) + 1 by omega]
  refine ⟨fun h => (by rw [h] at hready; cases hready), fun j hj => ?_⟩
  have hjn : j < n := phased_lt hp hc hi0 hun hj
  obtain ⟨hjun, oj, hoj, hall⟩ := mem_ready.1 hj
  have H := Hops.at l1 0 j oj hop ((hl1 j oj).2 ⟨hjn, hoj⟩)
  rw [Nat.zero_add] at H
  refine wpOp_step hoj (fun K' hK => H y W hM.d (fun e he hb => ?_) K' ?_)
  · have h1 := hall e he hb
    obtain ⟨o', ho', hd'⟩ := depsB_at hdep hjn
    rw [hoj] at ho'
    cases ho'
    have h2 := hd' e he hb
    have h3 := getD_to _ _ h1
    exact ⟨lo e.on, hi e.on, (hM.at' e.on (by omega) h3).2.2, hM.fact e.on (by omega) h3⟩
  · rintro v a' W' hB hΦ rfl
    have hsj := hin j hjn
    have g1 : (listed.setIfInBounds j true).getD j true = true := by simp [hsj]
    refine hK _ _ ?_
    refine ih x (listed.setIfInBounds j true) (updV y j v) (fun i => if i = j then W.heap.size else lo i) (fun i => if i = j then W'.heap.size else hi i) W' (by simp [hsz]) (fun i h1 h2 => ?_) (hc.set hj) ?_ ?_
    · rw [getD_set_ne true (by omega)]; exact hge i h1 h2
    · have := cntM_drop (f := fun i => !listed.getD i true) (g := fun i => !(listed.setIfInBounds j true).getD i true) (j := j) (by simp only [hjun]; rfl) (by simp only [g1]; rfl) (fun i hi => by simp only [getD_set_ne true (Ne.symm hi)]) n hjn
      omega
    · have old : ∀ i, i ≠ j → (listed.setIfInBounds j true).getD i true = true → listed.getD i true = true := fun i h1 h2 => by rwa [getD_set_ne true (Ne.symm h1)] at h2
      have hs := hM.d.size
      have hs2 := hB.size
      refine ⟨hM.d.trans (hB.mono hs), fun i hi h => ?_, fun i hi h => ?_, fun i k hi hk h1 h2 hne => ?_, fun k o e hk h1 ho he hb => ?_⟩
      · by_cases e : i = j
        · subst e; simp only [updV, if_pos]; exact hΦ
        · simp only [updV, if_neg e]; exact hmono i _ _ _ W W' hi (hM.at' i hi (old i e h)).2.2 hB (hM.fact i hi (old i e h))
      · by_cases e : i = j
        · subst e; simp only [if_pos]; exact ⟨hs, hs2, Nat.le_refl _⟩
        · simp only [if_neg e]; have := hM.at' i hi (old i e h); exact ⟨this.1, this.2.1, by omega⟩
      · by_cases e : i = j
        · have e2 : k ≠ j := fun h => hne (by rw [e, h])
          simp only [if_pos e, if_neg e2]
          exact Or.inr (hM.at' k hk (old k e2 h2)).2.2
        · by_cases e2 : k = j
          · simp only [if_neg e, if_pos e2]
            exact Or.inl (hM.at' i hi (old i e h1)).2.2
          · simp only [if_neg e, if_neg e2]
            exact hM.apart i k hi hk (old i e h1) (old k e2 h2) hne
      · obtain ⟨o', ho', hd'⟩ := depsB_at hdep hk
        rw [ho] at ho'
        cases ho'
        have hlt := hd' e he hb
        by_cases e1 : k = j
        · subst e1
          rw [hoj] at ho
          cases ho
          have h3 := getD_to _ _ (hall e he hb)
          have e2 : e.on ≠ k := by omega
          simp only [if_pos, if_neg e2]
          exact (hM.at' e.on (by omega) h3).2.2
        · have h4 := old k e1 h1
          have h5 := getD_to _ _ (hc k o ho h4 e he hb)
          have e2 : e.on ≠ j := fun h => by rw [h, hjun] at h5; cases h5
          simp only [if_neg e1, if_neg e2]
          exact hM.order k o e hk h4 ho he hb
def makeB (ops : Array Oper) (n : Nat) : Bool := Nat.ble n ops.size && phasedB .any ops n && depsB ops n && lineB .any ops (ops.size - n) n (Array.ofFn (n := ops.size) fun i => decide (i.1 < n))
theorem wp_region_make {id : Nat} {a : Act} {w : World} {l : List Oper} (n : Nat) (fill : (Nat → Value) → Act) (Φ : Nat → Value → Nat → Nat → World → Prop) (y0 : Nat → Value) (hm : P.follows .mixedOrders = true) (hB : makeB l.toArray n = true) (ha : a = fill y0)
 (hmono : ∀ i x lo hi W W', i < n → hi ≤ W.heap.size → Below W.heap.size W W' → Φ i x lo hi W → Φ i x lo hi W')
 (hop : Hops P l.toArray Q w fill Φ 0 (l.take n))
 (hfin : ∀ y lo hi W, Made w Φ l.toArray n (fun _ => true) y lo hi W → wpList P l.toArray Q (l.drop n) (fill y) W) : (Code.region id l.toArray true).wp P Q a w := by
 unfold makeB at hB
 simp only [Bool.and_eq_true] at hB
 obtain ⟨⟨⟨h0, h2⟩, h3⟩, h4⟩ := hB
 have hn : n ≤ l.length := by simpa using Nat.le_of_ble_eq_true h0
 refine wp_region_any hm ?_
 have hl2 : (l.drop n).length = l.toArray.size - n := by simp
 have F := make_go (P := P) (Q := Q) (w := w) (fill := fill) (Φ := Φ) (n := n) (ops := l.toArray) (l1 := l.take n) (l2 := l.drop n) h2 h3
  (fun j o => by
   rw [List.getElem?_take]
   split
   · rename_i h; simp [h]
   · rename_i h; constructor
     · intro h'; cases h'
     · intro h'; exact absurd h'.1 h)
  (fun j o ho => by rw [List.getElem?_drop] at ho; simpa using ho)
  (fun listed hs hg => by
   rw [hl2]
   have e : listed = Array.ofFn (n := l.toArray.size) fun i => decide (i.1 < n) := by
    refine Array.ext (by simp [hs]) (fun i h5 h6 => ?_)
    have := hg i
    simp only [Array.getElem_ofFn]
    have e1 : listed.getD i true = listed[i] := by simp [h5]
    rw [← e1, this]
    have : i < l.toArray.size := by omega
    by_cases h7 : i < n
    · simp [h7]
    · simp only [h7, false_or, decide_false, decide_eq_false_iff_not]; omega
   rw [e]; exact h4)
  hmono hop hfin n 0 (Array.replicate l.toArray.size false) y0 (fun _ => 0) (fun _ => 0) (w.drewN 1) (by simp) (fun i h5 h6 => by simp at h6; simp [h6]) (closed_none _ _) ?_ ?_
 · rw [ha]
   have e : (l.drop n).length + n + 0 = l.toArray.size := by rw [hl2]; simp; omega
   rw [e] at F
   exact F
 · have : ∀ k, k ≤ n → cntM (fun i => !(Array.replicate l.toArray.size false).getD i true) k = k := by
    intro k
    induction k with
    | zero => intro _; rfl
    | succ k ih =>
     intro hk
     have h5 : k < l.toArray.size := by simp; omega
     simp only [cntM]
     rw [ih (by omega)]
     have : (Array.replicate l.toArray.size false).getD k true = false := by simp at h5; simp [h5]
     simp only [this]; rfl
   exact this n (Nat.le_refl _)
 · have none : ∀ i, i < n → (Array.replicate l.toArray.size false).getD i true = true → False := fun i hi h => by
    have : i < l.length := by omega
    simp [this] at h
   exact ⟨⟨rfl, rfl, rfl, Nat.le_refl _, fun _ _ => rfl⟩, fun i hi h => (none i hi h).elim, fun i hi h => (none i hi h).elim, fun i j hi _ h _ _ => (none i hi h).elim, fun j o e hj h _ _ _ => (none j hj h).elim⟩
def fills : Nat → List Oper → (Nat → Value) → Act → Act
 | _, [], _, a => a
 | k, o :: r, y, a => fills (k + 1) r y (a.put o.dst (y k))
def firstY (l : List Oper) (a : Act) (i : Nat) : Value := match l[i]? with
 | none => undef
 | some o => match o.dst with
  | none => undef
  | some d => a.tmps.getD d undef
theorem put_self (a : Act) (d : Nat) : a.put (some d) (a.tmps.getD d undef) = a := by
 unfold Act.put
 have : a.tmps.setIfInBounds d (a.tmps.getD d undef) = a.tmps := by
  refine Array.ext (by simp) (fun i h1 h2 => ?_)
  by_cases e : d = i
  · subst e
    simp [h2]
  · rw [Array.getElem_setIfInBounds_ne (by simpa using h1) e]
 simp only [this]
theorem fills_self (l : List Oper) (a : Act) : ∀ (r : List Oper) (k : Nat), (∀ j o, r[j]? = some o → l[k + j]? = some o) → fills k r (firstY l a) a = a
 | [], _, _ => rfl
 | o :: r, k, h => by
  have h0 : l[k]? = some o := h 0 o rfl
  have e : a.put o.dst (firstY l a k) = a := by
   unfold firstY
   rw [h0]
   show a.put o.dst (match o.dst with
    | none => undef
    | some d => a.tmps.getD d undef) = a
   cases o.dst with
   | none => rfl
   | some d => exact put_self a d
  unfold fills
  rw [e]
  exact fills_self l a r (k + 1) (fun j o' ho => by have := h (j + 1) o' (by simpa using ho); rwa [show k + 1 + j = k + (j + 1) by omega])
theorem wp_region_mk {id : Nat} {a : Act} {w : World} {l : List Oper} (n : Nat) (Φ : Nat → Value → Nat → Nat → World → Prop) (hm : P.follows .mixedOrders = true) (hB : makeB l.toArray n = true)
 (hmono : ∀ i x lo hi W W', i < n → hi ≤ W.heap.size → Below W.heap.size W W' → Φ i x lo hi W → Φ i x lo hi W')
 (h : ∀ F : (Nat → Value) → Act, F = (fun y => fills 0 (l.take n) y a) → Hops P l.toArray Q w F Φ 0 (l.take n) ∧ ∀ y lo hi W, Made w Φ l.toArray n (fun _ => true) y lo hi W → wpList P l.toArray Q (l.drop n) (F y) W) : (Code.region id l.toArray true).wp P Q a w :=
 wp_region_make n _ Φ (firstY l a) hm hB (fills_self l a (l.take n) 0 (fun j o ho => by
  rw [List.getElem?_take] at ho
  split at ho
  · simpa using ho
  · cases ho)).symm hmono (h _ rfl).1 (h _ rfl).2
abbrev MkP := Value → Nat → Nat → World → Prop
def MonoP (p : MkP) : Prop := ∀ x lo hi W W', hi ≤ W.heap.size → Below W.heap.size W W' → p x lo hi W → p x lo hi W'
def MonoL : List MkP → Prop
 | [] => True
 | p :: r => MonoP p ∧ MonoL r
def phiL (L : List MkP) (i : Nat) : MkP := L.getD i (fun _ _ _ _ => True)
theorem MonoL.at : ∀ (L : List MkP) (i : Nat), MonoL L → MonoP (phiL L i)
 | [], _, _ => fun _ _ _ _ _ _ _ h => h
 | _ :: _, 0, h => h.1
 | _ :: r, i + 1, h => MonoL.at r i h.2
def isV (v : Value) : MkP := fun x _ _ _ => x = v
theorem isV_mono (v : Value) : MonoP (isV v) := fun _ _ _ _ _ _ _ h => h
theorem wp_region_mkL {id : Nat} {a : Act} {w : World} {l : List Oper} (L : List MkP) (hm : P.follows .mixedOrders = true) (hB : makeB l.toArray L.length = true) (hmono : MonoL L)
 (h : ∀ F : (Nat → Value) → Act, F = (fun y => fills 0 (l.take L.length) y a) → Hops P l.toArray Q w F (phiL L) 0 (l.take L.length) ∧ ∀ y lo hi W, Made w (phiL L) l.toArray L.length (fun _ => true) y lo hi W → wpList P l.toArray Q (l.drop L.length) (F y) W) : (Code.region id l.toArray true).wp P Q a w :=
 wp_region_mk L.length (phiL L) hm hB (fun i x lo hi W W' _ => MonoL.at L i hmono x lo hi W W') h
end
end Go.Proofs.YtchoopnjckcohaaGreatDoor
