import Derived.Maps.OwnIn
import Derived.Test.YtdgmokelmocejaaDoorWm
namespace Go.Proofs.YtdgmokelmocejaaDoor
open Go.RowKit

/-- Below n all but these blocks lie as they lay. -/
structure Fr (S : List Nat) (n : Nat) (w W : World) : Prop where
  os : W.os = w.os
  tape : W.tape = w.tape
  output : W.output = w.output
  size : w.heap.size ≤ W.heap.size
  block : ∀ k, k < n → k ∉ S → W.heap[k]? = w.heap[k]?

theorem Fr.refl (S : List Nat) (n : Nat) (w : World) : Fr S n w w := ⟨rfl, rfl, rfl, Nat.le_refl _, fun _ _ _ => rfl⟩
theorem Fr.trans {S : List Nat} {n : Nat} {a b c : World} (h : Fr S n a b) (k : Fr S n b c) : Fr S n a c :=
  ⟨k.os.trans h.os, k.tape.trans h.tape, k.output.trans h.output, Nat.le_trans h.size k.size, fun i hi hS => (k.block i hi hS).trans (h.block i hi hS)⟩
theorem Fr.more {S T : List Nat} {n m : Nat} {a b : World} (h : Fr S n a b) (hS : ∀ k ∈ S, k ∈ T) (hm : m ≤ n) : Fr T m a b :=
  ⟨h.os, h.tape, h.output, h.size, fun k hk hT => h.block k (by omega) (fun e => hT (hS k e))⟩
theorem Fr.own {β : Type} {S : List Nat} {n B : Nat} {w : World} (hB : n ≤ B) (hn : n ≤ w.heap.size) : OwnFrom B (fun (_ : β) W => Fr S n w W) := by
  intro s A A' row hs hg hr
  have := hs.size
  exact ⟨hg.os.trans hs.os, hg.tape.trans hs.tape, hg.output.trans hs.output, Nat.le_trans hs.size hg.size, fun k hk hS => (hg.block k (by omega) (fun e => by have := (hr k e.symm).1; omega)).trans (hs.block k hk hS)⟩
theorem Fr.heap {S : List Nat} {n : Nat} {w W : World} (h : Fr S n w W) {k : Nat} {o : Obj} (hk : k < n) (hS : k ∉ S) (e : w.heap[k]? = some o) : W.heap[k]? = some o := (h.block k hk hS).trans e
theorem Fr.below {S : List Nat} {n m : Nat} {w W : World} (h : Fr S n w W) (hm : m ≤ n) (hS : ∀ k ∈ S, m ≤ k) : Below m w W :=
  ⟨h.os, h.tape, h.output, h.size, fun k hk => h.block k (by omega) (fun e => by have := hS k e; omega)⟩
theorem Fr.of_grown {S : List Nat} {n : Nat} {W W' : World} {row : Option Nat} (hg : W.grownBy W' row) (hn : n ≤ W.heap.size) (hr : ∀ k, row = some k → k ∈ S ∨ n ≤ k) : Fr S n W W' :=
  ⟨hg.os, hg.tape, hg.output, hg.size, fun k hk hS => hg.block k (by omega) (fun e => by rcases hr k e.symm with h | h; exact hS h; omega)⟩
theorem Fr.of_below {S : List Nat} {n : Nat} {W W' : World} (h : Below n W W') : Fr S n W W' := ⟨h.os, h.tape, h.output, h.size, fun k hk _ => h.block k hk⟩

theorem Fr.drew {S : List Nat} {n : Nat} {w W : World} (h : Fr S n w W) : Fr S n w W.drew := ⟨h.os, h.tape, h.output, h.size, h.block⟩
theorem KpU.drew (B : Nat) (W : World) : KpU B W W.drew := ⟨Nat.le_refl _, rfl, fun _ _ _ _ h => h⟩

theorem owns_cells {W W' : World} {base e size m : Nat} {v : Value} {xs : List Value} (h : W.ownsRow base e size v m xs) (hk : ∀ g cur, v.ownBlock = some g → W.heap[g]? = some (.cells cur e (0, 0)) → W'.heap[g]? = some (.cells cur e (0, 0))) : W'.ownsRow base e size v m xs := by
  refine ⟨h.1, ?_⟩
  rcases h.2 with ⟨h1, h2⟩ | ⟨g, cap, cur, rfl, hb, hg, r⟩
  · exact .inl ⟨h1, h2⟩
  · exact .inr ⟨g, cap, cur, rfl, hb, hk g cur rfl hg, r⟩

/-- Two slices of their own don't share a block. -/
def sep (v1 v2 : Value) : Prop := ∀ k, v1.ownBlock = some k → v2.ownBlock ≠ some k
theorem sep.symm {v1 v2 : Value} (h : sep v1 v2) : sep v2 v1 := fun k h1 h2 => h k h2 h1
theorem sep_nil (v : Value) : sep (.slice none 0 0) v := fun k h => by cases h

/-- What an append onto the slice in a variable's box, and the store back, leave. -/
structure App (n B : Nat) (v v' : Value) (W W' : World) : Prop where
  box : Boxed W' B 22 v'
  others : KeepsOthers W W'
  fr : Fr [B] n W W'
  kp : ∀ C, KpU C W W'
  boxes : ∀ B2 t v2, B2 ≠ B → v.ownBlock ≠ some B2 → Boxed W B2 t v2 → Boxed W' B2 t v2
  rows : ∀ v2 m (xs : List Value), W.ownsRow n 3 1 v2 m xs → sep v v2 → W'.ownsRow n 3 1 v2 m xs ∧ sep v' v2
  far : ∀ k, k < W.heap.size → v.ownBlock ≠ some k → v'.ownBlock ≠ some k

theorem app_step {W w1 : World} {n B m j : Nat} {v v' : Value} {tmp : Obj} {xs ys : List Value} (hn : n ≤ W.heap.size) (hn0 : 0 < n) (hB0 : B ≠ 0)
    (hv : Boxed W B 22 v) (hrow : W.ownsRow n 3 1 v m xs) (hown : w1.ownsRow n 3 1 v' j ys) (hg : (W.alloc tmp).grownBy w1 v.ownBlock) (hat : v'.ownBlock = v.ownBlock ∨ v'.ownBlock = some (W.alloc tmp).heap.size) :
    Boxed w1 B 22 v ∧ App n B v v' W (w1.setCell ⟨B, 0, none⟩ v') ∧ (w1.setCell ⟨B, 0, none⟩ v').ownsRow n 3 1 v' j ys := by
  have hv1 : Boxed w1 B 22 v := (hv.alloc tmp).kept hg (hv.not_row (by decide) hrow)
  have hlt : ∀ k, v.ownBlock = some k → n ≤ k ∧ k < W.heap.size ∧ ∃ cur, W.heap[k]? = some (.cells cur 3 (0, 0)) := by
    intro k hk
    rcases hrow.2 with ⟨rfl, _⟩ | ⟨g, cap, cur, rfl, hb, hgb, _⟩
    · cases hk
    · obtain rfl : g = k := by simpa [Value.ownBlock] using hk
      exact ⟨hb, (Array.getElem?_eq_some_iff.1 hgb).1, cur, hgb⟩
  have hblk : ∀ k, k < W.heap.size → k ≠ B → v.ownBlock ≠ some k → (w1.setCell ⟨B, 0, none⟩ v').heap[k]? = W.heap[k]? := by
    intro k hk h1 h2
    rw [Below.heap_setCell _ _ _ _ h1, hg.block k (by simp; omega) (fun e => h2 e.symm), Below.heap_alloc _ _ _ hk]
  have hsz : W.heap.size ≤ (w1.setCell ⟨B, 0, none⟩ v').heap.size := by
    have := hg.size
    simp [World.setCell] at this ⊢
    omega
  have hown' : (w1.setCell ⟨B, 0, none⟩ v').ownsRow n 3 1 v' j ys := hown.kept (grownBy_setCell' w1 B v') (.inr (hv1.not_row (by decide) hown).symm)
  refine ⟨hv1, ⟨hv1.set v', ?_, ?_, ?_, ?_, ?_, ?_⟩, hown'⟩
  · refine ⟨hsz, fun k o hk ho => ?_⟩
    rw [hblk k (Array.getElem?_eq_some_iff.1 hk).1 ?_ ?_]
    · exact hk
    · rintro rfl
      rw [show W.heap[k]? = _ from hv] at hk
      cases hk
      cases ho
    · intro e
      obtain ⟨_, _, cur, hc⟩ := hlt k e
      rw [hc] at hk
      cases hk
      cases ho
  · refine ⟨hg.os, hg.tape, hg.output, hsz, fun k hk hS => hblk k (by omega) (by simpa using hS) (fun e => ?_)⟩
    have := (hlt k e).1
    omega
  · intro C
    refine ⟨hsz, hblk 0 (by omega) (fun e => hB0 e.symm) (fun e => by have := (hlt 0 e).1; omega), fun b cs fr _ hc => ?_⟩
    rw [hblk b (Array.getElem?_eq_some_iff.1 hc).1 ?_ ?_]
    · exact hc
    · rintro rfl
      rw [show W.heap[b]? = _ from hv] at hc
      cases hc
    · intro e
      obtain ⟨_, _, cur, h3⟩ := hlt b e
      rw [h3] at hc
      cases hc
  · intro B2 t v2 h1 h2 hb
    show _ = _
    rw [hblk B2 hb.lt h1 h2]
    exact hb
  · intro v2 m2 xs2 hr hs
    refine ⟨owns_cells hr fun g cur e hc => ?_, fun k e1 e2 => ?_⟩
    · rw [hblk g (Array.getElem?_eq_some_iff.1 hc).1 ?_ (fun e' => hs g e' e)]
      · exact hc
      · rintro rfl
        rw [show W.heap[g]? = _ from hv] at hc
        cases hc
    · rcases hat with h | h
      · exact hs k (h.symm.trans e1) e2
      · rw [h] at e1
        have e3 : (W.alloc tmp).heap.size = k := by simpa using e1
        rcases hr.2 with ⟨rfl, _⟩ | ⟨g, cap, cur, rfl, hb, hgb, _⟩
        · cases e2
        · obtain rfl : g = k := by simpa [Value.ownBlock] using e2
          have := (Array.getElem?_eq_some_iff.1 hgb).1
          simp at e3
          omega
  · intro k hk h1 h2
    rcases hat with h | h
    · exact h1 (h.symm.trans h2)
    · rw [h] at h2
      simp at h2
      omega

theorem row_lt {W : World} {base e size m : Nat} {v : Value} {xs : List Value} {g : Nat} (h : W.ownsRow base e size v m xs) (hg : v.ownBlock = some g) : g < W.heap.size := by
  rcases h.2 with ⟨rfl, _⟩ | ⟨g', cap, cur, rfl, _, hgb, _⟩
  · cases hg
  · obtain rfl : g' = g := by simpa [Value.ownBlock] using hg
    exact (Array.getElem?_eq_some_iff.1 hgb).1

theorem row_ge {W : World} {base e size m : Nat} {v : Value} {xs : List Value} (h : W.ownsRow base e size v m xs) : ∀ g, v.ownBlock = some g → base ≤ g := by
  intro g hg
  rcases h.2 with ⟨rfl, _⟩ | ⟨g', cap, cur, rfl, hb, _⟩
  · cases hg
  · obtain rfl : g' = g := by simpa [Value.ownBlock] using hg
    exact hb

theorem row_form {W : World} {base e size m : Nat} {v : Value} {xs : List Value} (h : W.ownsRow base e size v m xs) : ∃ ao cap, v = .slice ao m cap := by
  rcases h.2 with ⟨rfl, rfl⟩ | ⟨g', cap, cur, rfl, _⟩
  · exact ⟨none, 0, rfl⟩
  · exact ⟨_, cap, rfl⟩

/-- A variable that holds a list being made. -/
def One (n B : Nat) (l : List Nat) (W : World) : Prop := ∃ v, Boxed W B 22 v ∧ W.ownsRow n 3 1 v l.length (intV l)
/-- Two of them, apart. -/
def Two (n B1 B2 : Nat) (l1 l2 : List Nat) (W : World) : Prop := ∃ v1 v2, Boxed W B1 22 v1 ∧ W.ownsRow n 3 1 v1 l1.length (intV l1) ∧ Boxed W B2 22 v2 ∧ W.ownsRow n 3 1 v2 l2.length (intV l2) ∧ sep v1 v2
/-- A block that is neither's row. -/
def Not2 (B1 B2 Bx : Nat) (W : World) : Prop := ∃ v1 v2, Boxed W B1 22 v1 ∧ Boxed W B2 22 v2 ∧ v1.ownBlock ≠ some Bx ∧ v2.ownBlock ≠ some Bx

theorem boxed_uniq {W : World} {B t : Nat} {v v' : Value} (h : Boxed W B t v) (k : Boxed W B t v') : v = v' := by
  have := (show W.heap[B]? = _ from h).symm.trans k
  simpa using this
theorem keep_cells {A A' : World} {row : Option Nat} {C : Nat} (hg : A.grownBy A' row) (hr : ∀ r, row = some r → C ≤ r ∧ ∃ o : Obj, A.heap[r]? = some o ∧ o.isCells = false) {k t : Nat} {cs : Array Value} {fr : Nat × Nat} (h : A.heap[k]? = some (.cells cs t fr)) : A'.heap[k]? = some (.cells cs t fr) :=
  (grownBy_keeps_cells hg (fun r e => (hr r e).2) h rfl).trans h
theorem one_own {β : Type} (n B C : Nat) (f : β → List Nat) : OwnFrom C (fun s W => One n B (f s) W) := by
  rintro s A A' row ⟨v, h1, h2⟩ hg hr
  exact ⟨v, keep_cells hg hr h1, owns_cells h2 fun g cur _ hc => keep_cells hg hr hc⟩
theorem two_own {β : Type} (n B1 B2 C : Nat) (f1 f2 : β → List Nat) : OwnFrom C (fun s W => Two n B1 B2 (f1 s) (f2 s) W) := by
  rintro s A A' row ⟨v1, v2, h1, h2, h3, h4, h5⟩ hg hr
  exact ⟨v1, v2, keep_cells hg hr h1, owns_cells h2 fun g cur _ hc => keep_cells hg hr hc, keep_cells hg hr h3, owns_cells h4 fun g cur _ hc => keep_cells hg hr hc, h5⟩
theorem not2_own {β : Type} (B1 B2 Bx C : Nat) : OwnFrom C (fun (_ : β) W => Not2 B1 B2 Bx W) := by
  rintro s A A' row ⟨v1, v2, h1, h2, h3, h4⟩ hg hr
  exact ⟨v1, v2, keep_cells hg hr h1, keep_cells hg hr h2, h3, h4⟩
theorem box_own {β : Type} (B t C : Nat) (f : β → Value) : OwnFrom C (fun s W => Boxed W B t (f s)) := fun _ _ _ _ h hg hr => keep_cells hg hr h

theorem One.lt {n B : Nat} {l : List Nat} {W : World} (h : One n B l W) : B < W.heap.size := by obtain ⟨v, h1, _⟩ := h; exact h1.lt
theorem One.reads {n B : Nat} {l : List Nat} {W : World} (h : One n B l W) : ∃ ao cap, Boxed W B 22 (.slice ao l.length cap) ∧ Reads W ao l := by
  obtain ⟨v, h1, h2⟩ := h
  rcases h2.2 with ⟨rfl, h0⟩ | ⟨g, cap, cur, rfl, _⟩
  · exact ⟨none, 0, by rw [h0]; exact h1, fun k hk => by omega⟩
  · refine ⟨_, cap, h1, fun k hk => ⟨g, rfl, ?_⟩⟩
    have := h2.cells (g := g) rfl k (.int .i64 ((l.getD k 0 : Nat) : Int)) (by simp [intV, hk])
    rw [Addr.add_lit] at this
    simpa using this
theorem Two.fst {n B1 B2 : Nat} {l1 l2 : List Nat} {W : World} (h : Two n B1 B2 l1 l2 W) : One n B1 l1 W := by obtain ⟨v1, _, h1, h2, _⟩ := h; exact ⟨v1, h1, h2⟩
theorem Two.snd {n B1 B2 : Nat} {l1 l2 : List Nat} {W : World} (h : Two n B1 B2 l1 l2 W) : One n B2 l2 W := by obtain ⟨_, v2, _, _, h1, h2, _⟩ := h; exact ⟨v2, h1, h2⟩
theorem One.fr {S : List Nat} {n m B : Nat} {l : List Nat} {w W : World} (h : One n B l w) (hf : Fr S m w W) (hB : B < m) (hBS : B ∉ S) (hS : ∀ v g, Boxed w B 22 v → v.ownBlock = some g → g < m ∧ g ∉ S) : One n B l W := by
  obtain ⟨v, h1, h2⟩ := h
  exact ⟨v, hf.heap hB hBS h1, owns_cells h2 fun g cur e hc => hf.heap (hS v g h1 e).1 (hS v g h1 e).2 hc⟩

theorem two_fr {S : List Nat} {n m B1 B2 : Nat} {l1 l2 : List Nat} {w W : World} (h : Two n B1 B2 l1 l2 w) (hf : Fr S m w W) (h1 : B1 < m) (h2 : B2 < m) (h3 : B1 ∉ S) (h4 : B2 ∉ S) (hS : ∀ k ∈ S, k < n) (hm : w.heap.size ≤ m) : Two n B1 B2 l1 l2 W := by
  obtain ⟨v1, v2, q1, q2, q3, q4, q5⟩ := h
  have key : ∀ {v : Value} {j : Nat} {xs : List Value}, w.ownsRow n 3 1 v j xs → W.ownsRow n 3 1 v j xs := fun hr => owns_cells hr fun g cur e hc => by
    have a1 := row_ge hr g e
    have a2 := row_lt hr e
    exact hf.heap (by omega) (fun hg => by have := hS g hg; omega) hc
  exact ⟨v1, v2, hf.heap h1 h3 q1, key q2, hf.heap h2 h4 q3, key q4, q5⟩
theorem row_cap {W : World} {base e size m c : Nat} {a : Option Addr} {xs : List Value} (h : W.ownsRow base e size (.slice a m c) m xs) : m ≤ c := by
  rcases h.2 with ⟨h1, h2⟩ | ⟨g', cap, cur, hv, _, _, h3, _⟩
  · cases h1; omega
  · cases hv; exact h3
theorem row_reads {W : World} {base g c : Nat} {l : List Nat} (h : W.ownsRow base 3 1 (.slice (some ⟨g, 0, none⟩) l.length c) l.length (intV l)) : Reads W (some ⟨g, 0, none⟩) l := fun k hk => ⟨g, rfl, by
  have := h.cells (g := g) rfl k (.int .i64 ((l.getD k 0 : Nat) : Int)) (by simp [intV, hk])
  rw [Addr.add_lit] at this
  simpa using this⟩
theorem reads_take {W : World} {a : Option Addr} {l : List Nat} {s : Nat} (h : Reads W a l) : Reads W a (l.take s) := fun k hk => by
  rw [List.length_take] at hk
  obtain ⟨g, e, hc⟩ := h k (by omega)
  refine ⟨g, e, ?_⟩
  rw [hc]
  congr 3
  simp [List.getD_eq_getElem?_getD, show k < s by omega]
theorem set_own {β : Type} (b g c n C : Nat) : OwnFrom C (fun (_ : β) W => ∃ X, IsSet W b g c n X) := by
  rintro s A A' row ⟨X, h⟩ hg hr
  exact ⟨X, h.hn, h.hX, keep_cells hg hr h.blk, owns_cells h.own fun g' cur _ hc => keep_cells hg hr hc⟩
theorem set_grown {w w' : World} {b g cap n X q : Nat} (h : IsSet w b g cap n X) (hg : w.grownBy w' (some q)) (h1 : b ≠ q) (h2 : g ≠ q) : IsSet w' b g cap n X :=
  ⟨h.hn, h.hX, (hg.block b h.blt (fun e => h1 (by cases e; rfl))).trans h.blk, owns_cells h.own fun g' cur e hc => by
    obtain rfl : g = g' := by simpa [Value.ownBlock] using e
    exact (hg.block g h.glt (fun e => h2 (by cases e; rfl))).trans hc⟩
theorem rem_i (b g cap n X j : Nat) (i : Int) (hij : i = (j : Int)) (w : World) (hs : IsSet w b g cap n X) (hbg : b ≠ g) (l : Nat) {m : Nat} :
    CallsIn (Fence.wide.inRound l) m Tryd.prog 18 #[.pointer (some ⟨b, 0, none⟩), .int .i64 i] w fun e w' => ∃ (r : Int) (X' : Nat), e = .returned (.int .i64 r) ∧ IsSet w' b g cap n X' ∧ w.grownBy w' (some g) := by
  subst hij
  exact CallsIn.inRound l (callsIn_wide.2 (rem_some b g cap n X j w hs hbg))
theorem add_i (b g cap n X j : Nat) (i : Int) (hij : i = (j : Int)) (w : World) (hs : IsSet w b g cap n X) (hbg : b ≠ g) (l : Nat) {m : Nat} :
    CallsIn (Fence.wide.inRound l) m Tryd.prog 19 #[.pointer (some ⟨b, 0, none⟩), .int .i64 i] w fun e w' => ∃ (r : Int) (X' : Nat), e = .returned (.int .i64 r) ∧ IsSet w' b g cap n X' ∧ w.grownBy w' (some g) := by
  subst hij
  exact CallsIn.inRound l (callsIn_wide.2 (add_some b g cap n X j w hs hbg))
theorem set_upto {w w' : World} {B b g cap n X : Nat} (h : IsSet w b g cap n X) (hb : Below B w w') (h1 : b < B) (h2 : g < B) : IsSet w' b g cap n X :=
  ⟨h.hn, h.hX, (hb.block b h1).trans h.blk, owns_cells h.own fun g' cur e hc => by
    obtain rfl : g = g' := by simpa [Value.ownBlock] using e
    exact (hb.block g h2).trans hc⟩

/-- A loop over a set's numbers that runs out or is left by one break: both ways lead on alike. -/
theorem range_join {E : List Nat} {g : Operand} {ps : Array Tmp} {assign body : Code} {Q : Exit → Act → World → Prop} {a : Act} {w : World} {lb : Array Value} (id : Nat) (hg : a.eval g = .func (.func 47) #[] lb)
    (hseq : SeqStopsK Fence.wide (9 - 1) Tryd.prog 47 lb (fun x : El E => #[Value.int .i64 (x.1 : Int)]) (KpU w.heap.size) (fun ys => ys.map Subtype.val = E) (fun pre => pre.map Subtype.val <+: E) E.length w) (hpos : 0 < w.heap.size) (hps : 1 = ps.size)
    (I : List (El E) → World → Prop) (Ix : Code → List (El E) → World → Prop) (hI : OwnFrom w.heap.size I) (hIx : ∀ c, OwnFrom w.heap.size (Ix c)) (h0 : I [] w) (a₁ : El E → Act)
    (hassign : ∀ (l : Nat) (x : El E) (W : World) (K : Act → World → Prop), K (a₁ x) W → assign.wpIn (Fence.wide.inRound l) (9 - 1 - 1) Tryd.prog (Exit.then K (fun _ _ _ => False)) { tmps := (ps.zip #[Value.int .i64 (x.1 : Int)]).foldl (fun t (p, v) => t.setIfInBounds p v) a.tmps, defers := [] } W)
    (hbody : ∀ (l : Nat) (pre : List (El E)) (x : El E) (W : World), I pre W → pre.length < E.length → body.wpIn (Fence.wide.inRound l) (9 - 1 - 1) Tryd.prog (ownPostG w.heap.size (KpU w.heap.size) I Ix (pre ++ [x]) W) (a₁ x) W)
    (R : World → Prop) (h1 : ∀ xs W, xs.map Subtype.val = E → I xs W → R W) (h2 : ∀ c pre W, pre.map Subtype.val <+: E → Ix c pre W → c = .exit id ∧ R W)
    (hfin : ∀ (D : Nat) (W : World), w.heap.size ≤ D → R W → W.heap[D]? = some (.deferred (some [])) → Q .normal { a with defers := { target := .collected D, args := #[] } :: a.defers } W) :
    (Code.rangeFunc g ps assign body).wp Tryd.prog (Exit.inBlock id Q) a w := by
  refine (wpIn_wide (n := 9)).1 ?_
  refine wpIn_rangeFunc_ownG (F := Fence.wide) (n := 9) rfl (by omega) (gf := 47) (lb := lb) hg trivial (enters_of Tryd.func47 (by kernel_rfl) rfl) hseq KpU.trans (KpU.put hpos) (Below.refl _ _) (fun _ => hps) I Ix hI hIx h0 a₁ hassign hbody ?_ ?_
  · intro D xs W hD hS hIn hK
    exact hfin D W hD (h1 xs W hS hIn) hK
  · intro D c pre W hD hS hIn hK
    obtain ⟨rfl, hR⟩ := h2 c pre W hS hIn
    have h := hfin D W hD hR hK
    refine wpIn_exit ?_
    simp only [Exit.inBlock, if_true]
    exact h

/-- The numbers that came. -/
def vals {E : List Nat} (pre : List (El E)) : List Nat := pre.map Subtype.val
def lastV {E : List Nat} (q : List (El E)) : Nat := (q.getLast?.map Subtype.val).getD 0
theorem lastV_snoc {E : List Nat} (q : List (El E)) (y : El E) : lastV (q ++ [y]) = y.1 := by simp [lastV]
theorem first_ge {E : List Nat} (hs : E.Pairwise (· < ·)) {p : List (El E)} {x y : El E} (hp : (p ++ [y]).map Subtype.val <+: E) (hxy : x.1 ≤ y.1) (hall : ∀ z ∈ p, z.1 < x.1) : y = x := by
  obtain ⟨t, ht⟩ := hp
  have hx := x.2
  rw [← ht] at hs
  have hx' : x.1 ∈ (p ++ [y]).map Subtype.val ++ t := by rw [ht]; exact hx
  apply Subtype.ext
  rcases List.mem_append.1 hx' with h | h
  · obtain ⟨z, hz, e⟩ := List.mem_map.1 h
    rcases List.mem_append.1 hz with h1 | h1
    · have := hall z h1
      omega
    · simp at h1
      subst h1
      exact e
  · have := (List.pairwise_append.1 hs).2.2 y.1 (by simp) x.1 h
    omega
theorem vals_nil {E : List Nat} : vals ([] : List (El E)) = [] := rfl
theorem vals_snoc {E : List Nat} (pre : List (El E)) (x : El E) : vals (pre ++ [x]) = vals pre ++ [x.1] := by simp [vals]
theorem vals_len {E : List Nat} (pre : List (El E)) : (vals pre).length = pre.length := by simp [vals]
theorem vals_all {E : List Nat} {xs : List (El E)} (h : vals xs = E) : xs.length = E.length := by
  have h1 := vals_len xs
  have h2 := congrArg List.length h
  omega
theorem take_pre {L E : List Nat} {m : Nat} (h : L <+: E) (hl : L.length = m + 1) : m < E.length ∧ E.take m = L.dropLast := by
  obtain ⟨t, rfl⟩ := h
  refine ⟨by simp; omega, ?_⟩
  rw [List.take_append_of_le_length (by omega), List.dropLast_eq_take]
  congr 1
  omega
theorem intV_snoc (l : List Nat) (x : Nat) : intV l ++ [.int .i64 (x : Int)] = intV (l ++ [x]) := by simp [intV]
end Go.Proofs.YtdgmokelmocejaaDoor
