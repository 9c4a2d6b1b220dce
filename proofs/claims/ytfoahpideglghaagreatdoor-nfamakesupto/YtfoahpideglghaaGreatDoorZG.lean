import Derived.Test.YtfoahpideglghaaGreatDoorZE
import Derived.Test.YtfoahpideglghaaGreatDoorBW
import Derived.Test.YtfoahpideglghaaGreatDoorUn
namespace Go.Proofs.YtfoahpideglghaaGreatDoor
open Go.RowKit Go.Maps Go.Shelf
attribute [local go_sem] Oper.semAt_some

/-! ### The document's Union -/
theorem own_not {W : World} {B n sz p : Nat} {e t : TypeId} {v : Value} {xs : List Value} {cs : Array Value} {fr : Nat × Nat} (h : W.ownsRow B e sz v n xs) (hv : v.ownBlock = some p) (z : W.heap[p]? = some (.cells cs t fr)) (ne : e ≠ t) : False := by
  rcases h.2 with ⟨h1, _⟩ | ⟨g, cap, cur, h1, hb, hg, rest⟩
  · rw [h1] at hv; cases hv
  · rw [h1] at hv
    have hv2 : some g = some p := hv
    injection hv2 with hv2
    rw [hv2, z] at hg
    injection hg with hg
    injection hg with _ h2 _
    exact ne h2.symm
theorem own_twice {W : World} {B C n m sz sy g : Nat} {e t : TypeId} {v u : Value} {xs ys : List Value} (h : W.ownsRow B e sz v n xs) (hv : v.ownBlock = some g) (k : W.ownsRow C t sy u m ys) (hu : u.ownBlock = some g) (ne : e ≠ t) : False := by
  rcases k.2 with ⟨h1, _⟩ | ⟨g', cap, cur, h1, hb, hg, rest⟩
  · rw [h1] at hu; cases hu
  · rw [h1] at hu
    have hu2 : some g' = some g := hu
    injection hu2 with hu2
    rw [hu2] at hg
    exact own_not h hv hg ne
/-- What the document's Union holds of what it makes: a box, three rows; what was there is as it was but for R. -/
structure UX (wl : World) (R : Nat → Prop) (B p : Nat) (N m : Int) (v1 v2 v3 : Value) (X1 X2 : List Int) (X3 : List EdT) (w : World) : Prop where
  box : w.heap[p]? = some (.cells #[.int .i64 N, .int .i64 m, v1, v2, v3] 25 (0, 0))
  own : OwnO B w v1 v2 v3 X1 X2 X3
  only : Only wl w R
  r1 : ∀ k, v1.ownBlock = some k → R k ∨ wl.heap.size ≤ k
  r2 : ∀ k, v2.ownBlock = some k → R k ∨ wl.heap.size ≤ k
  r3 : ∀ k, v3.ownBlock = some k → R k ∨ wl.heap.size ≤ k
  rp : R p
theorem UX.on {wl : World} {R : Nat → Prop} {B p : Nat} {N m : Int} {v1 v2 v3 : Value} {X1 X2 : List Int} {X3 : List EdT} {w w' : World} (h : UX wl R B p N m v1 v2 v3 X1 X2 X3 w) (d : Below w.heap.size w w') : UX wl R B p N m v1 v2 v3 X1 X2 X3 w' := ⟨blk_on h.box d, h.own.on d, h.only.trans (Only.ofBelow d), h.r1, h.r2, h.r3, h.rp⟩
theorem UX.app1 {wl : World} {R : Nat → Prop} {B p : Nat} {N m : Int} {v1 v2 v3 v1' : Value} {X1 X2 : List Int} {X3 : List EdT} {X1' : List Int} {W w' : World} (h : UX wl R B p N m v1 v2 v3 X1 X2 X3 W) (ho : w'.ownsRow B 3 1 v1' X1'.length (X1'.map (Value.int .i64))) (hg : W.grownBy w' v1.ownBlock) (hl : v1'.ownBlock = v1.ownBlock ∨ v1'.ownBlock = some W.heap.size) : UX wl R B p N m v1' v2 v3 X1' X2 X3 (w'.setCell ⟨p, 2, none⟩ v1') := by
  have hpl : p < W.heap.size := (Array.getElem?_eq_some_iff.1 h.box).1
  have hpn : some p ≠ v1.ownBlock := fun e => own_not h.own.s e.symm h.box (by decide)
  have hbox : w'.heap[p]? = some (.cells #[.int .i64 N, .int .i64 m, v1, v2, v3] 25 (0, 0)) := (hg.block p hpl hpn).trans h.box
  have o2 := only_set w' p 2 v1'
  have gw : Only W w' (fun k => v1.ownBlock = some k) := ⟨hg.os, hg.tape, hg.output, hg.size, fun k hk hn => hg.block k hk (fun e => hn e.symm)⟩
  have hsz := h.only.size
  have hnew : ∀ g, v1'.ownBlock = some g → v1.ownBlock = some g ∨ g = W.heap.size := fun g hg2 => by
    rcases hl with e | e
    · exact Or.inl (e.symm.trans hg2)
    · rw [hg2] at e; cases e; exact Or.inr rfl
  exact ⟨heap_setCell_same _ _ 2 _ 25 _ hbox, ⟨own_keep ho hbox (by decide) o2, own_keep (row_only h.own.f gw (fun g hg2 e => h.own.ne g e hg2)) hbox (by decide) o2, own_keep (row_only h.own.e gw (fun g hg2 e => own_twice h.own.e hg2 h.own.s e (by decide))) hbox (by decide) o2, fun g h1 h2 => by
      rcases hnew g h1 with e | e
      · exact h.own.ne g e h2
      · have := (h.own.f.lt g h2).2; omega⟩, (h.only.andNew gw (fun g hi e => (h.r1 g e).resolve_right (by omega))).andNew o2 (fun g _ e => by rw [e]; exact h.rp), fun g h1 => by
      rcases hnew g h1 with e | e
      · exact h.r1 g e
      · exact Or.inr (by omega), h.r2, h.r3, h.rp⟩
theorem UX.app2 {wl : World} {R : Nat → Prop} {B p : Nat} {N m : Int} {v1 v2 v3 v2' : Value} {X1 X2 : List Int} {X3 : List EdT} {X2' : List Int} {W w' : World} (h : UX wl R B p N m v1 v2 v3 X1 X2 X3 W) (ho : w'.ownsRow B 3 1 v2' X2'.length (X2'.map (Value.int .i64))) (hg : W.grownBy w' v2.ownBlock) (hl : v2'.ownBlock = v2.ownBlock ∨ v2'.ownBlock = some W.heap.size) : UX wl R B p N m v1 v2' v3 X1 X2' X3 (w'.setCell ⟨p, 3, none⟩ v2') := by
  have hpl : p < W.heap.size := (Array.getElem?_eq_some_iff.1 h.box).1
  have hpn : some p ≠ v2.ownBlock := fun e => own_not h.own.f e.symm h.box (by decide)
  have hbox : w'.heap[p]? = some (.cells #[.int .i64 N, .int .i64 m, v1, v2, v3] 25 (0, 0)) := (hg.block p hpl hpn).trans h.box
  have o2 := only_set w' p 3 v2'
  have gw : Only W w' (fun k => v2.ownBlock = some k) := ⟨hg.os, hg.tape, hg.output, hg.size, fun k hk hn => hg.block k hk (fun e => hn e.symm)⟩
  have hsz := h.only.size
  have hnew : ∀ g, v2'.ownBlock = some g → v2.ownBlock = some g ∨ g = W.heap.size := fun g hg2 => by
    rcases hl with e | e
    · exact Or.inl (e.symm.trans hg2)
    · rw [hg2] at e; cases e; exact Or.inr rfl
  exact ⟨heap_setCell_same _ _ 3 _ 25 _ hbox, ⟨own_keep (row_only h.own.s gw (fun g hg2 e => h.own.ne g hg2 e)) hbox (by decide) o2, own_keep ho hbox (by decide) o2, own_keep (row_only h.own.e gw (fun g hg2 e => own_twice h.own.e hg2 h.own.f e (by decide))) hbox (by decide) o2, fun g h1 h2 => by
      rcases hnew g h2 with e | e
      · exact h.own.ne g h1 e
      · have := (h.own.s.lt g h1).2; omega⟩, (h.only.andNew gw (fun g hi e => (h.r2 g e).resolve_right (by omega))).andNew o2 (fun g _ e => by rw [e]; exact h.rp), h.r1, fun g h1 => by
      rcases hnew g h1 with e | e
      · exact h.r2 g e
      · exact Or.inr (by omega), h.r3, h.rp⟩
theorem UX.app3 {wl : World} {R : Nat → Prop} {B p : Nat} {N m : Int} {v1 v2 v3 v3' : Value} {X1 X2 : List Int} {X3 : List EdT} {X3' : List EdT} {W w' : World} (h : UX wl R B p N m v1 v2 v3 X1 X2 X3 W) (ho : w'.ownsRow B 59 3 v3' X3'.length (X3'.flatMap encE)) (hg : W.grownBy w' v3.ownBlock) (hl : v3'.ownBlock = v3.ownBlock ∨ v3'.ownBlock = some W.heap.size) : UX wl R B p N m v1 v2 v3' X1 X2 X3' (w'.setCell ⟨p, 4, none⟩ v3') := by
  have hpl : p < W.heap.size := (Array.getElem?_eq_some_iff.1 h.box).1
  have hpn : some p ≠ v3.ownBlock := fun e => own_not h.own.e e.symm h.box (by decide)
  have hbox : w'.heap[p]? = some (.cells #[.int .i64 N, .int .i64 m, v1, v2, v3] 25 (0, 0)) := (hg.block p hpl hpn).trans h.box
  have o2 := only_set w' p 4 v3'
  have gw : Only W w' (fun k => v3.ownBlock = some k) := ⟨hg.os, hg.tape, hg.output, hg.size, fun k hk hn => hg.block k hk (fun e => hn e.symm)⟩
  have hsz := h.only.size
  have hnew : ∀ g, v3'.ownBlock = some g → v3.ownBlock = some g ∨ g = W.heap.size := fun g hg2 => by
    rcases hl with e | e
    · exact Or.inl (e.symm.trans hg2)
    · rw [hg2] at e; cases e; exact Or.inr rfl
  exact ⟨heap_setCell_same _ _ 4 _ 25 _ hbox, ⟨own_keep (row_only h.own.s gw (fun g hg2 e => own_twice h.own.s hg2 h.own.e e (by decide))) hbox (by decide) o2, own_keep (row_only h.own.f gw (fun g hg2 e => own_twice h.own.f hg2 h.own.e e (by decide))) hbox (by decide) o2, own_keep ho hbox (by decide) o2, h.own.ne⟩, (h.only.andNew gw (fun g hi e => (h.r3 g e).resolve_right (by omega))).andNew o2 (fun g _ e => by rw [e]; exact h.rp), h.r1, h.r2, fun g h1 => by
      rcases hnew g h1 with e | e
      · exact h.r3 g e
      · exact Or.inr (by omega), h.rp⟩
end Go.Proofs.YtfoahpideglghaaGreatDoor
namespace Go.Proofs.YtfoahpideglghaaGreatDoor
open Go.RowKit Go.Maps Go.Shelf
attribute [local go_sem] Oper.semAt_some

/-! ### The document's Union: errors -/
/-- A number behind a row of one's own, and where it lies then. -/
theorem wpList_appg3 {ops : Array Oper} {rest : List Oper} {o : Oper} {a : Act} {Q : Exit → Act → World → Prop} {w : World} (hgd : o.guard = none) (s x : Operand)
    (ho : o.op = .call { callee := .builtin .append, args := #[s, x], argTypes := #[22, 22] }) (B : Nat) (v : Value) (X : List Int) (hs : a.eval s = v) (hown : w.ownsRow B 3 1 v X.length (X.map (Value.int .i64))) (p : Nat) (y : Int) (hx : a.eval x = .slice (some ⟨p, 0, none⟩) 1 1) (hp : w.heap[p]? = some (.cells #[.int .i64 y] 3 (0, 0))) (hl : X.length ≤ 16777216) (hB : B ≤ w.heap.size)
    (h : ∀ v' w', Hid (w'.ownsRow B 3 1 v' (X ++ [y]).length ((X ++ [y]).map (Value.int .i64))) → w.grownBy w' v.ownBlock → (v'.ownBlock = v.ownBlock ∨ v'.ownBlock = some w.heap.size) → wpList Tryz.prog ops Q rest (a.put o.dst v') w') : wpList Tryz.prog ops Q (o :: rest) a w := by
  obtain ⟨i3, hi3, hz30, hz31, hz32⟩ := info_parts info3
  refine wpList_append_own_at _ hgd s x 22 ho B 3 i3 _ 1 8 Tryz.underlying22 hi3 hz30 hz31 hz32 rfl (by omega) v X.length (X.map (Value.int .i64)) hs hown ⟨p, 0, none⟩ 1 1 [.int .i64 y] hx rfl (one_cells hp) (by simp [Value.oneCell']) (by unfold maxLen; omega) (by omega) hB ?_
  intro v2 w2 h2 hgr _ hlo
  exact h v2 w2 (hide (by rw [List.map_append, List.length_append]; exact h2)) hgr hlo
/-- An edge behind a row of one's own, and where it lies then. -/
theorem wpList_appg59 {ops : Array Oper} {rest : List Oper} {o : Oper} {a : Act} {Q : Exit → Act → World → Prop} {w : World} (hgd : o.guard = none) (s x : Operand)
    (ho : o.op = .call { callee := .builtin .append, args := #[s, x], argTypes := #[23, 23] }) (B : Nat) (v : Value) (X : List EdT) (hs : a.eval s = v) (hown : w.ownsRow B 59 3 v X.length (X.flatMap encE)) (p : Nat) (y : EdT) (hx : a.eval x = .slice (some ⟨p, 0, none⟩) 1 1) (hp : w.heap[p]? = some (.cells #[.int .i64 y.1, .int .i64 y.2.1, .int .i64 y.2.2] 59 (0, 0))) (hl : X.length ≤ 16777216) (hB : B ≤ w.heap.size)
    (h : ∀ v' w', Hid (w'.ownsRow B 59 3 v' (X ++ [y]).length ((X ++ [y]).flatMap encE)) → w.grownBy w' v.ownBlock → (v'.ownBlock = v.ownBlock ∨ v'.ownBlock = some w.heap.size) → wpList Tryz.prog ops Q rest (a.put o.dst v') w') : wpList Tryz.prog ops Q (o :: rest) a w := by
  obtain ⟨i3, hi3, hz30, hz31, hz32⟩ := info_parts info59
  refine wpList_append_own_at _ hgd s x 23 ho B 59 i3 _ 3 24 Tryz.underlying23 hi3 hz30 hz31 hz32 rfl (by omega) v X.length (X.flatMap encE) hs hown ⟨p, 0, none⟩ 1 1 (encE y) hx rfl (three_cells hp) (by simp [encE, Value.oneCell']) (by unfold maxLen; omega) (by omega) hB ?_
  intro v2 w2 h2 hgr _ hlo
  exact h v2 w2 (hide (by rw [List.flatMap_append, List.length_append]; simpa using h2)) hgr hlo
/-- A row of one number, made anew. -/
def oneQ (v : Value) : MkP := fun x lo hi W => x = .slice (some ⟨lo, 0, none⟩) 1 1 ∧ lo < hi ∧ W.heap[lo]? = some (.cells #[v] 3 (0, 0))
theorem oneQ_mono {v : Value} : MonoP (oneQ v) := fun _ _ _ _ _ hs d ⟨e, l, z⟩ => ⟨e, l, (d.block _ (by omega)).trans z⟩
theorem rnormal_gen (w : World) (n m : Int) (a1 a2 a3 : Option Addr) (c1 c2 c3 : Nat) (St Fi : List Int) (Ed : List EdT) (hA : Hid (RdA w a1 a2 a3 St Fi Ed)) (h1 : St.length ≤ 4194304) (h2 : Fi.length ≤ 4194304) (h3 : Ed.length ≤ 4194304) (hc : Ed.length ≤ c3) (r : Int) (hr : (if mayA n m St Fi Ed then (0 : Int) else 2) = r) :
    Calls Tryz.prog 32 #[.agg #[.int .i64 n, .int .i64 m, .slice a1 St.length c1, .slice a2 Fi.length c2, .slice a3 Ed.length c3]] w fun e w' => ∃ pa qa x1 i1 k1 x2 i2 k2 x3 i3 k3, e = .returned (.tuple #[.agg #[.int .i64 pa, .int .i64 qa, .slice x1 i1 k1, .slice x2 i2 k2, .slice x3 i3 k3], .int .i64 r]) ∧ Below w.heap.size w w' := by
  cases em : mayA n m St Fi Ed with
  | true =>
    rw [em] at hr
    obtain rfl : (0 : Int) = r := hr
    refine (rnormal_ok w n m a1 a2 a3 c1 c2 c3 St Fi Ed hA h1 h2 h3 hc em).mono ?_
    rintro e w' ⟨b1, k1, b2, k2, b3, k3, he, _, d⟩
    exact ⟨_, _, _, _, _, _, _, _, _, _, _, he, d⟩
  | false =>
    rw [em] at hr
    obtain rfl : (2 : Int) = r := hr
    refine (rnormal_bad w n m a1 a2 a3 c1 c2 c3 St Fi Ed hA h1 h2 h3 em).mono ?_
    rintro e w' ⟨he, d⟩
    exact ⟨_, _, _, _, _, _, _, _, _, _, _, he, d⟩
set_option maxRecDepth 100000 in
set_option maxHeartbeats 4000000 in
theorem runion_bad2 (w : World) (n m n' m' : Int) (a1 a2 a3 b1 b2 b3 : Option Addr) (c1 c2 c3 d1 d2 d3 : Nat) (St Fi : List Int) (Ed : List EdT) (St' Fi' : List Int) (Ed' : List EdT) (hA : Hid (RdA w a1 a2 a3 St Fi Ed)) (hB : Hid (RdA w b1 b2 b3 St' Fi' Ed')) (h1 : St.length ≤ 4194304) (h2 : Fi.length ≤ 4194304) (h3 : Ed.length ≤ 4194304) (h4 : St'.length ≤ 4194304) (h5 : Fi'.length ≤ 4194304) (h6 : Ed'.length ≤ 4194304) (hc : Ed.length ≤ c3) (hc' : Ed'.length ≤ d3) (em : mayA n m St Fi Ed = false ∨ mayA n' m' St' Fi' Ed' = false) :
    Calls Tryz.prog 35 #[.agg #[.int .i64 n, .int .i64 m, .slice a1 St.length c1, .slice a2 Fi.length c2, .slice a3 Ed.length c3], .agg #[.int .i64 n', .int .i64 m', .slice b1 St'.length d1, .slice b2 Fi'.length d2, .slice b3 Ed'.length d3]] w fun e w' => e = .returned (.tuple #[.agg #[.int .i64 0, .int .i64 0, .slice none 0 0, .slice none 0 0, .slice none 0 0], .int .i64 2]) ∧ Below w.heap.size w w' := by
  have HD := hide (box3z w #[.int .i64 n, .int .i64 m, .slice a1 St.length c1, .slice a2 Fi.length c2, .slice a3 Ed.length c3] #[.int .i64 n', .int .i64 m', .slice b1 St'.length d1, .slice b2 Fi'.length d2, .slice b3 Ed'.length d3] #[.int .i64 0, .int .i64 0, .slice none 0 0, .slice none 0 0, .slice none 0 0] 25)
  obtain ⟨W0, hW0⟩ : ∃ W0, ((w.alloc (.cells #[.int .i64 n, .int .i64 m, .slice a1 St.length c1, .slice a2 Fi.length c2, .slice a3 Ed.length c3] 25)).alloc (.cells #[.int .i64 n', .int .i64 m', .slice b1 St'.length d1, .slice b2 Fi'.length d2, .slice b3 Ed'.length d3] 25)).alloc (.cells #[.int .i64 0, .int .i64 0, .slice none 0 0, .slice none 0 0, .slice none 0 0] 25) = W0 := ⟨_, rfl⟩
  rw [hW0] at HD
  have SK : Hid (∀ W, Below W0.heap.size W0 W → W.cell? ⟨w.heap.size, 0, none⟩ = some (.int .i64 n) ∧ W.cell? ⟨w.heap.size, 1, none⟩ = some (.int .i64 m) ∧ W.cell? ⟨w.heap.size, 2, none⟩ = some (.slice a1 St.length c1) ∧ W.cell? ⟨w.heap.size, 3, none⟩ = some (.slice a2 Fi.length c2) ∧ W.cell? ⟨w.heap.size, 4, none⟩ = some (.slice a3 Ed.length c3) ∧ W.cell? ⟨w.heap.size + 1, 0, none⟩ = some (.int .i64 n') ∧ W.cell? ⟨w.heap.size + 1, 1, none⟩ = some (.int .i64 m') ∧ W.cell? ⟨w.heap.size + 1, 2, none⟩ = some (.slice b1 St'.length d1) ∧ W.cell? ⟨w.heap.size + 1, 3, none⟩ = some (.slice b2 Fi'.length d2) ∧ W.cell? ⟨w.heap.size + 1, 4, none⟩ = some (.slice b3 Ed'.length d3)) := hide (fun W d => by
    have e := blk_on HD.out.2.1 d
    have f := blk_on HD.out.2.2.1 d
    exact ⟨cell_of e rfl, cell_of e rfl, cell_of e rfl, cell_of e rfl, cell_of e rfl, cell_of f rfl, cell_of f rfl, cell_of f rfl, cell_of f rfl, cell_of f rfl⟩)
  obtain ⟨r1, hr1⟩ : ∃ r : Int, (if mayA n m St Fi Ed then (0 : Int) else 2) = r := ⟨_, rfl⟩
  obtain ⟨r2, hr2⟩ : ∃ r : Int, (if mayA n' m' St' Fi' Ed' then (0 : Int) else 2) = r := ⟨_, rfl⟩
  have HR : r1 = 2 ∨ (r1 = 0 ∧ r2 = 2) := by
    cases ea : mayA n m St Fi Ed with
    | false => rw [ea] at hr1; exact Or.inl hr1.symm
    | true =>
      rw [ea] at hr1 em
      rcases em with em | em
      · cases em
      · rw [em] at hr2; exact Or.inr ⟨hr1.symm, hr2.symm⟩
  have TA := rnormal_gen W0 n m a1 a2 a3 c1 c2 c3 St Fi Ed (hide (hA.out.on HD.out.1)) h1 h2 h3 hc r1 hr1
  have TB : Hid (∀ W, Below W0.heap.size W0 W → Calls Tryz.prog 32 #[.agg #[.int .i64 n', .int .i64 m', .slice b1 St'.length d1, .slice b2 Fi'.length d2, .slice b3 Ed'.length d3]] W fun e w' => ∃ pb qb y1 j1 l1 y2 j2 l2 y3 j3 l3, e = .returned (.tuple #[.agg #[.int .i64 pb, .int .i64 qb, .slice y1 j1 l1, .slice y2 j2 l2, .slice y3 j3 l3], .int .i64 r2]) ∧ Below W.heap.size W w') := hide (fun W d => rnormal_gen W n' m' b1 b2 b3 d1 d2 d3 St' Fi' Ed' (hide ((hB.out.on HD.out.1).on d)) h4 h5 h6 hc' r2 hr2)
  clear em hr1 hr2
  obtain ⟨y0, y1, y2, y3, y4, z0, z1, z2, z3, z4⟩ := SK.out W0 (Below.refl _ _)
  go_enter Tryz.func35, Tryz.ntmps35
  go_upto_region 2 with (go_at_call 32; refine TA.mono ?_; rintro e wa ⟨pa, qa, x1, i1, k1, x2, i2, k2, x3, i3, k3, rfl, D1⟩)
  obtain ⟨wx, hwx⟩ : ∃ X, wa.alloc (.cells #[.int .i64 pa, .int .i64 qa, .slice x1 i1 k1, .slice x2 i2 k2, .slice x3 i3 k3] 25) = X := ⟨_, rfl⟩
  rw [hwx]
  have DX : Hid (Below W0.heap.size W0 wx) := hide (by rw [← hwx]; exact D1.alloc D1.size _)
  clear y0 y1 y2 y3 y4 z0 z1 z2 z3 z4 D1 TA
  obtain ⟨y0, y1, y2, y3, y4, z0, z1, z2, z3, z4⟩ := SK.out wx DX.out
  have T2 := TB.out wx DX.out
  clear TB
  go_upto_region 3 with (go_at_call 32; refine T2.mono ?_; rintro e wb ⟨pb, qb, y1, j1, l1, y2, j2, l2, y3, j3, l3, rfl, D2⟩)
  obtain ⟨wy, hwy⟩ : ∃ X, wb.alloc (.cells #[.int .i64 pb, .int .i64 qb, .slice y1 j1 l1, .slice y2 j2 l2, .slice y3 j3 l3] 25) = X := ⟨_, rfl⟩
  rw [hwy]
  have DY : Hid (Below W0.heap.size W0 wy) := hide (by rw [← hwy]; exact (DX.out.trans (D2.mono DX.out.size)).alloc (Nat.le_trans DX.out.size D2.size) _)
  clear D2 T2
  rcases HR with rfl | ⟨rfl, rfl⟩
  · go_upto_region 4 with fail
    have F3 := blk_on HD.out.2.2.2.1 DY.out
    have o0 : wy.cell? ⟨w.heap.size + 1 + 1, 0, none⟩ = some (.int .i64 0) := cell_of F3 rfl
    have g0 : wy.frozen? ⟨w.heap.size + 1 + 1, 0, none⟩ = false := fz_of F3
    have o1 : wy.cell? ⟨w.heap.size + 1 + 1, 1, none⟩ = some (.int .i64 0) := cell_of F3 rfl
    have g1 : wy.frozen? ⟨w.heap.size + 1 + 1, 1, none⟩ = false := fz_of F3
    have o2 : wy.cell? ⟨w.heap.size + 1 + 1, 2, none⟩ = some (.slice none 0 0) := cell_of F3 rfl
    have g2 : wy.frozen? ⟨w.heap.size + 1 + 1, 2, none⟩ = false := fz_of F3
    have o3 : wy.cell? ⟨w.heap.size + 1 + 1, 3, none⟩ = some (.slice none 0 0) := cell_of F3 rfl
    have g3 : wy.frozen? ⟨w.heap.size + 1 + 1, 3, none⟩ = false := fz_of F3
    have o4 : wy.cell? ⟨w.heap.size + 1 + 1, 4, none⟩ = some (.slice none 0 0) := cell_of F3 rfl
    have g4 : wy.frozen? ⟨w.heap.size + 1 + 1, 4, none⟩ = false := fz_of F3
    have O6 := hide (And.intro (set5 wy (w.heap.size + 1 + 1) _ _ _ _ _ (.int .i64 0) (.int .i64 0) (.slice none 0 0) (.slice none 0 0) (.slice none 0 0) 25 F3) (only5 wy (w.heap.size + 1 + 1) (.int .i64 0) (.int .i64 0) (.slice none 0 0) (.slice none 0 0) (.slice none 0 0)))
    clear F3
    go_wp2_with fail
    refine bodyPost_ret (results_c1 (p := 4) (q := 5) (ty := 25) rfl _ _ (w.heap.size + 1 + 1) 25 _ (0, 0) _ _ rfl rfl O6.out.1 Tryz.underlying25 rfl (by kernel_rfl)) rfl ?_
    have s0 := HD.out.2.2.2.2
    have s1 := DY.out.size
    exact ⟨rfl, (HD.out.1.trans (DY.out.mono (by omega))).trans (O6.out.2.toBelow (by omega) (fun k hk => by omega))⟩
  · go_upto_region 4 with fail
    have F3 := blk_on HD.out.2.2.2.1 DY.out
    have o0 : wy.cell? ⟨w.heap.size + 1 + 1, 0, none⟩ = some (.int .i64 0) := cell_of F3 rfl
    have g0 : wy.frozen? ⟨w.heap.size + 1 + 1, 0, none⟩ = false := fz_of F3
    have o1 : wy.cell? ⟨w.heap.size + 1 + 1, 1, none⟩ = some (.int .i64 0) := cell_of F3 rfl
    have g1 : wy.frozen? ⟨w.heap.size + 1 + 1, 1, none⟩ = false := fz_of F3
    have o2 : wy.cell? ⟨w.heap.size + 1 + 1, 2, none⟩ = some (.slice none 0 0) := cell_of F3 rfl
    have g2 : wy.frozen? ⟨w.heap.size + 1 + 1, 2, none⟩ = false := fz_of F3
    have o3 : wy.cell? ⟨w.heap.size + 1 + 1, 3, none⟩ = some (.slice none 0 0) := cell_of F3 rfl
    have g3 : wy.frozen? ⟨w.heap.size + 1 + 1, 3, none⟩ = false := fz_of F3
    have o4 : wy.cell? ⟨w.heap.size + 1 + 1, 4, none⟩ = some (.slice none 0 0) := cell_of F3 rfl
    have g4 : wy.frozen? ⟨w.heap.size + 1 + 1, 4, none⟩ = false := fz_of F3
    have O6 := hide (And.intro (set5 wy (w.heap.size + 1 + 1) _ _ _ _ _ (.int .i64 0) (.int .i64 0) (.slice none 0 0) (.slice none 0 0) (.slice none 0 0) 25 F3) (only5 wy (w.heap.size + 1 + 1) (.int .i64 0) (.int .i64 0) (.slice none 0 0) (.slice none 0 0) (.slice none 0 0)))
    clear F3
    go_wp2_with fail
    refine bodyPost_ret (results_c1 (p := 4) (q := 5) (ty := 25) rfl _ _ (w.heap.size + 1 + 1) 25 _ (0, 0) _ _ rfl rfl O6.out.1 Tryz.underlying25 rfl (by kernel_rfl)) rfl ?_
    have s0 := HD.out.2.2.2.2
    have s1 := DY.out.size
    exact ⟨rfl, (HD.out.1.trans (DY.out.mono (by omega))).trans (O6.out.2.toBelow (by omega) (fun k hk => by omega))⟩
set_option maxRecDepth 100000 in
set_option maxHeartbeats 4000000 in
theorem runion_bad (w : World) (n m n' m' : Int) (a1 a2 a3 b1 b2 b3 : Option Addr) (c1 c2 c3 d1 d2 d3 : Nat) (St Fi : List Int) (Ed : List EdT) (St' Fi' : List Int) (Ed' : List EdT) (hA : Hid (RdA w a1 a2 a3 St Fi Ed)) (hB : Hid (RdA w b1 b2 b3 St' Fi' Ed')) (h1 : St.length ≤ 4194304) (h2 : Fi.length ≤ 4194304) (h3 : Ed.length ≤ 4194304) (h4 : St'.length ≤ 4194304) (h5 : Fi'.length ≤ 4194304) (h6 : Ed'.length ≤ 4194304) (hc : Ed.length ≤ c3) (hc' : Ed'.length ≤ d3) (ea : mayA n m St Fi Ed = true) (eb : mayA n' m' St' Fi' Ed' = true) (er : Int) (her : (m ≠ m' ∧ er = 6) ∨ (m = m' ∧ (4096 < n + n' ∨ 65536 < (riseE Ed).length + (riseE Ed').length) ∧ er = 8)) :
    Calls Tryz.prog 35 #[.agg #[.int .i64 n, .int .i64 m, .slice a1 St.length c1, .slice a2 Fi.length c2, .slice a3 Ed.length c3], .agg #[.int .i64 n', .int .i64 m', .slice b1 St'.length d1, .slice b2 Fi'.length d2, .slice b3 Ed'.length d3]] w fun e w' => e = .returned (.tuple #[.agg #[.int .i64 0, .int .i64 0, .slice none 0 0, .slice none 0 0, .slice none 0 0], .int .i64 er]) ∧ Below w.heap.size w w' := by
  have HD := hide (box3z w #[.int .i64 n, .int .i64 m, .slice a1 St.length c1, .slice a2 Fi.length c2, .slice a3 Ed.length c3] #[.int .i64 n', .int .i64 m', .slice b1 St'.length d1, .slice b2 Fi'.length d2, .slice b3 Ed'.length d3] #[.int .i64 0, .int .i64 0, .slice none 0 0, .slice none 0 0, .slice none 0 0] 25)
  obtain ⟨W0, hW0⟩ : ∃ W0, ((w.alloc (.cells #[.int .i64 n, .int .i64 m, .slice a1 St.length c1, .slice a2 Fi.length c2, .slice a3 Ed.length c3] 25)).alloc (.cells #[.int .i64 n', .int .i64 m', .slice b1 St'.length d1, .slice b2 Fi'.length d2, .slice b3 Ed'.length d3] 25)).alloc (.cells #[.int .i64 0, .int .i64 0, .slice none 0 0, .slice none 0 0, .slice none 0 0] 25) = W0 := ⟨_, rfl⟩
  rw [hW0] at HD
  have SK : Hid (∀ W, Below W0.heap.size W0 W → W.cell? ⟨w.heap.size, 0, none⟩ = some (.int .i64 n) ∧ W.cell? ⟨w.heap.size, 1, none⟩ = some (.int .i64 m) ∧ W.cell? ⟨w.heap.size, 2, none⟩ = some (.slice a1 St.length c1) ∧ W.cell? ⟨w.heap.size, 3, none⟩ = some (.slice a2 Fi.length c2) ∧ W.cell? ⟨w.heap.size, 4, none⟩ = some (.slice a3 Ed.length c3) ∧ W.cell? ⟨w.heap.size + 1, 0, none⟩ = some (.int .i64 n') ∧ W.cell? ⟨w.heap.size + 1, 1, none⟩ = some (.int .i64 m') ∧ W.cell? ⟨w.heap.size + 1, 2, none⟩ = some (.slice b1 St'.length d1) ∧ W.cell? ⟨w.heap.size + 1, 3, none⟩ = some (.slice b2 Fi'.length d2) ∧ W.cell? ⟨w.heap.size + 1, 4, none⟩ = some (.slice b3 Ed'.length d3)) := hide (fun W d => by
    have e := blk_on HD.out.2.1 d
    have f := blk_on HD.out.2.2.1 d
    exact ⟨cell_of e rfl, cell_of e rfl, cell_of e rfl, cell_of e rfl, cell_of e rfl, cell_of f rfl, cell_of f rfl, cell_of f rfl, cell_of f rfl, cell_of f rfl⟩)
  have TA := rnormal_ok W0 n m a1 a2 a3 c1 c2 c3 St Fi Ed (hide (hA.out.on HD.out.1)) h1 h2 h3 hc ea
  have TB : Hid (∀ W, Below W0.heap.size W0 W → Calls Tryz.prog 32 #[.agg #[.int .i64 n', .int .i64 m', .slice b1 St'.length d1, .slice b2 Fi'.length d2, .slice b3 Ed'.length d3]] W fun e w' => ∃ b1 k1 b2 k2 b3 k3, e = .returned (.tuple #[.agg #[.int .i64 n', .int .i64 m', .slice b1 (riseL St').length k1, .slice b2 (riseL Fi').length k2, .slice b3 (riseE Ed').length k3], .int .i64 0]) ∧ Hid (OwnO W.heap.size w' (.slice b1 (riseL St').length k1) (.slice b2 (riseL Fi').length k2) (.slice b3 (riseE Ed').length k3) (riseL St') (riseL Fi') (riseE Ed')) ∧ Below W.heap.size W w') := hide (fun W d => rnormal_ok W n' m' b1 b2 b3 d1 d2 d3 St' Fi' Ed' (hide ((hB.out.on HD.out.1).on d)) h4 h5 h6 hc' eb)
  have HN := hide (And.intro (may_parts ea).1 (may_parts eb).1)
  have HLL : Hid ((riseL St).length ≤ 4194304 ∧ (riseL Fi).length ≤ 4194304 ∧ (riseE Ed).length ≤ 4194304 ∧ (riseL St').length ≤ 4194304 ∧ (riseL Fi').length ≤ 4194304 ∧ (riseE Ed').length ≤ 4194304) := hide ⟨Nat.le_trans (riseL_len _) h1, Nat.le_trans (riseL_len _) h2, Nat.le_trans (riseE_len _) h3, Nat.le_trans (riseL_len _) h4, Nat.le_trans (riseL_len _) h5, Nat.le_trans (riseE_len _) h6⟩
  have HBD := hide (And.intro (may_st (may_rise eb)).1 (And.intro (may_st (may_rise eb)).2 (may_parts (may_rise eb)).2.2.2.2.2))
  obtain ⟨S1, hS1⟩ : ∃ X, riseL St = X := ⟨_, rfl⟩
  obtain ⟨F1, hF1⟩ : ∃ X, riseL Fi = X := ⟨_, rfl⟩
  obtain ⟨E1, hE1⟩ : ∃ X, riseE Ed = X := ⟨_, rfl⟩
  obtain ⟨S2, hS2⟩ : ∃ X, riseL St' = X := ⟨_, rfl⟩
  obtain ⟨F2, hF2⟩ : ∃ X, riseL Fi' = X := ⟨_, rfl⟩
  obtain ⟨E2, hE2⟩ : ∃ X, riseE Ed' = X := ⟨_, rfl⟩
  rw [hS1, hF1, hE1] at TA
  rw [hS2, hF2, hE2] at TB HBD
  rw [hS1, hF1, hE1, hS2, hF2, hE2] at HLL
  rw [hE1, hE2] at her
  clear hS1 hF1 hE1 hS2 hF2 hE2 ea eb
  have HER := hide her
  clear her
  obtain ⟨y0, y1, y2, y3, y4, z0, z1, z2, z3, z4⟩ := SK.out W0 (Below.refl _ _)
  go_enter Tryz.func35, Tryz.ntmps35
  go_upto_region 2 with (go_at_call 32; refine TA.mono ?_; rintro e wa ⟨x1, k1, x2, k2, x3, k3, rfl, HOA, D1⟩)
  obtain ⟨wx, hwx⟩ : ∃ X, wa.alloc (.cells #[.int .i64 n, .int .i64 m, .slice x1 S1.length k1, .slice x2 F1.length k2, .slice x3 E1.length k3] 25) = X := ⟨_, rfl⟩
  rw [hwx]
  have DX : Hid (Below W0.heap.size W0 wx) := hide (by rw [← hwx]; exact D1.alloc D1.size _)
  have BX : Hid (wx.heap[wa.heap.size]? = some (.cells #[.int .i64 n, .int .i64 m, .slice x1 S1.length k1, .slice x2 F1.length k2, .slice x3 E1.length k3] 25 (0, 0)) ∧ wx.heap.size = wa.heap.size + 1 ∧ W0.heap.size ≤ wa.heap.size) := hide (by rw [← hwx]; exact ⟨World.alloc_heap_new _ _, by simp, D1.size⟩)
  have OX : Hid (OwnO W0.heap.size wx (.slice x1 S1.length k1) (.slice x2 F1.length k2) (.slice x3 E1.length k3) S1 F1 E1) := hide (by rw [← hwx]; exact HOA.out.on ((Below.refl _ _).alloc (Nat.le_refl _) _))
  clear y0 y1 y2 y3 y4 z0 z1 z2 z3 z4 D1 TA HOA hwx
  obtain ⟨y0, y1, y2, y3, y4, z0, z1, z2, z3, z4⟩ := SK.out wx DX.out
  have T2 := TB.out wx DX.out
  clear TB
  generalize wa.heap.size = p6 at BX ⊢
  go_upto_region 3 with (go_at_call 32; refine T2.mono ?_; rintro e wb ⟨y1, l1, y2, l2, y3, l3, rfl, HOB, D2⟩)
  obtain ⟨wy, hwy⟩ : ∃ X, wb.alloc (.cells #[.int .i64 n', .int .i64 m', .slice y1 S2.length l1, .slice y2 F2.length l2, .slice y3 E2.length l3] 25) = X := ⟨_, rfl⟩
  rw [hwy]
  have DY : Hid (Below wx.heap.size wx wy) := hide (by rw [← hwy]; exact D2.alloc D2.size _)
  have BY : Hid (wy.heap[wb.heap.size]? = some (.cells #[.int .i64 n', .int .i64 m', .slice y1 S2.length l1, .slice y2 F2.length l2, .slice y3 E2.length l3] 25 (0, 0)) ∧ wx.heap.size ≤ wb.heap.size) := hide (by rw [← hwy]; exact ⟨World.alloc_heap_new _ _, D2.size⟩)
  have OY : Hid (OwnO wx.heap.size wy (.slice y1 S2.length l1) (.slice y2 F2.length l2) (.slice y3 E2.length l3) S2 F2 E2) := hide (by rw [← hwy]; exact HOB.out.on ((Below.refl _ _).alloc (Nat.le_refl _) _))
  clear HOB hwy D2 T2
  rename_i _ _ _ _ _ _ _ _ _ _
  generalize wb.heap.size = p8 at BY ⊢
  have DZ : Hid (Below W0.heap.size W0 wy) := hide (DX.out.trans (DY.out.mono DX.out.size))
  have B6 := blk_on BX.out.1 DY.out
  have B8 := BY.out.1
  have u0 : wy.cell? ⟨p6, 0, none⟩ = some (.int .i64 n) := cell_of B6 rfl
  have u1 : wy.cell? ⟨p6, 1, none⟩ = some (.int .i64 m) := cell_of B6 rfl
  have u2 : wy.cell? ⟨p6, 2, none⟩ = some (.slice x1 S1.length k1) := cell_of B6 rfl
  have u3 : wy.cell? ⟨p6, 3, none⟩ = some (.slice x2 F1.length k2) := cell_of B6 rfl
  have u4 : wy.cell? ⟨p6, 4, none⟩ = some (.slice x3 E1.length k3) := cell_of B6 rfl
  have v0 : wy.cell? ⟨p8, 0, none⟩ = some (.int .i64 n') := cell_of B8 rfl
  have v1 : wy.cell? ⟨p8, 1, none⟩ = some (.int .i64 m') := cell_of B8 rfl
  have v2 : wy.cell? ⟨p8, 2, none⟩ = some (.slice y1 S2.length l1) := cell_of B8 rfl
  have v3 : wy.cell? ⟨p8, 3, none⟩ = some (.slice y2 F2.length l2) := cell_of B8 rfl
  have v4 : wy.cell? ⟨p8, 4, none⟩ = some (.slice y3 E2.length l3) := cell_of B8 rfl
  clear B6 B8
  rcases HER.out with ⟨hm, rfl⟩ | ⟨hm, hsz, rfl⟩
  · have e0 : (m != m') = true := by simpa using hm
    clear hm
    go_upto_region 6 with fail
    have F3 := blk_on HD.out.2.2.2.1 DZ.out
    have o0 : wy.cell? ⟨w.heap.size + 1 + 1, 0, none⟩ = some (.int .i64 0) := cell_of F3 rfl
    have g0 : wy.frozen? ⟨w.heap.size + 1 + 1, 0, none⟩ = false := fz_of F3
    have o1 : wy.cell? ⟨w.heap.size + 1 + 1, 1, none⟩ = some (.int .i64 0) := cell_of F3 rfl
    have g1 : wy.frozen? ⟨w.heap.size + 1 + 1, 1, none⟩ = false := fz_of F3
    have o2 : wy.cell? ⟨w.heap.size + 1 + 1, 2, none⟩ = some (.slice none 0 0) := cell_of F3 rfl
    have g2 : wy.frozen? ⟨w.heap.size + 1 + 1, 2, none⟩ = false := fz_of F3
    have o3 : wy.cell? ⟨w.heap.size + 1 + 1, 3, none⟩ = some (.slice none 0 0) := cell_of F3 rfl
    have g3 : wy.frozen? ⟨w.heap.size + 1 + 1, 3, none⟩ = false := fz_of F3
    have o4 : wy.cell? ⟨w.heap.size + 1 + 1, 4, none⟩ = some (.slice none 0 0) := cell_of F3 rfl
    have g4 : wy.frozen? ⟨w.heap.size + 1 + 1, 4, none⟩ = false := fz_of F3
    have O6 := hide (And.intro (set5 wy (w.heap.size + 1 + 1) _ _ _ _ _ (.int .i64 0) (.int .i64 0) (.slice none 0 0) (.slice none 0 0) (.slice none 0 0) 25 F3) (only5 wy (w.heap.size + 1 + 1) (.int .i64 0) (.int .i64 0) (.slice none 0 0) (.slice none 0 0) (.slice none 0 0)))
    clear F3
    go_wp2_with fail
    refine bodyPost_ret (results_c1 (p := 4) (q := 5) (ty := 25) rfl _ _ (w.heap.size + 1 + 1) 25 _ (0, 0) _ _ rfl rfl O6.out.1 Tryz.underlying25 rfl (by kernel_rfl)) rfl ?_
    have s0 := HD.out.2.2.2.2
    have s1 := DZ.out.size
    exact ⟨rfl, (HD.out.1.trans (DZ.out.mono (by omega))).trans (O6.out.2.toBelow (by omega) (fun k hk => by omega))⟩
  · have e0 : (m != m') = false := by simpa using hm
    clear hm
    have hn := HN.out
    have hl := HLL.out
    have iw : IntKind.i64.wrap (n + n') = n + n' := by rw [IntKind.wrap_i64]; omega
    have iw2 : IntKind.i64.wrap ((E1.length : Int) + (E2.length : Int)) = (E1.length : Int) + (E2.length : Int) := by rw [IntKind.wrap_i64]; omega
    clear hn hl
    by_cases hb : n + n' > 4096
    · clear hsz
      go_upto_region 8 with fail
      have F3 := blk_on HD.out.2.2.2.1 DZ.out
      have o0 : wy.cell? ⟨w.heap.size + 1 + 1, 0, none⟩ = some (.int .i64 0) := cell_of F3 rfl
      have g0 : wy.frozen? ⟨w.heap.size + 1 + 1, 0, none⟩ = false := fz_of F3
      have o1 : wy.cell? ⟨w.heap.size + 1 + 1, 1, none⟩ = some (.int .i64 0) := cell_of F3 rfl
      have g1 : wy.frozen? ⟨w.heap.size + 1 + 1, 1, none⟩ = false := fz_of F3
      have o2 : wy.cell? ⟨w.heap.size + 1 + 1, 2, none⟩ = some (.slice none 0 0) := cell_of F3 rfl
      have g2 : wy.frozen? ⟨w.heap.size + 1 + 1, 2, none⟩ = false := fz_of F3
      have o3 : wy.cell? ⟨w.heap.size + 1 + 1, 3, none⟩ = some (.slice none 0 0) := cell_of F3 rfl
      have g3 : wy.frozen? ⟨w.heap.size + 1 + 1, 3, none⟩ = false := fz_of F3
      have o4 : wy.cell? ⟨w.heap.size + 1 + 1, 4, none⟩ = some (.slice none 0 0) := cell_of F3 rfl
      have g4 : wy.frozen? ⟨w.heap.size + 1 + 1, 4, none⟩ = false := fz_of F3
      have O6 := hide (And.intro (set5 wy (w.heap.size + 1 + 1) _ _ _ _ _ (.int .i64 0) (.int .i64 0) (.slice none 0 0) (.slice none 0 0) (.slice none 0 0) 25 F3) (only5 wy (w.heap.size + 1 + 1) (.int .i64 0) (.int .i64 0) (.slice none 0 0) (.slice none 0 0) (.slice none 0 0)))
      clear F3
      go_wp2_with fail
      refine bodyPost_ret (results_c1 (p := 4) (q := 5) (ty := 25) rfl _ _ (w.heap.size + 1 + 1) 25 _ (0, 0) _ _ rfl rfl O6.out.1 Tryz.underlying25 rfl (by kernel_rfl)) rfl ?_
      have s0 := HD.out.2.2.2.2
      have s1 := DZ.out.size
      exact ⟨rfl, (HD.out.1.trans (DZ.out.mono (by omega))).trans (O6.out.2.toBelow (by omega) (fun k hk => by omega))⟩
    · have hb2 : (E1.length : Int) + (E2.length : Int) > 65536 := by omega
      clear hsz
      go_upto_region 8 with fail
      have F3 := blk_on HD.out.2.2.2.1 DZ.out
      have o0 : wy.cell? ⟨w.heap.size + 1 + 1, 0, none⟩ = some (.int .i64 0) := cell_of F3 rfl
      have g0 : wy.frozen? ⟨w.heap.size + 1 + 1, 0, none⟩ = false := fz_of F3
      have o1 : wy.cell? ⟨w.heap.size + 1 + 1, 1, none⟩ = some (.int .i64 0) := cell_of F3 rfl
      have g1 : wy.frozen? ⟨w.heap.size + 1 + 1, 1, none⟩ = false := fz_of F3
      have o2 : wy.cell? ⟨w.heap.size + 1 + 1, 2, none⟩ = some (.slice none 0 0) := cell_of F3 rfl
      have g2 : wy.frozen? ⟨w.heap.size + 1 + 1, 2, none⟩ = false := fz_of F3
      have o3 : wy.cell? ⟨w.heap.size + 1 + 1, 3, none⟩ = some (.slice none 0 0) := cell_of F3 rfl
      have g3 : wy.frozen? ⟨w.heap.size + 1 + 1, 3, none⟩ = false := fz_of F3
      have o4 : wy.cell? ⟨w.heap.size + 1 + 1, 4, none⟩ = some (.slice none 0 0) := cell_of F3 rfl
      have g4 : wy.frozen? ⟨w.heap.size + 1 + 1, 4, none⟩ = false := fz_of F3
      have O6 := hide (And.intro (set5 wy (w.heap.size + 1 + 1) _ _ _ _ _ (.int .i64 0) (.int .i64 0) (.slice none 0 0) (.slice none 0 0) (.slice none 0 0) 25 F3) (only5 wy (w.heap.size + 1 + 1) (.int .i64 0) (.int .i64 0) (.slice none 0 0) (.slice none 0 0) (.slice none 0 0)))
      clear F3
      go_wp2_with fail
      refine bodyPost_ret (results_c1 (p := 4) (q := 5) (ty := 25) rfl _ _ (w.heap.size + 1 + 1) 25 _ (0, 0) _ _ rfl rfl O6.out.1 Tryz.underlying25 rfl (by kernel_rfl)) rfl ?_
      have s0 := HD.out.2.2.2.2
      have s1 := DZ.out.size
      exact ⟨rfl, (HD.out.1.trans (DZ.out.mono (by omega))).trans (O6.out.2.toBelow (by omega) (fun k hk => by omega))⟩
end Go.Proofs.YtfoahpideglghaaGreatDoor
namespace Go.Proofs.YtfoahpideglghaaGreatDoor
open Go.RowKit Go.Maps Go.Shelf
attribute [local go_sem] Oper.semAt_some

/-! ### The document's Union -/
theorem UX.boxg1 {wl : World} {R : Nat → Prop} {B p : Nat} {N m : Int} {v1 v2 v3 : Value} {X1 X2 : List Int} {X3 : List EdT} {W w' : World} (h : UX wl R B p N m v1 v2 v3 X1 X2 X3 W) (hg : W.grownBy w' v1.ownBlock) : w'.heap[p]? = some (.cells #[.int .i64 N, .int .i64 m, v1, v2, v3] 25 (0, 0)) :=
  (hg.block p (Array.getElem?_eq_some_iff.1 h.box).1 (fun e => own_not h.own.s e.symm h.box (by decide))).trans h.box
theorem UX.boxg2 {wl : World} {R : Nat → Prop} {B p : Nat} {N m : Int} {v1 v2 v3 : Value} {X1 X2 : List Int} {X3 : List EdT} {W w' : World} (h : UX wl R B p N m v1 v2 v3 X1 X2 X3 W) (hg : W.grownBy w' v2.ownBlock) : w'.heap[p]? = some (.cells #[.int .i64 N, .int .i64 m, v1, v2, v3] 25 (0, 0)) :=
  (hg.block p (Array.getElem?_eq_some_iff.1 h.box).1 (fun e => own_not h.own.f e.symm h.box (by decide))).trans h.box
theorem UX.boxg3 {wl : World} {R : Nat → Prop} {B p : Nat} {N m : Int} {v1 v2 v3 : Value} {X1 X2 : List Int} {X3 : List EdT} {W w' : World} (h : UX wl R B p N m v1 v2 v3 X1 X2 X3 W) (hg : W.grownBy w' v3.ownBlock) : w'.heap[p]? = some (.cells #[.int .i64 N, .int .i64 m, v1, v2, v3] 25 (0, 0)) :=
  (hg.block p (Array.getElem?_eq_some_iff.1 h.box).1 (fun e => own_not h.own.e e.symm h.box (by decide))).trans h.box
theorem sh_take {B Y : List Int} {i : Nat} (n : Int) (h : i < Y.length) : B ++ shL n (Y.take (i + 1)) = B ++ shL n (Y.take i) ++ [n + Y[i]] := by
  unfold shL
  rw [List.take_succ_eq_append_getElem h, List.map_append, List.append_assoc]
  simp [Int.add_comm]
theorem shE_take {B Y : List EdT} {i : Nat} (n : Int) (h : i < Y.length) : B ++ shEs n (Y.take (i + 1)) = B ++ shEs n (Y.take i) ++ [(n + Y[i].1, Y[i].2.1, n + Y[i].2.2)] := by
  unfold shEs
  rw [List.take_succ_eq_append_getElem h, List.map_append, List.append_assoc]
  simp [shE, Int.add_comm]
set_option maxRecDepth 100000 in
set_option maxHeartbeats 8000000 in
theorem runion_ok (w : World) (n m n' m' : Int) (a1 a2 a3 b1 b2 b3 : Option Addr) (c1 c2 c3 d1 d2 d3 : Nat) (St Fi : List Int) (Ed : List EdT) (St' Fi' : List Int) (Ed' : List EdT) (hA : Hid (RdA w a1 a2 a3 St Fi Ed)) (hB : Hid (RdA w b1 b2 b3 St' Fi' Ed')) (h1 : St.length ≤ 4194304) (h2 : Fi.length ≤ 4194304) (h3 : Ed.length ≤ 4194304) (h4 : St'.length ≤ 4194304) (h5 : Fi'.length ≤ 4194304) (h6 : Ed'.length ≤ 4194304) (hc : Ed.length ≤ c3) (hc' : Ed'.length ≤ d3) (ea : mayA n m St Fi Ed = true) (eb : mayA n' m' St' Fi' Ed' = true) (em : m = m') (hn' : n + n' ≤ 4096) (hl' : (riseE Ed).length + (riseE Ed').length ≤ 65536) :
    Calls Tryz.prog 35 #[.agg #[.int .i64 n, .int .i64 m, .slice a1 St.length c1, .slice a2 Fi.length c2, .slice a3 Ed.length c3], .agg #[.int .i64 n', .int .i64 m', .slice b1 St'.length d1, .slice b2 Fi'.length d2, .slice b3 Ed'.length d3]] w fun e w' => ∃ r1 q1 r2 q2 r3 q3, e = .returned (.tuple #[.agg #[.int .i64 (n + n'), .int .i64 m, .slice r1 (riseL St ++ shL n (riseL St')).length q1, .slice r2 (riseL Fi ++ shL n (riseL Fi')).length q2, .slice r3 (riseE Ed ++ shEs n (riseE Ed')).length q3], .int .i64 0]) ∧ Hid (OwnD w.heap.size w' (.slice r1 (riseL St ++ shL n (riseL St')).length q1) (.slice r2 (riseL Fi ++ shL n (riseL Fi')).length q2) (.slice r3 (riseE Ed ++ shEs n (riseE Ed')).length q3) (riseL St ++ shL n (riseL St')) (riseL Fi ++ shL n (riseL Fi')) (riseE Ed ++ shEs n (riseE Ed'))) ∧ Below w.heap.size w w' := by
  have HD := hide (box3z w #[.int .i64 n, .int .i64 m, .slice a1 St.length c1, .slice a2 Fi.length c2, .slice a3 Ed.length c3] #[.int .i64 n', .int .i64 m', .slice b1 St'.length d1, .slice b2 Fi'.length d2, .slice b3 Ed'.length d3] #[.int .i64 0, .int .i64 0, .slice none 0 0, .slice none 0 0, .slice none 0 0] 25)
  obtain ⟨W0, hW0⟩ : ∃ W0, ((w.alloc (.cells #[.int .i64 n, .int .i64 m, .slice a1 St.length c1, .slice a2 Fi.length c2, .slice a3 Ed.length c3] 25)).alloc (.cells #[.int .i64 n', .int .i64 m', .slice b1 St'.length d1, .slice b2 Fi'.length d2, .slice b3 Ed'.length d3] 25)).alloc (.cells #[.int .i64 0, .int .i64 0, .slice none 0 0, .slice none 0 0, .slice none 0 0] 25) = W0 := ⟨_, rfl⟩
  rw [hW0] at HD
  have SK : Hid (∀ W, Below W0.heap.size W0 W → W.cell? ⟨w.heap.size, 0, none⟩ = some (.int .i64 n) ∧ W.cell? ⟨w.heap.size, 1, none⟩ = some (.int .i64 m) ∧ W.cell? ⟨w.heap.size, 2, none⟩ = some (.slice a1 St.length c1) ∧ W.cell? ⟨w.heap.size, 3, none⟩ = some (.slice a2 Fi.length c2) ∧ W.cell? ⟨w.heap.size, 4, none⟩ = some (.slice a3 Ed.length c3) ∧ W.cell? ⟨w.heap.size + 1, 0, none⟩ = some (.int .i64 n') ∧ W.cell? ⟨w.heap.size + 1, 1, none⟩ = some (.int .i64 m') ∧ W.cell? ⟨w.heap.size + 1, 2, none⟩ = some (.slice b1 St'.length d1) ∧ W.cell? ⟨w.heap.size + 1, 3, none⟩ = some (.slice b2 Fi'.length d2) ∧ W.cell? ⟨w.heap.size + 1, 4, none⟩ = some (.slice b3 Ed'.length d3)) := hide (fun W d => by
    have e := blk_on HD.out.2.1 d
    have f := blk_on HD.out.2.2.1 d
    exact ⟨cell_of e rfl, cell_of e rfl, cell_of e rfl, cell_of e rfl, cell_of e rfl, cell_of f rfl, cell_of f rfl, cell_of f rfl, cell_of f rfl, cell_of f rfl⟩)
  have TA := rnormal_ok W0 n m a1 a2 a3 c1 c2 c3 St Fi Ed (hide (hA.out.on HD.out.1)) h1 h2 h3 hc ea
  have TB : Hid (∀ W, Below W0.heap.size W0 W → Calls Tryz.prog 32 #[.agg #[.int .i64 n', .int .i64 m', .slice b1 St'.length d1, .slice b2 Fi'.length d2, .slice b3 Ed'.length d3]] W fun e w' => ∃ b1 k1 b2 k2 b3 k3, e = .returned (.tuple #[.agg #[.int .i64 n', .int .i64 m', .slice b1 (riseL St').length k1, .slice b2 (riseL Fi').length k2, .slice b3 (riseE Ed').length k3], .int .i64 0]) ∧ Hid (OwnO W.heap.size w' (.slice b1 (riseL St').length k1) (.slice b2 (riseL Fi').length k2) (.slice b3 (riseE Ed').length k3) (riseL St') (riseL Fi') (riseE Ed')) ∧ Below W.heap.size W w') := hide (fun W d => rnormal_ok W n' m' b1 b2 b3 d1 d2 d3 St' Fi' Ed' (hide ((hB.out.on HD.out.1).on d)) h4 h5 h6 hc' eb)
  have HN := hide (And.intro (may_parts ea).1 (may_parts eb).1)
  have HLL : Hid ((riseL St).length ≤ 4194304 ∧ (riseL Fi).length ≤ 4194304 ∧ (riseE Ed).length ≤ 4194304 ∧ (riseL St').length ≤ 4194304 ∧ (riseL Fi').length ≤ 4194304 ∧ (riseE Ed').length ≤ 4194304) := hide ⟨Nat.le_trans (riseL_len _) h1, Nat.le_trans (riseL_len _) h2, Nat.le_trans (riseE_len _) h3, Nat.le_trans (riseL_len _) h4, Nat.le_trans (riseL_len _) h5, Nat.le_trans (riseE_len _) h6⟩
  have HBD := hide (And.intro (may_st (may_rise eb)).1 (And.intro (may_st (may_rise eb)).2 (may_parts (may_rise eb)).2.2.2.2.2))
  obtain ⟨S1, hS1⟩ : ∃ X, riseL St = X := ⟨_, rfl⟩
  obtain ⟨F1, hF1⟩ : ∃ X, riseL Fi = X := ⟨_, rfl⟩
  obtain ⟨E1, hE1⟩ : ∃ X, riseE Ed = X := ⟨_, rfl⟩
  obtain ⟨S2, hS2⟩ : ∃ X, riseL St' = X := ⟨_, rfl⟩
  obtain ⟨F2, hF2⟩ : ∃ X, riseL Fi' = X := ⟨_, rfl⟩
  obtain ⟨E2, hE2⟩ : ∃ X, riseE Ed' = X := ⟨_, rfl⟩
  rw [hS1, hF1, hE1] at TA
  rw [hS2, hF2, hE2] at TB HBD
  rw [hS1, hF1, hE1, hS2, hF2, hE2] at HLL
  rw [hE1, hE2] at hl'
  rw [hS1, hF1, hE1, hS2, hF2, hE2]
  obtain ⟨XS, hXS⟩ : ∃ X, S1 ++ shL n S2 = X := ⟨_, rfl⟩
  obtain ⟨XF, hXF⟩ : ∃ X, F1 ++ shL n F2 = X := ⟨_, rfl⟩
  obtain ⟨XE, hXE⟩ : ∃ X, E1 ++ shEs n E2 = X := ⟨_, rfl⟩
  rw [hXS, hXF, hXE]
  have HXS := hide hXS
  have HXF := hide hXF
  have HXE := hide hXE
  clear hXS hXF hXE
  have HEQ := hide (And.intro em (And.intro hn' hl'))
  clear hS1 hF1 hE1 hS2 hF2 hE2 ea eb em hn' hl'
  obtain ⟨y0, y1, y2, y3, y4, z0, z1, z2, z3, z4⟩ := SK.out W0 (Below.refl _ _)
  go_enter Tryz.func35, Tryz.ntmps35
  go_upto_region 2 with (go_at_call 32; refine TA.mono ?_; rintro e wa ⟨x1, k1, x2, k2, x3, k3, rfl, HOA, D1⟩)
  obtain ⟨wx, hwx⟩ : ∃ X, wa.alloc (.cells #[.int .i64 n, .int .i64 m, .slice x1 S1.length k1, .slice x2 F1.length k2, .slice x3 E1.length k3] 25) = X := ⟨_, rfl⟩
  rw [hwx]
  have DX : Hid (Below W0.heap.size W0 wx) := hide (by rw [← hwx]; exact D1.alloc D1.size _)
  have BX : Hid (wx.heap[wa.heap.size]? = some (.cells #[.int .i64 n, .int .i64 m, .slice x1 S1.length k1, .slice x2 F1.length k2, .slice x3 E1.length k3] 25 (0, 0)) ∧ wx.heap.size = wa.heap.size + 1 ∧ W0.heap.size ≤ wa.heap.size) := hide (by rw [← hwx]; exact ⟨World.alloc_heap_new _ _, by simp, D1.size⟩)
  have OX : Hid (OwnO W0.heap.size wx (.slice x1 S1.length k1) (.slice x2 F1.length k2) (.slice x3 E1.length k3) S1 F1 E1) := hide (by rw [← hwx]; exact HOA.out.on ((Below.refl _ _).alloc (Nat.le_refl _) _))
  clear y0 y1 y2 y3 y4 z0 z1 z2 z3 z4 D1 TA HOA hwx
  obtain ⟨y0, y1, y2, y3, y4, z0, z1, z2, z3, z4⟩ := SK.out wx DX.out
  have T2 := TB.out wx DX.out
  clear TB
  generalize wa.heap.size = p6 at BX ⊢
  go_upto_region 3 with (go_at_call 32; refine T2.mono ?_; rintro e wb ⟨y1, l1, y2, l2, y3, l3, rfl, HOB, D2⟩)
  obtain ⟨wy, hwy⟩ : ∃ X, wb.alloc (.cells #[.int .i64 n', .int .i64 m', .slice y1 S2.length l1, .slice y2 F2.length l2, .slice y3 E2.length l3] 25) = X := ⟨_, rfl⟩
  rw [hwy]
  have DY : Hid (Below wx.heap.size wx wy) := hide (by rw [← hwy]; exact D2.alloc D2.size _)
  have BY : Hid (wy.heap[wb.heap.size]? = some (.cells #[.int .i64 n', .int .i64 m', .slice y1 S2.length l1, .slice y2 F2.length l2, .slice y3 E2.length l3] 25 (0, 0)) ∧ wx.heap.size ≤ wb.heap.size) := hide (by rw [← hwy]; exact ⟨World.alloc_heap_new _ _, D2.size⟩)
  have OY : Hid (OwnO wx.heap.size wy (.slice y1 S2.length l1) (.slice y2 F2.length l2) (.slice y3 E2.length l3) S2 F2 E2) := hide (by rw [← hwy]; exact HOB.out.on ((Below.refl _ _).alloc (Nat.le_refl _) _))
  clear HOB hwy D2 T2
  rename_i _ _ _ _ _ _ _ _ _ _
  generalize wb.heap.size = p8 at BY ⊢
  have DZ : Hid (Below W0.heap.size W0 wy) := hide (DX.out.trans (DY.out.mono DX.out.size))
  have B6 := blk_on BX.out.1 DY.out
  have B8 := BY.out.1
  have u0 : wy.cell? ⟨p6, 0, none⟩ = some (.int .i64 n) := cell_of B6 rfl
  have u1 : wy.cell? ⟨p6, 1, none⟩ = some (.int .i64 m) := cell_of B6 rfl
  have u2 : wy.cell? ⟨p6, 2, none⟩ = some (.slice x1 S1.length k1) := cell_of B6 rfl
  have u3 : wy.cell? ⟨p6, 3, none⟩ = some (.slice x2 F1.length k2) := cell_of B6 rfl
  have u4 : wy.cell? ⟨p6, 4, none⟩ = some (.slice x3 E1.length k3) := cell_of B6 rfl
  have v0 : wy.cell? ⟨p8, 0, none⟩ = some (.int .i64 n') := cell_of B8 rfl
  have v1 : wy.cell? ⟨p8, 1, none⟩ = some (.int .i64 m') := cell_of B8 rfl
  have v2 : wy.cell? ⟨p8, 2, none⟩ = some (.slice y1 S2.length l1) := cell_of B8 rfl
  have v3 : wy.cell? ⟨p8, 3, none⟩ = some (.slice y2 F2.length l2) := cell_of B8 rfl
  have v4 : wy.cell? ⟨p8, 4, none⟩ = some (.slice y3 E2.length l3) := cell_of B8 rfl
  clear B6 B8
  have e0 : (m != m') = false := by simpa using HEQ.out.1
  have hnn := HN.out
  have hll := HLL.out
  have iw : IntKind.i64.wrap (n + n') = n + n' := by rw [IntKind.wrap_i64]; omega
  have iw2 : IntKind.i64.wrap ((E1.length : Int) + (E2.length : Int)) = (E1.length : Int) + (E2.length : Int) := by rw [IntKind.wrap_i64]; omega
  have hb : ¬ n + n' > 4096 := by have := HEQ.out.2.1; omega
  have hb2 : ¬ (E1.length : Int) + (E2.length : Int) > 65536 := by have := HEQ.out.2.2; omega
  have f0 : wy.frozen? ⟨p6, 0, none⟩ = false := fz_of (blk_on BX.out.1 DY.out)
  clear hnn hll
  go_upto_region 9 with fail
  go_upto_region 11 with fail
  obtain ⟨wl, hwl⟩ : ∃ X, wy.setCell ⟨p6, 0, none⟩ (.int .i64 (n + n')) = X := ⟨_, rfl⟩
  rw [hwl]
  have BP := blk_on BX.out.1 DY.out
  have HL0 : Hid (wl.heap[p6]? = some (.cells #[.int .i64 (n + n'), .int .i64 m, .slice x1 S1.length k1, .slice x2 F1.length k2, .slice x3 E1.length k3] 25 (0, 0)) ∧ Only wy wl (fun k => k = p6)) := hide (by rw [← hwl]; exact ⟨heap_setCell_same _ _ 0 _ 25 _ BP, only_set wy _ 0 _⟩)
  have OXl := hide ((OX.out.on DY.out).keep BP HL0.out.2)
  have OYl := hide (OY.out.keep BP HL0.out.2)
  obtain ⟨R, hR⟩ : ∃ R : Nat → Prop, R = fun k => W0.heap.size ≤ k ∧ k < wx.heap.size := ⟨_, rfl⟩
  have s0 := BX.out.2
  have s1 := BY.out.2
  have s2 := HL0.out.2.size
  have s3 := DY.out.size
  have B8l : Hid (wl.heap[p8]? = some (.cells #[.int .i64 n', .int .i64 m', .slice y1 S2.length l1, .slice y2 F2.length l2, .slice y3 E2.length l3] 25 (0, 0))) := hide (HL0.out.2.cellK BY.out.1 (by omega))
  have DL : Hid (Below W0.heap.size W0 wl) := hide (DZ.out.trans (HL0.out.2.toBelow (by have := DZ.out.size; omega) (fun k hk => by omega)))
  have SBL : Hid (W0.heap.size ≤ wl.heap.size) := hide DL.out.size
  have YB : Hid (∀ W, Only wl W R → W.heap[p8]? = some (.cells #[.int .i64 n', .int .i64 m', .slice y1 S2.length l1, .slice y2 F2.length l2, .slice y3 E2.length l3] 25 (0, 0))) := hide (fun W o => o.cellK B8l.out (by rw [hR]; omega))
  have YS : Hid (∀ W, Only wl W R → OwnO wx.heap.size W (.slice y1 S2.length l1) (.slice y2 F2.length l2) (.slice y3 E2.length l3) S2 F2 E2) := hide (fun W o => ⟨row_only OYl.out.s o (fun k hk => by have := (OYl.out.s.lt k hk).1; rw [hR]; omega), row_only OYl.out.f o (fun k hk => by have := (OYl.out.f.lt k hk).1; rw [hR]; omega), row_only OYl.out.e o (fun k hk => by have := (OYl.out.e.lt k hk).1; rw [hR]; omega), OYl.out.ne⟩)
  have HU0 : Hid (UX wl R W0.heap.size p6 (n + n') m (.slice x1 S1.length k1) (.slice x2 F1.length k2) (.slice x3 E1.length k3) S1 F1 E1 wl) := hide ⟨HL0.out.1, OXl.out, ⟨rfl, rfl, rfl, Nat.le_refl _, fun _ _ _ => rfl⟩, fun k hk => Or.inl (by rw [hR]; exact OX.out.s.lt k hk), fun k hk => Or.inl (by rw [hR]; exact OX.out.f.lt k hk), fun k hk => Or.inl (by rw [hR]; exact OX.out.e.lt k hk), by rw [hR]; omega⟩
  have hR1 : Hid (∀ k, R k → W0.heap.size ≤ k) := hide (fun k hk => by rw [hR] at hk; exact hk.1)
  have cY : wl.cell? ⟨p8, 2, none⟩ = some (.slice y1 S2.length l1) := cell_of B8l.out rfl
  clear hR BP hwl HL0 OXl OYl OX OY B8l BX BY DX DY s0 s1 s2 s3 y0 u0 u1 u2 u3 u4 v0 v1 v2 v3 v4 f0 iw iw2 hb hb2 e0
  go_wp2_with fail
  go_loopw [11] (fun iv wr => ∃ i v0, i ≤ S2.length ∧ iv = .int .i64 (i : Nat) ∧ Hid (UX wl R W0.heap.size p6 (n + n') m v0 (.slice x2 F1.length k2) (.slice x3 E1.length k3) (S1 ++ shL n (S2.take i)) F1 E1 wr)) (fun iv _ => S2.length - (intOf iv).toNat)
  case atStart => exact ⟨0, _, Nat.zero_le _, rfl, hide (by simpa [shL] using HU0.out)⟩
  case round =>
    clear HU0 cY
    obtain ⟨i, v0, hi, rfl, HU⟩ := hrel
    obtain ⟨b, c, hv⟩ := own_slice HU.out.own.s
    subst hv
    have cY : wr.cell? ⟨p8, 2, none⟩ = some (.slice y1 S2.length l1) := cell_of (YB.out wr HU.out.only) rfl
    by_cases hlt : i < S2.length
    · have i0 : (i : Int) < (S2.length : Int) := by omega
      have i1 : (0 : Int) ≤ (i : Int) := by omega
      have iw1 : IntKind.i64.wrap ((i : Int) + 1) = (i : Int) + 1 := by have := HLL.out; rw [IntKind.wrap_i64]; omega
      have HT : Hid (S1 ++ shL n (S2.take (i + 1)) = S1 ++ shL n (S2.take i) ++ [n + S2[i]]) := hide (sh_take n hlt)
      have HXL : Hid ((S1 ++ shL n (S2.take i)).length ≤ 16777216) := hide (by
        have := HLL.out
        simp only [List.length_append, shL, List.length_map, List.length_take]
        omega)
      have hbx := HBD.out.1 S2[i] (List.getElem_mem hlt)
      obtain ⟨g, o, haa, qx⟩ := own_rdN (YS.out wr HU.out.only).s i hlt
      subst haa
      generalize S2[i] = x at HT qx hbx
      have iwx : IntKind.i64.wrap (n + x) = n + x := by have := HN.out; rw [IntKind.wrap_i64]; omega
      clear hbx
      generalize S1 ++ shL n (S2.take i) = X at HU HT HXL
      go_upto_region 14 with fail
      clear cY
      have hmo : MonIL 0 [vI 0 (.pointer (some ⟨p6, 2, none⟩)), vI 1 (.slice b X.length c), vI 2 (.int .i64 n), vI 3 (.pointer (some ⟨p8, 2, none⟩)), vI 4 (.slice (some ⟨g, o, none⟩) S2.length l1), vI 5 (.int .i64 i), vI 6 (.pointer (some ⟨g, o + i, none⟩)), vI 7 (.int .i64 x), vI 8 (.int .i64 (n + x)), pI 9 (oneQ (.int .i64 (n + x)))] := ⟨vI_mono _ _, vI_mono _ _, vI_mono _ _, vI_mono _ _, vI_mono _ _, vI_mono _ _, vI_mono _ _, vI_mono _ _, vI_mono _ _, pI_mono oneQ_mono, trivial⟩
      refine wp_region_sl [vI 0 (.pointer (some ⟨p6, 2, none⟩)), vI 1 (.slice b X.length c), vI 2 (.int .i64 n), vI 3 (.pointer (some ⟨p8, 2, none⟩)), vI 4 (.slice (some ⟨g, o, none⟩) S2.length l1), vI 5 (.int .i64 i), vI 6 (.pointer (some ⟨g, o + i, none⟩)), vI 7 (.int .i64 x), vI 8 (.int .i64 (n + x)), pI 9 (oneQ (.int .i64 (n + x)))] (by kernel_rfl) (by kernel_rfl) (by kernel_rfl) (by kernel_rfl) hmo ⟨?o0, ?o1, ?o2, ?o3, ?o4, ?o5, ?o6, ?o7, ?o8, ?o9, trivial⟩ ?fin
      case o0 =>
        intro At yy W hy hb d hd K hK
        have s6 : At.tmps.getD 6 undef = .pointer (some ⟨p6, 0, none⟩) := hb 6 rfl
        have s6' := s6
        rw [Array.getD_eq_getD_getElem?] at s6'
        clear hd hy hb
        go_simp
        exact hK.out _ W (stp_of hmo d (Below.refl _ _)) (if_pos rfl)
      case o1 =>
        intro At yy W hy hb d hd K hK
        have e0 : yy 0 = .pointer (some ⟨p6, 2, none⟩) := by obtain ⟨_, _, _, _, e⟩ := hd ⟨0, .data⟩ (by simp) rfl rfl; exact e
        have s69 := (hy 0 _ 69 rfl rfl).trans e0
        have s69' := s69
        rw [Array.getD_eq_getD_getElem?] at s69'
        clear hd hy hb
        have q0 : W.cell? ⟨p6, 2, none⟩ = some (.slice b X.length c) := cell_of (blk_on HU.out.box d) rfl
        go_simp
        exact hK.out _ W (stp_of hmo d (Below.refl _ _)) (if_pos rfl)
      case o2 =>
        intro At yy W hy hb d hd K hK
        have s10 : At.tmps.getD 10 undef = .int .i64 n := hb 10 rfl
        have s10' := s10
        rw [Array.getD_eq_getD_getElem?] at s10'
        clear hd hy hb
        go_simp
        exact hK.out _ W (stp_of hmo d (Below.refl _ _)) (if_pos rfl)
      case o3 =>
        intro At yy W hy hb d hd K hK
        have s8 : At.tmps.getD 8 undef = .pointer (some ⟨p8, 0, none⟩) := hb 8 rfl
        have s8' := s8
        rw [Array.getD_eq_getD_getElem?] at s8'
        clear hd hy hb
        go_simp
        exact hK.out _ W (stp_of hmo d (Below.refl _ _)) (if_pos rfl)
      case o4 =>
        intro At yy W hy hb d hd K hK
        have e3 : yy 3 = .pointer (some ⟨p8, 2, none⟩) := by obtain ⟨_, _, _, _, e⟩ := hd ⟨3, .data⟩ (by simp) rfl rfl; exact e
        have s72 := (hy 3 _ 72 rfl rfl).trans e3
        have s72' := s72
        rw [Array.getD_eq_getD_getElem?] at s72'
        clear hd hy hb
        have q0 : W.cell? ⟨p8, 2, none⟩ = some (.slice (some ⟨g, o, none⟩) S2.length l1) := cell_of (blk_on (YB.out wr HU.out.only) d) rfl
        go_simp
        exact hK.out _ W (stp_of hmo d (Below.refl _ _)) (if_pos rfl)
      case o5 =>
        intro At yy W hy hb d hd K hK
        have s11 : At.tmps.getD 11 undef = .int .i64 i := hb 11 rfl
        have s11' := s11
        rw [Array.getD_eq_getD_getElem?] at s11'
        clear hd hy hb
        go_simp
        exact hK.out _ W (stp_of hmo d (Below.refl _ _)) (if_pos rfl)
      case o6 =>
        intro At yy W hy hb d hd K hK
        have e4 : yy 4 = .slice (some ⟨g, o, none⟩) S2.length l1 := by obtain ⟨_, _, _, _, e⟩ := hd ⟨4, .data⟩ (by simp) rfl rfl; exact e
        have e5 : yy 5 = .int .i64 i := by obtain ⟨_, _, _, _, e⟩ := hd ⟨5, .data⟩ (by simp) rfl rfl; exact e
        have s73 := (hy 4 _ 73 rfl rfl).trans e4
        have s73' := s73
        rw [Array.getD_eq_getD_getElem?] at s73'
        have s74 := (hy 5 _ 74 rfl rfl).trans e5
        have s74' := s74
        rw [Array.getD_eq_getD_getElem?] at s74'
        clear hd hy hb
        go_simp
        exact hK.out _ W (stp_of hmo d (Below.refl _ _)) (if_pos rfl)
      case o7 =>
        intro At yy W hy hb d hd K hK
        have e6 : yy 6 = .pointer (some ⟨g, o + i, none⟩) := by obtain ⟨_, _, _, _, e⟩ := hd ⟨6, .data⟩ (by simp) rfl rfl; exact e
        have s75 := (hy 6 _ 75 rfl rfl).trans e6
        have s75' := s75
        rw [Array.getD_eq_getD_getElem?] at s75'
        clear hd hy hb
        have q0 := (d.cell (p := ⟨g, o + i, none⟩) (World.block_lt_of_cell? wr _ qx)).trans qx
        go_simp
        exact hK.out _ W (stp_of hmo d (Below.refl _ _)) (if_pos rfl)
      case o8 =>
        intro At yy W hy hb d hd K hK
        have e2 : yy 2 = .int .i64 n := by obtain ⟨_, _, _, _, e⟩ := hd ⟨2, .data⟩ (by simp) rfl rfl; exact e
        have e7 : yy 7 = .int .i64 x := by obtain ⟨_, _, _, _, e⟩ := hd ⟨7, .data⟩ (by simp) rfl rfl; exact e
        have s71 := (hy 2 _ 71 rfl rfl).trans e2
        have s71' := s71
        rw [Array.getD_eq_getD_getElem?] at s71'
        have s76 := (hy 7 _ 76 rfl rfl).trans e7
        have s76' := s76
        rw [Array.getD_eq_getD_getElem?] at s76'
        clear hd hy hb
        go_simp
        exact hK.out _ W (stp_of hmo d (Below.refl _ _)) (if_pos rfl)
      case o9 =>
        intro At yy W hy hb d hd K hK
        have e8 : yy 8 = .int .i64 (n + x) := by obtain ⟨_, _, _, _, e⟩ := hd ⟨8, .data⟩ (by simp) rfl rfl; exact e
        have s77 := (hy 8 _ 77 rfl rfl).trans e8
        have s77' := s77
        rw [Array.getD_eq_getD_getElem?] at s77'
        clear hd hy hb
        go_simp
        exact hK.out _ _ (stp_of hmo d ((Below.refl _ _).alloc (Nat.le_refl _) _)) ⟨if_pos rfl, by simp, World.alloc_heap_new _ _⟩
      case fin =>
        intro yy lo hi W hM
        show wpList _ _ _ [_, _, _] _ _
        have e0 : yy 0 = .pointer (some ⟨p6, 2, none⟩) := hM.fact 0 (by simp) rfl (notR_all 0 rfl)
        have e1 : yy 1 = .slice b X.length c := hM.fact 1 (by simp) rfl (notR_all 1 rfl)
        have e2 : yy 2 = .int .i64 n := hM.fact 2 (by simp) rfl (notR_all 2 rfl)
        have e3 : yy 3 = .pointer (some ⟨p8, 2, none⟩) := hM.fact 3 (by simp) rfl (notR_all 3 rfl)
        have e4 : yy 4 = .slice (some ⟨g, o, none⟩) S2.length l1 := hM.fact 4 (by simp) rfl (notR_all 4 rfl)
        have e5 : yy 5 = .int .i64 i := hM.fact 5 (by simp) rfl (notR_all 5 rfl)
        have e6 : yy 6 = .pointer (some ⟨g, o + i, none⟩) := hM.fact 6 (by simp) rfl (notR_all 6 rfl)
        have e7 : yy 7 = .int .i64 x := hM.fact 7 (by simp) rfl (notR_all 7 rfl)
        have e8 : yy 8 = .int .i64 (n + x) := hM.fact 8 (by simp) rfl (notR_all 8 rfl)
        have HW := hide (HU.out.on hM.d)
        obtain ⟨e9, l9, z9⟩ := hM.fact 9 (by simp) rfl (notR_all 9 rfl)
        have HN9 := hide z9
        simp only [fills, Act.put, List.take, List.length, List.setIfInBounds_toArray, List.set_cons_zero, List.set_cons_succ, e0, e1, e2, e3, e4, e5, e6, e7, e8, e9]
        clear hM hmo e0 e1 e2 e3 e4 e5 e6 e7 e8 e9 z9 l9
        generalize lo 9 = pn at HN9
        go_wp2_with (at_builtin; refine wpList_appg3 rfl _ _ rfl W0.heap.size (.slice b X.length c) X rfl HW.out.own.s pn (n + x) rfl HN9.out (by have := HXL.out; omega) (by have h5 := HW.out.only.size; have h6 := SBL.out; omega) ?_; intro v2 w2 HO2 hgr hlo; obtain ⟨b', c', hv2⟩ := own_slice HO2.out; subst hv2; have HV := hide (HW.out.app1 HO2.out hgr hlo); have BP := HW.out.boxg1 hgr; have p2 : w2.cell? ⟨p6, 2, none⟩ = some (.slice b X.length c) := cell_of BP rfl; have f2 : w2.frozen? ⟨p6, 2, none⟩ = false := fz_of BP; clear hgr hlo BP; rw [List.length_append] at HV; simp only [List.length_cons, List.length_nil] at HV)
        go_roundw
        case rel => exact ⟨i + 1, _, by omega, by go_num, hide (by rw [HT.out]; exact HV.out)⟩
        case measure => simp [intOf]; omega

    · have i0 : ¬ (i : Int) < (S2.length : Int) := by omega
      rw [List.take_of_length_le (show S2.length ≤ i by omega)] at HU
      obtain ⟨wo, rfl⟩ : ∃ z, z = wr := ⟨_, rfl⟩
      go_upto_region 15 with fail
      obtain ⟨r1, q1, hrq⟩ : ∃ r1 q1, b = r1 ∧ c = q1 := ⟨b, c, rfl, rfl⟩
      rw [hrq.1, hrq.2, HXS.out] at HU
      clear hrq
      have HU0 := HU
      clear HU hi i0 hlt cY
      have cY : wo.cell? ⟨p8, 3, none⟩ = some (.slice y2 F2.length l2) := cell_of (YB.out wo HU0.out.only) rfl
      go_wp2_with fail
      go_loopw [12] (fun iv wr => ∃ i v0, i ≤ F2.length ∧ iv = .int .i64 (i : Nat) ∧ Hid (UX wl R W0.heap.size p6 (n + n') m (.slice r1 XS.length q1) v0 (.slice x3 E1.length k3) XS (F1 ++ shL n (F2.take i)) E1 wr)) (fun iv _ => F2.length - (intOf iv).toNat)
      case atStart => exact ⟨0, _, Nat.zero_le _, rfl, hide (by simpa [shL] using HU0.out)⟩
      case round =>
        clear HU0 cY
        obtain ⟨i, v0, hi, rfl, HU⟩ := hrel
        obtain ⟨b, c, hv⟩ := own_slice HU.out.own.f
        subst hv
        have cY : wr.cell? ⟨p8, 3, none⟩ = some (.slice y2 F2.length l2) := cell_of (YB.out wr HU.out.only) rfl
        by_cases hlt : i < F2.length
        · have i0 : (i : Int) < (F2.length : Int) := by omega
          have i1 : (0 : Int) ≤ (i : Int) := by omega
          have iw1 : IntKind.i64.wrap ((i : Int) + 1) = (i : Int) + 1 := by have := HLL.out; rw [IntKind.wrap_i64]; omega
          have HT : Hid (F1 ++ shL n (F2.take (i + 1)) = F1 ++ shL n (F2.take i) ++ [n + F2[i]]) := hide (sh_take n hlt)
          have HXL : Hid ((F1 ++ shL n (F2.take i)).length ≤ 16777216) := hide (by
            have := HLL.out
            simp only [List.length_append, shL, List.length_map, List.length_take]
            omega)
          have hbx := HBD.out.2.1 F2[i] (List.getElem_mem hlt)
          obtain ⟨g, o, haa, qx⟩ := own_rdN (YS.out wr HU.out.only).f i hlt
          subst haa
          generalize F2[i] = x at HT qx hbx
          have iwx : IntKind.i64.wrap (n + x) = n + x := by have := HN.out; rw [IntKind.wrap_i64]; omega
          clear hbx
          generalize F1 ++ shL n (F2.take i) = X at HU HT HXL
          go_upto_region 18 with fail
          clear cY
          have hmo : MonIL 0 [vI 0 (.pointer (some ⟨p6, 3, none⟩)), vI 1 (.slice b X.length c), vI 2 (.int .i64 n), vI 3 (.pointer (some ⟨p8, 3, none⟩)), vI 4 (.slice (some ⟨g, o, none⟩) F2.length l2), vI 5 (.int .i64 i), vI 6 (.pointer (some ⟨g, o + i, none⟩)), vI 7 (.int .i64 x), vI 8 (.int .i64 (n + x)), pI 9 (oneQ (.int .i64 (n + x)))] := ⟨vI_mono _ _, vI_mono _ _, vI_mono _ _, vI_mono _ _, vI_mono _ _, vI_mono _ _, vI_mono _ _, vI_mono _ _, vI_mono _ _, pI_mono oneQ_mono, trivial⟩
          refine wp_region_sl [vI 0 (.pointer (some ⟨p6, 3, none⟩)), vI 1 (.slice b X.length c), vI 2 (.int .i64 n), vI 3 (.pointer (some ⟨p8, 3, none⟩)), vI 4 (.slice (some ⟨g, o, none⟩) F2.length l2), vI 5 (.int .i64 i), vI 6 (.pointer (some ⟨g, o + i, none⟩)), vI 7 (.int .i64 x), vI 8 (.int .i64 (n + x)), pI 9 (oneQ (.int .i64 (n + x)))] (by kernel_rfl) (by kernel_rfl) (by kernel_rfl) (by kernel_rfl) hmo ⟨?o0, ?o1, ?o2, ?o3, ?o4, ?o5, ?o6, ?o7, ?o8, ?o9, trivial⟩ ?fin
          case o0 =>
            intro At yy W hy hb d hd K hK
            have s6 : At.tmps.getD 6 undef = .pointer (some ⟨p6, 0, none⟩) := hb 6 rfl
            have s6' := s6
            rw [Array.getD_eq_getD_getElem?] at s6'
            clear hd hy hb
            go_simp
            exact hK.out _ W (stp_of hmo d (Below.refl _ _)) (if_pos rfl)
          case o1 =>
            intro At yy W hy hb d hd K hK
            have e0 : yy 0 = .pointer (some ⟨p6, 3, none⟩) := by obtain ⟨_, _, _, _, e⟩ := hd ⟨0, .data⟩ (by simp) rfl rfl; exact e
            have s88 := (hy 0 _ 88 rfl rfl).trans e0
            have s88' := s88
            rw [Array.getD_eq_getD_getElem?] at s88'
            clear hd hy hb
            have q0 : W.cell? ⟨p6, 3, none⟩ = some (.slice b X.length c) := cell_of (blk_on HU.out.box d) rfl
            go_simp
            exact hK.out _ W (stp_of hmo d (Below.refl _ _)) (if_pos rfl)
          case o2 =>
            intro At yy W hy hb d hd K hK
            have s10 : At.tmps.getD 10 undef = .int .i64 n := hb 10 rfl
            have s10' := s10
            rw [Array.getD_eq_getD_getElem?] at s10'
            clear hd hy hb
            go_simp
            exact hK.out _ W (stp_of hmo d (Below.refl _ _)) (if_pos rfl)
          case o3 =>
            intro At yy W hy hb d hd K hK
            have s8 : At.tmps.getD 8 undef = .pointer (some ⟨p8, 0, none⟩) := hb 8 rfl
            have s8' := s8
            rw [Array.getD_eq_getD_getElem?] at s8'
            clear hd hy hb
            go_simp
            exact hK.out _ W (stp_of hmo d (Below.refl _ _)) (if_pos rfl)
          case o4 =>
            intro At yy W hy hb d hd K hK
            have e3 : yy 3 = .pointer (some ⟨p8, 3, none⟩) := by obtain ⟨_, _, _, _, e⟩ := hd ⟨3, .data⟩ (by simp) rfl rfl; exact e
            have s91 := (hy 3 _ 91 rfl rfl).trans e3
            have s91' := s91
            rw [Array.getD_eq_getD_getElem?] at s91'
            clear hd hy hb
            have q0 : W.cell? ⟨p8, 3, none⟩ = some (.slice (some ⟨g, o, none⟩) F2.length l2) := cell_of (blk_on (YB.out wr HU.out.only) d) rfl
            go_simp
            exact hK.out _ W (stp_of hmo d (Below.refl _ _)) (if_pos rfl)
          case o5 =>
            intro At yy W hy hb d hd K hK
            have s12 : At.tmps.getD 12 undef = .int .i64 i := hb 12 rfl
            have s12' := s12
            rw [Array.getD_eq_getD_getElem?] at s12'
            clear hd hy hb
            go_simp
            exact hK.out _ W (stp_of hmo d (Below.refl _ _)) (if_pos rfl)
          case o6 =>
            intro At yy W hy hb d hd K hK
            have e4 : yy 4 = .slice (some ⟨g, o, none⟩) F2.length l2 := by obtain ⟨_, _, _, _, e⟩ := hd ⟨4, .data⟩ (by simp) rfl rfl; exact e
            have e5 : yy 5 = .int .i64 i := by obtain ⟨_, _, _, _, e⟩ := hd ⟨5, .data⟩ (by simp) rfl rfl; exact e
            have s92 := (hy 4 _ 92 rfl rfl).trans e4
            have s92' := s92
            rw [Array.getD_eq_getD_getElem?] at s92'
            have s93 := (hy 5 _ 93 rfl rfl).trans e5
            have s93' := s93
            rw [Array.getD_eq_getD_getElem?] at s93'
            clear hd hy hb
            go_simp
            exact hK.out _ W (stp_of hmo d (Below.refl _ _)) (if_pos rfl)
          case o7 =>
            intro At yy W hy hb d hd K hK
            have e6 : yy 6 = .pointer (some ⟨g, o + i, none⟩) := by obtain ⟨_, _, _, _, e⟩ := hd ⟨6, .data⟩ (by simp) rfl rfl; exact e
            have s94 := (hy 6 _ 94 rfl rfl).trans e6
            have s94' := s94
            rw [Array.getD_eq_getD_getElem?] at s94'
            clear hd hy hb
            have q0 := (d.cell (p := ⟨g, o + i, none⟩) (World.block_lt_of_cell? wr _ qx)).trans qx
            go_simp
            exact hK.out _ W (stp_of hmo d (Below.refl _ _)) (if_pos rfl)
          case o8 =>
            intro At yy W hy hb d hd K hK
            have e2 : yy 2 = .int .i64 n := by obtain ⟨_, _, _, _, e⟩ := hd ⟨2, .data⟩ (by simp) rfl rfl; exact e
            have e7 : yy 7 = .int .i64 x := by obtain ⟨_, _, _, _, e⟩ := hd ⟨7, .data⟩ (by simp) rfl rfl; exact e
            have s90 := (hy 2 _ 90 rfl rfl).trans e2
            have s90' := s90
            rw [Array.getD_eq_getD_getElem?] at s90'
            have s95 := (hy 7 _ 95 rfl rfl).trans e7
            have s95' := s95
            rw [Array.getD_eq_getD_getElem?] at s95'
            clear hd hy hb
            go_simp
            exact hK.out _ W (stp_of hmo d (Below.refl _ _)) (if_pos rfl)
          case o9 =>
            intro At yy W hy hb d hd K hK
            have e8 : yy 8 = .int .i64 (n + x) := by obtain ⟨_, _, _, _, e⟩ := hd ⟨8, .data⟩ (by simp) rfl rfl; exact e
            have s96 := (hy 8 _ 96 rfl rfl).trans e8
            have s96' := s96
            rw [Array.getD_eq_getD_getElem?] at s96'
            clear hd hy hb
            go_simp
            exact hK.out _ _ (stp_of hmo d ((Below.refl _ _).alloc (Nat.le_refl _) _)) ⟨if_pos rfl, by simp, World.alloc_heap_new _ _⟩
          case fin =>
            intro yy lo hi W hM
            show wpList _ _ _ [_, _, _] _ _
            have e0 : yy 0 = .pointer (some ⟨p6, 3, none⟩) := hM.fact 0 (by simp) rfl (notR_all 0 rfl)
            have e1 : yy 1 = .slice b X.length c := hM.fact 1 (by simp) rfl (notR_all 1 rfl)
            have e2 : yy 2 = .int .i64 n := hM.fact 2 (by simp) rfl (notR_all 2 rfl)
            have e3 : yy 3 = .pointer (some ⟨p8, 3, none⟩) := hM.fact 3 (by simp) rfl (notR_all 3 rfl)
            have e4 : yy 4 = .slice (some ⟨g, o, none⟩) F2.length l2 := hM.fact 4 (by simp) rfl (notR_all 4 rfl)
            have e5 : yy 5 = .int .i64 i := hM.fact 5 (by simp) rfl (notR_all 5 rfl)
            have e6 : yy 6 = .pointer (some ⟨g, o + i, none⟩) := hM.fact 6 (by simp) rfl (notR_all 6 rfl)
            have e7 : yy 7 = .int .i64 x := hM.fact 7 (by simp) rfl (notR_all 7 rfl)
            have e8 : yy 8 = .int .i64 (n + x) := hM.fact 8 (by simp) rfl (notR_all 8 rfl)
            have HW := hide (HU.out.on hM.d)
            obtain ⟨e9, l9, z9⟩ := hM.fact 9 (by simp) rfl (notR_all 9 rfl)
            have HN9 := hide z9
            simp only [fills, Act.put, List.take, List.length, List.setIfInBounds_toArray, List.set_cons_zero, List.set_cons_succ, e0, e1, e2, e3, e4, e5, e6, e7, e8, e9]
            clear hM hmo e0 e1 e2 e3 e4 e5 e6 e7 e8 e9 z9 l9
            generalize lo 9 = pn at HN9
            go_wp2_with (at_builtin; refine wpList_appg3 rfl _ _ rfl W0.heap.size (.slice b X.length c) X rfl HW.out.own.f pn (n + x) rfl HN9.out (by have := HXL.out; omega) (by have h5 := HW.out.only.size; have h6 := SBL.out; omega) ?_; intro v2 w2 HO2 hgr hlo; obtain ⟨b', c', hv2⟩ := own_slice HO2.out; subst hv2; have HV := hide (HW.out.app2 HO2.out hgr hlo); have BP := HW.out.boxg2 hgr; have p2 : w2.cell? ⟨p6, 3, none⟩ = some (.slice b X.length c) := cell_of BP rfl; have f2 : w2.frozen? ⟨p6, 3, none⟩ = false := fz_of BP; clear hgr hlo BP; rw [List.length_append] at HV; simp only [List.length_cons, List.length_nil] at HV)
            go_roundw
            case rel => exact ⟨i + 1, _, by omega, by go_num, hide (by rw [HT.out]; exact HV.out)⟩
            case measure => simp [intOf]; omega

        · have i0 : ¬ (i : Int) < (F2.length : Int) := by omega
          rw [List.take_of_length_le (show F2.length ≤ i by omega)] at HU
          obtain ⟨wo, rfl⟩ : ∃ z, z = wr := ⟨_, rfl⟩
          go_upto_region 19 with fail
          obtain ⟨r2, q2, hrq⟩ : ∃ r2 q2, b = r2 ∧ c = q2 := ⟨b, c, rfl, rfl⟩
          rw [hrq.1, hrq.2, HXF.out] at HU
          clear hrq
          have HU0 := HU
          clear HU hi i0 hlt cY
          have cY : wo.cell? ⟨p8, 4, none⟩ = some (.slice y3 E2.length l3) := cell_of (YB.out wo HU0.out.only) rfl
          rename_i _ _ _
          go_wp2_with fail
          go_loopw [13] (fun iv wr => ∃ i v0, i ≤ E2.length ∧ iv = .int .i64 (i : Nat) ∧ Hid (UX wl R W0.heap.size p6 (n + n') m (.slice r1 XS.length q1) (.slice r2 XF.length q2) v0 XS XF (E1 ++ shEs n (E2.take i)) wr)) (fun iv _ => E2.length - (intOf iv).toNat)
          case atStart => exact ⟨0, _, Nat.zero_le _, rfl, hide (by simpa [shEs] using HU0.out)⟩
          case round =>
            clear HU0 cY
            obtain ⟨i, v0, hi, rfl, HU⟩ := hrel
            obtain ⟨b, c, hv⟩ := own_slice HU.out.own.e
            subst hv
            have cY : wr.cell? ⟨p8, 4, none⟩ = some (.slice y3 E2.length l3) := cell_of (YB.out wr HU.out.only) rfl
            by_cases hlt : i < E2.length
            · have i0 : (i : Int) < (E2.length : Int) := by omega
              have i1 : (0 : Int) ≤ (i : Int) := by omega
              have iw1 : IntKind.i64.wrap ((i : Int) + 1) = (i : Int) + 1 := by have := HLL.out; rw [IntKind.wrap_i64]; omega
              have HT : Hid (E1 ++ shEs n (E2.take (i + 1)) = E1 ++ shEs n (E2.take i) ++ [(n + E2[i].1, E2[i].2.1, n + E2[i].2.2)]) := hide (shE_take n hlt)
              have HXL : Hid ((E1 ++ shEs n (E2.take i)).length ≤ 16777216) := hide (by
                have := HLL.out
                simp only [List.length_append, shEs, List.length_map, List.length_take]
                omega)
              have hbx := HBD.out.2.2 E2[i] (List.getElem_mem hlt)
              obtain ⟨g, o, haa, p1, p2, p3⟩ := own_rdE (YS.out wr HU.out.only).e i hlt
              subst haa
              generalize E2[i] = x at HT p1 p2 p3 hbx
              have iwx : IntKind.i64.wrap (n + x.1) = n + x.1 := by have := HN.out; rw [IntKind.wrap_i64]; omega
              have iwy : IntKind.i64.wrap (n + x.2.2) = n + x.2.2 := by have := HN.out; rw [IntKind.wrap_i64]; omega
              clear hbx
              generalize E1 ++ shEs n (E2.take i) = X at HU HT HXL
              obtain ⟨W1, hW1⟩ : ∃ W1, wr.alloc (.cells #[.int .i64 x.1, .int .i64 x.2.1, .int .i64 x.2.2] 59) = W1 := ⟨_, rfl⟩
              have HW1 : Hid (W1.heap[wr.heap.size]? = some (.cells #[.int .i64 x.1, .int .i64 x.2.1, .int .i64 x.2.2] 59 (0, 0)) ∧ Below wr.heap.size wr W1) := hide (by rw [← hW1]; exact ⟨World.alloc_heap_new _ _, (Below.refl _ _).alloc (Nat.le_refl _) _⟩)
              have t0 : W1.cell? ⟨wr.heap.size, 0, none⟩ = some (.int .i64 x.1) := cell_of HW1.out.1 rfl
              have t1 : W1.cell? ⟨wr.heap.size, 1, none⟩ = some (.int .i64 x.2.1) := cell_of HW1.out.1 rfl
              have t2 : W1.cell? ⟨wr.heap.size, 2, none⟩ = some (.int .i64 x.2.2) := cell_of HW1.out.1 rfl
              have HU1 := hide (HU.out.on HW1.out.2)
              have t3 : W1.cell? ⟨p6, 4, none⟩ = some (.slice b X.length c) := cell_of HU1.out.box rfl
              have HW := hide (HU1.out.on ((Below.refl _ _).alloc (Nat.le_refl _) (.cells #[.int .i64 (n + x.1), .int .i64 x.2.1, .int .i64 (n + x.2.2)] 59)))
              go_upto_region 23 with fail
              go_wp2_with (at_builtin; refine wpList_appg59 rfl _ _ rfl W0.heap.size (.slice b X.length c) X rfl HW.out.own.e W1.heap.size (n + x.1, x.2.1, n + x.2.2) rfl (World.alloc_heap_new _ _) (by have := HXL.out; omega) (by have h5 := HW.out.only.size; have h6 := SBL.out; omega) ?_; intro v2 w2 HO2 hgr hlo; obtain ⟨b', c', hv2⟩ := own_slice HO2.out; subst hv2; have HV := hide (HW.out.app3 HO2.out hgr hlo); have BP := HW.out.boxg3 hgr; have p2 : w2.cell? ⟨p6, 4, none⟩ = some (.slice b X.length c) := cell_of BP rfl; have f2 : w2.frozen? ⟨p6, 4, none⟩ = false := fz_of BP; clear hgr hlo BP; rw [List.length_append] at HV; simp only [List.length_cons, List.length_nil] at HV)
              go_roundw
              case rel => exact ⟨i + 1, _, by omega, by go_num, hide (by rw [HT.out]; exact HV.out)⟩
              case measure => simp [intOf]; omega
            · have i0 : ¬ (i : Int) < (E2.length : Int) := by omega
              rw [List.take_of_length_le (show E2.length ≤ i by omega)] at HU
              obtain ⟨wo, rfl⟩ : ∃ z, z = wr := ⟨_, rfl⟩
              go_upto_region 24 with fail
              have HF := hide HU.out
              have s9 := HU.out.only.size
              have DF : Hid (Below W0.heap.size W0 wo) := hide (DL.out.trans (HU.out.only.toBelow DL.out.size (fun k hk => hR1.out k hk)))
              have F6 := HU.out.box
              rw [HXE.out] at HU F6
              clear HF
              have e0 : wo.cell? ⟨p6, 0, none⟩ = some (.int .i64 (n + n')) := cell_of F6 rfl
              have e1 : wo.cell? ⟨p6, 1, none⟩ = some (.int .i64 m) := cell_of F6 rfl
              have e2 : wo.cell? ⟨p6, 2, none⟩ = some (.slice r1 XS.length q1) := cell_of F6 rfl
              have e3 : wo.cell? ⟨p6, 3, none⟩ = some (.slice r2 XF.length q2) := cell_of F6 rfl
              have e4 : wo.cell? ⟨p6, 4, none⟩ = some (.slice b XE.length c) := cell_of F6 rfl
              have F3 := blk_on HD.out.2.2.2.1 DF.out
              have o0 : wo.cell? ⟨w.heap.size + 1 + 1, 0, none⟩ = some (.int .i64 0) := cell_of F3 rfl
              have g0 : wo.frozen? ⟨w.heap.size + 1 + 1, 0, none⟩ = false := fz_of F3
              have o1 : wo.cell? ⟨w.heap.size + 1 + 1, 1, none⟩ = some (.int .i64 0) := cell_of F3 rfl
              have g1 : wo.frozen? ⟨w.heap.size + 1 + 1, 1, none⟩ = false := fz_of F3
              have o2 : wo.cell? ⟨w.heap.size + 1 + 1, 2, none⟩ = some (.slice none 0 0) := cell_of F3 rfl
              have g2 : wo.frozen? ⟨w.heap.size + 1 + 1, 2, none⟩ = false := fz_of F3
              have o3 : wo.cell? ⟨w.heap.size + 1 + 1, 3, none⟩ = some (.slice none 0 0) := cell_of F3 rfl
              have g3 : wo.frozen? ⟨w.heap.size + 1 + 1, 3, none⟩ = false := fz_of F3
              have o4 : wo.cell? ⟨w.heap.size + 1 + 1, 4, none⟩ = some (.slice none 0 0) := cell_of F3 rfl
              have g4 : wo.frozen? ⟨w.heap.size + 1 + 1, 4, none⟩ = false := fz_of F3
              have O6 := hide (And.intro (set5 wo (w.heap.size + 1 + 1) _ _ _ _ _ (.int .i64 (n + n')) (.int .i64 m) (.slice r1 XS.length q1) (.slice r2 XF.length q2) (.slice b XE.length c) 25 F3) (only5 wo (w.heap.size + 1 + 1) (.int .i64 (n + n')) (.int .i64 m) (.slice r1 XS.length q1) (.slice r2 XF.length q2) (.slice b XE.length c)))
              have OZ := hide (HU.out.own.keep F3 O6.out.2)
              clear F3 F6
              go_wp2_with fail
              refine bodyPost_ret (results_c1 (p := 4) (q := 5) (ty := 25) rfl _ _ (w.heap.size + 1 + 1) 25 _ (0, 0) _ _ rfl rfl O6.out.1 Tryz.underlying25 rfl (by kernel_rfl)) rfl ?_
              have s0 := HD.out.2.2.2.2
              have s1 := DF.out.size
              exact ⟨r1, q1, r2, q2, b, c, rfl, hide ⟨owns_down OZ.out.s (by first | exact Nat.le_refl _ | omega), owns_down OZ.out.f (by first | exact Nat.le_refl _ | omega), owns_down OZ.out.e (by first | exact Nat.le_refl _ | omega)⟩, (HD.out.1.trans (DF.out.mono (by omega))).trans (O6.out.2.toBelow (by omega) (fun k hk => by omega))⟩
end Go.Proofs.YtfoahpideglghaaGreatDoor
