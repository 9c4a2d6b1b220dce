import Derived.Test.YtfoahpideglghaaGreatDoorFr
import Derived.Test.YtfoahpideglghaaGreatDoorIt
namespace Go.Proofs.YtfoahpideglghaaGreatDoor
open Go.RowKit Go.Maps Go.Shelf
attribute [local go_sem] Oper.semAt_some

/-! ### A walk's step: what it holds -/
theorem only_drew {w w' : World} {R : Nat → Prop} (h : Only w w' R) : Only w w'.drew R := ⟨h.os, h.tape, h.output, h.size, h.block⟩
set_option maxRecDepth 100000 in
set_option maxHeartbeats 1000000 in
theorem add_only (b g cap n X j : Nat) (w : World) (hs : IsSet w b g cap n X) (hbg : b ≠ g) (hj : j < n) :
    Calls Tryz.prog 96 #[.pointer (some ⟨b, 0, none⟩), .int .i64 j] w fun e w' => e = .returned (.int .i64 0) ∧ IsSet w' b g cap n (X ||| 2 ^ j) ∧ Only w w' (fun k => k = g) := by
  have h0 := hs.c0
  have h1 := hs.c1
  have hn := hs.hn
  have hix : j / 64 < nw n := by unfold nw; omega
  have hw := hs.word (j / 64) hix
  have hfz : w.frozen? ⟨g, j / 64, none⟩ = false := hs.own.frozenAt _
  have HS := hide hs
  obtain ⟨q, hq⟩ : ∃ q, j / 64 = q := ⟨_, rfl⟩
  have hi2 : IntKind.i64.wrap ((j : Int) / 64) = (q : Int) := by rw [IntKind.wrap_i64]; omega
  rw [hq] at hix hw hfz
  have hi0 : (0 : Int) ≤ (q : Int) := by omega
  have hi1 : (q : Int) < (nw n : Int) := by omega
  have HQ := hide hq
  clear hs hq
  go_enter Tryz.func96, Tryz.ntmps96
  go_wp2_with (go_at_call 117; refine (inRange_yes b j n _ h0 (by omega)).mono ?_; rintro e w' ⟨rfl, hw⟩; obtain rfl := hw.symm; clear hw)
  go_region_with (go_at_call 108; refine (bit_any j _ (by omega) (by omega)).mono ?_; rintro e w' ⟨rfl, rfl⟩)
  all_goals go_wp2
  all_goals go_ret
  all_goals
    refine ⟨rfl, IsSet.drew (HS.out.store hbg hix (or_lt n X j HS.out.hX hj) (fun i _ hne => or_other X j i (by rw [HQ.out]; exact hne)) ?_), ?_⟩
    · rw [← HQ.out]
      have hm : (((j : Int) % 64).toNat) = j % 64 := by omega
      have := or_bit X j
      first
        | exact this
        | (simp only [hm]; exact this)
        | (simp only [hm]; simpa using this)
    · exact only_drew (only_set w g q _)
/-- The edges of a walk: in order, each once, with where each state's begin. -/
structure Wk (w : World) (N g3 k3 gf : Nat) (Es : List EdT) : Prop where
  e : RdE w (some ⟨g3, 0, none⟩) Es
  k : Es.length ≤ k3
  f : Mrw w gf 3 (N + 1) (fun c => .int .i64 (lessC Es c : Nat)) (N + 1)
  s : SsE Es
  i : ∀ x ∈ Es, (0 ≤ x.1 ∧ x.1 < (N : Int)) ∧ 0 ≤ x.2.2 ∧ x.2.2 < (N : Int)
  l : Es.length ≤ 4194304
  n : N ≤ 4096
theorem Wk.on {w w' : World} {N g3 k3 gf : Nat} {Es : List EdT} (h : Wk w N g3 k3 gf Es) (d : Below w.heap.size w w') : Wk w' N g3 k3 gf Es :=
  ⟨h.e.on d, h.k, h.f.below d h.f.lt, h.s, h.i, h.l, h.n⟩
/-- One state's edges taken in. -/
def oneF (R : Nat) (L : List EdT) : Nat := L.foldl (fun R e => R ||| 2 ^ e.2.2.toNat) R
def stepF (Es : List EdT) (y : Int) (l : List Nat) : Nat := l.foldl (fun R p => oneF R (fromL Es p y)) 0
theorem oneF_snoc (R : Nat) (L : List EdT) (e : EdT) : oneF R (L ++ [e]) = oneF R L ||| 2 ^ e.2.2.toNat := by simp [oneF]
theorem stepF_snoc (Es : List EdT) (y : Int) (l : List Nat) (p : Nat) : stepF Es y (l ++ [p]) = oneF (stepF Es y l) (fromL Es p y) := by simp [stepF]
theorem oneF_test (q : Nat) : ∀ (L : List EdT) (R : Nat), (oneF R L).testBit q = true ↔ R.testBit q = true ∨ ∃ e ∈ L, e.2.2.toNat = q
  | [], R => by simp [oneF]
  | e :: L, R => by
    have := oneF_test q L (R ||| 2 ^ e.2.2.toNat)
    have e1 : oneF R (e :: L) = oneF (R ||| 2 ^ e.2.2.toNat) L := rfl
    rw [e1, this, Nat.testBit_or, Bool.or_eq_true, Nat.testBit_two_pow, decide_eq_true_eq]
    simp only [List.mem_cons, exists_eq_or_imp]
    exact or_assoc
theorem stepF_test (Es : List EdT) (y : Int) (q : Nat) (l : List Nat) : (stepF Es y l).testBit q = true ↔ ∃ p ∈ l, ∃ e ∈ fromL Es p y, e.2.2.toNat = q := by
  have key : ∀ (l : List Nat) (R : Nat), (l.foldl (fun R p => oneF R (fromL Es p y)) R).testBit q = true ↔ R.testBit q = true ∨ ∃ p ∈ l, ∃ e ∈ fromL Es p y, e.2.2.toNat = q := by
    intro l
    induction l with
    | nil => intro R; simp
    | cons p l ih =>
      intro R
      rw [List.foldl_cons, ih, oneF_test]
      simp only [List.mem_cons, exists_eq_or_imp]
      exact or_assoc
  unfold stepF
  rw [key]
  simp
theorem step_img {Es : List EdT} {N X : Nat} (hi : ∀ x ∈ Es, (0 ≤ x.1 ∧ x.1 < (N : Int)) ∧ 0 ≤ x.2.2 ∧ x.2.2 < (N : Int)) (y : Int) : stepF Es y (elems N X) = imgF false X y Es := by
  apply Nat.eq_of_testBit_eq
  intro q
  rw [Bool.eq_iff_iff, stepF_test, imgF_test]
  constructor
  · rintro ⟨p, hp, e, he, rfl⟩
    rw [fromL_iff] at he
    obtain ⟨h1, h2, h3⟩ := he
    refine ⟨e, h1, h3, ?_, rfl⟩
    have := (mem_elems.1 hp).2
    simp only [ends, Bool.false_eq_true, if_false, hasB, h2]
    simpa using this
  · rintro ⟨e, he, h1, h2, h3⟩
    have h4 := hi e he
    obtain ⟨p, hp⟩ := Int.eq_ofNat_of_zero_le h4.1.1
    refine ⟨p, ?_, e, fromL_iff.2 ⟨he, hp, h1⟩, h3⟩
    simp only [ends, Bool.false_eq_true, if_false, hasB, hp] at h2
    rw [mem_elems]
    exact ⟨by omega, by simpa using h2⟩
theorem Wk.lt {w : World} {N g3 k3 gf : Nat} {Es : List EdT} (h : Wk w N g3 k3 gf Es) {x : EdT} (hx : x ∈ Es) : g3 < w.heap.size := by
  obtain ⟨j, hj, rfl⟩ := List.getElem_of_mem hx
  obtain ⟨g, o, he, q, _⟩ := h.e j hj
  cases he
  exact World.block_lt_of_cell? w _ q
theorem KpU.ofBelow {B : Nat} {W W' : World} (h0 : 0 < W.heap.size) (d : Below W.heap.size W W') : KpU B W W' :=
  ⟨d.size, d.block 0 h0, fun b _ _ _ hc => (d.block b (Array.getElem?_eq_some_iff.1 hc).1).trans hc⟩
theorem KpU.ofOnly {B g : Nat} {W W' : World} (h0 : 0 < W.heap.size) (o : Only W W' (fun k => k = g)) (hg : g < B) (hg0 : g ≠ 0) : KpU B W W' :=
  ⟨o.size, o.block 0 h0 (fun e => hg0 e.symm), fun b _ _ hb hc => (o.block b (Array.getElem?_eq_some_iff.1 hc).1 (fun e => by omega)).trans hc⟩
theorem KpU.put {B : Nat} (W : World) (l : Nat) (r r' : Loop) (hl : 0 < l) (h : W.heap[l]? = some (.loop r)) : KpU B W (W.putObj l (.loop r')) := by
  refine ⟨by simp [World.putObj], World.putObj_heap_other (by omega), fun b cs fr _ hc => ?_⟩
  refine (World.putObj_heap_other fun e => ?_).trans hc
  rw [e] at hc
  rw [h] at hc
  cases hc
/-- What step holds while it goes through a set. -/
structure StI (w : World) (A : Array Value) (sym : Int) (c7 b2 g2 k2 N R : Nat) (W : World) : Prop where
  wb : W.heap[w.heap.size]? = some (.cells A 80 (0, 0))
  sb : W.heap[w.heap.size + 1]? = some (.cells #[.int .i64 sym] 3 (0, 0))
  cb : W.heap[c7]? = some (.cells #[.pointer (some ⟨b2, 0, none⟩)] 56 (0, 0))
  st : IsSet W b2 g2 k2 N R
  be : Below w.heap.size w W
theorem StI.on {w : World} {A : Array Value} {sym : Int} {c7 b2 g2 k2 N R : Nat} {W W' : World} (h : StI w A sym c7 b2 g2 k2 N R W) (d : Below W.heap.size W W') : StI w A sym c7 b2 g2 k2 N R W' :=
  ⟨blk_on h.wb d, blk_on h.sb d, blk_on h.cb d, h.st.below d, h.be.trans (d.mono h.be.size)⟩
theorem StI.put {w : World} {A : Array Value} {sym : Int} {c7 b2 g2 k2 N R l : Nat} {W : World} {r r' : Loop} (h : StI w A sym c7 b2 g2 k2 N R W) (hl : W.heap[l]? = some (.loop r)) (h1 : w.heap.size + 1 < l) : StI w A sym c7 b2 g2 k2 N R (W.putObj l (.loop r')) := by
  have ne : ∀ k (o : Obj), W.heap[k]? = some o → o ≠ Obj.loop r → (W.putObj l (.loop r')).heap[k]? = W.heap[k]? := fun k o hk ho => World.putObj_heap_other fun e => by
    rw [e, hl] at hk
    exact ho (by simpa using hk.symm)
  refine ⟨(ne _ _ h.wb (by simp)).trans h.wb, (ne _ _ h.sb (by simp)).trans h.sb, (ne _ _ h.cb (by simp)).trans h.cb, h.st.keep (ne _ _ h.st.blk (by simp)) ?_, ?_⟩
  · rcases h.st.own.2 with ⟨hv, _⟩ | ⟨g', cap', cur, hv, _, hg, _⟩
    · cases hv
    · cases hv
      exact ne _ _ hg (by simp)
  · exact ⟨h.be.os, h.be.tape, h.be.output, by have := h.be.size; simpa [World.putObj] using this, fun j hj => (World.putObj_heap_other (by omega)).trans (h.be.block j hj)⟩
theorem StI.only {w : World} {A : Array Value} {sym : Int} {c7 b2 g2 k2 N R R' : Nat} {W W' : World} (h : StI w A sym c7 b2 g2 k2 N R W) (o : Only W W' (fun k => k = g2)) (hs : IsSet W' b2 g2 k2 N R') (h1 : w.heap.size + 1 < g2) (h7 : c7 ≠ g2) : StI w A sym c7 b2 g2 k2 N R' W' :=
  ⟨(o.block _ (Array.getElem?_eq_some_iff.1 h.wb).1 (fun e => by omega)).trans h.wb, (o.block _ (Array.getElem?_eq_some_iff.1 h.sb).1 (fun e => by omega)).trans h.sb, (o.block _ (Array.getElem?_eq_some_iff.1 h.cb).1 h7).trans h.cb, hs,
    h.be.trans (o.toBelow h.be.size (fun k hk => by omega))⟩
end Go.Proofs.YtfoahpideglghaaGreatDoor
