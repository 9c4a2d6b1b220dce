import Derived.Test.YtfoahpideglghaaGreatDoorFE
import Derived.Test.YtfoahpideglghaaGreatDoorIT
namespace Go.Proofs.YtfoahpideglghaaGreatDoor
open Go.RowKit Go.Maps Go.Shelf
attribute [local go_sem] Oper.semAt_some

/-! ### A walk's step: what it holds -/
theorem only_drew {w w' : World} {R : Nat → Prop} (h : Only w w' R) : Only w w'.drew R := ⟨h.os, h.tape, h.output, h.size, h.block⟩
set_option maxRecDepth 100000 in
set_option maxHeartbeats 1000000 in
theorem add_only (b g cap n X j : Nat) (w : World) (hs : IsSet w b g cap n X) (hbg : b ≠ g) (hj : j < n) :
    Calls Tryz.prog 96 #[.pointer (some ⟨b, 0, none⟩), .int .i64 j] w fun e w' => e = .returned (.int .i64 0) ∧ IsSet w' b g cap n (X ||| 2 ^ j) ∧ Only w w' (fun k => k = g) := by
  have h0 := hs.c0
  have h1 := hs.c1
  have hn := hs.hn
  have hix : j / 64 < nw n := by unfold nw; omega
  have hw := hs.word (j / 64) hix
  have hfz : w.frozen? ⟨g, j / 64, none⟩ = false := hs.own.frozenAt _
  have HS := hide hs
  obtain ⟨q, hq⟩ : ∃ q, j / 64 = q := ⟨_, rfl⟩
  have hi2 : IntKind.i64.wrap ((j : Int) / 64) = (q : Int) := by rw [IntKind.wrap_i64]; omega
  rw [hq] at hix hw hfz
  have hi0 : (0 : Int) ≤ (q : Int) := by omega
  have hi1 : (q : Int) < (nw n : Int) := by omega
  have HQ := hide hq
  clear hs hq
  go_enter Tryz.func96, Tryz.ntmps96
  go_wp2_with (go_at_call 117; refine (inRange_yes b j n _ h0 (by omega)).mono ?_; rintro e w' ⟨rfl, hw⟩; obtain rfl := hw.symm; clear hw)
  go_region_with (go_at_call 108; refine (bit_any j _ (by omega) (by omega)).mono ?_; rintro e w' ⟨rfl, rfl⟩)
  all_goals go_wp2
  all_goals go_ret
  all_goals
    refine ⟨rfl, IsSet.drew (HS.out.store hbg hix (or_lt n X j HS.out.hX hj) (fun i _ hne => or_other X j i (by rw [HQ.out]; exact hne)) ?_), ?_⟩
    · rw [← HQ.out]
      have hm : (((j : Int) % 64).toNat) = j % 64 := by omega
      have := or_bit X j
      first
        | exact this
        | (simp only [hm]; exact this)
        | (simp only [hm]; simpa using this)
    · exact only_drew (only_set w g q _)
/-- The edges of a walk: in order, each once, with where each state's begin. -/
structure Wk (w : World) (N g3 k3 gf : Nat) (Es : List EdT) : Prop where
  e : RdE w (some ⟨g3, 0, none⟩) Es
  k : Es.length ≤ k3
  f : Mrw w gf 3 (N + 1) (fun c => .int .i64 (lessC Es c : Nat)) (N + 1)
  s : SsE Es
  i : ∀ x ∈ Es, (0 ≤ x.1 ∧ x.1 < (N : Int)) ∧ 0 ≤ x.2.2 ∧ x.2.2 < (N : Int)
  l : Es.length ≤ 4194304
  n : N ≤ 4096
theorem Wk.on {w w' : World} {N g3 k3 gf : Nat} {Es : List EdT} (h : Wk w N g3 k3 gf Es) (d : Below w.heap.size w w') : Wk w' N g3 k3 gf Es :=
  ⟨h.e.on d, h.k, h.f.below d h.f.lt, h.s, h.i, h.l, h.n⟩
/-- One state's edges taken in. -/
def oneF (R : Nat) (L : List EdT) : Nat := L.foldl (fun R e => R ||| 2 ^ e.2.2.toNat) R
def stepF (Es : List EdT) (y : Int) (l : List Nat) : Nat := l.foldl (fun R p => oneF R (fromL Es p y)) 0
theorem oneF_snoc (R : Nat) (L : List EdT) (e : EdT) : oneF R (L ++ [e]) = oneF R L ||| 2 ^ e.2.2.toNat := by simp [oneF]
theorem stepF_snoc (Es : List EdT) (y : Int) (l : List Nat) (p : Nat) : stepF Es y (l ++ [p]) = oneF (stepF Es y l) (fromL Es p y) := by simp [stepF]
theorem oneF_test (q : Nat) : ∀ (L : List EdT) (R : Nat), (oneF R L).testBit q = true ↔ R.testBit q = true ∨ ∃ e ∈ L, e.2.2.toNat = q
  | [], R => by simp [oneF]
  | e :: L, R => by
    have := oneF_test q L (R ||| 2 ^ e.2.2.toNat)
    have e1 : oneF R (e :: L) = oneF (R ||| 2 ^ e.2.2.toNat) L := rfl
    rw [e1, this, Nat.testBit_or, Bool.or_eq_true, Nat.testBit_two_pow, decide_eq_true_eq]
    simp only [List.mem_cons, exists_eq_or_imp]
    exact or_assoc
theorem stepF_test (Es : List EdT) (y : Int) (q : Nat) (l : List Nat) : (stepF Es y l).testBit q = true ↔ ∃ p ∈ l, ∃ e ∈ fromL Es p y, e.2.2.toNat = q := by
  have key : ∀ (l : List Nat) (R : Nat), (l.foldl (fun R p => oneF R (fromL Es p y)) R).testBit q = true ↔ R.testBit q = true ∨ ∃ p ∈ l, ∃ e ∈ fromL Es p y, e.2.2.toNat = q := by
    intro l
    induction l with
    | nil => intro R; simp
    | cons p l ih =>
      intro R
      rw [List.foldl_cons, ih, oneF_test]
      simp only [List.mem_cons, exists_eq_or_imp]
      exact or_assoc
  unfold stepF
  rw [key]
  simp
theorem step_img {Es : List EdT} {N X : Nat} (hi : ∀ x ∈ Es, (0 ≤ x.1 ∧ x.1 < (N : Int)) ∧ 0 ≤ x.2.2 ∧ x.2.2 < (N : Int)) (y : Int) : stepF Es y (elems N X) = imgF false X y Es := by
  apply Nat.eq_of_testBit_eq
  intro q
  rw [Bool.eq_iff_iff, stepF_test, imgF_test]
  constructor
  · rintro ⟨p, hp, e, he, rfl⟩
    rw [fromL_iff] at he
    obtain ⟨h1, h2, h3⟩ := he
    refine ⟨e, h1, h3, ?_, rfl⟩
    have := (mem_elems.1 hp).2
    simp only [ends, Bool.false_eq_true, if_false, hasB, h2]
    simpa using this
  · rintro ⟨e, he, h1, h2, h3⟩
    have h4 := hi e he
    obtain ⟨p, hp⟩ := Int.eq_ofNat_of_zero_le h4.1.1
    refine ⟨p, ?_, e, fromL_iff.2 ⟨he, hp, h1⟩, h3⟩
    simp only [ends, Bool.false_eq_true, if_false, hasB, hp] at h2
    rw [mem_elems]
    exact ⟨by omega, by simpa using h2⟩
theorem Wk.lt {w : World} {N g3 k3 gf : Nat} {Es : List EdT} (h : Wk w N g3 k3 gf Es) {x : EdT} (hx : x ∈ Es) : g3 < w.heap.size := by
  obtain ⟨j, hj, rfl⟩ := List.getElem_of_mem hx
  obtain ⟨g, o, he, q, _⟩ := h.e j hj
  cases he
  exact World.block_lt_of_cell? w _ q
theorem KpU.ofBelow {B : Nat} {W W' : World} (h0 : 0 < W.heap.size) (d : Below W.heap.size W W') : KpU B W W' :=
  ⟨d.size, d.block 0 h0, fun b _ _ _ hc => (d.block b (Array.getElem?_eq_some_iff.1 hc).1).trans hc⟩
theorem KpU.ofOnly {B g : Nat} {W W' : World} (h0 : 0 < W.heap.size) (o : Only W W' (fun k => k = g)) (hg : g < B) (hg0 : g ≠ 0) : KpU B W W' :=
  ⟨o.size, o.block 0 h0 (fun e => hg0 e.symm), fun b _ _ hb hc => (o.block b (Array.getElem?_eq_some_iff.1 hc).1 (fun e => by omega)).trans hc⟩
theorem KpU.put {B : Nat} (W : World) (l : Nat) (r r' : Loop) (hl : 0 < l) (h : W.heap[l]? = some (.loop r)) : KpU B W (W.putObj l (.loop r')) := by
  refine ⟨by simp [World.putObj], World.putObj_heap_other (by omega), fun b cs fr _ hc => ?_⟩
  refine (World.putObj_heap_other fun e => ?_).trans hc
  rw [e] at hc
  rw [h] at hc
  cases hc
/-- What step holds while it goes through a set. -/
structure StI (w : World) (A : Array Value) (sym : Int) (c7 b2 g2 k2 N R : Nat) (W : World) : Prop where
  wb : W.heap[w.heap.size]? = some (.cells A 80 (0, 0))
  sb : W.heap[w.heap.size + 1]? = some (.cells #[.int .i64 sym] 3 (0, 0))
  cb : W.heap[c7]? = some (.cells #[.pointer (some ⟨b2, 0, none⟩)] 56 (0, 0))
  st : IsSet W b2 g2 k2 N R
  be : Below w.heap.size w W
theorem StI.on {w : World} {A : Array Value} {sym : Int} {c7 b2 g2 k2 N R : Nat} {W W' : World} (h : StI w A sym c7 b2 g2 k2 N R W) (d : Below W.heap.size W W') : StI w A sym c7 b2 g2 k2 N R W' :=
  ⟨blk_on h.wb d, blk_on h.sb d, blk_on h.cb d, h.st.below d, h.be.trans (d.mono h.be.size)⟩
theorem StI.put {w : World} {A : Array Value} {sym : Int} {c7 b2 g2 k2 N R l : Nat} {W : World} {r r' : Loop} (h : StI w A sym c7 b2 g2 k2 N R W) (hl : W.heap[l]? = some (.loop r)) (h1 : w.heap.size + 1 < l) : StI w A sym c7 b2 g2 k2 N R (W.putObj l (.loop r')) := by
  have ne : ∀ k (o : Obj), W.heap[k]? = some o → o ≠ Obj.loop r → (W.putObj l (.loop r')).heap[k]? = W.heap[k]? := fun k o hk ho => World.putObj_heap_other fun e => by
    rw [e, hl] at hk
    exact ho (by simpa using hk.symm)
  refine ⟨(ne _ _ h.wb (by simp)).trans h.wb, (ne _ _ h.sb (by simp)).trans h.sb, (ne _ _ h.cb (by simp)).trans h.cb, h.st.keep (ne _ _ h.st.blk (by simp)) ?_, ?_⟩
  · rcases h.st.own.2 with ⟨hv, _⟩ | ⟨g', cap', cur, hv, _, hg, _⟩
    · cases hv
    · cases hv
      exact ne _ _ hg (by simp)
  · exact ⟨h.be.os, h.be.tape, h.be.output, by have := h.be.size; simpa [World.putObj] using this, fun j hj => (World.putObj_heap_other (by omega)).trans (h.be.block j hj)⟩
theorem StI.only {w : World} {A : Array Value} {sym : Int} {c7 b2 g2 k2 N R R' : Nat} {W W' : World} (h : StI w A sym c7 b2 g2 k2 N R W) (o : Only W W' (fun k => k = g2)) (hs : IsSet W' b2 g2 k2 N R') (h1 : w.heap.size + 1 < g2) (h7 : c7 ≠ g2) : StI w A sym c7 b2 g2 k2 N R' W' :=
  ⟨(o.block _ (Array.getElem?_eq_some_iff.1 h.wb).1 (fun e => by omega)).trans h.wb, (o.block _ (Array.getElem?_eq_some_iff.1 h.sb).1 (fun e => by omega)).trans h.sb, (o.block _ (Array.getElem?_eq_some_iff.1 h.cb).1 h7).trans h.cb, hs,
    h.be.trans (o.toBelow h.be.size (fun k hk => by omega))⟩
end Go.Proofs.YtfoahpideglghaaGreatDoor
namespace Go.Proofs.YtfoahpideglghaaGreatDoor
open Go.RowKit Go.Maps Go.Shelf
attribute [local go_sem] Oper.semAt_some

set_option maxRecDepth 100000 in
set_option maxHeartbeats 2000000 in
theorem step_any (w : World) (N : Nat) (m sym : Int) (a1 a2 : Option Addr) (l1 l2 c1 c2 g3 k3 gf : Nat) (Es : List EdT) (b g cap X : Nat) (hW : Hid (Wk w N g3 k3 gf Es)) (hs : Hid (IsSet w b g cap N X)) (hT : Hid (TabAt w ∧ 0 < w.heap.size)) :
    Calls Tryz.prog 86 #[.agg #[.int .i64 (N : Int), .int .i64 m, .slice a1 l1 c1, .slice a2 l2 c2, .slice (some ⟨g3, 0, none⟩) Es.length k3, .slice (some ⟨gf, 0, none⟩) (N + 1) (N + 1)], .pointer (some ⟨b, 0, none⟩), .int .i64 sym] w fun e w' => ∃ b' g' cap', e = .returned (.pointer (some ⟨b', 0, none⟩)) ∧ Hid (IsSet w' b' g' cap' N (imgF false X sym Es) ∧ w.heap.size ≤ b' ∧ w.heap.size ≤ g' ∧ b' ≠ g') ∧ Below w.heap.size w w' := by
  have hN := hW.out.n
  obtain ⟨W0, hW0⟩ : ∃ W0, (w.alloc (.cells #[.int .i64 (N : Int), .int .i64 m, .slice a1 l1 c1, .slice a2 l2 c2, .slice (some ⟨g3, 0, none⟩) Es.length k3, .slice (some ⟨gf, 0, none⟩) (N + 1) (N + 1)] 80)).alloc (.cells #[.int .i64 sym] 3) = W0 := ⟨_, rfl⟩
  have HD := hide (box3 w #[.int .i64 (N : Int), .int .i64 m, .slice a1 l1 c1, .slice a2 l2 c2, .slice (some ⟨g3, 0, none⟩) Es.length k3, .slice (some ⟨gf, 0, none⟩) (N + 1) (N + 1)] #[.int .i64 sym] 80 3)
  rw [hW0] at HD
  have B0 := HD.out.2.1
  have y0 : W0.cell? ⟨w.heap.size, 0, none⟩ = some (.int .i64 (N : Int)) := cell_of B0 rfl
  have y1 : W0.cell? ⟨w.heap.size, 1, none⟩ = some (.int .i64 m) := cell_of B0 rfl
  have y2 : W0.cell? ⟨w.heap.size, 2, none⟩ = some (.slice a1 l1 c1) := cell_of B0 rfl
  have y3 : W0.cell? ⟨w.heap.size, 3, none⟩ = some (.slice a2 l2 c2) := cell_of B0 rfl
  have y4 : W0.cell? ⟨w.heap.size, 4, none⟩ = some (.slice (some ⟨g3, 0, none⟩) Es.length k3) := cell_of B0 rfl
  clear B0
  have TS := setOf_any W0 N m a1 a2 (some ⟨g3, 0, none⟩) none l1 l2 Es.length c1 c2 k3 0 [] (hide (fun j h => absurd h (Nat.not_lt_zero j))) (Nat.zero_le _) hN (hide rfl)
  refine (callsIn_wide (n := 9)).1 (callsIn_of_wp_marks Tryz.func86 rfl trivial ?_ rfl)
  refine wpIn_wide.2 ?_
  simp only [Tryz.ntmps86, List.size_toArray, List.length_cons, List.length_nil, Nat.reduceAdd, Nat.reduceSub, Array.replicate_succ, Array.replicate_zero, List.push_toArray, List.append_toArray, List.nil_append, List.cons_append]
  go_wp2_with (first
    | (go_at_call 54; refine TS.mono ?_; rintro e w1 ⟨b2, g2, k2, rfl, hs2, hb2, hg2, hbg2, d1⟩)
    | (go_at_call 105; refine (all_any _ _).mono ?_; rintro e w3 ⟨rfl, hw3⟩))
  have hz := HD.out.2.2.2
  have d0 := HD.out.1.trans (d1.mono HD.out.1.size)
  obtain ⟨W3, hW3⟩ : ∃ W3, (w1.alloc (.cells #[.pointer (some ⟨b2, 0, none⟩)] 56)).alloc (.cells #[.pointer (some ⟨b, 0, none⟩)] 56) = W3 := ⟨_, rfl⟩
  rw [hW3]
  have q3 := box3 w1 #[.pointer (some ⟨b2, 0, none⟩)] #[.pointer (some ⟨b, 0, none⟩)] 56 56
  rw [hW3] at q3
  obtain ⟨e3, e4, e5, e6⟩ := q3
  have hlb := hs2.blt
  have hlg := hs2.glt
  have d13 : Below w1.heap.size w1 W3 := e3
  have HI0 : StI w #[.int .i64 (N : Int), .int .i64 m, .slice a1 l1 c1, .slice a2 l2 c2, .slice (some ⟨g3, 0, none⟩) Es.length k3, .slice (some ⟨gf, 0, none⟩) (N + 1) (N + 1)] sym w1.heap.size b2 g2 k2 N (stepF Es sym ((elems N X).take 0)) W3 :=
    ⟨blk_on (blk_on HD.out.2.1 d1) d13, blk_on (blk_on HD.out.2.2.1 d1) d13, e4, hs2.below d13, d0.trans (d13.mono d0.size)⟩
  have hsq := all_seq 8 (w1.heap.size + 1) b g cap N X W3 e5 ((hs.out.below d0).below d13) ((hT.out.1.below d0 hT.out.2).below d13 (Nat.lt_of_lt_of_le hT.out.2 d0.size))
  have HSEQ := hide hsq
  have HI := hide HI0
  have hsz1 := d1.size
  clear hsq HI0 e3 e4 e5 d13 hs2 y0 y1 y2 y3 y4 hW0 hW3 hw3 TS d1
  refine (wpIn_wide (n := 9)).1 ?_
  refine range_in_order (n := 9) (by omega) rfl (enters_of Tryz.func122 (by kernel_rfl) rfl) HSEQ.out KpU.trans ?kb (Below.refl _ _) (fun k W => StI w #[.int .i64 (N : Int), .int .i64 m, .slice a1 l1 c1, .slice a2 l2 c2, .slice (some ⟨g3, 0, none⟩) Es.length k3, .slice (some ⟨gf, 0, none⟩) (N + 1) (N + 1)] sym w1.heap.size b2 g2 k2 N (stepF Es sym ((elems N X).take k)) W) (fun k A A' h d => h.on d) ?ip HI.out (fun x => { tmps := #[.agg #[.int .i64 (N : Int), .int .i64 m, .slice a1 l1 c1, .slice a2 l2 c2, .slice (some ⟨g3, 0, none⟩) Es.length k3, .slice (some ⟨gf, 0, none⟩) (N + 1) (N + 1)], .pointer (some ⟨b, 0, none⟩), .int .i64 sym, .pointer (some ⟨w.heap.size, 0, none⟩), undef, .pointer (some ⟨w.heap.size + 1, 0, none⟩), .pointer none, .pointer (some ⟨w1.heap.size, 0, none⟩), x, undef, undef, .pointer (some ⟨w.heap.size, 0, none⟩), .agg #[.int .i64 (N : Int), .int .i64 m, .slice a1 l1 c1, .slice a2 l2 c2, .slice (some ⟨g3, 0, none⟩) Es.length k3], .pointer (some ⟨b2, 0, none⟩), .pointer (some ⟨b, 0, none⟩), .func (.func 122) #[] #[.pointer (some ⟨w1.heap.size + 1, 0, none⟩)], x, undef, undef, undef, undef, undef, undef, undef, undef, undef, undef, undef, undef, undef, undef, undef], defers := [] }) ?assign ?body ?done
  case kb => exact fun W r r' h => KpU.put W _ r r' (by omega) h
  case ip => exact fun k A r r' hI h => hI.put h (by omega)
  case assign =>
    intro l x W K hK
    gi_wp2
    exact hK
  case body =>
    rintro l k W hk hI hd ⟨r, hr⟩
    have hk2 : k < (elems N X).length := by simpa [intV] using hk
    have hv : (intV (elems N X))[k] = .int .i64 ((elems N X)[k] : Int) := by simp [intV]
    rw [hv]
    have hpN : (elems N X)[k] < N := (mem_elems.1 (List.getElem_mem hk2)).1
    have hsn : stepF Es sym ((elems N X).take (k + 1)) = oneF (stepF Es sym ((elems N X).take k)) (fromL Es (elems N X)[k] sym) := by
      rw [List.take_succ_eq_append_getElem hk2, stepF_snoc]
    have HSN := hide hsn
    obtain ⟨p, hp⟩ : ∃ p, (elems N X)[k] = p := ⟨_, rfl⟩
    simp only [hp] at hpN HSN ⊢
    have HWk := hide (hW.out.on hI.be)
    have TF := from_any W N p m sym a1 a2 l1 l2 c1 c2 g3 k3 gf Es (hide HWk.out.e) HWk.out.k (hide HWk.out.f) hpN hN (hide HWk.out.s) HWk.out.l
    have HFi : Hid (∀ x ∈ fromL Es p sym, 0 ≤ x.2.2 ∧ x.2.2 < (N : Int)) := hide (fun x hx => (HWk.out.i x (fromL_iff.1 hx).1).2)
    have HFg : Hid (∀ x ∈ fromL Es p sym, g3 < w.heap.size) := hide (fun x hx => hW.out.lt (fromL_iff.1 hx).1)
    have HFl : (fromL Es p sym).length ≤ 4194304 := Nat.le_trans (List.length_filter_le _ _) hW.out.l
    have x0 : W.cell? ⟨w.heap.size, 0, none⟩ = some (.int .i64 (N : Int)) := cell_of hI.wb rfl
    have x1 : W.cell? ⟨w.heap.size, 1, none⟩ = some (.int .i64 m) := cell_of hI.wb rfl
    have x2 : W.cell? ⟨w.heap.size, 2, none⟩ = some (.slice a1 l1 c1) := cell_of hI.wb rfl
    have x3 : W.cell? ⟨w.heap.size, 3, none⟩ = some (.slice a2 l2 c2) := cell_of hI.wb rfl
    have x4 : W.cell? ⟨w.heap.size, 4, none⟩ = some (.slice (some ⟨g3, 0, none⟩) Es.length k3) := cell_of hI.wb rfl
    have x5 : W.cell? ⟨w.heap.size, 5, none⟩ = some (.slice (some ⟨gf, 0, none⟩) (N + 1) (N + 1)) := cell_of hI.wb rfl
    have xs : W.cell? ⟨w.heap.size + 1, 0, none⟩ = some (.int .i64 sym) := cell_of hI.sb rfl
    have HL := hide (And.intro (And.intro hd hr) (show W3.heap.size + 1 < W.heap.size from (Array.getElem?_eq_some_iff.1 hr).1))
    have HI2 := hide hI
    have hW3s : W3.heap.size = w1.heap.size + 2 := by omega
    generalize fromL Es p sym = F at TF HFi HFg HFl HSN
    generalize stepF Es sym ((elems N X).take k) = R at HI2 HSN hI
    clear hk hv hp hr hd hsn hI
    gi_wp2
    refine ⟨trivial, (CallsIn.inRound l (callsIn_wide.2 TF)).mono ?_⟩
    rintro e w4 ⟨o, c, rfl, hrF, d4⟩
    have H4 : Hid (IsSet w4 b2 g2 k2 N (oneF R (F.take 0)) ∧ Only W w4 (fun q => q = g2)) := hide ⟨HI2.out.st.below d4, Only.ofBelow d4⟩
    clear d4 TF x0 x1 x2 x3 x4 x5 xs
    gi_wp2
    gi_loopw [22] (fun iv wr => ∃ t : Nat, t ≤ F.length ∧ iv = .int .i64 t ∧ Hid (IsSet wr b2 g2 k2 N (oneF R (F.take t)) ∧ Only W wr (fun q => q = g2))) (fun iv _ => F.length - (intOf iv).toNat)
    case atStart => exact ⟨0, Nat.zero_le _, rfl, H4⟩
    case round =>
      obtain ⟨t, ht, rfl, HY⟩ := hrel
      clear H4
      by_cases hlt : t < F.length
      · have i0 : (0 : Int) ≤ (t : Int) := by omega
        have i1 : (t : Int) < (F.length : Int) := by omega
        have hne : g3 ≠ g2 := by
          have := HFg.out F[t] (List.getElem_mem hlt)
          omega
        obtain ⟨g', o', he, q1, q2, q3⟩ := (rdE_only hrF.out HY.out.2 (fun a b hab => by cases hab; exact hne)) t hlt
        cases he
        have HN := hide (HFi.out F[t] (List.getElem_mem hlt))
        have HTk := hide (show F.take (t + 1) = F.take t ++ [F[t]] by rw [List.take_add_one, List.getElem?_eq_getElem hlt]; rfl)
        obtain ⟨x, hx⟩ : ∃ x, F[t] = x := ⟨_, rfl⟩
        rw [hx] at q1 q2 q3 HTk HN
        clear hx
        obtain ⟨x1, x2, x3⟩ := x
        obtain ⟨j3, hj3⟩ := Int.eq_ofNat_of_zero_le HN.out.1
        have hj3 : x3 = (j3 : Int) := hj3
        subst hj3
        have hl3 : j3 < N := by have := HN.out.2; simp only at this; omega
        obtain ⟨W5, hW5⟩ : ∃ W5, wr.alloc (.cells #[.int .i64 x1, .int .i64 x2, .int .i64 (j3 : Int)] 59) = W5 := ⟨_, rfl⟩
        have HW5 : Hid (W5.heap[wr.heap.size]? = some (.cells #[.int .i64 x1, .int .i64 x2, .int .i64 (j3 : Int)] 59 (0, 0)) ∧ Below wr.heap.size wr W5) := hide (by rw [← hW5]; exact ⟨World.alloc_heap_new _ _, (Below.refl _ _).alloc (Nat.le_refl _) _⟩)
        have y2 : W5.cell? ⟨wr.heap.size, 2, none⟩ = some (.int .i64 (j3 : Int)) := cell_of HW5.out.1 rfl
        have hcb : wr.heap[w1.heap.size]? = some (.cells #[.pointer (some ⟨b2, 0, none⟩)] 56 (0, 0)) := (HY.out.2.block _ (Array.getElem?_eq_some_iff.1 HI2.out.cb).1 (by omega)).trans HI2.out.cb
        have y7 : W5.cell? ⟨w1.heap.size, 0, none⟩ = some (.pointer (some ⟨b2, 0, none⟩)) := cell_of (blk_on hcb HW5.out.2) rfl
        have T96 := add_only b2 g2 k2 N _ j3 W5 (HY.out.1.below HW5.out.2) hbg2 hl3
        clear hcb
        gi_wp2
        refine ⟨trivial, (CallsIn.inRound l (callsIn_wide.2 T96)).mono ?_⟩
        rintro e w6 ⟨rfl, hs6, o6⟩
        have H6 : Hid (IsSet w6 b2 g2 k2 N (oneF R (F.take (t + 1))) ∧ Only W w6 (fun q => q = g2)) := hide ⟨by rw [HTk.out, oneF_snoc]; exact hs6, (HY.out.2.trans (Only.ofBelow HW5.out.2)).trans o6⟩
        clear hs6 o6 T96 y2 y7 q1 q2 q3 hW5
        gi_wp2
        exact ⟨⟨t + 1, by omega, by go_num, H6⟩, by simp [intOf]; omega⟩
      · obtain rfl : F.length = t := by omega
        have i1 : ¬ (F.length : Int) < (F.length : Int) := by omega
        gi_wp2
        have hw0 := hT.out.2
        have hL2 := HL.out.2
        have hst := HY.out.1
        rw [List.take_length] at hst
        refine ⟨⟨HY.out.2.block _ (by omega) (by omega), HY.out.2.block _ (by omega) (by omega)⟩, KpU.ofOnly (by omega) HY.out.2 (by omega) (by omega), ?_⟩
        show StI _ _ _ _ _ _ _ _ _ _
        rw [HSN.out]
        exact HI2.out.only HY.out.2 hst (by omega) (by omega)
  case done =>
    intro Dq W hD hI hq
    have c1 : W.cell? ⟨w1.heap.size, 0, none⟩ = some (.pointer (some ⟨b2, 0, none⟩)) := cell_of hI.cb rfl
    have hst := hI.st
    have hlen : (intV (elems N X)).length = (elems N X).length := by simp [intV]
    rw [hlen, List.take_length, step_img hW.out.i] at hst
    have hbl := hI.be
    have HST := hide hst
    clear hst hI hlen
    go_wp2_with fail
    refine ⟨by simp, .inl ⟨_, _, rfl, run_takeDeferred hq, ?_⟩⟩
    refine ⟨_, results_tmp rfl _ _ _, ?_⟩
    refine ⟨b2, g2, k2, rfl, hide ⟨HST.out.keep (World.putObj_heap_other (by omega)) (World.putObj_heap_other (by omega)), by omega, by omega, hbg2⟩, ?_⟩
    exact ⟨hbl.os, hbl.tape, hbl.output, by have := hbl.size; simpa [World.putObj] using this, fun j hj => (World.putObj_heap_other (by omega)).trans (hbl.block j hj)⟩
end Go.Proofs.YtfoahpideglghaaGreatDoor
