import Derived.Test.YtfoahpideglghaaGreatDoorWs
import Derived.Deep.RegionHeld3
namespace Go.Proofs.YtfoahpideglghaaGreatDoor
open Go.RowKit Go.Maps Go.Shelf

/-! ### Images and the other way round -/
def itl (l : List Nat) : List Int := l.map fun (i : Nat) => (i : Int)
theorem itl_len (l : List Nat) : (itl l).length = l.length := List.length_map _
theorem intV_itl (l : List Nat) : intV l = (itl l).map (Value.int .i64) := by simp [intV, itl]
theorem mem_itl {l : List Nat} {x : Int} : x ∈ itl l ↔ ∃ i ∈ l, (i : Int) = x := by simp [itl]
theorem setI_test (n : Nat) (q : Nat) (L : List Int) : (setI n L).testBit q = true ↔ ∃ i ∈ L, (0 ≤ i ∧ i < (n : Int)) ∧ i.toNat = q := by
  have key : ∀ (L : List Int) (X : Nat), (L.foldl (fun X i => if 0 ≤ i ∧ i < (n : Int) then X ||| 2 ^ i.toNat else X) X).testBit q = true ↔ X.testBit q = true ∨ ∃ i ∈ L, (0 ≤ i ∧ i < (n : Int)) ∧ i.toNat = q := by
    intro L
    induction L with
    | nil => intro X; simp
    | cons a L ih =>
      intro X
      rw [List.foldl_cons, ih]
      simp only [List.mem_cons, exists_eq_or_imp]
      by_cases h : 0 ≤ a ∧ a < (n : Int)
      · rw [if_pos h, Nat.testBit_or, Bool.or_eq_true, Nat.testBit_two_pow, decide_eq_true_eq]
        simp only [h, true_and, and_self]
        exact or_assoc
      · rw [if_neg h]
        simp only [h, false_and, false_or]
  unfold setI
  rw [key]
  simp
theorem lt_two_pow {N X : Nat} (h : ∀ q, X.testBit q = true → q < N) : X < 2 ^ N := Nat.lt_pow_two_of_testBit X fun q hq => by
  cases e : X.testBit q
  · rfl
  · have := h q e; omega
theorem bit_lt {N X q : Nat} (hX : X < 2 ^ N) (h : X.testBit q = true) : q < N := Nat.lt_of_not_le fun hle => by
  have := Nat.testBit_lt_two_pow (Nat.lt_of_lt_of_le hX (Nat.pow_le_pow_right (by omega) hle))
  rw [this] at h; cases h
theorem setI_lt (N : Nat) (L : List Int) : setI N L < 2 ^ N := lt_two_pow fun q h => by
  obtain ⟨i, _, h1, h2⟩ := (setI_test N q L).1 h
  omega
theorem setI_elems {N X : Nat} (hX : X < 2 ^ N) : setI N (itl (elems N X)) = X := by
  apply Nat.eq_of_testBit_eq
  intro q
  rw [Bool.eq_iff_iff, setI_test]
  constructor
  · rintro ⟨i, hi, _, rfl⟩
    obtain ⟨j, hj, rfl⟩ := mem_itl.1 hi
    exact (mem_elems.1 hj).2
  · intro h
    have := bit_lt hX h
    exact ⟨(q : Int), mem_itl.2 ⟨q, mem_elems.2 ⟨this, h⟩, rfl⟩, ⟨by omega, by omega⟩, by omega⟩
theorem imgF_pow {N X : Nat} {back : Bool} {y : Int} {L : List EdT} (hi : ∀ x ∈ L, (0 ≤ x.1 ∧ x.1 < (N : Int)) ∧ 0 ≤ x.2.2 ∧ x.2.2 < (N : Int)) : imgF back X y L < 2 ^ N := lt_two_pow fun _ h => imgF_lt hi h
theorem wordF_pow {N : Nat} {Ed : List EdT} (hi : ∀ x ∈ Ed, (0 ≤ x.1 ∧ x.1 < (N : Int)) ∧ 0 ≤ x.2.2 ∧ x.2.2 < (N : Int)) {X : Nat} (hX : X < 2 ^ N) (Wd : List Int) : wordF Ed X Wd < 2 ^ N := by
  rcases Wd.eq_nil_or_concat with rfl | ⟨l, y, rfl⟩
  · exact hX
  · rw [List.concat_eq_append, wordF_snoc]; exact imgF_pow hi
theorem hasB_setI {N : Nat} {Q : List Int} {y : Int} : hasB (setI N Q) y = true ↔ y ∈ Q ∧ 0 ≤ y ∧ y < (N : Int) := by
  unfold hasB
  rw [Bool.and_eq_true, decide_eq_true_eq, setI_test]
  constructor
  · rintro ⟨h0, i, hi, h1, h2⟩
    have : i = y := by omega
    subst this
    exact ⟨hi, h1⟩
  · rintro ⟨h1, h2⟩
    exact ⟨h2.1, y, h1, h2, rfl⟩
/-- A state's image meets a set just if the set's image the other way round has the state. -/
theorem img_dual {N : Nat} {Ed : List EdT} (hi : ∀ x ∈ Ed, (0 ≤ x.1 ∧ x.1 < (N : Int)) ∧ 0 ≤ x.2.2 ∧ x.2.2 < (N : Int)) (back : Bool) (Q : List Int) (y : Int) (s : Nat) (hs : s < N) :
    ((itl (elems N (imgF back (setI N [(s : Int)]) y Ed))).any fun x => decide (x ∈ Q)) = decide ((s : Int) ∈ itl (elems N (imgF (!back) (setI N Q) y Ed))) := by
  rw [Bool.eq_iff_iff, List.any_eq_true, decide_eq_true_eq]
  constructor
  · rintro ⟨x, hx, hq⟩
    rw [decide_eq_true_eq] at hq
    obtain ⟨j, hj, rfl⟩ := mem_itl.1 hx
    obtain ⟨e, he, h1, h2, h3⟩ := (imgF_test _ _ _ _ _).1 (mem_elems.1 hj).2
    rw [hasB_setI] at h2
    have hr := hi e he
    have h2a : (ends back e).1 = (s : Int) := by simpa using h2.1
    refine mem_itl.2 ⟨s, mem_elems.2 ⟨hs, (imgF_test _ _ _ _ _).2 ⟨e, he, h1, hasB_setI.2 ?_, ?_⟩⟩, rfl⟩
    · cases back
      · have e1 : (ends false e).2 = e.2.2 := rfl
        have e2 : (ends (!false) e).1 = e.2.2 := rfl
        rw [e1] at h3
        rw [e2]
        have : ((j : Nat) : Int) = e.2.2 := by omega
        rw [← this]
        exact ⟨hq, by omega, by omega⟩
      · have e1 : (ends true e).2 = e.1 := rfl
        have e2 : (ends (!true) e).1 = e.1 := rfl
        rw [e1] at h3
        rw [e2]
        have : ((j : Nat) : Int) = e.1 := by omega
        rw [← this]
        exact ⟨hq, by omega, by omega⟩
    · cases back
      · have e2 : (ends (!false) e).2 = e.1 := rfl
        have e3 : (ends false e).1 = e.1 := rfl
        rw [e3] at h2a
        rw [e2, h2a]; rfl
      · have e2 : (ends (!true) e).2 = e.2.2 := rfl
        have e3 : (ends true e).1 = e.2.2 := rfl
        rw [e3] at h2a
        rw [e2, h2a]; rfl
  · intro h
    obtain ⟨t, ht, hts⟩ := mem_itl.1 h
    have : t = s := by omega
    subst this
    obtain ⟨e, he, h1, h2, h3⟩ := (imgF_test _ _ _ _ _).1 (mem_elems.1 ht).2
    rw [hasB_setI] at h2
    have hr := hi e he
    cases back
    · have e1 : (ends (!false) e).1 = e.2.2 := rfl
      have e2 : (ends (!false) e).2 = e.1 := rfl
      rw [e1] at h2
      rw [e2] at h3
      refine ⟨e.2.2, mem_itl.2 ⟨e.2.2.toNat, mem_elems.2 ⟨by omega, (imgF_test _ _ _ _ _).2 ⟨e, he, h1, hasB_setI.2 ⟨?_, ?_⟩, rfl⟩⟩, by omega⟩, by simpa using h2.1⟩
      · have e3 : (ends false e).1 = e.1 := rfl
        rw [e3]
        simp
        omega
      · have e3 : (ends false e).1 = e.1 := rfl
        rw [e3]; omega
    · have e1 : (ends (!true) e).1 = e.1 := rfl
      have e2 : (ends (!true) e).2 = e.2.2 := rfl
      rw [e1] at h2
      rw [e2] at h3
      refine ⟨e.1, mem_itl.2 ⟨e.1.toNat, mem_elems.2 ⟨by omega, (imgF_test _ _ _ _ _).2 ⟨e, he, h1, hasB_setI.2 ⟨?_, ?_⟩, rfl⟩⟩, by omega⟩, by simpa using h2.1⟩
      · have e3 : (ends true e).1 = e.2.2 := rfl
        rw [e3]
        simp
        omega
      · have e3 : (ends true e).1 = e.2.2 := rfl
        rw [e3]; omega
end Go.Proofs.YtfoahpideglghaaGreatDoor
namespace Go.Proofs.YtfoahpideglghaaGreatDoor
open Go.RowKit Go.Maps Go.Shelf
attribute [local go_sem] Oper.semAt_some

set_option maxRecDepth 100000 in
set_option maxHeartbeats 8000000 in
theorem images_bad (w : World) (n m nb mb sym kk : Int) (a1 a2 a3 b1 b2 b3 q1 p1 u1 o1 : Option Addr) (c1 c2 c3 l1 d1 l2 d2 l3 d3 cq lp cp cw lo co : Nat) (St Fi Q Wd : List Int) (Ed : List EdT) (hT : Hid (TabAt w ∧ 0 < w.heap.size)) (hA : Hid (RdA w a1 a2 a3 St Fi Ed)) (hQ : Hid (RdN w q1 Q)) (hU : Hid (RdN w u1 Wd)) (h1 : St.length ≤ 1048576) (h2 : Fi.length ≤ 1048576) (h3 : Ed.length ≤ 1048576) (h4 : Q.length ≤ 1048576) (h5 : Wd.length ≤ 1048576) (hbad : imgErr n m St Fi Ed Q sym ≠ 0) :
    Calls Tryz.prog 4 #[.agg #[.int .i64 n, .int .i64 m, .slice a1 St.length c1, .slice a2 Fi.length c2, .slice a3 Ed.length c3, .int .i64 nb, .int .i64 mb, .slice b1 l1 d1, .slice b2 l2 d2, .slice b3 l3 d3, .slice q1 Q.length cq, .slice p1 lp cp, .int .i64 sym, .slice u1 Wd.length cw, .int .i64 kk, .slice o1 lo co]] w fun e w' => e = .returned (.bool true) ∧ Below w.heap.size w w' := by
  obtain ⟨W0, hW0⟩ : ∃ W0, w.alloc (.cells #[.int .i64 n, .int .i64 m, .slice a1 St.length c1, .slice a2 Fi.length c2, .slice a3 Ed.length c3, .int .i64 nb, .int .i64 mb, .slice b1 l1 d1, .slice b2 l2 d2, .slice b3 l3 d3, .slice q1 Q.length cq, .slice p1 lp cp, .int .i64 sym, .slice u1 Wd.length cw, .int .i64 kk, .slice o1 lo co] 27) = W0 := ⟨_, rfl⟩
  have D0 : Hid (Below w.heap.size w W0) := hide (by rw [← hW0]; exact alloc_below _ _)
  have B0 : Hid (W0.heap[w.heap.size]? = some (.cells #[.int .i64 n, .int .i64 m, .slice a1 St.length c1, .slice a2 Fi.length c2, .slice a3 Ed.length c3, .int .i64 nb, .int .i64 mb, .slice b1 l1 d1, .slice b2 l2 d2, .slice b3 l3 d3, .slice q1 Q.length cq, .slice p1 lp cp, .int .i64 sym, .slice u1 Wd.length cw, .int .i64 kk, .slice o1 lo co] 27 (0, 0))) := hide (by rw [← hW0]; exact World.alloc_heap_new _ _)
  have SK : Hid (∀ W, Below W0.heap.size W0 W → (fun W => (W.cell? ⟨w.heap.size, 0, none⟩ = some (.int .i64 n) ∧ W.cell? ⟨w.heap.size, 1, none⟩ = some (.int .i64 m) ∧ W.cell? ⟨w.heap.size, 2, none⟩ = some (.slice a1 St.length c1) ∧ W.cell? ⟨w.heap.size, 3, none⟩ = some (.slice a2 Fi.length c2) ∧ W.cell? ⟨w.heap.size, 4, none⟩ = some (.slice a3 Ed.length c3) ∧ W.cell? ⟨w.heap.size, 10, none⟩ = some (.slice q1 Q.length cq) ∧ W.cell? ⟨w.heap.size, 12, none⟩ = some (.int .i64 sym) ∧ W.cell? ⟨w.heap.size, 13, none⟩ = some (.slice u1 Wd.length cw) ∧ Hid (Below W0.heap.size W0 W))) W) := hide (fun W d => by
    have e := blk_on B0.out d
    exact ⟨cell_of e rfl, cell_of e rfl, cell_of e rfl, cell_of e rfl, cell_of e rfl, cell_of e rfl, cell_of e rfl, cell_of e rfl, hide d⟩)
  have SD : Hid (∀ W, (fun W => (W.cell? ⟨w.heap.size, 0, none⟩ = some (.int .i64 n) ∧ W.cell? ⟨w.heap.size, 1, none⟩ = some (.int .i64 m) ∧ W.cell? ⟨w.heap.size, 2, none⟩ = some (.slice a1 St.length c1) ∧ W.cell? ⟨w.heap.size, 3, none⟩ = some (.slice a2 Fi.length c2) ∧ W.cell? ⟨w.heap.size, 4, none⟩ = some (.slice a3 Ed.length c3) ∧ W.cell? ⟨w.heap.size, 10, none⟩ = some (.slice q1 Q.length cq) ∧ W.cell? ⟨w.heap.size, 12, none⟩ = some (.int .i64 sym) ∧ W.cell? ⟨w.heap.size, 13, none⟩ = some (.slice u1 Wd.length cw) ∧ Hid (Below W0.heap.size W0 W))) W → Below W0.heap.size W0 W) := hide (fun W h => h.2.2.2.2.2.2.2.2.out)
  have T10 : Hid (∀ W, Below W0.heap.size W0 W → Calls Tryz.prog 10 #[.agg #[.int .i64 n, .int .i64 m, .slice a1 St.length c1, .slice a2 Fi.length c2, .slice a3 Ed.length c3]] W fun e w' => ∃ g1 k1 g2 k2 g3 k3, e = .returned (.agg #[.int .i64 n, .int .i64 m, .slice (some ⟨g1, 0, none⟩) St.length k1, .slice (some ⟨g2, 0, none⟩) Fi.length k2, .slice (some ⟨g3, 0, none⟩) Ed.length k3]) ∧ Hid (RdA w' (some ⟨g1, 0, none⟩) (some ⟨g2, 0, none⟩) (some ⟨g3, 0, none⟩) St Fi Ed) ∧ Below W0.heap.size W0 w' ∧ Below W.heap.size W w') := hide (fun W d => by
    refine (twin_any W n m a1 a2 a3 c1 c2 c3 St Fi Ed (hide (hA.out.on (D0.out.trans (d.mono D0.out.size)))) (by omega) (by omega) (by omega)).mono ?_
    rintro e w' ⟨g1, k1, g2, k2, g3, k3, he, ht, dd⟩
    exact ⟨g1, k1, g2, k2, g3, k3, he, hide ht.out.rd, d.trans (dd.mono d.size), dd⟩)
  have T11q : Hid (∀ W, Below W0.heap.size W0 W → Calls Tryz.prog 11 #[.slice q1 Q.length cq] W fun e w' => ∃ g c, e = .returned (.slice (some ⟨g, 0, none⟩) Q.length c) ∧ Hid (RdN w' (some ⟨g, 0, none⟩) Q) ∧ Below W0.heap.size W0 w' ∧ Below W.heap.size W w') := hide (fun W d => by
    refine (ints_any W q1 Q cq (hide (hQ.out.on (D0.out.trans (d.mono D0.out.size)))) (by omega)).mono ?_
    rintro e w' ⟨g, c, he, hm, dd⟩
    exact ⟨g, c, he, hide hm.out.rd, d.trans (dd.mono d.size), dd⟩)
  have T11u : Hid (∀ W, Below W0.heap.size W0 W → Calls Tryz.prog 11 #[.slice u1 Wd.length cw] W fun e w' => ∃ g c, e = .returned (.slice (some ⟨g, 0, none⟩) Wd.length c) ∧ Hid (RdN w' (some ⟨g, 0, none⟩) Wd) ∧ Below W0.heap.size W0 w' ∧ Below W.heap.size W w') := hide (fun W d => by
    refine (ints_any W u1 Wd cw (hide (hU.out.on (D0.out.trans (d.mono D0.out.size)))) (by omega)).mono ?_
    rintro e w' ⟨g, c, he, hm, dd⟩
    exact ⟨g, c, he, hide hm.out.rd, d.trans (dd.mono d.size), dd⟩)
  have TA : Hid (∀ W, Below W0.heap.size W0 W → TabAt W ∧ 0 < W.heap.size) := hide (fun W d => by
    have d2 := D0.out.trans (d.mono D0.out.size)
    exact ⟨hT.out.1.below d2 hT.out.2, Nat.lt_of_lt_of_le hT.out.2 d2.size⟩)
  have T8 : Calls Tryz.prog 8 #[] W0 fun e w' => e = .returned (.bool true) ∧ Below W0.heap.size W0 w' := works_any W0 (hide (TA.out W0 (Below.refl _ _)))
  go_enter Tryz.func4, Tryz.ntmps4
  go_upto_region 3 with (go_at_call 8; refine T8.mono ?_; rintro e w1 ⟨rfl, d1⟩)
  have D1 := hide d1
  clear T8 d1
  obtain ⟨r, hr⟩ : ∃ r, imgErr n m St Fi Ed Q sym = r := ⟨_, rfl⟩
  have TP : Hid (∀ (W : World) (g1 k1 g2 k2 g3 k3 gq kq : Nat), Below W0.heap.size W0 W → RdA W (some ⟨g1, 0, none⟩) (some ⟨g2, 0, none⟩) (some ⟨g3, 0, none⟩) St Fi Ed → RdN W (some ⟨gq, 0, none⟩) Q → Calls Tryz.prog 15 #[.agg #[.int .i64 n, .int .i64 m, .slice (some ⟨g1, 0, none⟩) St.length k1, .slice (some ⟨g2, 0, none⟩) Fi.length k2, .slice (some ⟨g3, 0, none⟩) Ed.length k3], .slice (some ⟨gq, 0, none⟩) Q.length kq, .int .i64 sym] W fun e w' => e = .returned (.tuple #[.slice none 0 0, .int .i64 r]) ∧ Below W0.heap.size W0 w') := hide (fun W g1 k1 g2 k2 g3 k3 gq kq d hA hQ => by
    have t := post_bad W n m (some ⟨g1, 0, none⟩) (some ⟨g2, 0, none⟩) (some ⟨g3, 0, none⟩) (some ⟨gq, 0, none⟩) k1 k2 k3 kq St Fi Ed Q sym (hide hA) (hide hQ) (by omega) (by omega) (by omega) (by omega) (hide hbad)
    rw [hr] at t
    exact t.mono fun e w' ⟨h, dd⟩ => ⟨h, d.trans (dd.mono d.size)⟩)
  have TR : Hid (∀ (W : World) (g1 k1 g2 k2 g3 k3 gq kq : Nat), Below W0.heap.size W0 W → RdA W (some ⟨g1, 0, none⟩) (some ⟨g2, 0, none⟩) (some ⟨g3, 0, none⟩) St Fi Ed → RdN W (some ⟨gq, 0, none⟩) Q → Calls Tryz.prog 16 #[.agg #[.int .i64 n, .int .i64 m, .slice (some ⟨g1, 0, none⟩) St.length k1, .slice (some ⟨g2, 0, none⟩) Fi.length k2, .slice (some ⟨g3, 0, none⟩) Ed.length k3], .slice (some ⟨gq, 0, none⟩) Q.length kq, .int .i64 sym] W fun e w' => e = .returned (.tuple #[.slice none 0 0, .int .i64 r]) ∧ Below W0.heap.size W0 w') := hide (fun W g1 k1 g2 k2 g3 k3 gq kq d hA hQ => by
    have t := pre_bad W n m (some ⟨g1, 0, none⟩) (some ⟨g2, 0, none⟩) (some ⟨g3, 0, none⟩) (some ⟨gq, 0, none⟩) k1 k2 k3 kq St Fi Ed Q sym (hide hA) (hide hQ) (by omega) (by omega) (by omega) (by omega) (hide hbad)
    rw [hr] at t
    exact t.mono fun e w' ⟨h, dd⟩ => ⟨h, d.trans (dd.mono d.size)⟩)
  have hr0 : r ≠ 0 := by rw [← hr]; exact hbad
  have hr1 : (r != 0) = true := by simpa using hr0
  have hr2 : (r == r) = true := by simp
  clear hr hbad
  go_cut [3, 4] from 3 to 28 (fun pv ev W => pv = .slice none 0 0 ∧ ev = .int .i64 r ∧ Hid (Below W0.heap.size W0 W))
  case first =>
    have S0 := SK.out w1.drew D1.out.drew
    go_region_held3 (fun W => (W.cell? ⟨w.heap.size, 0, none⟩ = some (.int .i64 n) ∧ W.cell? ⟨w.heap.size, 1, none⟩ = some (.int .i64 m) ∧ W.cell? ⟨w.heap.size, 2, none⟩ = some (.slice a1 St.length c1) ∧ W.cell? ⟨w.heap.size, 3, none⟩ = some (.slice a2 Fi.length c2) ∧ W.cell? ⟨w.heap.size, 4, none⟩ = some (.slice a3 Ed.length c3) ∧ W.cell? ⟨w.heap.size, 10, none⟩ = some (.slice q1 Q.length cq) ∧ W.cell? ⟨w.heap.size, 12, none⟩ = some (.int .i64 sym) ∧ W.cell? ⟨w.heap.size, 13, none⟩ = some (.slice u1 Wd.length cw) ∧ Hid (Below W0.heap.size W0 W)))
      (with_reducible assumption)
      ((first
        | (go_at_call 10; refine (T10.out _ (SD.out _ (by with_reducible assumption))).mono ?_; rintro e wa ⟨g1, k1, g2, k2, g3, k3, rfl, hA1, Da, da⟩; have Sa := SK.out wa Da)
        | (go_at_call 11; refine (T11q.out _ (SD.out _ (by with_reducible assumption))).mono ?_; rintro e wb ⟨gq, kq, rfl, hQ1, Db, db⟩; have Sb := SK.out wb Db; have hA2 := hide (hA1.out.on db))
        | (go_at_call 15; refine (TP.out _ _ _ _ _ _ _ _ _ (SD.out _ (by with_reducible assumption)) hA2.out hQ1.out).mono ?_; rintro e wc ⟨rfl, Dc⟩; have Sc := SK.out wc Dc)))
    all_goals (
      go_wp2_with fail
      go_meet
      exact ⟨rfl, rfl, hide Dc⟩)
  case rest =>
    obtain ⟨rfl, rfl, HB⟩ := hcut
    rename World => wx
    clear D1 w1
    go_upto_region 4 with fail
    go_cut [5, 6] from 5 to 40 (fun pv ev W => pv = .slice none 0 0 ∧ ev = .int .i64 r ∧ Hid (Below W0.heap.size W0 W))
    case first =>
      have S0 := SK.out wx.drew HB.out.drew
      go_region_held3 (fun W => (W.cell? ⟨w.heap.size, 0, none⟩ = some (.int .i64 n) ∧ W.cell? ⟨w.heap.size, 1, none⟩ = some (.int .i64 m) ∧ W.cell? ⟨w.heap.size, 2, none⟩ = some (.slice a1 St.length c1) ∧ W.cell? ⟨w.heap.size, 3, none⟩ = some (.slice a2 Fi.length c2) ∧ W.cell? ⟨w.heap.size, 4, none⟩ = some (.slice a3 Ed.length c3) ∧ W.cell? ⟨w.heap.size, 10, none⟩ = some (.slice q1 Q.length cq) ∧ W.cell? ⟨w.heap.size, 12, none⟩ = some (.int .i64 sym) ∧ W.cell? ⟨w.heap.size, 13, none⟩ = some (.slice u1 Wd.length cw) ∧ Hid (Below W0.heap.size W0 W)))
        (with_reducible assumption)
        ((first
          | (go_at_call 10; refine (T10.out _ (SD.out _ (by with_reducible assumption))).mono ?_; rintro e wa ⟨g1, k1, g2, k2, g3, k3, rfl, hA1, Da, da⟩; have Sa := SK.out wa Da)
          | (go_at_call 11; refine (T11q.out _ (SD.out _ (by with_reducible assumption))).mono ?_; rintro e wb ⟨gq, kq, rfl, hQ1, Db, db⟩; have Sb := SK.out wb Db; have hA2 := hide (hA1.out.on db))
          | (go_at_call 16; refine (TR.out _ _ _ _ _ _ _ _ _ (SD.out _ (by with_reducible assumption)) hA2.out hQ1.out).mono ?_; rintro e wc ⟨rfl, Dc⟩; have Sc := SK.out wc Dc)))
      all_goals (
        go_wp2_with fail
        go_meet
        exact ⟨rfl, rfl, hide Dc⟩)
    case rest =>
      obtain ⟨rfl, rfl, HC⟩ := hcut
      go_wp2
      refine bodyPost_ret (results_tmp rfl _ _ _) rfl ?_
      exact ⟨rfl, D0.out.trans (HC.out.mono D0.out.size)⟩
end Go.Proofs.YtfoahpideglghaaGreatDoor
