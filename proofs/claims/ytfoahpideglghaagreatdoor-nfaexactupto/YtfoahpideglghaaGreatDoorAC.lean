import Derived.Test.YtfoahpideglghaaGreatDoorWB
import Derived.Deep.RegionHeld3
namespace Go.Proofs.YtfoahpideglghaaGreatDoor
open Go.RowKit Go.Maps Go.Shelf
attribute [local go_sem] Oper.semAt_some

/-! ### Where a word leads -/
theorem imgF_rise (back : Bool) (X : Nat) (y : Int) (L : List EdT) : imgF back X y (riseE L) = imgF back X y L := by
  apply Nat.eq_of_testBit_eq
  intro q
  rw [Bool.eq_iff_iff, imgF_test, imgF_test]
  constructor
  · rintro ⟨e, he, h⟩; exact ⟨e, (riseE_iff L e).1 he, h⟩
  · rintro ⟨e, he, h⟩; exact ⟨e, (riseE_iff L e).2 he, h⟩
/-- The states that a word leads to, as a number. -/
def wordF (Ed : List EdT) (X : Nat) (Wd : List Int) : Nat := Wd.foldl (fun X y => imgF false X y Ed) X
theorem wordF_snoc (Ed : List EdT) (X : Nat) (Wd : List Int) (y : Int) : wordF Ed X (Wd ++ [y]) = imgF false (wordF Ed X Wd) y Ed := by simp [wordF]
theorem rdE_own {W : World} {B b cap : Nat} {X : List EdT} (h : W.ownsRow B 59 3 (.slice (some ⟨b, 0, none⟩) X.length cap) X.length (X.flatMap encE)) : RdE W (some ⟨b, 0, none⟩) X := fun j hj => by
  have := rdE_cells h j hj
  exact ⟨b, 0, rfl, by simpa using this⟩
theorem own_cap {W : World} {B b cap n : Nat} {e : TypeId} {sz : Nat} {xs : List Value} (h : W.ownsRow B e sz (.slice (some ⟨b, 0, none⟩) n cap) n xs) : n ≤ cap := by
  rcases h.2 with ⟨hv, _⟩ | ⟨g', cap', cur, hv, _, _, hn, _⟩
  · cases hv
  · cases hv; exact hn
theorem wk_of {w w' : World} {N g1 k1 g2 k2 g3 k3 gf B : Nat} {S F : List Int} {Ed : List EdT} (hO : Own B w g1 k1 g2 k2 g3 k3 S F (riseE Ed)) (d : Below w.heap.size w w') (hM : Mrw w' gf 3 (N + 1) (fun c => .int .i64 (lessC (riseE Ed) c : Nat)) (N + 1))
    (hi : ∀ x ∈ Ed, (0 ≤ x.1 ∧ x.1 < (N : Int)) ∧ 0 ≤ x.2.2 ∧ x.2.2 < (N : Int)) (hl : Ed.length ≤ 4194304) (hN : N ≤ 4096) : Wk w' N g3 k3 gf (riseE Ed) :=
  ⟨(rdE_own hO.e).on d, own_cap hO.e, hM, riseE_ss Ed, fun x hx => hi x ((riseE_iff Ed x).1 hx), Nat.le_trans (riseE_len Ed) hl, hN⟩
theorem may_in {N : Nat} {m : Int} {St Fi : List Int} {Ed : List EdT} (em : mayA N m St Fi Ed = true) : ∀ x ∈ Ed, (0 ≤ x.1 ∧ x.1 < (N : Int)) ∧ 0 ≤ x.2.2 ∧ x.2.2 < (N : Int) := fun x hx => by
  have := (may_parts em).2.2.2.2.2 x hx
  exact ⟨this.1, this.2.2⟩
set_option maxRecDepth 100000 in
set_option maxHeartbeats 2000000 in
theorem after_any (w : World) (N : Nat) (m : Int) (a1 a2 a3 aw : Option Addr) (c1 c2 c3 cw : Nat) (St Fi : List Int) (Ed : List EdT) (Wd : List Int) (hA : Hid (RdA w a1 a2 a3 St Fi Ed)) (hWd : Hid (RdN w aw Wd)) (hT : Hid (TabAt w ∧ 0 < w.heap.size)) (h1 : St.length ≤ 4194304) (h2 : Fi.length ≤ 4194304) (h3 : Ed.length ≤ 4194304) (hw : Wd.length ≤ 4194304) (em : Hid (mayA N m St Fi Ed = true)) :
    Calls Tryz.prog 53 #[.agg #[.int .i64 (N : Int), .int .i64 m, .slice a1 St.length c1, .slice a2 Fi.length c2, .slice a3 Ed.length c3], .slice aw Wd.length cw] w fun e w' => ∃ b g cap, e = .returned (.pointer (some ⟨b, 0, none⟩)) ∧ Hid (IsSet w' b g cap N (wordF Ed (setI N St) Wd) ∧ w.heap.size ≤ b ∧ w.heap.size ≤ g ∧ b ≠ g) ∧ Below w.heap.size w w' := by
  have hN : N ≤ 4096 := by have := (may_parts em.out).1; omega
  have HIN := hide (may_in em.out)
  obtain ⟨W0, hW0⟩ : ∃ W0, w.alloc (.cells #[.int .i64 (N : Nat), .int .i64 m, .slice a1 St.length c1, .slice a2 Fi.length c2, .slice a3 Ed.length c3] 25) = W0 := ⟨_, rfl⟩
  have d0 : Below w.heap.size w W0 := by rw [← hW0]; exact (Below.refl _ _).alloc (Nat.le_refl _) _
  have B0 : W0.heap[w.heap.size]? = some (.cells #[.int .i64 (N : Nat), .int .i64 m, .slice a1 St.length c1, .slice a2 Fi.length c2, .slice a3 Ed.length c3] 25 (0, 0)) := by rw [← hW0]; exact World.alloc_heap_new _ _
  have y0 : W0.cell? ⟨w.heap.size, 0, none⟩ = some (.int .i64 (N : Nat)) := cell_of B0 rfl
  have y1 : W0.cell? ⟨w.heap.size, 1, none⟩ = some (.int .i64 m) := cell_of B0 rfl
  have y2 : W0.cell? ⟨w.heap.size, 2, none⟩ = some (.slice a1 St.length c1) := cell_of B0 rfl
  have y3 : W0.cell? ⟨w.heap.size, 3, none⟩ = some (.slice a2 Fi.length c2) := cell_of B0 rfl
  have y4 : W0.cell? ⟨w.heap.size, 4, none⟩ = some (.slice a3 Ed.length c3) := cell_of B0 rfl
  have HD := hide (And.intro d0 B0)
  have TO := inOrder_any W0 N m a1 a2 a3 c1 c2 c3 St Fi Ed (hide (hA.out.on d0)) h1 h2 h3
  have HFr : Hid (∀ e ∈ riseE Ed, 0 ≤ e.1 ∧ e.1 < (N : Int)) := hide (fun e he => (HIN.out e ((riseE_iff Ed e).1 he)).1)
  have hl3 : (riseE Ed).length ≤ 4194304 := Nat.le_trans (riseE_len Ed) h3
  have WK := hide (fun (w1 w2 : World) (g1 k1 g2 k2 g3 k3 gf B : Nat) (S F : List Int) => wk_of (N := N) (w := w1) (w' := w2) (g1 := g1) (k1 := k1) (g2 := g2) (k2 := k2) (g3 := g3) (k3 := k3) (gf := gf) (B := B) (S := S) (F := F) (Ed := Ed))
  have IMG := hide (fun X y => imgF_rise false X y Ed)
  generalize riseE Ed = Es at TO HFr hl3 WK IMG
  clear d0 B0
  go_enter Tryz.func53, Tryz.ntmps53
  go_upto_region 2 with (first
    | (go_at_call 62; refine TO.mono ?_; rintro e w1 ⟨g1, k1, g2, k2, g3, k3, rfl, hO, d1⟩; have TN := newWalk_any w1 N m (some ⟨g1, 0, none⟩) (some ⟨g2, 0, none⟩) (some ⟨g3, 0, none⟩) (riseL St).length (riseL Fi).length k1 k2 k3 Es hN (hide (rdE_own hO.e)) hl3 HFr)
    | (go_at_call 85; refine TN.mono ?_; rintro e w2 ⟨gf, rfl, hM, hgf, d2⟩))
  obtain ⟨W3, hW3⟩ : ∃ W3, w2.alloc (.cells #[.int .i64 (N : Int), .int .i64 m, .slice (some ⟨g1, 0, none⟩) (riseL St).length k1, .slice (some ⟨g2, 0, none⟩) (riseL Fi).length k2, .slice (some ⟨g3, 0, none⟩) Es.length k3, .slice (some ⟨gf, 0, none⟩) (N + 1) (N + 1)] 80) = W3 := ⟨_, rfl⟩
  rw [hW3]
  have d3 : Below w2.heap.size w2 W3 := by rw [← hW3]; exact (Below.refl _ _).alloc (Nat.le_refl _) _
  have b3 : W3.heap[w2.heap.size]? = some (.cells #[.int .i64 (N : Int), .int .i64 m, .slice (some ⟨g1, 0, none⟩) (riseL St).length k1, .slice (some ⟨g2, 0, none⟩) (riseL Fi).length k2, .slice (some ⟨g3, 0, none⟩) Es.length k3, .slice (some ⟨gf, 0, none⟩) (N + 1) (N + 1)] 80 (0, 0)) := by rw [← hW3]; exact World.alloc_heap_new _ _
  have D02 : Below W0.heap.size W0 w2 := d1.trans (d2.mono d1.size)
  have D03 : Below W0.heap.size W0 W3 := D02.trans (d3.mono D02.size)
  have H3 := hide (And.intro ((WK.out w1 w2 g1 k1 g2 k2 g3 k3 gf _ _ _ hO d2 hM HIN.out h3 hN).on d3) (And.intro b3 D03))
  clear y0 y1 y2 y3 y4 TO TN hO d1 hM d2 hW3 d3 b3 D02 D03 WK hW0
  have B0 := blk_on HD.out.2 H3.out.2.2
  have y0 : W3.cell? ⟨w.heap.size, 0, none⟩ = some (.int .i64 (N : Nat)) := cell_of B0 rfl
  have y1 : W3.cell? ⟨w.heap.size, 1, none⟩ = some (.int .i64 m) := cell_of B0 rfl
  have y2 : W3.cell? ⟨w.heap.size, 2, none⟩ = some (.slice a1 St.length c1) := cell_of B0 rfl
  have y3 : W3.cell? ⟨w.heap.size, 3, none⟩ = some (.slice a2 Fi.length c2) := cell_of B0 rfl
  have y4 : W3.cell? ⟨w.heap.size, 4, none⟩ = some (.slice a3 Ed.length c3) := cell_of B0 rfl
  have D3 : Hid (Below w.heap.size w W3) := hide (HD.out.1.trans (H3.out.2.2.mono HD.out.1.size))
  have T54 := setOf_any W3 N m a1 a2 a3 a1 St.length Fi.length Ed.length c1 c2 c3 c1 St (hide (hA.out.s.on D3.out)) h1 hN (hide (may_parts em.out).2.2.2.1)
  clear B0
  go_wp2_with (go_at_call 54; refine T54.mono ?_; rintro e w4 ⟨b0, g0, k0, rfl, hs4, hb4, hg4, hbg4, d4⟩)
  have hz3 := D3.out.size
  have H4 : Hid (IsSet w4 b0 g0 k0 N (wordF Ed (setI N St) (Wd.take 0)) ∧ w.heap.size ≤ b0 ∧ w.heap.size ≤ g0 ∧ b0 ≠ g0 ∧ Below W3.heap.size W3 w4) := hide ⟨hs4, by omega, by omega, hbg4, d4⟩
  clear y0 y1 y2 y3 y4 hs4 d4 T54
  go_loopw [6, 18] (fun pv iv wr => ∃ i b g k : Nat, i ≤ Wd.length ∧ pv = .pointer (some ⟨b, 0, none⟩) ∧ iv = .int .i64 i ∧ Hid (IsSet wr b g k N (wordF Ed (setI N St) (Wd.take i)) ∧ w.heap.size ≤ b ∧ w.heap.size ≤ g ∧ b ≠ g ∧ Below W3.heap.size W3 wr)) (fun _ iv _ => Wd.length - (intOf iv).toNat)
  case atStart => exact ⟨0, b0, g0, k0, Nat.zero_le _, rfl, rfl, H4⟩
  case round =>
    clear H4 hb4 hg4 hbg4
    obtain ⟨i, b, g, k, hi, rfl, rfl, HY⟩ := hrel
    by_cases hlt : i < Wd.length
    · have i0 : (0 : Int) ≤ (i : Int) := by omega
      have i1 : (i : Int) < (Wd.length : Int) := by omega
      have DR := hide (D3.out.trans (HY.out.2.2.2.2.mono D3.out.size))
      obtain ⟨gw, ow, rfl, qw⟩ := (hWd.out.on DR.out) i hlt
      have HTk := hide (show Wd.take (i + 1) = Wd.take i ++ [Wd[i]] by rw [List.take_add_one, List.getElem?_eq_getElem hlt]; rfl)
      generalize Wd[i] = sy at qw HTk
      have B5 := blk_on H3.out.2.1 HY.out.2.2.2.2
      have y0 : wr.cell? ⟨w2.heap.size, 0, none⟩ = some (.int .i64 (N : Nat)) := cell_of B5 rfl
      have y1 : wr.cell? ⟨w2.heap.size, 1, none⟩ = some (.int .i64 m) := cell_of B5 rfl
      have y2 : wr.cell? ⟨w2.heap.size, 2, none⟩ = some (.slice (some ⟨g1, 0, none⟩) (riseL St).length k1) := cell_of B5 rfl
      have y3 : wr.cell? ⟨w2.heap.size, 3, none⟩ = some (.slice (some ⟨g2, 0, none⟩) (riseL Fi).length k2) := cell_of B5 rfl
      have y4 : wr.cell? ⟨w2.heap.size, 4, none⟩ = some (.slice (some ⟨g3, 0, none⟩) Es.length k3) := cell_of B5 rfl
      have y5 : wr.cell? ⟨w2.heap.size, 5, none⟩ = some (.slice (some ⟨gf, 0, none⟩) (N + 1) (N + 1)) := cell_of B5 rfl
      have T86 := step_any wr N m sy (some ⟨g1, 0, none⟩) (some ⟨g2, 0, none⟩) (riseL St).length (riseL Fi).length k1 k2 g3 k3 gf Es b g k _ (hide (H3.out.1.on HY.out.2.2.2.2)) (hide HY.out.1) (hide ⟨hT.out.1.below DR.out hT.out.2, Nat.lt_of_lt_of_le hT.out.2 DR.out.size⟩)
      clear B5
      go_wp2_with (go_at_call 86; refine T86.mono ?_; rintro e w5 ⟨b5, g5, k5, rfl, hs5, d5⟩)
      refine ⟨⟨i + 1, b5, g5, k5, by omega, rfl, by go_num, hide ⟨?_, Nat.le_trans DR.out.size hs5.out.2.1, Nat.le_trans DR.out.size hs5.out.2.2.1, hs5.out.2.2.2, HY.out.2.2.2.2.trans (d5.mono HY.out.2.2.2.2.size)⟩⟩, by simp [intOf]; omega⟩
      have q := hs5.out.1
      rw [IMG.out] at q
      rw [HTk.out, wordF_snoc]
      exact q
    · obtain rfl : Wd.length = i := by omega
      have i1 : ¬ (Wd.length : Int) < (Wd.length : Int) := by omega
      go_wp2
      refine bodyPost_ret (results_tmp rfl _ _ _) rfl ?_
      have q := HY.out.1
      rw [List.take_length] at q
      exact ⟨b, rfl, ⟨g, k, hide ⟨q, HY.out.2.1, HY.out.2.2.1, HY.out.2.2.2.1⟩⟩, D3.out.trans (HY.out.2.2.2.2.mono D3.out.size)⟩
end Go.Proofs.YtfoahpideglghaaGreatDoor
namespace Go.Proofs.YtfoahpideglghaaGreatDoor
open Go.RowKit Go.Maps Go.Shelf
attribute [local go_sem] Oper.semAt_some

/-! ### After and Accepts -/
theorem owns_down {W : World} {B C : Nat} {e : TypeId} {sz : Nat} {v : Value} {n : Nat} {xs : List Value} (h : W.ownsRow B e sz v n xs) (hC : C ≤ B) : W.ownsRow C e sz v n xs :=
  ⟨h.1, h.2.imp id (fun ⟨g, cap, cur, h1, h2, h3, h4⟩ => ⟨g, cap, cur, h1, Nat.le_trans hC h2, h3, h4⟩)⟩
theorem wordErr_zero {n m : Int} {St Fi : List Int} {Ed : List EdT} {Wd : List Int} (h : wordErr n m St Fi Ed Wd = 0) : mayA n m St Fi Ed = true ∧ Wd.all (inB m) = true := by
  unfold wordErr at h
  split at h
  · rename_i h1
    split at h
    · rename_i h2; exact ⟨h1, h2⟩
    · cases h
  · cases h
set_option maxRecDepth 100000 in
set_option maxHeartbeats 1000000 in
theorem After_bad (w : World) (n : Int) (m : Int) (a1 a2 a3 aw : Option Addr) (c1 c2 c3 cw : Nat) (St Fi : List Int) (Ed : List EdT) (Wd : List Int) (hA : Hid (RdA w a1 a2 a3 St Fi Ed)) (hWd : Hid (RdN w aw Wd)) (h1 : St.length ≤ 4194304) (h2 : Fi.length ≤ 4194304) (h3 : Ed.length ≤ 4194304) (hw : Wd.length ≤ 4194304) (hbad : wordErr n m St Fi Ed Wd ≠ 0) :
    Calls Tryz.prog 19 #[.agg #[.int .i64 n, .int .i64 m, .slice a1 St.length c1, .slice a2 Fi.length c2, .slice a3 Ed.length c3], .slice aw Wd.length cw] w fun e w' => e = .returned (.tuple #[.slice none 0 0, .int .i64 (wordErr n m St Fi Ed Wd)]) ∧ Below w.heap.size w w' := by
  obtain ⟨W0, hW0⟩ : ∃ W0, w.alloc (.cells #[.int .i64 n, .int .i64 m, .slice a1 St.length c1, .slice a2 Fi.length c2, .slice a3 Ed.length c3] 25) = W0 := ⟨_, rfl⟩
  have d0 : Below w.heap.size w W0 := by rw [← hW0]; exact (Below.refl _ _).alloc (Nat.le_refl _) _
  have B0 : W0.heap[w.heap.size]? = some (.cells #[.int .i64 n, .int .i64 m, .slice a1 St.length c1, .slice a2 Fi.length c2, .slice a3 Ed.length c3] 25 (0, 0)) := by rw [← hW0]; exact World.alloc_heap_new _ _
  have y0 : W0.cell? ⟨w.heap.size, 0, none⟩ = some (.int .i64 n) := cell_of B0 rfl
  have y1 : W0.cell? ⟨w.heap.size, 1, none⟩ = some (.int .i64 m) := cell_of B0 rfl
  have y2 : W0.cell? ⟨w.heap.size, 2, none⟩ = some (.slice a1 St.length c1) := cell_of B0 rfl
  have y3 : W0.cell? ⟨w.heap.size, 3, none⟩ = some (.slice a2 Fi.length c2) := cell_of B0 rfl
  have y4 : W0.cell? ⟨w.heap.size, 4, none⟩ = some (.slice a3 Ed.length c3) := cell_of B0 rfl
  have T1 := checkWord_any W0 n m a1 a2 a3 c1 c2 c3 St Fi Ed (hide (hA.out.on d0)) h1 h2 h3 aw cw Wd (hide (hWd.out.on d0)) hw
  have HD := hide (And.intro d0 B0)
  clear d0 B0
  obtain ⟨r, hr⟩ : ∃ r, wordErr n m St Fi Ed Wd = r := ⟨_, rfl⟩
  rw [hr] at T1 hbad
  rw [hr]
  clear hr
  go_enter Tryz.func19, Tryz.ntmps19
  go_wp2_with (go_at_call 51; refine T1.mono ?_; rintro e w1 ⟨rfl, d1⟩; have H1 := hide d1; clear d1)
  go_ret2
  exact ⟨rfl, HD.out.1.trans (H1.out.mono HD.out.1.size)⟩
set_option maxRecDepth 100000 in
set_option maxHeartbeats 1000000 in
theorem Accepts_bad (w : World) (n : Int) (m : Int) (a1 a2 a3 aw : Option Addr) (c1 c2 c3 cw : Nat) (St Fi : List Int) (Ed : List EdT) (Wd : List Int) (hA : Hid (RdA w a1 a2 a3 St Fi Ed)) (hWd : Hid (RdN w aw Wd)) (h1 : St.length ≤ 4194304) (h2 : Fi.length ≤ 4194304) (h3 : Ed.length ≤ 4194304) (hw : Wd.length ≤ 4194304) (hbad : wordErr n m St Fi Ed Wd ≠ 0) :
    Calls Tryz.prog 9 #[.agg #[.int .i64 n, .int .i64 m, .slice a1 St.length c1, .slice a2 Fi.length c2, .slice a3 Ed.length c3], .slice aw Wd.length cw] w fun e w' => e = .returned (.tuple #[.bool false, .int .i64 (wordErr n m St Fi Ed Wd)]) ∧ Below w.heap.size w w' := by
  obtain ⟨W0, hW0⟩ : ∃ W0, w.alloc (.cells #[.int .i64 n, .int .i64 m, .slice a1 St.length c1, .slice a2 Fi.length c2, .slice a3 Ed.length c3] 25) = W0 := ⟨_, rfl⟩
  have d0 : Below w.heap.size w W0 := by rw [← hW0]; exact (Below.refl _ _).alloc (Nat.le_refl _) _
  have B0 : W0.heap[w.heap.size]? = some (.cells #[.int .i64 n, .int .i64 m, .slice a1 St.length c1, .slice a2 Fi.length c2, .slice a3 Ed.length c3] 25 (0, 0)) := by rw [← hW0]; exact World.alloc_heap_new _ _
  have y0 : W0.cell? ⟨w.heap.size, 0, none⟩ = some (.int .i64 n) := cell_of B0 rfl
  have y1 : W0.cell? ⟨w.heap.size, 1, none⟩ = some (.int .i64 m) := cell_of B0 rfl
  have y2 : W0.cell? ⟨w.heap.size, 2, none⟩ = some (.slice a1 St.length c1) := cell_of B0 rfl
  have y3 : W0.cell? ⟨w.heap.size, 3, none⟩ = some (.slice a2 Fi.length c2) := cell_of B0 rfl
  have y4 : W0.cell? ⟨w.heap.size, 4, none⟩ = some (.slice a3 Ed.length c3) := cell_of B0 rfl
  have T1 := checkWord_any W0 n m a1 a2 a3 c1 c2 c3 St Fi Ed (hide (hA.out.on d0)) h1 h2 h3 aw cw Wd (hide (hWd.out.on d0)) hw
  have HD := hide (And.intro d0 B0)
  clear d0 B0
  obtain ⟨r, hr⟩ : ∃ r, wordErr n m St Fi Ed Wd = r := ⟨_, rfl⟩
  rw [hr] at T1 hbad
  rw [hr]
  clear hr
  go_enter Tryz.func9, Tryz.ntmps9
  go_wp2_with (go_at_call 51; refine T1.mono ?_; rintro e w1 ⟨rfl, d1⟩; have H1 := hide d1; clear d1)
  go_ret2
  exact ⟨rfl, HD.out.1.trans (H1.out.mono HD.out.1.size)⟩
set_option maxRecDepth 100000 in
set_option maxHeartbeats 1000000 in
theorem After_ok (w : World) (N : Nat) (m : Int) (a1 a2 a3 aw : Option Addr) (c1 c2 c3 cw : Nat) (St Fi : List Int) (Ed : List EdT) (Wd : List Int) (hA : Hid (RdA w a1 a2 a3 St Fi Ed)) (hWd : Hid (RdN w aw Wd)) (hT : Hid (TabAt w ∧ 0 < w.heap.size)) (h1 : St.length ≤ 4194304) (h2 : Fi.length ≤ 4194304) (h3 : Ed.length ≤ 4194304) (hw : Wd.length ≤ 4194304) (hok : wordErr N m St Fi Ed Wd = 0) :
    Calls Tryz.prog 19 #[.agg #[.int .i64 (N : Int), .int .i64 m, .slice a1 St.length c1, .slice a2 Fi.length c2, .slice a3 Ed.length c3], .slice aw Wd.length cw] w fun e w' => ∃ gl capl, e = .returned (.tuple #[.slice (some ⟨gl, 0, none⟩) (elems N (wordF Ed (setI N St) Wd)).length capl, .int .i64 0]) ∧ Hid (w'.ownsRow w.heap.size 3 1 (.slice (some ⟨gl, 0, none⟩) (elems N (wordF Ed (setI N St) Wd)).length capl) (elems N (wordF Ed (setI N St) Wd)).length (intV (elems N (wordF Ed (setI N St) Wd)))) ∧ Below w.heap.size w w' := by
  obtain ⟨W0, hW0⟩ : ∃ W0, w.alloc (.cells #[.int .i64 (N : Int), .int .i64 m, .slice a1 St.length c1, .slice a2 Fi.length c2, .slice a3 Ed.length c3] 25) = W0 := ⟨_, rfl⟩
  have d0 : Below w.heap.size w W0 := by rw [← hW0]; exact (Below.refl _ _).alloc (Nat.le_refl _) _
  have B0 : W0.heap[w.heap.size]? = some (.cells #[.int .i64 (N : Int), .int .i64 m, .slice a1 St.length c1, .slice a2 Fi.length c2, .slice a3 Ed.length c3] 25 (0, 0)) := by rw [← hW0]; exact World.alloc_heap_new _ _
  have y0 : W0.cell? ⟨w.heap.size, 0, none⟩ = some (.int .i64 (N : Int)) := cell_of B0 rfl
  have y1 : W0.cell? ⟨w.heap.size, 1, none⟩ = some (.int .i64 m) := cell_of B0 rfl
  have y2 : W0.cell? ⟨w.heap.size, 2, none⟩ = some (.slice a1 St.length c1) := cell_of B0 rfl
  have y3 : W0.cell? ⟨w.heap.size, 3, none⟩ = some (.slice a2 Fi.length c2) := cell_of B0 rfl
  have y4 : W0.cell? ⟨w.heap.size, 4, none⟩ = some (.slice a3 Ed.length c3) := cell_of B0 rfl
  have T1 := checkWord_any W0 (N : Int) m a1 a2 a3 c1 c2 c3 St Fi Ed (hide (hA.out.on d0)) h1 h2 h3 aw cw Wd (hide (hWd.out.on d0)) hw
  have HD := hide (And.intro d0 B0)
  clear d0 B0
  have HE := hide (wordErr_zero hok)
  rw [hok] at T1
  clear hok
  generalize hZ : wordF Ed (setI N St) Wd = Z
  have TA := hide (fun (W1 : World) (d : Below w.heap.size w W1) => after_any W1 N m a1 a2 a3 aw c1 c2 c3 cw St Fi Ed Wd (hide (hA.out.on d)) (hide (hWd.out.on d)) (hide ⟨hT.out.1.below d hT.out.2, Nat.lt_of_lt_of_le hT.out.2 d.size⟩) h1 h2 h3 hw (hide HE.out.1))
  simp only [hZ] at TA
  clear hZ
  go_enter Tryz.func19, Tryz.ntmps19
  go_upto_region 4 with (go_at_call 51; refine T1.mono ?_; rintro e w1 ⟨rfl, d1⟩; have H1 := hide (And.intro d1 (blk_on HD.out.2 d1)); clear d1)
  clear y0 y1 y2 y3 y4 T1
  have D1 : Hid (Below w.heap.size w w1) := hide (HD.out.1.trans (H1.out.1.mono HD.out.1.size))
  have B1 := H1.out.2
  have y0 : w1.cell? ⟨w.heap.size, 0, none⟩ = some (.int .i64 (N : Int)) := cell_of B1 rfl
  have y1 : w1.cell? ⟨w.heap.size, 1, none⟩ = some (.int .i64 m) := cell_of B1 rfl
  have y2 : w1.cell? ⟨w.heap.size, 2, none⟩ = some (.slice a1 St.length c1) := cell_of B1 rfl
  have y3 : w1.cell? ⟨w.heap.size, 3, none⟩ = some (.slice a2 Fi.length c2) := cell_of B1 rfl
  have y4 : w1.cell? ⟨w.heap.size, 4, none⟩ = some (.slice a3 Ed.length c3) := cell_of B1 rfl
  clear B1
  go_wp2_with (first
    | (go_at_call 53; refine (TA.out _ D1.out).mono ?_; rintro e w2 ⟨b, g, cap, rfl, hs, d2⟩; have D2 : Hid (Below w.heap.size w w2) := hide (D1.out.trans (d2.mono D1.out.size)); clear d2; have TL := list_any b g cap N Z w2 hs.out.1 (hT.out.1.below D2.out hT.out.2))
    | (go_at_call 61; refine TL.mono ?_; rintro e w3 ⟨gl, capl, rfl, hr, d3⟩; have H3 := hide (And.intro hr d3); clear hr d3))
  go_ret2
  exact ⟨gl, capl, rfl, hide (owns_down H3.out.1 D2.out.size), D2.out.trans (H3.out.2.mono D2.out.size)⟩
set_option maxRecDepth 100000 in
set_option maxHeartbeats 2000000 in
theorem Accepts_ok (w : World) (N : Nat) (m : Int) (a1 a2 a3 aw : Option Addr) (c1 c2 c3 cw : Nat) (St Fi : List Int) (Ed : List EdT) (Wd : List Int) (hA : Hid (RdA w a1 a2 a3 St Fi Ed)) (hWd : Hid (RdN w aw Wd)) (hT : Hid (TabAt w ∧ 0 < w.heap.size)) (h1 : St.length ≤ 4194304) (h2 : Fi.length ≤ 4194304) (h3 : Ed.length ≤ 4194304) (hw : Wd.length ≤ 4194304) (hok : wordErr N m St Fi Ed Wd = 0) :
    Calls Tryz.prog 9 #[.agg #[.int .i64 (N : Int), .int .i64 m, .slice a1 St.length c1, .slice a2 Fi.length c2, .slice a3 Ed.length c3], .slice aw Wd.length cw] w fun e w' => e = .returned (.tuple #[.bool (!decide (wordF Ed (setI N St) Wd &&& setI N Fi = 0)), .int .i64 0]) ∧ Below w.heap.size w w' := by
  obtain ⟨W0, hW0⟩ : ∃ W0, w.alloc (.cells #[.int .i64 (N : Int), .int .i64 m, .slice a1 St.length c1, .slice a2 Fi.length c2, .slice a3 Ed.length c3] 25) = W0 := ⟨_, rfl⟩
  have d0 : Below w.heap.size w W0 := by rw [← hW0]; exact (Below.refl _ _).alloc (Nat.le_refl _) _
  have B0 : W0.heap[w.heap.size]? = some (.cells #[.int .i64 (N : Int), .int .i64 m, .slice a1 St.length c1, .slice a2 Fi.length c2, .slice a3 Ed.length c3] 25 (0, 0)) := by rw [← hW0]; exact World.alloc_heap_new _ _
  have y0 : W0.cell? ⟨w.heap.size, 0, none⟩ = some (.int .i64 (N : Int)) := cell_of B0 rfl
  have y1 : W0.cell? ⟨w.heap.size, 1, none⟩ = some (.int .i64 m) := cell_of B0 rfl
  have y2 : W0.cell? ⟨w.heap.size, 2, none⟩ = some (.slice a1 St.length c1) := cell_of B0 rfl
  have y3 : W0.cell? ⟨w.heap.size, 3, none⟩ = some (.slice a2 Fi.length c2) := cell_of B0 rfl
  have y4 : W0.cell? ⟨w.heap.size, 4, none⟩ = some (.slice a3 Ed.length c3) := cell_of B0 rfl
  have T1 := checkWord_any W0 (N : Int) m a1 a2 a3 c1 c2 c3 St Fi Ed (hide (hA.out.on d0)) h1 h2 h3 aw cw Wd (hide (hWd.out.on d0)) hw
  have HD := hide (And.intro d0 B0)
  clear d0 B0
  have HE := hide (wordErr_zero hok)
  rw [hok] at T1
  clear hok
  have hN : N ≤ 4096 := by have := (may_parts HE.out.1).1; omega
  obtain ⟨Z, hZ⟩ : ∃ Z, wordF Ed (setI N St) Wd = Z := ⟨_, rfl⟩
  obtain ⟨Y, hY⟩ : ∃ Y, setI N Fi = Y := ⟨_, rfl⟩
  rw [hZ, hY]
  have T53 : Hid (∀ W, Below W0.heap.size W0 W → Calls Tryz.prog 53 #[.agg #[.int .i64 (N : Int), .int .i64 m, .slice a1 St.length c1, .slice a2 Fi.length c2, .slice a3 Ed.length c3], .slice aw Wd.length cw] W fun e w' => ∃ b g cap, e = .returned (.pointer (some ⟨b, 0, none⟩)) ∧ Hid (IsSet w' b g cap N Z ∧ b < w'.heap.size ∧ g < w'.heap.size ∧ Below W.heap.size W w') ∧ Below W0.heap.size W0 w') := hide (fun W d0 => by
    have d := HD.out.1.trans (d0.mono HD.out.1.size)
    refine (after_any W N m a1 a2 a3 aw c1 c2 c3 cw St Fi Ed Wd (hide (hA.out.on d)) (hide (hWd.out.on d)) (hide ⟨hT.out.1.below d hT.out.2, Nat.lt_of_lt_of_le hT.out.2 d.size⟩) h1 h2 h3 hw (hide HE.out.1)).mono ?_
    rintro e w' ⟨b, g, cap, he, hs, dd⟩
    have q := hs.out.1
    rw [hZ] at q
    exact ⟨b, g, cap, he, hide ⟨q, q.blt, q.glt, dd⟩, d0.trans (dd.mono d0.size)⟩)
  have T54 : Hid (∀ W, Below W0.heap.size W0 W → Calls Tryz.prog 54 #[.agg #[.int .i64 (N : Int), .int .i64 m, .slice a1 St.length c1, .slice a2 Fi.length c2, .slice a3 Ed.length c3], .slice a2 Fi.length c2] W fun e w' => ∃ b g cap, e = .returned (.pointer (some ⟨b, 0, none⟩)) ∧ Hid (IsSet w' b g cap N Y ∧ Below W.heap.size W w') ∧ Below W0.heap.size W0 w') := hide (fun W d0 => by
    have d := HD.out.1.trans (d0.mono HD.out.1.size)
    refine (setOf_any W N m a1 a2 a3 a2 St.length Fi.length Ed.length c1 c2 c3 c2 Fi (hide (hA.out.f.on d)) h2 hN (hide (may_parts HE.out.1).2.2.2.2.1)).mono ?_
    rintro e w' ⟨b, g, cap, he, hs, hb, hg, hbg, dd⟩
    rw [hY] at hs
    exact ⟨b, g, cap, he, hide ⟨hs, dd⟩, d0.trans (dd.mono d0.size)⟩)
  have SK : Hid (∀ W, Below W0.heap.size W0 W → (fun W => (W.cell? ⟨w.heap.size, 0, none⟩ = some (.int .i64 (N : Int)) ∧ W.cell? ⟨w.heap.size, 1, none⟩ = some (.int .i64 m) ∧ W.cell? ⟨w.heap.size, 2, none⟩ = some (.slice a1 St.length c1) ∧ W.cell? ⟨w.heap.size, 3, none⟩ = some (.slice a2 Fi.length c2) ∧ W.cell? ⟨w.heap.size, 4, none⟩ = some (.slice a3 Ed.length c3) ∧ Hid (Below W0.heap.size W0 W))) W) := hide (fun W d => by
    have e := blk_on HD.out.2 d
    exact ⟨cell_of e rfl, cell_of e rfl, cell_of e rfl, cell_of e rfl, cell_of e rfl, hide d⟩)
  have SD : Hid (∀ W, (fun W => (W.cell? ⟨w.heap.size, 0, none⟩ = some (.int .i64 (N : Int)) ∧ W.cell? ⟨w.heap.size, 1, none⟩ = some (.int .i64 m) ∧ W.cell? ⟨w.heap.size, 2, none⟩ = some (.slice a1 St.length c1) ∧ W.cell? ⟨w.heap.size, 3, none⟩ = some (.slice a2 Fi.length c2) ∧ W.cell? ⟨w.heap.size, 4, none⟩ = some (.slice a3 Ed.length c3) ∧ Hid (Below W0.heap.size W0 W))) W → Below W0.heap.size W0 W) := hide (fun W h => h.2.2.2.2.2.out)
  clear hZ hY
  go_enter Tryz.func9, Tryz.ntmps9
  go_upto_region 4 with (go_at_call 51; refine T1.mono ?_; rintro e w1 ⟨rfl, d1⟩; have H1 := hide d1; clear d1)
  clear y0 y1 y2 y3 y4 T1
  have S0 := SK.out w1.drew H1.out.drew
  go_region_held3 (fun W => (W.cell? ⟨w.heap.size, 0, none⟩ = some (.int .i64 (N : Int)) ∧ W.cell? ⟨w.heap.size, 1, none⟩ = some (.int .i64 m) ∧ W.cell? ⟨w.heap.size, 2, none⟩ = some (.slice a1 St.length c1) ∧ W.cell? ⟨w.heap.size, 3, none⟩ = some (.slice a2 Fi.length c2) ∧ W.cell? ⟨w.heap.size, 4, none⟩ = some (.slice a3 Ed.length c3) ∧ Hid (Below W0.heap.size W0 W)))
    (with_reducible assumption)
    ((first
      | (go_at_call 53; refine (T53.out _ (SD.out _ (by with_reducible assumption))).mono ?_; rintro e wa ⟨b1, g1, k1, rfl, hs1, Da⟩; have Sa := SK.out wa Da)
      | (go_at_call_of 54 a2; refine (T54.out _ (SD.out _ (by with_reducible assumption))).mono ?_; rintro e wb ⟨b2, g2, k2, rfl, hs2, Db⟩; have Sb := SK.out wb Db)
      | (go_at_call 52; refine (meets_any b1 g1 k1 N Z b2 g2 k2 Y wb (hs1.out.1.keep (hs2.out.2.block b1 hs1.out.2.1) (hs2.out.2.block g1 hs1.out.2.2.1)) hs2.out.1).mono ?_; rintro e wc ⟨rfl, dc⟩; have Dc := Db.trans (dc.mono Db.size); have Sc := SK.out wc Dc)))
  all_goals (
    go_wp2_with fail
    go_ret2
    exact ⟨rfl, HD.out.1.trans (Dc.mono HD.out.1.size)⟩)
end Go.Proofs.YtfoahpideglghaaGreatDoor
