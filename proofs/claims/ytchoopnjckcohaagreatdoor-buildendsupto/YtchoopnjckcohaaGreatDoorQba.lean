import Derived.Test.YtchoopnjckcohaaGreatDoorQaz
namespace Go.Proofs.YtchoopnjckcohaaGreatDoor
open Go.RowKit Go.Maps Go.Shelf
attribute [local go_sem] Oper.semAt_some

/-! ### BuildEnds of an automaton -/
/-- What lies there all the while: what was asked, and both answers. -/
structure EdS (w X : World) (bx : Array Value) (p5 p7 : Nat) (vP vS : Array Value) (p1 p2 p3 s1 s2 s3 : Option Addr) (S1 RP : List Int) (E1 : List EdT) (RS F1 : List Int) : Prop where
  b0 : X.heap[w.heap.size]? = some (.cells bx 27 (0, 0))
  b5 : X.heap[p5]? = some (.cells vP 25 (0, 0))
  b7 : X.heap[p7]? = some (.cells vS 25 (0, 0))
  rP : RdA X p1 p2 p3 S1 RP E1
  rS : RdA X s1 s2 s3 RS F1 E1
  be : Below w.heap.size w X
theorem EdS.on {w X X' : World} {bx : Array Value} {p5 p7 : Nat} {vP vS : Array Value} {p1 p2 p3 s1 s2 s3 : Option Addr} {S1 RP : List Int} {E1 : List EdT} {RS F1 : List Int} (h : EdS w X bx p5 p7 vP vS p1 p2 p3 s1 s2 s3 S1 RP E1 RS F1) (d : Below X.heap.size X X') : EdS w X' bx p5 p7 vP vS p1 p2 p3 s1 s2 s3 S1 RP E1 RS F1 :=
  ⟨blk_on h.b0 d, blk_on h.b5 d, blk_on h.b7 d, h.rP.on d, h.rS.on d, h.be.trans (d.mono h.be.size)⟩
def wdP (n : Nat) (L : List Int) : MkP := fun x _ _ W => ∃ ad c, x = .slice ad n c ∧ RdN W ad L
theorem wdP_mono {n : Nat} {L : List Int} : MonoP (wdP n L) := fun _ _ _ _ _ _ d ⟨ad, c, e, h⟩ => ⟨ad, c, e, h.on d⟩
theorem rd_take {W : World} {ao : Option Addr} {L : List Int} (h : RdN W ao L) (k : Nat) : RdN W ao (L.take k) := fun j hj => by
  have hj2 : j < L.length := by rw [List.length_take] at hj; omega
  obtain ⟨g, o, e, c⟩ := h j hj2
  exact ⟨g, o, e, by rw [List.getElem_take]; exact c⟩
theorem rd_drop {W : World} {ao : Option Addr} {L : List Int} {cw k : Nat} (h : RdN W ao L) (hc : L.length ≤ cw) (hk : k ≤ L.length) : RdN W (if cw = k then ao else Option.map (fun x => x.add k) ao) (L.drop k) := fun j hj => by
  rw [List.length_drop] at hj
  have hj2 : k + j < L.length := by omega
  obtain ⟨g, o, rfl, c⟩ := h (k + j) hj2
  rw [if_neg (by omega)]
  refine ⟨g, o + k, ?_, ?_⟩
  · rw [Option.map_some, Addr.add_lit]
  · rw [List.getElem_drop, Nat.add_assoc]; exact c
theorem aft_in {N : Nat} {m : Int} {St Fi : List Int} {Ed : List EdT} {Wd : List Int} (h : mayA (N : Int) m St Fi Ed = true) : ∀ x ∈ aftL Ed (riseL St) Wd, 0 ≤ x ∧ x < (N : Int) := fun x hx => by
  obtain ⟨p, hp, hr⟩ := (aftL_iff Wd _ x).1 hx
  exact rch_in (fun e he => ((may_parts h).2.2.2.2.2 e he).2.2) Wd p x ((may_st h).1 p ((riseL_iff St p).1 hp)) hr
theorem rem_in (x : Int) (n : Nat) (hn : n ≤ 4194304) : 0 ≤ (wrap64 (wrap64 (x.tmod ((n : Int) + 1) + (n : Int)) + 1)).tmod ((n : Int) + 1) ∧ (wrap64 (wrap64 (x.tmod ((n : Int) + 1) + (n : Int)) + 1)).tmod ((n : Int) + 1) < (n : Int) + 1 := by
  have b1 := Int.tmod_lt_of_pos x (show (0 : Int) < (n : Int) + 1 by omega)
  have b2 := Int.lt_tmod_of_pos x (show (0 : Int) < (n : Int) + 1 by omega)
  generalize x.tmod ((n : Int) + 1) = r at b1 b2
  have e1 : wrap64 (r + (n : Int)) = r + (n : Int) := by unfold wrap64; omega
  rw [e1]
  have e2 : wrap64 (r + (n : Int) + 1) = r + (n : Int) + 1 := by unfold wrap64; omega
  rw [e2]
  exact ⟨Int.tmod_nonneg _ (by omega), Int.tmod_lt_of_pos _ (by omega)⟩
set_option maxRecDepth 100000 in
set_option maxHeartbeats 4000000 in
theorem tends_ok (w : World) (N m : Nat) (n' m' at' : Int) (a1 a2 a3 b1 b2 b3 aw av : Option Addr) (n1 n2 n3 l1 l2 l3 nw nv c1 c2 c3 d1 d2 d3 cw cv : Nat) (St Fi Wd : List Int) (Ed : List EdT) (en : Hid (St.length = n1 ∧ Fi.length = n2 ∧ Ed.length = n3 ∧ Wd.length = nw)) (hA : Hid (RdA w a1 a2 a3 St Fi Ed)) (h1 : n1 ≤ 4194304) (h2 : n2 ≤ 4194304) (h3 : n3 ≤ 4194304) (hU : Hid (RdN w aw Wd)) (hw : nw ≤ 4194304) (hcw : nw ≤ cw) (hT : Hid (TabAt w)) (h0 : 0 < w.heap.size) (em : mayA (N : Int) (m : Int) St Fi Ed = true) :
    Calls Tryz.prog 3 #[.agg #[.int .i64 (N : Int), .int .i64 (m : Int), .slice a1 n1 c1, .slice a2 n2 c2, .slice a3 n3 c3, .int .i64 n', .int .i64 m', .slice b1 l1 d1, .slice b2 l2 d2, .slice b3 l3 d3, .slice aw nw cw, .slice av nv cv], .int .i64 at'] w fun e w' => e = .returned (.bool true) ∧ Below w.heap.size w w' := by
  obtain ⟨W0, hW0⟩ : ∃ W0, w.alloc (.cells #[.int .i64 (N : Int), .int .i64 (m : Int), .slice a1 n1 c1, .slice a2 n2 c2, .slice a3 n3 c3, .int .i64 n', .int .i64 m', .slice b1 l1 d1, .slice b2 l2 d2, .slice b3 l3 d3, .slice aw nw cw, .slice av nv cv] 27) = W0 := ⟨_, rfl⟩
  have HB : Hid (W0.heap[w.heap.size]? = some (.cells #[.int .i64 (N : Int), .int .i64 (m : Int), .slice a1 n1 c1, .slice a2 n2 c2, .slice a3 n3 c3, .int .i64 n', .int .i64 m', .slice b1 l1 d1, .slice b2 l2 d2, .slice b3 l3 d3, .slice aw nw cw, .slice av nv cv] 27 (0, 0)) ∧ Below w.heap.size w W0 ∧ W0.heap.size = w.heap.size + 1) := hide (by rw [← hW0]; exact ⟨World.alloc_heap_new _ _, (Below.refl _ _).alloc (Nat.le_refl _) _, by simp⟩)
  have TL := lives_any W0
  have HEC := hide (fun (ht : tkF (N : Int) (m : Int) St Fi Ed Wd = true) (k : Nat) => ends_cut (N := N) (m := (m : Int)) ht k)
  have HEP := hide (fun (hw : Wd.all (inB (m : Int)) = true) => ends_pre em hw)
  have HES := hide (ends_suf (N := N) (m := m) (Wd := Wd) em)
  have HRL : Hid ((riseL St).length ≤ 4194304 ∧ (rchL true (N : Int) (m : Int) St Fi Ed).length ≤ 4194304 ∧ (riseE Ed).length ≤ 4194304 ∧ (rchL false (N : Int) (m : Int) St Fi Ed).length ≤ 4194304 ∧ (riseL Fi).length ≤ 4194304) := hide ⟨Nat.le_trans (riseL_len St) (by rw [en.out.1]; exact h1), rchL_len _ _ _ _ _ _, Nat.le_trans (riseE_len Ed) (by rw [en.out.2.2.1]; exact h3), rchL_len _ _ _ _ _ _, Nat.le_trans (riseL_len Fi) (by rw [en.out.2.1]; exact h2)⟩
  have EM := hide em
  have T8 : Hid (∀ W, Below w.heap.size w W → Calls Tryz.prog 8 #[.agg #[.int .i64 (N : Int), .int .i64 (m : Int), .slice a1 n1 c1, .slice a2 n2 c2, .slice a3 n3 c3]] W fun e w' => ∃ g1 k1 av cv g3 k3, e = .returned (.tuple #[.agg #[.int .i64 (N : Int), .int .i64 (m : Int), .slice (some ⟨g1, 0, none⟩) (riseL St).length k1, .slice av (rchL true (N : Int) (m : Int) St Fi Ed).length cv, .slice (some ⟨g3, 0, none⟩) (riseE Ed).length k3], .int .i64 0]) ∧ Hid (RdA w' (some ⟨g1, 0, none⟩) av (some ⟨g3, 0, none⟩) (riseL St) (rchL true (N : Int) (m : Int) St Fi Ed) (riseE Ed) ∧ Below W.heap.size W w')) := hide (fun W d => by
    have q := prefixes_ok W (N : Int) (m : Int) a1 a2 a3 c1 c2 c3 St Fi Ed (hide (hA.out.on d)) (by rw [en.out.1]; exact h1) (by rw [en.out.2.1]; exact h2) (by rw [en.out.2.2.1]; exact h3) (hide ⟨hT.out.below d h0, Nat.lt_of_lt_of_le h0 d.size⟩) em
    rw [en.out.1, en.out.2.1, en.out.2.2.1] at q
    exact q)
  have T9 : Hid (∀ W, Below w.heap.size w W → Calls Tryz.prog 9 #[.agg #[.int .i64 (N : Int), .int .i64 (m : Int), .slice a1 n1 c1, .slice a2 n2 c2, .slice a3 n3 c3]] W fun e w' => ∃ g1 k1 av cv g3 k3, e = .returned (.tuple #[.agg #[.int .i64 (N : Int), .int .i64 (m : Int), .slice av (rchL false (N : Int) (m : Int) St Fi Ed).length cv, .slice (some ⟨g1, 0, none⟩) (riseL Fi).length k1, .slice (some ⟨g3, 0, none⟩) (riseE Ed).length k3], .int .i64 0]) ∧ Hid (RdA w' av (some ⟨g1, 0, none⟩) (some ⟨g3, 0, none⟩) (rchL false (N : Int) (m : Int) St Fi Ed) (riseL Fi) (riseE Ed) ∧ Below W.heap.size W w')) := hide (fun W d => by
    have q := suffixes_ok W (N : Int) (m : Int) a1 a2 a3 c1 c2 c3 St Fi Ed (hide (hA.out.on d)) (by rw [en.out.1]; exact h1) (by rw [en.out.2.1]; exact h2) (by rw [en.out.2.2.1]; exact h3) (hide ⟨hT.out.below d h0, Nat.lt_of_lt_of_le h0 d.size⟩) em
    rw [en.out.1, en.out.2.1, en.out.2.2.1] at q
    exact q)
  have T10 : Hid (∀ W, Below w.heap.size w W → Calls Tryz.prog 10 #[.agg #[.int .i64 (N : Int), .int .i64 (m : Int), .slice a1 n1 c1, .slice a2 n2 c2, .slice a3 n3 c3]] W fun e w' => e = .returned (.int .i64 0) ∧ Below W.heap.size W w') := hide (fun W d => by
    have q := rvalid_any W (N : Int) (m : Int) a1 a2 a3 c1 c2 c3 St Fi Ed (hide (hA.out.on d)) (by rw [en.out.1]; exact h1) (by rw [en.out.2.1]; exact h2) (by rw [en.out.2.2.1]; exact h3)
    rw [en.out.1, en.out.2.1, en.out.2.2.1, em] at q
    exact q)
  have HIN : Hid (∀ x ∈ aftL Ed (riseL St) Wd, 0 ≤ x ∧ x < (N : Int)) := hide (aft_in em)
  have HEI : Hid (∀ e ∈ Ed, 0 ≤ e.2.2 ∧ e.2.2 < (N : Int)) := hide (fun e he => ((may_parts em).2.2.2.2.2 e he).2.2)
  have HNM : Hid (N ≤ 4096 ∧ m ≤ 128) := hide (by have := may_parts em; omega)
  have HLL : Hid ((aftL Ed (riseL St) Wd).length ≤ 4194304) := hide (aftL_len (Nat.le_trans (riseL_len St) (by rw [en.out.1]; exact h1)) (by rw [en.out.2.2.1]; exact h3))
  have HSL : Hid ((rnds Ed m N (riseL St)).length ≤ 4194304) := hide (by have := (upN_rnds (m := m) HEI.out (upN_rise (may_st em).1) N).len; have := HNM.out; omega)
  have T12 : Hid (∀ W, Below w.heap.size w W → Calls Tryz.prog 12 #[.slice aw nw cw, .int .i64 (m : Int)] W fun e w' => e = .returned (.bool (Wd.all (inB (m : Int)))) ∧ Below W.heap.size W w') := hide (fun W d => by
    have q := lsyms_any W aw cw Wd (m : Int) (hide (hU.out.on d)) (by rw [en.out.2.2.2]; exact hw)
    rw [en.out.2.2.2] at q
    exact q)
  have T13 : Hid (∀ W, Below w.heap.size w W → Wd.all (inB (m : Int)) = true → Calls Tryz.prog 13 #[.agg #[.int .i64 (N : Int), .int .i64 (m : Int), .slice a1 n1 c1, .slice a2 n2 c2, .slice a3 n3 c3], .slice aw nw cw] W fun e w' => ∃ b c, e = .returned (.tuple #[.slice b (aftL Ed (riseL St) Wd).length c, .int .i64 0]) ∧ Hid (LO W.heap.size w' b c (aftL Ed (riseL St) Wd) ∧ Below W.heap.size W w')) := hide (fun W d hy => by
    have q := rafter_any W (N : Int) (m : Int) a1 a2 a3 c1 c2 c3 St Fi Ed aw cw Wd (hide (hA.out.on d)) (hide (hU.out.on d)) (by rw [en.out.1]; exact h1) (by rw [en.out.2.1]; exact h2) (by rw [en.out.2.2.1]; exact h3) (by rw [en.out.2.2.2]; exact hw)
    rw [en.out.1, en.out.2.1, en.out.2.2.1, en.out.2.2.2, show aftA (N : Int) (m : Int) St Fi Ed Wd = (aftL Ed (riseL St) Wd, 0) from if_pos (wordErr_iff.2 ⟨em, hy⟩)] at q
    refine q.mono ?_
    rintro e w' ⟨b, c, rfl, ho, dd⟩
    exact ⟨b, c, rfl, hide ⟨ho.out, dd⟩⟩)
  have T14 : Hid (∀ W, Below w.heap.size w W → Calls Tryz.prog 14 #[.agg #[.int .i64 (N : Int), .int .i64 (m : Int), .slice a1 n1 c1, .slice a2 n2 c2, .slice a3 n3 c3], .slice a1 n1 c1, .bool false] W fun e w' => ∃ b c, e = .returned (.slice b (rnds Ed m N (riseL St)).length c) ∧ Hid (LO W.heap.size w' b c (rnds Ed m N (riseL St))) ∧ Below W.heap.size W w') := hide (fun W d => by
    have q := lsome_any W N m n1 n2 n3 a1 a2 a3 a1 c1 c2 c3 c1 St Fi St Ed (hide ⟨en.out.1, en.out.2.1, en.out.2.2.1⟩) (hide (hA.out.on d)) (hide (hA.out.on d).s) h3 (by rw [en.out.1]; exact h1) HNM.out.1 HNM.out.2 HEI (hide (may_st em).1)
    rwa [en.out.1] at q)
  clear em
  obtain ⟨LL, hLL⟩ : ∃ L, aftL Ed (riseL St) Wd = L := ⟨_, rfl⟩
  obtain ⟨SS, hSS⟩ : ∃ L, rnds Ed m N (riseL St) = L := ⟨_, rfl⟩
  rw [hLL] at HIN T13 HEP HLL
  rw [hSS] at T14 HES HSL
  clear hLL hSS
  generalize riseL St = S1 at T8 T9 HEC HEP HES HRL
  generalize rchL true (N : Int) (m : Int) St Fi Ed = RP at T8 T9 HEC HEP HES HRL
  generalize rchL false (N : Int) (m : Int) St Fi Ed = RS at T8 T9 HEC HEP HES HRL
  generalize riseE Ed = E1 at T8 T9 HEC HEP HES HRL
  have HF1 : Hid (∀ x, x ∈ riseL Fi ↔ x ∈ Fi) := hide (riseL_iff Fi)
  obtain ⟨F1, hF1⟩ : ∃ F1, riseL Fi = F1 := ⟨_, rfl⟩
  rw [hF1] at T9 HEC HES HRL
  clear hF1
  go_enter Tryz.func3, Tryz.ntmps3
  go_upto_region 3 with (go_at_call 7; refine TL.mono ?_; rintro e w1 ⟨rfl, D1⟩; have H1 : Hid (w1.heap[w.heap.size]? = some (.cells #[.int .i64 (N : Int), .int .i64 (m : Int), .slice a1 n1 c1, .slice a2 n2 c2, .slice a3 n3 c3, .int .i64 n', .int .i64 m', .slice b1 l1 d1, .slice b2 l2 d2, .slice b3 l3 d3, .slice aw nw cw, .slice av nv cv] 27 (0, 0)) ∧ Below w.heap.size w w1) := hide ⟨blk_on HB.out.1 D1, HB.out.2.1.trans (D1.mono HB.out.2.1.size)⟩; clear D1)
  clear TL hW0 HB
  have y0 : w1.cell? ⟨w.heap.size, 0, none⟩ = some (.int .i64 (N : Int)) := cell_of H1.out.1 rfl
  have y1 : w1.cell? ⟨w.heap.size, 1, none⟩ = some (.int .i64 (m : Int)) := cell_of H1.out.1 rfl
  have y2 : w1.cell? ⟨w.heap.size, 2, none⟩ = some (.slice a1 n1 c1) := cell_of H1.out.1 rfl
  have y3 : w1.cell? ⟨w.heap.size, 3, none⟩ = some (.slice a2 n2 c2) := cell_of H1.out.1 rfl
  have y4 : w1.cell? ⟨w.heap.size, 4, none⟩ = some (.slice a3 n3 c3) := cell_of H1.out.1 rfl
  have y5 : w1.cell? ⟨w.heap.size, 5, none⟩ = some (.int .i64 n') := cell_of H1.out.1 rfl
  have y6 : w1.cell? ⟨w.heap.size, 6, none⟩ = some (.int .i64 m') := cell_of H1.out.1 rfl
  have y7 : w1.cell? ⟨w.heap.size, 7, none⟩ = some (.slice b1 l1 d1) := cell_of H1.out.1 rfl
  have y8 : w1.cell? ⟨w.heap.size, 8, none⟩ = some (.slice b2 l2 d2) := cell_of H1.out.1 rfl
  have y9 : w1.cell? ⟨w.heap.size, 9, none⟩ = some (.slice b3 l3 d3) := cell_of H1.out.1 rfl
  have y10 : w1.cell? ⟨w.heap.size, 10, none⟩ = some (.slice aw nw cw) := cell_of H1.out.1 rfl
  have y11 : w1.cell? ⟨w.heap.size, 11, none⟩ = some (.slice av nv cv) := cell_of H1.out.1 rfl
  go_upto_region 4 with (go_at_call 8; refine (T8.out _ H1.out.2).mono ?_; rintro e w2 ⟨g1, k1, p2, k2, g3, k3, rfl, H2⟩)
  clear T8 y0 y1 y2 y3 y4 y5 y6 y7 y8 y9 y10 y11
  obtain ⟨p1, hp1⟩ : ∃ p : Option Addr, some ⟨g1, 0, none⟩ = p := ⟨_, rfl⟩
  obtain ⟨p3, hp3⟩ : ∃ p : Option Addr, some ⟨g3, 0, none⟩ = p := ⟨_, rfl⟩
  rw [hp1, hp3] at H2 ⊢
  clear hp1 hp3
  obtain ⟨w3, hw3⟩ : ∃ W, w2.alloc (.cells #[.int .i64 (N : Int), .int .i64 (m : Int), .slice p1 S1.length k1, .slice p2 RP.length k2, .slice p3 E1.length k3] 25) = W := ⟨_, rfl⟩
  have H3 : Hid (w3.heap[w.heap.size]? = some (.cells #[.int .i64 (N : Int), .int .i64 (m : Int), .slice a1 n1 c1, .slice a2 n2 c2, .slice a3 n3 c3, .int .i64 n', .int .i64 m', .slice b1 l1 d1, .slice b2 l2 d2, .slice b3 l3 d3, .slice aw nw cw, .slice av nv cv] 27 (0, 0)) ∧ Below w.heap.size w w3 ∧ w3.heap[w2.heap.size]? = some (.cells #[.int .i64 (N : Int), .int .i64 (m : Int), .slice p1 S1.length k1, .slice p2 RP.length k2, .slice p3 E1.length k3] 25 (0, 0)) ∧ RdA w3 p1 p2 p3 S1 RP E1) := hide (by
    have z := World.alloc_heap_new w2 (.cells #[.int .i64 (N : Int), .int .i64 (m : Int), .slice p1 S1.length k1, .slice p2 RP.length k2, .slice p3 E1.length k3] 25)
    rw [hw3] at z
    have k : Below w2.heap.size w2 w3 := by rw [← hw3]; exact (Below.refl _ _).alloc (Nat.le_refl _) _
    have d := H2.out.2.trans (k.mono H2.out.2.size)
    exact ⟨blk_on H1.out.1 d, H1.out.2.trans (d.mono H1.out.2.size), z, H2.out.1.on k⟩)
  rw [hw3]
  clear hw3 H2 H1
  have y0 : w3.cell? ⟨w.heap.size, 0, none⟩ = some (.int .i64 (N : Int)) := cell_of H3.out.1 rfl
  have y1 : w3.cell? ⟨w.heap.size, 1, none⟩ = some (.int .i64 (m : Int)) := cell_of H3.out.1 rfl
  have y2 : w3.cell? ⟨w.heap.size, 2, none⟩ = some (.slice a1 n1 c1) := cell_of H3.out.1 rfl
  have y3 : w3.cell? ⟨w.heap.size, 3, none⟩ = some (.slice a2 n2 c2) := cell_of H3.out.1 rfl
  have y4 : w3.cell? ⟨w.heap.size, 4, none⟩ = some (.slice a3 n3 c3) := cell_of H3.out.1 rfl
  have y5 : w3.cell? ⟨w.heap.size, 5, none⟩ = some (.int .i64 n') := cell_of H3.out.1 rfl
  have y6 : w3.cell? ⟨w.heap.size, 6, none⟩ = some (.int .i64 m') := cell_of H3.out.1 rfl
  have y7 : w3.cell? ⟨w.heap.size, 7, none⟩ = some (.slice b1 l1 d1) := cell_of H3.out.1 rfl
  have y8 : w3.cell? ⟨w.heap.size, 8, none⟩ = some (.slice b2 l2 d2) := cell_of H3.out.1 rfl
  have y9 : w3.cell? ⟨w.heap.size, 9, none⟩ = some (.slice b3 l3 d3) := cell_of H3.out.1 rfl
  have y10 : w3.cell? ⟨w.heap.size, 10, none⟩ = some (.slice aw nw cw) := cell_of H3.out.1 rfl
  have y11 : w3.cell? ⟨w.heap.size, 11, none⟩ = some (.slice av nv cv) := cell_of H3.out.1 rfl
  obtain ⟨p5, hp5⟩ : ∃ p, w2.heap.size = p := ⟨_, rfl⟩
  rw [hp5] at H3 ⊢
  clear hp5
  go_upto_region 5 with (go_at_call 9; refine (T9.out _ H3.out.2.1).mono ?_; rintro e w4 ⟨g2, j2, s1, j1, g4, j3, rfl, H4⟩)
  clear T9 y0 y1 y2 y3 y4 y5 y6 y7 y8 y9 y10 y11
  obtain ⟨s2, hs2⟩ : ∃ p : Option Addr, some ⟨g2, 0, none⟩ = p := ⟨_, rfl⟩
  obtain ⟨s3, hs3⟩ : ∃ p : Option Addr, some ⟨g4, 0, none⟩ = p := ⟨_, rfl⟩
  rw [hs2, hs3] at H4 ⊢
  clear hs2 hs3
  obtain ⟨w5, hw5⟩ : ∃ W, w4.alloc (.cells #[.int .i64 (N : Int), .int .i64 (m : Int), .slice s1 RS.length j1, .slice s2 F1.length j2, .slice s3 E1.length j3] 25) = W := ⟨_, rfl⟩
  have HS : Hid (EdS w w5 #[.int .i64 (N : Int), .int .i64 (m : Int), .slice a1 n1 c1, .slice a2 n2 c2, .slice a3 n3 c3, .int .i64 n', .int .i64 m', .slice b1 l1 d1, .slice b2 l2 d2, .slice b3 l3 d3, .slice aw nw cw, .slice av nv cv] (p5) (w4.heap.size) #[.int .i64 (N : Int), .int .i64 (m : Int), .slice p1 S1.length k1, .slice p2 RP.length k2, .slice p3 E1.length k3] #[.int .i64 (N : Int), .int .i64 (m : Int), .slice s1 RS.length j1, .slice s2 F1.length j2, .slice s3 E1.length j3] p1 p2 p3 s1 s2 s3 S1 RP E1 RS F1) := hide (by
    have z := World.alloc_heap_new w4 (.cells #[.int .i64 (N : Int), .int .i64 (m : Int), .slice s1 RS.length j1, .slice s2 F1.length j2, .slice s3 E1.length j3] 25)
    rw [hw5] at z
    have k : Below w4.heap.size w4 w5 := by rw [← hw5]; exact (Below.refl _ _).alloc (Nat.le_refl _) _
    have d := H4.out.2.trans (k.mono H4.out.2.size)
    exact ⟨blk_on H3.out.1 d, blk_on H3.out.2.2.1 d, z, H3.out.2.2.2.on d, H4.out.1.on k, H3.out.2.1.trans (d.mono H3.out.2.1.size)⟩)
  rw [hw5]
  clear hw5 H4 H3
  have y0 : w5.cell? ⟨w.heap.size, 0, none⟩ = some (.int .i64 (N : Int)) := cell_of HS.out.b0 rfl
  have y1 : w5.cell? ⟨w.heap.size, 1, none⟩ = some (.int .i64 (m : Int)) := cell_of HS.out.b0 rfl
  have y2 : w5.cell? ⟨w.heap.size, 2, none⟩ = some (.slice a1 n1 c1) := cell_of HS.out.b0 rfl
  have y3 : w5.cell? ⟨w.heap.size, 3, none⟩ = some (.slice a2 n2 c2) := cell_of HS.out.b0 rfl
  have y4 : w5.cell? ⟨w.heap.size, 4, none⟩ = some (.slice a3 n3 c3) := cell_of HS.out.b0 rfl
  have y5 : w5.cell? ⟨w.heap.size, 5, none⟩ = some (.int .i64 n') := cell_of HS.out.b0 rfl
  have y6 : w5.cell? ⟨w.heap.size, 6, none⟩ = some (.int .i64 m') := cell_of HS.out.b0 rfl
  have y7 : w5.cell? ⟨w.heap.size, 7, none⟩ = some (.slice b1 l1 d1) := cell_of HS.out.b0 rfl
  have y8 : w5.cell? ⟨w.heap.size, 8, none⟩ = some (.slice b2 l2 d2) := cell_of HS.out.b0 rfl
  have y9 : w5.cell? ⟨w.heap.size, 9, none⟩ = some (.slice b3 l3 d3) := cell_of HS.out.b0 rfl
  have y10 : w5.cell? ⟨w.heap.size, 10, none⟩ = some (.slice aw nw cw) := cell_of HS.out.b0 rfl
  have y11 : w5.cell? ⟨w.heap.size, 11, none⟩ = some (.slice av nv cv) := cell_of HS.out.b0 rfl
  obtain ⟨p7, hp7⟩ : ∃ p, w4.heap.size = p := ⟨_, rfl⟩
  rw [hp7] at HS ⊢
  clear hp7
  go_upto_region 7 with (go_at_call 10; refine (T10.out _ HS.out.be).mono ?_; rintro e w6 ⟨rfl, D6⟩; have H6 := hide (HS.out.on D6); clear D6)
  clear T10 HS y0 y1 y2 y3 y4 y5 y6 y7 y8 y9 y10 y11
  have TT : Hid (∀ W, Below w.heap.size w W → Calls Tryz.prog 11 #[.agg #[.int .i64 (N : Int), .int .i64 (m : Int), .slice a1 n1 c1, .slice a2 n2 c2, .slice a3 n3 c3], .slice aw nw cw] W fun e w' => e = .returned (.bool (tkF (N : Int) (m : Int) St Fi Ed Wd)) ∧ Below W.heap.size W w') := hide (fun W d => by
    have q := ltakes_any W (N : Int) (m : Int) a1 a2 a3 c1 c2 c3 St Fi Ed aw cw Wd (hide (hA.out.on d)) (hide (hU.out.on d)) (by rw [en.out.1]; exact h1) (by rw [en.out.2.1]; exact h2) (by rw [en.out.2.2.1]; exact h3) (by rw [en.out.2.2.2]; exact hw)
    rw [en.out.1, en.out.2.1, en.out.2.2.1, en.out.2.2.2] at q
    exact q)
  obtain ⟨tA, htA⟩ : ∃ b, tkF (N : Int) (m : Int) St Fi Ed Wd = b := ⟨_, rfl⟩
  rw [htA] at TT HEC
  clear htA
  have y0 : w6.cell? ⟨w.heap.size, 0, none⟩ = some (.int .i64 (N : Int)) := cell_of H6.out.b0 rfl
  have y1 : w6.cell? ⟨w.heap.size, 1, none⟩ = some (.int .i64 (m : Int)) := cell_of H6.out.b0 rfl
  have y2 : w6.cell? ⟨w.heap.size, 2, none⟩ = some (.slice a1 n1 c1) := cell_of H6.out.b0 rfl
  have y3 : w6.cell? ⟨w.heap.size, 3, none⟩ = some (.slice a2 n2 c2) := cell_of H6.out.b0 rfl
  have y4 : w6.cell? ⟨w.heap.size, 4, none⟩ = some (.slice a3 n3 c3) := cell_of H6.out.b0 rfl
  have y5 : w6.cell? ⟨w.heap.size, 5, none⟩ = some (.int .i64 n') := cell_of H6.out.b0 rfl
  have y6 : w6.cell? ⟨w.heap.size, 6, none⟩ = some (.int .i64 m') := cell_of H6.out.b0 rfl
  have y7 : w6.cell? ⟨w.heap.size, 7, none⟩ = some (.slice b1 l1 d1) := cell_of H6.out.b0 rfl
  have y8 : w6.cell? ⟨w.heap.size, 8, none⟩ = some (.slice b2 l2 d2) := cell_of H6.out.b0 rfl
  have y9 : w6.cell? ⟨w.heap.size, 9, none⟩ = some (.slice b3 l3 d3) := cell_of H6.out.b0 rfl
  have y10 : w6.cell? ⟨w.heap.size, 10, none⟩ = some (.slice aw nw cw) := cell_of H6.out.b0 rfl
  have y11 : w6.cell? ⟨w.heap.size, 11, none⟩ = some (.slice av nv cv) := cell_of H6.out.b0 rfl
  go_upto_if 54 with (go_at_call 11; refine (TT.out _ H6.out.be).mono ?_; rintro e w7 ⟨rfl, D7⟩; have H7 := hide (H6.out.on D7); clear D7)
  clear TT H6 y0 y1 y2 y3 y4 y5 y6 y7 y8 y9 y10 y11
  go_cut [9] from 55 to 86 (fun v9 W => ∃ x : Value, v9 = x ∧ Hid (EdS w W #[.int .i64 (N : Int), .int .i64 (m : Int), .slice a1 n1 c1, .slice a2 n2 c2, .slice a3 n3 c3, .int .i64 n', .int .i64 m', .slice b1 l1 d1, .slice b2 l2 d2, .slice b3 l3 d3, .slice aw nw cw, .slice av nv cv] p5 p7 #[.int .i64 (N : Int), .int .i64 (m : Int), .slice p1 S1.length k1, .slice p2 RP.length k2, .slice p3 E1.length k3] #[.int .i64 (N : Int), .int .i64 (m : Int), .slice s1 RS.length j1, .slice s2 F1.length j2, .slice s3 E1.length j3] p1 p2 p3 s1 s2 s3 S1 RP E1 RS F1))
  case first =>
    cases tA
    · go_wp2_with fail
      go_meet
      exact ⟨_, rfl, H7⟩
    · go_upto_region 8 with fail
      have y10 : w7.cell? ⟨w.heap.size, 10, none⟩ = some (.slice aw nw cw) := cell_of H7.out.b0 rfl
      have r1 : IntKind.i64.wrap ((nw : Int) + 1) = (nw : Int) + 1 := by rw [IntKind.wrap_i64]; omega
      have r2 : ¬ ((nw : Int) + 1 = 0) := by omega
      go_quiet (fail)
      have HK : Hid (0 ≤ (wrap64 (wrap64 (at'.tmod ((nw : Int) + 1) + (nw : Int)) + 1)).tmod ((nw : Int) + 1) ∧ (wrap64 (wrap64 (at'.tmod ((nw : Int) + 1) + (nw : Int)) + 1)).tmod ((nw : Int) + 1) < (nw : Int) + 1) := hide (rem_in at' nw hw)
      generalize (wrap64 (wrap64 (at'.tmod ((nw : Int) + 1) + (nw : Int)) + 1)).tmod ((nw : Int) + 1) = kk at HK ⊢
      obtain ⟨k, ek⟩ : ∃ k : Nat, kk = (k : Int) := ⟨kk.toNat, by have := HK.out; omega⟩
      subst ek
      have hk : k ≤ nw := by have := HK.out; omega
      clear HK r1 r2 y10
      obtain ⟨w8, hw8⟩ : ∃ W, w7.drewN nq = W := ⟨_, rfl⟩
      have H8 : Hid (EdS w w8 #[.int .i64 (N : Int), .int .i64 (m : Int), .slice a1 n1 c1, .slice a2 n2 c2, .slice a3 n3 c3, .int .i64 n', .int .i64 m', .slice b1 l1 d1, .slice b2 l2 d2, .slice b3 l3 d3, .slice aw nw cw, .slice av nv cv] p5 p7 #[.int .i64 (N : Int), .int .i64 (m : Int), .slice p1 S1.length k1, .slice p2 RP.length k2, .slice p3 E1.length k3] #[.int .i64 (N : Int), .int .i64 (m : Int), .slice s1 RS.length j1, .slice s2 F1.length j2, .slice s3 E1.length j3] p1 p2 p3 s1 s2 s3 S1 RP E1 RS F1) := hide (by rw [← hw8]; exact H7.out.on (below_drewN2 (Below.refl _ _) _))
      go_upto_region 9 with fail
      rw [hw8]
      clear hw8
      have T11P : Hid (∀ W ad c, EdS w W #[.int .i64 (N : Int), .int .i64 (m : Int), .slice a1 n1 c1, .slice a2 n2 c2, .slice a3 n3 c3, .int .i64 n', .int .i64 m', .slice b1 l1 d1, .slice b2 l2 d2, .slice b3 l3 d3, .slice aw nw cw, .slice av nv cv] p5 p7 #[.int .i64 (N : Int), .int .i64 (m : Int), .slice p1 S1.length k1, .slice p2 RP.length k2, .slice p3 E1.length k3] #[.int .i64 (N : Int), .int .i64 (m : Int), .slice s1 RS.length j1, .slice s2 F1.length j2, .slice s3 E1.length j3] p1 p2 p3 s1 s2 s3 S1 RP E1 RS F1 → RdN W ad (Wd.take k) → Calls Tryz.prog 11 #[.agg #[.int .i64 (N : Int), .int .i64 (m : Int), .slice p1 S1.length k1, .slice p2 RP.length k2, .slice p3 E1.length k3], .slice ad k c] W fun e w' => e = .returned (.bool true) ∧ Below W.heap.size W w') := hide (fun W ad c hs hr => by
        have q := ltakes_any W (N : Int) (m : Int) p1 p2 p3 k1 k2 k3 S1 RP E1 ad c (Wd.take k) (hide hs.rP) (hide hr) HRL.out.1 HRL.out.2.1 HRL.out.2.2.1 (by rw [List.length_take]; omega)
        rw [(HEC.out rfl k).1, List.length_take, en.out.2.2.2, Nat.min_eq_left hk] at q
        exact q)
      have T11S : Hid (∀ W ad c, EdS w W #[.int .i64 (N : Int), .int .i64 (m : Int), .slice a1 n1 c1, .slice a2 n2 c2, .slice a3 n3 c3, .int .i64 n', .int .i64 m', .slice b1 l1 d1, .slice b2 l2 d2, .slice b3 l3 d3, .slice aw nw cw, .slice av nv cv] p5 p7 #[.int .i64 (N : Int), .int .i64 (m : Int), .slice p1 S1.length k1, .slice p2 RP.length k2, .slice p3 E1.length k3] #[.int .i64 (N : Int), .int .i64 (m : Int), .slice s1 RS.length j1, .slice s2 F1.length j2, .slice s3 E1.length j3] p1 p2 p3 s1 s2 s3 S1 RP E1 RS F1 → RdN W ad (Wd.drop k) → Calls Tryz.prog 11 #[.agg #[.int .i64 (N : Int), .int .i64 (m : Int), .slice s1 RS.length j1, .slice s2 F1.length j2, .slice s3 E1.length j3], .slice ad (nw - k) c] W fun e w' => e = .returned (.bool true) ∧ Below W.heap.size W w') := hide (fun W ad c hs hr => by
        have q := ltakes_any W (N : Int) (m : Int) s1 s2 s3 j1 j2 j3 RS F1 E1 ad c (Wd.drop k) (hide hs.rS) (hide hr) HRL.out.2.2.2.1 HRL.out.2.2.2.2 HRL.out.2.2.1 (by rw [List.length_drop, en.out.2.2.2]; omega)
        rw [(HEC.out rfl k).2, List.length_drop, en.out.2.2.2] at q
        exact q)
      have HL4 : Hid (Wd.length = nw ∧ nw ≤ cw) := hide ⟨en.out.2.2.2, hcw⟩
      have HZ := H8
      have hmo : MonIL 0 [vI 0 (.agg #[.int .i64 (N : Int), .int .i64 (m : Int), .slice p1 S1.length k1, .slice p2 RP.length k2, .slice p3 E1.length k3]), vI 1 (.pointer (some ⟨w.heap.size, 10, none⟩)), vI 2 (.slice aw nw cw), vI 3 (.int .i64 (k : Int)), pI 4 (wdP k (Wd.take k)), vI 5 (.bool true), vI 6 (.bool false), vI 7 (.bool false), vI 8 (.agg #[.int .i64 (N : Int), .int .i64 (m : Int), .slice s1 RS.length j1, .slice s2 F1.length j2, .slice s3 E1.length j3]), vI 9 (.pointer (some ⟨w.heap.size, 10, none⟩)), vI 10 (.slice aw nw cw), vI 11 (.int .i64 (k : Int)), pI 12 (wdP (nw - k) (Wd.drop k)), vI 13 (.bool true), vI 14 (.bool false), vI 15 (.bool false)] := ⟨vI_mono _ _, vI_mono _ _, vI_mono _ _, vI_mono _ _, pI_mono wdP_mono, vI_mono _ _, vI_mono _ _, vI_mono _ _, vI_mono _ _, vI_mono _ _, vI_mono _ _, vI_mono _ _, pI_mono wdP_mono, vI_mono _ _, vI_mono _ _, vI_mono _ _, trivial⟩
      refine wp_region_sl [vI 0 (.agg #[.int .i64 (N : Int), .int .i64 (m : Int), .slice p1 S1.length k1, .slice p2 RP.length k2, .slice p3 E1.length k3]), vI 1 (.pointer (some ⟨w.heap.size, 10, none⟩)), vI 2 (.slice aw nw cw), vI 3 (.int .i64 (k : Int)), pI 4 (wdP k (Wd.take k)), vI 5 (.bool true), vI 6 (.bool false), vI 7 (.bool false), vI 8 (.agg #[.int .i64 (N : Int), .int .i64 (m : Int), .slice s1 RS.length j1, .slice s2 F1.length j2, .slice s3 E1.length j3]), vI 9 (.pointer (some ⟨w.heap.size, 10, none⟩)), vI 10 (.slice aw nw cw), vI 11 (.int .i64 (k : Int)), pI 12 (wdP (nw - k) (Wd.drop k)), vI 13 (.bool true), vI 14 (.bool false), vI 15 (.bool false)] (by kernel_rfl) (by kernel_rfl) (by kernel_rfl) (by kernel_rfl) hmo ⟨?o0, ?o1, ?o2, ?o3, ?o4, ?o5, ?o6, ?o7, ?o8, ?o9, ?o10, ?o11, ?o12, ?o13, ?o14, ?o15, trivial⟩ ?fin
      case o0 =>
        intro At yy W hy hb d hd K hK
        have s5 : At.tmps.getD 5 undef = .pointer (some ⟨p5, 0, none⟩) := hb 5 rfl
        have s5' := s5
        rw [Array.getD_eq_getD_getElem?] at s5'
        clear hd hy hb
        have hs := HZ.out.on d
        have y10 : W.cell? ⟨w.heap.size, 10, none⟩ = some (.slice aw nw cw) := cell_of hs.b0 rfl
        have x0 : W.cell? ⟨p5, 0, none⟩ = some (.int .i64 (N : Int)) := cell_of hs.b5 rfl
        have x1 : W.cell? ⟨p5, 1, none⟩ = some (.int .i64 (m : Int)) := cell_of hs.b5 rfl
        have x2 : W.cell? ⟨p5, 2, none⟩ = some (.slice p1 S1.length k1) := cell_of hs.b5 rfl
        have x3 : W.cell? ⟨p5, 3, none⟩ = some (.slice p2 RP.length k2) := cell_of hs.b5 rfl
        have x4 : W.cell? ⟨p5, 4, none⟩ = some (.slice p3 E1.length k3) := cell_of hs.b5 rfl
        have z0 : W.cell? ⟨p7, 0, none⟩ = some (.int .i64 (N : Int)) := cell_of hs.b7 rfl
        have z1 : W.cell? ⟨p7, 1, none⟩ = some (.int .i64 (m : Int)) := cell_of hs.b7 rfl
        have z2 : W.cell? ⟨p7, 2, none⟩ = some (.slice s1 RS.length j1) := cell_of hs.b7 rfl
        have z3 : W.cell? ⟨p7, 3, none⟩ = some (.slice s2 F1.length j2) := cell_of hs.b7 rfl
        have z4 : W.cell? ⟨p7, 4, none⟩ = some (.slice s3 E1.length j3) := cell_of hs.b7 rfl
        clear hs
        go_simp
        exact hK.out _ W (stp_of hmo d (Below.refl _ _)) (if_pos rfl)
      case o1 =>
        intro At yy W hy hb d hd K hK
        have s2 : At.tmps.getD 2 undef = .pointer (some ⟨w.heap.size, 0, none⟩) := hb 2 rfl
        have s2' := s2
        rw [Array.getD_eq_getD_getElem?] at s2'
        clear hd hy hb
        go_simp
        exact hK.out _ W (stp_of hmo d (Below.refl _ _)) (if_pos rfl)
      case o2 =>
        intro At yy W hy hb d hd K hK
        have e1 : yy 1 = .pointer (some ⟨w.heap.size, 10, none⟩) := by obtain ⟨_, _, _, _, e⟩ := hd ⟨1, .data⟩ (by simp) rfl rfl; exact e
        have s72 := (hy 1 _ 72 rfl rfl).trans e1
        have s72' := s72
        rw [Array.getD_eq_getD_getElem?] at s72'
        clear hd hy hb
        have hs := HZ.out.on d
        have y10 : W.cell? ⟨w.heap.size, 10, none⟩ = some (.slice aw nw cw) := cell_of hs.b0 rfl
        have x0 : W.cell? ⟨p5, 0, none⟩ = some (.int .i64 (N : Int)) := cell_of hs.b5 rfl
        have x1 : W.cell? ⟨p5, 1, none⟩ = some (.int .i64 (m : Int)) := cell_of hs.b5 rfl
        have x2 : W.cell? ⟨p5, 2, none⟩ = some (.slice p1 S1.length k1) := cell_of hs.b5 rfl
        have x3 : W.cell? ⟨p5, 3, none⟩ = some (.slice p2 RP.length k2) := cell_of hs.b5 rfl
        have x4 : W.cell? ⟨p5, 4, none⟩ = some (.slice p3 E1.length k3) := cell_of hs.b5 rfl
        have z0 : W.cell? ⟨p7, 0, none⟩ = some (.int .i64 (N : Int)) := cell_of hs.b7 rfl
        have z1 : W.cell? ⟨p7, 1, none⟩ = some (.int .i64 (m : Int)) := cell_of hs.b7 rfl
        have z2 : W.cell? ⟨p7, 2, none⟩ = some (.slice s1 RS.length j1) := cell_of hs.b7 rfl
        have z3 : W.cell? ⟨p7, 3, none⟩ = some (.slice s2 F1.length j2) := cell_of hs.b7 rfl
        have z4 : W.cell? ⟨p7, 4, none⟩ = some (.slice s3 E1.length j3) := cell_of hs.b7 rfl
        clear hs
        go_simp
        exact hK.out _ W (stp_of hmo d (Below.refl _ _)) (if_pos rfl)
      case o3 =>
        intro At yy W hy hb d hd K hK
        have s9 : At.tmps.getD 9 undef = .int .i64 (k : Int) := hb 9 rfl
        have s9' := s9
        rw [Array.getD_eq_getD_getElem?] at s9'
        clear hd hy hb
        go_simp
        exact hK.out _ W (stp_of hmo d (Below.refl _ _)) (if_pos rfl)
      case o4 =>
        intro At yy W hy hb d hd K hK
        have e2 : yy 2 = .slice aw nw cw := by obtain ⟨_, _, _, _, e⟩ := hd ⟨2, .data⟩ (by simp) rfl rfl; exact e
        have e3 : yy 3 = .int .i64 (k : Int) := by obtain ⟨_, _, _, _, e⟩ := hd ⟨3, .data⟩ (by simp) rfl rfl; exact e
        have hkc : k ≤ cw := by have := HL4.out; omega
        have s73 := (hy 2 _ 73 rfl rfl).trans e2
        have s73' := s73
        rw [Array.getD_eq_getD_getElem?] at s73'
        have s74 := (hy 3 _ 74 rfl rfl).trans e3
        have s74' := s74
        rw [Array.getD_eq_getD_getElem?] at s74'
        clear hd hy hb
        go_simp
        exact hK.out _ W (stp_of hmo d (Below.refl _ _)) ⟨aw, cw, if_pos rfl, rd_take (hU.out.on (HZ.out.on d).be) k⟩
      case o5 =>
        intro At yy W hy hb d hd K hK
        have e0 : yy 0 = .agg #[.int .i64 (N : Int), .int .i64 (m : Int), .slice p1 S1.length k1, .slice p2 RP.length k2, .slice p3 E1.length k3] := by obtain ⟨_, _, _, _, e⟩ := hd ⟨0, .data⟩ (by simp) rfl rfl; exact e
        have f4 := hd ⟨4, .data⟩ (by simp) rfl rfl
        obtain ⟨_, _, _, _, ad, ca, e4, h4⟩ := f4
        have s71 := (hy 0 _ 71 rfl rfl).trans e0
        have s71' := s71
        rw [Array.getD_eq_getD_getElem?] at s71'
        have s75 := (hy 4 _ 75 rfl rfl).trans e4
        have s75' := s75
        rw [Array.getD_eq_getD_getElem?] at s75'
        clear hd hy hb
        go_simp
        go_wp2_with (go_at_call 11; refine (T11P.out W ad ca (HZ.out.on d) h4).mono ?_; rintro e wa ⟨rfl, da⟩)
        exact hK.out _ wa (stp_of hmo d da) (if_pos rfl)
      case o6 =>
        intro At yy W hy hb d hd K hK
        have e5 : yy 5 = .bool true := by obtain ⟨_, _, _, _, e⟩ := hd ⟨5, .data⟩ (by simp) rfl rfl; exact e
        have s76 := (hy 5 _ 76 rfl rfl).trans e5
        have s76' := s76
        rw [Array.getD_eq_getD_getElem?] at s76'
        clear hd hy hb
        go_simp
        exact hK.out _ W (stp_of hmo d (Below.refl _ _)) (if_pos rfl)
      case o7 =>
        intro At yy W hy hb d hd K hK
        have e6 : yy 6 = .bool false := by obtain ⟨_, _, _, _, e⟩ := hd ⟨6, .data⟩ (by simp) rfl rfl; exact e
        have s77 := (hy 6 _ 77 rfl rfl).trans e6
        have s77' := s77
        rw [Array.getD_eq_getD_getElem?] at s77'
        clear hd hy hb
        go_simp
        exact hK.out _ W (stp_of hmo d (Below.refl _ _)) (if_pos rfl)
      case o8 =>
        intro At yy W hy hb d hd K hK
        have e7 : yy 7 = .bool false := by obtain ⟨_, _, _, _, e⟩ := hd ⟨7, .guard⟩ (by simp) rfl rfl; exact e
        have s7 : At.tmps.getD 7 undef = .pointer (some ⟨p7, 0, none⟩) := hb 7 rfl
        have s7' := s7
        rw [Array.getD_eq_getD_getElem?] at s7'
        have s78 := (hy 7 _ 78 rfl rfl).trans e7
        have s78' := s78
        rw [Array.getD_eq_getD_getElem?] at s78'
        have g78 := got_bool s78
        clear hd hy hb
        have hs := HZ.out.on d
        have y10 : W.cell? ⟨w.heap.size, 10, none⟩ = some (.slice aw nw cw) := cell_of hs.b0 rfl
        have x0 : W.cell? ⟨p5, 0, none⟩ = some (.int .i64 (N : Int)) := cell_of hs.b5 rfl
        have x1 : W.cell? ⟨p5, 1, none⟩ = some (.int .i64 (m : Int)) := cell_of hs.b5 rfl
        have x2 : W.cell? ⟨p5, 2, none⟩ = some (.slice p1 S1.length k1) := cell_of hs.b5 rfl
        have x3 : W.cell? ⟨p5, 3, none⟩ = some (.slice p2 RP.length k2) := cell_of hs.b5 rfl
        have x4 : W.cell? ⟨p5, 4, none⟩ = some (.slice p3 E1.length k3) := cell_of hs.b5 rfl
        have z0 : W.cell? ⟨p7, 0, none⟩ = some (.int .i64 (N : Int)) := cell_of hs.b7 rfl
        have z1 : W.cell? ⟨p7, 1, none⟩ = some (.int .i64 (m : Int)) := cell_of hs.b7 rfl
        have z2 : W.cell? ⟨p7, 2, none⟩ = some (.slice s1 RS.length j1) := cell_of hs.b7 rfl
        have z3 : W.cell? ⟨p7, 3, none⟩ = some (.slice s2 F1.length j2) := cell_of hs.b7 rfl
        have z4 : W.cell? ⟨p7, 4, none⟩ = some (.slice s3 E1.length j3) := cell_of hs.b7 rfl
        clear hs
        go_simp
        exact hK.out _ W (stp_of hmo d (Below.refl _ _)) (if_pos rfl)
      case o9 =>
        intro At yy W hy hb d hd K hK
        have e7 : yy 7 = .bool false := by obtain ⟨_, _, _, _, e⟩ := hd ⟨7, .guard⟩ (by simp) rfl rfl; exact e
        have s2 : At.tmps.getD 2 undef = .pointer (some ⟨w.heap.size, 0, none⟩) := hb 2 rfl
        have s2' := s2
        rw [Array.getD_eq_getD_getElem?] at s2'
        have s78 := (hy 7 _ 78 rfl rfl).trans e7
        have s78' := s78
        rw [Array.getD_eq_getD_getElem?] at s78'
        have g78 := got_bool s78
        clear hd hy hb
        go_simp
        exact hK.out _ W (stp_of hmo d (Below.refl _ _)) (if_pos rfl)
      case o10 =>
        intro At yy W hy hb d hd K hK
        have e9 : yy 9 = .pointer (some ⟨w.heap.size, 10, none⟩) := by obtain ⟨_, _, _, _, e⟩ := hd ⟨9, .data⟩ (by simp) rfl rfl; exact e
        have e7 : yy 7 = .bool false := by obtain ⟨_, _, _, _, e⟩ := hd ⟨7, .guard⟩ (by simp) rfl rfl; exact e
        have s78 := (hy 7 _ 78 rfl rfl).trans e7
        have s78' := s78
        rw [Array.getD_eq_getD_getElem?] at s78'
        have s80 := (hy 9 _ 80 rfl rfl).trans e9
        have s80' := s80
        rw [Array.getD_eq_getD_getElem?] at s80'
        have g78 := got_bool s78
        clear hd hy hb
        have hs := HZ.out.on d
        have y10 : W.cell? ⟨w.heap.size, 10, none⟩ = some (.slice aw nw cw) := cell_of hs.b0 rfl
        have x0 : W.cell? ⟨p5, 0, none⟩ = some (.int .i64 (N : Int)) := cell_of hs.b5 rfl
        have x1 : W.cell? ⟨p5, 1, none⟩ = some (.int .i64 (m : Int)) := cell_of hs.b5 rfl
        have x2 : W.cell? ⟨p5, 2, none⟩ = some (.slice p1 S1.length k1) := cell_of hs.b5 rfl
        have x3 : W.cell? ⟨p5, 3, none⟩ = some (.slice p2 RP.length k2) := cell_of hs.b5 rfl
        have x4 : W.cell? ⟨p5, 4, none⟩ = some (.slice p3 E1.length k3) := cell_of hs.b5 rfl
        have z0 : W.cell? ⟨p7, 0, none⟩ = some (.int .i64 (N : Int)) := cell_of hs.b7 rfl
        have z1 : W.cell? ⟨p7, 1, none⟩ = some (.int .i64 (m : Int)) := cell_of hs.b7 rfl
        have z2 : W.cell? ⟨p7, 2, none⟩ = some (.slice s1 RS.length j1) := cell_of hs.b7 rfl
        have z3 : W.cell? ⟨p7, 3, none⟩ = some (.slice s2 F1.length j2) := cell_of hs.b7 rfl
        have z4 : W.cell? ⟨p7, 4, none⟩ = some (.slice s3 E1.length j3) := cell_of hs.b7 rfl
        clear hs
        go_simp
        exact hK.out _ W (stp_of hmo d (Below.refl _ _)) (if_pos rfl)
      case o11 =>
        intro At yy W hy hb d hd K hK
        have e7 : yy 7 = .bool false := by obtain ⟨_, _, _, _, e⟩ := hd ⟨7, .guard⟩ (by simp) rfl rfl; exact e
        have s9 : At.tmps.getD 9 undef = .int .i64 (k : Int) := hb 9 rfl
        have s9' := s9
        rw [Array.getD_eq_getD_getElem?] at s9'
        have s78 := (hy 7 _ 78 rfl rfl).trans e7
        have s78' := s78
        rw [Array.getD_eq_getD_getElem?] at s78'
        have g78 := got_bool s78
        clear hd hy hb
        go_simp
        exact hK.out _ W (stp_of hmo d (Below.refl _ _)) (if_pos rfl)
      case o12 =>
        intro At yy W hy hb d hd K hK
        have e10 : yy 10 = .slice aw nw cw := by obtain ⟨_, _, _, _, e⟩ := hd ⟨10, .data⟩ (by simp) rfl rfl; exact e
        have e11 : yy 11 = .int .i64 (k : Int) := by obtain ⟨_, _, _, _, e⟩ := hd ⟨11, .data⟩ (by simp) rfl rfl; exact e
        have e7 : yy 7 = .bool false := by obtain ⟨_, _, _, _, e⟩ := hd ⟨7, .guard⟩ (by simp) rfl rfl; exact e
        have s78 := (hy 7 _ 78 rfl rfl).trans e7
        have s78' := s78
        rw [Array.getD_eq_getD_getElem?] at s78'
        have s81 := (hy 10 _ 81 rfl rfl).trans e10
        have s81' := s81
        rw [Array.getD_eq_getD_getElem?] at s81'
        have s82 := (hy 11 _ 82 rfl rfl).trans e11
        have s82' := s82
        rw [Array.getD_eq_getD_getElem?] at s82'
        have g78 := got_bool s78
        clear hd hy hb
        go_simp
        exact hK.out _ W (stp_of hmo d (Below.refl _ _)) ⟨_, _, if_pos rfl, rd_drop (hU.out.on (HZ.out.on d).be) (by have := HL4.out; omega) (by have := HL4.out; omega)⟩
      case o13 =>
        intro At yy W hy hb d hd K hK
        have e8 : yy 8 = .agg #[.int .i64 (N : Int), .int .i64 (m : Int), .slice s1 RS.length j1, .slice s2 F1.length j2, .slice s3 E1.length j3] := by obtain ⟨_, _, _, _, e⟩ := hd ⟨8, .data⟩ (by simp) rfl rfl; exact e
        have f12 := hd ⟨12, .data⟩ (by simp) rfl rfl
        have e7 : yy 7 = .bool false := by obtain ⟨_, _, _, _, e⟩ := hd ⟨7, .guard⟩ (by simp) rfl rfl; exact e
        obtain ⟨_, _, _, _, ad, ca, e12, h12⟩ := f12
        have s78 := (hy 7 _ 78 rfl rfl).trans e7
        have s78' := s78
        rw [Array.getD_eq_getD_getElem?] at s78'
        have s79 := (hy 8 _ 79 rfl rfl).trans e8
        have s79' := s79
        rw [Array.getD_eq_getD_getElem?] at s79'
        have s83 := (hy 12 _ 83 rfl rfl).trans e12
        have s83' := s83
        rw [Array.getD_eq_getD_getElem?] at s83'
        have g78 := got_bool s78
        clear hd hy hb
        go_simp
        go_wp2_with (go_at_call 11; refine (T11S.out W ad ca (HZ.out.on d) h12).mono ?_; rintro e wa ⟨rfl, da⟩)
        exact hK.out _ wa (stp_of hmo d da) (if_pos rfl)
      case o14 =>
        intro At yy W hy hb d hd K hK
        have e13 : yy 13 = .bool true := by obtain ⟨_, _, _, _, e⟩ := hd ⟨13, .data⟩ (by simp) rfl rfl; exact e
        have e7 : yy 7 = .bool false := by obtain ⟨_, _, _, _, e⟩ := hd ⟨7, .guard⟩ (by simp) rfl rfl; exact e
        have s78 := (hy 7 _ 78 rfl rfl).trans e7
        have s78' := s78
        rw [Array.getD_eq_getD_getElem?] at s78'
        have s84 := (hy 13 _ 84 rfl rfl).trans e13
        have s84' := s84
        rw [Array.getD_eq_getD_getElem?] at s84'
        have g78 := got_bool s78
        clear hd hy hb
        go_simp
        exact hK.out _ W (stp_of hmo d (Below.refl _ _)) (if_pos rfl)
      case o15 =>
        intro At yy W hy hb d hd K hK
        have e7 : yy 7 = .bool false := by obtain ⟨_, _, _, _, e⟩ := hd ⟨7, .data⟩ (by simp) rfl rfl; exact e
        have e14 : yy 14 = .bool false := by obtain ⟨_, _, _, _, e⟩ := hd ⟨14, .data⟩ (by simp) rfl rfl; exact e
        have s78 := (hy 7 _ 78 rfl rfl).trans e7
        have s78' := s78
        rw [Array.getD_eq_getD_getElem?] at s78'
        have s85 := (hy 14 _ 85 rfl rfl).trans e14
        have s85' := s85
        rw [Array.getD_eq_getD_getElem?] at s85'
        clear hd hy hb
        go_simp
        exact hK.out _ W (stp_of hmo d (Below.refl _ _)) (if_pos rfl)
      case fin =>
        intro yy lo hi W hM
        show wpList _ _ _ [] _ _
        have e0 : yy 0 = .agg #[.int .i64 (N : Int), .int .i64 (m : Int), .slice p1 S1.length k1, .slice p2 RP.length k2, .slice p3 E1.length k3] := hM.fact 0 (by simp) rfl (notR_all 0 rfl)
        have e1 : yy 1 = .pointer (some ⟨w.heap.size, 10, none⟩) := hM.fact 1 (by simp) rfl (notR_all 1 rfl)
        have e2 : yy 2 = .slice aw nw cw := hM.fact 2 (by simp) rfl (notR_all 2 rfl)
        have e3 : yy 3 = .int .i64 (k : Int) := hM.fact 3 (by simp) rfl (notR_all 3 rfl)
        have e5 : yy 5 = .bool true := hM.fact 5 (by simp) rfl (notR_all 5 rfl)
        have e6 : yy 6 = .bool false := hM.fact 6 (by simp) rfl (notR_all 6 rfl)
        have e7 : yy 7 = .bool false := hM.fact 7 (by simp) rfl (notR_all 7 rfl)
        have e8 : yy 8 = .agg #[.int .i64 (N : Int), .int .i64 (m : Int), .slice s1 RS.length j1, .slice s2 F1.length j2, .slice s3 E1.length j3] := hM.fact 8 (by simp) rfl (notR_all 8 rfl)
        have e9 : yy 9 = .pointer (some ⟨w.heap.size, 10, none⟩) := hM.fact 9 (by simp) rfl (notR_all 9 rfl)
        have e10 : yy 10 = .slice aw nw cw := hM.fact 10 (by simp) rfl (notR_all 10 rfl)
        have e11 : yy 11 = .int .i64 (k : Int) := hM.fact 11 (by simp) rfl (notR_all 11 rfl)
        have e13 : yy 13 = .bool true := hM.fact 13 (by simp) rfl (notR_all 13 rfl)
        have e14 : yy 14 = .bool false := hM.fact 14 (by simp) rfl (notR_all 14 rfl)
        have e15 : yy 15 = .bool false := hM.fact 15 (by simp) rfl (notR_all 15 rfl)
        obtain ⟨ad4, ca4, e4, _⟩ := hM.fact 4 (by simp) rfl (notR_all 4 rfl)
        obtain ⟨ad12, ca12, e12, _⟩ := hM.fact 12 (by simp) rfl (notR_all 12 rfl)
        have HDD := hide (HZ.out.on hM.d)
        simp only [fills, Act.put, List.take, List.length, List.setIfInBounds_toArray, List.set_cons_zero, List.set_cons_succ, e0, e1, e2, e3, e5, e6, e7, e8, e9, e10, e11, e13, e14, e15, e4, e12]
        clear hM hmo e0 e1 e2 e3 e5 e6 e7 e8 e9 e10 e11 e13 e14 e15 e4 e12
        go_wp2_with fail
        go_meet
        exact ⟨_, rfl, HDD⟩
  case rest =>
    obtain ⟨x9, rfl, HS⟩ := hcut
    rename World => X8
    clear H7 HEC
    obtain ⟨sy, hsy⟩ : ∃ b, Wd.all (inB (m : Int)) = b := ⟨_, rfl⟩
    rw [hsy] at T12 T13 HEP
    clear hsy
    have y0 : X8.cell? ⟨w.heap.size, 0, none⟩ = some (.int .i64 (N : Int)) := cell_of HS.out.b0 rfl
    have y1 : X8.cell? ⟨w.heap.size, 1, none⟩ = some (.int .i64 (m : Int)) := cell_of HS.out.b0 rfl
    have y2 : X8.cell? ⟨w.heap.size, 2, none⟩ = some (.slice a1 n1 c1) := cell_of HS.out.b0 rfl
    have y3 : X8.cell? ⟨w.heap.size, 3, none⟩ = some (.slice a2 n2 c2) := cell_of HS.out.b0 rfl
    have y4 : X8.cell? ⟨w.heap.size, 4, none⟩ = some (.slice a3 n3 c3) := cell_of HS.out.b0 rfl
    have y5 : X8.cell? ⟨w.heap.size, 5, none⟩ = some (.int .i64 n') := cell_of HS.out.b0 rfl
    have y6 : X8.cell? ⟨w.heap.size, 6, none⟩ = some (.int .i64 m') := cell_of HS.out.b0 rfl
    have y7 : X8.cell? ⟨w.heap.size, 7, none⟩ = some (.slice b1 l1 d1) := cell_of HS.out.b0 rfl
    have y8 : X8.cell? ⟨w.heap.size, 8, none⟩ = some (.slice b2 l2 d2) := cell_of HS.out.b0 rfl
    have y9 : X8.cell? ⟨w.heap.size, 9, none⟩ = some (.slice b3 l3 d3) := cell_of HS.out.b0 rfl
    have y10 : X8.cell? ⟨w.heap.size, 10, none⟩ = some (.slice aw nw cw) := cell_of HS.out.b0 rfl
    have y11 : X8.cell? ⟨w.heap.size, 11, none⟩ = some (.slice av nv cv) := cell_of HS.out.b0 rfl
    cases sy
    · go_wp2_with (go_at_call 12; refine (T12.out _ HS.out.be).mono ?_; rintro e w9 ⟨rfl, D9⟩; have H9 := hide (HS.out.on D9).be; clear D9)
      go_ret
      exact ⟨rfl, H9.out⟩
    go_upto_region 13 with (go_at_call 12; refine (T12.out _ HS.out.be).mono ?_; rintro e w9 ⟨rfl, D9⟩; have H9 := hide (HS.out.on D9); clear D9)
    clear T12 HS y0 y1 y2 y3 y4 y5 y6 y7 y8 y9 y10 y11
    have y0 : w9.cell? ⟨w.heap.size, 0, none⟩ = some (.int .i64 (N : Int)) := cell_of H9.out.b0 rfl
    have y1 : w9.cell? ⟨w.heap.size, 1, none⟩ = some (.int .i64 (m : Int)) := cell_of H9.out.b0 rfl
    have y2 : w9.cell? ⟨w.heap.size, 2, none⟩ = some (.slice a1 n1 c1) := cell_of H9.out.b0 rfl
    have y3 : w9.cell? ⟨w.heap.size, 3, none⟩ = some (.slice a2 n2 c2) := cell_of H9.out.b0 rfl
    have y4 : w9.cell? ⟨w.heap.size, 4, none⟩ = some (.slice a3 n3 c3) := cell_of H9.out.b0 rfl
    have y5 : w9.cell? ⟨w.heap.size, 5, none⟩ = some (.int .i64 n') := cell_of H9.out.b0 rfl
    have y6 : w9.cell? ⟨w.heap.size, 6, none⟩ = some (.int .i64 m') := cell_of H9.out.b0 rfl
    have y7 : w9.cell? ⟨w.heap.size, 7, none⟩ = some (.slice b1 l1 d1) := cell_of H9.out.b0 rfl
    have y8 : w9.cell? ⟨w.heap.size, 8, none⟩ = some (.slice b2 l2 d2) := cell_of H9.out.b0 rfl
    have y9 : w9.cell? ⟨w.heap.size, 9, none⟩ = some (.slice b3 l3 d3) := cell_of H9.out.b0 rfl
    have y10 : w9.cell? ⟨w.heap.size, 10, none⟩ = some (.slice aw nw cw) := cell_of H9.out.b0 rfl
    have y11 : w9.cell? ⟨w.heap.size, 11, none⟩ = some (.slice av nv cv) := cell_of H9.out.b0 rfl
    go_upto_region 14 with (go_at_call 13; refine (T13.out _ H9.out.be (by simp)).mono ?_; rintro e wt ⟨bl, cl, rfl, H10⟩)
    clear T13 y0 y1 y2 y3 y4 y5 y6 y7 y8 y9 y10 y11
    have HS : Hid (EdS w wt #[.int .i64 (N : Int), .int .i64 (m : Int), .slice a1 n1 c1, .slice a2 n2 c2, .slice a3 n3 c3, .int .i64 n', .int .i64 m', .slice b1 l1 d1, .slice b2 l2 d2, .slice b3 l3 d3, .slice aw nw cw, .slice av nv cv] p5 p7 #[.int .i64 (N : Int), .int .i64 (m : Int), .slice p1 S1.length k1, .slice p2 RP.length k2, .slice p3 E1.length k3] #[.int .i64 (N : Int), .int .i64 (m : Int), .slice s1 RS.length j1, .slice s2 F1.length j2, .slice s3 E1.length j3] p1 p2 p3 s1 s2 s3 S1 RP E1 RS F1) := hide (H9.out.on H10.out.2)
    have HRb : Hid (LO w9.heap.size wt bl cl LL) := hide H10.out.1
    clear H9 H10
    have y0 : wt.cell? ⟨w.heap.size, 0, none⟩ = some (.int .i64 (N : Int)) := cell_of HS.out.b0 rfl
    have y1 : wt.cell? ⟨w.heap.size, 1, none⟩ = some (.int .i64 (m : Int)) := cell_of HS.out.b0 rfl
    have y2 : wt.cell? ⟨w.heap.size, 2, none⟩ = some (.slice a1 n1 c1) := cell_of HS.out.b0 rfl
    have y3 : wt.cell? ⟨w.heap.size, 3, none⟩ = some (.slice a2 n2 c2) := cell_of HS.out.b0 rfl
    have y4 : wt.cell? ⟨w.heap.size, 4, none⟩ = some (.slice a3 n3 c3) := cell_of HS.out.b0 rfl
    have y5 : wt.cell? ⟨w.heap.size, 5, none⟩ = some (.int .i64 n') := cell_of HS.out.b0 rfl
    have y6 : wt.cell? ⟨w.heap.size, 6, none⟩ = some (.int .i64 m') := cell_of HS.out.b0 rfl
    have y7 : wt.cell? ⟨w.heap.size, 7, none⟩ = some (.slice b1 l1 d1) := cell_of HS.out.b0 rfl
    have y8 : wt.cell? ⟨w.heap.size, 8, none⟩ = some (.slice b2 l2 d2) := cell_of HS.out.b0 rfl
    have y9 : wt.cell? ⟨w.heap.size, 9, none⟩ = some (.slice b3 l3 d3) := cell_of HS.out.b0 rfl
    have y10 : wt.cell? ⟨w.heap.size, 10, none⟩ = some (.slice aw nw cw) := cell_of HS.out.b0 rfl
    have y11 : wt.cell? ⟨w.heap.size, 11, none⟩ = some (.slice av nv cv) := cell_of HS.out.b0 rfl
    go_upto_region 15 with fail
    clear y0 y1 y2 y3 y4 y5 y6 y7 y8 y9 y10 y11
    obtain ⟨W11, hW11⟩ : ∃ W, wt.alloc (.cells #[.int .i64 (N : Int), .int .i64 (m : Int), .slice a1 n1 c1, .slice a2 n2 c2, .slice a3 n3 c3] 25) = W := ⟨_, rfl⟩
    have H11 : Hid (W11.heap[wt.heap.size]? = some (.cells #[.int .i64 (N : Int), .int .i64 (m : Int), .slice a1 n1 c1, .slice a2 n2 c2, .slice a3 n3 c3] 25 (0, 0)) ∧ Below wt.heap.size wt W11 ∧ W11.heap.size = wt.heap.size + 1) := hide (by rw [← hW11]; exact ⟨World.alloc_heap_new _ _, (Below.refl _ _).alloc (Nat.le_refl _) _, by simp⟩)
    rw [hW11]
    clear hW11
    have z0 : W11.cell? ⟨wt.heap.size, 2, none⟩ = some (.slice a1 n1 c1) := cell_of H11.out.1 rfl
    have z1 : W11.frozen? ⟨wt.heap.size, 2, none⟩ = false := fz_of H11.out.1
    go_upto_region 16 with fail
    clear z0 z1
    obtain ⟨W12, hW12⟩ : ∃ W, W11.setCell ⟨wt.heap.size, 2, none⟩ (.slice bl LL.length cl) = W := ⟨_, rfl⟩
    have H12 : Hid (W12.heap[wt.heap.size]? = some (.cells #[.int .i64 (N : Int), .int .i64 (m : Int), .slice bl LL.length cl, .slice a2 n2 c2, .slice a3 n3 c3] 25 (0, 0)) ∧ Below wt.heap.size wt W12 ∧ W12.heap.size = wt.heap.size + 1) := hide (by
      have o := only_set W11 wt.heap.size 2 (.slice bl LL.length cl)
      rw [hW12] at o
      refine ⟨?_, H11.out.2.1.trans (o.toBelow H11.out.2.1.size (fun k hk => by omega)), ?_⟩
      · rw [← hW12]
        exact heap_setCell_same _ _ 2 _ 25 _ H11.out.1
      · rw [← hW12, show (W11.setCell ⟨wt.heap.size, 2, none⟩ (.slice bl LL.length cl)).heap.size = W11.heap.size by simp [World.setCell], H11.out.2.2])
    rw [hW12]
    clear hW12 H11
    have HS12 : Hid (EdS w W12 #[.int .i64 (N : Int), .int .i64 (m : Int), .slice a1 n1 c1, .slice a2 n2 c2, .slice a3 n3 c3, .int .i64 n', .int .i64 m', .slice b1 l1 d1, .slice b2 l2 d2, .slice b3 l3 d3, .slice aw nw cw, .slice av nv cv] p5 p7 #[.int .i64 (N : Int), .int .i64 (m : Int), .slice p1 S1.length k1, .slice p2 RP.length k2, .slice p3 E1.length k3] #[.int .i64 (N : Int), .int .i64 (m : Int), .slice s1 RS.length j1, .slice s2 F1.length j2, .slice s3 E1.length j3] p1 p2 p3 s1 s2 s3 S1 RP E1 RS F1) := hide (HS.out.on H12.out.2.1)
    have y0 : W12.cell? ⟨w.heap.size, 0, none⟩ = some (.int .i64 (N : Int)) := cell_of HS12.out.b0 rfl
    have y1 : W12.cell? ⟨w.heap.size, 1, none⟩ = some (.int .i64 (m : Int)) := cell_of HS12.out.b0 rfl
    have y2 : W12.cell? ⟨w.heap.size, 2, none⟩ = some (.slice a1 n1 c1) := cell_of HS12.out.b0 rfl
    have y3 : W12.cell? ⟨w.heap.size, 3, none⟩ = some (.slice a2 n2 c2) := cell_of HS12.out.b0 rfl
    have y4 : W12.cell? ⟨w.heap.size, 4, none⟩ = some (.slice a3 n3 c3) := cell_of HS12.out.b0 rfl
    have y5 : W12.cell? ⟨w.heap.size, 5, none⟩ = some (.int .i64 n') := cell_of HS12.out.b0 rfl
    have y6 : W12.cell? ⟨w.heap.size, 6, none⟩ = some (.int .i64 m') := cell_of HS12.out.b0 rfl
    have y7 : W12.cell? ⟨w.heap.size, 7, none⟩ = some (.slice b1 l1 d1) := cell_of HS12.out.b0 rfl
    have y8 : W12.cell? ⟨w.heap.size, 8, none⟩ = some (.slice b2 l2 d2) := cell_of HS12.out.b0 rfl
    have y9 : W12.cell? ⟨w.heap.size, 9, none⟩ = some (.slice b3 l3 d3) := cell_of HS12.out.b0 rfl
    have y10 : W12.cell? ⟨w.heap.size, 10, none⟩ = some (.slice aw nw cw) := cell_of HS12.out.b0 rfl
    have y11 : W12.cell? ⟨w.heap.size, 11, none⟩ = some (.slice av nv cv) := cell_of HS12.out.b0 rfl
    go_upto_region 17 with fail
    clear y0 y1 y2 y3 y4 y5 y6 y7 y8 y9 y10 y11
    obtain ⟨W13, hW13⟩ : ∃ W, W12.alloc (.cells #[.int .i64 (N : Int), .int .i64 (m : Int), .slice a1 n1 c1, .slice a2 n2 c2, .slice a3 n3 c3] 25) = W := ⟨_, rfl⟩
    have H13 : Hid (W13.heap[wt.heap.size + 1]? = some (.cells #[.int .i64 (N : Int), .int .i64 (m : Int), .slice a1 n1 c1, .slice a2 n2 c2, .slice a3 n3 c3] 25 (0, 0)) ∧ W13.heap[wt.heap.size]? = some (.cells #[.int .i64 (N : Int), .int .i64 (m : Int), .slice bl LL.length cl, .slice a2 n2 c2, .slice a3 n3 c3] 25 (0, 0)) ∧ Below wt.heap.size wt W13 ∧ W13.heap.size = wt.heap.size + 2) := hide (by
      have z := World.alloc_heap_new W12 (.cells #[.int .i64 (N : Int), .int .i64 (m : Int), .slice a1 n1 c1, .slice a2 n2 c2, .slice a3 n3 c3] 25)
      have k : Below W12.heap.size W12 W13 := by rw [← hW13]; exact (Below.refl _ _).alloc (Nat.le_refl _) _
      rw [hW13, H12.out.2.2] at z
      exact ⟨z, blk_on H12.out.1 k, H12.out.2.1.trans (k.mono H12.out.2.1.size), by rw [← hW13, World.size_alloc, H12.out.2.2]⟩)
    rw [hW13, show W12.heap.size = wt.heap.size + 1 from H12.out.2.2]
    clear hW13 H12 HS12
    have HS13 : Hid (EdS w W13 #[.int .i64 (N : Int), .int .i64 (m : Int), .slice a1 n1 c1, .slice a2 n2 c2, .slice a3 n3 c3, .int .i64 n', .int .i64 m', .slice b1 l1 d1, .slice b2 l2 d2, .slice b3 l3 d3, .slice aw nw cw, .slice av nv cv] p5 p7 #[.int .i64 (N : Int), .int .i64 (m : Int), .slice p1 S1.length k1, .slice p2 RP.length k2, .slice p3 E1.length k3] #[.int .i64 (N : Int), .int .i64 (m : Int), .slice s1 RS.length j1, .slice s2 F1.length j2, .slice s3 E1.length j3] p1 p2 p3 s1 s2 s3 S1 RP E1 RS F1) := hide (HS.out.on H13.out.2.2.1)
    have y0 : W13.cell? ⟨w.heap.size, 0, none⟩ = some (.int .i64 (N : Int)) := cell_of HS13.out.b0 rfl
    have y1 : W13.cell? ⟨w.heap.size, 1, none⟩ = some (.int .i64 (m : Int)) := cell_of HS13.out.b0 rfl
    have y2 : W13.cell? ⟨w.heap.size, 2, none⟩ = some (.slice a1 n1 c1) := cell_of HS13.out.b0 rfl
    have y3 : W13.cell? ⟨w.heap.size, 3, none⟩ = some (.slice a2 n2 c2) := cell_of HS13.out.b0 rfl
    have y4 : W13.cell? ⟨w.heap.size, 4, none⟩ = some (.slice a3 n3 c3) := cell_of HS13.out.b0 rfl
    have y5 : W13.cell? ⟨w.heap.size, 5, none⟩ = some (.int .i64 n') := cell_of HS13.out.b0 rfl
    have y6 : W13.cell? ⟨w.heap.size, 6, none⟩ = some (.int .i64 m') := cell_of HS13.out.b0 rfl
    have y7 : W13.cell? ⟨w.heap.size, 7, none⟩ = some (.slice b1 l1 d1) := cell_of HS13.out.b0 rfl
    have y8 : W13.cell? ⟨w.heap.size, 8, none⟩ = some (.slice b2 l2 d2) := cell_of HS13.out.b0 rfl
    have y9 : W13.cell? ⟨w.heap.size, 9, none⟩ = some (.slice b3 l3 d3) := cell_of HS13.out.b0 rfl
    have y10 : W13.cell? ⟨w.heap.size, 10, none⟩ = some (.slice aw nw cw) := cell_of HS13.out.b0 rfl
    have y11 : W13.cell? ⟨w.heap.size, 11, none⟩ = some (.slice av nv cv) := cell_of HS13.out.b0 rfl
    go_upto_region 18 with (go_at_call 14; refine (T14.out _ HS13.out.be).mono ?_; rintro e w14 ⟨bs, cs, rfl, O14, D14⟩; have H14 := hide (And.intro O14.out D14); clear O14 D14; have z0 : w14.cell? ⟨wt.heap.size + 1, 2, none⟩ = some (.slice a1 n1 c1) := cell_of (blk_on H13.out.1 H14.out.2) rfl; have z1 : w14.frozen? ⟨wt.heap.size + 1, 2, none⟩ = false := fz_of (blk_on H13.out.1 H14.out.2))
    clear T14 HS13 z0 z1 y0 y1 y2 y3 y4 y5 y6 y7 y8 y9 y10 y11
    obtain ⟨W15, hW15⟩ : ∃ W, w14.setCell ⟨wt.heap.size + 1, 2, none⟩ (.slice bs SS.length cs) = W := ⟨_, rfl⟩
    have H15 : Hid (EdS w W15 #[.int .i64 (N : Int), .int .i64 (m : Int), .slice a1 n1 c1, .slice a2 n2 c2, .slice a3 n3 c3, .int .i64 n', .int .i64 m', .slice b1 l1 d1, .slice b2 l2 d2, .slice b3 l3 d3, .slice aw nw cw, .slice av nv cv] p5 p7 #[.int .i64 (N : Int), .int .i64 (m : Int), .slice p1 S1.length k1, .slice p2 RP.length k2, .slice p3 E1.length k3] #[.int .i64 (N : Int), .int .i64 (m : Int), .slice s1 RS.length j1, .slice s2 F1.length j2, .slice s3 E1.length j3] p1 p2 p3 s1 s2 s3 S1 RP E1 RS F1 ∧ W15.heap[wt.heap.size]? = some (.cells #[.int .i64 (N : Int), .int .i64 (m : Int), .slice bl LL.length cl, .slice a2 n2 c2, .slice a3 n3 c3] 25 (0, 0)) ∧ W15.heap[wt.heap.size + 1]? = some (.cells #[.int .i64 (N : Int), .int .i64 (m : Int), .slice bs SS.length cs, .slice a2 n2 c2, .slice a3 n3 c3] 25 (0, 0)) ∧ RdN W15 bl LL ∧ RdN W15 bs SS) := hide (by
      have o := only_set w14 (wt.heap.size + 1) 2 (.slice bs SS.length cs)
      rw [hW15] at o
      have F := blk_on H13.out.1 H14.out.2
      have d14 := H13.out.2.2.1.trans (H14.out.2.mono H13.out.2.2.1.size)
      have d15 := d14.trans (o.toBelow d14.size (fun k hk => by omega))
      have s14 := H14.out.2.size
      have s13 := H13.out.2.2.2
      refine ⟨HS.out.on d15, (o.block _ (by omega) (by omega)).trans (blk_on H13.out.2.1 H14.out.2), ?_, own_rdN (own_below HRb.out d15), own_rdN (own_keep H14.out.1 F (by decide) o)⟩
      rw [← hW15]
      exact heap_setCell_same _ _ 2 _ 25 _ F)
    rw [hW15]
    clear hW15 H14 H13 HS HRb
    have T15 : Hid (∀ W, Below w.heap.size w W → RdN W bl LL → Calls Tryz.prog 15 #[.agg #[.int .i64 (N : Int), .int .i64 (m : Int), .slice bl LL.length cl, .slice a2 n2 c2, .slice a3 n3 c3]] W fun e w' => e = .returned (.bool (tkF (N : Int) (m : Int) S1 RP E1 Wd)) ∧ Below W.heap.size W w') := hide (fun W d hr => by
      have q := lsome2_any W N m LL.length n2 n3 bl a2 a3 cl c2 c3 LL Fi Ed (hide ⟨rfl, en.out.2.1, en.out.2.2.1⟩) (hide ⟨hr, (hA.out.on d).f, (hA.out.on d).e⟩) HLL.out h2 h3 HNM.out.1 HNM.out.2 HEI HIN
      rw [← HEP.out (by simp)] at q
      exact q)
    have T1P : Hid (∀ W, EdS w W #[.int .i64 (N : Int), .int .i64 (m : Int), .slice a1 n1 c1, .slice a2 n2 c2, .slice a3 n3 c3, .int .i64 n', .int .i64 m', .slice b1 l1 d1, .slice b2 l2 d2, .slice b3 l3 d3, .slice aw nw cw, .slice av nv cv] p5 p7 #[.int .i64 (N : Int), .int .i64 (m : Int), .slice p1 S1.length k1, .slice p2 RP.length k2, .slice p3 E1.length k3] #[.int .i64 (N : Int), .int .i64 (m : Int), .slice s1 RS.length j1, .slice s2 F1.length j2, .slice s3 E1.length j3] p1 p2 p3 s1 s2 s3 S1 RP E1 RS F1 → Calls Tryz.prog 11 #[.agg #[.int .i64 (N : Int), .int .i64 (m : Int), .slice p1 S1.length k1, .slice p2 RP.length k2, .slice p3 E1.length k3], .slice aw nw cw] W fun e w' => e = .returned (.bool (tkF (N : Int) (m : Int) S1 RP E1 Wd)) ∧ Below W.heap.size W w') := hide (fun W hs => by
      have q := ltakes_any W (N : Int) (m : Int) p1 p2 p3 k1 k2 k3 S1 RP E1 aw cw Wd (hide hs.rP) (hide (hU.out.on hs.be)) HRL.out.1 HRL.out.2.1 HRL.out.2.2.1 (by rw [en.out.2.2.2]; exact hw)
      rw [en.out.2.2.2] at q
      exact q)
    have T1S : Hid (∀ W, EdS w W #[.int .i64 (N : Int), .int .i64 (m : Int), .slice a1 n1 c1, .slice a2 n2 c2, .slice a3 n3 c3, .int .i64 n', .int .i64 m', .slice b1 l1 d1, .slice b2 l2 d2, .slice b3 l3 d3, .slice aw nw cw, .slice av nv cv] p5 p7 #[.int .i64 (N : Int), .int .i64 (m : Int), .slice p1 S1.length k1, .slice p2 RP.length k2, .slice p3 E1.length k3] #[.int .i64 (N : Int), .int .i64 (m : Int), .slice s1 RS.length j1, .slice s2 F1.length j2, .slice s3 E1.length j3] p1 p2 p3 s1 s2 s3 S1 RP E1 RS F1 → Calls Tryz.prog 11 #[.agg #[.int .i64 (N : Int), .int .i64 (m : Int), .slice s1 RS.length j1, .slice s2 F1.length j2, .slice s3 E1.length j3], .slice aw nw cw] W fun e w' => e = .returned (.bool (tkF (N : Int) (m : Int) RS F1 E1 Wd)) ∧ Below W.heap.size W w') := hide (fun W hs => by
      have q := ltakes_any W (N : Int) (m : Int) s1 s2 s3 j1 j2 j3 RS F1 E1 aw cw Wd (hide hs.rS) (hide (hU.out.on hs.be)) HRL.out.2.2.2.1 HRL.out.2.2.2.2 HRL.out.2.2.1 (by rw [en.out.2.2.2]; exact hw)
      rw [en.out.2.2.2] at q
      exact q)
    have T1C : Hid (∀ W, Below w.heap.size w W → RdN W bs SS → Calls Tryz.prog 11 #[.agg #[.int .i64 (N : Int), .int .i64 (m : Int), .slice bs SS.length cs, .slice a2 n2 c2, .slice a3 n3 c3], .slice aw nw cw] W fun e w' => e = .returned (.bool (tkF (N : Int) (m : Int) RS F1 E1 Wd)) ∧ Below W.heap.size W w') := hide (fun W d hr => by
      have q := ltakes_any W (N : Int) (m : Int) bs a2 a3 cs c2 c3 SS Fi Ed aw cw Wd (hide ⟨hr, (hA.out.on d).f, (hA.out.on d).e⟩) (hide (hU.out.on d)) HSL.out (by rw [en.out.2.1]; exact h2) (by rw [en.out.2.2.1]; exact h3) (by rw [en.out.2.2.2]; exact hw)
      rw [en.out.2.1, en.out.2.2.1, en.out.2.2.2, ← HES.out] at q
      exact q)
    obtain ⟨tP, htP⟩ : ∃ b, tkF (N : Int) (m : Int) S1 RP E1 Wd = b := ⟨_, rfl⟩
    obtain ⟨tS, htS⟩ : ∃ b, tkF (N : Int) (m : Int) RS F1 E1 Wd = b := ⟨_, rfl⟩
    rw [htP] at T15 T1P
    rw [htS] at T1S T1C
    clear htP htS HEP HES
    have eP : (tP == tP) = true := by simp
    have eS : (tS == tS) = true := by simp
    have hmo : MonIL 0 [vI 0 (.agg #[.int .i64 (N : Int), .int .i64 (m : Int), .slice p1 S1.length k1, .slice p2 RP.length k2, .slice p3 E1.length k3]), vI 1 (.pointer (some ⟨w.heap.size, 10, none⟩)), vI 2 (.slice aw nw cw), vI 3 (.bool tP), vI 4 (.agg #[.int .i64 (N : Int), .int .i64 (m : Int), .slice bl LL.length cl, .slice a2 n2 c2, .slice a3 n3 c3]), vI 5 (.bool tP), vI 6 (.bool true), vI 7 (.bool true), vI 8 (.agg #[.int .i64 (N : Int), .int .i64 (m : Int), .slice s1 RS.length j1, .slice s2 F1.length j2, .slice s3 E1.length j3]), vI 9 (.pointer (some ⟨w.heap.size, 10, none⟩)), vI 10 (.slice aw nw cw), vI 11 (.bool tS), vI 12 (.agg #[.int .i64 (N : Int), .int .i64 (m : Int), .slice bs SS.length cs, .slice a2 n2 c2, .slice a3 n3 c3]), vI 13 (.pointer (some ⟨w.heap.size, 10, none⟩)), vI 14 (.slice aw nw cw), vI 15 (.bool tS), vI 16 (.bool true), vI 17 (.bool true)] := ⟨vI_mono _ _, vI_mono _ _, vI_mono _ _, vI_mono _ _, vI_mono _ _, vI_mono _ _, vI_mono _ _, vI_mono _ _, vI_mono _ _, vI_mono _ _, vI_mono _ _, vI_mono _ _, vI_mono _ _, vI_mono _ _, vI_mono _ _, vI_mono _ _, vI_mono _ _, vI_mono _ _, trivial⟩
    refine wp_region_sl [vI 0 (.agg #[.int .i64 (N : Int), .int .i64 (m : Int), .slice p1 S1.length k1, .slice p2 RP.length k2, .slice p3 E1.length k3]), vI 1 (.pointer (some ⟨w.heap.size, 10, none⟩)), vI 2 (.slice aw nw cw), vI 3 (.bool tP), vI 4 (.agg #[.int .i64 (N : Int), .int .i64 (m : Int), .slice bl LL.length cl, .slice a2 n2 c2, .slice a3 n3 c3]), vI 5 (.bool tP), vI 6 (.bool true), vI 7 (.bool true), vI 8 (.agg #[.int .i64 (N : Int), .int .i64 (m : Int), .slice s1 RS.length j1, .slice s2 F1.length j2, .slice s3 E1.length j3]), vI 9 (.pointer (some ⟨w.heap.size, 10, none⟩)), vI 10 (.slice aw nw cw), vI 11 (.bool tS), vI 12 (.agg #[.int .i64 (N : Int), .int .i64 (m : Int), .slice bs SS.length cs, .slice a2 n2 c2, .slice a3 n3 c3]), vI 13 (.pointer (some ⟨w.heap.size, 10, none⟩)), vI 14 (.slice aw nw cw), vI 15 (.bool tS), vI 16 (.bool true), vI 17 (.bool true)] (by kernel_rfl) (by kernel_rfl) (by kernel_rfl) (by kernel_rfl) hmo ⟨?o0, ?o1, ?o2, ?o3, ?o4, ?o5, ?o6, ?o7, ?o8, ?o9, ?o10, ?o11, ?o12, ?o13, ?o14, ?o15, ?o16, ?o17, trivial⟩ ?fin
    case o0 =>
      intro At yy W hy hb d hd K hK
      have s5 : At.tmps.getD 5 undef = .pointer (some ⟨p5, 0, none⟩) := hb 5 rfl
      have s5' := s5
      rw [Array.getD_eq_getD_getElem?] at s5'
      clear hd hy hb
      have hs := H15.out.1.on d
      have y10 : W.cell? ⟨w.heap.size, 10, none⟩ = some (.slice aw nw cw) := cell_of hs.b0 rfl
      have hb12 := blk_on H15.out.2.1 d
      have hb13 := blk_on H15.out.2.2.1 d
      have x0 : W.cell? ⟨p5, 0, none⟩ = some (.int .i64 (N : Int)) := cell_of hs.b5 rfl
      have x1 : W.cell? ⟨p5, 1, none⟩ = some (.int .i64 (m : Int)) := cell_of hs.b5 rfl
      have x2 : W.cell? ⟨p5, 2, none⟩ = some (.slice p1 S1.length k1) := cell_of hs.b5 rfl
      have x3 : W.cell? ⟨p5, 3, none⟩ = some (.slice p2 RP.length k2) := cell_of hs.b5 rfl
      have x4 : W.cell? ⟨p5, 4, none⟩ = some (.slice p3 E1.length k3) := cell_of hs.b5 rfl
      have z0 : W.cell? ⟨p7, 0, none⟩ = some (.int .i64 (N : Int)) := cell_of hs.b7 rfl
      have z1 : W.cell? ⟨p7, 1, none⟩ = some (.int .i64 (m : Int)) := cell_of hs.b7 rfl
      have z2 : W.cell? ⟨p7, 2, none⟩ = some (.slice s1 RS.length j1) := cell_of hs.b7 rfl
      have z3 : W.cell? ⟨p7, 3, none⟩ = some (.slice s2 F1.length j2) := cell_of hs.b7 rfl
      have z4 : W.cell? ⟨p7, 4, none⟩ = some (.slice s3 E1.length j3) := cell_of hs.b7 rfl
      have u0 : W.cell? ⟨wt.heap.size, 0, none⟩ = some (.int .i64 (N : Int)) := cell_of hb12 rfl
      have u1 : W.cell? ⟨wt.heap.size, 1, none⟩ = some (.int .i64 (m : Int)) := cell_of hb12 rfl
      have u2 : W.cell? ⟨wt.heap.size, 2, none⟩ = some (.slice bl LL.length cl) := cell_of hb12 rfl
      have u3 : W.cell? ⟨wt.heap.size, 3, none⟩ = some (.slice a2 n2 c2) := cell_of hb12 rfl
      have u4 : W.cell? ⟨wt.heap.size, 4, none⟩ = some (.slice a3 n3 c3) := cell_of hb12 rfl
      have v0 : W.cell? ⟨wt.heap.size + 1, 0, none⟩ = some (.int .i64 (N : Int)) := cell_of hb13 rfl
      have v1 : W.cell? ⟨wt.heap.size + 1, 1, none⟩ = some (.int .i64 (m : Int)) := cell_of hb13 rfl
      have v2 : W.cell? ⟨wt.heap.size + 1, 2, none⟩ = some (.slice bs SS.length cs) := cell_of hb13 rfl
      have v3 : W.cell? ⟨wt.heap.size + 1, 3, none⟩ = some (.slice a2 n2 c2) := cell_of hb13 rfl
      have v4 : W.cell? ⟨wt.heap.size + 1, 4, none⟩ = some (.slice a3 n3 c3) := cell_of hb13 rfl
      clear hs hb12 hb13
      go_simp
      exact hK.out _ W (stp_of hmo d (Below.refl _ _)) (if_pos rfl)
    case o1 =>
      intro At yy W hy hb d hd K hK
      have s2 : At.tmps.getD 2 undef = .pointer (some ⟨w.heap.size, 0, none⟩) := hb 2 rfl
      have s2' := s2
      rw [Array.getD_eq_getD_getElem?] at s2'
      clear hd hy hb
      go_simp
      exact hK.out _ W (stp_of hmo d (Below.refl _ _)) (if_pos rfl)
    case o2 =>
      intro At yy W hy hb d hd K hK
      have e1 : yy 1 = .pointer (some ⟨w.heap.size, 10, none⟩) := by obtain ⟨_, _, _, _, e⟩ := hd ⟨1, .data⟩ (by simp) rfl rfl; exact e
      have s116 := (hy 1 _ 116 rfl rfl).trans e1
      have s116' := s116
      rw [Array.getD_eq_getD_getElem?] at s116'
      clear hd hy hb
      have hs := H15.out.1.on d
      have y10 : W.cell? ⟨w.heap.size, 10, none⟩ = some (.slice aw nw cw) := cell_of hs.b0 rfl
      have hb12 := blk_on H15.out.2.1 d
      have hb13 := blk_on H15.out.2.2.1 d
      have x0 : W.cell? ⟨p5, 0, none⟩ = some (.int .i64 (N : Int)) := cell_of hs.b5 rfl
      have x1 : W.cell? ⟨p5, 1, none⟩ = some (.int .i64 (m : Int)) := cell_of hs.b5 rfl
      have x2 : W.cell? ⟨p5, 2, none⟩ = some (.slice p1 S1.length k1) := cell_of hs.b5 rfl
      have x3 : W.cell? ⟨p5, 3, none⟩ = some (.slice p2 RP.length k2) := cell_of hs.b5 rfl
      have x4 : W.cell? ⟨p5, 4, none⟩ = some (.slice p3 E1.length k3) := cell_of hs.b5 rfl
      have z0 : W.cell? ⟨p7, 0, none⟩ = some (.int .i64 (N : Int)) := cell_of hs.b7 rfl
      have z1 : W.cell? ⟨p7, 1, none⟩ = some (.int .i64 (m : Int)) := cell_of hs.b7 rfl
      have z2 : W.cell? ⟨p7, 2, none⟩ = some (.slice s1 RS.length j1) := cell_of hs.b7 rfl
      have z3 : W.cell? ⟨p7, 3, none⟩ = some (.slice s2 F1.length j2) := cell_of hs.b7 rfl
      have z4 : W.cell? ⟨p7, 4, none⟩ = some (.slice s3 E1.length j3) := cell_of hs.b7 rfl
      have u0 : W.cell? ⟨wt.heap.size, 0, none⟩ = some (.int .i64 (N : Int)) := cell_of hb12 rfl
      have u1 : W.cell? ⟨wt.heap.size, 1, none⟩ = some (.int .i64 (m : Int)) := cell_of hb12 rfl
      have u2 : W.cell? ⟨wt.heap.size, 2, none⟩ = some (.slice bl LL.length cl) := cell_of hb12 rfl
      have u3 : W.cell? ⟨wt.heap.size, 3, none⟩ = some (.slice a2 n2 c2) := cell_of hb12 rfl
      have u4 : W.cell? ⟨wt.heap.size, 4, none⟩ = some (.slice a3 n3 c3) := cell_of hb12 rfl
      have v0 : W.cell? ⟨wt.heap.size + 1, 0, none⟩ = some (.int .i64 (N : Int)) := cell_of hb13 rfl
      have v1 : W.cell? ⟨wt.heap.size + 1, 1, none⟩ = some (.int .i64 (m : Int)) := cell_of hb13 rfl
      have v2 : W.cell? ⟨wt.heap.size + 1, 2, none⟩ = some (.slice bs SS.length cs) := cell_of hb13 rfl
      have v3 : W.cell? ⟨wt.heap.size + 1, 3, none⟩ = some (.slice a2 n2 c2) := cell_of hb13 rfl
      have v4 : W.cell? ⟨wt.heap.size + 1, 4, none⟩ = some (.slice a3 n3 c3) := cell_of hb13 rfl
      clear hs hb12 hb13
      go_simp
      exact hK.out _ W (stp_of hmo d (Below.refl _ _)) (if_pos rfl)
    case o3 =>
      intro At yy W hy hb d hd K hK
      have e0 : yy 0 = .agg #[.int .i64 (N : Int), .int .i64 (m : Int), .slice p1 S1.length k1, .slice p2 RP.length k2, .slice p3 E1.length k3] := by obtain ⟨_, _, _, _, e⟩ := hd ⟨0, .data⟩ (by simp) rfl rfl; exact e
      have e2 : yy 2 = .slice aw nw cw := by obtain ⟨_, _, _, _, e⟩ := hd ⟨2, .data⟩ (by simp) rfl rfl; exact e
      have s115 := (hy 0 _ 115 rfl rfl).trans e0
      have s115' := s115
      rw [Array.getD_eq_getD_getElem?] at s115'
      have s117 := (hy 2 _ 117 rfl rfl).trans e2
      have s117' := s117
      rw [Array.getD_eq_getD_getElem?] at s117'
      clear hd hy hb
      go_simp
      go_wp2_with (go_at_call 11; refine (T1P.out W (H15.out.1.on d)).mono ?_; rintro e wa ⟨rfl, da⟩)
      exact hK.out _ wa (stp_of hmo d da) (if_pos rfl)
    case o4 =>
      intro At yy W hy hb d hd K hK
      have s12 : At.tmps.getD 12 undef = .pointer (some ⟨wt.heap.size, 0, none⟩) := hb 12 rfl
      have s12' := s12
      rw [Array.getD_eq_getD_getElem?] at s12'
      clear hd hy hb
      have hs := H15.out.1.on d
      have y10 : W.cell? ⟨w.heap.size, 10, none⟩ = some (.slice aw nw cw) := cell_of hs.b0 rfl
      have hb12 := blk_on H15.out.2.1 d
      have hb13 := blk_on H15.out.2.2.1 d
      have x0 : W.cell? ⟨p5, 0, none⟩ = some (.int .i64 (N : Int)) := cell_of hs.b5 rfl
      have x1 : W.cell? ⟨p5, 1, none⟩ = some (.int .i64 (m : Int)) := cell_of hs.b5 rfl
      have x2 : W.cell? ⟨p5, 2, none⟩ = some (.slice p1 S1.length k1) := cell_of hs.b5 rfl
      have x3 : W.cell? ⟨p5, 3, none⟩ = some (.slice p2 RP.length k2) := cell_of hs.b5 rfl
      have x4 : W.cell? ⟨p5, 4, none⟩ = some (.slice p3 E1.length k3) := cell_of hs.b5 rfl
      have z0 : W.cell? ⟨p7, 0, none⟩ = some (.int .i64 (N : Int)) := cell_of hs.b7 rfl
      have z1 : W.cell? ⟨p7, 1, none⟩ = some (.int .i64 (m : Int)) := cell_of hs.b7 rfl
      have z2 : W.cell? ⟨p7, 2, none⟩ = some (.slice s1 RS.length j1) := cell_of hs.b7 rfl
      have z3 : W.cell? ⟨p7, 3, none⟩ = some (.slice s2 F1.length j2) := cell_of hs.b7 rfl
      have z4 : W.cell? ⟨p7, 4, none⟩ = some (.slice s3 E1.length j3) := cell_of hs.b7 rfl
      have u0 : W.cell? ⟨wt.heap.size, 0, none⟩ = some (.int .i64 (N : Int)) := cell_of hb12 rfl
      have u1 : W.cell? ⟨wt.heap.size, 1, none⟩ = some (.int .i64 (m : Int)) := cell_of hb12 rfl
      have u2 : W.cell? ⟨wt.heap.size, 2, none⟩ = some (.slice bl LL.length cl) := cell_of hb12 rfl
      have u3 : W.cell? ⟨wt.heap.size, 3, none⟩ = some (.slice a2 n2 c2) := cell_of hb12 rfl
      have u4 : W.cell? ⟨wt.heap.size, 4, none⟩ = some (.slice a3 n3 c3) := cell_of hb12 rfl
      have v0 : W.cell? ⟨wt.heap.size + 1, 0, none⟩ = some (.int .i64 (N : Int)) := cell_of hb13 rfl
      have v1 : W.cell? ⟨wt.heap.size + 1, 1, none⟩ = some (.int .i64 (m : Int)) := cell_of hb13 rfl
      have v2 : W.cell? ⟨wt.heap.size + 1, 2, none⟩ = some (.slice bs SS.length cs) := cell_of hb13 rfl
      have v3 : W.cell? ⟨wt.heap.size + 1, 3, none⟩ = some (.slice a2 n2 c2) := cell_of hb13 rfl
      have v4 : W.cell? ⟨wt.heap.size + 1, 4, none⟩ = some (.slice a3 n3 c3) := cell_of hb13 rfl
      clear hs hb12 hb13
      go_simp
      exact hK.out _ W (stp_of hmo d (Below.refl _ _)) (if_pos rfl)
    case o5 =>
      intro At yy W hy hb d hd K hK
      have e4 : yy 4 = .agg #[.int .i64 (N : Int), .int .i64 (m : Int), .slice bl LL.length cl, .slice a2 n2 c2, .slice a3 n3 c3] := by obtain ⟨_, _, _, _, e⟩ := hd ⟨4, .data⟩ (by simp) rfl rfl; exact e
      have s119 := (hy 4 _ 119 rfl rfl).trans e4
      have s119' := s119
      rw [Array.getD_eq_getD_getElem?] at s119'
      clear hd hy hb
      go_simp
      go_wp2_with (go_at_call 15; refine (T15.out W (H15.out.1.on d).be (H15.out.2.2.2.1.on d)).mono ?_; rintro e wa ⟨rfl, da⟩)
      exact hK.out _ wa (stp_of hmo d da) (if_pos rfl)
    case o6 =>
      intro At yy W hy hb d hd K hK
      have e3 : yy 3 = .bool tP := by obtain ⟨_, _, _, _, e⟩ := hd ⟨3, .data⟩ (by simp) rfl rfl; exact e
      have e5 : yy 5 = .bool tP := by obtain ⟨_, _, _, _, e⟩ := hd ⟨5, .data⟩ (by simp) rfl rfl; exact e
      have s118 := (hy 3 _ 118 rfl rfl).trans e3
      have s118' := s118
      rw [Array.getD_eq_getD_getElem?] at s118'
      have s120 := (hy 5 _ 120 rfl rfl).trans e5
      have s120' := s120
      rw [Array.getD_eq_getD_getElem?] at s120'
      clear hd hy hb
      go_simp
      exact hK.out _ W (stp_of hmo d (Below.refl _ _)) (if_pos rfl)
    case o7 =>
      intro At yy W hy hb d hd K hK
      have e6 : yy 6 = .bool true := by obtain ⟨_, _, _, _, e⟩ := hd ⟨6, .data⟩ (by simp) rfl rfl; exact e
      have s121 := (hy 6 _ 121 rfl rfl).trans e6
      have s121' := s121
      rw [Array.getD_eq_getD_getElem?] at s121'
      clear hd hy hb
      go_simp
      exact hK.out _ W (stp_of hmo d (Below.refl _ _)) (if_pos rfl)
    case o8 =>
      intro At yy W hy hb d hd K hK
      have e7 : yy 7 = .bool true := by obtain ⟨_, _, _, _, e⟩ := hd ⟨7, .guard⟩ (by simp) rfl rfl; exact e
      have s7 : At.tmps.getD 7 undef = .pointer (some ⟨p7, 0, none⟩) := hb 7 rfl
      have s7' := s7
      rw [Array.getD_eq_getD_getElem?] at s7'
      have s122 := (hy 7 _ 122 rfl rfl).trans e7
      have s122' := s122
      rw [Array.getD_eq_getD_getElem?] at s122'
      have g122 := got_bool s122
      clear hd hy hb
      have hs := H15.out.1.on d
      have y10 : W.cell? ⟨w.heap.size, 10, none⟩ = some (.slice aw nw cw) := cell_of hs.b0 rfl
      have hb12 := blk_on H15.out.2.1 d
      have hb13 := blk_on H15.out.2.2.1 d
      have x0 : W.cell? ⟨p5, 0, none⟩ = some (.int .i64 (N : Int)) := cell_of hs.b5 rfl
      have x1 : W.cell? ⟨p5, 1, none⟩ = some (.int .i64 (m : Int)) := cell_of hs.b5 rfl
      have x2 : W.cell? ⟨p5, 2, none⟩ = some (.slice p1 S1.length k1) := cell_of hs.b5 rfl
      have x3 : W.cell? ⟨p5, 3, none⟩ = some (.slice p2 RP.length k2) := cell_of hs.b5 rfl
      have x4 : W.cell? ⟨p5, 4, none⟩ = some (.slice p3 E1.length k3) := cell_of hs.b5 rfl
      have z0 : W.cell? ⟨p7, 0, none⟩ = some (.int .i64 (N : Int)) := cell_of hs.b7 rfl
      have z1 : W.cell? ⟨p7, 1, none⟩ = some (.int .i64 (m : Int)) := cell_of hs.b7 rfl
      have z2 : W.cell? ⟨p7, 2, none⟩ = some (.slice s1 RS.length j1) := cell_of hs.b7 rfl
      have z3 : W.cell? ⟨p7, 3, none⟩ = some (.slice s2 F1.length j2) := cell_of hs.b7 rfl
      have z4 : W.cell? ⟨p7, 4, none⟩ = some (.slice s3 E1.length j3) := cell_of hs.b7 rfl
      have u0 : W.cell? ⟨wt.heap.size, 0, none⟩ = some (.int .i64 (N : Int)) := cell_of hb12 rfl
      have u1 : W.cell? ⟨wt.heap.size, 1, none⟩ = some (.int .i64 (m : Int)) := cell_of hb12 rfl
      have u2 : W.cell? ⟨wt.heap.size, 2, none⟩ = some (.slice bl LL.length cl) := cell_of hb12 rfl
      have u3 : W.cell? ⟨wt.heap.size, 3, none⟩ = some (.slice a2 n2 c2) := cell_of hb12 rfl
      have u4 : W.cell? ⟨wt.heap.size, 4, none⟩ = some (.slice a3 n3 c3) := cell_of hb12 rfl
      have v0 : W.cell? ⟨wt.heap.size + 1, 0, none⟩ = some (.int .i64 (N : Int)) := cell_of hb13 rfl
      have v1 : W.cell? ⟨wt.heap.size + 1, 1, none⟩ = some (.int .i64 (m : Int)) := cell_of hb13 rfl
      have v2 : W.cell? ⟨wt.heap.size + 1, 2, none⟩ = some (.slice bs SS.length cs) := cell_of hb13 rfl
      have v3 : W.cell? ⟨wt.heap.size + 1, 3, none⟩ = some (.slice a2 n2 c2) := cell_of hb13 rfl
      have v4 : W.cell? ⟨wt.heap.size + 1, 4, none⟩ = some (.slice a3 n3 c3) := cell_of hb13 rfl
      clear hs hb12 hb13
      go_simp
      exact hK.out _ W (stp_of hmo d (Below.refl _ _)) (if_pos rfl)
    case o9 =>
      intro At yy W hy hb d hd K hK
      have e7 : yy 7 = .bool true := by obtain ⟨_, _, _, _, e⟩ := hd ⟨7, .guard⟩ (by simp) rfl rfl; exact e
      have s2 : At.tmps.getD 2 undef = .pointer (some ⟨w.heap.size, 0, none⟩) := hb 2 rfl
      have s2' := s2
      rw [Array.getD_eq_getD_getElem?] at s2'
      have s122 := (hy 7 _ 122 rfl rfl).trans e7
      have s122' := s122
      rw [Array.getD_eq_getD_getElem?] at s122'
      have g122 := got_bool s122
      clear hd hy hb
      go_simp
      exact hK.out _ W (stp_of hmo d (Below.refl _ _)) (if_pos rfl)
    case o10 =>
      intro At yy W hy hb d hd K hK
      have e9 : yy 9 = .pointer (some ⟨w.heap.size, 10, none⟩) := by obtain ⟨_, _, _, _, e⟩ := hd ⟨9, .data⟩ (by simp) rfl rfl; exact e
      have e7 : yy 7 = .bool true := by obtain ⟨_, _, _, _, e⟩ := hd ⟨7, .guard⟩ (by simp) rfl rfl; exact e
      have s122 := (hy 7 _ 122 rfl rfl).trans e7
      have s122' := s122
      rw [Array.getD_eq_getD_getElem?] at s122'
      have s124 := (hy 9 _ 124 rfl rfl).trans e9
      have s124' := s124
      rw [Array.getD_eq_getD_getElem?] at s124'
      have g122 := got_bool s122
      clear hd hy hb
      have hs := H15.out.1.on d
      have y10 : W.cell? ⟨w.heap.size, 10, none⟩ = some (.slice aw nw cw) := cell_of hs.b0 rfl
      have hb12 := blk_on H15.out.2.1 d
      have hb13 := blk_on H15.out.2.2.1 d
      have x0 : W.cell? ⟨p5, 0, none⟩ = some (.int .i64 (N : Int)) := cell_of hs.b5 rfl
      have x1 : W.cell? ⟨p5, 1, none⟩ = some (.int .i64 (m : Int)) := cell_of hs.b5 rfl
      have x2 : W.cell? ⟨p5, 2, none⟩ = some (.slice p1 S1.length k1) := cell_of hs.b5 rfl
      have x3 : W.cell? ⟨p5, 3, none⟩ = some (.slice p2 RP.length k2) := cell_of hs.b5 rfl
      have x4 : W.cell? ⟨p5, 4, none⟩ = some (.slice p3 E1.length k3) := cell_of hs.b5 rfl
      have z0 : W.cell? ⟨p7, 0, none⟩ = some (.int .i64 (N : Int)) := cell_of hs.b7 rfl
      have z1 : W.cell? ⟨p7, 1, none⟩ = some (.int .i64 (m : Int)) := cell_of hs.b7 rfl
      have z2 : W.cell? ⟨p7, 2, none⟩ = some (.slice s1 RS.length j1) := cell_of hs.b7 rfl
      have z3 : W.cell? ⟨p7, 3, none⟩ = some (.slice s2 F1.length j2) := cell_of hs.b7 rfl
      have z4 : W.cell? ⟨p7, 4, none⟩ = some (.slice s3 E1.length j3) := cell_of hs.b7 rfl
      have u0 : W.cell? ⟨wt.heap.size, 0, none⟩ = some (.int .i64 (N : Int)) := cell_of hb12 rfl
      have u1 : W.cell? ⟨wt.heap.size, 1, none⟩ = some (.int .i64 (m : Int)) := cell_of hb12 rfl
      have u2 : W.cell? ⟨wt.heap.size, 2, none⟩ = some (.slice bl LL.length cl) := cell_of hb12 rfl
      have u3 : W.cell? ⟨wt.heap.size, 3, none⟩ = some (.slice a2 n2 c2) := cell_of hb12 rfl
      have u4 : W.cell? ⟨wt.heap.size, 4, none⟩ = some (.slice a3 n3 c3) := cell_of hb12 rfl
      have v0 : W.cell? ⟨wt.heap.size + 1, 0, none⟩ = some (.int .i64 (N : Int)) := cell_of hb13 rfl
      have v1 : W.cell? ⟨wt.heap.size + 1, 1, none⟩ = some (.int .i64 (m : Int)) := cell_of hb13 rfl
      have v2 : W.cell? ⟨wt.heap.size + 1, 2, none⟩ = some (.slice bs SS.length cs) := cell_of hb13 rfl
      have v3 : W.cell? ⟨wt.heap.size + 1, 3, none⟩ = some (.slice a2 n2 c2) := cell_of hb13 rfl
      have v4 : W.cell? ⟨wt.heap.size + 1, 4, none⟩ = some (.slice a3 n3 c3) := cell_of hb13 rfl
      clear hs hb12 hb13
      go_simp
      exact hK.out _ W (stp_of hmo d (Below.refl _ _)) (if_pos rfl)
    case o11 =>
      intro At yy W hy hb d hd K hK
      have e8 : yy 8 = .agg #[.int .i64 (N : Int), .int .i64 (m : Int), .slice s1 RS.length j1, .slice s2 F1.length j2, .slice s3 E1.length j3] := by obtain ⟨_, _, _, _, e⟩ := hd ⟨8, .data⟩ (by simp) rfl rfl; exact e
      have e10 : yy 10 = .slice aw nw cw := by obtain ⟨_, _, _, _, e⟩ := hd ⟨10, .data⟩ (by simp) rfl rfl; exact e
      have e7 : yy 7 = .bool true := by obtain ⟨_, _, _, _, e⟩ := hd ⟨7, .guard⟩ (by simp) rfl rfl; exact e
      have s122 := (hy 7 _ 122 rfl rfl).trans e7
      have s122' := s122
      rw [Array.getD_eq_getD_getElem?] at s122'
      have s123 := (hy 8 _ 123 rfl rfl).trans e8
      have s123' := s123
      rw [Array.getD_eq_getD_getElem?] at s123'
      have s125 := (hy 10 _ 125 rfl rfl).trans e10
      have s125' := s125
      rw [Array.getD_eq_getD_getElem?] at s125'
      have g122 := got_bool s122
      clear hd hy hb
      go_simp
      go_wp2_with (go_at_call 11; refine (T1S.out W (H15.out.1.on d)).mono ?_; rintro e wa ⟨rfl, da⟩)
      exact hK.out _ wa (stp_of hmo d da) (if_pos rfl)
    case o12 =>
      intro At yy W hy hb d hd K hK
      have e7 : yy 7 = .bool true := by obtain ⟨_, _, _, _, e⟩ := hd ⟨7, .guard⟩ (by simp) rfl rfl; exact e
      have s13 : At.tmps.getD 13 undef = .pointer (some ⟨wt.heap.size + 1, 0, none⟩) := hb 13 rfl
      have s13' := s13
      rw [Array.getD_eq_getD_getElem?] at s13'
      have s122 := (hy 7 _ 122 rfl rfl).trans e7
      have s122' := s122
      rw [Array.getD_eq_getD_getElem?] at s122'
      have g122 := got_bool s122
      clear hd hy hb
      have hs := H15.out.1.on d
      have y10 : W.cell? ⟨w.heap.size, 10, none⟩ = some (.slice aw nw cw) := cell_of hs.b0 rfl
      have hb12 := blk_on H15.out.2.1 d
      have hb13 := blk_on H15.out.2.2.1 d
      have x0 : W.cell? ⟨p5, 0, none⟩ = some (.int .i64 (N : Int)) := cell_of hs.b5 rfl
      have x1 : W.cell? ⟨p5, 1, none⟩ = some (.int .i64 (m : Int)) := cell_of hs.b5 rfl
      have x2 : W.cell? ⟨p5, 2, none⟩ = some (.slice p1 S1.length k1) := cell_of hs.b5 rfl
      have x3 : W.cell? ⟨p5, 3, none⟩ = some (.slice p2 RP.length k2) := cell_of hs.b5 rfl
      have x4 : W.cell? ⟨p5, 4, none⟩ = some (.slice p3 E1.length k3) := cell_of hs.b5 rfl
      have z0 : W.cell? ⟨p7, 0, none⟩ = some (.int .i64 (N : Int)) := cell_of hs.b7 rfl
      have z1 : W.cell? ⟨p7, 1, none⟩ = some (.int .i64 (m : Int)) := cell_of hs.b7 rfl
      have z2 : W.cell? ⟨p7, 2, none⟩ = some (.slice s1 RS.length j1) := cell_of hs.b7 rfl
      have z3 : W.cell? ⟨p7, 3, none⟩ = some (.slice s2 F1.length j2) := cell_of hs.b7 rfl
      have z4 : W.cell? ⟨p7, 4, none⟩ = some (.slice s3 E1.length j3) := cell_of hs.b7 rfl
      have u0 : W.cell? ⟨wt.heap.size, 0, none⟩ = some (.int .i64 (N : Int)) := cell_of hb12 rfl
      have u1 : W.cell? ⟨wt.heap.size, 1, none⟩ = some (.int .i64 (m : Int)) := cell_of hb12 rfl
      have u2 : W.cell? ⟨wt.heap.size, 2, none⟩ = some (.slice bl LL.length cl) := cell_of hb12 rfl
      have u3 : W.cell? ⟨wt.heap.size, 3, none⟩ = some (.slice a2 n2 c2) := cell_of hb12 rfl
      have u4 : W.cell? ⟨wt.heap.size, 4, none⟩ = some (.slice a3 n3 c3) := cell_of hb12 rfl
      have v0 : W.cell? ⟨wt.heap.size + 1, 0, none⟩ = some (.int .i64 (N : Int)) := cell_of hb13 rfl
      have v1 : W.cell? ⟨wt.heap.size + 1, 1, none⟩ = some (.int .i64 (m : Int)) := cell_of hb13 rfl
      have v2 : W.cell? ⟨wt.heap.size + 1, 2, none⟩ = some (.slice bs SS.length cs) := cell_of hb13 rfl
      have v3 : W.cell? ⟨wt.heap.size + 1, 3, none⟩ = some (.slice a2 n2 c2) := cell_of hb13 rfl
      have v4 : W.cell? ⟨wt.heap.size + 1, 4, none⟩ = some (.slice a3 n3 c3) := cell_of hb13 rfl
      clear hs hb12 hb13
      go_simp
      exact hK.out _ W (stp_of hmo d (Below.refl _ _)) (if_pos rfl)
    case o13 =>
      intro At yy W hy hb d hd K hK
      have e7 : yy 7 = .bool true := by obtain ⟨_, _, _, _, e⟩ := hd ⟨7, .guard⟩ (by simp) rfl rfl; exact e
      have s2 : At.tmps.getD 2 undef = .pointer (some ⟨w.heap.size, 0, none⟩) := hb 2 rfl
      have s2' := s2
      rw [Array.getD_eq_getD_getElem?] at s2'
      have s122 := (hy 7 _ 122 rfl rfl).trans e7
      have s122' := s122
      rw [Array.getD_eq_getD_getElem?] at s122'
      have g122 := got_bool s122
      clear hd hy hb
      go_simp
      exact hK.out _ W (stp_of hmo d (Below.refl _ _)) (if_pos rfl)
    case o14 =>
      intro At yy W hy hb d hd K hK
      have e13 : yy 13 = .pointer (some ⟨w.heap.size, 10, none⟩) := by obtain ⟨_, _, _, _, e⟩ := hd ⟨13, .data⟩ (by simp) rfl rfl; exact e
      have e7 : yy 7 = .bool true := by obtain ⟨_, _, _, _, e⟩ := hd ⟨7, .guard⟩ (by simp) rfl rfl; exact e
      have s122 := (hy 7 _ 122 rfl rfl).trans e7
      have s122' := s122
      rw [Array.getD_eq_getD_getElem?] at s122'
      have s128 := (hy 13 _ 128 rfl rfl).trans e13
      have s128' := s128
      rw [Array.getD_eq_getD_getElem?] at s128'
      have g122 := got_bool s122
      clear hd hy hb
      have hs := H15.out.1.on d
      have y10 : W.cell? ⟨w.heap.size, 10, none⟩ = some (.slice aw nw cw) := cell_of hs.b0 rfl
      have hb12 := blk_on H15.out.2.1 d
      have hb13 := blk_on H15.out.2.2.1 d
      have x0 : W.cell? ⟨p5, 0, none⟩ = some (.int .i64 (N : Int)) := cell_of hs.b5 rfl
      have x1 : W.cell? ⟨p5, 1, none⟩ = some (.int .i64 (m : Int)) := cell_of hs.b5 rfl
      have x2 : W.cell? ⟨p5, 2, none⟩ = some (.slice p1 S1.length k1) := cell_of hs.b5 rfl
      have x3 : W.cell? ⟨p5, 3, none⟩ = some (.slice p2 RP.length k2) := cell_of hs.b5 rfl
      have x4 : W.cell? ⟨p5, 4, none⟩ = some (.slice p3 E1.length k3) := cell_of hs.b5 rfl
      have z0 : W.cell? ⟨p7, 0, none⟩ = some (.int .i64 (N : Int)) := cell_of hs.b7 rfl
      have z1 : W.cell? ⟨p7, 1, none⟩ = some (.int .i64 (m : Int)) := cell_of hs.b7 rfl
      have z2 : W.cell? ⟨p7, 2, none⟩ = some (.slice s1 RS.length j1) := cell_of hs.b7 rfl
      have z3 : W.cell? ⟨p7, 3, none⟩ = some (.slice s2 F1.length j2) := cell_of hs.b7 rfl
      have z4 : W.cell? ⟨p7, 4, none⟩ = some (.slice s3 E1.length j3) := cell_of hs.b7 rfl
      have u0 : W.cell? ⟨wt.heap.size, 0, none⟩ = some (.int .i64 (N : Int)) := cell_of hb12 rfl
      have u1 : W.cell? ⟨wt.heap.size, 1, none⟩ = some (.int .i64 (m : Int)) := cell_of hb12 rfl
      have u2 : W.cell? ⟨wt.heap.size, 2, none⟩ = some (.slice bl LL.length cl) := cell_of hb12 rfl
      have u3 : W.cell? ⟨wt.heap.size, 3, none⟩ = some (.slice a2 n2 c2) := cell_of hb12 rfl
      have u4 : W.cell? ⟨wt.heap.size, 4, none⟩ = some (.slice a3 n3 c3) := cell_of hb12 rfl
      have v0 : W.cell? ⟨wt.heap.size + 1, 0, none⟩ = some (.int .i64 (N : Int)) := cell_of hb13 rfl
      have v1 : W.cell? ⟨wt.heap.size + 1, 1, none⟩ = some (.int .i64 (m : Int)) := cell_of hb13 rfl
      have v2 : W.cell? ⟨wt.heap.size + 1, 2, none⟩ = some (.slice bs SS.length cs) := cell_of hb13 rfl
      have v3 : W.cell? ⟨wt.heap.size + 1, 3, none⟩ = some (.slice a2 n2 c2) := cell_of hb13 rfl
      have v4 : W.cell? ⟨wt.heap.size + 1, 4, none⟩ = some (.slice a3 n3 c3) := cell_of hb13 rfl
      clear hs hb12 hb13
      go_simp
      exact hK.out _ W (stp_of hmo d (Below.refl _ _)) (if_pos rfl)
    case o15 =>
      intro At yy W hy hb d hd K hK
      have e12 : yy 12 = .agg #[.int .i64 (N : Int), .int .i64 (m : Int), .slice bs SS.length cs, .slice a2 n2 c2, .slice a3 n3 c3] := by obtain ⟨_, _, _, _, e⟩ := hd ⟨12, .data⟩ (by simp) rfl rfl; exact e
      have e14 : yy 14 = .slice aw nw cw := by obtain ⟨_, _, _, _, e⟩ := hd ⟨14, .data⟩ (by simp) rfl rfl; exact e
      have e7 : yy 7 = .bool true := by obtain ⟨_, _, _, _, e⟩ := hd ⟨7, .guard⟩ (by simp) rfl rfl; exact e
      have s122 := (hy 7 _ 122 rfl rfl).trans e7
      have s122' := s122
      rw [Array.getD_eq_getD_getElem?] at s122'
      have s127 := (hy 12 _ 127 rfl rfl).trans e12
      have s127' := s127
      rw [Array.getD_eq_getD_getElem?] at s127'
      have s129 := (hy 14 _ 129 rfl rfl).trans e14
      have s129' := s129
      rw [Array.getD_eq_getD_getElem?] at s129'
      have g122 := got_bool s122
      clear hd hy hb
      go_simp
      go_wp2_with (go_at_call 11; refine (T1C.out W (H15.out.1.on d).be (H15.out.2.2.2.2.on d)).mono ?_; rintro e wa ⟨rfl, da⟩)
      exact hK.out _ wa (stp_of hmo d da) (if_pos rfl)
    case o16 =>
      intro At yy W hy hb d hd K hK
      have e11 : yy 11 = .bool tS := by obtain ⟨_, _, _, _, e⟩ := hd ⟨11, .data⟩ (by simp) rfl rfl; exact e
      have e15 : yy 15 = .bool tS := by obtain ⟨_, _, _, _, e⟩ := hd ⟨15, .data⟩ (by simp) rfl rfl; exact e
      have e7 : yy 7 = .bool true := by obtain ⟨_, _, _, _, e⟩ := hd ⟨7, .guard⟩ (by simp) rfl rfl; exact e
      have s122 := (hy 7 _ 122 rfl rfl).trans e7
      have s122' := s122
      rw [Array.getD_eq_getD_getElem?] at s122'
      have s126 := (hy 11 _ 126 rfl rfl).trans e11
      have s126' := s126
      rw [Array.getD_eq_getD_getElem?] at s126'
      have s130 := (hy 15 _ 130 rfl rfl).trans e15
      have s130' := s130
      rw [Array.getD_eq_getD_getElem?] at s130'
      have g122 := got_bool s122
      clear hd hy hb
      go_simp
      exact hK.out _ W (stp_of hmo d (Below.refl _ _)) (if_pos rfl)
    case o17 =>
      intro At yy W hy hb d hd K hK
      have e7 : yy 7 = .bool true := by obtain ⟨_, _, _, _, e⟩ := hd ⟨7, .data⟩ (by simp) rfl rfl; exact e
      have e16 : yy 16 = .bool true := by obtain ⟨_, _, _, _, e⟩ := hd ⟨16, .data⟩ (by simp) rfl rfl; exact e
      have s122 := (hy 7 _ 122 rfl rfl).trans e7
      have s122' := s122
      rw [Array.getD_eq_getD_getElem?] at s122'
      have s131 := (hy 16 _ 131 rfl rfl).trans e16
      have s131' := s131
      rw [Array.getD_eq_getD_getElem?] at s131'
      clear hd hy hb
      go_simp
      exact hK.out _ W (stp_of hmo d (Below.refl _ _)) (if_pos rfl)
    case fin =>
      intro yy lo hi W hM
      show wpList _ _ _ [_] _ _
      have e0 : yy 0 = .agg #[.int .i64 (N : Int), .int .i64 (m : Int), .slice p1 S1.length k1, .slice p2 RP.length k2, .slice p3 E1.length k3] := hM.fact 0 (by simp) rfl (notR_all 0 rfl)
      have e1 : yy 1 = .pointer (some ⟨w.heap.size, 10, none⟩) := hM.fact 1 (by simp) rfl (notR_all 1 rfl)
      have e2 : yy 2 = .slice aw nw cw := hM.fact 2 (by simp) rfl (notR_all 2 rfl)
      have e3 : yy 3 = .bool tP := hM.fact 3 (by simp) rfl (notR_all 3 rfl)
      have e4 : yy 4 = .agg #[.int .i64 (N : Int), .int .i64 (m : Int), .slice bl LL.length cl, .slice a2 n2 c2, .slice a3 n3 c3] := hM.fact 4 (by simp) rfl (notR_all 4 rfl)
      have e5 : yy 5 = .bool tP := hM.fact 5 (by simp) rfl (notR_all 5 rfl)
      have e6 : yy 6 = .bool true := hM.fact 6 (by simp) rfl (notR_all 6 rfl)
      have e7 : yy 7 = .bool true := hM.fact 7 (by simp) rfl (notR_all 7 rfl)
      have e8 : yy 8 = .agg #[.int .i64 (N : Int), .int .i64 (m : Int), .slice s1 RS.length j1, .slice s2 F1.length j2, .slice s3 E1.length j3] := hM.fact 8 (by simp) rfl (notR_all 8 rfl)
      have e9 : yy 9 = .pointer (some ⟨w.heap.size, 10, none⟩) := hM.fact 9 (by simp) rfl (notR_all 9 rfl)
      have e10 : yy 10 = .slice aw nw cw := hM.fact 10 (by simp) rfl (notR_all 10 rfl)
      have e11 : yy 11 = .bool tS := hM.fact 11 (by simp) rfl (notR_all 11 rfl)
      have e12 : yy 12 = .agg #[.int .i64 (N : Int), .int .i64 (m : Int), .slice bs SS.length cs, .slice a2 n2 c2, .slice a3 n3 c3] := hM.fact 12 (by simp) rfl (notR_all 12 rfl)
      have e13 : yy 13 = .pointer (some ⟨w.heap.size, 10, none⟩) := hM.fact 13 (by simp) rfl (notR_all 13 rfl)
      have e14 : yy 14 = .slice aw nw cw := hM.fact 14 (by simp) rfl (notR_all 14 rfl)
      have e15 : yy 15 = .bool tS := hM.fact 15 (by simp) rfl (notR_all 15 rfl)
      have e16 : yy 16 = .bool true := hM.fact 16 (by simp) rfl (notR_all 16 rfl)
      have e17 : yy 17 = .bool true := hM.fact 17 (by simp) rfl (notR_all 17 rfl)
      have HDD := hide (H15.out.1.on hM.d).be
      simp only [fills, Act.put, List.take, List.length, List.setIfInBounds_toArray, List.set_cons_zero, List.set_cons_succ, e0, e1, e2, e3, e4, e5, e6, e7, e8, e9, e10, e11, e12, e13, e14, e15, e16, e17]
      clear hM hmo e0 e1 e2 e3 e4 e5 e6 e7 e8 e9 e10 e11 e12 e13 e14 e15 e16 e17
      go_wp2_with fail
      go_ret
      exact ⟨rfl, HDD.out⟩
end Go.Proofs.YtchoopnjckcohaaGreatDoor
