import Derived.Test.YtfoahpideglghaaGreatDoorIb
import Derived.Deep.RegionHeld3
namespace Go.Proofs.YtfoahpideglghaaGreatDoor
open Go.RowKit Go.Maps Go.Shelf
attribute [local go_sem] Oper.semAt_some

theorem step_append_own {P : Program} (w : World) {ops : Array Oper} {o : Oper} {a : Act} {K : Act → World → Prop} {Q : Exit → Act → World → Prop} {E : Prop} (hgd : o.guard = none) (s x : Operand) (t : TypeId)
    (ho : o.op = .call { callee := .builtin .append, args := #[s, x], argTypes := #[t, t] })
    (base : Nat) (e : TypeId) (i : TypeInfo) (z : Value) (size bytes : Nat) (ht : P.underlying t = some (.slice e)) (hi : P.info? e = some i) (hz : i.zero = some z)
    (hsize : i.size = size) (hby : i.bytes = bytes) (hzs : z.cells.size = size) (hsz : 0 < size)
    (v : Value) (n : Nat) (xs : List Value) (hs : a.eval s = v) (hown : w.ownsRow base e size v n xs)
    (ad : Addr) (m c : Nat) (news : List Value) (hx : a.eval x = .slice (some ad) m c) (hl : news.length = m * size) (hnews : ∀ j u, news[j]? = some u → w.cell? (ad.add j) = some u) (h1 : ∀ u ∈ news, u.oneCell' = true)
    (h63 : n + m ≤ maxLen) (hbytes : (n + m) * bytes ≤ 140737488355328) (hbase : base ≤ w.heap.size)
    (h : ∀ v' w', w'.ownsRow base e size v' (n + m) (xs ++ news) → w.grownBy w' v.ownBlock → (v' = .slice none 0 0 ↔ v = .slice none 0 0 ∧ m = 0) → (v'.ownBlock = v.ownBlock ∨ v'.ownBlock = some w.heap.size) → K (a.put o.dst v') w') :
    if Region.wanted o (yielded ops a.tmps) = true then Oper.wp P o a w K Q else E := by
  have hw : Region.wanted o (yielded ops a.tmps) = true := by simp [Region.wanted, hgd]
  rw [if_pos hw]
  obtain ⟨v', w', hr, h2, h3, h4, h5⟩ := run_append_own_at (P := P) w base t o.type e i z size bytes ht hi hz hsize hby hzs hsz v n xs hown ad m c news hl hnews h1 h63 hbytes hbase
  unfold Oper.wp execOp
  simp only [ho, resolve, invoke, builtin, Sem.run_bind, Sem.run_pure, Result.andThen_ok, List.map_toArray, List.map_cons, List.map_nil, hs, hx, hr]
  exact h v' w' h2 h3 h4 h5
theorem below_none {V w' : World} (h : V.grownBy w' (Value.slice none 0 0).ownBlock) : Below V.heap.size V w' := (Below.refl _ _).grown h (Nat.le_refl _) (fun k hk => by cases hk)
theorem news_on {X w' : World} (w : World) (v : Value) (d : Below X.heap.size X w') (hX : X.heap = (w.alloc (.cells #[v] 3)).heap) : ∀ (j : Nat) (u : Value), [v][j]? = some u → w'.cell? ((⟨w.heap.size, 0, none⟩ : Addr).add j) = some u := fun j u hu => by
  have q := cell_one_new w v 3 j u hu
  rw [Addr.add_lit] at q ⊢
  have q2 : X.cell? ⟨w.heap.size, 0 + j, none⟩ = some u := by
    have : X.cell? ⟨w.heap.size, 0 + j, none⟩ = (w.alloc (.cells #[v] 3)).cell? ⟨w.heap.size, 0 + j, none⟩ := by simp [World.cell?, hX]
    rw [this]; exact q
  exact (d.cell (p := ⟨w.heap.size, 0 + j, none⟩) (World.block_lt_of_cell? X _ q2)).trans q2
theorem own_z {W : World} {B : Nat} {e : TypeId} {sz n c : Nat} {a : Option Addr} {xs : List Value} (h : W.ownsRow B e sz (.slice a (0 + n) c) (0 + n) ([] ++ xs)) : W.ownsRow B e sz (.slice a n c) n xs := by simpa using h
theorem own_one {W : World} {B g c n : Nat} {x : Int} (h : W.ownsRow B 3 1 (.slice (some ⟨g, 0, none⟩) n c) n ([] ++ [.int .i64 x])) : W.ownsRow B 3 1 (.slice (some ⟨g, 0, none⟩) n c) n ((([] : List Int) ++ [x]).map (Value.int .i64)) := by simpa using h
theorem own_ints {W : World} {B g c n : Nat} {L : List Int} {x : Int} (h : W.ownsRow B 3 1 (.slice (some ⟨g, 0, none⟩) n c) n (L.map (Value.int .i64) ++ [.int .i64 x])) : W.ownsRow B 3 1 (.slice (some ⟨g, 0, none⟩) n c) n ((L ++ [x]).map (Value.int .i64)) := by simpa using h
theorem rd_lit_on {X w' : World} (w : World) (L : List Int) (d : Below X.heap.size X w') (hX : X.heap = (w.alloc (.cells (L.map (Value.int .i64)).toArray 3)).heap) : RdN w' (some ⟨w.heap.size, 0, none⟩) L := fun j hj => by
  obtain ⟨g, o, e, q⟩ := rd_lit w L j hj
  refine ⟨g, o, e, ?_⟩
  have q2 : X.cell? ⟨g, o + j, none⟩ = some (.int .i64 L[j]) := by
    have : X.cell? ⟨g, o + j, none⟩ = (w.alloc (.cells (L.map (Value.int .i64)).toArray 3)).cell? ⟨g, o + j, none⟩ := by simp [World.cell?, hX]
    rw [this]; exact q
  exact (d.cell (p := ⟨g, o + j, none⟩) (World.block_lt_of_cell? X _ q2)).trans q2
theorem elems_le (n X : Nat) : (elems n X).length ≤ n := by unfold elems; exact Nat.le_trans (List.length_filter_le _ _) (by simp)
theorem below_dr {W U V : World} (h : Below W.heap.size W U) (h1 : V.heap = U.heap) (h2 : V.os = U.os) (h3 : V.tape = U.tape) (h4 : V.output = U.output) : Below W.heap.size W V := ⟨h2.trans h.os, h3.trans h.tape, h4.trans h.output, by rw [h1]; exact h.size, fun k hk => by rw [h1]; exact h.block k hk⟩
theorem row_rd {W : World} {B g c n : Nat} {l : List Nat} (h : W.ownsRow B 3 1 (.slice (some ⟨g, 0, none⟩) n c) n (intV l)) : RdN W (some ⟨g, 0, none⟩) (itl l) := by
  rw [intV_itl] at h
  exact rdN_own h (List.prefix_refl _)
theorem imgErr_zero {n m : Int} {St Fi : List Int} {Ed : List EdT} {Q : List Int} {sym : Int} (h : imgErr n m St Fi Ed Q sym = 0) : mayA n m St Fi Ed = true ∧ Q.all (inB n) = true ∧ inB m sym = true := by
  unfold imgErr at h
  split at h
  · rename_i h1
    split at h
    · rename_i h2
      rw [Bool.and_eq_true] at h2
      exact ⟨h1, h2.1, h2.2⟩
    · cases h
  · cases h
/-- A state's number below a bound. -/
theorem one_in {N s : Nat} (h : s < N) : ([(s : Int)] : List Int).all (inB N) = true := by simp [inB]; omega
set_option maxRecDepth 100000 in
set_option maxHeartbeats 8000000 in
theorem images_ok (w : World) (N : Nat) (m nb mb sym kk : Int) (a1 a2 a3 b1 b2 b3 q1 p1 u1 o1 : Option Addr) (c1 c2 c3 l1 d1 l2 d2 l3 d3 cq lp cp cw lo co : Nat) (St Fi Q Wd : List Int) (Ed : List EdT) (hT : Hid (TabAt w ∧ 0 < w.heap.size)) (hA : Hid (RdA w a1 a2 a3 St Fi Ed)) (hQ : Hid (RdN w q1 Q)) (hU : Hid (RdN w u1 Wd)) (h1 : St.length ≤ 1048576) (h2 : Fi.length ≤ 1048576) (h3 : Ed.length ≤ 1048576) (h4 : Q.length ≤ 1048576) (h5 : Wd.length ≤ 1048576) (hok : imgErr N m St Fi Ed Q sym = 0) :
    Calls Tryz.prog 4 #[.agg #[.int .i64 (N : Int), .int .i64 m, .slice a1 St.length c1, .slice a2 Fi.length c2, .slice a3 Ed.length c3, .int .i64 nb, .int .i64 mb, .slice b1 l1 d1, .slice b2 l2 d2, .slice b3 l3 d3, .slice q1 Q.length cq, .slice p1 lp cp, .int .i64 sym, .slice u1 Wd.length cw, .int .i64 kk, .slice o1 lo co]] w fun e w' => e = .returned (.bool true) ∧ Below w.heap.size w w' := by
  have HE := hide (imgErr_zero hok)
  have HIN := hide (may_in HE.out.1)
  have hN : N ≤ 4096 := by have := (may_parts HE.out.1).1; omega
  obtain ⟨W0, hW0⟩ : ∃ W0, w.alloc (.cells #[.int .i64 (N : Int), .int .i64 m, .slice a1 St.length c1, .slice a2 Fi.length c2, .slice a3 Ed.length c3, .int .i64 nb, .int .i64 mb, .slice b1 l1 d1, .slice b2 l2 d2, .slice b3 l3 d3, .slice q1 Q.length cq, .slice p1 lp cp, .int .i64 sym, .slice u1 Wd.length cw, .int .i64 kk, .slice o1 lo co] 27) = W0 := ⟨_, rfl⟩
  have D0 : Hid (Below w.heap.size w W0) := hide (by rw [← hW0]; exact alloc_below _ _)
  have B0 : Hid (W0.heap[w.heap.size]? = some (.cells #[.int .i64 (N : Int), .int .i64 m, .slice a1 St.length c1, .slice a2 Fi.length c2, .slice a3 Ed.length c3, .int .i64 nb, .int .i64 mb, .slice b1 l1 d1, .slice b2 l2 d2, .slice b3 l3 d3, .slice q1 Q.length cq, .slice p1 lp cp, .int .i64 sym, .slice u1 Wd.length cw, .int .i64 kk, .slice o1 lo co] 27 (0, 0))) := hide (by rw [← hW0]; exact World.alloc_heap_new _ _)
  have SK : Hid (∀ W, Below W0.heap.size W0 W → (fun W => (W.cell? ⟨w.heap.size, 0, none⟩ = some (.int .i64 (N : Int)) ∧ W.cell? ⟨w.heap.size, 1, none⟩ = some (.int .i64 m) ∧ W.cell? ⟨w.heap.size, 2, none⟩ = some (.slice a1 St.length c1) ∧ W.cell? ⟨w.heap.size, 3, none⟩ = some (.slice a2 Fi.length c2) ∧ W.cell? ⟨w.heap.size, 4, none⟩ = some (.slice a3 Ed.length c3) ∧ W.cell? ⟨w.heap.size, 10, none⟩ = some (.slice q1 Q.length cq) ∧ W.cell? ⟨w.heap.size, 12, none⟩ = some (.int .i64 sym) ∧ W.cell? ⟨w.heap.size, 13, none⟩ = some (.slice u1 Wd.length cw) ∧ Hid (Below W0.heap.size W0 W))) W) := hide (fun W d => by
    have e := blk_on B0.out d
    exact ⟨cell_of e rfl, cell_of e rfl, cell_of e rfl, cell_of e rfl, cell_of e rfl, cell_of e rfl, cell_of e rfl, cell_of e rfl, hide d⟩)
  have SD : Hid (∀ W, (fun W => (W.cell? ⟨w.heap.size, 0, none⟩ = some (.int .i64 (N : Int)) ∧ W.cell? ⟨w.heap.size, 1, none⟩ = some (.int .i64 m) ∧ W.cell? ⟨w.heap.size, 2, none⟩ = some (.slice a1 St.length c1) ∧ W.cell? ⟨w.heap.size, 3, none⟩ = some (.slice a2 Fi.length c2) ∧ W.cell? ⟨w.heap.size, 4, none⟩ = some (.slice a3 Ed.length c3) ∧ W.cell? ⟨w.heap.size, 10, none⟩ = some (.slice q1 Q.length cq) ∧ W.cell? ⟨w.heap.size, 12, none⟩ = some (.int .i64 sym) ∧ W.cell? ⟨w.heap.size, 13, none⟩ = some (.slice u1 Wd.length cw) ∧ Hid (Below W0.heap.size W0 W))) W → Below W0.heap.size W0 W) := hide (fun W h => h.2.2.2.2.2.2.2.2.out)
  have T10 : Hid (∀ W, Below W0.heap.size W0 W → Calls Tryz.prog 10 #[.agg #[.int .i64 (N : Int), .int .i64 m, .slice a1 St.length c1, .slice a2 Fi.length c2, .slice a3 Ed.length c3]] W fun e w' => ∃ g1 k1 g2 k2 g3 k3, e = .returned (.agg #[.int .i64 (N : Int), .int .i64 m, .slice (some ⟨g1, 0, none⟩) St.length k1, .slice (some ⟨g2, 0, none⟩) Fi.length k2, .slice (some ⟨g3, 0, none⟩) Ed.length k3]) ∧ Hid (RdA w' (some ⟨g1, 0, none⟩) (some ⟨g2, 0, none⟩) (some ⟨g3, 0, none⟩) St Fi Ed) ∧ Below W0.heap.size W0 w' ∧ Below W.heap.size W w') := hide (fun W d => by
    refine (twin_any W N m a1 a2 a3 c1 c2 c3 St Fi Ed (hide (hA.out.on (D0.out.trans (d.mono D0.out.size)))) (by omega) (by omega) (by omega)).mono ?_
    rintro e w' ⟨g1, k1, g2, k2, g3, k3, he, ht, dd⟩
    exact ⟨g1, k1, g2, k2, g3, k3, he, hide ht.out.rd, d.trans (dd.mono d.size), dd⟩)
  have T11q : Hid (∀ W, Below W0.heap.size W0 W → Calls Tryz.prog 11 #[.slice q1 Q.length cq] W fun e w' => ∃ g c, e = .returned (.slice (some ⟨g, 0, none⟩) Q.length c) ∧ Hid (RdN w' (some ⟨g, 0, none⟩) Q) ∧ Below W0.heap.size W0 w' ∧ Below W.heap.size W w') := hide (fun W d => by
    refine (ints_any W q1 Q cq (hide (hQ.out.on (D0.out.trans (d.mono D0.out.size)))) (by omega)).mono ?_
    rintro e w' ⟨g, c, he, hm, dd⟩
    exact ⟨g, c, he, hide hm.out.rd, d.trans (dd.mono d.size), dd⟩)
  have T11u : Hid (∀ W, Below W0.heap.size W0 W → Calls Tryz.prog 11 #[.slice u1 Wd.length cw] W fun e w' => ∃ g c, e = .returned (.slice (some ⟨g, 0, none⟩) Wd.length c) ∧ Hid (RdN w' (some ⟨g, 0, none⟩) Wd) ∧ Below W0.heap.size W0 w' ∧ Below W.heap.size W w') := hide (fun W d => by
    refine (ints_any W u1 Wd cw (hide (hU.out.on (D0.out.trans (d.mono D0.out.size)))) (by omega)).mono ?_
    rintro e w' ⟨g, c, he, hm, dd⟩
    exact ⟨g, c, he, hide hm.out.rd, d.trans (dd.mono d.size), dd⟩)
  have TA : Hid (∀ W, Below W0.heap.size W0 W → TabAt W ∧ 0 < W.heap.size) := hide (fun W d => by
    have d2 := D0.out.trans (d.mono D0.out.size)
    exact ⟨hT.out.1.below d2 hT.out.2, Nat.lt_of_lt_of_le hT.out.2 d2.size⟩)
  have T8 : Calls Tryz.prog 8 #[] W0 fun e w' => e = .returned (.bool true) ∧ Below W0.heap.size W0 w' := works_any W0 (hide (TA.out W0 (Below.refl _ _)))
  go_enter Tryz.func4, Tryz.ntmps4
  go_upto_region 3 with (go_at_call 8; refine T8.mono ?_; rintro e w1 ⟨rfl, d1⟩)
  have D1 := hide d1
  clear T8 d1
  have TP : Hid (∀ (W : World) (g1 k1 g2 k2 g3 k3 gq kq : Nat) (L : List Int), L.length ≤ 1048576 → L.all (inB N) = true → Below W0.heap.size W0 W → RdA W (some ⟨g1, 0, none⟩) (some ⟨g2, 0, none⟩) (some ⟨g3, 0, none⟩) St Fi Ed → RdN W (some ⟨gq, 0, none⟩) L → Calls Tryz.prog 15 #[.agg #[.int .i64 (N : Int), .int .i64 m, .slice (some ⟨g1, 0, none⟩) St.length k1, .slice (some ⟨g2, 0, none⟩) Fi.length k2, .slice (some ⟨g3, 0, none⟩) Ed.length k3], .slice (some ⟨gq, 0, none⟩) L.length kq, .int .i64 sym] W fun e w' => ∃ g c, e = .returned (.tuple #[.slice (some ⟨g, 0, none⟩) (elems N (imgF false (setI N L) sym Ed)).length c, .int .i64 0]) ∧ Hid (RdN w' (some ⟨g, 0, none⟩) (itl (elems N (imgF false (setI N L) sym Ed)))) ∧ Below W0.heap.size W0 w' ∧ Below W.heap.size W w') := hide (fun W g1 k1 g2 k2 g3 k3 gq kq L hl hin d hA hQ => by
    refine (post_ok W N m (some ⟨g1, 0, none⟩) (some ⟨g2, 0, none⟩) (some ⟨g3, 0, none⟩) (some ⟨gq, 0, none⟩) k1 k2 k3 kq St Fi Ed L sym (hide (TA.out W d)) (hide hA) (hide hQ) (by omega) (by omega) (by omega) (by omega) (hide HE.out.1) (hide hin) (hide HE.out.2.2)).mono ?_
    rintro e w' ⟨g, c, he, hr, dd⟩
    exact ⟨g, c, he, hide (row_rd hr), d.trans (dd.mono d.size), dd⟩)
  have TR : Hid (∀ (W : World) (g1 k1 g2 k2 g3 k3 gq kq : Nat) (L : List Int), L.length ≤ 1048576 → L.all (inB N) = true → Below W0.heap.size W0 W → RdA W (some ⟨g1, 0, none⟩) (some ⟨g2, 0, none⟩) (some ⟨g3, 0, none⟩) St Fi Ed → RdN W (some ⟨gq, 0, none⟩) L → Calls Tryz.prog 16 #[.agg #[.int .i64 (N : Int), .int .i64 m, .slice (some ⟨g1, 0, none⟩) St.length k1, .slice (some ⟨g2, 0, none⟩) Fi.length k2, .slice (some ⟨g3, 0, none⟩) Ed.length k3], .slice (some ⟨gq, 0, none⟩) L.length kq, .int .i64 sym] W fun e w' => ∃ g c, e = .returned (.tuple #[.slice (some ⟨g, 0, none⟩) (elems N (imgF true (setI N L) sym Ed)).length c, .int .i64 0]) ∧ Hid (RdN w' (some ⟨g, 0, none⟩) (itl (elems N (imgF true (setI N L) sym Ed)))) ∧ Below W0.heap.size W0 w' ∧ Below W.heap.size W w') := hide (fun W g1 k1 g2 k2 g3 k3 gq kq L hl hin d hA hQ => by
    refine (pre_ok W N m (some ⟨g1, 0, none⟩) (some ⟨g2, 0, none⟩) (some ⟨g3, 0, none⟩) (some ⟨gq, 0, none⟩) k1 k2 k3 kq St Fi Ed L sym (hide (TA.out W d)) (hide hA) (hide hQ) (by omega) (by omega) (by omega) (by omega) (hide HE.out.1) (hide hin) (hide HE.out.2.2)).mono ?_
    rintro e w' ⟨g, c, he, hr, dd⟩
    exact ⟨g, c, he, hide (row_rd hr), d.trans (dd.mono d.size), dd⟩)
  have TG : Hid (∀ (W : World) (g1 k1 g2 k2 g3 k3 gq kq : Nat) (L : List Int) (q : Nat), L.length = q → L.length ≤ 1048577 → wordErr N m St Fi Ed L = 0 → Below W0.heap.size W0 W → RdA W (some ⟨g1, 0, none⟩) (some ⟨g2, 0, none⟩) (some ⟨g3, 0, none⟩) St Fi Ed → RdN W (some ⟨gq, 0, none⟩) L → Calls Tryz.prog 19 #[.agg #[.int .i64 (N : Int), .int .i64 m, .slice (some ⟨g1, 0, none⟩) St.length k1, .slice (some ⟨g2, 0, none⟩) Fi.length k2, .slice (some ⟨g3, 0, none⟩) Ed.length k3], .slice (some ⟨gq, 0, none⟩) q kq] W fun e w' => ∃ g c, e = .returned (.tuple #[.slice (some ⟨g, 0, none⟩) (elems N (wordF Ed (setI N St) L)).length c, .int .i64 0]) ∧ Hid (RdN w' (some ⟨g, 0, none⟩) (itl (elems N (wordF Ed (setI N St) L)))) ∧ Below W0.heap.size W0 w' ∧ Below W.heap.size W w') := hide (fun W g1 k1 g2 k2 g3 k3 gq kq L q hq hl hin d hA hQ => by
    subst hq
    refine (After_ok W N m (some ⟨g1, 0, none⟩) (some ⟨g2, 0, none⟩) (some ⟨g3, 0, none⟩) (some ⟨gq, 0, none⟩) k1 k2 k3 kq St Fi Ed L (hide hA) (hide hQ) (hide (TA.out W d)) (by omega) (by omega) (by omega) (by omega) hin).mono ?_
    rintro e w' ⟨g, c, he, hr, dd⟩
    exact ⟨g, c, he, hide (row_rd hr.out), d.trans (dd.mono d.size), dd⟩)
  have hwe2 : wordErr N m St Fi Ed Wd = 0 → wordErr N m St Fi Ed (Wd ++ [sym]) = 0 := fun h => by
    have q := wordErr_zero h
    have q2 : (Wd ++ [sym]).all (inB m) = true := by simp [q.2, HE.out.2.2]
    simp [wordErr, q.1, q2]
  go_cut [3, 4] from 3 to 28 (fun pv ev W => ∃ g c, pv = .slice (some ⟨g, 0, none⟩) (elems N (imgF false (setI N Q) sym Ed)).length c ∧ ev = .int .i64 0 ∧ Hid (RdN W (some ⟨g, 0, none⟩) (itl (elems N (imgF false (setI N Q) sym Ed)))) ∧ Hid (Below W0.heap.size W0 W))
  case first =>
    have S0 := SK.out w1.drew D1.out.drew
    go_region_held3 (fun W => (W.cell? ⟨w.heap.size, 0, none⟩ = some (.int .i64 (N : Int)) ∧ W.cell? ⟨w.heap.size, 1, none⟩ = some (.int .i64 m) ∧ W.cell? ⟨w.heap.size, 2, none⟩ = some (.slice a1 St.length c1) ∧ W.cell? ⟨w.heap.size, 3, none⟩ = some (.slice a2 Fi.length c2) ∧ W.cell? ⟨w.heap.size, 4, none⟩ = some (.slice a3 Ed.length c3) ∧ W.cell? ⟨w.heap.size, 10, none⟩ = some (.slice q1 Q.length cq) ∧ W.cell? ⟨w.heap.size, 12, none⟩ = some (.int .i64 sym) ∧ W.cell? ⟨w.heap.size, 13, none⟩ = some (.slice u1 Wd.length cw) ∧ Hid (Below W0.heap.size W0 W)))
      (with_reducible assumption)
      ((first
        | (go_at_call 10; refine (T10.out _ (SD.out _ (by with_reducible assumption))).mono ?_; rintro e wa ⟨g1, k1, g2, k2, g3, k3, rfl, hA1, Da, da⟩; have Sa := SK.out wa Da)
        | (go_at_call 11; refine (T11q.out _ (SD.out _ (by with_reducible assumption))).mono ?_; rintro e wb ⟨gq, kq, rfl, hQ1, Db, db⟩; have Sb := SK.out wb Db; have hA2 := hide (hA1.out.on db))
        | (go_at_call 15; refine (TP.out _ _ _ _ _ _ _ _ _ Q (by omega) HE.out.2.1 (SD.out _ (by with_reducible assumption)) hA2.out hQ1.out).mono ?_; rintro e wc ⟨gr, cr, rfl, hr, Dc, dc⟩; have Sc := SK.out wc Dc)))
    all_goals (
      go_wp2_with fail
      go_meet
      exact ⟨gr, cr, rfl, rfl, hr, hide Dc⟩)
  case rest =>
    obtain ⟨gp, cgp, rfl, rfl, HP, HB⟩ := hcut
    rename World => wx
    clear D1 w1
    go_upto_region 4 with fail
    go_cut [5, 6] from 5 to 40 (fun pv ev W => ∃ g c, pv = .slice (some ⟨g, 0, none⟩) (elems N (imgF true (setI N Q) sym Ed)).length c ∧ ev = .int .i64 0 ∧ Hid (RdN W (some ⟨g, 0, none⟩) (itl (elems N (imgF true (setI N Q) sym Ed)))) ∧ Hid (Below wx.heap.size wx W))
    case first =>
      have S0 := SK.out wx.drew HB.out.drew
      go_region_held3 (fun W => (W.cell? ⟨w.heap.size, 0, none⟩ = some (.int .i64 (N : Int)) ∧ W.cell? ⟨w.heap.size, 1, none⟩ = some (.int .i64 m) ∧ W.cell? ⟨w.heap.size, 2, none⟩ = some (.slice a1 St.length c1) ∧ W.cell? ⟨w.heap.size, 3, none⟩ = some (.slice a2 Fi.length c2) ∧ W.cell? ⟨w.heap.size, 4, none⟩ = some (.slice a3 Ed.length c3) ∧ W.cell? ⟨w.heap.size, 10, none⟩ = some (.slice q1 Q.length cq) ∧ W.cell? ⟨w.heap.size, 12, none⟩ = some (.int .i64 sym) ∧ W.cell? ⟨w.heap.size, 13, none⟩ = some (.slice u1 Wd.length cw) ∧ Hid (Below W0.heap.size W0 W)))
        (with_reducible assumption)
        ((first
          | (go_at_call 10; refine (T10.out _ (SD.out _ (by with_reducible assumption))).mono ?_; rintro e wa ⟨g1, k1, g2, k2, g3, k3, rfl, hA1, Da, da⟩; have Sa := SK.out wa Da)
          | (go_at_call 11; refine (T11q.out _ (SD.out _ (by with_reducible assumption))).mono ?_; rintro e wb ⟨gq, kq, rfl, hQ1, Db, db⟩; have Sb := SK.out wb Db; have hA2 := hide (hA1.out.on db))
          | (go_at_call 16; refine (TR.out _ _ _ _ _ _ _ _ _ Q (by omega) HE.out.2.1 (SD.out _ (by with_reducible assumption)) hA2.out hQ1.out).mono ?_; rintro e wc ⟨gr, cr, rfl, hr, Dc, dc⟩; have Sc := SK.out wc Dc)))
      all_goals (
        go_wp2_with fail
        go_meet
        exact ⟨gr, cr, rfl, rfl, hr, hide (below_same dc (below_same db (below_same da (Below.refl _ wx) rfl rfl rfl rfl) rfl rfl rfl rfl) rfl rfl rfl rfl)⟩)
    case rest =>
      obtain ⟨gz, cgz, rfl, rfl, HQQ, HB2⟩ := hcut
      rename World => wy
      have HY0 : Hid (Below W0.heap.size W0 wy) := hide (HB.out.trans (HB2.out.mono HB.out.size))
      have HPy := hide (HP.out.on HB2.out)
      clear HP HB HB2
      go_wp2
      go_loopw [7] (fun iv wr => ∃ s : Nat, s ≤ N ∧ s ≤ 40 ∧ iv = .int .i64 s ∧ Hid (Below wy.heap.size wy wr)) (fun iv _ => 40 - (intOf iv).toNat)
      case atStart => exact ⟨0, Nat.zero_le _, Nat.zero_le _, rfl, hide (Below.refl _ _)⟩
      case round =>
        obtain ⟨s, hs1, hs2, rfl, HW⟩ := hrel
        have HW0 : Hid (Below W0.heap.size W0 wr) := hide (HY0.out.trans (HW.out.mono HY0.out.size))
        obtain ⟨y0, _⟩ := SK.out wr HW0.out
        by_cases hlt : s < N ∧ s < 40
        · have hsN := hlt.1
          have v0 : (s : Int) < (N : Int) := by omega
          have v1 : (s : Int) < 40 := by omega
          go_upto_region 12 with fail
          clear y0
          go_cut [8, 9] from 69 to 79 (fun pv ev W => ∃ g c, pv = .slice (some ⟨g, 0, none⟩) (elems N (imgF false (setI N [(s : Int)]) sym Ed)).length c ∧ ev = .int .i64 0 ∧ Hid (RdN W (some ⟨g, 0, none⟩) (itl (elems N (imgF false (setI N [(s : Int)]) sym Ed)))) ∧ Hid (Below wr.heap.size wr W))
          case first =>
            have S0 := SK.out wr.drew HW0.out.drew
            go_region_held3 (fun W => (W.cell? ⟨w.heap.size, 0, none⟩ = some (.int .i64 (N : Int)) ∧ W.cell? ⟨w.heap.size, 1, none⟩ = some (.int .i64 m) ∧ W.cell? ⟨w.heap.size, 2, none⟩ = some (.slice a1 St.length c1) ∧ W.cell? ⟨w.heap.size, 3, none⟩ = some (.slice a2 Fi.length c2) ∧ W.cell? ⟨w.heap.size, 4, none⟩ = some (.slice a3 Ed.length c3) ∧ W.cell? ⟨w.heap.size, 10, none⟩ = some (.slice q1 Q.length cq) ∧ W.cell? ⟨w.heap.size, 12, none⟩ = some (.int .i64 sym) ∧ W.cell? ⟨w.heap.size, 13, none⟩ = some (.slice u1 Wd.length cw) ∧ Hid (Below W0.heap.size W0 W)))
              (first | (with_reducible assumption) | (exact SK.out _ (by first | exact below_al HW0.out (.cells #[.int .i64 (s : Int)] 3) rfl rfl rfl rfl | exact below_al Da (.cells #[.int .i64 (s : Int)] 3) rfl rfl rfl rfl)))
              ((first
                | (go_at_call 10; refine (T10.out _ (SD.out _ (by with_reducible assumption))).mono ?_; rintro e wa ⟨g1, k1, g2, k2, g3, k3, rfl, hA1, Da, da⟩; have Sa := SK.out wa Da)
                | (go_at_call 15; refine (TP.out _ _ _ _ _ _ _ _ _ [(s : Int)] (by simp) (one_in hsN) (SD.out _ (by with_reducible assumption)) (by first | exact hA1.out.on (alloc_below wa (.cells #[.int .i64 (s : Int)] 3)) | exact hA1.out) (by first | exact rd_lit wa [(s : Int)] | exact rd_lit_on wr [(s : Int)] da rfl)).mono ?_; rintro e wc ⟨gr, cr, rfl, hr, Dc, dc⟩; have Sc := SK.out wc Dc)))
            all_goals (
              go_wp2_with fail
              go_meet
              exact ⟨gr, cr, rfl, rfl, hr, hide (by first | exact below_same dc (below_al (below_same da (Below.refl _ wr) rfl rfl rfl rfl) (.cells #[.int .i64 (s : Int)] 3) rfl rfl rfl rfl) rfl rfl rfl rfl | exact below_same dc (below_same da (alloc_below wr (.cells #[.int .i64 (s : Int)] 3)) rfl rfl rfl rfl) rfl rfl rfl rfl)⟩)
          case rest =>
            obtain ⟨gA, cA, rfl, rfl, HRA, HBA⟩ := hcut
            rename World => wv
            have HV0 : Hid (Below W0.heap.size W0 wv) := hide (HW0.out.trans (HBA.out.mono HW0.out.size))
            go_upto_region 13 with fail
            go_cut [10, 11] from 80 to 90 (fun pv ev W => ∃ g c, pv = .slice (some ⟨g, 0, none⟩) (elems N (imgF true (setI N [(s : Int)]) sym Ed)).length c ∧ ev = .int .i64 0 ∧ Hid (RdN W (some ⟨g, 0, none⟩) (itl (elems N (imgF true (setI N [(s : Int)]) sym Ed)))) ∧ Hid (Below wv.heap.size wv W))
            case first =>
              have S0 := SK.out wv.drew HV0.out.drew
              go_region_held3 (fun W => (W.cell? ⟨w.heap.size, 0, none⟩ = some (.int .i64 (N : Int)) ∧ W.cell? ⟨w.heap.size, 1, none⟩ = some (.int .i64 m) ∧ W.cell? ⟨w.heap.size, 2, none⟩ = some (.slice a1 St.length c1) ∧ W.cell? ⟨w.heap.size, 3, none⟩ = some (.slice a2 Fi.length c2) ∧ W.cell? ⟨w.heap.size, 4, none⟩ = some (.slice a3 Ed.length c3) ∧ W.cell? ⟨w.heap.size, 10, none⟩ = some (.slice q1 Q.length cq) ∧ W.cell? ⟨w.heap.size, 12, none⟩ = some (.int .i64 sym) ∧ W.cell? ⟨w.heap.size, 13, none⟩ = some (.slice u1 Wd.length cw) ∧ Hid (Below W0.heap.size W0 W)))
                (first | (with_reducible assumption) | (exact SK.out _ (by first | exact below_al HV0.out (.cells #[.int .i64 (s : Int)] 3) rfl rfl rfl rfl | exact below_al Da (.cells #[.int .i64 (s : Int)] 3) rfl rfl rfl rfl)))
                ((first
                  | (go_at_call 10; refine (T10.out _ (SD.out _ (by with_reducible assumption))).mono ?_; rintro e wa ⟨g1, k1, g2, k2, g3, k3, rfl, hA1, Da, da⟩; have Sa := SK.out wa Da)
                  | (go_at_call 16; refine (TR.out _ _ _ _ _ _ _ _ _ [(s : Int)] (by simp) (one_in hsN) (SD.out _ (by with_reducible assumption)) (by first | exact hA1.out.on (alloc_below wa (.cells #[.int .i64 (s : Int)] 3)) | exact hA1.out) (by first | exact rd_lit wa [(s : Int)] | exact rd_lit_on wv [(s : Int)] da rfl)).mono ?_; rintro e wc ⟨gr, cr, rfl, hr, Dc, dc⟩; have Sc := SK.out wc Dc)))
              all_goals (
                go_wp2_with fail
                go_meet
                exact ⟨gr, cr, rfl, rfl, hr, hide (by first | exact below_same dc (below_al (below_same da (Below.refl _ wv) rfl rfl rfl rfl) (.cells #[.int .i64 (s : Int)] 3) rfl rfl rfl rfl) rfl rfl rfl rfl | exact below_same dc (below_same da (alloc_below wv (.cells #[.int .i64 (s : Int)] 3)) rfl rfl rfl rfl) rfl rfl rfl rfl)⟩)
            case rest =>
              obtain ⟨gB, cB, rfl, rfl, HRB, HBB⟩ := hcut
              rename World => wu
              have HU0 : Hid (Below W0.heap.size W0 wu) := hide (HV0.out.trans (HBB.out.mono HV0.out.size))
              have DY : Hid (Below wy.heap.size wy wu) := hide ((HW.out.trans (HBA.out.mono HW.out.size)).trans (HBB.out.mono (Nat.le_trans HW.out.size HBA.out.size)))
              obtain ⟨_, _, _, _, _, y5, _⟩ := SK.out wu HU0.out
              have hQu := hide (hQ.out.on (D0.out.trans (HU0.out.mono D0.out.size)))
              have M1 := meets18 wu (some ⟨gA, 0, none⟩) q1 (itl (elems N (imgF false (setI N [(s : Int)]) sym Ed))) Q cA cq (hide (HRA.out.on HBB.out)) hQu (by rw [itl_len]; exact Nat.le_trans (elems_le _ _) (by omega)) (by omega)
              have M2 := meets18 wu (some ⟨gB, 0, none⟩) q1 (itl (elems N (imgF true (setI N [(s : Int)]) sym Ed))) Q cB cq HRB hQu (by rw [itl_len]; exact Nat.le_trans (elems_le _ _) (by omega)) (by omega)
              have A1 := has17 wu (some ⟨gz, 0, none⟩) (itl (elems N (imgF true (setI N Q) sym Ed))) cgz (s : Int) (hide (HQQ.out.on DY.out)) (by rw [itl_len]; exact Nat.le_trans (elems_le _ _) (by omega))
              have A2 := has17 wu (some ⟨gp, 0, none⟩) (itl (elems N (imgF false (setI N Q) sym Ed))) cgp (s : Int) (hide (HPy.out.on DY.out)) (by rw [itl_len]; exact Nat.le_trans (elems_le _ _) (by omega))
              rw [img_dual HIN.out false Q sym s hsN] at M1
              rw [img_dual HIN.out true Q sym s hsN] at M2
              simp only [Bool.not_false, Bool.not_true] at M1 M2
              simp only [itl_len] at M1 M2 A1 A2
              generalize decide ((s : Int) ∈ itl (elems N (imgF true (setI N Q) sym Ed))) = x1 at M1 A1
              generalize decide ((s : Int) ∈ itl (elems N (imgF false (setI N Q) sym Ed))) = x2 at M2 A2
              have e1 : (x1 != x1) = false := by simp
              have e2 : (x2 != x2) = false := by simp
              go_wp2_with (first
                | (go_at_call_of 18 gA; refine M1.mono ?_; rintro e w' ⟨rfl, hw'⟩; obtain rfl := hw'.symm)
                | (go_at_call_of 18 gB; refine M2.mono ?_; rintro e w' ⟨rfl, hw'⟩; obtain rfl := hw'.symm)
                | (go_at_call_of 17 gz; refine A1.mono ?_; rintro e w' ⟨rfl, hw'⟩; obtain rfl := hw'.symm)
                | (go_at_call_of 17 gp; refine A2.mono ?_; rintro e w' ⟨rfl, hw'⟩; obtain rfl := hw'.symm))
              go_roundw
              case rel => exact ⟨s + 1, by omega, by omega, by go_num, DY⟩
              case measure => simp [intOf]; omega
        · have HZ : Hid (Below W0.heap.size W0 wr) := HW0
          go_upto_region 10 with fail
          go_cut [66] from 58 to 66 (fun v W => v = .bool false ∧ W = wr)
          case first =>
            by_cases hsn : s < N
            · have v0 : (s : Int) < (N : Int) := by omega
              have v1 : ¬ (s : Int) < 40 := by omega
              go_wp2
              go_meet
              exact ⟨rfl, rfl⟩
            · have v0 : ¬ (s : Int) < (N : Int) := by omega
              go_wp2
              go_meet
              exact ⟨rfl, rfl⟩
          case rest =>
            obtain ⟨rfl, hw⟩ := hcut
            obtain rfl := hw.symm
            clear hw
            go_upto_region 16 with fail
            clear HPy HQQ TR
            by_cases hwe : wordErr N m St Fi Ed Wd = 0
            · have hwe2 := hwe2 hwe
              go_cut [12, 4] from 117 to 126 (fun pv ev W => ∃ g c, pv = .slice (some ⟨g, 0, none⟩) (elems N (wordF Ed (setI N St) Wd)).length c ∧ ev = .int .i64 0 ∧ Hid (RdN W (some ⟨g, 0, none⟩) (itl (elems N (wordF Ed (setI N St) Wd)))) ∧ Hid (Below W0.heap.size W0 W))
              case first =>
                have S0 := SK.out wr.drew HW0.out.drew
                go_region_held3 (fun W => (W.cell? ⟨w.heap.size, 0, none⟩ = some (.int .i64 (N : Int)) ∧ W.cell? ⟨w.heap.size, 1, none⟩ = some (.int .i64 m) ∧ W.cell? ⟨w.heap.size, 2, none⟩ = some (.slice a1 St.length c1) ∧ W.cell? ⟨w.heap.size, 3, none⟩ = some (.slice a2 Fi.length c2) ∧ W.cell? ⟨w.heap.size, 4, none⟩ = some (.slice a3 Ed.length c3) ∧ W.cell? ⟨w.heap.size, 10, none⟩ = some (.slice q1 Q.length cq) ∧ W.cell? ⟨w.heap.size, 12, none⟩ = some (.int .i64 sym) ∧ W.cell? ⟨w.heap.size, 13, none⟩ = some (.slice u1 Wd.length cw) ∧ Hid (Below W0.heap.size W0 W)))
                  (with_reducible assumption)
                  ((first
                    | (go_at_call 10; refine (T10.out _ (SD.out _ (by with_reducible assumption))).mono ?_; rintro e wa ⟨g1, k1, g2, k2, g3, k3, rfl, hA1, Da, da⟩; have Sa := SK.out wa Da)
                    | (go_at_call 11; refine (T11u.out _ (SD.out _ (by with_reducible assumption))).mono ?_; rintro e wb ⟨gq, kq, rfl, hQ1, Db, db⟩; have Sb := SK.out wb Db; have hA2 := hide (hA1.out.on db))
                    | (go_at_call 19; refine (TG.out _ _ _ _ _ _ _ _ _ Wd Wd.length rfl (by omega) hwe (SD.out _ (by with_reducible assumption)) hA2.out hQ1.out).mono ?_; rintro e wc ⟨gr, cr, rfl, hr, Dc, dc⟩; have Sc := SK.out wc Dc)))
                all_goals (
                  go_wp2_with fail
                  go_meet
                  exact ⟨gr, cr, rfl, rfl, hr, hide Dc⟩)
              case rest =>
                obtain ⟨gt, ct, rfl, rfl, HRT, HT0⟩ := hcut
                rename World => wt
                go_upto_region 19 with fail
                go_cut [13, 4] from 131 to 144 (fun pv ev W => ∃ g c, pv = .slice (some ⟨g, 0, none⟩) (elems N (wordF Ed (setI N St) (Wd ++ [sym]))).length c ∧ ev = .int .i64 0 ∧ Hid (RdN W (some ⟨g, 0, none⟩) (itl (elems N (wordF Ed (setI N St) (Wd ++ [sym]))))) ∧ Hid (Below wt.heap.size wt W))
                case first =>
                  have S0 := SK.out wt.drew HT0.out.drew
                  obtain ⟨i3, hi3, hz30, hz31, hz32⟩ := info_parts info3
                  by_cases hWd : Wd = []
                  · subst hWd
                    cases u1 with
                    | none =>
                      go_region_held3 (fun W => (W.cell? ⟨w.heap.size, 0, none⟩ = some (.int .i64 (N : Int)) ∧ W.cell? ⟨w.heap.size, 1, none⟩ = some (.int .i64 m) ∧ W.cell? ⟨w.heap.size, 2, none⟩ = some (.slice a1 St.length c1) ∧ W.cell? ⟨w.heap.size, 3, none⟩ = some (.slice a2 Fi.length c2) ∧ W.cell? ⟨w.heap.size, 4, none⟩ = some (.slice a3 Ed.length c3) ∧ W.cell? ⟨w.heap.size, 10, none⟩ = some (.slice q1 Q.length cq) ∧ W.cell? ⟨w.heap.size, 12, none⟩ = some (.int .i64 sym) ∧ W.cell? ⟨w.heap.size, 13, none⟩ = some (.slice none ([] : List Int).length cw) ∧ Hid (Below W0.heap.size W0 W)))
                        (first | (with_reducible assumption) | (exact SK.out _ (by first | exact below_al HT0.out (.cells #[.int .i64 sym] 3) rfl rfl rfl rfl | exact below_al Da (.cells #[.int .i64 sym] 3) rfl rfl rfl rfl | exact below_al Db (.cells #[.int .i64 sym] 3) rfl rfl rfl rfl)))
                        ((first
                          | (go_at_call 10; refine (T10.out _ (SD.out _ (by with_reducible assumption))).mono ?_; rintro e wa ⟨g1, k1, g2, k2, g3, k3, rfl, hA1, Da, da⟩; have Sa := SK.out wa Da)
                          | (refine step_append_lies _ (by rfl) _ _ _ (by rfl) wa.heap.size 3 i3 _ 1 8 Tryz.underlying22 hi3 hz30 hz31 hz32 rfl (by omega) (.slice none 0 0) 0 [] (by rfl) (World.ownsRow_nil _ _ _ _) _ _ _ [.int .i64 sym] (by rfl) (by rfl) (by first | exact cell_one_new wa _ _ | exact news_on wt _ da rfl) (by simp [Value.oneCell']) (by omega) (by unfold maxLen; omega) (by omega) (by first | exact Nat.le_refl _ | (simp <;> omega)) _ rfl ?_; intro g9 c9 wc ho2 hgr2 _ _; have hoz := own_one ho2; have Dac : Below wa.heap.size wa wc := (by first | exact (below_dr (Below.refl _ wa) rfl rfl rfl rfl).grown hgr2 (Nat.le_refl _) (fun k hk => by cases hk) | exact (below_al (Below.refl _ wa) (.cells #[.int .i64 sym] 3) rfl rfl rfl rfl).grown hgr2 (by simp <;> omega) (fun k hk => by cases hk)); have Dc := Da.trans (Dac.mono Da.size); have Sc := SK.out wc Dc)
                          | (go_at_call 19; refine (TG.out _ _ _ _ _ _ _ _ _ ([] ++ [sym]) _ (by simp) (by simp <;> omega) hwe2 (SD.out _ (by with_reducible assumption)) (by exact hA1.out.on Dac) (by exact rdN_own hoz (List.prefix_refl _))).mono ?_; rintro e wd ⟨gr, cr, rfl, hr, Dd, dd⟩; have Sd := SK.out wd Dd)))
                      all_goals (
                        go_wp2_with fail
                        go_meet
                        exact ⟨gr, cr, rfl, rfl, hr, hide (below_same dd ((by first | exact below_same da (Below.refl _ wt) rfl rfl rfl rfl | exact below_same da (alloc_below wt (.cells #[.int .i64 sym] 3)) rfl rfl rfl rfl : Below wt.heap.size wt wa).trans (Dac.mono (by have := da.size; simp at this; omega))) rfl rfl rfl rfl)⟩)
                    | some ad =>
                      go_region_held3 (fun W => (W.cell? ⟨w.heap.size, 0, none⟩ = some (.int .i64 (N : Int)) ∧ W.cell? ⟨w.heap.size, 1, none⟩ = some (.int .i64 m) ∧ W.cell? ⟨w.heap.size, 2, none⟩ = some (.slice a1 St.length c1) ∧ W.cell? ⟨w.heap.size, 3, none⟩ = some (.slice a2 Fi.length c2) ∧ W.cell? ⟨w.heap.size, 4, none⟩ = some (.slice a3 Ed.length c3) ∧ W.cell? ⟨w.heap.size, 10, none⟩ = some (.slice q1 Q.length cq) ∧ W.cell? ⟨w.heap.size, 12, none⟩ = some (.int .i64 sym) ∧ W.cell? ⟨w.heap.size, 13, none⟩ = some (.slice (some ad) ([] : List Int).length cw) ∧ Hid (Below W0.heap.size W0 W)))
                        (first | (with_reducible assumption) | (exact SK.out _ (by first | exact below_al HT0.out (.cells #[.int .i64 sym] 3) rfl rfl rfl rfl | exact below_al Da (.cells #[.int .i64 sym] 3) rfl rfl rfl rfl | exact below_al Db (.cells #[.int .i64 sym] 3) rfl rfl rfl rfl)))
                        ((first
                          | (go_at_call 10; refine (T10.out _ (SD.out _ (by with_reducible assumption))).mono ?_; rintro e wa ⟨g1, k1, g2, k2, g3, k3, rfl, hA1, Da, da⟩; have Sa := SK.out wa Da)
                          | (refine step_append_own _ (by rfl) _ _ _ (by rfl) wa.heap.size 3 i3 _ 1 8 Tryz.underlying22 hi3 hz30 hz31 hz32 rfl (by omega) (.slice none 0 0) 0 [] (by rfl) (World.ownsRow_nil _ _ _ _) ad 0 cw [] (by rfl) (by rfl) (by intro j u hu; simp at hu) (by simp) (by unfold maxLen; omega) (by omega) (by first | exact Nat.le_refl _ | (simp <;> omega)) ?_; intro v1 wb ho1 hgr1 hn1 _; have hv1 := hn1.2 ⟨rfl, rfl⟩; subst hv1; clear hn1; have dV1 := below_none hgr1; have dab : Below wa.heap.size wa wb := (by first | exact below_same dV1 (Below.refl _ wa) rfl rfl rfl rfl | exact below_same dV1 (alloc_below wa (.cells #[.int .i64 sym] 3)) rfl rfl rfl rfl); have Db := Da.trans (dab.mono Da.size); have Sb := SK.out wb Db; have hwab := dab.size)
                          | (refine step_append_lies _ (by rfl) _ _ _ (by rfl) wa.heap.size 3 i3 _ 1 8 Tryz.underlying22 hi3 hz30 hz31 hz32 rfl (by omega) (.slice none 0 0) 0 [] (by rfl) (World.ownsRow_nil _ _ _ _) _ _ _ [.int .i64 sym] (by rfl) (by rfl) (by first | exact cell_one_new wb _ _ | exact news_on wa _ dV1 rfl | exact news_on wt _ (below_same dV1 da rfl rfl rfl rfl) rfl) (by simp [Value.oneCell']) (by omega) (by unfold maxLen; omega) (by omega) (by first | exact hwab | (simp <;> omega)) _ rfl ?_; intro g9 c9 wc ho2 hgr2 _ _; have hoz := own_one ho2; have Dac : Below wa.heap.size wa wc := (by first | exact (below_dr dab rfl rfl rfl rfl).grown hgr2 hwab (fun k hk => by cases hk) | exact (below_al dab (.cells #[.int .i64 sym] 3) rfl rfl rfl rfl).grown hgr2 (by simp <;> omega) (fun k hk => by cases hk)); have Dc := Da.trans (Dac.mono Da.size); have Sc := SK.out wc Dc)
                          | (go_at_call 19; refine (TG.out _ _ _ _ _ _ _ _ _ ([] ++ [sym]) _ (by simp) (by simp <;> omega) hwe2 (SD.out _ (by with_reducible assumption)) (by exact hA1.out.on Dac) (by exact rdN_own hoz (List.prefix_refl _))).mono ?_; rintro e wd ⟨gr, cr, rfl, hr, Dd, dd⟩; have Sd := SK.out wd Dd)))
                      all_goals (
                        go_wp2_with fail
                        go_meet
                        exact ⟨gr, cr, rfl, rfl, hr, hide (below_same dd ((by first | exact below_same da (Below.refl _ wt) rfl rfl rfl rfl | exact below_same da (alloc_below wt (.cells #[.int .i64 sym] 3)) rfl rfl rfl rfl : Below wt.heap.size wt wa).trans (Dac.mono (by have := da.size; simp at this; omega))) rfl rfl rfl rfl)⟩)
                  · have hpos : 0 < Wd.length := List.length_pos_iff.2 hWd
                    clear hWd
                    cases u1 with
                    | none =>
                      obtain ⟨g, o, e, _⟩ := hU.out 0 hpos
                      cases e
                    | some ad =>
                      go_region_held3 (fun W => (W.cell? ⟨w.heap.size, 0, none⟩ = some (.int .i64 (N : Int)) ∧ W.cell? ⟨w.heap.size, 1, none⟩ = some (.int .i64 m) ∧ W.cell? ⟨w.heap.size, 2, none⟩ = some (.slice a1 St.length c1) ∧ W.cell? ⟨w.heap.size, 3, none⟩ = some (.slice a2 Fi.length c2) ∧ W.cell? ⟨w.heap.size, 4, none⟩ = some (.slice a3 Ed.length c3) ∧ W.cell? ⟨w.heap.size, 10, none⟩ = some (.slice q1 Q.length cq) ∧ W.cell? ⟨w.heap.size, 12, none⟩ = some (.int .i64 sym) ∧ W.cell? ⟨w.heap.size, 13, none⟩ = some (.slice (some ad) Wd.length cw) ∧ Hid (Below W0.heap.size W0 W)))
                        (first | (with_reducible assumption) | (exact SK.out _ (by first | exact below_al HT0.out (.cells #[.int .i64 sym] 3) rfl rfl rfl rfl | exact below_al Da (.cells #[.int .i64 sym] 3) rfl rfl rfl rfl | exact below_al Db (.cells #[.int .i64 sym] 3) rfl rfl rfl rfl)))
                        ((first
                          | (go_at_call 10; refine (T10.out _ (SD.out _ (by with_reducible assumption))).mono ?_; rintro e wa ⟨g1, k1, g2, k2, g3, k3, rfl, hA1, Da, da⟩; have Sa := SK.out wa Da)
                          | (refine step_append_lies _ (by rfl) _ _ _ (by rfl) wa.heap.size 3 i3 _ 1 8 Tryz.underlying22 hi3 hz30 hz31 hz32 rfl (by omega) (.slice none 0 0) 0 [] (by rfl) (World.ownsRow_nil _ _ _ _) ad Wd.length cw (Wd.map (Value.int .i64)) (by rfl) (by simp) (by exact rd_news (hU.out.on (D0.out.trans ((SD.out _ (by with_reducible assumption)).mono D0.out.size)))) (ints_one Wd) (by omega) (by unfold maxLen; omega) (by omega) (by first | exact Nat.le_refl _ | (simp <;> omega)) _ rfl ?_; intro g8 c8 wb ho1 hgr1 _ _; have ho1 := own_z ho1; have dV1 := below_none hgr1; have dab : Below wa.heap.size wa wb := (by first | exact below_same dV1 (Below.refl _ wa) rfl rfl rfl rfl | exact below_same dV1 (alloc_below wa (.cells #[.int .i64 sym] 3)) rfl rfl rfl rfl); have Db := Da.trans (dab.mono Da.size); have Sb := SK.out wb Db; have hwab := dab.size)
                          | (refine step_append_lies _ (by rfl) _ _ _ (by rfl) wa.heap.size 3 i3 _ 1 8 Tryz.underlying22 hi3 hz30 hz31 hz32 rfl (by omega) (.slice (some ⟨g8, 0, none⟩) Wd.length c8) Wd.length (Wd.map (Value.int .i64)) (by first | rfl | (simp [Act.eval])) (by first | exact ho1 | exact ho1.alloc _) _ _ _ [.int .i64 sym] (by rfl) (by rfl) (by first | exact cell_one_new wb _ _ | exact news_on wa _ dV1 rfl | exact news_on wt _ (below_same dV1 da rfl rfl rfl rfl) rfl) (by simp [Value.oneCell']) (by omega) (by unfold maxLen; omega) (by omega) (by first | exact hwab | (simp <;> omega)) _ rfl ?_; intro g9 c9 wc ho2 hgr2 _ _; have hoz := own_ints ho2; have Dac : Below wa.heap.size wa wc := (by first | exact (below_dr dab rfl rfl rfl rfl).grown hgr2 hwab (fun k hk => (ho1.lt k hk).1) | exact (below_al dab (.cells #[.int .i64 sym] 3) rfl rfl rfl rfl).grown hgr2 (by simp <;> omega) (fun k hk => (ho1.lt k hk).1)); have Dc := Da.trans (Dac.mono Da.size); have Sc := SK.out wc Dc)
                          | (go_at_call 19; refine (TG.out _ _ _ _ _ _ _ _ _ (Wd ++ [sym]) _ (by simp) (by simp <;> omega) hwe2 (SD.out _ (by with_reducible assumption)) (by exact hA1.out.on Dac) (by exact rdN_own hoz (List.prefix_refl _))).mono ?_; rintro e wd ⟨gr, cr, rfl, hr, Dd, dd⟩; have Sd := SK.out wd Dd)))
                      all_goals (
                        go_wp2_with fail
                        go_meet
                        exact ⟨gr, cr, rfl, rfl, hr, hide (below_same dd ((by first | exact below_same da (Below.refl _ wt) rfl rfl rfl rfl | exact below_same da (alloc_below wt (.cells #[.int .i64 sym] 3)) rfl rfl rfl rfl : Below wt.heap.size wt wa).trans (Dac.mono (by have := da.size; simp at this; omega))) rfl rfl rfl rfl)⟩)
                case rest =>
                  obtain ⟨gu, cu, rfl, rfl, HRU, HU1⟩ := hcut
                  rename World => wu
                  have HU0 : Hid (Below W0.heap.size W0 wu) := hide (HT0.out.trans (HU1.out.mono HT0.out.size))
                  have HRTu := hide (HRT.out.on HU1.out)
                  have hZ2 : Hid (wordF Ed (setI N St) Wd < 2 ^ N) := hide (wordF_pow HIN.out (setI_lt N St) Wd)
                  have hZin : (itl (elems N (wordF Ed (setI N St) Wd))).all (inB N) = true := by
                    rw [List.all_eq_true]
                    intro x hx
                    obtain ⟨j, hj, rfl⟩ := mem_itl.1 hx
                    have := (mem_elems.1 hj).1
                    rw [inB_iff]; omega
                  go_upto_region 20 with fail
                  go_cut [14, 6] from 145 to 154 (fun pv ev W => ∃ g c, pv = .slice (some ⟨g, 0, none⟩) (elems N (wordF Ed (setI N St) (Wd ++ [sym]))).length c ∧ ev = .int .i64 0 ∧ Hid (RdN W (some ⟨g, 0, none⟩) (itl (elems N (wordF Ed (setI N St) (Wd ++ [sym]))))) ∧ Hid (Below wu.heap.size wu W))
                  case first =>
                    have S0 := SK.out wu.drew HU0.out.drew
                    have TPZ : Hid (∀ (W : World) (g1 k1 g2 k2 g3 k3 : Nat), Below W0.heap.size W0 W → RdA W (some ⟨g1, 0, none⟩) (some ⟨g2, 0, none⟩) (some ⟨g3, 0, none⟩) St Fi Ed → RdN W (some ⟨gt, 0, none⟩) (itl (elems N (wordF Ed (setI N St) Wd))) → Calls Tryz.prog 15 #[.agg #[.int .i64 (N : Int), .int .i64 m, .slice (some ⟨g1, 0, none⟩) St.length k1, .slice (some ⟨g2, 0, none⟩) Fi.length k2, .slice (some ⟨g3, 0, none⟩) Ed.length k3], .slice (some ⟨gt, 0, none⟩) (elems N (wordF Ed (setI N St) Wd)).length ct, .int .i64 sym] W fun e w' => ∃ g c, e = .returned (.tuple #[.slice (some ⟨g, 0, none⟩) (elems N (wordF Ed (setI N St) (Wd ++ [sym]))).length c, .int .i64 0]) ∧ Hid (RdN w' (some ⟨g, 0, none⟩) (itl (elems N (wordF Ed (setI N St) (Wd ++ [sym]))))) ∧ Below W0.heap.size W0 w' ∧ Below W.heap.size W w') := hide (fun W g1 k1 g2 k2 g3 k3 d hA hQ => by
                      have t := TP.out W g1 k1 g2 k2 g3 k3 gt ct (itl (elems N (wordF Ed (setI N St) Wd))) (by rw [itl_len]; exact Nat.le_trans (elems_le _ _) (by omega)) hZin d hA hQ
                      rw [itl_len, setI_elems hZ2.out, ← wordF_snoc] at t
                      exact t)
                    go_region_held3 (fun W => (W.cell? ⟨w.heap.size, 0, none⟩ = some (.int .i64 (N : Int)) ∧ W.cell? ⟨w.heap.size, 1, none⟩ = some (.int .i64 m) ∧ W.cell? ⟨w.heap.size, 2, none⟩ = some (.slice a1 St.length c1) ∧ W.cell? ⟨w.heap.size, 3, none⟩ = some (.slice a2 Fi.length c2) ∧ W.cell? ⟨w.heap.size, 4, none⟩ = some (.slice a3 Ed.length c3) ∧ W.cell? ⟨w.heap.size, 10, none⟩ = some (.slice q1 Q.length cq) ∧ W.cell? ⟨w.heap.size, 12, none⟩ = some (.int .i64 sym) ∧ W.cell? ⟨w.heap.size, 13, none⟩ = some (.slice u1 Wd.length cw) ∧ Hid (Below W0.heap.size W0 W)))
                      (with_reducible assumption)
                      ((first
                        | (go_at_call 10; refine (T10.out _ (SD.out _ (by with_reducible assumption))).mono ?_; rintro e wa ⟨g1, k1, g2, k2, g3, k3, rfl, hA1, Da, da⟩; have Sa := SK.out wa Da; have dua : Below wu.heap.size wu wa := below_same da (Below.refl _ wu) rfl rfl rfl rfl)
                        | (go_at_call 15; refine (TPZ.out _ _ _ _ _ _ _ (SD.out _ (by with_reducible assumption)) (by exact hA1.out) (by exact HRTu.out.on dua)).mono ?_; rintro e wc ⟨gr, cr, rfl, hr, Dc, dc⟩; have Sc := SK.out wc Dc)))
                    all_goals (
                      go_wp2_with fail
                      go_meet
                      exact ⟨gr, cr, rfl, rfl, hr, hide (below_same dc dua rfl rfl rfl rfl)⟩)
                  case rest =>
                    obtain ⟨gv, cv, rfl, rfl, HRV, HV1⟩ := hcut
                    rename World => wv
                    have TSm := sameInts_any wv (some ⟨gu, 0, none⟩) (some ⟨gv, 0, none⟩) (itl (elems N (wordF Ed (setI N St) (Wd ++ [sym])))) (itl (elems N (wordF Ed (setI N St) (Wd ++ [sym])))) cu cv (hide (HRU.out.on HV1.out)) HRV (by rw [itl_len]; exact Nat.le_trans (elems_le _ _) (by omega)) (by rw [itl_len]; exact Nat.le_trans (elems_le _ _) (by omega))
                    rw [itl_len, show decide (itl (elems N (wordF Ed (setI N St) (Wd ++ [sym]))) = itl (elems N (wordF Ed (setI N St) (Wd ++ [sym])))) = true by simp] at TSm
                    go_wp2_with (go_at_call 20; refine TSm.mono ?_; rintro e w9 ⟨rfl, d9⟩)
                    refine bodyPost_ret (results_tmp rfl _ _ _) rfl ?_
                    have DV := HU0.out.trans (HV1.out.mono HU0.out.size)
                    exact ⟨rfl, (D0.out.trans (DV.mono D0.out.size)).trans (d9.mono (Nat.le_trans D0.out.size DV.size))⟩
            · have TB : Hid (∀ (W : World) (g1 k1 g2 k2 g3 k3 gq kq : Nat), Below W0.heap.size W0 W → RdA W (some ⟨g1, 0, none⟩) (some ⟨g2, 0, none⟩) (some ⟨g3, 0, none⟩) St Fi Ed → RdN W (some ⟨gq, 0, none⟩) Wd → Calls Tryz.prog 19 #[.agg #[.int .i64 (N : Int), .int .i64 m, .slice (some ⟨g1, 0, none⟩) St.length k1, .slice (some ⟨g2, 0, none⟩) Fi.length k2, .slice (some ⟨g3, 0, none⟩) Ed.length k3], .slice (some ⟨gq, 0, none⟩) Wd.length kq] W fun e w' => e = .returned (.tuple #[.slice none 0 0, .int .i64 7]) ∧ Below W0.heap.size W0 w') := hide (fun W g1 k1 g2 k2 g3 k3 gq kq d hA hQ => by
                have t := After_bad W N m (some ⟨g1, 0, none⟩) (some ⟨g2, 0, none⟩) (some ⟨g3, 0, none⟩) (some ⟨gq, 0, none⟩) k1 k2 k3 kq St Fi Ed Wd (hide hA) (hide hQ) (by omega) (by omega) (by omega) (by omega) hwe
                have e7 : wordErr N m St Fi Ed Wd = 7 := by
                  have hwe3 := hwe
                  unfold wordErr at hwe3 ⊢
                  rw [if_pos HE.out.1] at hwe3 ⊢
                  by_cases hq : Wd.all (inB m) = true
                  · rw [if_pos hq] at hwe3; exact absurd rfl hwe3
                  · rw [if_neg hq]
                rw [e7] at t
                exact t.mono fun e w' ⟨h, dd⟩ => ⟨h, d.trans (dd.mono d.size)⟩)
              go_cut [12, 4] from 117 to 126 (fun pv ev W => pv = .slice none 0 0 ∧ ev = .int .i64 7 ∧ Hid (Below W0.heap.size W0 W))
              case first =>
                have S0 := SK.out wr.drew HW0.out.drew
                go_region_held3 (fun W => (W.cell? ⟨w.heap.size, 0, none⟩ = some (.int .i64 (N : Int)) ∧ W.cell? ⟨w.heap.size, 1, none⟩ = some (.int .i64 m) ∧ W.cell? ⟨w.heap.size, 2, none⟩ = some (.slice a1 St.length c1) ∧ W.cell? ⟨w.heap.size, 3, none⟩ = some (.slice a2 Fi.length c2) ∧ W.cell? ⟨w.heap.size, 4, none⟩ = some (.slice a3 Ed.length c3) ∧ W.cell? ⟨w.heap.size, 10, none⟩ = some (.slice q1 Q.length cq) ∧ W.cell? ⟨w.heap.size, 12, none⟩ = some (.int .i64 sym) ∧ W.cell? ⟨w.heap.size, 13, none⟩ = some (.slice u1 Wd.length cw) ∧ Hid (Below W0.heap.size W0 W)))
                  (with_reducible assumption)
                  ((first
                    | (go_at_call 10; refine (T10.out _ (SD.out _ (by with_reducible assumption))).mono ?_; rintro e wa ⟨g1, k1, g2, k2, g3, k3, rfl, hA1, Da, da⟩; have Sa := SK.out wa Da)
                    | (go_at_call 11; refine (T11u.out _ (SD.out _ (by with_reducible assumption))).mono ?_; rintro e wb ⟨gq, kq, rfl, hQ1, Db, db⟩; have Sb := SK.out wb Db; have hA2 := hide (hA1.out.on db))
                    | (go_at_call 19; refine (TB.out _ _ _ _ _ _ _ _ _ (SD.out _ (by with_reducible assumption)) hA2.out hQ1.out).mono ?_; rintro e wc ⟨rfl, Dc⟩; have Sc := SK.out wc Dc)))
                all_goals (
                  go_wp2_with fail
                  go_meet
                  exact ⟨rfl, rfl, hide Dc⟩)
              case rest =>
                obtain ⟨rfl, rfl, HC⟩ := hcut
                go_wp2
                refine bodyPost_ret (results_tmp rfl _ _ _) rfl ?_
                exact ⟨rfl, D0.out.trans (HC.out.mono D0.out.size)⟩
end Go.Proofs.YtfoahpideglghaaGreatDoor
