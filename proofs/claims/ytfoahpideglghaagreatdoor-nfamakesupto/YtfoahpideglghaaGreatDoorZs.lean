import Derived.Test.YtfoahpideglghaaGreatDoorZR
namespace Go.Proofs.YtfoahpideglghaaGreatDoor
open Go.RowKit Go.Maps Go.Shelf
attribute [local go_sem] Oper.semAt_some

set_option maxRecDepth 100000 in
set_option maxHeartbeats 4000000 in
theorem makes_any (w : World) (n m nb mb sym kk : Int) (a1 a2 a3 b1 b2 b3 q1 p1 u1 o1 : Option Addr) (c1 c2 c3 d1 d2 d3 lq cq lp cp lu cw co : Nat) (St Fi Sb Fb To : List Int) (Ed Eb : List EdT) (hT : Hid (TabAt w ∧ 0 < w.heap.size)) (hA : Hid (RdA w a1 a2 a3 St Fi Ed)) (hB : Hid (RdA w b1 b2 b3 Sb Fb Eb)) (hO : Hid (RdN w o1 To)) (h1 : St.length ≤ 1048576) (h2 : Fi.length ≤ 1048576) (h3 : Ed.length ≤ 1048576) (h4 : Sb.length ≤ 1048576) (h5 : Fb.length ≤ 1048576) (h6 : Eb.length ≤ 1048576) (h8 : To.length ≤ 1048576) (hc : Ed.length ≤ c3) (hc' : Eb.length ≤ d3) :
    Calls Tryz.prog 6 #[.agg #[.int .i64 n, .int .i64 m, .slice a1 St.length c1, .slice a2 Fi.length c2, .slice a3 Ed.length c3, .int .i64 nb, .int .i64 mb, .slice b1 Sb.length d1, .slice b2 Fb.length d2, .slice b3 Eb.length d3, .slice q1 lq cq, .slice p1 lp cp, .int .i64 sym, .slice u1 lu cw, .int .i64 kk, .slice o1 To.length co]] w fun e w' => e = .returned (.bool true) ∧ Below w.heap.size w w' := by
  obtain ⟨W0, hW0⟩ : ∃ W0, w.alloc (.cells #[.int .i64 n, .int .i64 m, .slice a1 St.length c1, .slice a2 Fi.length c2, .slice a3 Ed.length c3, .int .i64 nb, .int .i64 mb, .slice b1 Sb.length d1, .slice b2 Fb.length d2, .slice b3 Eb.length d3, .slice q1 lq cq, .slice p1 lp cp, .int .i64 sym, .slice u1 lu cw, .int .i64 kk, .slice o1 To.length co] 27) = W0 := ⟨_, rfl⟩
  have D0 : Hid (Below w.heap.size w W0) := hide (by rw [← hW0]; exact alloc_below _ _)
  have B0 : Hid (W0.heap[w.heap.size]? = some (.cells #[.int .i64 n, .int .i64 m, .slice a1 St.length c1, .slice a2 Fi.length c2, .slice a3 Ed.length c3, .int .i64 nb, .int .i64 mb, .slice b1 Sb.length d1, .slice b2 Fb.length d2, .slice b3 Eb.length d3, .slice q1 lq cq, .slice p1 lp cp, .int .i64 sym, .slice u1 lu cw, .int .i64 kk, .slice o1 To.length co] 27 (0, 0))) := hide (by rw [← hW0]; exact World.alloc_heap_new _ _)
  have KW : Hid (∀ W, Below W0.heap.size W0 W → Below w.heap.size w W) := hide (fun W d => D0.out.trans (d.mono D0.out.size))
  have T8 : Calls Tryz.prog 8 #[] W0 fun e w' => e = .returned (.bool true) ∧ Below W0.heap.size W0 w' := works_any W0 (hide ⟨hT.out.1.below D0.out hT.out.2, Nat.lt_of_lt_of_le hT.out.2 D0.out.size⟩)
  go_enter Tryz.func6, Tryz.ntmps6
  go_upto_region 3 with (go_at_call 8; refine T8.mono ?_; rintro e w1 ⟨rfl, D1⟩)
  have HD1 := hide D1
  clear D1 T8 hW0
  have E1 := blk_on B0.out HD1.out
  have y0 : w1.cell? ⟨w.heap.size, 0, none⟩ = some (.int .i64 n) := cell_of E1 rfl
  have y1 : w1.cell? ⟨w.heap.size, 1, none⟩ = some (.int .i64 m) := cell_of E1 rfl
  have y2 : w1.cell? ⟨w.heap.size, 2, none⟩ = some (.slice a1 St.length c1) := cell_of E1 rfl
  have y3 : w1.cell? ⟨w.heap.size, 3, none⟩ = some (.slice a2 Fi.length c2) := cell_of E1 rfl
  have y4 : w1.cell? ⟨w.heap.size, 4, none⟩ = some (.slice a3 Ed.length c3) := cell_of E1 rfl
  have y5 : w1.cell? ⟨w.heap.size, 5, none⟩ = some (.int .i64 nb) := cell_of E1 rfl
  have y6 : w1.cell? ⟨w.heap.size, 6, none⟩ = some (.int .i64 mb) := cell_of E1 rfl
  have y7 : w1.cell? ⟨w.heap.size, 7, none⟩ = some (.slice b1 Sb.length d1) := cell_of E1 rfl
  have y8 : w1.cell? ⟨w.heap.size, 8, none⟩ = some (.slice b2 Fb.length d2) := cell_of E1 rfl
  have y9 : w1.cell? ⟨w.heap.size, 9, none⟩ = some (.slice b3 Eb.length d3) := cell_of E1 rfl
  have y10 : w1.cell? ⟨w.heap.size, 10, none⟩ = some (.slice q1 lq cq) := cell_of E1 rfl
  have y11 : w1.cell? ⟨w.heap.size, 11, none⟩ = some (.slice p1 lp cp) := cell_of E1 rfl
  have y12 : w1.cell? ⟨w.heap.size, 12, none⟩ = some (.int .i64 sym) := cell_of E1 rfl
  have y13 : w1.cell? ⟨w.heap.size, 13, none⟩ = some (.slice u1 lu cw) := cell_of E1 rfl
  have y14 : w1.cell? ⟨w.heap.size, 14, none⟩ = some (.int .i64 kk) := cell_of E1 rfl
  have y15 : w1.cell? ⟨w.heap.size, 15, none⟩ = some (.slice o1 To.length co) := cell_of E1 rfl
  clear E1
  go_upto_region 4 with (go_at_call 10; refine (twin_any w1 n m a1 a2 a3 c1 c2 c3 St Fi Ed (hide (hA.out.on (KW.out w1 HD1.out))) (by omega) (by omega) (by omega)).mono ?_; rintro e w2 ⟨s1, ks1, s2, ks2, s3, ks3, rfl, hA1, dd⟩)
  obtain ⟨W2, hW2⟩ : ∃ W2, w2.alloc (.cells #[.int .i64 n, .int .i64 m, .slice (some ⟨s1, 0, none⟩) St.length ks1, .slice (some ⟨s2, 0, none⟩) Fi.length ks2, .slice (some ⟨s3, 0, none⟩) Ed.length ks3] 25) = W2 := ⟨_, rfl⟩
  have H2 : Hid (W2.heap[w2.heap.size]? = some (.cells #[.int .i64 n, .int .i64 m, .slice (some ⟨s1, 0, none⟩) St.length ks1, .slice (some ⟨s2, 0, none⟩) Fi.length ks2, .slice (some ⟨s3, 0, none⟩) Ed.length ks3] 25 (0, 0)) ∧ TwA w1.heap.size W2 s1 ks1 s2 ks2 s3 ks3 St Fi Ed ∧ Below w2.heap.size w2 W2 ∧ Below W0.heap.size W0 W2) := hide (by
    have dn : Below w2.heap.size w2 W2 := by rw [← hW2]; exact alloc_below _ _
    have e1 : Below W0.heap.size W0 w2 := HD1.out.trans (dd.mono HD1.out.size)
    exact ⟨by rw [← hW2]; exact World.alloc_heap_new _ _, hA1.out.on dn, dn, e1.trans (dn.mono e1.size)⟩)
  have HDD := hide dd.size
  rw [hW2]
  clear hW2 dd hA1 y0 y1 y2 y3 y4 y5 y6 y7 y8 y9 y10 y11 y12 y13 y14 y15
  obtain ⟨pa, hpa⟩ : ∃ pa, w2.heap.size = pa := ⟨_, rfl⟩
  have HP := hide hpa
  have HPA : Hid (w1.heap.size ≤ pa) := hide (by rw [← hpa]; exact HDD.out)
  rw [hpa] at H2 ⊢
  clear hpa HDD
  have E1 := blk_on B0.out H2.out.2.2.2
  have y0 : W2.cell? ⟨w.heap.size, 0, none⟩ = some (.int .i64 n) := cell_of E1 rfl
  have y1 : W2.cell? ⟨w.heap.size, 1, none⟩ = some (.int .i64 m) := cell_of E1 rfl
  have y2 : W2.cell? ⟨w.heap.size, 2, none⟩ = some (.slice a1 St.length c1) := cell_of E1 rfl
  have y3 : W2.cell? ⟨w.heap.size, 3, none⟩ = some (.slice a2 Fi.length c2) := cell_of E1 rfl
  have y4 : W2.cell? ⟨w.heap.size, 4, none⟩ = some (.slice a3 Ed.length c3) := cell_of E1 rfl
  have y5 : W2.cell? ⟨w.heap.size, 5, none⟩ = some (.int .i64 nb) := cell_of E1 rfl
  have y6 : W2.cell? ⟨w.heap.size, 6, none⟩ = some (.int .i64 mb) := cell_of E1 rfl
  have y7 : W2.cell? ⟨w.heap.size, 7, none⟩ = some (.slice b1 Sb.length d1) := cell_of E1 rfl
  have y8 : W2.cell? ⟨w.heap.size, 8, none⟩ = some (.slice b2 Fb.length d2) := cell_of E1 rfl
  have y9 : W2.cell? ⟨w.heap.size, 9, none⟩ = some (.slice b3 Eb.length d3) := cell_of E1 rfl
  have y10 : W2.cell? ⟨w.heap.size, 10, none⟩ = some (.slice q1 lq cq) := cell_of E1 rfl
  have y11 : W2.cell? ⟨w.heap.size, 11, none⟩ = some (.slice p1 lp cp) := cell_of E1 rfl
  have y12 : W2.cell? ⟨w.heap.size, 12, none⟩ = some (.int .i64 sym) := cell_of E1 rfl
  have y13 : W2.cell? ⟨w.heap.size, 13, none⟩ = some (.slice u1 lu cw) := cell_of E1 rfl
  have y14 : W2.cell? ⟨w.heap.size, 14, none⟩ = some (.int .i64 kk) := cell_of E1 rfl
  have y15 : W2.cell? ⟨w.heap.size, 15, none⟩ = some (.slice o1 To.length co) := cell_of E1 rfl
  clear E1
  go_upto_region 5 with (go_at_call 10; refine (twin_any W2 nb mb b1 b2 b3 d1 d2 d3 Sb Fb Eb (hide (hB.out.on (KW.out W2 H2.out.2.2.2))) (by omega) (by omega) (by omega)).mono ?_; rintro e w3 ⟨v1, kv1, v2, kv2, v3, kv3, rfl, hA1, dd⟩)
  obtain ⟨W3, hW3⟩ : ∃ W3, w3.alloc (.cells #[.int .i64 nb, .int .i64 mb, .slice (some ⟨v1, 0, none⟩) Sb.length kv1, .slice (some ⟨v2, 0, none⟩) Fb.length kv2, .slice (some ⟨v3, 0, none⟩) Eb.length kv3] 25) = W3 := ⟨_, rfl⟩
  have H3 : Hid (W3.heap[w3.heap.size]? = some (.cells #[.int .i64 nb, .int .i64 mb, .slice (some ⟨v1, 0, none⟩) Sb.length kv1, .slice (some ⟨v2, 0, none⟩) Fb.length kv2, .slice (some ⟨v3, 0, none⟩) Eb.length kv3] 25 (0, 0)) ∧ TwA W2.heap.size W3 v1 kv1 v2 kv2 v3 kv3 Sb Fb Eb ∧ Below W2.heap.size W2 W3 ∧ Below W0.heap.size W0 W3 ∧ (v1 < w3.heap.size ∧ v2 < w3.heap.size ∧ v3 < w3.heap.size ∧ w3.heap.size < W3.heap.size ∧ W2.heap.size ≤ w3.heap.size)) := hide (by
    have dn : Below w3.heap.size w3 W3 := by rw [← hW3]; exact alloc_below _ _
    have e1 : Below W2.heap.size W2 W3 := dd.trans (dn.mono dd.size)
    exact ⟨by rw [← hW3]; exact World.alloc_heap_new _ _, hA1.out.on dn, e1, H2.out.2.2.2.trans (e1.mono H2.out.2.2.2.size), hA1.out.s.lt.2, hA1.out.f.lt.2, hA1.out.e.lt.2, by rw [← hW3]; simp, dd.size⟩)
  rw [hW3]
  clear hW3 dd hA1 y0 y1 y2 y3 y4 y5 y6 y7 y8 y9 y10 y11 y12 y13 y14 y15
  obtain ⟨pb, hpb⟩ : ∃ pb, w3.heap.size = pb := ⟨_, rfl⟩
  rw [hpb] at H3 ⊢
  clear hpb
  have E1 := blk_on B0.out H3.out.2.2.2.1
  have y0 : W3.cell? ⟨w.heap.size, 0, none⟩ = some (.int .i64 n) := cell_of E1 rfl
  have y1 : W3.cell? ⟨w.heap.size, 1, none⟩ = some (.int .i64 m) := cell_of E1 rfl
  have y2 : W3.cell? ⟨w.heap.size, 2, none⟩ = some (.slice a1 St.length c1) := cell_of E1 rfl
  have y3 : W3.cell? ⟨w.heap.size, 3, none⟩ = some (.slice a2 Fi.length c2) := cell_of E1 rfl
  have y4 : W3.cell? ⟨w.heap.size, 4, none⟩ = some (.slice a3 Ed.length c3) := cell_of E1 rfl
  have y5 : W3.cell? ⟨w.heap.size, 5, none⟩ = some (.int .i64 nb) := cell_of E1 rfl
  have y6 : W3.cell? ⟨w.heap.size, 6, none⟩ = some (.int .i64 mb) := cell_of E1 rfl
  have y7 : W3.cell? ⟨w.heap.size, 7, none⟩ = some (.slice b1 Sb.length d1) := cell_of E1 rfl
  have y8 : W3.cell? ⟨w.heap.size, 8, none⟩ = some (.slice b2 Fb.length d2) := cell_of E1 rfl
  have y9 : W3.cell? ⟨w.heap.size, 9, none⟩ = some (.slice b3 Eb.length d3) := cell_of E1 rfl
  have y10 : W3.cell? ⟨w.heap.size, 10, none⟩ = some (.slice q1 lq cq) := cell_of E1 rfl
  have y11 : W3.cell? ⟨w.heap.size, 11, none⟩ = some (.slice p1 lp cp) := cell_of E1 rfl
  have y12 : W3.cell? ⟨w.heap.size, 12, none⟩ = some (.int .i64 sym) := cell_of E1 rfl
  have y13 : W3.cell? ⟨w.heap.size, 13, none⟩ = some (.slice u1 lu cw) := cell_of E1 rfl
  have y14 : W3.cell? ⟨w.heap.size, 14, none⟩ = some (.int .i64 kk) := cell_of E1 rfl
  have y15 : W3.cell? ⟨w.heap.size, 15, none⟩ = some (.slice o1 To.length co) := cell_of E1 rfl
  clear E1
  go_upto_region 6 with (go_at_call 11; refine (ints_any W3 o1 To co (hide (hO.out.on (KW.out W3 H3.out.2.2.2.1))) (by omega)).mono ?_; rintro e w5 ⟨gt, kt, rfl, hM1, dd⟩)
  have F5 : Hid (w5.heap[w.heap.size]? = some (.cells #[.int .i64 n, .int .i64 m, .slice a1 St.length c1, .slice a2 Fi.length c2, .slice a3 Ed.length c3, .int .i64 nb, .int .i64 mb, .slice b1 Sb.length d1, .slice b2 Fb.length d2, .slice b3 Eb.length d3, .slice q1 lq cq, .slice p1 lp cp, .int .i64 sym, .slice u1 lu cw, .int .i64 kk, .slice o1 To.length co] 27 (0, 0)) ∧ w5.heap[pa]? = some (.cells #[.int .i64 n, .int .i64 m, .slice (some ⟨s1, 0, none⟩) St.length ks1, .slice (some ⟨s2, 0, none⟩) Fi.length ks2, .slice (some ⟨s3, 0, none⟩) Ed.length ks3] 25 (0, 0)) ∧ w5.heap[pb]? = some (.cells #[.int .i64 nb, .int .i64 mb, .slice (some ⟨v1, 0, none⟩) Sb.length kv1, .slice (some ⟨v2, 0, none⟩) Fb.length kv2, .slice (some ⟨v3, 0, none⟩) Eb.length kv3] 25 (0, 0)) ∧ TwA w1.heap.size w5 s1 ks1 s2 ks2 s3 ks3 St Fi Ed ∧ TwA W2.heap.size w5 v1 kv1 v2 kv2 v3 kv3 Sb Fb Eb ∧ Mk W3.heap.size w5 gt kt To ∧ Below W0.heap.size W0 w5) := hide (by
    have e3 := H3.out.2.2.1
    have e2 := e3.trans (dd.mono e3.size)
    have e0 := H3.out.2.2.2.1.trans (dd.mono H3.out.2.2.2.1.size)
    exact ⟨blk_on B0.out e0, blk_on H2.out.1 e2, blk_on H3.out.1 dd, H2.out.2.1.on e2, H3.out.2.1.on dd, hM1.out, e0⟩)
  have HW3 := hide dd.size
  clear dd hM1 y0 y1 y2 y3 y4 y5 y6 y7 y8 y9 y10 y11 y12 y13 y14 y15
  have KK : Hid (∀ W, Below w5.heap.size w5 W → (W.cell? ⟨w.heap.size, 0, none⟩ = some (.int .i64 n) ∧ W.cell? ⟨w.heap.size, 1, none⟩ = some (.int .i64 m) ∧ W.cell? ⟨w.heap.size, 2, none⟩ = some (.slice a1 St.length c1) ∧ W.cell? ⟨w.heap.size, 3, none⟩ = some (.slice a2 Fi.length c2) ∧ W.cell? ⟨w.heap.size, 4, none⟩ = some (.slice a3 Ed.length c3) ∧ W.cell? ⟨w.heap.size, 5, none⟩ = some (.int .i64 nb) ∧ W.cell? ⟨w.heap.size, 6, none⟩ = some (.int .i64 mb) ∧ W.cell? ⟨w.heap.size, 7, none⟩ = some (.slice b1 Sb.length d1) ∧ W.cell? ⟨w.heap.size, 8, none⟩ = some (.slice b2 Fb.length d2) ∧ W.cell? ⟨w.heap.size, 9, none⟩ = some (.slice b3 Eb.length d3) ∧ W.cell? ⟨w.heap.size, 10, none⟩ = some (.slice q1 lq cq) ∧ W.cell? ⟨w.heap.size, 11, none⟩ = some (.slice p1 lp cp) ∧ W.cell? ⟨w.heap.size, 12, none⟩ = some (.int .i64 sym) ∧ W.cell? ⟨w.heap.size, 13, none⟩ = some (.slice u1 lu cw) ∧ W.cell? ⟨w.heap.size, 14, none⟩ = some (.int .i64 kk) ∧ W.cell? ⟨w.heap.size, 15, none⟩ = some (.slice o1 To.length co)) ∧ (W.cell? ⟨pa, 0, none⟩ = some (.int .i64 n) ∧ W.cell? ⟨pa, 1, none⟩ = some (.int .i64 m) ∧ W.cell? ⟨pa, 2, none⟩ = some (.slice (some ⟨s1, 0, none⟩) St.length ks1) ∧ W.cell? ⟨pa, 3, none⟩ = some (.slice (some ⟨s2, 0, none⟩) Fi.length ks2) ∧ W.cell? ⟨pa, 4, none⟩ = some (.slice (some ⟨s3, 0, none⟩) Ed.length ks3)) ∧ (W.cell? ⟨pb, 0, none⟩ = some (.int .i64 nb) ∧ W.cell? ⟨pb, 1, none⟩ = some (.int .i64 mb) ∧ W.cell? ⟨pb, 2, none⟩ = some (.slice (some ⟨v1, 0, none⟩) Sb.length kv1) ∧ W.cell? ⟨pb, 3, none⟩ = some (.slice (some ⟨v2, 0, none⟩) Fb.length kv2) ∧ W.cell? ⟨pb, 4, none⟩ = some (.slice (some ⟨v3, 0, none⟩) Eb.length kv3))) := hide (fun W d => by
    have e0 := blk_on F5.out.1 d
    have e1 := blk_on F5.out.2.1 d
    have e2 := blk_on F5.out.2.2.1 d
    exact ⟨⟨cell_of e0 rfl, cell_of e0 rfl, cell_of e0 rfl, cell_of e0 rfl, cell_of e0 rfl, cell_of e0 rfl, cell_of e0 rfl, cell_of e0 rfl, cell_of e0 rfl, cell_of e0 rfl, cell_of e0 rfl, cell_of e0 rfl, cell_of e0 rfl, cell_of e0 rfl, cell_of e0 rfl, cell_of e0 rfl⟩, ⟨cell_of e1 rfl, cell_of e1 rfl, cell_of e1 rfl, cell_of e1 rfl, cell_of e1 rfl⟩, cell_of e2 rfl, cell_of e2 rfl, cell_of e2 rfl, cell_of e2 rfl, cell_of e2 rfl⟩)
  have RA : Hid (∀ W, Below w5.heap.size w5 W → RdA W (some ⟨s1, 0, none⟩) (some ⟨s2, 0, none⟩) (some ⟨s3, 0, none⟩) St Fi Ed ∧ RdA W (some ⟨v1, 0, none⟩) (some ⟨v2, 0, none⟩) (some ⟨v3, 0, none⟩) Sb Fb Eb ∧ RdN W (some ⟨gt, 0, none⟩) To ∧ Below w.heap.size w W) := hide (fun W d => by
    have e0 := F5.out.2.2.2.2.2.2.trans (d.mono F5.out.2.2.2.2.2.2.size)
    exact ⟨F5.out.2.2.2.1.rd.on d, F5.out.2.2.2.2.1.rd.on d, F5.out.2.2.2.2.2.1.rd.on d, KW.out W e0⟩)
  obtain ⟨⟨y0, y1, y2, y3, y4, y5, y6, y7, y8, y9, y10, y11, y12, y13, y14, y15⟩, ⟨ya0, ya1, ya2, ya3, ya4⟩, yb0, yb1, yb2, yb3, yb4⟩ := KK.out w5 (Below.refl _ _)
  go_upto_region 7 with (go_at_call 23; refine (reverse_ans w5 n m _ _ _ _ _ _ St Fi Ed (hide (RA.out w5 (Below.refl _ _)).1) (by omega) (by omega) (by omega)).mono ?_; rintro e w6 ⟨_, _, _, _, _, _, rfl, _, D6⟩)
  have H6 := hide D6
  clear D6 y0 y1 y2 y3 y4 y5 y6 y7 y8 y9 y10 y11 y12 y13 y14 y15 ya0 ya1 ya2 ya3 ya4 yb0 yb1 yb2 yb3 yb4
  obtain ⟨⟨y0, y1, y2, y3, y4, y5, y6, y7, y8, y9, y10, y11, y12, y13, y14, y15⟩, ⟨ya0, ya1, ya2, ya3, ya4⟩, yb0, yb1, yb2, yb3, yb4⟩ := KK.out w6 H6.out
  go_upto_region 8 with (go_at_call 28; refine (union_ans w6 n m nb mb _ _ _ _ _ _ _ _ _ _ _ _ St Fi Ed Sb Fb Eb (hide (RA.out w6 H6.out).1) (hide (RA.out w6 H6.out).2.1) (by omega) (by omega) (by omega) (by omega) (by omega) (by omega)).mono ?_; rintro e w7 ⟨_, _, _, _, _, _, rfl, _, D7⟩)
  have H7 := hide (H6.out.trans (D7.mono H6.out.size))
  clear D7 y0 y1 y2 y3 y4 y5 y6 y7 y8 y9 y10 y11 y12 y13 y14 y15 ya0 ya1 ya2 ya3 ya4 yb0 yb1 yb2 yb3 yb4
  obtain ⟨⟨y0, y1, y2, y3, y4, y5, y6, y7, y8, y9, y10, y11, y12, y13, y14, y15⟩, ⟨ya0, ya1, ya2, ya3, ya4⟩, yb0, yb1, yb2, yb3, yb4⟩ := KK.out w7 H7.out
  go_upto_region 9 with (go_at_call 29; refine (widen_ans w7 n m kk _ _ _ _ _ _ _ _ St Fi To Ed (hide (RA.out w7 H7.out).1) (hide (RA.out w7 H7.out).2.2.1) (by omega) (by omega) (by omega) (by omega)).mono ?_; rintro e w8 ⟨_, _, _, _, _, _, rfl, _, D8⟩)
  have H8 := hide (H7.out.trans (D8.mono H7.out.size))
  clear D8 y0 y1 y2 y3 y4 y5 y6 y7 y8 y9 y10 y11 y12 y13 y14 y15 ya0 ya1 ya2 ya3 ya4 yb0 yb1 yb2 yb3 yb4
  obtain ⟨⟨y0, y1, y2, y3, y4, y5, y6, y7, y8, y9, y10, y11, y12, y13, y14, y15⟩, ⟨ya0, ya1, ya2, ya3, ya4⟩, yb0, yb1, yb2, yb3, yb4⟩ := KK.out w8 H8.out
  go_upto_region 11 with (first
    | (go_at_call_of 30 a1; refine (untouched_yes w8 w1.heap.size n m s1 ks1 s2 ks2 s3 ks3 a1 a2 a3 c1 c2 c3 St Fi Ed (hide (F5.out.2.2.2.1.on H8.out)) (hide (hA.out.on (RA.out w8 H8.out).2.2.2)) (by omega) (by omega) (by omega)).mono ?_; rintro e w9 ⟨rfl, D9⟩; have H9 := hide (H8.out.trans (D9.mono H8.out.size)); clear D9 y0 y1 y2 y3 y4 y5 y6 y7 y8 y9 y10 y11 y12 y13 y14 y15 ya0 ya1 ya2 ya3 ya4 yb0 yb1 yb2 yb3 yb4; have ⟨⟨y0, y1, y2, y3, y4, y5, y6, y7, y8, y9, y10, y11, y12, y13, y14, y15⟩, ⟨ya0, ya1, ya2, ya3, ya4⟩, yb0, yb1, yb2, yb3, yb4⟩ := KK.out w9 H9.out)
    | (go_at_call_of 30 b1; refine (untouched_yes w9 W2.heap.size nb mb v1 kv1 v2 kv2 v3 kv3 b1 b2 b3 d1 d2 d3 Sb Fb Eb (hide (F5.out.2.2.2.2.1.on H9.out)) (hide (hB.out.on (RA.out w9 H9.out).2.2.2)) (by omega) (by omega) (by omega)).mono ?_; rintro e w10 ⟨rfl, D10⟩; have H10 := hide (H9.out.trans (D10.mono H9.out.size)); clear D10 y0 y1 y2 y3 y4 y5 y6 y7 y8 y9 y10 y11 y12 y13 y14 y15 ya0 ya1 ya2 ya3 ya4 yb0 yb1 yb2 yb3 yb4; have ⟨⟨y0, y1, y2, y3, y4, y5, y6, y7, y8, y9, y10, y11, y12, y13, y14, y15⟩, ⟨ya0, ya1, ya2, ya3, ya4⟩, yb0, yb1, yb2, yb3, yb4⟩ := KK.out w10 H10.out)
    | (go_at_call 31; refine (intact_yes w10 W3.heap.size gt kt o1 To co (hide (F5.out.2.2.2.2.2.1.on H10.out F5.out.2.2.2.2.2.1.lt.2)) (hide (hO.out.on (RA.out w10 H10.out).2.2.2)) (by omega)).mono ?_; rintro e w11 ⟨rfl, D11⟩; have H11 := hide (H10.out.trans (D11.mono H10.out.size)); clear D11 y0 y1 y2 y3 y4 y5 y6 y7 y8 y9 y10 y11 y12 y13 y14 y15 ya0 ya1 ya2 ya3 ya4 yb0 yb1 yb2 yb3 yb4))
  have TN : Hid (∀ W, Below w5.heap.size w5 W → Calls Tryz.prog 21 #[.agg #[.int .i64 n, .int .i64 m, .slice (some ⟨s1, 0, none⟩) St.length ks1, .slice (some ⟨s2, 0, none⟩) Fi.length ks2, .slice (some ⟨s3, 0, none⟩) Ed.length ks3]] W (AnsO W (normAns n m St Fi Ed))) := hide (fun W d => normal_ans W n m _ _ _ _ _ _ St Fi Ed (hide (RA.out W d).1) (by omega) (by omega) (by omega))
  have TM : Hid (∀ W, Below w5.heap.size w5 W → Calls Tryz.prog 32 #[.agg #[.int .i64 n, .int .i64 m, .slice a1 St.length c1, .slice a2 Fi.length c2, .slice a3 Ed.length c3]] W (AnsR W (normAns n m St Fi Ed))) := hide (fun W d => rnormal_ans W n m _ _ _ _ _ _ St Fi Ed (hide (hA.out.on (RA.out W d).2.2.2)) (by omega) (by omega) (by omega) hc)
  have HL : Hid ((normAns n m St Fi Ed).s.length ≤ 4194000 ∧ (normAns n m St Fi Ed).f.length ≤ 4194000 ∧ (normAns n m St Fi Ed).e.length ≤ 4194000) := hide (by
    have t1 := riseL_len St
    have t2 := riseL_len Fi
    have t3 := riseE_len Ed
    unfold normAns badA
    by_cases em : mayA n m St Fi Ed = true
    · rw [if_pos em]; exact ⟨by simp only; omega, by simp only; omega, by simp only; omega⟩
    · rw [if_neg em]; exact ⟨by simp, by simp, by simp⟩)
  generalize normAns n m St Fi Ed = r at TN TM HL
  obtain ⟨⟨y0, y1, y2, y3, y4, y5, y6, y7, y8, y9, y10, y11, y12, y13, y14, y15⟩, ⟨ya0, ya1, ya2, ya3, ya4⟩, yb0, yb1, yb2, yb3, yb4⟩ := KK.out w11 H11.out
  go_upto_region 12 with (go_at_call 21; refine (TN.out w11 H11.out).mono ?_; rintro e w12 ⟨x1, kx1, x2, kx2, x3, kx3, rfl, O12, D12⟩)
  obtain ⟨W12, hW⟩ : ∃ W12, w12.alloc (.cells #[.int .i64 r.n, .int .i64 r.m, .slice x1 r.s.length kx1, .slice x2 r.f.length kx2, .slice x3 r.e.length kx3] 25) = W12 := ⟨_, rfl⟩
  have G12 : Hid (W12.heap[w12.heap.size]? = some (.cells #[.int .i64 r.n, .int .i64 r.m, .slice x1 r.s.length kx1, .slice x2 r.f.length kx2, .slice x3 r.e.length kx3] 25 (0, 0)) ∧ OwnO w11.heap.size W12 (.slice x1 r.s.length kx1) (.slice x2 r.f.length kx2) (.slice x3 r.e.length kx3) r.s r.f r.e ∧ Below w5.heap.size w5 W12 ∧ w5.heap.size ≤ w11.heap.size ∧ w5.heap.size ≤ w12.heap.size ∧ w12.heap.size < W12.heap.size) := hide (by
    have dn : Below w12.heap.size w12 W12 := by rw [← hW]; exact alloc_below _ _
    have e1 := H11.out.trans (D12.mono H11.out.size)
    exact ⟨by rw [← hW]; exact World.alloc_heap_new _ _, O12.out.on dn, e1.trans (dn.mono e1.size), H11.out.size, e1.size, by rw [← hW]; simp⟩)
  rw [hW]
  clear hW O12 D12 y0 y1 y2 y3 y4 y5 y6 y7 y8 y9 y10 y11 y12 y13 y14 y15 ya0 ya1 ya2 ya3 ya4 yb0 yb1 yb2 yb3 yb4
  obtain ⟨p6, hp⟩ : ∃ p6, w12.heap.size = p6 := ⟨_, rfl⟩
  rw [hp] at G12 ⊢
  clear hp
  obtain ⟨⟨y0, y1, y2, y3, y4, y5, y6, y7, y8, y9, y10, y11, y12, y13, y14, y15⟩, ⟨ya0, ya1, ya2, ya3, ya4⟩, yb0, yb1, yb2, yb3, yb4⟩ := KK.out W12 G12.out.2.2.1
  go_upto_region 13 with (go_at_call 21; refine (TN.out W12 G12.out.2.2.1).mono ?_; rintro e w13 ⟨l1, kl1, l2, kl2, l3, kl3, rfl, O13, D13⟩)
  obtain ⟨W13, hW⟩ : ∃ W13, w13.alloc (.cells #[.int .i64 r.n, .int .i64 r.m, .slice l1 r.s.length kl1, .slice l2 r.f.length kl2, .slice l3 r.e.length kl3] 25) = W13 := ⟨_, rfl⟩
  have G13 : Hid (W13.heap[w13.heap.size]? = some (.cells #[.int .i64 r.n, .int .i64 r.m, .slice l1 r.s.length kl1, .slice l2 r.f.length kl2, .slice l3 r.e.length kl3] 25 (0, 0)) ∧ OwnO W12.heap.size W13 (.slice l1 r.s.length kl1) (.slice l2 r.f.length kl2) (.slice l3 r.e.length kl3) r.s r.f r.e ∧ Below W12.heap.size W12 W13 ∧ Below w5.heap.size w5 W13 ∧ W12.heap.size ≤ w13.heap.size ∧ w13.heap.size < W13.heap.size) := hide (by
    have dn : Below w13.heap.size w13 W13 := by rw [← hW]; exact alloc_below _ _
    have e1 := D13.trans (dn.mono D13.size)
    exact ⟨by rw [← hW]; exact World.alloc_heap_new _ _, O13.out.on dn, e1, G12.out.2.2.1.trans (e1.mono G12.out.2.2.1.size), D13.size, by rw [← hW]; simp⟩)
  rw [hW]
  clear hW O13 D13 y0 y1 y2 y3 y4 y5 y6 y7 y8 y9 y10 y11 y12 y13 y14 y15 ya0 ya1 ya2 ya3 ya4 yb0 yb1 yb2 yb3 yb4
  obtain ⟨p8, hp⟩ : ∃ p8, w13.heap.size = p8 := ⟨_, rfl⟩
  rw [hp] at G13 ⊢
  clear hp
  obtain ⟨⟨y0, y1, y2, y3, y4, y5, y6, y7, y8, y9, y10, y11, y12, y13, y14, y15⟩, ⟨ya0, ya1, ya2, ya3, ya4⟩, yb0, yb1, yb2, yb3, yb4⟩ := KK.out W13 G13.out.2.2.2.1
  go_upto_region 14 with (go_at_call 32; refine (TM.out W13 G13.out.2.2.2.1).mono ?_; rintro e w14 ⟨z1, kz1, z2, kz2, z3, kz3, rfl, O14, D14⟩)
  obtain ⟨W14, hW⟩ : ∃ W14, w14.alloc (.cells #[.int .i64 r.n, .int .i64 r.m, .slice z1 r.s.length kz1, .slice z2 r.f.length kz2, .slice z3 r.e.length kz3] 25) = W14 := ⟨_, rfl⟩
  have G14 : Hid (W14.heap[w14.heap.size]? = some (.cells #[.int .i64 r.n, .int .i64 r.m, .slice z1 r.s.length kz1, .slice z2 r.f.length kz2, .slice z3 r.e.length kz3] 25 (0, 0)) ∧ OwnD W13.heap.size W14 (.slice z1 r.s.length kz1) (.slice z2 r.f.length kz2) (.slice z3 r.e.length kz3) r.s r.f r.e ∧ Below W13.heap.size W13 W14 ∧ Below w5.heap.size w5 W14 ∧ W13.heap.size ≤ w14.heap.size) := hide (by
    have dn : Below w14.heap.size w14 W14 := by rw [← hW]; exact alloc_below _ _
    have e1 := D14.trans (dn.mono D14.size)
    exact ⟨by rw [← hW]; exact World.alloc_heap_new _ _, O14.out.on dn, e1, G13.out.2.2.2.1.trans (e1.mono G13.out.2.2.2.1.size), D14.size⟩)
  rw [hW]
  clear hW O14 D14 y0 y1 y2 y3 y4 y5 y6 y7 y8 y9 y10 y11 y12 y13 y14 y15 ya0 ya1 ya2 ya3 ya4 yb0 yb1 yb2 yb3 yb4
  obtain ⟨p10, hp⟩ : ∃ p10, w14.heap.size = p10 := ⟨_, rfl⟩
  rw [hp] at G14 ⊢
  clear hp
  have GA : Hid (W14.heap[p6]? = some (.cells #[.int .i64 r.n, .int .i64 r.m, .slice x1 r.s.length kx1, .slice x2 r.f.length kx2, .slice x3 r.e.length kx3] 25 (0, 0)) ∧ W14.heap[p8]? = some (.cells #[.int .i64 r.n, .int .i64 r.m, .slice l1 r.s.length kl1, .slice l2 r.f.length kl2, .slice l3 r.e.length kl3] 25 (0, 0)) ∧ OwnO w11.heap.size W14 (.slice x1 r.s.length kx1) (.slice x2 r.f.length kx2) (.slice x3 r.e.length kx3) r.s r.f r.e ∧ OwnO W12.heap.size W14 (.slice l1 r.s.length kl1) (.slice l2 r.f.length kl2) (.slice l3 r.e.length kl3) r.s r.f r.e) := hide (by
    have e1 := G13.out.2.2.1.trans (G14.out.2.2.1.mono G13.out.2.2.1.size)
    exact ⟨blk_on G12.out.1 e1, blk_on G13.out.1 G14.out.2.2.1, G12.out.2.1.on e1, G13.out.2.1.on G14.out.2.2.1⟩)
  have GB : Hid (∀ w', Only W14 w' (In3 (.slice x1 r.s.length kx1) (.slice x2 r.f.length kx2) (.slice x3 r.e.length kx3)) → w'.heap[p8]? = some (.cells #[.int .i64 r.n, .int .i64 r.m, .slice l1 r.s.length kl1, .slice l2 r.f.length kl2, .slice l3 r.e.length kl3] 25 (0, 0)) ∧ w'.heap[p10]? = some (.cells #[.int .i64 r.n, .int .i64 r.m, .slice z1 r.s.length kz1, .slice z2 r.f.length kz2, .slice z3 r.e.length kz3] 25 (0, 0)) ∧ w'.heap[p6]? = some (.cells #[.int .i64 r.n, .int .i64 r.m, .slice x1 r.s.length kx1, .slice x2 r.f.length kx2, .slice x3 r.e.length kx3] 25 (0, 0)) ∧ OwnO W12.heap.size w' (.slice l1 r.s.length kl1) (.slice l2 r.f.length kl2) (.slice l3 r.e.length kl3) r.s r.f r.e ∧ OwnD W13.heap.size w' (.slice z1 r.s.length kz1) (.slice z2 r.f.length kz2) (.slice z3 r.e.length kz3) r.s r.f r.e ∧ Below w5.heap.size w5 w') := hide (fun w' o => by
    have hx := GA.out.2.2.1.d
    have s1 := G12.out.2.2.2.1
    have s2 := G14.out.2.2.2.1.size
    have s3 := G13.out.2.2.1.size
    exact ⟨box_stays hx o GA.out.2.1, box_stays hx o G14.out.1, box_stays hx o GA.out.1, GA.out.2.2.2.only o fun b q z => in3_apart G12.out.2.1.d GA.out.2.2.2.d (Nat.le_refl _) b z q, G14.out.2.1.only o fun b q z => in3_apart G12.out.2.1.d G14.out.2.1 s3 b z q, G14.out.2.2.2.1.trans (in3_below hx o s1 s2)⟩)
  have yx0 : W14.cell? ⟨p6, 0, none⟩ = some (.int .i64 r.n) := cell_of GA.out.1 rfl
  have yx1 : W14.cell? ⟨p6, 1, none⟩ = some (.int .i64 r.m) := cell_of GA.out.1 rfl
  have yx2 : W14.cell? ⟨p6, 2, none⟩ = some (.slice x1 r.s.length kx1) := cell_of GA.out.1 rfl
  have yx3 : W14.cell? ⟨p6, 3, none⟩ = some (.slice x2 r.f.length kx2) := cell_of GA.out.1 rfl
  have yx4 : W14.cell? ⟨p6, 4, none⟩ = some (.slice x3 r.e.length kx3) := cell_of GA.out.1 rfl
  have yz0 : W14.cell? ⟨p10, 0, none⟩ = some (.int .i64 r.n) := cell_of G14.out.1 rfl
  have yz1 : W14.cell? ⟨p10, 1, none⟩ = some (.int .i64 r.m) := cell_of G14.out.1 rfl
  have yz2 : W14.cell? ⟨p10, 2, none⟩ = some (.slice z1 r.s.length kz1) := cell_of G14.out.1 rfl
  have yz3 : W14.cell? ⟨p10, 3, none⟩ = some (.slice z2 r.f.length kz2) := cell_of G14.out.1 rfl
  have yz4 : W14.cell? ⟨p10, 4, none⟩ = some (.slice z3 r.e.length kz3) := cell_of G14.out.1 rfl
  have n0 : (r.er != r.er) = false := by simp
  go_upto_region 16 with (first
    | (go_at_call_of 33 x1; refine (made_any W14 r.n r.m _ _ _ _ _ _ _ _ _ _ _ _ r.s r.f r.e (hide (GA.out.2.2.1.down (Nat.zero_le _))) (hide G14.out.2.1.rd) HL.out.1 HL.out.2.1 HL.out.2.2).mono ?_; rintro e w15 ⟨rfl, O15⟩; have H15 := hide (GB.out w15 O15); clear O15 yx0 yz0 yx1 yz1 yx2 yz2 yx3 yz3 yx4 yz4; have yl0 : w15.cell? ⟨p8, 0, none⟩ = some (.int .i64 r.n) := cell_of H15.out.1 rfl; have yl1 : w15.cell? ⟨p8, 1, none⟩ = some (.int .i64 r.m) := cell_of H15.out.1 rfl; have yl2 : w15.cell? ⟨p8, 2, none⟩ = some (.slice l1 r.s.length kl1) := cell_of H15.out.1 rfl; have yl3 : w15.cell? ⟨p8, 3, none⟩ = some (.slice l2 r.f.length kl2) := cell_of H15.out.1 rfl; have yl4 : w15.cell? ⟨p8, 4, none⟩ = some (.slice l3 r.e.length kl3) := cell_of H15.out.1 rfl; have yz0 : w15.cell? ⟨p10, 0, none⟩ = some (.int .i64 r.n) := cell_of H15.out.2.1 rfl; have yz1 : w15.cell? ⟨p10, 1, none⟩ = some (.int .i64 r.m) := cell_of H15.out.2.1 rfl; have yz2 : w15.cell? ⟨p10, 2, none⟩ = some (.slice z1 r.s.length kz1) := cell_of H15.out.2.1 rfl; have yz3 : w15.cell? ⟨p10, 3, none⟩ = some (.slice z2 r.f.length kz2) := cell_of H15.out.2.1 rfl; have yz4 : w15.cell? ⟨p10, 4, none⟩ = some (.slice z3 r.e.length kz3) := cell_of H15.out.2.1 rfl)
    | (go_at_call_of 33 l1; refine (made_any w15 r.n r.m _ _ _ _ _ _ _ _ _ _ _ _ r.s r.f r.e (hide (H15.out.2.2.2.1.down (Nat.zero_le _))) (hide H15.out.2.2.2.2.1.rd) HL.out.1 HL.out.2.1 HL.out.2.2).mono ?_; rintro e w16 ⟨rfl, O16⟩; have HO16 := hide O16; clear O16 yl0 yz0 yl1 yz1 yl2 yz2 yl3 yz3 yl4 yz4))
  have G16 : Hid (w16.heap[p6]? = some (.cells #[.int .i64 r.n, .int .i64 r.m, .slice x1 r.s.length kx1, .slice x2 r.f.length kx2, .slice x3 r.e.length kx3] 25 (0, 0)) ∧ w16.heap[p8]? = some (.cells #[.int .i64 r.n, .int .i64 r.m, .slice l1 r.s.length kl1, .slice l2 r.f.length kl2, .slice l3 r.e.length kl3] 25 (0, 0)) ∧ w16.heap[p10]? = some (.cells #[.int .i64 r.n, .int .i64 r.m, .slice z1 r.s.length kz1, .slice z2 r.f.length kz2, .slice z3 r.e.length kz3] 25 (0, 0)) ∧ Below w5.heap.size w5 w16 ∧ (w5.heap.size ≤ p6 ∧ p6 < p8 ∧ p8 < p10)) := hide (by
    have hl := H15.out.2.2.2.1.d
    have s1 := G12.out.2.2.2.1
    have s2 := G12.out.2.2.1.size
    have s3 := H15.out.2.2.2.2.2.size
    exact ⟨box_stays hl HO16.out H15.out.2.2.1, box_stays hl HO16.out H15.out.1, box_stays hl HO16.out H15.out.2.1, H15.out.2.2.2.2.2.trans (in3_below hl HO16.out s2 s3), G12.out.2.2.2.2.1, Nat.lt_of_lt_of_le G12.out.2.2.2.2.2 G13.out.2.2.2.2.1, Nat.lt_of_lt_of_le G13.out.2.2.2.2.2 G14.out.2.2.2.2⟩)
  clear H15 HO16 GA GB G12 G13 G14
  have HPP := hide G16.out.2.2.2.2
  have TN2 : Hid (∀ W, Below w5.heap.size w5 W → Calls Tryz.prog 23 #[.agg #[.int .i64 n, .int .i64 m, .slice (some ⟨s1, 0, none⟩) St.length ks1, .slice (some ⟨s2, 0, none⟩) Fi.length ks2, .slice (some ⟨s3, 0, none⟩) Ed.length ks3]] W (AnsO W (revAns n m St Fi Ed))) := hide (fun W d => reverse_ans W n m _ _ _ _ _ _ St Fi Ed (hide (RA.out W d).1) (by omega) (by omega) (by omega))
  have TM2 : Hid (∀ W, Below w5.heap.size w5 W → Calls Tryz.prog 34 #[.agg #[.int .i64 n, .int .i64 m, .slice a1 St.length c1, .slice a2 Fi.length c2, .slice a3 Ed.length c3]] W (AnsR W (revAns n m St Fi Ed))) := hide (fun W d => rreverse_ans W n m _ _ _ _ _ _ St Fi Ed (hide (hA.out.on (RA.out W d).2.2.2)) (by omega) (by omega) (by omega) hc)
  have HL2 : Hid (LenA (revAns n m St Fi Ed)) := hide (rev_len n m St Fi Ed h1 h2 h3)
  generalize revAns n m St Fi Ed = r2 at TN2 TM2 HL2
  obtain ⟨⟨y0, y1, y2, y3, y4, y5, y6, y7, y8, y9, y10, y11, y12, y13, y14, y15⟩, ⟨ya0, ya1, ya2, ya3, ya4⟩, yb0, yb1, yb2, yb3, yb4⟩ := KK.out w16 G16.out.2.2.2.1
  go_upto_region 17 with (go_at_call 23; refine (TN2.out w16 G16.out.2.2.2.1).mono ?_; rintro e w17 ⟨xb1, kxb1, xb2, kxb2, xb3, kxb3, rfl, OA, DA⟩; have ZA := blk_on G16.out.1 DA; have yc0 : w17.cell? ⟨p6, 0, none⟩ = some (.int .i64 r.n) := cell_of ZA rfl; have yf0 : w17.frozen? ⟨p6, 0, none⟩ = false := fz_of ZA; have yc1 : w17.cell? ⟨p6, 1, none⟩ = some (.int .i64 r.m) := cell_of ZA rfl; have yf1 : w17.frozen? ⟨p6, 1, none⟩ = false := fz_of ZA; have yc2 : w17.cell? ⟨p6, 2, none⟩ = some (.slice x1 r.s.length kx1) := cell_of ZA rfl; have yf2 : w17.frozen? ⟨p6, 2, none⟩ = false := fz_of ZA; have yc3 : w17.cell? ⟨p6, 3, none⟩ = some (.slice x2 r.f.length kx2) := cell_of ZA rfl; have yf3 : w17.frozen? ⟨p6, 3, none⟩ = false := fz_of ZA; have yc4 : w17.cell? ⟨p6, 4, none⟩ = some (.slice x3 r.e.length kx3) := cell_of ZA rfl; have yf4 : w17.frozen? ⟨p6, 4, none⟩ = false := fz_of ZA)
  obtain ⟨X17, hX⟩ : ∃ X, ((((((((((w17).setCell ⟨p6, 0, none⟩ (.int .i64 r2.n))).setCell ⟨p6, 1, none⟩ (.int .i64 r2.m))).setCell ⟨p6, 2, none⟩ (.slice xb1 r2.s.length kxb1))).setCell ⟨p6, 3, none⟩ (.slice xb2 r2.f.length kxb2))).setCell ⟨p6, 4, none⟩ (.slice xb3 r2.e.length kxb3)) = X := ⟨_, rfl⟩
  have GX17 : Hid (X17.heap[p6]? = some (.cells #[.int .i64 r2.n, .int .i64 r2.m, .slice xb1 r2.s.length kxb1, .slice xb2 r2.f.length kxb2, .slice xb3 r2.e.length kxb3] 25 (0, 0)) ∧ OwnO w16.heap.size X17 (.slice xb1 r2.s.length kxb1) (.slice xb2 r2.f.length kxb2) (.slice xb3 r2.e.length kxb3) r2.s r2.f r2.e ∧ Below w5.heap.size w5 X17 ∧ w16.heap.size ≤ X17.heap.size ∧ X17.heap[p8]? = some (.cells #[.int .i64 r.n, .int .i64 r.m, .slice l1 r.s.length kl1, .slice l2 r.f.length kl2, .slice l3 r.e.length kl3] 25 (0, 0)) ∧ X17.heap[p10]? = some (.cells #[.int .i64 r.n, .int .i64 r.m, .slice z1 r.s.length kz1, .slice z2 r.f.length kz2, .slice z3 r.e.length kz3] 25 (0, 0))) := hide (by
    have o5 := only5 w17 p6 (.int .i64 r2.n) (.int .i64 r2.m) (.slice xb1 r2.s.length kxb1) (.slice xb2 r2.f.length kxb2) (.slice xb3 r2.e.length kxb3)
    have z5 := set5 w17 p6 _ _ _ _ _ (.int .i64 r2.n) (.int .i64 r2.m) (.slice xb1 r2.s.length kxb1) (.slice xb2 r2.f.length kxb2) (.slice xb3 r2.e.length kxb3) 25 ZA
    rw [hX] at o5 z5
    have e1 := (G16.out.2.2.2.1).trans (DA.mono (G16.out.2.2.2.1).size)
    have e2 := e1.size
    have e3 := o5.size
    have e4 := DA.size
    have e5 := HPP.out
    exact ⟨z5, OA.out.keep ZA o5, e1.trans (o5.toBelow e2 (fun k hk => by omega)), by omega, (o5.block p8 (Array.getElem?_eq_some_iff.1 (blk_on G16.out.2.1 DA)).1 (by omega)).trans (blk_on G16.out.2.1 DA), (o5.block p10 (Array.getElem?_eq_some_iff.1 (blk_on G16.out.2.2.1 DA)).1 (by omega)).trans (blk_on G16.out.2.2.1 DA)⟩)
  rw [hX]
  clear hX OA DA ZA yc0 yf0 yc1 yf1 yc2 yf2 yc3 yf3 yc4 yf4 y0 y1 y2 y3 y4 y5 y6 y7 y8 y9 y10 y11 y12 y13 y14 y15 ya0 ya1 ya2 ya3 ya4 yb0 yb1 yb2 yb3 yb4
  obtain ⟨⟨y0, y1, y2, y3, y4, y5, y6, y7, y8, y9, y10, y11, y12, y13, y14, y15⟩, ⟨ya0, ya1, ya2, ya3, ya4⟩, yb0, yb1, yb2, yb3, yb4⟩ := KK.out X17 GX17.out.2.2.1
  go_upto_region 18 with (go_at_call 23; refine (TN2.out X17 GX17.out.2.2.1).mono ?_; rintro e w18 ⟨lb1, klb1, lb2, klb2, lb3, klb3, rfl, OA, DA⟩; have ZA := blk_on GX17.out.2.2.2.2.1 DA; have yc0 : w18.cell? ⟨p8, 0, none⟩ = some (.int .i64 r.n) := cell_of ZA rfl; have yf0 : w18.frozen? ⟨p8, 0, none⟩ = false := fz_of ZA; have yc1 : w18.cell? ⟨p8, 1, none⟩ = some (.int .i64 r.m) := cell_of ZA rfl; have yf1 : w18.frozen? ⟨p8, 1, none⟩ = false := fz_of ZA; have yc2 : w18.cell? ⟨p8, 2, none⟩ = some (.slice l1 r.s.length kl1) := cell_of ZA rfl; have yf2 : w18.frozen? ⟨p8, 2, none⟩ = false := fz_of ZA; have yc3 : w18.cell? ⟨p8, 3, none⟩ = some (.slice l2 r.f.length kl2) := cell_of ZA rfl; have yf3 : w18.frozen? ⟨p8, 3, none⟩ = false := fz_of ZA; have yc4 : w18.cell? ⟨p8, 4, none⟩ = some (.slice l3 r.e.length kl3) := cell_of ZA rfl; have yf4 : w18.frozen? ⟨p8, 4, none⟩ = false := fz_of ZA)
  obtain ⟨X18, hX⟩ : ∃ X, ((((((((((w18).setCell ⟨p8, 0, none⟩ (.int .i64 r2.n))).setCell ⟨p8, 1, none⟩ (.int .i64 r2.m))).setCell ⟨p8, 2, none⟩ (.slice lb1 r2.s.length klb1))).setCell ⟨p8, 3, none⟩ (.slice lb2 r2.f.length klb2))).setCell ⟨p8, 4, none⟩ (.slice lb3 r2.e.length klb3)) = X := ⟨_, rfl⟩
  have GX18 : Hid (X18.heap[p8]? = some (.cells #[.int .i64 r2.n, .int .i64 r2.m, .slice lb1 r2.s.length klb1, .slice lb2 r2.f.length klb2, .slice lb3 r2.e.length klb3] 25 (0, 0)) ∧ OwnO X17.heap.size X18 (.slice lb1 r2.s.length klb1) (.slice lb2 r2.f.length klb2) (.slice lb3 r2.e.length klb3) r2.s r2.f r2.e ∧ Below w5.heap.size w5 X18 ∧ X17.heap.size ≤ X18.heap.size ∧ X18.heap[p6]? = some (.cells #[.int .i64 r2.n, .int .i64 r2.m, .slice xb1 r2.s.length kxb1, .slice xb2 r2.f.length kxb2, .slice xb3 r2.e.length kxb3] 25 (0, 0)) ∧ X18.heap[p10]? = some (.cells #[.int .i64 r.n, .int .i64 r.m, .slice z1 r.s.length kz1, .slice z2 r.f.length kz2, .slice z3 r.e.length kz3] 25 (0, 0)) ∧ OwnO w16.heap.size X18 (.slice xb1 r2.s.length kxb1) (.slice xb2 r2.f.length kxb2) (.slice xb3 r2.e.length kxb3) r2.s r2.f r2.e) := hide (by
    have o5 := only5 w18 p8 (.int .i64 r2.n) (.int .i64 r2.m) (.slice lb1 r2.s.length klb1) (.slice lb2 r2.f.length klb2) (.slice lb3 r2.e.length klb3)
    have z5 := set5 w18 p8 _ _ _ _ _ (.int .i64 r2.n) (.int .i64 r2.m) (.slice lb1 r2.s.length klb1) (.slice lb2 r2.f.length klb2) (.slice lb3 r2.e.length klb3) 25 ZA
    rw [hX] at o5 z5
    have e1 := (GX17.out.2.2.1).trans (DA.mono (GX17.out.2.2.1).size)
    have e2 := e1.size
    have e3 := o5.size
    have e4 := DA.size
    have e5 := HPP.out
    exact ⟨z5, OA.out.keep ZA o5, e1.trans (o5.toBelow e2 (fun k hk => by omega)), by omega, (o5.block p6 (Array.getElem?_eq_some_iff.1 (blk_on GX17.out.1 DA)).1 (by omega)).trans (blk_on GX17.out.1 DA), (o5.block p10 (Array.getElem?_eq_some_iff.1 (blk_on GX17.out.2.2.2.2.2 DA)).1 (by omega)).trans (blk_on GX17.out.2.2.2.2.2 DA), ((GX17.out.2.1).on DA).keep ZA o5⟩)
  rw [hX]
  clear hX OA DA ZA yc0 yf0 yc1 yf1 yc2 yf2 yc3 yf3 yc4 yf4 y0 y1 y2 y3 y4 y5 y6 y7 y8 y9 y10 y11 y12 y13 y14 y15 ya0 ya1 ya2 ya3 ya4 yb0 yb1 yb2 yb3 yb4
  obtain ⟨⟨y0, y1, y2, y3, y4, y5, y6, y7, y8, y9, y10, y11, y12, y13, y14, y15⟩, ⟨ya0, ya1, ya2, ya3, ya4⟩, yb0, yb1, yb2, yb3, yb4⟩ := KK.out X18 GX18.out.2.2.1
  go_upto_region 19 with (go_at_call 34; refine (TM2.out X18 GX18.out.2.2.1).mono ?_; rintro e w19 ⟨zb1, kzb1, zb2, kzb2, zb3, kzb3, rfl, OA, DA⟩; have ZA := blk_on GX18.out.2.2.2.2.2.1 DA; have yc0 : w19.cell? ⟨p10, 0, none⟩ = some (.int .i64 r.n) := cell_of ZA rfl; have yf0 : w19.frozen? ⟨p10, 0, none⟩ = false := fz_of ZA; have yc1 : w19.cell? ⟨p10, 1, none⟩ = some (.int .i64 r.m) := cell_of ZA rfl; have yf1 : w19.frozen? ⟨p10, 1, none⟩ = false := fz_of ZA; have yc2 : w19.cell? ⟨p10, 2, none⟩ = some (.slice z1 r.s.length kz1) := cell_of ZA rfl; have yf2 : w19.frozen? ⟨p10, 2, none⟩ = false := fz_of ZA; have yc3 : w19.cell? ⟨p10, 3, none⟩ = some (.slice z2 r.f.length kz2) := cell_of ZA rfl; have yf3 : w19.frozen? ⟨p10, 3, none⟩ = false := fz_of ZA; have yc4 : w19.cell? ⟨p10, 4, none⟩ = some (.slice z3 r.e.length kz3) := cell_of ZA rfl; have yf4 : w19.frozen? ⟨p10, 4, none⟩ = false := fz_of ZA)
  obtain ⟨X19, hX⟩ : ∃ X, ((((((((((w19).setCell ⟨p10, 0, none⟩ (.int .i64 r2.n))).setCell ⟨p10, 1, none⟩ (.int .i64 r2.m))).setCell ⟨p10, 2, none⟩ (.slice zb1 r2.s.length kzb1))).setCell ⟨p10, 3, none⟩ (.slice zb2 r2.f.length kzb2))).setCell ⟨p10, 4, none⟩ (.slice zb3 r2.e.length kzb3)) = X := ⟨_, rfl⟩
  have GX19 : Hid (X19.heap[p10]? = some (.cells #[.int .i64 r2.n, .int .i64 r2.m, .slice zb1 r2.s.length kzb1, .slice zb2 r2.f.length kzb2, .slice zb3 r2.e.length kzb3] 25 (0, 0)) ∧ OwnD X18.heap.size X19 (.slice zb1 r2.s.length kzb1) (.slice zb2 r2.f.length kzb2) (.slice zb3 r2.e.length kzb3) r2.s r2.f r2.e ∧ Below w5.heap.size w5 X19 ∧ X18.heap.size ≤ X19.heap.size ∧ X19.heap[p6]? = some (.cells #[.int .i64 r2.n, .int .i64 r2.m, .slice xb1 r2.s.length kxb1, .slice xb2 r2.f.length kxb2, .slice xb3 r2.e.length kxb3] 25 (0, 0)) ∧ X19.heap[p8]? = some (.cells #[.int .i64 r2.n, .int .i64 r2.m, .slice lb1 r2.s.length klb1, .slice lb2 r2.f.length klb2, .slice lb3 r2.e.length klb3] 25 (0, 0)) ∧ OwnO w16.heap.size X19 (.slice xb1 r2.s.length kxb1) (.slice xb2 r2.f.length kxb2) (.slice xb3 r2.e.length kxb3) r2.s r2.f r2.e ∧ OwnO X17.heap.size X19 (.slice lb1 r2.s.length klb1) (.slice lb2 r2.f.length klb2) (.slice lb3 r2.e.length klb3) r2.s r2.f r2.e) := hide (by
    have o5 := only5 w19 p10 (.int .i64 r2.n) (.int .i64 r2.m) (.slice zb1 r2.s.length kzb1) (.slice zb2 r2.f.length kzb2) (.slice zb3 r2.e.length kzb3)
    have z5 := set5 w19 p10 _ _ _ _ _ (.int .i64 r2.n) (.int .i64 r2.m) (.slice zb1 r2.s.length kzb1) (.slice zb2 r2.f.length kzb2) (.slice zb3 r2.e.length kzb3) 25 ZA
    rw [hX] at o5 z5
    have e1 := (GX18.out.2.2.1).trans (DA.mono (GX18.out.2.2.1).size)
    have e2 := e1.size
    have e3 := o5.size
    have e4 := DA.size
    have e5 := HPP.out
    exact ⟨z5, OA.out.keep ZA o5, e1.trans (o5.toBelow e2 (fun k hk => by omega)), by omega, (o5.block p6 (Array.getElem?_eq_some_iff.1 (blk_on GX18.out.2.2.2.2.1 DA)).1 (by omega)).trans (blk_on GX18.out.2.2.2.2.1 DA), (o5.block p8 (Array.getElem?_eq_some_iff.1 (blk_on GX18.out.1 DA)).1 (by omega)).trans (blk_on GX18.out.1 DA), ((GX18.out.2.2.2.2.2.2).on DA).keep ZA o5, ((GX18.out.2.1).on DA).keep ZA o5⟩)
  rw [hX]
  clear hX OA DA ZA yc0 yf0 yc1 yf1 yc2 yf2 yc3 yf3 yc4 yf4 y0 y1 y2 y3 y4 y5 y6 y7 y8 y9 y10 y11 y12 y13 y14 y15 ya0 ya1 ya2 ya3 ya4 yb0 yb1 yb2 yb3 yb4
  have GB : Hid (∀ w', Only X19 w' (In3 (.slice xb1 r2.s.length kxb1) (.slice xb2 r2.f.length kxb2) (.slice xb3 r2.e.length kxb3)) → w'.heap[p8]? = some (.cells #[.int .i64 r2.n, .int .i64 r2.m, .slice lb1 r2.s.length klb1, .slice lb2 r2.f.length klb2, .slice lb3 r2.e.length klb3] 25 (0, 0)) ∧ w'.heap[p10]? = some (.cells #[.int .i64 r2.n, .int .i64 r2.m, .slice zb1 r2.s.length kzb1, .slice zb2 r2.f.length kzb2, .slice zb3 r2.e.length kzb3] 25 (0, 0)) ∧ w'.heap[p6]? = some (.cells #[.int .i64 r2.n, .int .i64 r2.m, .slice xb1 r2.s.length kxb1, .slice xb2 r2.f.length kxb2, .slice xb3 r2.e.length kxb3] 25 (0, 0)) ∧ OwnO X17.heap.size w' (.slice lb1 r2.s.length klb1) (.slice lb2 r2.f.length klb2) (.slice lb3 r2.e.length klb3) r2.s r2.f r2.e ∧ OwnD X18.heap.size w' (.slice zb1 r2.s.length kzb1) (.slice zb2 r2.f.length kzb2) (.slice zb3 r2.e.length kzb3) r2.s r2.f r2.e ∧ Below w5.heap.size w5 w') := hide (fun w' o => by
    have hx := (GX19.out.2.2.2.2.2.2.1).d
    have s1 := (G16.out.2.2.2.1).size
    have s2 := (GX19.out.2.2.1).size
    have s3 := GX18.out.2.2.2.1
    exact ⟨box_stays hx o GX19.out.2.2.2.2.2.1, box_stays hx o GX19.out.1, box_stays hx o GX19.out.2.2.2.2.1, (GX19.out.2.2.2.2.2.2.2).only o fun b q z => in3_apart (GX17.out.2.1).d (GX19.out.2.2.2.2.2.2.2).d (Nat.le_refl _) b z q, (GX19.out.2.1).only o fun b q z => in3_apart (GX17.out.2.1).d (GX19.out.2.1) s3 b z q, (GX19.out.2.2.1).trans (in3_below hx o s1 s2)⟩)
  have yx0 : X19.cell? ⟨p6, 0, none⟩ = some (.int .i64 r2.n) := cell_of GX19.out.2.2.2.2.1 rfl
  have yx1 : X19.cell? ⟨p6, 1, none⟩ = some (.int .i64 r2.m) := cell_of GX19.out.2.2.2.2.1 rfl
  have yx2 : X19.cell? ⟨p6, 2, none⟩ = some (.slice xb1 r2.s.length kxb1) := cell_of GX19.out.2.2.2.2.1 rfl
  have yx3 : X19.cell? ⟨p6, 3, none⟩ = some (.slice xb2 r2.f.length kxb2) := cell_of GX19.out.2.2.2.2.1 rfl
  have yx4 : X19.cell? ⟨p6, 4, none⟩ = some (.slice xb3 r2.e.length kxb3) := cell_of GX19.out.2.2.2.2.1 rfl
  have yz0 : X19.cell? ⟨p10, 0, none⟩ = some (.int .i64 r2.n) := cell_of GX19.out.1 rfl
  have yz1 : X19.cell? ⟨p10, 1, none⟩ = some (.int .i64 r2.m) := cell_of GX19.out.1 rfl
  have yz2 : X19.cell? ⟨p10, 2, none⟩ = some (.slice zb1 r2.s.length kzb1) := cell_of GX19.out.1 rfl
  have yz3 : X19.cell? ⟨p10, 3, none⟩ = some (.slice zb2 r2.f.length kzb2) := cell_of GX19.out.1 rfl
  have yz4 : X19.cell? ⟨p10, 4, none⟩ = some (.slice zb3 r2.e.length kzb3) := cell_of GX19.out.1 rfl
  have n0 : (r2.er != r2.er) = false := by simp
  go_upto_region 21 with (first
    | (go_at_call_of 33 xb1; refine (made_any X19 r2.n r2.m _ _ _ _ _ _ _ _ _ _ _ _ r2.s r2.f r2.e (hide ((GX19.out.2.2.2.2.2.2.1).down (Nat.zero_le _))) (hide (GX19.out.2.1).rd) HL2.out.1 HL2.out.2.1 HL2.out.2.2).mono ?_; rintro e m21a ⟨rfl, O15⟩; have H15 := hide (GB.out m21a O15); clear O15 yx0 yz0 yx1 yz1 yx2 yz2 yx3 yz3 yx4 yz4; have yl0 : m21a.cell? ⟨p8, 0, none⟩ = some (.int .i64 r2.n) := cell_of H15.out.1 rfl; have yl1 : m21a.cell? ⟨p8, 1, none⟩ = some (.int .i64 r2.m) := cell_of H15.out.1 rfl; have yl2 : m21a.cell? ⟨p8, 2, none⟩ = some (.slice lb1 r2.s.length klb1) := cell_of H15.out.1 rfl; have yl3 : m21a.cell? ⟨p8, 3, none⟩ = some (.slice lb2 r2.f.length klb2) := cell_of H15.out.1 rfl; have yl4 : m21a.cell? ⟨p8, 4, none⟩ = some (.slice lb3 r2.e.length klb3) := cell_of H15.out.1 rfl; have yz0 : m21a.cell? ⟨p10, 0, none⟩ = some (.int .i64 r2.n) := cell_of H15.out.2.1 rfl; have yz1 : m21a.cell? ⟨p10, 1, none⟩ = some (.int .i64 r2.m) := cell_of H15.out.2.1 rfl; have yz2 : m21a.cell? ⟨p10, 2, none⟩ = some (.slice zb1 r2.s.length kzb1) := cell_of H15.out.2.1 rfl; have yz3 : m21a.cell? ⟨p10, 3, none⟩ = some (.slice zb2 r2.f.length kzb2) := cell_of H15.out.2.1 rfl; have yz4 : m21a.cell? ⟨p10, 4, none⟩ = some (.slice zb3 r2.e.length kzb3) := cell_of H15.out.2.1 rfl)
    | (go_at_call_of 33 lb1; refine (made_any m21a r2.n r2.m _ _ _ _ _ _ _ _ _ _ _ _ r2.s r2.f r2.e (hide (H15.out.2.2.2.1.down (Nat.zero_le _))) (hide H15.out.2.2.2.2.1.rd) HL2.out.1 HL2.out.2.1 HL2.out.2.2).mono ?_; rintro e m21b ⟨rfl, O16⟩; have G21 := hide (show m21b.heap[p6]? = some (.cells #[.int .i64 r2.n, .int .i64 r2.m, .slice xb1 r2.s.length kxb1, .slice xb2 r2.f.length kxb2, .slice xb3 r2.e.length kxb3] 25 (0, 0)) ∧ m21b.heap[p8]? = some (.cells #[.int .i64 r2.n, .int .i64 r2.m, .slice lb1 r2.s.length klb1, .slice lb2 r2.f.length klb2, .slice lb3 r2.e.length klb3] 25 (0, 0)) ∧ m21b.heap[p10]? = some (.cells #[.int .i64 r2.n, .int .i64 r2.m, .slice zb1 r2.s.length kzb1, .slice zb2 r2.f.length kzb2, .slice zb3 r2.e.length kzb3] 25 (0, 0)) ∧ Below w5.heap.size w5 m21b from ⟨box_stays H15.out.2.2.2.1.d O16 H15.out.2.2.1, box_stays H15.out.2.2.2.1.d O16 H15.out.1, box_stays H15.out.2.2.2.1.d O16 H15.out.2.1, H15.out.2.2.2.2.2.trans (in3_below H15.out.2.2.2.1.d O16 (GX17.out.2.2.1).size H15.out.2.2.2.2.2.size)⟩); clear O16 yl0 yz0 yl1 yz1 yl2 yz2 yl3 yz3 yl4 yz4))
  clear n0 H15 GB GX17 GX18 GX19 G16 TN2 TM2 HL2
  have TN3 : Hid (∀ W, Below w5.heap.size w5 W → Calls Tryz.prog 28 #[.agg #[.int .i64 n, .int .i64 m, .slice (some ⟨s1, 0, none⟩) St.length ks1, .slice (some ⟨s2, 0, none⟩) Fi.length ks2, .slice (some ⟨s3, 0, none⟩) Ed.length ks3], .agg #[.int .i64 nb, .int .i64 mb, .slice (some ⟨v1, 0, none⟩) Sb.length kv1, .slice (some ⟨v2, 0, none⟩) Fb.length kv2, .slice (some ⟨v3, 0, none⟩) Eb.length kv3]] W (AnsO W (uniAns n m nb mb St Fi Ed Sb Fb Eb))) := hide (fun W d => union_ans W n m nb mb _ _ _ _ _ _ _ _ _ _ _ _ St Fi Ed Sb Fb Eb (hide (RA.out W d).1) (hide (RA.out W d).2.1) (by omega) (by omega) (by omega) (by omega) (by omega) (by omega))
  have TM3 : Hid (∀ W, Below w5.heap.size w5 W → Calls Tryz.prog 35 #[.agg #[.int .i64 n, .int .i64 m, .slice a1 St.length c1, .slice a2 Fi.length c2, .slice a3 Ed.length c3], .agg #[.int .i64 nb, .int .i64 mb, .slice b1 Sb.length d1, .slice b2 Fb.length d2, .slice b3 Eb.length d3]] W (AnsR W (uniAns n m nb mb St Fi Ed Sb Fb Eb))) := hide (fun W d => runion_ans W n m nb mb _ _ _ _ _ _ _ _ _ _ _ _ St Fi Ed Sb Fb Eb (hide (hA.out.on (RA.out W d).2.2.2)) (hide (hB.out.on (RA.out W d).2.2.2)) (by omega) (by omega) (by omega) (by omega) (by omega) (by omega) hc hc')
  have HL3 : Hid (LenA (uniAns n m nb mb St Fi Ed Sb Fb Eb)) := hide (uni_len n m nb mb St Fi Ed Sb Fb Eb h1 h2 h3 h4 h5 h6)
  generalize uniAns n m nb mb St Fi Ed Sb Fb Eb = r3 at TN3 TM3 HL3
  obtain ⟨⟨y0, y1, y2, y3, y4, y5, y6, y7, y8, y9, y10, y11, y12, y13, y14, y15⟩, ⟨ya0, ya1, ya2, ya3, ya4⟩, yb0, yb1, yb2, yb3, yb4⟩ := KK.out m21b G21.out.2.2.2
  go_upto_region 22 with (go_at_call 28; refine (TN3.out m21b G21.out.2.2.2).mono ?_; rintro e w22 ⟨xc1, kxc1, xc2, kxc2, xc3, kxc3, rfl, OA, DA⟩; have ZA := blk_on G21.out.1 DA; have yc0 : w22.cell? ⟨p6, 0, none⟩ = some (.int .i64 r2.n) := cell_of ZA rfl; have yf0 : w22.frozen? ⟨p6, 0, none⟩ = false := fz_of ZA; have yc1 : w22.cell? ⟨p6, 1, none⟩ = some (.int .i64 r2.m) := cell_of ZA rfl; have yf1 : w22.frozen? ⟨p6, 1, none⟩ = false := fz_of ZA; have yc2 : w22.cell? ⟨p6, 2, none⟩ = some (.slice xb1 r2.s.length kxb1) := cell_of ZA rfl; have yf2 : w22.frozen? ⟨p6, 2, none⟩ = false := fz_of ZA; have yc3 : w22.cell? ⟨p6, 3, none⟩ = some (.slice xb2 r2.f.length kxb2) := cell_of ZA rfl; have yf3 : w22.frozen? ⟨p6, 3, none⟩ = false := fz_of ZA; have yc4 : w22.cell? ⟨p6, 4, none⟩ = some (.slice xb3 r2.e.length kxb3) := cell_of ZA rfl; have yf4 : w22.frozen? ⟨p6, 4, none⟩ = false := fz_of ZA)
  obtain ⟨X22, hX⟩ : ∃ X, ((((((((((w22).setCell ⟨p6, 0, none⟩ (.int .i64 r3.n))).setCell ⟨p6, 1, none⟩ (.int .i64 r3.m))).setCell ⟨p6, 2, none⟩ (.slice xc1 r3.s.length kxc1))).setCell ⟨p6, 3, none⟩ (.slice xc2 r3.f.length kxc2))).setCell ⟨p6, 4, none⟩ (.slice xc3 r3.e.length kxc3)) = X := ⟨_, rfl⟩
  have GX22 : Hid (X22.heap[p6]? = some (.cells #[.int .i64 r3.n, .int .i64 r3.m, .slice xc1 r3.s.length kxc1, .slice xc2 r3.f.length kxc2, .slice xc3 r3.e.length kxc3] 25 (0, 0)) ∧ OwnO m21b.heap.size X22 (.slice xc1 r3.s.length kxc1) (.slice xc2 r3.f.length kxc2) (.slice xc3 r3.e.length kxc3) r3.s r3.f r3.e ∧ Below w5.heap.size w5 X22 ∧ m21b.heap.size ≤ X22.heap.size ∧ X22.heap[p8]? = some (.cells #[.int .i64 r2.n, .int .i64 r2.m, .slice lb1 r2.s.length klb1, .slice lb2 r2.f.length klb2, .slice lb3 r2.e.length klb3] 25 (0, 0)) ∧ X22.heap[p10]? = some (.cells #[.int .i64 r2.n, .int .i64 r2.m, .slice zb1 r2.s.length kzb1, .slice zb2 r2.f.length kzb2, .slice zb3 r2.e.length kzb3] 25 (0, 0))) := hide (by
    have o5 := only5 w22 p6 (.int .i64 r3.n) (.int .i64 r3.m) (.slice xc1 r3.s.length kxc1) (.slice xc2 r3.f.length kxc2) (.slice xc3 r3.e.length kxc3)
    have z5 := set5 w22 p6 _ _ _ _ _ (.int .i64 r3.n) (.int .i64 r3.m) (.slice xc1 r3.s.length kxc1) (.slice xc2 r3.f.length kxc2) (.slice xc3 r3.e.length kxc3) 25 ZA
    rw [hX] at o5 z5
    have e1 := (G21.out.2.2.2).trans (DA.mono (G21.out.2.2.2).size)
    have e2 := e1.size
    have e3 := o5.size
    have e4 := DA.size
    have e5 := HPP.out
    exact ⟨z5, OA.out.keep ZA o5, e1.trans (o5.toBelow e2 (fun k hk => by omega)), by omega, (o5.block p8 (Array.getElem?_eq_some_iff.1 (blk_on G21.out.2.1 DA)).1 (by omega)).trans (blk_on G21.out.2.1 DA), (o5.block p10 (Array.getElem?_eq_some_iff.1 (blk_on G21.out.2.2.1 DA)).1 (by omega)).trans (blk_on G21.out.2.2.1 DA)⟩)
  rw [hX]
  clear hX OA DA ZA yc0 yf0 yc1 yf1 yc2 yf2 yc3 yf3 yc4 yf4 y0 y1 y2 y3 y4 y5 y6 y7 y8 y9 y10 y11 y12 y13 y14 y15 ya0 ya1 ya2 ya3 ya4 yb0 yb1 yb2 yb3 yb4
  obtain ⟨⟨y0, y1, y2, y3, y4, y5, y6, y7, y8, y9, y10, y11, y12, y13, y14, y15⟩, ⟨ya0, ya1, ya2, ya3, ya4⟩, yb0, yb1, yb2, yb3, yb4⟩ := KK.out X22 GX22.out.2.2.1
  go_upto_region 23 with (go_at_call 28; refine (TN3.out X22 GX22.out.2.2.1).mono ?_; rintro e w23 ⟨lc1, klc1, lc2, klc2, lc3, klc3, rfl, OA, DA⟩; have ZA := blk_on GX22.out.2.2.2.2.1 DA; have yc0 : w23.cell? ⟨p8, 0, none⟩ = some (.int .i64 r2.n) := cell_of ZA rfl; have yf0 : w23.frozen? ⟨p8, 0, none⟩ = false := fz_of ZA; have yc1 : w23.cell? ⟨p8, 1, none⟩ = some (.int .i64 r2.m) := cell_of ZA rfl; have yf1 : w23.frozen? ⟨p8, 1, none⟩ = false := fz_of ZA; have yc2 : w23.cell? ⟨p8, 2, none⟩ = some (.slice lb1 r2.s.length klb1) := cell_of ZA rfl; have yf2 : w23.frozen? ⟨p8, 2, none⟩ = false := fz_of ZA; have yc3 : w23.cell? ⟨p8, 3, none⟩ = some (.slice lb2 r2.f.length klb2) := cell_of ZA rfl; have yf3 : w23.frozen? ⟨p8, 3, none⟩ = false := fz_of ZA; have yc4 : w23.cell? ⟨p8, 4, none⟩ = some (.slice lb3 r2.e.length klb3) := cell_of ZA rfl; have yf4 : w23.frozen? ⟨p8, 4, none⟩ = false := fz_of ZA)
  obtain ⟨X23, hX⟩ : ∃ X, ((((((((((w23).setCell ⟨p8, 0, none⟩ (.int .i64 r3.n))).setCell ⟨p8, 1, none⟩ (.int .i64 r3.m))).setCell ⟨p8, 2, none⟩ (.slice lc1 r3.s.length klc1))).setCell ⟨p8, 3, none⟩ (.slice lc2 r3.f.length klc2))).setCell ⟨p8, 4, none⟩ (.slice lc3 r3.e.length klc3)) = X := ⟨_, rfl⟩
  have GX23 : Hid (X23.heap[p8]? = some (.cells #[.int .i64 r3.n, .int .i64 r3.m, .slice lc1 r3.s.length klc1, .slice lc2 r3.f.length klc2, .slice lc3 r3.e.length klc3] 25 (0, 0)) ∧ OwnO X22.heap.size X23 (.slice lc1 r3.s.length klc1) (.slice lc2 r3.f.length klc2) (.slice lc3 r3.e.length klc3) r3.s r3.f r3.e ∧ Below w5.heap.size w5 X23 ∧ X22.heap.size ≤ X23.heap.size ∧ X23.heap[p6]? = some (.cells #[.int .i64 r3.n, .int .i64 r3.m, .slice xc1 r3.s.length kxc1, .slice xc2 r3.f.length kxc2, .slice xc3 r3.e.length kxc3] 25 (0, 0)) ∧ X23.heap[p10]? = some (.cells #[.int .i64 r2.n, .int .i64 r2.m, .slice zb1 r2.s.length kzb1, .slice zb2 r2.f.length kzb2, .slice zb3 r2.e.length kzb3] 25 (0, 0)) ∧ OwnO m21b.heap.size X23 (.slice xc1 r3.s.length kxc1) (.slice xc2 r3.f.length kxc2) (.slice xc3 r3.e.length kxc3) r3.s r3.f r3.e) := hide (by
    have o5 := only5 w23 p8 (.int .i64 r3.n) (.int .i64 r3.m) (.slice lc1 r3.s.length klc1) (.slice lc2 r3.f.length klc2) (.slice lc3 r3.e.length klc3)
    have z5 := set5 w23 p8 _ _ _ _ _ (.int .i64 r3.n) (.int .i64 r3.m) (.slice lc1 r3.s.length klc1) (.slice lc2 r3.f.length klc2) (.slice lc3 r3.e.length klc3) 25 ZA
    rw [hX] at o5 z5
    have e1 := (GX22.out.2.2.1).trans (DA.mono (GX22.out.2.2.1).size)
    have e2 := e1.size
    have e3 := o5.size
    have e4 := DA.size
    have e5 := HPP.out
    exact ⟨z5, OA.out.keep ZA o5, e1.trans (o5.toBelow e2 (fun k hk => by omega)), by omega, (o5.block p6 (Array.getElem?_eq_some_iff.1 (blk_on GX22.out.1 DA)).1 (by omega)).trans (blk_on GX22.out.1 DA), (o5.block p10 (Array.getElem?_eq_some_iff.1 (blk_on GX22.out.2.2.2.2.2 DA)).1 (by omega)).trans (blk_on GX22.out.2.2.2.2.2 DA), ((GX22.out.2.1).on DA).keep ZA o5⟩)
  rw [hX]
  clear hX OA DA ZA yc0 yf0 yc1 yf1 yc2 yf2 yc3 yf3 yc4 yf4 y0 y1 y2 y3 y4 y5 y6 y7 y8 y9 y10 y11 y12 y13 y14 y15 ya0 ya1 ya2 ya3 ya4 yb0 yb1 yb2 yb3 yb4
  obtain ⟨⟨y0, y1, y2, y3, y4, y5, y6, y7, y8, y9, y10, y11, y12, y13, y14, y15⟩, ⟨ya0, ya1, ya2, ya3, ya4⟩, yb0, yb1, yb2, yb3, yb4⟩ := KK.out X23 GX23.out.2.2.1
  go_upto_region 24 with (go_at_call 35; refine (TM3.out X23 GX23.out.2.2.1).mono ?_; rintro e w24 ⟨zc1, kzc1, zc2, kzc2, zc3, kzc3, rfl, OA, DA⟩; have ZA := blk_on GX23.out.2.2.2.2.2.1 DA; have yc0 : w24.cell? ⟨p10, 0, none⟩ = some (.int .i64 r2.n) := cell_of ZA rfl; have yf0 : w24.frozen? ⟨p10, 0, none⟩ = false := fz_of ZA; have yc1 : w24.cell? ⟨p10, 1, none⟩ = some (.int .i64 r2.m) := cell_of ZA rfl; have yf1 : w24.frozen? ⟨p10, 1, none⟩ = false := fz_of ZA; have yc2 : w24.cell? ⟨p10, 2, none⟩ = some (.slice zb1 r2.s.length kzb1) := cell_of ZA rfl; have yf2 : w24.frozen? ⟨p10, 2, none⟩ = false := fz_of ZA; have yc3 : w24.cell? ⟨p10, 3, none⟩ = some (.slice zb2 r2.f.length kzb2) := cell_of ZA rfl; have yf3 : w24.frozen? ⟨p10, 3, none⟩ = false := fz_of ZA; have yc4 : w24.cell? ⟨p10, 4, none⟩ = some (.slice zb3 r2.e.length kzb3) := cell_of ZA rfl; have yf4 : w24.frozen? ⟨p10, 4, none⟩ = false := fz_of ZA)
  obtain ⟨X24, hX⟩ : ∃ X, ((((((((((w24).setCell ⟨p10, 0, none⟩ (.int .i64 r3.n))).setCell ⟨p10, 1, none⟩ (.int .i64 r3.m))).setCell ⟨p10, 2, none⟩ (.slice zc1 r3.s.length kzc1))).setCell ⟨p10, 3, none⟩ (.slice zc2 r3.f.length kzc2))).setCell ⟨p10, 4, none⟩ (.slice zc3 r3.e.length kzc3)) = X := ⟨_, rfl⟩
  have GX24 : Hid (X24.heap[p10]? = some (.cells #[.int .i64 r3.n, .int .i64 r3.m, .slice zc1 r3.s.length kzc1, .slice zc2 r3.f.length kzc2, .slice zc3 r3.e.length kzc3] 25 (0, 0)) ∧ OwnD X23.heap.size X24 (.slice zc1 r3.s.length kzc1) (.slice zc2 r3.f.length kzc2) (.slice zc3 r3.e.length kzc3) r3.s r3.f r3.e ∧ Below w5.heap.size w5 X24 ∧ X23.heap.size ≤ X24.heap.size ∧ X24.heap[p6]? = some (.cells #[.int .i64 r3.n, .int .i64 r3.m, .slice xc1 r3.s.length kxc1, .slice xc2 r3.f.length kxc2, .slice xc3 r3.e.length kxc3] 25 (0, 0)) ∧ X24.heap[p8]? = some (.cells #[.int .i64 r3.n, .int .i64 r3.m, .slice lc1 r3.s.length klc1, .slice lc2 r3.f.length klc2, .slice lc3 r3.e.length klc3] 25 (0, 0)) ∧ OwnO m21b.heap.size X24 (.slice xc1 r3.s.length kxc1) (.slice xc2 r3.f.length kxc2) (.slice xc3 r3.e.length kxc3) r3.s r3.f r3.e ∧ OwnO X22.heap.size X24 (.slice lc1 r3.s.length klc1) (.slice lc2 r3.f.length klc2) (.slice lc3 r3.e.length klc3) r3.s r3.f r3.e) := hide (by
    have o5 := only5 w24 p10 (.int .i64 r3.n) (.int .i64 r3.m) (.slice zc1 r3.s.length kzc1) (.slice zc2 r3.f.length kzc2) (.slice zc3 r3.e.length kzc3)
    have z5 := set5 w24 p10 _ _ _ _ _ (.int .i64 r3.n) (.int .i64 r3.m) (.slice zc1 r3.s.length kzc1) (.slice zc2 r3.f.length kzc2) (.slice zc3 r3.e.length kzc3) 25 ZA
    rw [hX] at o5 z5
    have e1 := (GX23.out.2.2.1).trans (DA.mono (GX23.out.2.2.1).size)
    have e2 := e1.size
    have e3 := o5.size
    have e4 := DA.size
    have e5 := HPP.out
    exact ⟨z5, OA.out.keep ZA o5, e1.trans (o5.toBelow e2 (fun k hk => by omega)), by omega, (o5.block p6 (Array.getElem?_eq_some_iff.1 (blk_on GX23.out.2.2.2.2.1 DA)).1 (by omega)).trans (blk_on GX23.out.2.2.2.2.1 DA), (o5.block p8 (Array.getElem?_eq_some_iff.1 (blk_on GX23.out.1 DA)).1 (by omega)).trans (blk_on GX23.out.1 DA), ((GX23.out.2.2.2.2.2.2).on DA).keep ZA o5, ((GX23.out.2.1).on DA).keep ZA o5⟩)
  rw [hX]
  clear hX OA DA ZA yc0 yf0 yc1 yf1 yc2 yf2 yc3 yf3 yc4 yf4 y0 y1 y2 y3 y4 y5 y6 y7 y8 y9 y10 y11 y12 y13 y14 y15 ya0 ya1 ya2 ya3 ya4 yb0 yb1 yb2 yb3 yb4
  have GB : Hid (∀ w', Only X24 w' (In3 (.slice xc1 r3.s.length kxc1) (.slice xc2 r3.f.length kxc2) (.slice xc3 r3.e.length kxc3)) → w'.heap[p8]? = some (.cells #[.int .i64 r3.n, .int .i64 r3.m, .slice lc1 r3.s.length klc1, .slice lc2 r3.f.length klc2, .slice lc3 r3.e.length klc3] 25 (0, 0)) ∧ w'.heap[p10]? = some (.cells #[.int .i64 r3.n, .int .i64 r3.m, .slice zc1 r3.s.length kzc1, .slice zc2 r3.f.length kzc2, .slice zc3 r3.e.length kzc3] 25 (0, 0)) ∧ w'.heap[p6]? = some (.cells #[.int .i64 r3.n, .int .i64 r3.m, .slice xc1 r3.s.length kxc1, .slice xc2 r3.f.length kxc2, .slice xc3 r3.e.length kxc3] 25 (0, 0)) ∧ OwnO X22.heap.size w' (.slice lc1 r3.s.length klc1) (.slice lc2 r3.f.length klc2) (.slice lc3 r3.e.length klc3) r3.s r3.f r3.e ∧ OwnD X23.heap.size w' (.slice zc1 r3.s.length kzc1) (.slice zc2 r3.f.length kzc2) (.slice zc3 r3.e.length kzc3) r3.s r3.f r3.e ∧ Below w5.heap.size w5 w') := hide (fun w' o => by
    have hx := (GX24.out.2.2.2.2.2.2.1).d
    have s1 := (G21.out.2.2.2).size
    have s2 := (GX24.out.2.2.1).size
    have s3 := GX23.out.2.2.2.1
    exact ⟨box_stays hx o GX24.out.2.2.2.2.2.1, box_stays hx o GX24.out.1, box_stays hx o GX24.out.2.2.2.2.1, (GX24.out.2.2.2.2.2.2.2).only o fun b q z => in3_apart (GX22.out.2.1).d (GX24.out.2.2.2.2.2.2.2).d (Nat.le_refl _) b z q, (GX24.out.2.1).only o fun b q z => in3_apart (GX22.out.2.1).d (GX24.out.2.1) s3 b z q, (GX24.out.2.2.1).trans (in3_below hx o s1 s2)⟩)
  have yx0 : X24.cell? ⟨p6, 0, none⟩ = some (.int .i64 r3.n) := cell_of GX24.out.2.2.2.2.1 rfl
  have yx1 : X24.cell? ⟨p6, 1, none⟩ = some (.int .i64 r3.m) := cell_of GX24.out.2.2.2.2.1 rfl
  have yx2 : X24.cell? ⟨p6, 2, none⟩ = some (.slice xc1 r3.s.length kxc1) := cell_of GX24.out.2.2.2.2.1 rfl
  have yx3 : X24.cell? ⟨p6, 3, none⟩ = some (.slice xc2 r3.f.length kxc2) := cell_of GX24.out.2.2.2.2.1 rfl
  have yx4 : X24.cell? ⟨p6, 4, none⟩ = some (.slice xc3 r3.e.length kxc3) := cell_of GX24.out.2.2.2.2.1 rfl
  have yz0 : X24.cell? ⟨p10, 0, none⟩ = some (.int .i64 r3.n) := cell_of GX24.out.1 rfl
  have yz1 : X24.cell? ⟨p10, 1, none⟩ = some (.int .i64 r3.m) := cell_of GX24.out.1 rfl
  have yz2 : X24.cell? ⟨p10, 2, none⟩ = some (.slice zc1 r3.s.length kzc1) := cell_of GX24.out.1 rfl
  have yz3 : X24.cell? ⟨p10, 3, none⟩ = some (.slice zc2 r3.f.length kzc2) := cell_of GX24.out.1 rfl
  have yz4 : X24.cell? ⟨p10, 4, none⟩ = some (.slice zc3 r3.e.length kzc3) := cell_of GX24.out.1 rfl
  have n0 : (r3.er != r3.er) = false := by simp
  go_upto_region 26 with (first
    | (go_at_call_of 33 xc1; refine (made_any X24 r3.n r3.m _ _ _ _ _ _ _ _ _ _ _ _ r3.s r3.f r3.e (hide ((GX24.out.2.2.2.2.2.2.1).down (Nat.zero_le _))) (hide (GX24.out.2.1).rd) HL3.out.1 HL3.out.2.1 HL3.out.2.2).mono ?_; rintro e m26a ⟨rfl, O15⟩; have H15 := hide (GB.out m26a O15); clear O15 yx0 yz0 yx1 yz1 yx2 yz2 yx3 yz3 yx4 yz4; have yl0 : m26a.cell? ⟨p8, 0, none⟩ = some (.int .i64 r3.n) := cell_of H15.out.1 rfl; have yl1 : m26a.cell? ⟨p8, 1, none⟩ = some (.int .i64 r3.m) := cell_of H15.out.1 rfl; have yl2 : m26a.cell? ⟨p8, 2, none⟩ = some (.slice lc1 r3.s.length klc1) := cell_of H15.out.1 rfl; have yl3 : m26a.cell? ⟨p8, 3, none⟩ = some (.slice lc2 r3.f.length klc2) := cell_of H15.out.1 rfl; have yl4 : m26a.cell? ⟨p8, 4, none⟩ = some (.slice lc3 r3.e.length klc3) := cell_of H15.out.1 rfl; have yz0 : m26a.cell? ⟨p10, 0, none⟩ = some (.int .i64 r3.n) := cell_of H15.out.2.1 rfl; have yz1 : m26a.cell? ⟨p10, 1, none⟩ = some (.int .i64 r3.m) := cell_of H15.out.2.1 rfl; have yz2 : m26a.cell? ⟨p10, 2, none⟩ = some (.slice zc1 r3.s.length kzc1) := cell_of H15.out.2.1 rfl; have yz3 : m26a.cell? ⟨p10, 3, none⟩ = some (.slice zc2 r3.f.length kzc2) := cell_of H15.out.2.1 rfl; have yz4 : m26a.cell? ⟨p10, 4, none⟩ = some (.slice zc3 r3.e.length kzc3) := cell_of H15.out.2.1 rfl)
    | (go_at_call_of 33 lc1; refine (made_any m26a r3.n r3.m _ _ _ _ _ _ _ _ _ _ _ _ r3.s r3.f r3.e (hide (H15.out.2.2.2.1.down (Nat.zero_le _))) (hide H15.out.2.2.2.2.1.rd) HL3.out.1 HL3.out.2.1 HL3.out.2.2).mono ?_; rintro e m26b ⟨rfl, O16⟩; have G26 := hide (show m26b.heap[p6]? = some (.cells #[.int .i64 r3.n, .int .i64 r3.m, .slice xc1 r3.s.length kxc1, .slice xc2 r3.f.length kxc2, .slice xc3 r3.e.length kxc3] 25 (0, 0)) ∧ m26b.heap[p8]? = some (.cells #[.int .i64 r3.n, .int .i64 r3.m, .slice lc1 r3.s.length klc1, .slice lc2 r3.f.length klc2, .slice lc3 r3.e.length klc3] 25 (0, 0)) ∧ m26b.heap[p10]? = some (.cells #[.int .i64 r3.n, .int .i64 r3.m, .slice zc1 r3.s.length kzc1, .slice zc2 r3.f.length kzc2, .slice zc3 r3.e.length kzc3] 25 (0, 0)) ∧ Below w5.heap.size w5 m26b from ⟨box_stays H15.out.2.2.2.1.d O16 H15.out.2.2.1, box_stays H15.out.2.2.2.1.d O16 H15.out.1, box_stays H15.out.2.2.2.1.d O16 H15.out.2.1, H15.out.2.2.2.2.2.trans (in3_below H15.out.2.2.2.1.d O16 (GX22.out.2.2.1).size H15.out.2.2.2.2.2.size)⟩); clear O16 yl0 yz0 yl1 yz1 yl2 yz2 yl3 yz3 yl4 yz4))
  clear n0 H15 GB GX22 GX23 GX24 G21 TN3 TM3 HL3
  have TN4 : Hid (∀ W, Below w5.heap.size w5 W → Calls Tryz.prog 29 #[.agg #[.int .i64 n, .int .i64 m, .slice (some ⟨s1, 0, none⟩) St.length ks1, .slice (some ⟨s2, 0, none⟩) Fi.length ks2, .slice (some ⟨s3, 0, none⟩) Ed.length ks3], .int .i64 kk, .slice (some ⟨gt, 0, none⟩) To.length kt] W (AnsO W (widAns n m kk St Fi To Ed))) := hide (fun W d => widen_ans W n m kk _ _ _ _ _ _ _ _ St Fi To Ed (hide (RA.out W d).1) (hide (RA.out W d).2.2.1) (by omega) (by omega) (by omega) (by omega))
  have TM4 : Hid (∀ W, Below w5.heap.size w5 W → Calls Tryz.prog 36 #[.agg #[.int .i64 n, .int .i64 m, .slice a1 St.length c1, .slice a2 Fi.length c2, .slice a3 Ed.length c3], .int .i64 kk, .slice o1 To.length co] W (AnsR W (widAns n m kk St Fi To Ed))) := hide (fun W d => rwiden_ans W n m kk _ _ _ _ _ _ _ _ St Fi To Ed (hide (hA.out.on (RA.out W d).2.2.2)) (hide (hO.out.on (RA.out W d).2.2.2)) (by omega) (by omega) (by omega) (by omega) hc)
  have HL4 : Hid (LenA (widAns n m kk St Fi To Ed)) := hide (wid_len n m kk St Fi To Ed h1 h2 h3)
  generalize widAns n m kk St Fi To Ed = r4 at TN4 TM4 HL4
  obtain ⟨⟨y0, y1, y2, y3, y4, y5, y6, y7, y8, y9, y10, y11, y12, y13, y14, y15⟩, ⟨ya0, ya1, ya2, ya3, ya4⟩, yb0, yb1, yb2, yb3, yb4⟩ := KK.out m26b G26.out.2.2.2
  go_upto_region 27 with (go_at_call 29; refine (TN4.out m26b G26.out.2.2.2).mono ?_; rintro e w27 ⟨xd1, kxd1, xd2, kxd2, xd3, kxd3, rfl, OA, DA⟩; have ZA := blk_on G26.out.1 DA; have yc0 : w27.cell? ⟨p6, 0, none⟩ = some (.int .i64 r3.n) := cell_of ZA rfl; have yf0 : w27.frozen? ⟨p6, 0, none⟩ = false := fz_of ZA; have yc1 : w27.cell? ⟨p6, 1, none⟩ = some (.int .i64 r3.m) := cell_of ZA rfl; have yf1 : w27.frozen? ⟨p6, 1, none⟩ = false := fz_of ZA; have yc2 : w27.cell? ⟨p6, 2, none⟩ = some (.slice xc1 r3.s.length kxc1) := cell_of ZA rfl; have yf2 : w27.frozen? ⟨p6, 2, none⟩ = false := fz_of ZA; have yc3 : w27.cell? ⟨p6, 3, none⟩ = some (.slice xc2 r3.f.length kxc2) := cell_of ZA rfl; have yf3 : w27.frozen? ⟨p6, 3, none⟩ = false := fz_of ZA; have yc4 : w27.cell? ⟨p6, 4, none⟩ = some (.slice xc3 r3.e.length kxc3) := cell_of ZA rfl; have yf4 : w27.frozen? ⟨p6, 4, none⟩ = false := fz_of ZA)
  obtain ⟨X27, hX⟩ : ∃ X, ((((((((((w27).setCell ⟨p6, 0, none⟩ (.int .i64 r4.n))).setCell ⟨p6, 1, none⟩ (.int .i64 r4.m))).setCell ⟨p6, 2, none⟩ (.slice xd1 r4.s.length kxd1))).setCell ⟨p6, 3, none⟩ (.slice xd2 r4.f.length kxd2))).setCell ⟨p6, 4, none⟩ (.slice xd3 r4.e.length kxd3)) = X := ⟨_, rfl⟩
  have GX27 : Hid (X27.heap[p6]? = some (.cells #[.int .i64 r4.n, .int .i64 r4.m, .slice xd1 r4.s.length kxd1, .slice xd2 r4.f.length kxd2, .slice xd3 r4.e.length kxd3] 25 (0, 0)) ∧ OwnO m26b.heap.size X27 (.slice xd1 r4.s.length kxd1) (.slice xd2 r4.f.length kxd2) (.slice xd3 r4.e.length kxd3) r4.s r4.f r4.e ∧ Below w5.heap.size w5 X27 ∧ m26b.heap.size ≤ X27.heap.size ∧ X27.heap[p8]? = some (.cells #[.int .i64 r3.n, .int .i64 r3.m, .slice lc1 r3.s.length klc1, .slice lc2 r3.f.length klc2, .slice lc3 r3.e.length klc3] 25 (0, 0)) ∧ X27.heap[p10]? = some (.cells #[.int .i64 r3.n, .int .i64 r3.m, .slice zc1 r3.s.length kzc1, .slice zc2 r3.f.length kzc2, .slice zc3 r3.e.length kzc3] 25 (0, 0))) := hide (by
    have o5 := only5 w27 p6 (.int .i64 r4.n) (.int .i64 r4.m) (.slice xd1 r4.s.length kxd1) (.slice xd2 r4.f.length kxd2) (.slice xd3 r4.e.length kxd3)
    have z5 := set5 w27 p6 _ _ _ _ _ (.int .i64 r4.n) (.int .i64 r4.m) (.slice xd1 r4.s.length kxd1) (.slice xd2 r4.f.length kxd2) (.slice xd3 r4.e.length kxd3) 25 ZA
    rw [hX] at o5 z5
    have e1 := (G26.out.2.2.2).trans (DA.mono (G26.out.2.2.2).size)
    have e2 := e1.size
    have e3 := o5.size
    have e4 := DA.size
    have e5 := HPP.out
    exact ⟨z5, OA.out.keep ZA o5, e1.trans (o5.toBelow e2 (fun k hk => by omega)), by omega, (o5.block p8 (Array.getElem?_eq_some_iff.1 (blk_on G26.out.2.1 DA)).1 (by omega)).trans (blk_on G26.out.2.1 DA), (o5.block p10 (Array.getElem?_eq_some_iff.1 (blk_on G26.out.2.2.1 DA)).1 (by omega)).trans (blk_on G26.out.2.2.1 DA)⟩)
  rw [hX]
  clear hX OA DA ZA yc0 yf0 yc1 yf1 yc2 yf2 yc3 yf3 yc4 yf4 y0 y1 y2 y3 y4 y5 y6 y7 y8 y9 y10 y11 y12 y13 y14 y15 ya0 ya1 ya2 ya3 ya4 yb0 yb1 yb2 yb3 yb4
  obtain ⟨⟨y0, y1, y2, y3, y4, y5, y6, y7, y8, y9, y10, y11, y12, y13, y14, y15⟩, ⟨ya0, ya1, ya2, ya3, ya4⟩, yb0, yb1, yb2, yb3, yb4⟩ := KK.out X27 GX27.out.2.2.1
  go_upto_region 28 with (go_at_call 29; refine (TN4.out X27 GX27.out.2.2.1).mono ?_; rintro e w28 ⟨ld1, kld1, ld2, kld2, ld3, kld3, rfl, OA, DA⟩; have ZA := blk_on GX27.out.2.2.2.2.1 DA; have yc0 : w28.cell? ⟨p8, 0, none⟩ = some (.int .i64 r3.n) := cell_of ZA rfl; have yf0 : w28.frozen? ⟨p8, 0, none⟩ = false := fz_of ZA; have yc1 : w28.cell? ⟨p8, 1, none⟩ = some (.int .i64 r3.m) := cell_of ZA rfl; have yf1 : w28.frozen? ⟨p8, 1, none⟩ = false := fz_of ZA; have yc2 : w28.cell? ⟨p8, 2, none⟩ = some (.slice lc1 r3.s.length klc1) := cell_of ZA rfl; have yf2 : w28.frozen? ⟨p8, 2, none⟩ = false := fz_of ZA; have yc3 : w28.cell? ⟨p8, 3, none⟩ = some (.slice lc2 r3.f.length klc2) := cell_of ZA rfl; have yf3 : w28.frozen? ⟨p8, 3, none⟩ = false := fz_of ZA; have yc4 : w28.cell? ⟨p8, 4, none⟩ = some (.slice lc3 r3.e.length klc3) := cell_of ZA rfl; have yf4 : w28.frozen? ⟨p8, 4, none⟩ = false := fz_of ZA)
  obtain ⟨X28, hX⟩ : ∃ X, ((((((((((w28).setCell ⟨p8, 0, none⟩ (.int .i64 r4.n))).setCell ⟨p8, 1, none⟩ (.int .i64 r4.m))).setCell ⟨p8, 2, none⟩ (.slice ld1 r4.s.length kld1))).setCell ⟨p8, 3, none⟩ (.slice ld2 r4.f.length kld2))).setCell ⟨p8, 4, none⟩ (.slice ld3 r4.e.length kld3)) = X := ⟨_, rfl⟩
  have GX28 : Hid (X28.heap[p8]? = some (.cells #[.int .i64 r4.n, .int .i64 r4.m, .slice ld1 r4.s.length kld1, .slice ld2 r4.f.length kld2, .slice ld3 r4.e.length kld3] 25 (0, 0)) ∧ OwnO X27.heap.size X28 (.slice ld1 r4.s.length kld1) (.slice ld2 r4.f.length kld2) (.slice ld3 r4.e.length kld3) r4.s r4.f r4.e ∧ Below w5.heap.size w5 X28 ∧ X27.heap.size ≤ X28.heap.size ∧ X28.heap[p6]? = some (.cells #[.int .i64 r4.n, .int .i64 r4.m, .slice xd1 r4.s.length kxd1, .slice xd2 r4.f.length kxd2, .slice xd3 r4.e.length kxd3] 25 (0, 0)) ∧ X28.heap[p10]? = some (.cells #[.int .i64 r3.n, .int .i64 r3.m, .slice zc1 r3.s.length kzc1, .slice zc2 r3.f.length kzc2, .slice zc3 r3.e.length kzc3] 25 (0, 0)) ∧ OwnO m26b.heap.size X28 (.slice xd1 r4.s.length kxd1) (.slice xd2 r4.f.length kxd2) (.slice xd3 r4.e.length kxd3) r4.s r4.f r4.e) := hide (by
    have o5 := only5 w28 p8 (.int .i64 r4.n) (.int .i64 r4.m) (.slice ld1 r4.s.length kld1) (.slice ld2 r4.f.length kld2) (.slice ld3 r4.e.length kld3)
    have z5 := set5 w28 p8 _ _ _ _ _ (.int .i64 r4.n) (.int .i64 r4.m) (.slice ld1 r4.s.length kld1) (.slice ld2 r4.f.length kld2) (.slice ld3 r4.e.length kld3) 25 ZA
    rw [hX] at o5 z5
    have e1 := (GX27.out.2.2.1).trans (DA.mono (GX27.out.2.2.1).size)
    have e2 := e1.size
    have e3 := o5.size
    have e4 := DA.size
    have e5 := HPP.out
    exact ⟨z5, OA.out.keep ZA o5, e1.trans (o5.toBelow e2 (fun k hk => by omega)), by omega, (o5.block p6 (Array.getElem?_eq_some_iff.1 (blk_on GX27.out.1 DA)).1 (by omega)).trans (blk_on GX27.out.1 DA), (o5.block p10 (Array.getElem?_eq_some_iff.1 (blk_on GX27.out.2.2.2.2.2 DA)).1 (by omega)).trans (blk_on GX27.out.2.2.2.2.2 DA), ((GX27.out.2.1).on DA).keep ZA o5⟩)
  rw [hX]
  clear hX OA DA ZA yc0 yf0 yc1 yf1 yc2 yf2 yc3 yf3 yc4 yf4 y0 y1 y2 y3 y4 y5 y6 y7 y8 y9 y10 y11 y12 y13 y14 y15 ya0 ya1 ya2 ya3 ya4 yb0 yb1 yb2 yb3 yb4
  obtain ⟨⟨y0, y1, y2, y3, y4, y5, y6, y7, y8, y9, y10, y11, y12, y13, y14, y15⟩, ⟨ya0, ya1, ya2, ya3, ya4⟩, yb0, yb1, yb2, yb3, yb4⟩ := KK.out X28 GX28.out.2.2.1
  go_upto_region 29 with (go_at_call 36; refine (TM4.out X28 GX28.out.2.2.1).mono ?_; rintro e w29 ⟨zd1, kzd1, zd2, kzd2, zd3, kzd3, rfl, OA, DA⟩; have ZA := blk_on GX28.out.2.2.2.2.2.1 DA; have yc0 : w29.cell? ⟨p10, 0, none⟩ = some (.int .i64 r3.n) := cell_of ZA rfl; have yf0 : w29.frozen? ⟨p10, 0, none⟩ = false := fz_of ZA; have yc1 : w29.cell? ⟨p10, 1, none⟩ = some (.int .i64 r3.m) := cell_of ZA rfl; have yf1 : w29.frozen? ⟨p10, 1, none⟩ = false := fz_of ZA; have yc2 : w29.cell? ⟨p10, 2, none⟩ = some (.slice zc1 r3.s.length kzc1) := cell_of ZA rfl; have yf2 : w29.frozen? ⟨p10, 2, none⟩ = false := fz_of ZA; have yc3 : w29.cell? ⟨p10, 3, none⟩ = some (.slice zc2 r3.f.length kzc2) := cell_of ZA rfl; have yf3 : w29.frozen? ⟨p10, 3, none⟩ = false := fz_of ZA; have yc4 : w29.cell? ⟨p10, 4, none⟩ = some (.slice zc3 r3.e.length kzc3) := cell_of ZA rfl; have yf4 : w29.frozen? ⟨p10, 4, none⟩ = false := fz_of ZA)
  obtain ⟨X29, hX⟩ : ∃ X, ((((((((((w29).setCell ⟨p10, 0, none⟩ (.int .i64 r4.n))).setCell ⟨p10, 1, none⟩ (.int .i64 r4.m))).setCell ⟨p10, 2, none⟩ (.slice zd1 r4.s.length kzd1))).setCell ⟨p10, 3, none⟩ (.slice zd2 r4.f.length kzd2))).setCell ⟨p10, 4, none⟩ (.slice zd3 r4.e.length kzd3)) = X := ⟨_, rfl⟩
  have GX29 : Hid (X29.heap[p10]? = some (.cells #[.int .i64 r4.n, .int .i64 r4.m, .slice zd1 r4.s.length kzd1, .slice zd2 r4.f.length kzd2, .slice zd3 r4.e.length kzd3] 25 (0, 0)) ∧ OwnD X28.heap.size X29 (.slice zd1 r4.s.length kzd1) (.slice zd2 r4.f.length kzd2) (.slice zd3 r4.e.length kzd3) r4.s r4.f r4.e ∧ Below w5.heap.size w5 X29 ∧ X28.heap.size ≤ X29.heap.size ∧ X29.heap[p6]? = some (.cells #[.int .i64 r4.n, .int .i64 r4.m, .slice xd1 r4.s.length kxd1, .slice xd2 r4.f.length kxd2, .slice xd3 r4.e.length kxd3] 25 (0, 0)) ∧ X29.heap[p8]? = some (.cells #[.int .i64 r4.n, .int .i64 r4.m, .slice ld1 r4.s.length kld1, .slice ld2 r4.f.length kld2, .slice ld3 r4.e.length kld3] 25 (0, 0)) ∧ OwnO m26b.heap.size X29 (.slice xd1 r4.s.length kxd1) (.slice xd2 r4.f.length kxd2) (.slice xd3 r4.e.length kxd3) r4.s r4.f r4.e ∧ OwnO X27.heap.size X29 (.slice ld1 r4.s.length kld1) (.slice ld2 r4.f.length kld2) (.slice ld3 r4.e.length kld3) r4.s r4.f r4.e) := hide (by
    have o5 := only5 w29 p10 (.int .i64 r4.n) (.int .i64 r4.m) (.slice zd1 r4.s.length kzd1) (.slice zd2 r4.f.length kzd2) (.slice zd3 r4.e.length kzd3)
    have z5 := set5 w29 p10 _ _ _ _ _ (.int .i64 r4.n) (.int .i64 r4.m) (.slice zd1 r4.s.length kzd1) (.slice zd2 r4.f.length kzd2) (.slice zd3 r4.e.length kzd3) 25 ZA
    rw [hX] at o5 z5
    have e1 := (GX28.out.2.2.1).trans (DA.mono (GX28.out.2.2.1).size)
    have e2 := e1.size
    have e3 := o5.size
    have e4 := DA.size
    have e5 := HPP.out
    exact ⟨z5, OA.out.keep ZA o5, e1.trans (o5.toBelow e2 (fun k hk => by omega)), by omega, (o5.block p6 (Array.getElem?_eq_some_iff.1 (blk_on GX28.out.2.2.2.2.1 DA)).1 (by omega)).trans (blk_on GX28.out.2.2.2.2.1 DA), (o5.block p8 (Array.getElem?_eq_some_iff.1 (blk_on GX28.out.1 DA)).1 (by omega)).trans (blk_on GX28.out.1 DA), ((GX28.out.2.2.2.2.2.2).on DA).keep ZA o5, ((GX28.out.2.1).on DA).keep ZA o5⟩)
  rw [hX]
  clear hX OA DA ZA yc0 yf0 yc1 yf1 yc2 yf2 yc3 yf3 yc4 yf4 y0 y1 y2 y3 y4 y5 y6 y7 y8 y9 y10 y11 y12 y13 y14 y15 ya0 ya1 ya2 ya3 ya4 yb0 yb1 yb2 yb3 yb4
  have GB : Hid (∀ w', Only X29 w' (In3 (.slice xd1 r4.s.length kxd1) (.slice xd2 r4.f.length kxd2) (.slice xd3 r4.e.length kxd3)) → w'.heap[p8]? = some (.cells #[.int .i64 r4.n, .int .i64 r4.m, .slice ld1 r4.s.length kld1, .slice ld2 r4.f.length kld2, .slice ld3 r4.e.length kld3] 25 (0, 0)) ∧ w'.heap[p10]? = some (.cells #[.int .i64 r4.n, .int .i64 r4.m, .slice zd1 r4.s.length kzd1, .slice zd2 r4.f.length kzd2, .slice zd3 r4.e.length kzd3] 25 (0, 0)) ∧ w'.heap[p6]? = some (.cells #[.int .i64 r4.n, .int .i64 r4.m, .slice xd1 r4.s.length kxd1, .slice xd2 r4.f.length kxd2, .slice xd3 r4.e.length kxd3] 25 (0, 0)) ∧ OwnO X27.heap.size w' (.slice ld1 r4.s.length kld1) (.slice ld2 r4.f.length kld2) (.slice ld3 r4.e.length kld3) r4.s r4.f r4.e ∧ OwnD X28.heap.size w' (.slice zd1 r4.s.length kzd1) (.slice zd2 r4.f.length kzd2) (.slice zd3 r4.e.length kzd3) r4.s r4.f r4.e ∧ Below w5.heap.size w5 w') := hide (fun w' o => by
    have hx := (GX29.out.2.2.2.2.2.2.1).d
    have s1 := (G26.out.2.2.2).size
    have s2 := (GX29.out.2.2.1).size
    have s3 := GX28.out.2.2.2.1
    exact ⟨box_stays hx o GX29.out.2.2.2.2.2.1, box_stays hx o GX29.out.1, box_stays hx o GX29.out.2.2.2.2.1, (GX29.out.2.2.2.2.2.2.2).only o fun b q z => in3_apart (GX27.out.2.1).d (GX29.out.2.2.2.2.2.2.2).d (Nat.le_refl _) b z q, (GX29.out.2.1).only o fun b q z => in3_apart (GX27.out.2.1).d (GX29.out.2.1) s3 b z q, (GX29.out.2.2.1).trans (in3_below hx o s1 s2)⟩)
  have yx0 : X29.cell? ⟨p6, 0, none⟩ = some (.int .i64 r4.n) := cell_of GX29.out.2.2.2.2.1 rfl
  have yx1 : X29.cell? ⟨p6, 1, none⟩ = some (.int .i64 r4.m) := cell_of GX29.out.2.2.2.2.1 rfl
  have yx2 : X29.cell? ⟨p6, 2, none⟩ = some (.slice xd1 r4.s.length kxd1) := cell_of GX29.out.2.2.2.2.1 rfl
  have yx3 : X29.cell? ⟨p6, 3, none⟩ = some (.slice xd2 r4.f.length kxd2) := cell_of GX29.out.2.2.2.2.1 rfl
  have yx4 : X29.cell? ⟨p6, 4, none⟩ = some (.slice xd3 r4.e.length kxd3) := cell_of GX29.out.2.2.2.2.1 rfl
  have yz0 : X29.cell? ⟨p10, 0, none⟩ = some (.int .i64 r4.n) := cell_of GX29.out.1 rfl
  have yz1 : X29.cell? ⟨p10, 1, none⟩ = some (.int .i64 r4.m) := cell_of GX29.out.1 rfl
  have yz2 : X29.cell? ⟨p10, 2, none⟩ = some (.slice zd1 r4.s.length kzd1) := cell_of GX29.out.1 rfl
  have yz3 : X29.cell? ⟨p10, 3, none⟩ = some (.slice zd2 r4.f.length kzd2) := cell_of GX29.out.1 rfl
  have yz4 : X29.cell? ⟨p10, 4, none⟩ = some (.slice zd3 r4.e.length kzd3) := cell_of GX29.out.1 rfl
  have n0 : (r4.er != r4.er) = false := by simp
  go_upto_region 31 with (first
    | (go_at_call_of 33 xd1; refine (made_any X29 r4.n r4.m _ _ _ _ _ _ _ _ _ _ _ _ r4.s r4.f r4.e (hide ((GX29.out.2.2.2.2.2.2.1).down (Nat.zero_le _))) (hide (GX29.out.2.1).rd) HL4.out.1 HL4.out.2.1 HL4.out.2.2).mono ?_; rintro e m31a ⟨rfl, O15⟩; have H15 := hide (GB.out m31a O15); clear O15 yx0 yz0 yx1 yz1 yx2 yz2 yx3 yz3 yx4 yz4; have yl0 : m31a.cell? ⟨p8, 0, none⟩ = some (.int .i64 r4.n) := cell_of H15.out.1 rfl; have yl1 : m31a.cell? ⟨p8, 1, none⟩ = some (.int .i64 r4.m) := cell_of H15.out.1 rfl; have yl2 : m31a.cell? ⟨p8, 2, none⟩ = some (.slice ld1 r4.s.length kld1) := cell_of H15.out.1 rfl; have yl3 : m31a.cell? ⟨p8, 3, none⟩ = some (.slice ld2 r4.f.length kld2) := cell_of H15.out.1 rfl; have yl4 : m31a.cell? ⟨p8, 4, none⟩ = some (.slice ld3 r4.e.length kld3) := cell_of H15.out.1 rfl; have yz0 : m31a.cell? ⟨p10, 0, none⟩ = some (.int .i64 r4.n) := cell_of H15.out.2.1 rfl; have yz1 : m31a.cell? ⟨p10, 1, none⟩ = some (.int .i64 r4.m) := cell_of H15.out.2.1 rfl; have yz2 : m31a.cell? ⟨p10, 2, none⟩ = some (.slice zd1 r4.s.length kzd1) := cell_of H15.out.2.1 rfl; have yz3 : m31a.cell? ⟨p10, 3, none⟩ = some (.slice zd2 r4.f.length kzd2) := cell_of H15.out.2.1 rfl; have yz4 : m31a.cell? ⟨p10, 4, none⟩ = some (.slice zd3 r4.e.length kzd3) := cell_of H15.out.2.1 rfl)
    | (go_at_call_of 33 ld1; refine (made_any m31a r4.n r4.m _ _ _ _ _ _ _ _ _ _ _ _ r4.s r4.f r4.e (hide (H15.out.2.2.2.1.down (Nat.zero_le _))) (hide H15.out.2.2.2.2.1.rd) HL4.out.1 HL4.out.2.1 HL4.out.2.2).mono ?_; rintro e m31b ⟨rfl, O16⟩; have G31 := hide (show m31b.heap[p6]? = some (.cells #[.int .i64 r4.n, .int .i64 r4.m, .slice xd1 r4.s.length kxd1, .slice xd2 r4.f.length kxd2, .slice xd3 r4.e.length kxd3] 25 (0, 0)) ∧ m31b.heap[p8]? = some (.cells #[.int .i64 r4.n, .int .i64 r4.m, .slice ld1 r4.s.length kld1, .slice ld2 r4.f.length kld2, .slice ld3 r4.e.length kld3] 25 (0, 0)) ∧ m31b.heap[p10]? = some (.cells #[.int .i64 r4.n, .int .i64 r4.m, .slice zd1 r4.s.length kzd1, .slice zd2 r4.f.length kzd2, .slice zd3 r4.e.length kzd3] 25 (0, 0)) ∧ Below w5.heap.size w5 m31b from ⟨box_stays H15.out.2.2.2.1.d O16 H15.out.2.2.1, box_stays H15.out.2.2.2.1.d O16 H15.out.1, box_stays H15.out.2.2.2.1.d O16 H15.out.2.1, H15.out.2.2.2.2.2.trans (in3_below H15.out.2.2.2.1.d O16 (GX27.out.2.2.1).size H15.out.2.2.2.2.2.size)⟩); clear O16 yl0 yz0 yl1 yz1 yl2 yz2 yl3 yz3 yl4 yz4; have ⟨⟨y0, y1, y2, y3, y4, y5, y6, y7, y8, y9, y10, y11, y12, y13, y14, y15⟩, ⟨ya0, ya1, ya2, ya3, ya4⟩, yb0, yb1, yb2, yb3, yb4⟩ := KK.out m31b G31.out.2.2.2)
    | (go_at_call_of 30 a1; refine (untouched_yes m31b w1.heap.size n m s1 ks1 s2 ks2 s3 ks3 a1 a2 a3 c1 c2 c3 St Fi Ed (hide (F5.out.2.2.2.1.on G31.out.2.2.2)) (hide (hA.out.on (RA.out m31b G31.out.2.2.2).2.2.2)) (by omega) (by omega) (by omega)).mono ?_; rintro e wu1 ⟨rfl, D9⟩; have H9 := hide (And.intro D9 (G31.out.2.2.2.trans (D9.mono G31.out.2.2.2.size))); clear D9 y0 y1 y2 y3 y4 y5 y6 y7 y8 y9 y10 y11 y12 y13 y14 y15 ya0 ya1 ya2 ya3 ya4 yb0 yb1 yb2 yb3 yb4; have ⟨⟨y0, y1, y2, y3, y4, y5, y6, y7, y8, y9, y10, y11, y12, y13, y14, y15⟩, ⟨ya0, ya1, ya2, ya3, ya4⟩, yb0, yb1, yb2, yb3, yb4⟩ := KK.out wu1 H9.out.2)
    | (go_at_call_of 30 b1; refine (untouched_yes wu1 W2.heap.size nb mb v1 kv1 v2 kv2 v3 kv3 b1 b2 b3 d1 d2 d3 Sb Fb Eb (hide (F5.out.2.2.2.2.1.on H9.out.2)) (hide (hB.out.on (RA.out wu1 H9.out.2).2.2.2)) (by omega) (by omega) (by omega)).mono ?_; rintro e wu2 ⟨rfl, D10⟩; have H10 := hide (And.intro D10 (H9.out.2.trans (D10.mono H9.out.2.size))); clear D10 y0 y1 y2 y3 y4 y5 y6 y7 y8 y9 y10 y11 y12 y13 y14 y15 ya0 ya1 ya2 ya3 ya4 yb0 yb1 yb2 yb3 yb4; have ⟨⟨y0, y1, y2, y3, y4, y5, y6, y7, y8, y9, y10, y11, y12, y13, y14, y15⟩, ⟨ya0, ya1, ya2, ya3, ya4⟩, yb0, yb1, yb2, yb3, yb4⟩ := KK.out wu2 H10.out.2)
    | (go_at_call 31; refine (intact_yes wu2 W3.heap.size gt kt o1 To co (hide (F5.out.2.2.2.2.2.1.on H10.out.2 F5.out.2.2.2.2.2.1.lt.2)) (hide (hO.out.on (RA.out wu2 H10.out.2).2.2.2)) (by omega)).mono ?_; rintro e wE ⟨rfl, D11⟩; have GE := hide (show wE.heap[p6]? = some (.cells #[.int .i64 r4.n, .int .i64 r4.m, .slice xd1 r4.s.length kxd1, .slice xd2 r4.f.length kxd2, .slice xd3 r4.e.length kxd3] 25 (0, 0)) ∧ wE.heap[p10]? = some (.cells #[.int .i64 r4.n, .int .i64 r4.m, .slice zd1 r4.s.length kzd1, .slice zd2 r4.f.length kzd2, .slice zd3 r4.e.length kzd3] 25 (0, 0)) ∧ Below w5.heap.size w5 wE from ⟨blk_on (blk_on (blk_on G31.out.1 H9.out.1) H10.out.1) D11, blk_on (blk_on (blk_on G31.out.2.2.1 H9.out.1) H10.out.1) D11, H10.out.2.trans (D11.mono H10.out.2.size)⟩); clear D11 y0 y1 y2 y3 y4 y5 y6 y7 y8 y9 y10 y11 y12 y13 y14 y15 ya0 ya1 ya2 ya3 ya4 yb0 yb1 yb2 yb3 yb4))
  clear n0 H15 GB GX27 GX28 GX29 G26 TN4 TM4 HL4
  have N1 : Hid ((w.heap.size < w1.heap.size ∧ w1.heap.size ≤ s1 ∧ w1.heap.size ≤ s2 ∧ w1.heap.size ≤ s3 ∧ s1 < W2.heap.size ∧ s2 < W2.heap.size ∧ s3 < W2.heap.size ∧ pa < W2.heap.size) ∧ (s1 ≠ pa ∧ s2 ≠ pa ∧ s3 ≠ pa) ∧ (W2.heap.size ≤ v1 ∧ W2.heap.size ≤ v2 ∧ W2.heap.size ≤ v3 ∧ v1 < pb ∧ v2 < pb ∧ v3 < pb ∧ W2.heap.size ≤ pb ∧ pb < W3.heap.size) ∧ (W3.heap.size ≤ gt ∧ gt < w5.heap.size ∧ w5.heap.size ≤ p6 ∧ p6 < p10 ∧ p10 < wE.heap.size) ∧ w1.heap.size ≤ pa) := hide (by
    have t1 := H2.out.2.1.s.lt
    have t2 := H2.out.2.1.f.lt
    have t3 := H2.out.2.1.e.lt
    have t4 := H3.out.2.1.s.lt
    have t5 := H3.out.2.1.f.lt
    have t6 := H3.out.2.1.e.lt
    have t7 := F5.out.2.2.2.2.2.1.lt
    have t8 := HPP.out
    have t9 := (Array.getElem?_eq_some_iff.1 GE.out.2.1).1
    have u0 := (Array.getElem?_eq_some_iff.1 B0.out).1
    have u1' := HD1.out.size
    have u2 := (Array.getElem?_eq_some_iff.1 H2.out.1).1
    have u3 := H3.out.2.2.2.2
    have u4 := HPA.out
    exact ⟨⟨by omega, t1.1, t2.1, t3.1, t1.2, t2.2, t3.2, u2⟩, ⟨row_box H2.out.2.1.s.rw H2.out.1 (by decide), row_box H2.out.2.1.f.rw H2.out.1 (by decide), row_box H2.out.2.1.e.rw H2.out.1 (by decide)⟩, ⟨t4.1, t5.1, t6.1, u3.1, u3.2.1, u3.2.2.1, u3.2.2.2.2, u3.2.2.2.1⟩, ⟨t7.1, t7.2, t8.1, by omega, t9⟩, u4⟩)
  obtain ⟨S2, hS2⟩ : ∃ X, St.map (onF n) = X := ⟨_, rfl⟩
  obtain ⟨F2, hF2⟩ : ∃ X, Fi.map (onF n) = X := ⟨_, rfl⟩
  obtain ⟨E2, hE2⟩ : ∃ X, Ed.map (toE n) = X := ⟨_, rfl⟩
  obtain ⟨S3, hS3⟩ : ∃ X, Sb.map (onF nb) = X := ⟨_, rfl⟩
  obtain ⟨F3, hF3⟩ : ∃ X, Fb.map (onF nb) = X := ⟨_, rfl⟩
  obtain ⟨E3, hE3⟩ : ∃ X, Eb.map (toE nb) = X := ⟨_, rfl⟩
  obtain ⟨T2, hT2⟩ : ∃ X, To.map (onF kk) = X := ⟨_, rfl⟩
  have LS : Hid (S2.length = St.length ∧ F2.length = Fi.length ∧ E2.length = Ed.length ∧ S3.length = Sb.length ∧ F3.length = Fb.length ∧ E3.length = Eb.length ∧ T2.length = To.length) := hide (by
    rw [← hS2, ← hF2, ← hE2, ← hS3, ← hF3, ← hE3, ← hT2]
    exact ⟨List.length_map _, List.length_map _, List.length_map _, List.length_map _, List.length_map _, List.length_map _, List.length_map _⟩)
  have HS := hide (And.intro hS2 (And.intro hF2 (And.intro hE2 (And.intro hS3 (And.intro hF3 (And.intro hE3 hT2))))))
  clear hS2 hF2 hE2 hS3 hF3 hE3 hT2
  obtain ⟨⟨y0, y1, y2, y3, y4, y5, y6, y7, y8, y9, y10, y11, y12, y13, y14, y15⟩, ⟨ya0, ya1, ya2, ya3, ya4⟩, yb0, yb1, yb2, yb3, yb4⟩ := KK.out wE GE.out.2.2
  go_upto_region 32 with (go_at_call 37; refine (moved_any wE w1.heap.size n m s1 ks1 s2 ks2 s3 ks3 St Fi Ed (hide (F5.out.2.2.2.1.on GE.out.2.2)) (by have := N1.out; omega) (by omega) (by omega) (by omega)).mono ?_; rintro e w31 ⟨g1, kg1, g2, kg2, g3, kg3, rfl, T1, T2', T3, T4⟩)
  rw [HS.out.1, HS.out.2.1, HS.out.2.2.1] at T1 T2'
  clear y0 y1 y2 y3 y4 y5 y6 y7 y8 y9 y10 y11 y12 y13 y14 y15 ya0 ya1 ya2 ya3 ya4 yb0 yb1 yb2 yb3 yb4
  obtain ⟨W31, hW⟩ : ∃ X, w31.alloc (.cells #[.int .i64 n, .int .i64 m, .slice (some ⟨g1, 0, none⟩) St.length kg1, .slice (some ⟨g2, 0, none⟩) Fi.length kg2, .slice (some ⟨g3, 0, none⟩) Ed.length kg3] 25) = X := ⟨_, rfl⟩
  have G31c : Hid (W31.heap[w31.heap.size]? = some (.cells #[.int .i64 n, .int .i64 m, .slice (some ⟨g1, 0, none⟩) St.length kg1, .slice (some ⟨g2, 0, none⟩) Fi.length kg2, .slice (some ⟨g3, 0, none⟩) Ed.length kg3] 25 (0, 0)) ∧ TwA wE.heap.size W31 g1 kg1 g2 kg2 g3 kg3 S2 F2 E2 ∧ TwA w1.heap.size W31 s1 ks1 s2 ks2 s3 ks3 S2 F2 E2 ∧ Only wE W31 (fun k => k = s1 ∨ k = s2 ∨ k = s3) ∧ (wE.heap.size ≤ g1 ∧ wE.heap.size ≤ g2 ∧ wE.heap.size ≤ g3 ∧ g1 < w31.heap.size ∧ g2 < w31.heap.size ∧ g3 < w31.heap.size ∧ w31.heap.size < W31.heap.size)) := hide (by
    have dn : Below w31.heap.size w31 W31 := by rw [← hW]; exact alloc_below _ _
    have t1 := T1.out.s.lt
    have t2 := T1.out.f.lt
    have t3 := T1.out.e.lt
    exact ⟨by rw [← hW]; exact World.alloc_heap_new _ _, T1.out.on dn, T2'.out.on dn, T4.out.trans (Only.ofBelow dn), t1.1, t2.1, t3.1, t1.2, t2.2, t3.2, by rw [← hW]; simp⟩)
  rw [hW]
  clear hW T1 T2' T3 T4
  obtain ⟨pc, hp⟩ : ∃ pc, w31.heap.size = pc := ⟨_, rfl⟩
  rw [hp] at G31c ⊢
  clear hp
  have VB : Hid (W31.heap[pb]? = some (.cells #[.int .i64 nb, .int .i64 mb, .slice (some ⟨v1, 0, none⟩) Sb.length kv1, .slice (some ⟨v2, 0, none⟩) Fb.length kv2, .slice (some ⟨v3, 0, none⟩) Eb.length kv3] 25 (0, 0)) ∧ TwA W2.heap.size W31 v1 kv1 v2 kv2 v3 kv3 Sb Fb Eb ∧ W2.heap.size ≤ W31.heap.size) := hide (by
    have q := N1.out
    have q' := G31c.out.2.2.2.2
    exact ⟨G31c.out.2.2.2.1.cellK (blk_on F5.out.2.2.1 GE.out.2.2) (by omega), twA_onlyR (F5.out.2.2.2.2.1.on GE.out.2.2) G31c.out.2.2.2.1 (by omega) (by omega) (by omega), by omega⟩)
  have yb0 : W31.cell? ⟨pb, 0, none⟩ = some (.int .i64 nb) := cell_of VB.out.1 rfl
  have yb1 : W31.cell? ⟨pb, 1, none⟩ = some (.int .i64 mb) := cell_of VB.out.1 rfl
  have yb2 : W31.cell? ⟨pb, 2, none⟩ = some (.slice (some ⟨v1, 0, none⟩) Sb.length kv1) := cell_of VB.out.1 rfl
  have yb3 : W31.cell? ⟨pb, 3, none⟩ = some (.slice (some ⟨v2, 0, none⟩) Fb.length kv2) := cell_of VB.out.1 rfl
  have yb4 : W31.cell? ⟨pb, 4, none⟩ = some (.slice (some ⟨v3, 0, none⟩) Eb.length kv3) := cell_of VB.out.1 rfl
  go_upto_region 33 with (go_at_call 37; refine (moved_any W31 W2.heap.size nb mb v1 kv1 v2 kv2 v3 kv3 Sb Fb Eb (hide VB.out.2.1) VB.out.2.2 (by omega) (by omega) (by omega)).mono ?_; rintro e w32 ⟨f1, kf1, f2, kf2, f3, kf3, rfl, T1, T2', T3, T4⟩)
  rw [HS.out.2.2.2.1, HS.out.2.2.2.2.1, HS.out.2.2.2.2.2.1] at T1 T2'
  clear yb0 yb1 yb2 yb3 yb4
  obtain ⟨W32, hW⟩ : ∃ X, w32.alloc (.cells #[.int .i64 nb, .int .i64 mb, .slice (some ⟨f1, 0, none⟩) Sb.length kf1, .slice (some ⟨f2, 0, none⟩) Fb.length kf2, .slice (some ⟨f3, 0, none⟩) Eb.length kf3] 25) = X := ⟨_, rfl⟩
  have G32c : Hid (W32.heap[w32.heap.size]? = some (.cells #[.int .i64 nb, .int .i64 mb, .slice (some ⟨f1, 0, none⟩) Sb.length kf1, .slice (some ⟨f2, 0, none⟩) Fb.length kf2, .slice (some ⟨f3, 0, none⟩) Eb.length kf3] 25 (0, 0)) ∧ TwA W31.heap.size W32 f1 kf1 f2 kf2 f3 kf3 S3 F3 E3 ∧ TwA W2.heap.size W32 v1 kv1 v2 kv2 v3 kv3 S3 F3 E3 ∧ Only W31 W32 (fun k => k = v1 ∨ k = v2 ∨ k = v3) ∧ (W31.heap.size ≤ f1 ∧ W31.heap.size ≤ f2 ∧ W31.heap.size ≤ f3 ∧ f1 < w32.heap.size ∧ f2 < w32.heap.size ∧ f3 < w32.heap.size ∧ w32.heap.size < W32.heap.size)) := hide (by
    have dn : Below w32.heap.size w32 W32 := by rw [← hW]; exact alloc_below _ _
    have t1 := T1.out.s.lt
    have t2 := T1.out.f.lt
    have t3 := T1.out.e.lt
    exact ⟨by rw [← hW]; exact World.alloc_heap_new _ _, T1.out.on dn, T2'.out.on dn, T4.out.trans (Only.ofBelow dn), t1.1, t2.1, t3.1, t1.2, t2.2, t3.2, by rw [← hW]; simp⟩)
  rw [hW]
  clear hW T1 T2' T3 T4 VB
  obtain ⟨pd, hp⟩ : ∃ pd, w32.heap.size = pd := ⟨_, rfl⟩
  rw [hp] at G32c ⊢
  clear hp
  have OC : Hid (∀ b o, wE.heap[b]? = some o → ¬ (b = s1 ∨ b = s2 ∨ b = s3) → ¬ (b = v1 ∨ b = v2 ∨ b = v3) → W32.heap[b]? = some o) := hide (fun b o h p q => G32c.out.2.2.2.1.cellK (G31c.out.2.2.2.1.cellK h p) q)
  have F6 : Hid ((W32.heap[w.heap.size]? = some (.cells #[.int .i64 n, .int .i64 m, .slice a1 St.length c1, .slice a2 Fi.length c2, .slice a3 Ed.length c3, .int .i64 nb, .int .i64 mb, .slice b1 Sb.length d1, .slice b2 Fb.length d2, .slice b3 Eb.length d3, .slice q1 lq cq, .slice p1 lp cp, .int .i64 sym, .slice u1 lu cw, .int .i64 kk, .slice o1 To.length co] 27 (0, 0)) ∧ W32.heap[pa]? = some (.cells #[.int .i64 n, .int .i64 m, .slice (some ⟨s1, 0, none⟩) St.length ks1, .slice (some ⟨s2, 0, none⟩) Fi.length ks2, .slice (some ⟨s3, 0, none⟩) Ed.length ks3] 25 (0, 0)) ∧ W32.heap[pb]? = some (.cells #[.int .i64 nb, .int .i64 mb, .slice (some ⟨v1, 0, none⟩) Sb.length kv1, .slice (some ⟨v2, 0, none⟩) Fb.length kv2, .slice (some ⟨v3, 0, none⟩) Eb.length kv3] 25 (0, 0)) ∧ W32.heap[pc]? = some (.cells #[.int .i64 n, .int .i64 m, .slice (some ⟨g1, 0, none⟩) St.length kg1, .slice (some ⟨g2, 0, none⟩) Fi.length kg2, .slice (some ⟨g3, 0, none⟩) Ed.length kg3] 25 (0, 0)) ∧ W32.heap[pd]? = some (.cells #[.int .i64 nb, .int .i64 mb, .slice (some ⟨f1, 0, none⟩) Sb.length kf1, .slice (some ⟨f2, 0, none⟩) Fb.length kf2, .slice (some ⟨f3, 0, none⟩) Eb.length kf3] 25 (0, 0))) ∧ W32.heap[p6]? = some (.cells #[.int .i64 r4.n, .int .i64 r4.m, .slice xd1 r4.s.length kxd1, .slice xd2 r4.f.length kxd2, .slice xd3 r4.e.length kxd3] 25 (0, 0)) ∧ W32.heap[p10]? = some (.cells #[.int .i64 r4.n, .int .i64 r4.m, .slice zd1 r4.s.length kzd1, .slice zd2 r4.f.length kzd2, .slice zd3 r4.e.length kzd3] 25 (0, 0)) ∧ (TwA w1.heap.size W32 s1 ks1 s2 ks2 s3 ks3 S2 F2 E2 ∧ TwA W2.heap.size W32 v1 kv1 v2 kv2 v3 kv3 S3 F3 E3 ∧ TwA wE.heap.size W32 g1 kg1 g2 kg2 g3 kg3 S2 F2 E2 ∧ TwA W31.heap.size W32 f1 kf1 f2 kf2 f3 kf3 S3 F3 E3) ∧ Mk W3.heap.size W32 gt kt To ∧ Below w.heap.size w W32) := hide (by
    have q := N1.out
    have q' := G31c.out.2.2.2.2
    have q2 := G32c.out.2.2.2.2
    have ob := G31c.out.2.2.2.1.toBelow (B := w.heap.size) (by omega) (fun k hk => by omega)
    have ob2 := G32c.out.2.2.2.1.toBelow (B := w.heap.size) (by omega) (fun k hk => by omega)
    exact ⟨⟨OC.out _ _ (blk_on F5.out.1 GE.out.2.2) (by omega) (by omega), OC.out _ _ (blk_on F5.out.2.1 GE.out.2.2) (by omega) (by omega), OC.out _ _ (blk_on F5.out.2.2.1 GE.out.2.2) (by omega) (by omega), G32c.out.2.2.2.1.cellK G31c.out.1 (by omega), G32c.out.1⟩, OC.out _ _ GE.out.1 (by omega) (by omega), OC.out _ _ GE.out.2.1 (by omega) (by omega), ⟨twA_onlyR G31c.out.2.2.1 G32c.out.2.2.2.1 (by omega) (by omega) (by omega), G32c.out.2.2.1, twA_onlyR G31c.out.2.1 G32c.out.2.2.2.1 (by omega) (by omega) (by omega), G32c.out.2.1⟩, mk_onlyR (mk_onlyR (F5.out.2.2.2.2.2.1.on GE.out.2.2 F5.out.2.2.2.2.2.1.lt.2) G31c.out.2.2.2.1 (by omega)) G32c.out.2.2.2.1 (by omega), (RA.out wE GE.out.2.2).2.2.2.trans (ob.trans ob2)⟩)
  have N6 : Hid ((w.heap.size ≠ p6 ∧ w.heap.size ≠ p10 ∧ w.heap.size ≠ gt) ∧ (pa ≠ p6 ∧ pa ≠ p10 ∧ pa ≠ gt) ∧ (pb ≠ p6 ∧ pb ≠ p10 ∧ pb ≠ gt) ∧ (pc ≠ p6 ∧ pc ≠ p10 ∧ pc ≠ gt) ∧ (pd ≠ p6 ∧ pd ≠ p10 ∧ pd ≠ gt) ∧ (p6 ≠ p10 ∧ gt ≠ p6 ∧ gt ≠ p10) ∧ (w.heap.size ≤ p6 ∧ w.heap.size ≤ p10 ∧ w.heap.size ≤ gt)) := hide (by
    have q := N1.out
    have q' := G31c.out.2.2.2.2
    have q2 := G32c.out.2.2.2.2
    omega)
  have KK6 : Hid (∀ W, Only W32 W (fun k => k = p6 ∨ k = p10 ∨ k = gt) → (W.cell? ⟨w.heap.size, 0, none⟩ = some (.int .i64 n) ∧ W.cell? ⟨w.heap.size, 1, none⟩ = some (.int .i64 m) ∧ W.cell? ⟨w.heap.size, 2, none⟩ = some (.slice a1 St.length c1) ∧ W.cell? ⟨w.heap.size, 3, none⟩ = some (.slice a2 Fi.length c2) ∧ W.cell? ⟨w.heap.size, 4, none⟩ = some (.slice a3 Ed.length c3) ∧ W.cell? ⟨w.heap.size, 5, none⟩ = some (.int .i64 nb) ∧ W.cell? ⟨w.heap.size, 6, none⟩ = some (.int .i64 mb) ∧ W.cell? ⟨w.heap.size, 7, none⟩ = some (.slice b1 Sb.length d1) ∧ W.cell? ⟨w.heap.size, 8, none⟩ = some (.slice b2 Fb.length d2) ∧ W.cell? ⟨w.heap.size, 9, none⟩ = some (.slice b3 Eb.length d3) ∧ W.cell? ⟨w.heap.size, 10, none⟩ = some (.slice q1 lq cq) ∧ W.cell? ⟨w.heap.size, 11, none⟩ = some (.slice p1 lp cp) ∧ W.cell? ⟨w.heap.size, 12, none⟩ = some (.int .i64 sym) ∧ W.cell? ⟨w.heap.size, 13, none⟩ = some (.slice u1 lu cw) ∧ W.cell? ⟨w.heap.size, 14, none⟩ = some (.int .i64 kk) ∧ W.cell? ⟨w.heap.size, 15, none⟩ = some (.slice o1 To.length co)) ∧ (W.cell? ⟨pa, 0, none⟩ = some (.int .i64 n) ∧ W.cell? ⟨pa, 1, none⟩ = some (.int .i64 m) ∧ W.cell? ⟨pa, 2, none⟩ = some (.slice (some ⟨s1, 0, none⟩) St.length ks1) ∧ W.cell? ⟨pa, 3, none⟩ = some (.slice (some ⟨s2, 0, none⟩) Fi.length ks2) ∧ W.cell? ⟨pa, 4, none⟩ = some (.slice (some ⟨s3, 0, none⟩) Ed.length ks3)) ∧ (W.cell? ⟨pb, 0, none⟩ = some (.int .i64 nb) ∧ W.cell? ⟨pb, 1, none⟩ = some (.int .i64 mb) ∧ W.cell? ⟨pb, 2, none⟩ = some (.slice (some ⟨v1, 0, none⟩) Sb.length kv1) ∧ W.cell? ⟨pb, 3, none⟩ = some (.slice (some ⟨v2, 0, none⟩) Fb.length kv2) ∧ W.cell? ⟨pb, 4, none⟩ = some (.slice (some ⟨v3, 0, none⟩) Eb.length kv3)) ∧ (W.cell? ⟨pc, 0, none⟩ = some (.int .i64 n) ∧ W.cell? ⟨pc, 1, none⟩ = some (.int .i64 m) ∧ W.cell? ⟨pc, 2, none⟩ = some (.slice (some ⟨g1, 0, none⟩) St.length kg1) ∧ W.cell? ⟨pc, 3, none⟩ = some (.slice (some ⟨g2, 0, none⟩) Fi.length kg2) ∧ W.cell? ⟨pc, 4, none⟩ = some (.slice (some ⟨g3, 0, none⟩) Ed.length kg3)) ∧ (W.cell? ⟨pd, 0, none⟩ = some (.int .i64 nb) ∧ W.cell? ⟨pd, 1, none⟩ = some (.int .i64 mb) ∧ W.cell? ⟨pd, 2, none⟩ = some (.slice (some ⟨f1, 0, none⟩) Sb.length kf1) ∧ W.cell? ⟨pd, 3, none⟩ = some (.slice (some ⟨f2, 0, none⟩) Fb.length kf2) ∧ W.cell? ⟨pd, 4, none⟩ = some (.slice (some ⟨f3, 0, none⟩) Eb.length kf3))) := hide (fun W o => by
    have q := N6.out
    have e0 := o.cellK F6.out.1.1 (by omega)
    have e1 := o.cellK F6.out.1.2.1 (by omega)
    have e2 := o.cellK F6.out.1.2.2.1 (by omega)
    have e3 := o.cellK F6.out.1.2.2.2.1 (by omega)
    have e4 := o.cellK F6.out.1.2.2.2.2 (by omega)
    exact ⟨⟨cell_of e0 rfl, cell_of e0 rfl, cell_of e0 rfl, cell_of e0 rfl, cell_of e0 rfl, cell_of e0 rfl, cell_of e0 rfl, cell_of e0 rfl, cell_of e0 rfl, cell_of e0 rfl, cell_of e0 rfl, cell_of e0 rfl, cell_of e0 rfl, cell_of e0 rfl, cell_of e0 rfl, cell_of e0 rfl⟩, ⟨cell_of e1 rfl, cell_of e1 rfl, cell_of e1 rfl, cell_of e1 rfl, cell_of e1 rfl⟩, ⟨cell_of e2 rfl, cell_of e2 rfl, cell_of e2 rfl, cell_of e2 rfl, cell_of e2 rfl⟩, ⟨cell_of e3 rfl, cell_of e3 rfl, cell_of e3 rfl, cell_of e3 rfl, cell_of e3 rfl⟩, cell_of e4 rfl, cell_of e4 rfl, cell_of e4 rfl, cell_of e4 rfl, cell_of e4 rfl⟩)
  have RA6 : Hid (∀ W, Only W32 W (fun k => k = p6 ∨ k = p10 ∨ k = gt) → RdA W (some ⟨s1, 0, none⟩) (some ⟨s2, 0, none⟩) (some ⟨s3, 0, none⟩) S2 F2 E2 ∧ RdA W (some ⟨v1, 0, none⟩) (some ⟨v2, 0, none⟩) (some ⟨v3, 0, none⟩) S3 F3 E3 ∧ RdA W (some ⟨g1, 0, none⟩) (some ⟨g2, 0, none⟩) (some ⟨g3, 0, none⟩) S2 F2 E2 ∧ RdA W (some ⟨f1, 0, none⟩) (some ⟨f2, 0, none⟩) (some ⟨f3, 0, none⟩) S3 F3 E3) := hide (fun W o => by
    have q := N1.out
    have q' := G31c.out.2.2.2.2
    have q2 := G32c.out.2.2.2.2
    exact ⟨(twA_onlyR F6.out.2.2.2.1.1 o (by omega) (by omega) (by omega)).rd, (twA_onlyR F6.out.2.2.2.1.2.1 o (by omega) (by omega) (by omega)).rd, (twA_onlyR F6.out.2.2.2.1.2.2.1 o (by omega) (by omega) (by omega)).rd, (twA_onlyR F6.out.2.2.2.1.2.2.2 o (by omega) (by omega) (by omega)).rd⟩)
  have KC : Hid (E2.length ≤ kg3 ∧ E3.length ≤ kf3) := hide (by
    have a := F6.out.2.2.2.1.2.2.1.e.le
    have b := F6.out.2.2.2.1.2.2.2.e.le
    exact ⟨by omega, by omega⟩)
  have TN5 : Hid (∀ W, Only W32 W (fun k => k = p6 ∨ k = p10 ∨ k = gt) → Calls Tryz.prog 23 #[.agg #[.int .i64 n, .int .i64 m, .slice (some ⟨s1, 0, none⟩) St.length ks1, .slice (some ⟨s2, 0, none⟩) Fi.length ks2, .slice (some ⟨s3, 0, none⟩) Ed.length ks3]] W (AnsO W (revAns n m S2 F2 E2))) := hide (fun W d => by
    have l := LS.out
    have t := reverse_ans W n m (some ⟨s1, 0, none⟩) (some ⟨s2, 0, none⟩) (some ⟨s3, 0, none⟩) ks1 ks2 ks3 S2 F2 E2 (hide (RA6.out W d).1) (by omega) (by omega) (by omega)
    rw [l.1, l.2.1, l.2.2.1] at t
    exact t)
  have TM5 : Hid (∀ W, Only W32 W (fun k => k = p6 ∨ k = p10 ∨ k = gt) → Calls Tryz.prog 34 #[.agg #[.int .i64 n, .int .i64 m, .slice (some ⟨g1, 0, none⟩) St.length kg1, .slice (some ⟨g2, 0, none⟩) Fi.length kg2, .slice (some ⟨g3, 0, none⟩) Ed.length kg3]] W (AnsR W (revAns n m S2 F2 E2))) := hide (fun W d => by
    have l := LS.out
    have t := rreverse_ans W n m (some ⟨g1, 0, none⟩) (some ⟨g2, 0, none⟩) (some ⟨g3, 0, none⟩) kg1 kg2 kg3 S2 F2 E2 (hide (RA6.out W d).2.2.1) (by omega) (by omega) (by omega) KC.out.1
    rw [l.1, l.2.1, l.2.2.1] at t
    exact t)
  have HL5 : Hid (LenA (revAns n m S2 F2 E2)) := hide (by have l := LS.out; exact rev_len n m S2 F2 E2 (by omega) (by omega) (by omega))
  generalize revAns n m S2 F2 E2 = r5 at TN5 TM5 HL5
  have TN6 : Hid (∀ W, Only W32 W (fun k => k = p6 ∨ k = p10 ∨ k = gt) → Calls Tryz.prog 28 #[.agg #[.int .i64 n, .int .i64 m, .slice (some ⟨s1, 0, none⟩) St.length ks1, .slice (some ⟨s2, 0, none⟩) Fi.length ks2, .slice (some ⟨s3, 0, none⟩) Ed.length ks3], .agg #[.int .i64 nb, .int .i64 mb, .slice (some ⟨v1, 0, none⟩) Sb.length kv1, .slice (some ⟨v2, 0, none⟩) Fb.length kv2, .slice (some ⟨v3, 0, none⟩) Eb.length kv3]] W (AnsO W (uniAns n m nb mb S2 F2 E2 S3 F3 E3))) := hide (fun W d => by
    have l := LS.out
    have t := union_ans W n m nb mb (some ⟨s1, 0, none⟩) (some ⟨s2, 0, none⟩) (some ⟨s3, 0, none⟩) (some ⟨v1, 0, none⟩) (some ⟨v2, 0, none⟩) (some ⟨v3, 0, none⟩) ks1 ks2 ks3 kv1 kv2 kv3 S2 F2 E2 S3 F3 E3 (hide (RA6.out W d).1) (hide (RA6.out W d).2.1) (by omega) (by omega) (by omega) (by omega) (by omega) (by omega)
    rw [l.1, l.2.1, l.2.2.1, l.2.2.2.1, l.2.2.2.2.1, l.2.2.2.2.2.1] at t
    exact t)
  have TM6 : Hid (∀ W, Only W32 W (fun k => k = p6 ∨ k = p10 ∨ k = gt) → Calls Tryz.prog 35 #[.agg #[.int .i64 n, .int .i64 m, .slice (some ⟨g1, 0, none⟩) St.length kg1, .slice (some ⟨g2, 0, none⟩) Fi.length kg2, .slice (some ⟨g3, 0, none⟩) Ed.length kg3], .agg #[.int .i64 nb, .int .i64 mb, .slice (some ⟨f1, 0, none⟩) Sb.length kf1, .slice (some ⟨f2, 0, none⟩) Fb.length kf2, .slice (some ⟨f3, 0, none⟩) Eb.length kf3]] W (AnsR W (uniAns n m nb mb S2 F2 E2 S3 F3 E3))) := hide (fun W d => by
    have l := LS.out
    have t := runion_ans W n m nb mb (some ⟨g1, 0, none⟩) (some ⟨g2, 0, none⟩) (some ⟨g3, 0, none⟩) (some ⟨f1, 0, none⟩) (some ⟨f2, 0, none⟩) (some ⟨f3, 0, none⟩) kg1 kg2 kg3 kf1 kf2 kf3 S2 F2 E2 S3 F3 E3 (hide (RA6.out W d).2.2.1) (hide (RA6.out W d).2.2.2) (by omega) (by omega) (by omega) (by omega) (by omega) (by omega) KC.out.1 KC.out.2
    rw [l.1, l.2.1, l.2.2.1, l.2.2.2.1, l.2.2.2.2.1, l.2.2.2.2.2.1] at t
    exact t)
  have HL6 : Hid (LenA (uniAns n m nb mb S2 F2 E2 S3 F3 E3)) := hide (by have l := LS.out; exact uni_len n m nb mb S2 F2 E2 S3 F3 E3 (by omega) (by omega) (by omega) (by omega) (by omega) (by omega))
  generalize uniAns n m nb mb S2 F2 E2 S3 F3 E3 = r6 at TN6 TM6 HL6
  have TN7 : Hid (∀ W, Only W32 W (fun k => k = p6 ∨ k = p10 ∨ k = gt) → RdN W (some ⟨gt, 0, none⟩) T2 → Calls Tryz.prog 29 #[.agg #[.int .i64 n, .int .i64 m, .slice (some ⟨s1, 0, none⟩) St.length ks1, .slice (some ⟨s2, 0, none⟩) Fi.length ks2, .slice (some ⟨s3, 0, none⟩) Ed.length ks3], .int .i64 kk, .slice (some ⟨gt, 0, none⟩) To.length kt] W (AnsO W (widAns n m kk S2 F2 T2 E2))) := hide (fun W d dt => by
    have l := LS.out
    have t := widen_ans W n m kk (some ⟨s1, 0, none⟩) (some ⟨s2, 0, none⟩) (some ⟨s3, 0, none⟩) (some ⟨gt, 0, none⟩) ks1 ks2 ks3 kt S2 F2 T2 E2 (hide (RA6.out W d).1) (hide dt) (by omega) (by omega) (by omega) (by omega)
    rw [l.1, l.2.1, l.2.2.1, l.2.2.2.2.2.2] at t
    exact t)
  have TM7 : Hid (∀ W gg cc, Only W32 W (fun k => k = p6 ∨ k = p10 ∨ k = gt) → RdN W (some ⟨gg, 0, none⟩) T2 → Calls Tryz.prog 36 #[.agg #[.int .i64 n, .int .i64 m, .slice (some ⟨g1, 0, none⟩) St.length kg1, .slice (some ⟨g2, 0, none⟩) Fi.length kg2, .slice (some ⟨g3, 0, none⟩) Ed.length kg3], .int .i64 kk, .slice (some ⟨gg, 0, none⟩) To.length cc] W (AnsR W (widAns n m kk S2 F2 T2 E2))) := hide (fun W gg cc d dt => by
    have l := LS.out
    have t := rwiden_ans W n m kk (some ⟨g1, 0, none⟩) (some ⟨g2, 0, none⟩) (some ⟨g3, 0, none⟩) (some ⟨gg, 0, none⟩) kg1 kg2 kg3 cc S2 F2 T2 E2 (hide (RA6.out W d).2.2.1) (hide dt) (by omega) (by omega) (by omega) (by omega) KC.out.1
    rw [l.1, l.2.1, l.2.2.1, l.2.2.2.2.2.2] at t
    exact t)
  have HL7 : Hid (LenA (widAns n m kk S2 F2 T2 E2)) := hide (by have l := LS.out; exact wid_len n m kk S2 F2 T2 E2 (by omega) (by omega) (by omega))
  generalize widAns n m kk S2 F2 T2 E2 = r7 at TN7 TM7 HL7
  have TI : Hid (∀ W, RdN W (some ⟨gt, 0, none⟩) T2 → Calls Tryz.prog 11 #[.slice (some ⟨gt, 0, none⟩) To.length kt] W fun e w' => ∃ g c, e = .returned (.slice (some ⟨g, 0, none⟩) To.length c) ∧ Hid (Mk W.heap.size w' g c T2) ∧ Below W.heap.size W w') := hide (fun W dt => by
    have l := LS.out.2.2.2.2.2.2
    have t := ints_any W (some ⟨gt, 0, none⟩) T2 kt (hide dt) (by omega)
    rw [l] at t
    exact t)
  have TO : Hid (∀ W, Mk W3.heap.size W gt kt To → Calls Tryz.prog 38 #[.slice (some ⟨gt, 0, none⟩) To.length kt, .int .i64 kk] W fun e w' => e = .returned (.tuple #[]) ∧ Hid (Mk W3.heap.size w' gt kt T2) ∧ Hid (Only W w' (fun k => k = gt))) := hide (fun W dt => by
    have t := onward_any W W3.heap.size gt kt To kk (hide dt) (by omega)
    rw [HS.out.2.2.2.2.2.2] at t
    exact t)
  have FE : Hid (∀ W, Only W32 W (fun k => k = p6 ∨ k = p10 ∨ k = gt) → Below w.heap.size w W) := hide (fun W o => by
    have q := N6.out
    have s := F6.out.2.2.2.2.2.size
    exact F6.out.2.2.2.2.2.trans (o.toBelow s (fun k hk => by omega)))
  have GY : Hid (W32.heap[p6]? = some (.cells #[.int .i64 r4.n, .int .i64 r4.m, .slice xd1 r4.s.length kxd1, .slice xd2 r4.f.length kxd2, .slice xd3 r4.e.length kxd3] 25 (0, 0)) ∧ W32.heap[p10]? = some (.cells #[.int .i64 r4.n, .int .i64 r4.m, .slice zd1 r4.s.length kzd1, .slice zd2 r4.f.length kzd2, .slice zd3 r4.e.length kzd3] 25 (0, 0)) ∧ Mk W3.heap.size W32 gt kt To ∧ Only W32 W32 (fun k => k = p6 ∨ k = p10 ∨ k = gt)) := hide ⟨F6.out.2.1, F6.out.2.2.1, F6.out.2.2.2.2.1, Only.ofBelow (Below.refl _ _)⟩
  clear hA hB hO hT B0 D0 KW HD1 H2 H3 HP HPA HW3 F5 KK RA HPP N1 G31 H9 H10 GE G31c G32c OC F6 KC HS
  obtain ⟨⟨y0, y1, y2, y3, y4, y5, y6, y7, y8, y9, y10, y11, y12, y13, y14, y15⟩, ⟨ya0, ya1, ya2, ya3, ya4⟩, ⟨yb0, yb1, yb2, yb3, yb4⟩, ⟨yg0, yg1, yg2, yg3, yg4⟩, yh0, yh1, yh2, yh3, yh4⟩ := KK6.out W32 (GY.out.2.2.2)
  go_upto_region 34 with (first
    | (go_at_call 23; refine (TN5.out W32 GY.out.2.2.2).mono ?_; rintro e w34 ⟨xe1, kxe1, xe2, kxe2, xe3, kxe3, rfl, OA, DA⟩; have DB : Below W32.heap.size W32 w34 := DA; have ZA := blk_on (GY.out.1) DB; have yc0 : w34.cell? ⟨p6, 0, none⟩ = some (.int .i64 r4.n) := cell_of ZA rfl; have yf0 : w34.frozen? ⟨p6, 0, none⟩ = false := fz_of ZA; have yc1 : w34.cell? ⟨p6, 1, none⟩ = some (.int .i64 r4.m) := cell_of ZA rfl; have yf1 : w34.frozen? ⟨p6, 1, none⟩ = false := fz_of ZA; have yc2 : w34.cell? ⟨p6, 2, none⟩ = some (.slice xd1 r4.s.length kxd1) := cell_of ZA rfl; have yf2 : w34.frozen? ⟨p6, 2, none⟩ = false := fz_of ZA; have yc3 : w34.cell? ⟨p6, 3, none⟩ = some (.slice xd2 r4.f.length kxd2) := cell_of ZA rfl; have yf3 : w34.frozen? ⟨p6, 3, none⟩ = false := fz_of ZA; have yc4 : w34.cell? ⟨p6, 4, none⟩ = some (.slice xd3 r4.e.length kxd3) := cell_of ZA rfl; have yf4 : w34.frozen? ⟨p6, 4, none⟩ = false := fz_of ZA))
  obtain ⟨Y34, hX⟩ : ∃ X, ((((((((((w34).setCell ⟨p6, 0, none⟩ (.int .i64 r5.n))).setCell ⟨p6, 1, none⟩ (.int .i64 r5.m))).setCell ⟨p6, 2, none⟩ (.slice xe1 r5.s.length kxe1))).setCell ⟨p6, 3, none⟩ (.slice xe2 r5.f.length kxe2))).setCell ⟨p6, 4, none⟩ (.slice xe3 r5.e.length kxe3)) = X := ⟨_, rfl⟩
  have GY34 : Hid (Y34.heap[p6]? = some (.cells #[.int .i64 r5.n, .int .i64 r5.m, .slice xe1 r5.s.length kxe1, .slice xe2 r5.f.length kxe2, .slice xe3 r5.e.length kxe3] 25 (0, 0)) ∧ OwnO W32.heap.size Y34 (.slice xe1 r5.s.length kxe1) (.slice xe2 r5.f.length kxe2) (.slice xe3 r5.e.length kxe3) r5.s r5.f r5.e ∧ Only W32 Y34 (fun k => k = p6 ∨ k = p10 ∨ k = gt) ∧ Y34.heap[p10]? = some (.cells #[.int .i64 r4.n, .int .i64 r4.m, .slice zd1 r4.s.length kzd1, .slice zd2 r4.f.length kzd2, .slice zd3 r4.e.length kzd3] 25 (0, 0)) ∧ Mk W3.heap.size Y34 gt kt To) := hide (by
    have o5 := only5 w34 p6 (.int .i64 r5.n) (.int .i64 r5.m) (.slice xe1 r5.s.length kxe1) (.slice xe2 r5.f.length kxe2) (.slice xe3 r5.e.length kxe3)
    have z5 := set5 w34 p6 _ _ _ _ _ (.int .i64 r5.n) (.int .i64 r5.m) (.slice xe1 r5.s.length kxe1) (.slice xe2 r5.f.length kxe2) (.slice xe3 r5.e.length kxe3) 25 ZA
    rw [hX] at o5 z5
    have o6 : Only W32 Y34 (fun k => k = p6) := (Only.ofBelow DB).trans o5
    have q6 := N6.out
    exact ⟨z5, OA.out.keep ZA o5, (GY.out.2.2.2).trans (o6.mono fun k _ h => Or.inl h), o6.cellK (GY.out.2.1) (by omega), mk_onlyR (GY.out.2.2.1) o6 (by omega)⟩)
  rw [hX]
  clear hX OA DA DB ZA yc0 yf0 yc1 yf1 yc2 yf2 yc3 yf3 yc4 yf4 y0 y1 y2 y3 y4 y5 y6 y7 y8 y9 y10 y11 y12 y13 y14 y15 ya0 ya1 ya2 ya3 ya4 yb0 yb1 yb2 yb3 yb4 yg0 yg1 yg2 yg3 yg4 yh0 yh1 yh2 yh3 yh4
  obtain ⟨⟨y0, y1, y2, y3, y4, y5, y6, y7, y8, y9, y10, y11, y12, y13, y14, y15⟩, ⟨ya0, ya1, ya2, ya3, ya4⟩, ⟨yb0, yb1, yb2, yb3, yb4⟩, ⟨yg0, yg1, yg2, yg3, yg4⟩, yh0, yh1, yh2, yh3, yh4⟩ := KK6.out Y34 (GY34.out.2.2.1)
  go_upto_region 35 with (first
    | (go_at_call 34; refine (TM5.out Y34 GY34.out.2.2.1).mono ?_; rintro e w35 ⟨ze1, kze1, ze2, kze2, ze3, kze3, rfl, OA, DA⟩; have DB : Below Y34.heap.size Y34 w35 := DA; have ZA := blk_on (GY34.out.2.2.2.1) DB; have yc0 : w35.cell? ⟨p10, 0, none⟩ = some (.int .i64 r4.n) := cell_of ZA rfl; have yf0 : w35.frozen? ⟨p10, 0, none⟩ = false := fz_of ZA; have yc1 : w35.cell? ⟨p10, 1, none⟩ = some (.int .i64 r4.m) := cell_of ZA rfl; have yf1 : w35.frozen? ⟨p10, 1, none⟩ = false := fz_of ZA; have yc2 : w35.cell? ⟨p10, 2, none⟩ = some (.slice zd1 r4.s.length kzd1) := cell_of ZA rfl; have yf2 : w35.frozen? ⟨p10, 2, none⟩ = false := fz_of ZA; have yc3 : w35.cell? ⟨p10, 3, none⟩ = some (.slice zd2 r4.f.length kzd2) := cell_of ZA rfl; have yf3 : w35.frozen? ⟨p10, 3, none⟩ = false := fz_of ZA; have yc4 : w35.cell? ⟨p10, 4, none⟩ = some (.slice zd3 r4.e.length kzd3) := cell_of ZA rfl; have yf4 : w35.frozen? ⟨p10, 4, none⟩ = false := fz_of ZA))
  obtain ⟨Y35, hX⟩ : ∃ X, ((((((((((w35).setCell ⟨p10, 0, none⟩ (.int .i64 r5.n))).setCell ⟨p10, 1, none⟩ (.int .i64 r5.m))).setCell ⟨p10, 2, none⟩ (.slice ze1 r5.s.length kze1))).setCell ⟨p10, 3, none⟩ (.slice ze2 r5.f.length kze2))).setCell ⟨p10, 4, none⟩ (.slice ze3 r5.e.length kze3)) = X := ⟨_, rfl⟩
  have GY35 : Hid (Y35.heap[p10]? = some (.cells #[.int .i64 r5.n, .int .i64 r5.m, .slice ze1 r5.s.length kze1, .slice ze2 r5.f.length kze2, .slice ze3 r5.e.length kze3] 25 (0, 0)) ∧ OwnD Y34.heap.size Y35 (.slice ze1 r5.s.length kze1) (.slice ze2 r5.f.length kze2) (.slice ze3 r5.e.length kze3) r5.s r5.f r5.e ∧ Only W32 Y35 (fun k => k = p6 ∨ k = p10 ∨ k = gt) ∧ Y35.heap[p6]? = some (.cells #[.int .i64 r5.n, .int .i64 r5.m, .slice xe1 r5.s.length kxe1, .slice xe2 r5.f.length kxe2, .slice xe3 r5.e.length kxe3] 25 (0, 0)) ∧ Mk W3.heap.size Y35 gt kt To ∧ OwnO W32.heap.size Y35 (.slice xe1 r5.s.length kxe1) (.slice xe2 r5.f.length kxe2) (.slice xe3 r5.e.length kxe3) r5.s r5.f r5.e) := hide (by
    have o5 := only5 w35 p10 (.int .i64 r5.n) (.int .i64 r5.m) (.slice ze1 r5.s.length kze1) (.slice ze2 r5.f.length kze2) (.slice ze3 r5.e.length kze3)
    have z5 := set5 w35 p10 _ _ _ _ _ (.int .i64 r5.n) (.int .i64 r5.m) (.slice ze1 r5.s.length kze1) (.slice ze2 r5.f.length kze2) (.slice ze3 r5.e.length kze3) 25 ZA
    rw [hX] at o5 z5
    have o6 : Only Y34 Y35 (fun k => k = p10) := (Only.ofBelow DB).trans o5
    have q6 := N6.out
    exact ⟨z5, OA.out.keep ZA o5, (GY34.out.2.2.1).trans (o6.mono fun k _ h => Or.inr (Or.inl h)), o6.cellK (GY34.out.1) (by omega), mk_onlyR (GY34.out.2.2.2.2) o6 (by omega), ((GY34.out.2.1).on DB).keep ZA o5⟩)
  rw [hX]
  clear hX OA DA DB ZA yc0 yf0 yc1 yf1 yc2 yf2 yc3 yf3 yc4 yf4 y0 y1 y2 y3 y4 y5 y6 y7 y8 y9 y10 y11 y12 y13 y14 y15 ya0 ya1 ya2 ya3 ya4 yb0 yb1 yb2 yb3 yb4 yg0 yg1 yg2 yg3 yg4 yh0 yh1 yh2 yh3 yh4
  have yx0 : Y35.cell? ⟨p6, 0, none⟩ = some (.int .i64 r5.n) := cell_of GY35.out.2.2.2.1 rfl
  have yx1 : Y35.cell? ⟨p6, 1, none⟩ = some (.int .i64 r5.m) := cell_of GY35.out.2.2.2.1 rfl
  have yx2 : Y35.cell? ⟨p6, 2, none⟩ = some (.slice xe1 r5.s.length kxe1) := cell_of GY35.out.2.2.2.1 rfl
  have yx3 : Y35.cell? ⟨p6, 3, none⟩ = some (.slice xe2 r5.f.length kxe2) := cell_of GY35.out.2.2.2.1 rfl
  have yx4 : Y35.cell? ⟨p6, 4, none⟩ = some (.slice xe3 r5.e.length kxe3) := cell_of GY35.out.2.2.2.1 rfl
  have yz0 : Y35.cell? ⟨p10, 0, none⟩ = some (.int .i64 r5.n) := cell_of GY35.out.1 rfl
  have yz1 : Y35.cell? ⟨p10, 1, none⟩ = some (.int .i64 r5.m) := cell_of GY35.out.1 rfl
  have yz2 : Y35.cell? ⟨p10, 2, none⟩ = some (.slice ze1 r5.s.length kze1) := cell_of GY35.out.1 rfl
  have yz3 : Y35.cell? ⟨p10, 3, none⟩ = some (.slice ze2 r5.f.length kze2) := cell_of GY35.out.1 rfl
  have yz4 : Y35.cell? ⟨p10, 4, none⟩ = some (.slice ze3 r5.e.length kze3) := cell_of GY35.out.1 rfl
  have n0 : (r5.er != r5.er) = false := by simp
  go_upto_region 37 with (go_at_call 25; refine (equal_yes Y35 r5.n r5.m _ _ _ _ _ _ _ _ _ _ _ _ r5.s r5.f r5.e (hide (GY35.out.2.2.2.2.2).rd) (hide (GY35.out.2.1).rd) (by have := HL5.out.1; omega) (by have := HL5.out.2.1; omega) (by have := HL5.out.2.2; omega)).mono ?_; rintro e w37 ⟨rfl, DQ⟩)
  have Gw37 : Hid (w37.heap[p6]? = some (.cells #[.int .i64 r5.n, .int .i64 r5.m, .slice xe1 r5.s.length kxe1, .slice xe2 r5.f.length kxe2, .slice xe3 r5.e.length kxe3] 25 (0, 0)) ∧ w37.heap[p10]? = some (.cells #[.int .i64 r5.n, .int .i64 r5.m, .slice ze1 r5.s.length kze1, .slice ze2 r5.f.length kze2, .slice ze3 r5.e.length kze3] 25 (0, 0)) ∧ Mk W3.heap.size w37 gt kt To ∧ Only W32 w37 (fun k => k = p6 ∨ k = p10 ∨ k = gt)) := hide ⟨blk_on (GY35.out.2.2.2.1) DQ, blk_on (GY35.out.1) DQ, (GY35.out.2.2.2.2.1).on DQ (GY35.out.2.2.2.2.1).lt.2, (GY35.out.2.2.1).trans (Only.ofBelow DQ)⟩
  clear DQ n0 yx0 yz0 yx1 yz1 yx2 yz2 yx3 yz3 yx4 yz4
  clear GY GY34 GY35 TN5 TM5 HL5
  obtain ⟨⟨y0, y1, y2, y3, y4, y5, y6, y7, y8, y9, y10, y11, y12, y13, y14, y15⟩, ⟨ya0, ya1, ya2, ya3, ya4⟩, ⟨yb0, yb1, yb2, yb3, yb4⟩, ⟨yg0, yg1, yg2, yg3, yg4⟩, yh0, yh1, yh2, yh3, yh4⟩ := KK6.out w37 (Gw37.out.2.2.2)
  go_upto_region 38 with (first
    | (go_at_call 28; refine (TN6.out w37 Gw37.out.2.2.2).mono ?_; rintro e w38 ⟨xf1, kxf1, xf2, kxf2, xf3, kxf3, rfl, OA, DA⟩; have DB : Below w37.heap.size w37 w38 := DA; have ZA := blk_on (Gw37.out.1) DB; have yc0 : w38.cell? ⟨p6, 0, none⟩ = some (.int .i64 r5.n) := cell_of ZA rfl; have yf0 : w38.frozen? ⟨p6, 0, none⟩ = false := fz_of ZA; have yc1 : w38.cell? ⟨p6, 1, none⟩ = some (.int .i64 r5.m) := cell_of ZA rfl; have yf1 : w38.frozen? ⟨p6, 1, none⟩ = false := fz_of ZA; have yc2 : w38.cell? ⟨p6, 2, none⟩ = some (.slice xe1 r5.s.length kxe1) := cell_of ZA rfl; have yf2 : w38.frozen? ⟨p6, 2, none⟩ = false := fz_of ZA; have yc3 : w38.cell? ⟨p6, 3, none⟩ = some (.slice xe2 r5.f.length kxe2) := cell_of ZA rfl; have yf3 : w38.frozen? ⟨p6, 3, none⟩ = false := fz_of ZA; have yc4 : w38.cell? ⟨p6, 4, none⟩ = some (.slice xe3 r5.e.length kxe3) := cell_of ZA rfl; have yf4 : w38.frozen? ⟨p6, 4, none⟩ = false := fz_of ZA))
  obtain ⟨Y38, hX⟩ : ∃ X, ((((((((((w38).setCell ⟨p6, 0, none⟩ (.int .i64 r6.n))).setCell ⟨p6, 1, none⟩ (.int .i64 r6.m))).setCell ⟨p6, 2, none⟩ (.slice xf1 r6.s.length kxf1))).setCell ⟨p6, 3, none⟩ (.slice xf2 r6.f.length kxf2))).setCell ⟨p6, 4, none⟩ (.slice xf3 r6.e.length kxf3)) = X := ⟨_, rfl⟩
  have GY38 : Hid (Y38.heap[p6]? = some (.cells #[.int .i64 r6.n, .int .i64 r6.m, .slice xf1 r6.s.length kxf1, .slice xf2 r6.f.length kxf2, .slice xf3 r6.e.length kxf3] 25 (0, 0)) ∧ OwnO w37.heap.size Y38 (.slice xf1 r6.s.length kxf1) (.slice xf2 r6.f.length kxf2) (.slice xf3 r6.e.length kxf3) r6.s r6.f r6.e ∧ Only W32 Y38 (fun k => k = p6 ∨ k = p10 ∨ k = gt) ∧ Y38.heap[p10]? = some (.cells #[.int .i64 r5.n, .int .i64 r5.m, .slice ze1 r5.s.length kze1, .slice ze2 r5.f.length kze2, .slice ze3 r5.e.length kze3] 25 (0, 0)) ∧ Mk W3.heap.size Y38 gt kt To) := hide (by
    have o5 := only5 w38 p6 (.int .i64 r6.n) (.int .i64 r6.m) (.slice xf1 r6.s.length kxf1) (.slice xf2 r6.f.length kxf2) (.slice xf3 r6.e.length kxf3)
    have z5 := set5 w38 p6 _ _ _ _ _ (.int .i64 r6.n) (.int .i64 r6.m) (.slice xf1 r6.s.length kxf1) (.slice xf2 r6.f.length kxf2) (.slice xf3 r6.e.length kxf3) 25 ZA
    rw [hX] at o5 z5
    have o6 : Only w37 Y38 (fun k => k = p6) := (Only.ofBelow DB).trans o5
    have q6 := N6.out
    exact ⟨z5, OA.out.keep ZA o5, (Gw37.out.2.2.2).trans (o6.mono fun k _ h => Or.inl h), o6.cellK (Gw37.out.2.1) (by omega), mk_onlyR (Gw37.out.2.2.1) o6 (by omega)⟩)
  rw [hX]
  clear hX OA DA DB ZA yc0 yf0 yc1 yf1 yc2 yf2 yc3 yf3 yc4 yf4 y0 y1 y2 y3 y4 y5 y6 y7 y8 y9 y10 y11 y12 y13 y14 y15 ya0 ya1 ya2 ya3 ya4 yb0 yb1 yb2 yb3 yb4 yg0 yg1 yg2 yg3 yg4 yh0 yh1 yh2 yh3 yh4
  obtain ⟨⟨y0, y1, y2, y3, y4, y5, y6, y7, y8, y9, y10, y11, y12, y13, y14, y15⟩, ⟨ya0, ya1, ya2, ya3, ya4⟩, ⟨yb0, yb1, yb2, yb3, yb4⟩, ⟨yg0, yg1, yg2, yg3, yg4⟩, yh0, yh1, yh2, yh3, yh4⟩ := KK6.out Y38 (GY38.out.2.2.1)
  go_upto_region 39 with (first
    | (go_at_call 35; refine (TM6.out Y38 GY38.out.2.2.1).mono ?_; rintro e w39 ⟨zf1, kzf1, zf2, kzf2, zf3, kzf3, rfl, OA, DA⟩; have DB : Below Y38.heap.size Y38 w39 := DA; have ZA := blk_on (GY38.out.2.2.2.1) DB; have yc0 : w39.cell? ⟨p10, 0, none⟩ = some (.int .i64 r5.n) := cell_of ZA rfl; have yf0 : w39.frozen? ⟨p10, 0, none⟩ = false := fz_of ZA; have yc1 : w39.cell? ⟨p10, 1, none⟩ = some (.int .i64 r5.m) := cell_of ZA rfl; have yf1 : w39.frozen? ⟨p10, 1, none⟩ = false := fz_of ZA; have yc2 : w39.cell? ⟨p10, 2, none⟩ = some (.slice ze1 r5.s.length kze1) := cell_of ZA rfl; have yf2 : w39.frozen? ⟨p10, 2, none⟩ = false := fz_of ZA; have yc3 : w39.cell? ⟨p10, 3, none⟩ = some (.slice ze2 r5.f.length kze2) := cell_of ZA rfl; have yf3 : w39.frozen? ⟨p10, 3, none⟩ = false := fz_of ZA; have yc4 : w39.cell? ⟨p10, 4, none⟩ = some (.slice ze3 r5.e.length kze3) := cell_of ZA rfl; have yf4 : w39.frozen? ⟨p10, 4, none⟩ = false := fz_of ZA))
  obtain ⟨Y39, hX⟩ : ∃ X, ((((((((((w39).setCell ⟨p10, 0, none⟩ (.int .i64 r6.n))).setCell ⟨p10, 1, none⟩ (.int .i64 r6.m))).setCell ⟨p10, 2, none⟩ (.slice zf1 r6.s.length kzf1))).setCell ⟨p10, 3, none⟩ (.slice zf2 r6.f.length kzf2))).setCell ⟨p10, 4, none⟩ (.slice zf3 r6.e.length kzf3)) = X := ⟨_, rfl⟩
  have GY39 : Hid (Y39.heap[p10]? = some (.cells #[.int .i64 r6.n, .int .i64 r6.m, .slice zf1 r6.s.length kzf1, .slice zf2 r6.f.length kzf2, .slice zf3 r6.e.length kzf3] 25 (0, 0)) ∧ OwnD Y38.heap.size Y39 (.slice zf1 r6.s.length kzf1) (.slice zf2 r6.f.length kzf2) (.slice zf3 r6.e.length kzf3) r6.s r6.f r6.e ∧ Only W32 Y39 (fun k => k = p6 ∨ k = p10 ∨ k = gt) ∧ Y39.heap[p6]? = some (.cells #[.int .i64 r6.n, .int .i64 r6.m, .slice xf1 r6.s.length kxf1, .slice xf2 r6.f.length kxf2, .slice xf3 r6.e.length kxf3] 25 (0, 0)) ∧ Mk W3.heap.size Y39 gt kt To ∧ OwnO w37.heap.size Y39 (.slice xf1 r6.s.length kxf1) (.slice xf2 r6.f.length kxf2) (.slice xf3 r6.e.length kxf3) r6.s r6.f r6.e) := hide (by
    have o5 := only5 w39 p10 (.int .i64 r6.n) (.int .i64 r6.m) (.slice zf1 r6.s.length kzf1) (.slice zf2 r6.f.length kzf2) (.slice zf3 r6.e.length kzf3)
    have z5 := set5 w39 p10 _ _ _ _ _ (.int .i64 r6.n) (.int .i64 r6.m) (.slice zf1 r6.s.length kzf1) (.slice zf2 r6.f.length kzf2) (.slice zf3 r6.e.length kzf3) 25 ZA
    rw [hX] at o5 z5
    have o6 : Only Y38 Y39 (fun k => k = p10) := (Only.ofBelow DB).trans o5
    have q6 := N6.out
    exact ⟨z5, OA.out.keep ZA o5, (GY38.out.2.2.1).trans (o6.mono fun k _ h => Or.inr (Or.inl h)), o6.cellK (GY38.out.1) (by omega), mk_onlyR (GY38.out.2.2.2.2) o6 (by omega), ((GY38.out.2.1).on DB).keep ZA o5⟩)
  rw [hX]
  clear hX OA DA DB ZA yc0 yf0 yc1 yf1 yc2 yf2 yc3 yf3 yc4 yf4 y0 y1 y2 y3 y4 y5 y6 y7 y8 y9 y10 y11 y12 y13 y14 y15 ya0 ya1 ya2 ya3 ya4 yb0 yb1 yb2 yb3 yb4 yg0 yg1 yg2 yg3 yg4 yh0 yh1 yh2 yh3 yh4
  have yx0 : Y39.cell? ⟨p6, 0, none⟩ = some (.int .i64 r6.n) := cell_of GY39.out.2.2.2.1 rfl
  have yx1 : Y39.cell? ⟨p6, 1, none⟩ = some (.int .i64 r6.m) := cell_of GY39.out.2.2.2.1 rfl
  have yx2 : Y39.cell? ⟨p6, 2, none⟩ = some (.slice xf1 r6.s.length kxf1) := cell_of GY39.out.2.2.2.1 rfl
  have yx3 : Y39.cell? ⟨p6, 3, none⟩ = some (.slice xf2 r6.f.length kxf2) := cell_of GY39.out.2.2.2.1 rfl
  have yx4 : Y39.cell? ⟨p6, 4, none⟩ = some (.slice xf3 r6.e.length kxf3) := cell_of GY39.out.2.2.2.1 rfl
  have yz0 : Y39.cell? ⟨p10, 0, none⟩ = some (.int .i64 r6.n) := cell_of GY39.out.1 rfl
  have yz1 : Y39.cell? ⟨p10, 1, none⟩ = some (.int .i64 r6.m) := cell_of GY39.out.1 rfl
  have yz2 : Y39.cell? ⟨p10, 2, none⟩ = some (.slice zf1 r6.s.length kzf1) := cell_of GY39.out.1 rfl
  have yz3 : Y39.cell? ⟨p10, 3, none⟩ = some (.slice zf2 r6.f.length kzf2) := cell_of GY39.out.1 rfl
  have yz4 : Y39.cell? ⟨p10, 4, none⟩ = some (.slice zf3 r6.e.length kzf3) := cell_of GY39.out.1 rfl
  have n0 : (r6.er != r6.er) = false := by simp
  go_upto_region 41 with (go_at_call 25; refine (equal_yes Y39 r6.n r6.m _ _ _ _ _ _ _ _ _ _ _ _ r6.s r6.f r6.e (hide (GY39.out.2.2.2.2.2).rd) (hide (GY39.out.2.1).rd) (by have := HL6.out.1; omega) (by have := HL6.out.2.1; omega) (by have := HL6.out.2.2; omega)).mono ?_; rintro e w41 ⟨rfl, DQ⟩)
  have Gw41 : Hid (w41.heap[p6]? = some (.cells #[.int .i64 r6.n, .int .i64 r6.m, .slice xf1 r6.s.length kxf1, .slice xf2 r6.f.length kxf2, .slice xf3 r6.e.length kxf3] 25 (0, 0)) ∧ w41.heap[p10]? = some (.cells #[.int .i64 r6.n, .int .i64 r6.m, .slice zf1 r6.s.length kzf1, .slice zf2 r6.f.length kzf2, .slice zf3 r6.e.length kzf3] 25 (0, 0)) ∧ Mk W3.heap.size w41 gt kt To ∧ Only W32 w41 (fun k => k = p6 ∨ k = p10 ∨ k = gt)) := hide ⟨blk_on (GY39.out.2.2.2.1) DQ, blk_on (GY39.out.1) DQ, (GY39.out.2.2.2.2.1).on DQ (GY39.out.2.2.2.2.1).lt.2, (GY39.out.2.2.1).trans (Only.ofBelow DQ)⟩
  clear DQ n0 yx0 yz0 yx1 yz1 yx2 yz2 yx3 yz3 yx4 yz4
  clear Gw37 GY38 GY39 TN6 TM6 HL6
  obtain ⟨⟨y0, y1, y2, y3, y4, y5, y6, y7, y8, y9, y10, y11, y12, y13, y14, y15⟩, ⟨ya0, ya1, ya2, ya3, ya4⟩, ⟨yb0, yb1, yb2, yb3, yb4⟩, ⟨yg0, yg1, yg2, yg3, yg4⟩, yh0, yh1, yh2, yh3, yh4⟩ := KK6.out w41 (Gw41.out.2.2.2)
  go_upto_region 42 with (go_at_call 38; refine (TO.out w41 Gw41.out.2.2.1).mono ?_; rintro e w42 ⟨rfl, M42, O42⟩)
  have G42 : Hid (w42.heap[p6]? = some (.cells #[.int .i64 r6.n, .int .i64 r6.m, .slice xf1 r6.s.length kxf1, .slice xf2 r6.f.length kxf2, .slice xf3 r6.e.length kxf3] 25 (0, 0)) ∧ w42.heap[p10]? = some (.cells #[.int .i64 r6.n, .int .i64 r6.m, .slice zf1 r6.s.length kzf1, .slice zf2 r6.f.length kzf2, .slice zf3 r6.e.length kzf3] 25 (0, 0)) ∧ Mk W3.heap.size w42 gt kt T2 ∧ Only W32 w42 (fun k => k = p6 ∨ k = p10 ∨ k = gt)) := hide (by
    have q6 := N6.out
    exact ⟨O42.out.cellK Gw41.out.1 (by omega), O42.out.cellK Gw41.out.2.1 (by omega), M42.out, Gw41.out.2.2.2.trans (O42.out.mono fun k _ h => Or.inr (Or.inr h))⟩)
  clear O42 M42 Gw41 TO y0 y1 y2 y3 y4 y5 y6 y7 y8 y9 y10 y11 y12 y13 y14 y15 ya0 ya1 ya2 ya3 ya4 yb0 yb1 yb2 yb3 yb4 yg0 yg1 yg2 yg3 yg4 yh0 yh1 yh2 yh3 yh4
  have SO6 : Hid (∀ W, Only W32 W (fun k => k = p6 ∨ k = p10 ∨ k = gt) → (fun W => W.cell? ⟨pc, 0, none⟩ = some (.int .i64 n) ∧ W.cell? ⟨pc, 1, none⟩ = some (.int .i64 m) ∧ W.cell? ⟨pc, 2, none⟩ = some (.slice (some ⟨g1, 0, none⟩) St.length kg1) ∧ W.cell? ⟨pc, 3, none⟩ = some (.slice (some ⟨g2, 0, none⟩) Fi.length kg2) ∧ W.cell? ⟨pc, 4, none⟩ = some (.slice (some ⟨g3, 0, none⟩) Ed.length kg3) ∧ W.cell? ⟨w.heap.size, 14, none⟩ = some (.int .i64 kk)) W) := hide (fun W o => by
    obtain ⟨⟨y0, y1, y2, y3, y4, y5, y6, y7, y8, y9, y10, y11, y12, y13, y14, y15⟩, ⟨ya0, ya1, ya2, ya3, ya4⟩, ⟨yb0, yb1, yb2, yb3, yb4⟩, ⟨yg0, yg1, yg2, yg3, yg4⟩, yh0, yh1, yh2, yh3, yh4⟩ := KK6.out W o
    exact ⟨yg0, yg1, yg2, yg3, yg4, y14⟩)
  have OD6 : Hid (∀ W, Below w42.heap.size w42 W → Only W32 W (fun k => k = p6 ∨ k = p10 ∨ k = gt)) := hide (fun W d => (G42.out.2.2.2).trans (Only.ofBelow d))
  have S0 := SO6.out w42.drew (OD6.out _ (Below.refl _ _).drew)
  go_region_held3 (fun W => W.cell? ⟨pc, 0, none⟩ = some (.int .i64 n) ∧ W.cell? ⟨pc, 1, none⟩ = some (.int .i64 m) ∧ W.cell? ⟨pc, 2, none⟩ = some (.slice (some ⟨g1, 0, none⟩) St.length kg1) ∧ W.cell? ⟨pc, 3, none⟩ = some (.slice (some ⟨g2, 0, none⟩) Fi.length kg2) ∧ W.cell? ⟨pc, 4, none⟩ = some (.slice (some ⟨g3, 0, none⟩) Ed.length kg3) ∧ W.cell? ⟨w.heap.size, 14, none⟩ = some (.int .i64 kk))
    (with_reducible assumption)
    ((first
      | (go_at_call 11; refine (TI.out _ (G42.out.2.2.1.rd.on (Below.refl _ w42).drew)).mono ?_; rintro e wi ⟨gi, ci, rfl, MI, DI0⟩; have DI : Below w42.heap.size w42 wi := ⟨DI0.os, DI0.tape, DI0.output, DI0.size, DI0.block⟩; have HI := hide DI; have Si := SO6.out wi (OD6.out _ DI); clear DI DI0)
      | (go_at_call 36; refine (TM7.out wi gi ci (OD6.out _ HI.out) MI.out.rd).mono ?_; rintro e w43 ⟨zg1, kzg1, zg2, kzg2, zg3, kzg3, rfl, OA, DA⟩; have DB : Below w42.heap.size w42 w43 := HI.out.trans (DA.mono HI.out.size); have ZA := blk_on (G42.out.2.1) DB; have yc0 : w43.cell? ⟨p10, 0, none⟩ = some (.int .i64 r6.n) := cell_of ZA rfl; have yf0 : w43.frozen? ⟨p10, 0, none⟩ = false := fz_of ZA; have yc1 : w43.cell? ⟨p10, 1, none⟩ = some (.int .i64 r6.m) := cell_of ZA rfl; have yf1 : w43.frozen? ⟨p10, 1, none⟩ = false := fz_of ZA; have yc2 : w43.cell? ⟨p10, 2, none⟩ = some (.slice zf1 r6.s.length kzf1) := cell_of ZA rfl; have yf2 : w43.frozen? ⟨p10, 2, none⟩ = false := fz_of ZA; have yc3 : w43.cell? ⟨p10, 3, none⟩ = some (.slice zf2 r6.f.length kzf2) := cell_of ZA rfl; have yf3 : w43.frozen? ⟨p10, 3, none⟩ = false := fz_of ZA; have yc4 : w43.cell? ⟨p10, 4, none⟩ = some (.slice zf3 r6.e.length kzf3) := cell_of ZA rfl; have yf4 : w43.frozen? ⟨p10, 4, none⟩ = false := fz_of ZA; have Sj := SO6.out w43 (OD6.out _ DB); have S5 := SO6.out (((((((((((w43).setCell ⟨p10, 0, none⟩ (.int .i64 r7.n))).setCell ⟨p10, 1, none⟩ (.int .i64 r7.m))).setCell ⟨p10, 2, none⟩ (.slice zg1 r7.s.length kzg1))).setCell ⟨p10, 3, none⟩ (.slice zg2 r7.f.length kzg2))).setCell ⟨p10, 4, none⟩ (.slice zg3 r7.e.length kzg3))) ((OD6.out _ DB).trans ((only5 w43 p10 (.int .i64 r7.n) (.int .i64 r7.m) (.slice zg1 r7.s.length kzg1) (.slice zg2 r7.f.length kzg2) (.slice zg3 r7.e.length kzg3)).mono fun k _ h => Or.inr (Or.inl h))); have HDB := hide DB; have HZA := hide ZA; clear DB ZA DA)))
  clear S0 Si Sj S5
  obtain ⟨Y43, hX⟩ : ∃ X, ((((((((((w43).setCell ⟨p10, 0, none⟩ (.int .i64 r7.n))).setCell ⟨p10, 1, none⟩ (.int .i64 r7.m))).setCell ⟨p10, 2, none⟩ (.slice zg1 r7.s.length kzg1))).setCell ⟨p10, 3, none⟩ (.slice zg2 r7.f.length kzg2))).setCell ⟨p10, 4, none⟩ (.slice zg3 r7.e.length kzg3)) = X := ⟨_, rfl⟩
  have GY43 : Hid (Y43.heap[p10]? = some (.cells #[.int .i64 r7.n, .int .i64 r7.m, .slice zg1 r7.s.length kzg1, .slice zg2 r7.f.length kzg2, .slice zg3 r7.e.length kzg3] 25 (0, 0)) ∧ OwnD wi.heap.size Y43 (.slice zg1 r7.s.length kzg1) (.slice zg2 r7.f.length kzg2) (.slice zg3 r7.e.length kzg3) r7.s r7.f r7.e ∧ Only W32 Y43 (fun k => k = p6 ∨ k = p10 ∨ k = gt) ∧ Y43.heap[p6]? = some (.cells #[.int .i64 r6.n, .int .i64 r6.m, .slice xf1 r6.s.length kxf1, .slice xf2 r6.f.length kxf2, .slice xf3 r6.e.length kxf3] 25 (0, 0)) ∧ Mk W3.heap.size Y43 gt kt T2) := hide (by
    have o5 := only5 w43 p10 (.int .i64 r7.n) (.int .i64 r7.m) (.slice zg1 r7.s.length kzg1) (.slice zg2 r7.f.length kzg2) (.slice zg3 r7.e.length kzg3)
    have z5 := set5 w43 p10 _ _ _ _ _ (.int .i64 r7.n) (.int .i64 r7.m) (.slice zg1 r7.s.length kzg1) (.slice zg2 r7.f.length kzg2) (.slice zg3 r7.e.length kzg3) 25 HZA.out
    rw [hX] at o5 z5
    have o6 : Only w42 Y43 (fun k => k = p10) := (Only.ofBelow HDB.out).trans o5
    have q6 := N6.out
    exact ⟨z5, OA.out.keep HZA.out o5, (G42.out.2.2.2).trans (o6.mono fun k _ h => Or.inr (Or.inl h)), o6.cellK (G42.out.1) (by omega), mk_onlyR (G42.out.2.2.1) o6 (by omega)⟩)
  rw [hX]
  clear hX OA HDB HZA yc0 yf0 yc1 yf1 yc2 yf2 yc3 yf3 yc4 yf4 HI MI SO6 OD6 G42 TM7 TI
  obtain ⟨⟨y0, y1, y2, y3, y4, y5, y6, y7, y8, y9, y10, y11, y12, y13, y14, y15⟩, ⟨ya0, ya1, ya2, ya3, ya4⟩, ⟨yb0, yb1, yb2, yb3, yb4⟩, ⟨yg0, yg1, yg2, yg3, yg4⟩, yh0, yh1, yh2, yh3, yh4⟩ := KK6.out Y43 (GY43.out.2.2.1)
  go_upto_region 44 with (first
    | (go_at_call 29; refine (TN7.out Y43 GY43.out.2.2.1 GY43.out.2.2.2.2.rd).mono ?_; rintro e w44 ⟨xg1, kxg1, xg2, kxg2, xg3, kxg3, rfl, OA, DA⟩; have DB : Below Y43.heap.size Y43 w44 := DA; have ZA := blk_on (GY43.out.2.2.2.1) DB; have yc0 : w44.cell? ⟨p6, 0, none⟩ = some (.int .i64 r6.n) := cell_of ZA rfl; have yf0 : w44.frozen? ⟨p6, 0, none⟩ = false := fz_of ZA; have yc1 : w44.cell? ⟨p6, 1, none⟩ = some (.int .i64 r6.m) := cell_of ZA rfl; have yf1 : w44.frozen? ⟨p6, 1, none⟩ = false := fz_of ZA; have yc2 : w44.cell? ⟨p6, 2, none⟩ = some (.slice xf1 r6.s.length kxf1) := cell_of ZA rfl; have yf2 : w44.frozen? ⟨p6, 2, none⟩ = false := fz_of ZA; have yc3 : w44.cell? ⟨p6, 3, none⟩ = some (.slice xf2 r6.f.length kxf2) := cell_of ZA rfl; have yf3 : w44.frozen? ⟨p6, 3, none⟩ = false := fz_of ZA; have yc4 : w44.cell? ⟨p6, 4, none⟩ = some (.slice xf3 r6.e.length kxf3) := cell_of ZA rfl; have yf4 : w44.frozen? ⟨p6, 4, none⟩ = false := fz_of ZA))
  obtain ⟨Y44, hX⟩ : ∃ X, ((((((((((w44).setCell ⟨p6, 0, none⟩ (.int .i64 r7.n))).setCell ⟨p6, 1, none⟩ (.int .i64 r7.m))).setCell ⟨p6, 2, none⟩ (.slice xg1 r7.s.length kxg1))).setCell ⟨p6, 3, none⟩ (.slice xg2 r7.f.length kxg2))).setCell ⟨p6, 4, none⟩ (.slice xg3 r7.e.length kxg3)) = X := ⟨_, rfl⟩
  have GY44 : Hid (Y44.heap[p6]? = some (.cells #[.int .i64 r7.n, .int .i64 r7.m, .slice xg1 r7.s.length kxg1, .slice xg2 r7.f.length kxg2, .slice xg3 r7.e.length kxg3] 25 (0, 0)) ∧ OwnO Y43.heap.size Y44 (.slice xg1 r7.s.length kxg1) (.slice xg2 r7.f.length kxg2) (.slice xg3 r7.e.length kxg3) r7.s r7.f r7.e ∧ Only W32 Y44 (fun k => k = p6 ∨ k = p10 ∨ k = gt) ∧ Y44.heap[p10]? = some (.cells #[.int .i64 r7.n, .int .i64 r7.m, .slice zg1 r7.s.length kzg1, .slice zg2 r7.f.length kzg2, .slice zg3 r7.e.length kzg3] 25 (0, 0)) ∧ Mk W3.heap.size Y44 gt kt T2 ∧ OwnD wi.heap.size Y44 (.slice zg1 r7.s.length kzg1) (.slice zg2 r7.f.length kzg2) (.slice zg3 r7.e.length kzg3) r7.s r7.f r7.e) := hide (by
    have o5 := only5 w44 p6 (.int .i64 r7.n) (.int .i64 r7.m) (.slice xg1 r7.s.length kxg1) (.slice xg2 r7.f.length kxg2) (.slice xg3 r7.e.length kxg3)
    have z5 := set5 w44 p6 _ _ _ _ _ (.int .i64 r7.n) (.int .i64 r7.m) (.slice xg1 r7.s.length kxg1) (.slice xg2 r7.f.length kxg2) (.slice xg3 r7.e.length kxg3) 25 ZA
    rw [hX] at o5 z5
    have o6 : Only Y43 Y44 (fun k => k = p6) := (Only.ofBelow DB).trans o5
    have q6 := N6.out
    exact ⟨z5, OA.out.keep ZA o5, (GY43.out.2.2.1).trans (o6.mono fun k _ h => Or.inl h), o6.cellK (GY43.out.1) (by omega), mk_onlyR (GY43.out.2.2.2.2) o6 (by omega), ((GY43.out.2.1).on DB).keep ZA o5⟩)
  rw [hX]
  clear hX OA DA DB ZA yc0 yf0 yc1 yf1 yc2 yf2 yc3 yf3 yc4 yf4 y0 y1 y2 y3 y4 y5 y6 y7 y8 y9 y10 y11 y12 y13 y14 y15 ya0 ya1 ya2 ya3 ya4 yb0 yb1 yb2 yb3 yb4 yg0 yg1 yg2 yg3 yg4 yh0 yh1 yh2 yh3 yh4
  have yx0 : Y44.cell? ⟨p6, 0, none⟩ = some (.int .i64 r7.n) := cell_of GY44.out.1 rfl
  have yx1 : Y44.cell? ⟨p6, 1, none⟩ = some (.int .i64 r7.m) := cell_of GY44.out.1 rfl
  have yx2 : Y44.cell? ⟨p6, 2, none⟩ = some (.slice xg1 r7.s.length kxg1) := cell_of GY44.out.1 rfl
  have yx3 : Y44.cell? ⟨p6, 3, none⟩ = some (.slice xg2 r7.f.length kxg2) := cell_of GY44.out.1 rfl
  have yx4 : Y44.cell? ⟨p6, 4, none⟩ = some (.slice xg3 r7.e.length kxg3) := cell_of GY44.out.1 rfl
  have yz0 : Y44.cell? ⟨p10, 0, none⟩ = some (.int .i64 r7.n) := cell_of GY44.out.2.2.2.1 rfl
  have yz1 : Y44.cell? ⟨p10, 1, none⟩ = some (.int .i64 r7.m) := cell_of GY44.out.2.2.2.1 rfl
  have yz2 : Y44.cell? ⟨p10, 2, none⟩ = some (.slice zg1 r7.s.length kzg1) := cell_of GY44.out.2.2.2.1 rfl
  have yz3 : Y44.cell? ⟨p10, 3, none⟩ = some (.slice zg2 r7.f.length kzg2) := cell_of GY44.out.2.2.2.1 rfl
  have yz4 : Y44.cell? ⟨p10, 4, none⟩ = some (.slice zg3 r7.e.length kzg3) := cell_of GY44.out.2.2.2.1 rfl
  have n0 : (r7.er == r7.er) = true := by simp
  go_wp2_with (go_at_call 25; refine (equal_yes Y44 r7.n r7.m _ _ _ _ _ _ _ _ _ _ _ _ r7.s r7.f r7.e (hide GY44.out.2.1.rd) (hide GY44.out.2.2.2.2.2.rd) (by have := HL7.out.1; omega) (by have := HL7.out.2.1; omega) (by have := HL7.out.2.2; omega)).mono ?_; rintro e w45 ⟨rfl, DQ⟩)
  refine bodyPost_ret (results_tmp rfl _ _ _) rfl ?_
  exact ⟨rfl, FE.out w45 (GY44.out.2.2.1.trans (Only.ofBelow DQ))⟩

end Go.Proofs.YtfoahpideglghaaGreatDoor
