import Derived.Test.YtfoahpideglghaaGreatDoorYm
import Derived.Test.YtfoahpideglghaaGreatDoorZN
import Derived.Test.YtfoahpideglghaaGreatDoorWS
import Derived.Deep.RegionHeld3
namespace Go.Proofs.YtfoahpideglghaaGreatDoor
open Go.RowKit Go.Maps Go.Shelf
attribute [local go_sem] Oper.semAt_some

theorem aftL_lenB {b : Nat} {Ed : List EdT} {S Wd : List Int} (hs : S.length ≤ b) (h3 : Ed.length ≤ b) : (aftL Ed S Wd).length ≤ b := by
  rcases Wd.eq_nil_or_concat with rfl | ⟨l, y, rfl⟩
  · exact hs
  · unfold aftL
    rw [List.concat_eq_append, List.foldl_append]
    exact Nat.le_trans (riseL_len _) (Nat.le_trans (imgL_len _ _ _ _) h3)
theorem aftA_lenB {b : Nat} {n m : Int} {St Fi : List Int} {Ed : List EdT} {Wd : List Int} (h1 : St.length ≤ b) (h3 : Ed.length ≤ b) : (aftA n m St Fi Ed Wd).1.length ≤ b := by
  unfold aftA
  by_cases e0 : wordErr n m St Fi Ed Wd = 0
  · rw [if_pos e0]; exact aftL_lenB (Nat.le_trans (riseL_len St) h1) h3
  · rw [if_neg e0]; exact Nat.zero_le _
theorem imgA_lenB {b : Nat} {back : Bool} {n m : Int} {St Fi : List Int} {Ed : List EdT} {Q : List Int} {sym : Int} (h : Ed.length ≤ b) : (imgA back n m St Fi Ed Q sym).1.length ≤ b := by
  unfold imgA
  by_cases e0 : imgErr n m St Fi Ed Q sym = 0
  · rw [if_pos e0]; exact Nat.le_trans (riseL_len _) (Nat.le_trans (imgL_len _ _ _ _) h)
  · rw [if_neg e0]; exact Nat.zero_le _
theorem pthA_lenB {n m : Int} {St Fi : List Int} {Ed : List EdT} {Wd : List Int} (h : Wd.length ≤ 1048576) : (pthA n m St Fi Ed Wd).1.length ≤ 4194000 := by
  unfold pthA
  by_cases e0 : wordErr n m St Fi Ed Wd = 0
  · rw [if_pos e0]
    cases hp : pthR Ed Fi Wd (riseL St) with
    | none => exact Nat.zero_le _
    | some L =>
      have := pthR_len _ _ _ hp
      show L.length ≤ _
      omega
  · rw [if_neg e0]; exact Nat.zero_le _
def In4 (x1 x2 x3 x4 : Value) (b : Nat) : Prop := x1.ownBlock = some b ∨ x2.ownBlock = some b ∨ x3.ownBlock = some b ∨ x4.ownBlock = some b
def g4 {α : Type} (p q r s : α) : Nat → α
  | 0 => p
  | 1 => q
  | 2 => r
  | _ => s
theorem over4 (w : World) (b1 b2 b3 b4 : Option Addr) (k1 k2 k3 k4 : Nat) (L1 L2 L3 L4 : List Int) (t1 : w.ownsRow 0 3 1 (.slice b1 L1.length k1) L1.length (L1.map (Value.int .i64))) (t2 : w.ownsRow 0 3 1 (.slice b2 L2.length k2) L2.length (L2.map (Value.int .i64))) (t3 : w.ownsRow 0 3 1 (.slice b3 L3.length k3) L3.length (L3.map (Value.int .i64))) (t4 : w.ownsRow 0 3 1 (.slice b4 L4.length k4) L4.length (L4.map (Value.int .i64)))
    (n12 : ∀ k, (Value.slice b1 L1.length k1).ownBlock = some k → (Value.slice b2 L2.length k2).ownBlock ≠ some k) (n13 : ∀ k, (Value.slice b1 L1.length k1).ownBlock = some k → (Value.slice b3 L3.length k3).ownBlock ≠ some k) (n14 : ∀ k, (Value.slice b1 L1.length k1).ownBlock = some k → (Value.slice b4 L4.length k4).ownBlock ≠ some k) (n23 : ∀ k, (Value.slice b2 L2.length k2).ownBlock = some k → (Value.slice b3 L3.length k3).ownBlock ≠ some k) (n24 : ∀ k, (Value.slice b2 L2.length k2).ownBlock = some k → (Value.slice b4 L4.length k4).ownBlock ≠ some k) (n34 : ∀ k, (Value.slice b3 L3.length k3).ownBlock = some k → (Value.slice b4 L4.length k4).ownBlock ≠ some k)
    (h1 : L1.length ≤ 4194000) (h2 : L2.length ≤ 4194000) (h3 : L3.length ≤ 4194000) (h4 : L4.length ≤ 4194000) :
    Calls Tryz.prog 47 #[.slice (some ⟨w.heap.size, 0, none⟩) 4 4] (w.alloc (.cells #[.slice b1 L1.length k1, .slice b2 L2.length k2, .slice b3 L3.length k3, .slice b4 L4.length k4] 22)) fun e w' => e = .returned (.bool true) ∧ Only w w' (In4 (.slice b1 L1.length k1) (.slice b2 L2.length k2) (.slice b3 L3.length k3) (.slice b4 L4.length k4)) := by
  have dA : Below w.heap.size w (w.alloc (.cells #[.slice b1 L1.length k1, .slice b2 L2.length k2, .slice b3 L3.length k3, .slice b4 L4.length k4] 22)) := (Below.refl _ _).alloc (Nat.le_refl _) _
  have t := over_any w (w.alloc (.cells #[.slice b1 L1.length k1, .slice b2 L2.length k2, .slice b3 L3.length k3, .slice b4 L4.length k4] 22)) 4 (g4 (Value.slice b1 L1.length k1) (.slice b2 L2.length k2) (.slice b3 L3.length k3) (.slice b4 L4.length k4)) (g4 L1.length L2.length L3.length L4.length) (g4 (L1.map (Value.int .i64)) (L2.map (Value.int .i64)) (L3.map (Value.int .i64)) (L4.map (Value.int .i64))) w.heap.size 4 #[.slice b1 L1.length k1, .slice b2 L2.length k2, .slice b3 L3.length k3, .slice b4 L4.length k4] (by omega) (hide ⟨fun i hi k q => ?_, fun i j hi hj hij k q q' => ?_, fun q hq => ?_⟩) (hide ⟨fun q hq => ?_, Only.ofBelow dA, fun i hi => ?_⟩) (hide fun k hk => ?_)
  · refine t.mono fun e w' ⟨he, o⟩ => ⟨he, o.mono fun b _ z => ?_⟩
    obtain ⟨i, hi, z⟩ := z
    match i, hi, z with
    | 0, _, z => exact Or.inl z
    | 1, _, z => exact Or.inr (Or.inl z)
    | 2, _, z => exact Or.inr (Or.inr (Or.inl z))
    | 3, _, z => exact Or.inr (Or.inr (Or.inr z))
  · match i, hi, q with
    | 0, _, q => exact (t1.lt k q).2
    | 1, _, q => exact (t2.lt k q).2
    | 2, _, q => exact (t3.lt k q).2
    | 3, _, q => exact (t4.lt k q).2
  · match i, j, hi, hj, hij, q, q' with
    | 0, 1, _, _, _, q, q' => exact n12 k q q'
    | 0, 2, _, _, _, q, q' => exact n13 k q q'
    | 0, 3, _, _, _, q, q' => exact n14 k q q'
    | 1, 2, _, _, _, q, q' => exact n23 k q q'
    | 1, 3, _, _, _, q, q' => exact n24 k q q'
    | 2, 3, _, _, _, q, q' => exact n34 k q q'
    | 1, 0, _, _, _, q, q' => exact n12 k q' q
    | 2, 0, _, _, _, q, q' => exact n13 k q' q
    | 3, 0, _, _, _, q, q' => exact n14 k q' q
    | 2, 1, _, _, _, q, q' => exact n23 k q' q
    | 3, 1, _, _, _, q, q' => exact n24 k q' q
    | 3, 2, _, _, _, q, q' => exact n34 k q' q
    | 0, 0, _, _, h, _, _ => exact absurd rfl h
    | 1, 1, _, _, h, _, _ => exact absurd rfl h
    | 2, 2, _, _, h, _, _ => exact absurd rfl h
    | 3, 3, _, _, h, _, _ => exact absurd rfl h
  · rw [List.mem_singleton.1 hq]
    exact Nat.le_refl _
  · rw [List.mem_singleton.1 hq]
    exact World.alloc_heap_new _ _
  · have e0 : aW (g4 L1.length L2.length L3.length L4.length) 0 i = 0 := by unfold aW; rw [if_neg (by omega)]
    rw [e0, gx_zero]
    match i, hi with
    | 0, _ => exact own_below t1 dA
    | 1, _ => exact own_below t2 dA
    | 2, _ => exact own_below t3 dA
    | 3, _ => exact own_below t4 dA
  · match k, hk with
    | 0, _ => exact ⟨b1, k1, rfl, rfl, h1⟩
    | 1, _ => exact ⟨b2, k2, rfl, rfl, h2⟩
    | 2, _ => exact ⟨b3, k3, rfl, rfl, h3⟩
    | 3, _ => exact ⟨b4, k4, rfl, rfl, h4⟩
/-- What was made earlier lies below what is made later. -/
theorem rows_apart {W : World} {x y : Value} {C hi n : Nat} {xs : List Value} (h : ∀ k, x.ownBlock = some k → k < hi) (h' : W.ownsRow C 3 1 y n xs) (hle : hi ≤ C) : ∀ k, x.ownBlock = some k → y.ownBlock ≠ some k := fun k q q' => by
  have a := h k q
  have b := (h'.lt k q').1
  omega
set_option maxRecDepth 100000 in
set_option maxHeartbeats 16000000 in
theorem exact_any (w : World) (n m nb mb sym kk : Int) (a1 a2 a3 b1 b2 b3 q1 p1 u1 o1 : Option Addr) (c1 c2 c3 d1 d2 d3 cq cp cw lo co : Nat) (St Fi Sb Fb Q P Wd : List Int) (Ed Eb : List EdT) (hT : Hid (TabAt w ∧ 0 < w.heap.size)) (hA : Hid (RdA w a1 a2 a3 St Fi Ed)) (hB : Hid (RdA w b1 b2 b3 Sb Fb Eb)) (hQ : Hid (RdN w q1 Q)) (hP : Hid (RdN w p1 P)) (hU : Hid (RdN w u1 Wd)) (h1 : St.length ≤ 1048576) (h2 : Fi.length ≤ 1048576) (h3 : Ed.length ≤ 1048576) (h4 : Sb.length ≤ 1048576) (h5 : Fb.length ≤ 1048576) (h6 : Eb.length ≤ 1048576) (h7 : Q.length ≤ 1048576) (h8 : P.length ≤ 1048576) (h9 : Wd.length ≤ 1048576) (hc : Ed.length ≤ c3) (hc' : Eb.length ≤ d3) :
    Calls Tryz.prog 7 #[.agg #[.int .i64 n, .int .i64 m, .slice a1 St.length c1, .slice a2 Fi.length c2, .slice a3 Ed.length c3, .int .i64 nb, .int .i64 mb, .slice b1 Sb.length d1, .slice b2 Fb.length d2, .slice b3 Eb.length d3, .slice q1 Q.length cq, .slice p1 P.length cp, .int .i64 sym, .slice u1 Wd.length cw, .int .i64 kk, .slice o1 lo co]] w fun e w' => e = .returned (.bool true) ∧ Below w.heap.size w w' := by
  obtain ⟨W0, hW0⟩ : ∃ W0, w.alloc (.cells #[.int .i64 n, .int .i64 m, .slice a1 St.length c1, .slice a2 Fi.length c2, .slice a3 Ed.length c3, .int .i64 nb, .int .i64 mb, .slice b1 Sb.length d1, .slice b2 Fb.length d2, .slice b3 Eb.length d3, .slice q1 Q.length cq, .slice p1 P.length cp, .int .i64 sym, .slice u1 Wd.length cw, .int .i64 kk, .slice o1 lo co] 27) = W0 := ⟨_, rfl⟩
  have D0 : Hid (Below w.heap.size w W0) := hide (by rw [← hW0]; exact alloc_below _ _)
  have B0 : Hid (W0.heap[w.heap.size]? = some (.cells #[.int .i64 n, .int .i64 m, .slice a1 St.length c1, .slice a2 Fi.length c2, .slice a3 Ed.length c3, .int .i64 nb, .int .i64 mb, .slice b1 Sb.length d1, .slice b2 Fb.length d2, .slice b3 Eb.length d3, .slice q1 Q.length cq, .slice p1 P.length cp, .int .i64 sym, .slice u1 Wd.length cw, .int .i64 kk, .slice o1 lo co] 27 (0, 0))) := hide (by rw [← hW0]; exact World.alloc_heap_new _ _)
  have KW : Hid (∀ W, Below W0.heap.size W0 W → Below w.heap.size w W) := hide (fun W d => D0.out.trans (d.mono D0.out.size))
  have T8 : Calls Tryz.prog 8 #[] W0 fun e w' => e = .returned (.bool true) ∧ Below W0.heap.size W0 w' := works_any W0 (hide ⟨hT.out.1.below D0.out hT.out.2, Nat.lt_of_lt_of_le hT.out.2 D0.out.size⟩)
  go_enter Tryz.func7, Tryz.ntmps7
  go_upto_region 3 with (go_at_call 8; refine T8.mono ?_; rintro e w1 ⟨rfl, D1⟩)
  have HD1 := hide D1
  clear D1 T8 hW0
  have E1 := blk_on B0.out HD1.out
  have y0 : w1.cell? ⟨w.heap.size, 0, none⟩ = some (.int .i64 n) := cell_of E1 rfl
  have y1 : w1.cell? ⟨w.heap.size, 1, none⟩ = some (.int .i64 m) := cell_of E1 rfl
  have y2 : w1.cell? ⟨w.heap.size, 2, none⟩ = some (.slice a1 St.length c1) := cell_of E1 rfl
  have y3 : w1.cell? ⟨w.heap.size, 3, none⟩ = some (.slice a2 Fi.length c2) := cell_of E1 rfl
  have y4 : w1.cell? ⟨w.heap.size, 4, none⟩ = some (.slice a3 Ed.length c3) := cell_of E1 rfl
  have y5 : w1.cell? ⟨w.heap.size, 5, none⟩ = some (.int .i64 nb) := cell_of E1 rfl
  have y6 : w1.cell? ⟨w.heap.size, 6, none⟩ = some (.int .i64 mb) := cell_of E1 rfl
  have y7 : w1.cell? ⟨w.heap.size, 7, none⟩ = some (.slice b1 Sb.length d1) := cell_of E1 rfl
  have y8 : w1.cell? ⟨w.heap.size, 8, none⟩ = some (.slice b2 Fb.length d2) := cell_of E1 rfl
  have y9 : w1.cell? ⟨w.heap.size, 9, none⟩ = some (.slice b3 Eb.length d3) := cell_of E1 rfl
  have y10 : w1.cell? ⟨w.heap.size, 10, none⟩ = some (.slice q1 Q.length cq) := cell_of E1 rfl
  have y11 : w1.cell? ⟨w.heap.size, 11, none⟩ = some (.slice p1 P.length cp) := cell_of E1 rfl
  have y12 : w1.cell? ⟨w.heap.size, 12, none⟩ = some (.int .i64 sym) := cell_of E1 rfl
  have y13 : w1.cell? ⟨w.heap.size, 13, none⟩ = some (.slice u1 Wd.length cw) := cell_of E1 rfl
  have y14 : w1.cell? ⟨w.heap.size, 14, none⟩ = some (.int .i64 kk) := cell_of E1 rfl
  have y15 : w1.cell? ⟨w.heap.size, 15, none⟩ = some (.slice o1 lo co) := cell_of E1 rfl
  clear E1
  go_upto_region 4 with (go_at_call 10; refine (twin_any w1 n m a1 a2 a3 c1 c2 c3 St Fi Ed (hide (hA.out.on (KW.out w1 HD1.out))) (by omega) (by omega) (by omega)).mono ?_; rintro e w2 ⟨s1, ks1, s2, ks2, s3, ks3, rfl, hA1, dd⟩)
  obtain ⟨W2, hW2⟩ : ∃ W2, w2.alloc (.cells #[.int .i64 n, .int .i64 m, .slice (some ⟨s1, 0, none⟩) St.length ks1, .slice (some ⟨s2, 0, none⟩) Fi.length ks2, .slice (some ⟨s3, 0, none⟩) Ed.length ks3] 25) = W2 := ⟨_, rfl⟩
  have H2 : Hid (W2.heap[w2.heap.size]? = some (.cells #[.int .i64 n, .int .i64 m, .slice (some ⟨s1, 0, none⟩) St.length ks1, .slice (some ⟨s2, 0, none⟩) Fi.length ks2, .slice (some ⟨s3, 0, none⟩) Ed.length ks3] 25 (0, 0)) ∧ TwA w1.heap.size W2 s1 ks1 s2 ks2 s3 ks3 St Fi Ed ∧ w1.heap.size ≤ w2.heap.size ∧ Below W0.heap.size W0 W2) := hide (by
    have dn : Below w2.heap.size w2 W2 := by rw [← hW2]; exact alloc_below _ _
    have e1 : Below W0.heap.size W0 w2 := HD1.out.trans (dd.mono HD1.out.size)
    exact ⟨by rw [← hW2]; exact World.alloc_heap_new _ _, hA1.out.on dn, dd.size, e1.trans (dn.mono e1.size)⟩)
  rw [hW2]
  clear hW2 dd hA1 y0 y1 y2 y3 y4 y5 y6 y7 y8 y9 y10 y11 y12 y13 y14 y15
  generalize w2.heap.size = pa at H2 ⊢
  have E1 := blk_on B0.out H2.out.2.2.2
  have y0 : W2.cell? ⟨w.heap.size, 0, none⟩ = some (.int .i64 n) := cell_of E1 rfl
  have y1 : W2.cell? ⟨w.heap.size, 1, none⟩ = some (.int .i64 m) := cell_of E1 rfl
  have y2 : W2.cell? ⟨w.heap.size, 2, none⟩ = some (.slice a1 St.length c1) := cell_of E1 rfl
  have y3 : W2.cell? ⟨w.heap.size, 3, none⟩ = some (.slice a2 Fi.length c2) := cell_of E1 rfl
  have y4 : W2.cell? ⟨w.heap.size, 4, none⟩ = some (.slice a3 Ed.length c3) := cell_of E1 rfl
  have y5 : W2.cell? ⟨w.heap.size, 5, none⟩ = some (.int .i64 nb) := cell_of E1 rfl
  have y6 : W2.cell? ⟨w.heap.size, 6, none⟩ = some (.int .i64 mb) := cell_of E1 rfl
  have y7 : W2.cell? ⟨w.heap.size, 7, none⟩ = some (.slice b1 Sb.length d1) := cell_of E1 rfl
  have y8 : W2.cell? ⟨w.heap.size, 8, none⟩ = some (.slice b2 Fb.length d2) := cell_of E1 rfl
  have y9 : W2.cell? ⟨w.heap.size, 9, none⟩ = some (.slice b3 Eb.length d3) := cell_of E1 rfl
  have y10 : W2.cell? ⟨w.heap.size, 10, none⟩ = some (.slice q1 Q.length cq) := cell_of E1 rfl
  have y11 : W2.cell? ⟨w.heap.size, 11, none⟩ = some (.slice p1 P.length cp) := cell_of E1 rfl
  have y12 : W2.cell? ⟨w.heap.size, 12, none⟩ = some (.int .i64 sym) := cell_of E1 rfl
  have y13 : W2.cell? ⟨w.heap.size, 13, none⟩ = some (.slice u1 Wd.length cw) := cell_of E1 rfl
  have y14 : W2.cell? ⟨w.heap.size, 14, none⟩ = some (.int .i64 kk) := cell_of E1 rfl
  have y15 : W2.cell? ⟨w.heap.size, 15, none⟩ = some (.slice o1 lo co) := cell_of E1 rfl
  clear E1
  go_upto_region 5 with (go_at_call 10; refine (twin_any W2 nb mb b1 b2 b3 d1 d2 d3 Sb Fb Eb (hide (hB.out.on (KW.out W2 H2.out.2.2.2))) (by omega) (by omega) (by omega)).mono ?_; rintro e w3 ⟨v1, kv1, v2, kv2, v3, kv3, rfl, hA1, dd⟩)
  obtain ⟨W3, hW3⟩ : ∃ W3, w3.alloc (.cells #[.int .i64 nb, .int .i64 mb, .slice (some ⟨v1, 0, none⟩) Sb.length kv1, .slice (some ⟨v2, 0, none⟩) Fb.length kv2, .slice (some ⟨v3, 0, none⟩) Eb.length kv3] 25) = W3 := ⟨_, rfl⟩
  have H3 : Hid (W3.heap[w3.heap.size]? = some (.cells #[.int .i64 nb, .int .i64 mb, .slice (some ⟨v1, 0, none⟩) Sb.length kv1, .slice (some ⟨v2, 0, none⟩) Fb.length kv2, .slice (some ⟨v3, 0, none⟩) Eb.length kv3] 25 (0, 0)) ∧ TwA W2.heap.size W3 v1 kv1 v2 kv2 v3 kv3 Sb Fb Eb ∧ Below W2.heap.size W2 W3 ∧ Below W0.heap.size W0 W3 ∧ W2.heap.size ≤ w3.heap.size) := hide (by
    have dn : Below w3.heap.size w3 W3 := by rw [← hW3]; exact alloc_below _ _
    have e1 : Below W2.heap.size W2 W3 := dd.trans (dn.mono dd.size)
    exact ⟨by rw [← hW3]; exact World.alloc_heap_new _ _, hA1.out.on dn, e1, H2.out.2.2.2.trans (e1.mono H2.out.2.2.2.size), dd.size⟩)
  rw [hW3]
  clear hW3 dd hA1 y0 y1 y2 y3 y4 y5 y6 y7 y8 y9 y10 y11 y12 y13 y14 y15
  generalize w3.heap.size = pb at H3 ⊢
  have E1 := blk_on B0.out H3.out.2.2.2.1
  have y0 : W3.cell? ⟨w.heap.size, 0, none⟩ = some (.int .i64 n) := cell_of E1 rfl
  have y1 : W3.cell? ⟨w.heap.size, 1, none⟩ = some (.int .i64 m) := cell_of E1 rfl
  have y2 : W3.cell? ⟨w.heap.size, 2, none⟩ = some (.slice a1 St.length c1) := cell_of E1 rfl
  have y3 : W3.cell? ⟨w.heap.size, 3, none⟩ = some (.slice a2 Fi.length c2) := cell_of E1 rfl
  have y4 : W3.cell? ⟨w.heap.size, 4, none⟩ = some (.slice a3 Ed.length c3) := cell_of E1 rfl
  have y5 : W3.cell? ⟨w.heap.size, 5, none⟩ = some (.int .i64 nb) := cell_of E1 rfl
  have y6 : W3.cell? ⟨w.heap.size, 6, none⟩ = some (.int .i64 mb) := cell_of E1 rfl
  have y7 : W3.cell? ⟨w.heap.size, 7, none⟩ = some (.slice b1 Sb.length d1) := cell_of E1 rfl
  have y8 : W3.cell? ⟨w.heap.size, 8, none⟩ = some (.slice b2 Fb.length d2) := cell_of E1 rfl
  have y9 : W3.cell? ⟨w.heap.size, 9, none⟩ = some (.slice b3 Eb.length d3) := cell_of E1 rfl
  have y10 : W3.cell? ⟨w.heap.size, 10, none⟩ = some (.slice q1 Q.length cq) := cell_of E1 rfl
  have y11 : W3.cell? ⟨w.heap.size, 11, none⟩ = some (.slice p1 P.length cp) := cell_of E1 rfl
  have y12 : W3.cell? ⟨w.heap.size, 12, none⟩ = some (.int .i64 sym) := cell_of E1 rfl
  have y13 : W3.cell? ⟨w.heap.size, 13, none⟩ = some (.slice u1 Wd.length cw) := cell_of E1 rfl
  have y14 : W3.cell? ⟨w.heap.size, 14, none⟩ = some (.int .i64 kk) := cell_of E1 rfl
  have y15 : W3.cell? ⟨w.heap.size, 15, none⟩ = some (.slice o1 lo co) := cell_of E1 rfl
  clear E1
  go_upto_region 6 with (go_at_call 11; refine (ints_any W3 q1 Q cq (hide (hQ.out.on (KW.out W3 H3.out.2.2.2.1))) (by omega)).mono ?_; rintro e w3q ⟨gq, kq, rfl, M1, e1⟩)
  have HQ1 := hide (And.intro M1.out (And.intro e1 (H3.out.2.2.2.1.trans (e1.mono H3.out.2.2.2.1.size))))
  clear M1 e1 y0 y1 y2 y3 y4 y5 y6 y7 y8 y9 y10 y11 y12 y13 y14 y15
  have E1 := blk_on B0.out HQ1.out.2.2
  have y0 : w3q.cell? ⟨w.heap.size, 0, none⟩ = some (.int .i64 n) := cell_of E1 rfl
  have y1 : w3q.cell? ⟨w.heap.size, 1, none⟩ = some (.int .i64 m) := cell_of E1 rfl
  have y2 : w3q.cell? ⟨w.heap.size, 2, none⟩ = some (.slice a1 St.length c1) := cell_of E1 rfl
  have y3 : w3q.cell? ⟨w.heap.size, 3, none⟩ = some (.slice a2 Fi.length c2) := cell_of E1 rfl
  have y4 : w3q.cell? ⟨w.heap.size, 4, none⟩ = some (.slice a3 Ed.length c3) := cell_of E1 rfl
  have y5 : w3q.cell? ⟨w.heap.size, 5, none⟩ = some (.int .i64 nb) := cell_of E1 rfl
  have y6 : w3q.cell? ⟨w.heap.size, 6, none⟩ = some (.int .i64 mb) := cell_of E1 rfl
  have y7 : w3q.cell? ⟨w.heap.size, 7, none⟩ = some (.slice b1 Sb.length d1) := cell_of E1 rfl
  have y8 : w3q.cell? ⟨w.heap.size, 8, none⟩ = some (.slice b2 Fb.length d2) := cell_of E1 rfl
  have y9 : w3q.cell? ⟨w.heap.size, 9, none⟩ = some (.slice b3 Eb.length d3) := cell_of E1 rfl
  have y10 : w3q.cell? ⟨w.heap.size, 10, none⟩ = some (.slice q1 Q.length cq) := cell_of E1 rfl
  have y11 : w3q.cell? ⟨w.heap.size, 11, none⟩ = some (.slice p1 P.length cp) := cell_of E1 rfl
  have y12 : w3q.cell? ⟨w.heap.size, 12, none⟩ = some (.int .i64 sym) := cell_of E1 rfl
  have y13 : w3q.cell? ⟨w.heap.size, 13, none⟩ = some (.slice u1 Wd.length cw) := cell_of E1 rfl
  have y14 : w3q.cell? ⟨w.heap.size, 14, none⟩ = some (.int .i64 kk) := cell_of E1 rfl
  have y15 : w3q.cell? ⟨w.heap.size, 15, none⟩ = some (.slice o1 lo co) := cell_of E1 rfl
  clear E1
  go_upto_region 7 with (go_at_call 11; refine (ints_any w3q u1 Wd cw (hide (hU.out.on (KW.out w3q HQ1.out.2.2))) (by omega)).mono ?_; rintro e w3w ⟨gw, kw, rfl, M1, e1⟩)
  have HW1 := hide (And.intro M1.out (And.intro e1 (HQ1.out.2.2.trans (e1.mono HQ1.out.2.2.size))))
  clear M1 e1 y0 y1 y2 y3 y4 y5 y6 y7 y8 y9 y10 y11 y12 y13 y14 y15
  have E1 := blk_on B0.out HW1.out.2.2
  have y0 : w3w.cell? ⟨w.heap.size, 0, none⟩ = some (.int .i64 n) := cell_of E1 rfl
  have y1 : w3w.cell? ⟨w.heap.size, 1, none⟩ = some (.int .i64 m) := cell_of E1 rfl
  have y2 : w3w.cell? ⟨w.heap.size, 2, none⟩ = some (.slice a1 St.length c1) := cell_of E1 rfl
  have y3 : w3w.cell? ⟨w.heap.size, 3, none⟩ = some (.slice a2 Fi.length c2) := cell_of E1 rfl
  have y4 : w3w.cell? ⟨w.heap.size, 4, none⟩ = some (.slice a3 Ed.length c3) := cell_of E1 rfl
  have y5 : w3w.cell? ⟨w.heap.size, 5, none⟩ = some (.int .i64 nb) := cell_of E1 rfl
  have y6 : w3w.cell? ⟨w.heap.size, 6, none⟩ = some (.int .i64 mb) := cell_of E1 rfl
  have y7 : w3w.cell? ⟨w.heap.size, 7, none⟩ = some (.slice b1 Sb.length d1) := cell_of E1 rfl
  have y8 : w3w.cell? ⟨w.heap.size, 8, none⟩ = some (.slice b2 Fb.length d2) := cell_of E1 rfl
  have y9 : w3w.cell? ⟨w.heap.size, 9, none⟩ = some (.slice b3 Eb.length d3) := cell_of E1 rfl
  have y10 : w3w.cell? ⟨w.heap.size, 10, none⟩ = some (.slice q1 Q.length cq) := cell_of E1 rfl
  have y11 : w3w.cell? ⟨w.heap.size, 11, none⟩ = some (.slice p1 P.length cp) := cell_of E1 rfl
  have y12 : w3w.cell? ⟨w.heap.size, 12, none⟩ = some (.int .i64 sym) := cell_of E1 rfl
  have y13 : w3w.cell? ⟨w.heap.size, 13, none⟩ = some (.slice u1 Wd.length cw) := cell_of E1 rfl
  have y14 : w3w.cell? ⟨w.heap.size, 14, none⟩ = some (.int .i64 kk) := cell_of E1 rfl
  have y15 : w3w.cell? ⟨w.heap.size, 15, none⟩ = some (.slice o1 lo co) := cell_of E1 rfl
  clear E1
  go_upto_region 8 with (go_at_call 11; refine (ints_any w3w p1 P cp (hide (hP.out.on (KW.out w3w HW1.out.2.2))) (by omega)).mono ?_; rintro e w5 ⟨gp, kp, rfl, M1, e1⟩)
  have F5 : Hid (w5.heap[w.heap.size]? = some (.cells #[.int .i64 n, .int .i64 m, .slice a1 St.length c1, .slice a2 Fi.length c2, .slice a3 Ed.length c3, .int .i64 nb, .int .i64 mb, .slice b1 Sb.length d1, .slice b2 Fb.length d2, .slice b3 Eb.length d3, .slice q1 Q.length cq, .slice p1 P.length cp, .int .i64 sym, .slice u1 Wd.length cw, .int .i64 kk, .slice o1 lo co] 27 (0, 0)) ∧ w5.heap[pa]? = some (.cells #[.int .i64 n, .int .i64 m, .slice (some ⟨s1, 0, none⟩) St.length ks1, .slice (some ⟨s2, 0, none⟩) Fi.length ks2, .slice (some ⟨s3, 0, none⟩) Ed.length ks3] 25 (0, 0)) ∧ w5.heap[pb]? = some (.cells #[.int .i64 nb, .int .i64 mb, .slice (some ⟨v1, 0, none⟩) Sb.length kv1, .slice (some ⟨v2, 0, none⟩) Fb.length kv2, .slice (some ⟨v3, 0, none⟩) Eb.length kv3] 25 (0, 0)) ∧ TwA w1.heap.size w5 s1 ks1 s2 ks2 s3 ks3 St Fi Ed ∧ TwA W2.heap.size w5 v1 kv1 v2 kv2 v3 kv3 Sb Fb Eb ∧ Mk W3.heap.size w5 gq kq Q ∧ Mk w3q.heap.size w5 gw kw Wd ∧ Mk w3w.heap.size w5 gp kp P ∧ Below W0.heap.size W0 w5) := hide (by
    have d2 := HW1.out.2.1.trans (e1.mono HW1.out.2.1.size)
    have d1 := HQ1.out.2.1.trans (d2.mono HQ1.out.2.1.size)
    have d0 := H3.out.2.2.1.trans (d1.mono H3.out.2.2.1.size)
    have e0 := HW1.out.2.2.trans (e1.mono HW1.out.2.2.size)
    exact ⟨blk_on B0.out e0, blk_on H2.out.1 d0, blk_on H3.out.1 d1, H2.out.2.1.on d0, H3.out.2.1.on d1, HQ1.out.1.on d2 HQ1.out.1.lt.2, HW1.out.1.on e1 HW1.out.1.lt.2, M1.out, e0⟩)
  have N1 : Hid ((w.heap.size < w1.heap.size ∧ w1.heap.size ≤ s1 ∧ w1.heap.size ≤ s2 ∧ w1.heap.size ≤ s3 ∧ s1 < W2.heap.size ∧ s2 < W2.heap.size ∧ s3 < W2.heap.size) ∧ (s1 ≠ pa ∧ s2 ≠ pa ∧ s3 ≠ pa ∧ pa < W2.heap.size) ∧ W2.heap.size ≤ W3.heap.size ∧ (W3.heap.size ≤ gq ∧ gq < w3q.heap.size) ∧ (w3q.heap.size ≤ gw ∧ gw < w3w.heap.size) ∧ (w3w.heap.size ≤ gp ∧ gp < w5.heap.size) ∧ w1.heap.size ≤ w5.heap.size) := hide (by
    have t1 := H2.out.2.1.s.lt
    have t2 := H2.out.2.1.f.lt
    have t3 := H2.out.2.1.e.lt
    have u0 := (Array.getElem?_eq_some_iff.1 B0.out).1
    have u1' := HD1.out.size
    have u2 := (Array.getElem?_eq_some_iff.1 H2.out.1).1
    have u3 := H3.out.2.2.1.size
    have q1' := HQ1.out.1.lt
    have q2' := HW1.out.1.lt
    have q3' := M1.out.lt
    have z1 := HQ1.out.2.1.size
    have z2 := HW1.out.2.1.size
    exact ⟨⟨by omega, t1.1, t2.1, t3.1, t1.2, t2.2, t3.2⟩, ⟨row_box H2.out.2.1.s.rw H2.out.1 (by decide), row_box H2.out.2.1.f.rw H2.out.1 (by decide), row_box H2.out.2.1.e.rw H2.out.1 (by decide), u2⟩, u3, q1', q2', q3', by omega⟩)
  clear M1 e1 y0 y1 y2 y3 y4 y5 y6 y7 y8 y9 y10 y11 y12 y13 y14 y15 HQ1 HW1 H3 H2 HD1 B0
  have KK : Hid (∀ W, Below w5.heap.size w5 W → (W.cell? ⟨w.heap.size, 0, none⟩ = some (.int .i64 n) ∧ W.cell? ⟨w.heap.size, 1, none⟩ = some (.int .i64 m) ∧ W.cell? ⟨w.heap.size, 2, none⟩ = some (.slice a1 St.length c1) ∧ W.cell? ⟨w.heap.size, 3, none⟩ = some (.slice a2 Fi.length c2) ∧ W.cell? ⟨w.heap.size, 4, none⟩ = some (.slice a3 Ed.length c3) ∧ W.cell? ⟨w.heap.size, 5, none⟩ = some (.int .i64 nb) ∧ W.cell? ⟨w.heap.size, 6, none⟩ = some (.int .i64 mb) ∧ W.cell? ⟨w.heap.size, 7, none⟩ = some (.slice b1 Sb.length d1) ∧ W.cell? ⟨w.heap.size, 8, none⟩ = some (.slice b2 Fb.length d2) ∧ W.cell? ⟨w.heap.size, 9, none⟩ = some (.slice b3 Eb.length d3) ∧ W.cell? ⟨w.heap.size, 10, none⟩ = some (.slice q1 Q.length cq) ∧ W.cell? ⟨w.heap.size, 11, none⟩ = some (.slice p1 P.length cp) ∧ W.cell? ⟨w.heap.size, 12, none⟩ = some (.int .i64 sym) ∧ W.cell? ⟨w.heap.size, 13, none⟩ = some (.slice u1 Wd.length cw) ∧ W.cell? ⟨w.heap.size, 14, none⟩ = some (.int .i64 kk) ∧ W.cell? ⟨w.heap.size, 15, none⟩ = some (.slice o1 lo co)) ∧ (W.cell? ⟨pa, 0, none⟩ = some (.int .i64 n) ∧ W.cell? ⟨pa, 1, none⟩ = some (.int .i64 m) ∧ W.cell? ⟨pa, 2, none⟩ = some (.slice (some ⟨s1, 0, none⟩) St.length ks1) ∧ W.cell? ⟨pa, 3, none⟩ = some (.slice (some ⟨s2, 0, none⟩) Fi.length ks2) ∧ W.cell? ⟨pa, 4, none⟩ = some (.slice (some ⟨s3, 0, none⟩) Ed.length ks3)) ∧ (W.cell? ⟨pb, 0, none⟩ = some (.int .i64 nb) ∧ W.cell? ⟨pb, 1, none⟩ = some (.int .i64 mb) ∧ W.cell? ⟨pb, 2, none⟩ = some (.slice (some ⟨v1, 0, none⟩) Sb.length kv1) ∧ W.cell? ⟨pb, 3, none⟩ = some (.slice (some ⟨v2, 0, none⟩) Fb.length kv2) ∧ W.cell? ⟨pb, 4, none⟩ = some (.slice (some ⟨v3, 0, none⟩) Eb.length kv3))) := hide (fun W d => by
    have e0 := blk_on F5.out.1 d
    have e1 := blk_on F5.out.2.1 d
    have e2 := blk_on F5.out.2.2.1 d
    exact ⟨⟨cell_of e0 rfl, cell_of e0 rfl, cell_of e0 rfl, cell_of e0 rfl, cell_of e0 rfl, cell_of e0 rfl, cell_of e0 rfl, cell_of e0 rfl, cell_of e0 rfl, cell_of e0 rfl, cell_of e0 rfl, cell_of e0 rfl, cell_of e0 rfl, cell_of e0 rfl, cell_of e0 rfl, cell_of e0 rfl⟩, ⟨cell_of e1 rfl, cell_of e1 rfl, cell_of e1 rfl, cell_of e1 rfl, cell_of e1 rfl⟩, cell_of e2 rfl, cell_of e2 rfl, cell_of e2 rfl, cell_of e2 rfl, cell_of e2 rfl⟩)
  have RA : Hid (∀ W, Below w5.heap.size w5 W → RdA W (some ⟨s1, 0, none⟩) (some ⟨s2, 0, none⟩) (some ⟨s3, 0, none⟩) St Fi Ed ∧ RdA W (some ⟨v1, 0, none⟩) (some ⟨v2, 0, none⟩) (some ⟨v3, 0, none⟩) Sb Fb Eb ∧ RdN W (some ⟨gq, 0, none⟩) Q ∧ RdN W (some ⟨gw, 0, none⟩) Wd ∧ RdN W (some ⟨gp, 0, none⟩) P ∧ Below w.heap.size w W ∧ TabAt W ∧ 0 < W.heap.size) := hide (fun W d => by
    have e0 := F5.out.2.2.2.2.2.2.2.2.trans (d.mono F5.out.2.2.2.2.2.2.2.2.size)
    have e1 := KW.out W e0
    exact ⟨F5.out.2.2.2.1.rd.on d, F5.out.2.2.2.2.1.rd.on d, F5.out.2.2.2.2.2.1.rd.on d, F5.out.2.2.2.2.2.2.1.rd.on d, F5.out.2.2.2.2.2.2.2.1.rd.on d, e1, hT.out.1.below e1 hT.out.2, Nat.lt_of_lt_of_le hT.out.2 e1.size⟩)
  have AP : Hid (∀ W, Below w5.heap.size w5 W → Calls Tryz.prog 15 #[.agg #[.int .i64 n, .int .i64 m, .slice (some ⟨s1, 0, none⟩) St.length ks1, .slice (some ⟨s2, 0, none⟩) Fi.length ks2, .slice (some ⟨s3, 0, none⟩) Ed.length ks3], .slice (some ⟨gq, 0, none⟩) Q.length kq, .int .i64 sym] W (LAns W (imgA false n m St Fi Ed Q sym))) := hide (fun W d => post_ans W n m (some ⟨s1, 0, none⟩) (some ⟨s2, 0, none⟩) (some ⟨s3, 0, none⟩) ks1 ks2 ks3 St Fi Ed (some ⟨gq, 0, none⟩) kq Q sym (hide (RA.out W d).1) (hide (RA.out W d).2.2.1) (hide (RA.out W d).2.2.2.2.2.2) (by omega) (by omega) (by omega) (by omega))
  have AR : Hid (∀ W, Below w5.heap.size w5 W → Calls Tryz.prog 41 #[.agg #[.int .i64 n, .int .i64 m, .slice a1 St.length c1, .slice a2 Fi.length c2, .slice a3 Ed.length c3], .slice q1 Q.length cq, .int .i64 sym] W (LAns W (imgA false n m St Fi Ed Q sym))) := hide (fun W d => rpost_any W n m a1 a2 a3 c1 c2 c3 St Fi Ed q1 cq Q sym (hide (hA.out.on (RA.out W d).2.2.2.2.2.1)) (hide (hQ.out.on (RA.out W d).2.2.2.2.2.1)) (by omega) (by omega) (by omega) (by omega))
  have HLA : Hid ((imgA false n m St Fi Ed Q sym).1.length ≤ 4194000) := hide (imgA_lenB (by omega))
  generalize imgA false n m St Fi Ed Q sym = rA at AP AR HLA
  have BP : Hid (∀ W, Below w5.heap.size w5 W → Calls Tryz.prog 16 #[.agg #[.int .i64 n, .int .i64 m, .slice (some ⟨s1, 0, none⟩) St.length ks1, .slice (some ⟨s2, 0, none⟩) Fi.length ks2, .slice (some ⟨s3, 0, none⟩) Ed.length ks3], .slice (some ⟨gq, 0, none⟩) Q.length kq, .int .i64 sym] W (LAns W (imgA true n m St Fi Ed Q sym))) := hide (fun W d => pre_ans W n m (some ⟨s1, 0, none⟩) (some ⟨s2, 0, none⟩) (some ⟨s3, 0, none⟩) ks1 ks2 ks3 St Fi Ed (some ⟨gq, 0, none⟩) kq Q sym (hide (RA.out W d).1) (hide (RA.out W d).2.2.1) (hide (RA.out W d).2.2.2.2.2.2) (by omega) (by omega) (by omega) (by omega))
  have BR : Hid (∀ W, Below w5.heap.size w5 W → Calls Tryz.prog 42 #[.agg #[.int .i64 n, .int .i64 m, .slice a1 St.length c1, .slice a2 Fi.length c2, .slice a3 Ed.length c3], .slice q1 Q.length cq, .int .i64 sym] W (LAns W (imgA true n m St Fi Ed Q sym))) := hide (fun W d => rpre_any W n m a1 a2 a3 c1 c2 c3 St Fi Ed q1 cq Q sym (hide (hA.out.on (RA.out W d).2.2.2.2.2.1)) (hide (hQ.out.on (RA.out W d).2.2.2.2.2.1)) (by omega) (by omega) (by omega) (by omega))
  have HLB : Hid ((imgA true n m St Fi Ed Q sym).1.length ≤ 4194000) := hide (imgA_lenB (by omega))
  generalize imgA true n m St Fi Ed Q sym = rB at BP BR HLB
  have CP : Hid (∀ W, Below w5.heap.size w5 W → Calls Tryz.prog 19 #[.agg #[.int .i64 n, .int .i64 m, .slice (some ⟨s1, 0, none⟩) St.length ks1, .slice (some ⟨s2, 0, none⟩) Fi.length ks2, .slice (some ⟨s3, 0, none⟩) Ed.length ks3], .slice (some ⟨gw, 0, none⟩) Wd.length kw] W (LAns W (aftA n m St Fi Ed Wd))) := hide (fun W d => after_ans W n m (some ⟨s1, 0, none⟩) (some ⟨s2, 0, none⟩) (some ⟨s3, 0, none⟩) ks1 ks2 ks3 St Fi Ed (some ⟨gw, 0, none⟩) kw Wd (hide (RA.out W d).1) (hide (RA.out W d).2.2.2.1) (hide (RA.out W d).2.2.2.2.2.2) (by omega) (by omega) (by omega) (by omega))
  have CR : Hid (∀ W, Below w5.heap.size w5 W → Calls Tryz.prog 43 #[.agg #[.int .i64 n, .int .i64 m, .slice a1 St.length c1, .slice a2 Fi.length c2, .slice a3 Ed.length c3], .slice u1 Wd.length cw] W (LAns W (aftA n m St Fi Ed Wd))) := hide (fun W d => rafter_any W n m a1 a2 a3 c1 c2 c3 St Fi Ed u1 cw Wd (hide (hA.out.on (RA.out W d).2.2.2.2.2.1)) (hide (hU.out.on (RA.out W d).2.2.2.2.2.1)) (by omega) (by omega) (by omega) (by omega))
  have HLC : Hid ((aftA n m St Fi Ed Wd).1.length ≤ 4194000) := hide (aftA_lenB (by omega) (by omega))
  generalize aftA n m St Fi Ed Wd = rC at CP CR HLC
  have EP : Hid (∀ W, Below w5.heap.size w5 W → Calls Tryz.prog 12 #[.agg #[.int .i64 n, .int .i64 m, .slice (some ⟨s1, 0, none⟩) St.length ks1, .slice (some ⟨s2, 0, none⟩) Fi.length ks2, .slice (some ⟨s3, 0, none⟩) Ed.length ks3], .slice (some ⟨gw, 0, none⟩) Wd.length kw] W (LAns W (pthA n m St Fi Ed Wd))) := hide (fun W d => path_ans W n m (some ⟨s1, 0, none⟩) (some ⟨s2, 0, none⟩) (some ⟨s3, 0, none⟩) ks1 ks2 ks3 St Fi Ed (some ⟨gw, 0, none⟩) kw Wd (hide (RA.out W d).1) (hide (RA.out W d).2.2.2.1) (hide (RA.out W d).2.2.2.2.2.2) (by omega) (by omega) (by omega) (by omega))
  have ER : Hid (∀ W, Below w5.heap.size w5 W → Calls Tryz.prog 44 #[.agg #[.int .i64 n, .int .i64 m, .slice a1 St.length c1, .slice a2 Fi.length c2, .slice a3 Ed.length c3], .slice u1 Wd.length cw] W (LAns W (pthA n m St Fi Ed Wd))) := hide (fun W d => rpath_any W n m a1 a2 a3 c1 c2 c3 St Fi Ed u1 cw Wd (hide (hA.out.on (RA.out W d).2.2.2.2.2.1)) (hide (hU.out.on (RA.out W d).2.2.2.2.2.1)) (by omega) (by omega) (by omega) (by omega))
  have HLE : Hid ((pthA n m St Fi Ed Wd).1.length ≤ 4194000) := hide (pthA_lenB h9)
  generalize pthA n m St Fi Ed Wd = rE at EP ER HLE
  have FP : Hid (∀ W, Below w5.heap.size w5 W → Calls Tryz.prog 9 #[.agg #[.int .i64 n, .int .i64 m, .slice (some ⟨s1, 0, none⟩) St.length ks1, .slice (some ⟨s2, 0, none⟩) Fi.length ks2, .slice (some ⟨s3, 0, none⟩) Ed.length ks3], .slice (some ⟨gw, 0, none⟩) Wd.length kw] W fun e w' => e = .returned (.tuple #[.bool (accA n m St Fi Ed Wd).1, .int .i64 (accA n m St Fi Ed Wd).2]) ∧ Below W.heap.size W w') := hide (fun W d => accepts_ans W n m (some ⟨s1, 0, none⟩) (some ⟨s2, 0, none⟩) (some ⟨s3, 0, none⟩) ks1 ks2 ks3 St Fi Ed (some ⟨gw, 0, none⟩) kw Wd (hide (RA.out W d).1) (hide (RA.out W d).2.2.2.1) (hide (RA.out W d).2.2.2.2.2.2) (by omega) (by omega) (by omega) (by omega))
  have FR : Hid (∀ W, Below w5.heap.size w5 W → Calls Tryz.prog 45 #[.agg #[.int .i64 n, .int .i64 m, .slice a1 St.length c1, .slice a2 Fi.length c2, .slice a3 Ed.length c3], .slice u1 Wd.length cw] W fun e w' => e = .returned (.tuple #[.bool (accA n m St Fi Ed Wd).1, .int .i64 (accA n m St Fi Ed Wd).2]) ∧ Below W.heap.size W w') := hide (fun W d => raccepts_any W n m a1 a2 a3 c1 c2 c3 St Fi Ed u1 cw Wd (hide (hA.out.on (RA.out W d).2.2.2.2.2.1)) (hide (hU.out.on (RA.out W d).2.2.2.2.2.1)) (by omega) (by omega) (by omega) (by omega))
  generalize accA n m St Fi Ed Wd = rF at FP FR
  have HP : Hid (∀ W, Below w5.heap.size w5 W → Calls Tryz.prog 13 #[.agg #[.int .i64 n, .int .i64 m, .slice (some ⟨s1, 0, none⟩) St.length ks1, .slice (some ⟨s2, 0, none⟩) Fi.length ks2, .slice (some ⟨s3, 0, none⟩) Ed.length ks3], .slice (some ⟨gp, 0, none⟩) P.length kp, .slice (some ⟨gw, 0, none⟩) Wd.length kw] W fun e w' => e = .returned (.tuple #[.bool (runR n m St Fi Ed P Wd).1, .int .i64 (runR n m St Fi Ed P Wd).2]) ∧ Below W.heap.size W w') := hide (fun W d => runs_ans W n m (some ⟨s1, 0, none⟩) (some ⟨s2, 0, none⟩) (some ⟨s3, 0, none⟩) ks1 ks2 ks3 St Fi Ed (some ⟨gp, 0, none⟩) kp P (some ⟨gw, 0, none⟩) kw Wd (hide (RA.out W d).1) (hide (RA.out W d).2.2.2.1) (hide (RA.out W d).2.2.2.2.1) (by omega) (by omega) (by omega) (by omega) (by omega))
  have HR : Hid (∀ W, Below w5.heap.size w5 W → Calls Tryz.prog 46 #[.agg #[.int .i64 n, .int .i64 m, .slice a1 St.length c1, .slice a2 Fi.length c2, .slice a3 Ed.length c3], .slice p1 P.length cp, .slice u1 Wd.length cw] W fun e w' => e = .returned (.tuple #[.bool (runR n m St Fi Ed P Wd).1, .int .i64 (runR n m St Fi Ed P Wd).2]) ∧ Below W.heap.size W w') := hide (fun W d => rruns_ans W n m a1 a2 a3 c1 c2 c3 St Fi Ed p1 cp P u1 cw Wd (hide (hA.out.on (RA.out W d).2.2.2.2.2.1)) (hide (hU.out.on (RA.out W d).2.2.2.2.2.1)) (hide (hP.out.on (RA.out W d).2.2.2.2.2.1)) (by omega) (by omega) (by omega) (by omega) (by omega))
  generalize runR n m St Fi Ed P Wd = rH at HP HR
  have TV : Hid (∀ W, Below w5.heap.size w5 W → Calls Tryz.prog 22 #[.agg #[.int .i64 n, .int .i64 m, .slice (some ⟨s1, 0, none⟩) St.length ks1, .slice (some ⟨s2, 0, none⟩) Fi.length ks2, .slice (some ⟨s3, 0, none⟩) Ed.length ks3]] W fun e w' => e = .returned (.int .i64 (if mayA n m St Fi Ed then (0 : Int) else 2)) ∧ Below w5.heap.size w5 w') := hide (fun W d => (valid_any W n m (some ⟨s1, 0, none⟩) (some ⟨s2, 0, none⟩) (some ⟨s3, 0, none⟩) ks1 ks2 ks3 St Fi Ed (hide (RA.out W d).1) (by omega) (by omega) (by omega)).mono fun e w' ⟨he, dd⟩ => ⟨he, d.trans (dd.mono d.size)⟩)
  have TR : Hid (∀ W, Below w5.heap.size w5 W → Calls Tryz.prog 39 #[.agg #[.int .i64 n, .int .i64 m, .slice a1 St.length c1, .slice a2 Fi.length c2, .slice a3 Ed.length c3]] W fun e w' => e = .returned (.int .i64 (if mayA n m St Fi Ed then (0 : Int) else 2)) ∧ Below w5.heap.size w5 w') := hide (fun W d => (rvalid_any W n m a1 a2 a3 c1 c2 c3 St Fi Ed (hide (hA.out.on (RA.out W d).2.2.2.2.2.1)) (by omega) (by omega) (by omega)).mono fun e w' ⟨he, dd⟩ => ⟨he, d.trans (dd.mono d.size)⟩)
  have TS : Hid (∀ W, Below w5.heap.size w5 W → Calls Tryz.prog 24 #[.agg #[.int .i64 n, .int .i64 m, .slice (some ⟨s1, 0, none⟩) St.length ks1, .slice (some ⟨s2, 0, none⟩) Fi.length ks2, .slice (some ⟨s3, 0, none⟩) Ed.length ks3], .agg #[.int .i64 nb, .int .i64 mb, .slice (some ⟨v1, 0, none⟩) Sb.length kv1, .slice (some ⟨v2, 0, none⟩) Fb.length kv2, .slice (some ⟨v3, 0, none⟩) Eb.length kv3]] W fun e w' => e = .returned (.bool (smB n m nb mb St Fi Ed Sb Fb Eb)) ∧ Below w5.heap.size w5 w') := hide (fun W d => (same_any W n m nb mb (some ⟨s1, 0, none⟩) (some ⟨s2, 0, none⟩) (some ⟨s3, 0, none⟩) (some ⟨v1, 0, none⟩) (some ⟨v2, 0, none⟩) (some ⟨v3, 0, none⟩) ks1 ks2 ks3 kv1 kv2 kv3 St Fi Ed Sb Fb Eb (hide (RA.out W d).1) (hide (RA.out W d).2.1) (by omega) (by omega) (by omega) (by omega) (by omega) (by omega)).mono fun e w' ⟨he, dd⟩ => ⟨he, d.trans (dd.mono d.size)⟩)
  have TX : Hid (∀ W, Below w5.heap.size w5 W → Calls Tryz.prog 40 #[.agg #[.int .i64 n, .int .i64 m, .slice a1 St.length c1, .slice a2 Fi.length c2, .slice a3 Ed.length c3], .agg #[.int .i64 nb, .int .i64 mb, .slice b1 Sb.length d1, .slice b2 Fb.length d2, .slice b3 Eb.length d3]] W fun e w' => e = .returned (.bool (smB n m nb mb St Fi Ed Sb Fb Eb)) ∧ Below w5.heap.size w5 w') := hide (fun W d => (rsame_any W n m nb mb a1 a2 a3 b1 b2 b3 c1 c2 c3 d1 d2 d3 St Fi Ed Sb Fb Eb (hide (hA.out.on (RA.out W d).2.2.2.2.2.1)) (hide (hB.out.on (RA.out W d).2.2.2.2.2.1)) (by omega) (by omega) (by omega) (by omega) (by omega) (by omega) hc hc').mono fun e w' ⟨he, dd⟩ => ⟨he, d.trans (dd.mono d.size)⟩)
  generalize (if mayA n m St Fi Ed then (0 : Int) else 2) = v at TV TR
  generalize smB n m nb mb St Fi Ed Sb Fb Eb = sv at TS TX
  have kv : (v != v) = false := by simp
  have ks : (sv != sv) = false := by simp
  have SKK : Hid (∀ W, Below w5.heap.size w5 W → (fun W => (W.cell? ⟨w.heap.size, 0, none⟩ = some (.int .i64 n) ∧ W.cell? ⟨w.heap.size, 1, none⟩ = some (.int .i64 m) ∧ W.cell? ⟨w.heap.size, 2, none⟩ = some (.slice a1 St.length c1) ∧ W.cell? ⟨w.heap.size, 3, none⟩ = some (.slice a2 Fi.length c2) ∧ W.cell? ⟨w.heap.size, 4, none⟩ = some (.slice a3 Ed.length c3) ∧ W.cell? ⟨w.heap.size, 5, none⟩ = some (.int .i64 nb) ∧ W.cell? ⟨w.heap.size, 6, none⟩ = some (.int .i64 mb) ∧ W.cell? ⟨w.heap.size, 7, none⟩ = some (.slice b1 Sb.length d1) ∧ W.cell? ⟨w.heap.size, 8, none⟩ = some (.slice b2 Fb.length d2) ∧ W.cell? ⟨w.heap.size, 9, none⟩ = some (.slice b3 Eb.length d3) ∧ W.cell? ⟨w.heap.size, 10, none⟩ = some (.slice q1 Q.length cq) ∧ W.cell? ⟨w.heap.size, 11, none⟩ = some (.slice p1 P.length cp) ∧ W.cell? ⟨w.heap.size, 12, none⟩ = some (.int .i64 sym) ∧ W.cell? ⟨w.heap.size, 13, none⟩ = some (.slice u1 Wd.length cw) ∧ W.cell? ⟨w.heap.size, 14, none⟩ = some (.int .i64 kk) ∧ W.cell? ⟨w.heap.size, 15, none⟩ = some (.slice o1 lo co)) ∧ (W.cell? ⟨pa, 0, none⟩ = some (.int .i64 n) ∧ W.cell? ⟨pa, 1, none⟩ = some (.int .i64 m) ∧ W.cell? ⟨pa, 2, none⟩ = some (.slice (some ⟨s1, 0, none⟩) St.length ks1) ∧ W.cell? ⟨pa, 3, none⟩ = some (.slice (some ⟨s2, 0, none⟩) Fi.length ks2) ∧ W.cell? ⟨pa, 4, none⟩ = some (.slice (some ⟨s3, 0, none⟩) Ed.length ks3)) ∧ (W.cell? ⟨pb, 0, none⟩ = some (.int .i64 nb) ∧ W.cell? ⟨pb, 1, none⟩ = some (.int .i64 mb) ∧ W.cell? ⟨pb, 2, none⟩ = some (.slice (some ⟨v1, 0, none⟩) Sb.length kv1) ∧ W.cell? ⟨pb, 3, none⟩ = some (.slice (some ⟨v2, 0, none⟩) Fb.length kv2) ∧ W.cell? ⟨pb, 4, none⟩ = some (.slice (some ⟨v3, 0, none⟩) Eb.length kv3)) ∧ Hid (Below w5.heap.size w5 W)) W) := hide (fun W d => by
    obtain ⟨x, y, z⟩ := KK.out W d
    exact ⟨x, y, z, hide d⟩)
  have SD : Hid (∀ W, (fun W => (W.cell? ⟨w.heap.size, 0, none⟩ = some (.int .i64 n) ∧ W.cell? ⟨w.heap.size, 1, none⟩ = some (.int .i64 m) ∧ W.cell? ⟨w.heap.size, 2, none⟩ = some (.slice a1 St.length c1) ∧ W.cell? ⟨w.heap.size, 3, none⟩ = some (.slice a2 Fi.length c2) ∧ W.cell? ⟨w.heap.size, 4, none⟩ = some (.slice a3 Ed.length c3) ∧ W.cell? ⟨w.heap.size, 5, none⟩ = some (.int .i64 nb) ∧ W.cell? ⟨w.heap.size, 6, none⟩ = some (.int .i64 mb) ∧ W.cell? ⟨w.heap.size, 7, none⟩ = some (.slice b1 Sb.length d1) ∧ W.cell? ⟨w.heap.size, 8, none⟩ = some (.slice b2 Fb.length d2) ∧ W.cell? ⟨w.heap.size, 9, none⟩ = some (.slice b3 Eb.length d3) ∧ W.cell? ⟨w.heap.size, 10, none⟩ = some (.slice q1 Q.length cq) ∧ W.cell? ⟨w.heap.size, 11, none⟩ = some (.slice p1 P.length cp) ∧ W.cell? ⟨w.heap.size, 12, none⟩ = some (.int .i64 sym) ∧ W.cell? ⟨w.heap.size, 13, none⟩ = some (.slice u1 Wd.length cw) ∧ W.cell? ⟨w.heap.size, 14, none⟩ = some (.int .i64 kk) ∧ W.cell? ⟨w.heap.size, 15, none⟩ = some (.slice o1 lo co)) ∧ (W.cell? ⟨pa, 0, none⟩ = some (.int .i64 n) ∧ W.cell? ⟨pa, 1, none⟩ = some (.int .i64 m) ∧ W.cell? ⟨pa, 2, none⟩ = some (.slice (some ⟨s1, 0, none⟩) St.length ks1) ∧ W.cell? ⟨pa, 3, none⟩ = some (.slice (some ⟨s2, 0, none⟩) Fi.length ks2) ∧ W.cell? ⟨pa, 4, none⟩ = some (.slice (some ⟨s3, 0, none⟩) Ed.length ks3)) ∧ (W.cell? ⟨pb, 0, none⟩ = some (.int .i64 nb) ∧ W.cell? ⟨pb, 1, none⟩ = some (.int .i64 mb) ∧ W.cell? ⟨pb, 2, none⟩ = some (.slice (some ⟨v1, 0, none⟩) Sb.length kv1) ∧ W.cell? ⟨pb, 3, none⟩ = some (.slice (some ⟨v2, 0, none⟩) Fb.length kv2) ∧ W.cell? ⟨pb, 4, none⟩ = some (.slice (some ⟨v3, 0, none⟩) Eb.length kv3)) ∧ Hid (Below w5.heap.size w5 W)) W → Below w5.heap.size w5 W) := hide (fun W h => h.2.2.2.out)
  have S0 := SKK.out w5.drew (Below.refl _ _).drew
  go_region_held3 (fun W => (W.cell? ⟨w.heap.size, 0, none⟩ = some (.int .i64 n) ∧ W.cell? ⟨w.heap.size, 1, none⟩ = some (.int .i64 m) ∧ W.cell? ⟨w.heap.size, 2, none⟩ = some (.slice a1 St.length c1) ∧ W.cell? ⟨w.heap.size, 3, none⟩ = some (.slice a2 Fi.length c2) ∧ W.cell? ⟨w.heap.size, 4, none⟩ = some (.slice a3 Ed.length c3) ∧ W.cell? ⟨w.heap.size, 5, none⟩ = some (.int .i64 nb) ∧ W.cell? ⟨w.heap.size, 6, none⟩ = some (.int .i64 mb) ∧ W.cell? ⟨w.heap.size, 7, none⟩ = some (.slice b1 Sb.length d1) ∧ W.cell? ⟨w.heap.size, 8, none⟩ = some (.slice b2 Fb.length d2) ∧ W.cell? ⟨w.heap.size, 9, none⟩ = some (.slice b3 Eb.length d3) ∧ W.cell? ⟨w.heap.size, 10, none⟩ = some (.slice q1 Q.length cq) ∧ W.cell? ⟨w.heap.size, 11, none⟩ = some (.slice p1 P.length cp) ∧ W.cell? ⟨w.heap.size, 12, none⟩ = some (.int .i64 sym) ∧ W.cell? ⟨w.heap.size, 13, none⟩ = some (.slice u1 Wd.length cw) ∧ W.cell? ⟨w.heap.size, 14, none⟩ = some (.int .i64 kk) ∧ W.cell? ⟨w.heap.size, 15, none⟩ = some (.slice o1 lo co)) ∧ (W.cell? ⟨pa, 0, none⟩ = some (.int .i64 n) ∧ W.cell? ⟨pa, 1, none⟩ = some (.int .i64 m) ∧ W.cell? ⟨pa, 2, none⟩ = some (.slice (some ⟨s1, 0, none⟩) St.length ks1) ∧ W.cell? ⟨pa, 3, none⟩ = some (.slice (some ⟨s2, 0, none⟩) Fi.length ks2) ∧ W.cell? ⟨pa, 4, none⟩ = some (.slice (some ⟨s3, 0, none⟩) Ed.length ks3)) ∧ (W.cell? ⟨pb, 0, none⟩ = some (.int .i64 nb) ∧ W.cell? ⟨pb, 1, none⟩ = some (.int .i64 mb) ∧ W.cell? ⟨pb, 2, none⟩ = some (.slice (some ⟨v1, 0, none⟩) Sb.length kv1) ∧ W.cell? ⟨pb, 3, none⟩ = some (.slice (some ⟨v2, 0, none⟩) Fb.length kv2) ∧ W.cell? ⟨pb, 4, none⟩ = some (.slice (some ⟨v3, 0, none⟩) Eb.length kv3)) ∧ Hid (Below w5.heap.size w5 W))
    (with_reducible assumption)
    ((first
      | (go_at_call 22; refine (TV.out _ (SD.out _ (by with_reducible assumption))).mono ?_; rintro e x1 ⟨rfl, e1⟩; have Sx1 := SKK.out x1 e1)
      | (go_at_call 39; refine (TR.out _ (SD.out _ (by with_reducible assumption))).mono ?_; rintro e x2 ⟨rfl, e2⟩; have Sx2 := SKK.out x2 e2)
      | (go_at_call 24; refine (TS.out _ (SD.out _ (by with_reducible assumption))).mono ?_; rintro e x3 ⟨rfl, e3⟩; have Sx3 := SKK.out x3 e3)
      | (go_at_call 40; refine (TX.out _ (SD.out _ (by with_reducible assumption))).mono ?_; rintro e x4 ⟨rfl, e4⟩; have Sx4 := SKK.out x4 e4)))
  have HX4 := hide e4
  clear S0 Sx1 Sx2 Sx3 Sx4 SD SKK TV TR TS TX e1 e2 e3 e4
  go_upto_region 10 with fail
  clear kv ks
  obtain ⟨⟨y0, y1, y2, y3, y4, y5, y6, y7, y8, y9, y10, y11, y12, y13, y14, y15⟩, ⟨ya0, ya1, ya2, ya3, ya4⟩, yb0, yb1, yb2, yb3, yb4⟩ := KK.out x4 (HX4.out)
  have n0 : (rA.2 != rA.2) = false := by simp
  go_upto_region 14 with (first
    | (go_at_call 15; refine (AP.out x4 (HX4.out)).mono ?_; rintro e wa1 ⟨ba1, ca1, rfl, OA, dA⟩; have HA1 := hide ((HX4.out).trans (dA.mono (HX4.out).size)); clear y0 y1 y2 y3 y4 y5 y6 y7 y8 y9 y10 y11 y12 y13 y14 y15 ya0 ya1 ya2 ya3 ya4 yb0 yb1 yb2 yb3 yb4; have ⟨⟨y0, y1, y2, y3, y4, y5, y6, y7, y8, y9, y10, y11, y12, y13, y14, y15⟩, ⟨ya0, ya1, ya2, ya3, ya4⟩, yb0, yb1, yb2, yb3, yb4⟩ := KK.out wa1 (HA1.out))
    | (go_at_call 41; refine (AR.out wa1 HA1.out).mono ?_; rintro e wb1 ⟨bb1, cb1, rfl, OB, dB⟩; have HB1 := hide ((HA1.out).trans (dB.mono (HA1.out).size)); have OA2 := hide (own_below OA.out dB); clear y0 y1 y2 y3 y4 y5 y6 y7 y8 y9 y10 y11 y12 y13 y14 y15 ya0 ya1 ya2 ya3 ya4 yb0 yb1 yb2 yb3 yb4; have ⟨⟨y0, y1, y2, y3, y4, y5, y6, y7, y8, y9, y10, y11, y12, y13, y14, y15⟩, ⟨ya0, ya1, ya2, ya3, ya4⟩, yb0, yb1, yb2, yb3, yb4⟩ := KK.out wb1 (HB1.out))
    | (go_at_call 20; refine (same_same wb1 ba1 bb1 rA.1 ca1 cb1 (hide (own_rdN OA2.out)) (hide (own_rdN OB.out)) (by have := HLA.out; omega)).mono ?_; rintro e wc1 ⟨rfl, dC⟩; have HC1 := hide ((HB1.out).trans (dC.mono (HB1.out).size)); clear y0 y1 y2 y3 y4 y5 y6 y7 y8 y9 y10 y11 y12 y13 y14 y15 ya0 ya1 ya2 ya3 ya4 yb0 yb1 yb2 yb3 yb4))
  have DD : Hid (Below x4.heap.size x4 wc1) := hide (dA.trans ((dB.trans (dC.mono dB.size)).mono dA.size))
  have SZ1 : Hid (x4.heap.size ≤ wa1.heap.size ∧ wa1.heap.size ≤ wb1.heap.size ∧ wb1.heap.size ≤ wc1.heap.size) := hide ⟨dA.size, dB.size, dC.size⟩
  have UA1 : Hid (∀ k, (Value.slice ba1 rA.1.length ca1).ownBlock = some k → k < wa1.heap.size) := hide (fun k hk => (OA.out.lt k hk).2)
  have UB1 : Hid (∀ k, (Value.slice bb1 rA.1.length cb1).ownBlock = some k → k < wb1.heap.size) := hide (fun k hk => (OB.out.lt k hk).2)
  have RW1 : Hid (wc1.ownsRow x4.heap.size 3 1 (.slice ba1 rA.1.length ca1) rA.1.length (rA.1.map (Value.int .i64)) ∧ wc1.ownsRow wa1.heap.size 3 1 (.slice bb1 rA.1.length cb1) rA.1.length (rA.1.map (Value.int .i64))) := hide ⟨own_below OA2.out dC, own_below OB.out dC⟩
  clear n0 dA dB dC OA OB OA2 DD AR
  obtain ⟨⟨y0, y1, y2, y3, y4, y5, y6, y7, y8, y9, y10, y11, y12, y13, y14, y15⟩, ⟨ya0, ya1, ya2, ya3, ya4⟩, yb0, yb1, yb2, yb3, yb4⟩ := KK.out wc1 (HC1.out)
  have n0 : (rB.2 != rB.2) = false := by simp
  go_upto_region 18 with (first
    | (go_at_call 16; refine (BP.out wc1 (HC1.out)).mono ?_; rintro e wa2 ⟨ba2, ca2, rfl, OA, dA⟩; have HA2 := hide ((HC1.out).trans (dA.mono (HC1.out).size)); clear y0 y1 y2 y3 y4 y5 y6 y7 y8 y9 y10 y11 y12 y13 y14 y15 ya0 ya1 ya2 ya3 ya4 yb0 yb1 yb2 yb3 yb4; have ⟨⟨y0, y1, y2, y3, y4, y5, y6, y7, y8, y9, y10, y11, y12, y13, y14, y15⟩, ⟨ya0, ya1, ya2, ya3, ya4⟩, yb0, yb1, yb2, yb3, yb4⟩ := KK.out wa2 (HA2.out))
    | (go_at_call 42; refine (BR.out wa2 HA2.out).mono ?_; rintro e wb2 ⟨bb2, cb2, rfl, OB, dB⟩; have HB2 := hide ((HA2.out).trans (dB.mono (HA2.out).size)); have OA2 := hide (own_below OA.out dB); clear y0 y1 y2 y3 y4 y5 y6 y7 y8 y9 y10 y11 y12 y13 y14 y15 ya0 ya1 ya2 ya3 ya4 yb0 yb1 yb2 yb3 yb4; have ⟨⟨y0, y1, y2, y3, y4, y5, y6, y7, y8, y9, y10, y11, y12, y13, y14, y15⟩, ⟨ya0, ya1, ya2, ya3, ya4⟩, yb0, yb1, yb2, yb3, yb4⟩ := KK.out wb2 (HB2.out))
    | (go_at_call 20; refine (same_same wb2 ba2 bb2 rB.1 ca2 cb2 (hide (own_rdN OA2.out)) (hide (own_rdN OB.out)) (by have := HLB.out; omega)).mono ?_; rintro e wc2 ⟨rfl, dC⟩; have HC2 := hide ((HB2.out).trans (dC.mono (HB2.out).size)); clear y0 y1 y2 y3 y4 y5 y6 y7 y8 y9 y10 y11 y12 y13 y14 y15 ya0 ya1 ya2 ya3 ya4 yb0 yb1 yb2 yb3 yb4))
  have DD : Hid (Below wc1.heap.size wc1 wc2) := hide (dA.trans ((dB.trans (dC.mono dB.size)).mono dA.size))
  have SZ2 : Hid (wc1.heap.size ≤ wa2.heap.size ∧ wa2.heap.size ≤ wb2.heap.size ∧ wb2.heap.size ≤ wc2.heap.size) := hide ⟨dA.size, dB.size, dC.size⟩
  have UA2 : Hid (∀ k, (Value.slice ba2 rB.1.length ca2).ownBlock = some k → k < wa2.heap.size) := hide (fun k hk => (OA.out.lt k hk).2)
  have UB2 : Hid (∀ k, (Value.slice bb2 rB.1.length cb2).ownBlock = some k → k < wb2.heap.size) := hide (fun k hk => (OB.out.lt k hk).2)
  have RW2 : Hid (wc2.ownsRow x4.heap.size 3 1 (.slice ba1 rA.1.length ca1) rA.1.length (rA.1.map (Value.int .i64)) ∧ wc2.ownsRow wa1.heap.size 3 1 (.slice bb1 rA.1.length cb1) rA.1.length (rA.1.map (Value.int .i64)) ∧ wc2.ownsRow wc1.heap.size 3 1 (.slice ba2 rB.1.length ca2) rB.1.length (rB.1.map (Value.int .i64)) ∧ wc2.ownsRow wa2.heap.size 3 1 (.slice bb2 rB.1.length cb2) rB.1.length (rB.1.map (Value.int .i64))) := hide ⟨own_below RW1.out.1 DD.out, own_below RW1.out.2 DD.out, own_below OA2.out dC, own_below OB.out dC⟩
  clear n0 dA dB dC OA OB OA2 DD BR RW1
  obtain ⟨⟨y0, y1, y2, y3, y4, y5, y6, y7, y8, y9, y10, y11, y12, y13, y14, y15⟩, ⟨ya0, ya1, ya2, ya3, ya4⟩, yb0, yb1, yb2, yb3, yb4⟩ := KK.out wc2 (HC2.out)
  have n0 : (rC.2 != rC.2) = false := by simp
  go_upto_region 22 with (first
    | (go_at_call 19; refine (CP.out wc2 (HC2.out)).mono ?_; rintro e wa3 ⟨ba3, ca3, rfl, OA, dA⟩; have HA3 := hide ((HC2.out).trans (dA.mono (HC2.out).size)); clear y0 y1 y2 y3 y4 y5 y6 y7 y8 y9 y10 y11 y12 y13 y14 y15 ya0 ya1 ya2 ya3 ya4 yb0 yb1 yb2 yb3 yb4; have ⟨⟨y0, y1, y2, y3, y4, y5, y6, y7, y8, y9, y10, y11, y12, y13, y14, y15⟩, ⟨ya0, ya1, ya2, ya3, ya4⟩, yb0, yb1, yb2, yb3, yb4⟩ := KK.out wa3 (HA3.out))
    | (go_at_call 43; refine (CR.out wa3 HA3.out).mono ?_; rintro e wb3 ⟨bb3, cb3, rfl, OB, dB⟩; have HB3 := hide ((HA3.out).trans (dB.mono (HA3.out).size)); have OA2 := hide (own_below OA.out dB); clear y0 y1 y2 y3 y4 y5 y6 y7 y8 y9 y10 y11 y12 y13 y14 y15 ya0 ya1 ya2 ya3 ya4 yb0 yb1 yb2 yb3 yb4; have ⟨⟨y0, y1, y2, y3, y4, y5, y6, y7, y8, y9, y10, y11, y12, y13, y14, y15⟩, ⟨ya0, ya1, ya2, ya3, ya4⟩, yb0, yb1, yb2, yb3, yb4⟩ := KK.out wb3 (HB3.out))
    | (go_at_call 20; refine (same_same wb3 ba3 bb3 rC.1 ca3 cb3 (hide (own_rdN OA2.out)) (hide (own_rdN OB.out)) (by have := HLC.out; omega)).mono ?_; rintro e wc3 ⟨rfl, dC⟩; have HC3 := hide ((HB3.out).trans (dC.mono (HB3.out).size)); clear y0 y1 y2 y3 y4 y5 y6 y7 y8 y9 y10 y11 y12 y13 y14 y15 ya0 ya1 ya2 ya3 ya4 yb0 yb1 yb2 yb3 yb4))
  have DD : Hid (Below wc2.heap.size wc2 wc3) := hide (dA.trans ((dB.trans (dC.mono dB.size)).mono dA.size))
  have SZ3 : Hid (wc2.heap.size ≤ wa3.heap.size ∧ wa3.heap.size ≤ wb3.heap.size ∧ wb3.heap.size ≤ wc3.heap.size) := hide ⟨dA.size, dB.size, dC.size⟩
  have UA3 : Hid (∀ k, (Value.slice ba3 rC.1.length ca3).ownBlock = some k → k < wa3.heap.size) := hide (fun k hk => (OA.out.lt k hk).2)
  have UB3 : Hid (∀ k, (Value.slice bb3 rC.1.length cb3).ownBlock = some k → k < wb3.heap.size) := hide (fun k hk => (OB.out.lt k hk).2)
  have RW3 : Hid (wc3.ownsRow x4.heap.size 3 1 (.slice ba1 rA.1.length ca1) rA.1.length (rA.1.map (Value.int .i64)) ∧ wc3.ownsRow wa1.heap.size 3 1 (.slice bb1 rA.1.length cb1) rA.1.length (rA.1.map (Value.int .i64)) ∧ wc3.ownsRow wc1.heap.size 3 1 (.slice ba2 rB.1.length ca2) rB.1.length (rB.1.map (Value.int .i64)) ∧ wc3.ownsRow wa2.heap.size 3 1 (.slice bb2 rB.1.length cb2) rB.1.length (rB.1.map (Value.int .i64)) ∧ wc3.ownsRow wc2.heap.size 3 1 (.slice ba3 rC.1.length ca3) rC.1.length (rC.1.map (Value.int .i64)) ∧ wc3.ownsRow wa3.heap.size 3 1 (.slice bb3 rC.1.length cb3) rC.1.length (rC.1.map (Value.int .i64))) := hide ⟨own_below RW2.out.1 DD.out, own_below RW2.out.2.1 DD.out, own_below RW2.out.2.2.1 DD.out, own_below RW2.out.2.2.2 DD.out, own_below OA2.out dC, own_below OB.out dC⟩
  clear n0 dA dB dC OA OB OA2 DD CR RW2
  obtain ⟨⟨y0, y1, y2, y3, y4, y5, y6, y7, y8, y9, y10, y11, y12, y13, y14, y15⟩, ⟨ya0, ya1, ya2, ya3, ya4⟩, yb0, yb1, yb2, yb3, yb4⟩ := KK.out wc3 (HC3.out)
  have n0 : (rE.2 != rE.2) = false := by simp
  go_upto_region 26 with (first
    | (go_at_call 12; refine (EP.out wc3 (HC3.out)).mono ?_; rintro e wa4 ⟨ba4, ca4, rfl, OA, dA⟩; have HA4 := hide ((HC3.out).trans (dA.mono (HC3.out).size)); clear y0 y1 y2 y3 y4 y5 y6 y7 y8 y9 y10 y11 y12 y13 y14 y15 ya0 ya1 ya2 ya3 ya4 yb0 yb1 yb2 yb3 yb4; have ⟨⟨y0, y1, y2, y3, y4, y5, y6, y7, y8, y9, y10, y11, y12, y13, y14, y15⟩, ⟨ya0, ya1, ya2, ya3, ya4⟩, yb0, yb1, yb2, yb3, yb4⟩ := KK.out wa4 (HA4.out))
    | (go_at_call 44; refine (ER.out wa4 HA4.out).mono ?_; rintro e wb4 ⟨bb4, cb4, rfl, OB, dB⟩; have HB4 := hide ((HA4.out).trans (dB.mono (HA4.out).size)); have OA2 := hide (own_below OA.out dB); clear y0 y1 y2 y3 y4 y5 y6 y7 y8 y9 y10 y11 y12 y13 y14 y15 ya0 ya1 ya2 ya3 ya4 yb0 yb1 yb2 yb3 yb4; have ⟨⟨y0, y1, y2, y3, y4, y5, y6, y7, y8, y9, y10, y11, y12, y13, y14, y15⟩, ⟨ya0, ya1, ya2, ya3, ya4⟩, yb0, yb1, yb2, yb3, yb4⟩ := KK.out wb4 (HB4.out))
    | (go_at_call 20; refine (same_same wb4 ba4 bb4 rE.1 ca4 cb4 (hide (own_rdN OA2.out)) (hide (own_rdN OB.out)) (by have := HLE.out; omega)).mono ?_; rintro e wc4 ⟨rfl, dC⟩; have HC4 := hide ((HB4.out).trans (dC.mono (HB4.out).size)); clear y0 y1 y2 y3 y4 y5 y6 y7 y8 y9 y10 y11 y12 y13 y14 y15 ya0 ya1 ya2 ya3 ya4 yb0 yb1 yb2 yb3 yb4))
  have DD : Hid (Below wc3.heap.size wc3 wc4) := hide (dA.trans ((dB.trans (dC.mono dB.size)).mono dA.size))
  have SZ4 : Hid (wc3.heap.size ≤ wa4.heap.size ∧ wa4.heap.size ≤ wb4.heap.size ∧ wb4.heap.size ≤ wc4.heap.size) := hide ⟨dA.size, dB.size, dC.size⟩
  have UA4 : Hid (∀ k, (Value.slice ba4 rE.1.length ca4).ownBlock = some k → k < wa4.heap.size) := hide (fun k hk => (OA.out.lt k hk).2)
  have UB4 : Hid (∀ k, (Value.slice bb4 rE.1.length cb4).ownBlock = some k → k < wb4.heap.size) := hide (fun k hk => (OB.out.lt k hk).2)
  have RW4 : Hid (wc4.ownsRow x4.heap.size 3 1 (.slice ba1 rA.1.length ca1) rA.1.length (rA.1.map (Value.int .i64)) ∧ wc4.ownsRow wa1.heap.size 3 1 (.slice bb1 rA.1.length cb1) rA.1.length (rA.1.map (Value.int .i64)) ∧ wc4.ownsRow wc1.heap.size 3 1 (.slice ba2 rB.1.length ca2) rB.1.length (rB.1.map (Value.int .i64)) ∧ wc4.ownsRow wa2.heap.size 3 1 (.slice bb2 rB.1.length cb2) rB.1.length (rB.1.map (Value.int .i64)) ∧ wc4.ownsRow wc2.heap.size 3 1 (.slice ba3 rC.1.length ca3) rC.1.length (rC.1.map (Value.int .i64)) ∧ wc4.ownsRow wa3.heap.size 3 1 (.slice bb3 rC.1.length cb3) rC.1.length (rC.1.map (Value.int .i64)) ∧ wc4.ownsRow wc3.heap.size 3 1 (.slice ba4 rE.1.length ca4) rE.1.length (rE.1.map (Value.int .i64)) ∧ wc4.ownsRow wa4.heap.size 3 1 (.slice bb4 rE.1.length cb4) rE.1.length (rE.1.map (Value.int .i64))) := hide ⟨own_below RW3.out.1 DD.out, own_below RW3.out.2.1 DD.out, own_below RW3.out.2.2.1 DD.out, own_below RW3.out.2.2.2.1 DD.out, own_below RW3.out.2.2.2.2.1 DD.out, own_below RW3.out.2.2.2.2.2 DD.out, own_below OA2.out dC, own_below OB.out dC⟩
  clear n0 dA dB dC OA OB OA2 DD ER RW3
  have n0 : (rF.2 != rF.2) = false := by simp
  have n1 : (rF.1 != rF.1) = false := by simp
  obtain ⟨⟨y0, y1, y2, y3, y4, y5, y6, y7, y8, y9, y10, y11, y12, y13, y14, y15⟩, ⟨ya0, ya1, ya2, ya3, ya4⟩, yb0, yb1, yb2, yb3, yb4⟩ := KK.out wc4 (HC4.out)
  go_upto_region 30 with (first
    | (go_at_call 9; refine (FP.out wc4 (HC4.out)).mono ?_; rintro e wa5 ⟨rfl, dA⟩; have HA5 := hide ((HC4.out).trans (dA.mono (HC4.out).size)); clear y0 y1 y2 y3 y4 y5 y6 y7 y8 y9 y10 y11 y12 y13 y14 y15 ya0 ya1 ya2 ya3 ya4 yb0 yb1 yb2 yb3 yb4; have ⟨⟨y0, y1, y2, y3, y4, y5, y6, y7, y8, y9, y10, y11, y12, y13, y14, y15⟩, ⟨ya0, ya1, ya2, ya3, ya4⟩, yb0, yb1, yb2, yb3, yb4⟩ := KK.out wa5 (HA5.out))
    | (go_at_call 45; refine (FR.out wa5 HA5.out).mono ?_; rintro e wb5 ⟨rfl, dB⟩; have HB5 := hide ((HA5.out).trans (dB.mono (HA5.out).size)); clear y0 y1 y2 y3 y4 y5 y6 y7 y8 y9 y10 y11 y12 y13 y14 y15 ya0 ya1 ya2 ya3 ya4 yb0 yb1 yb2 yb3 yb4))
  have DD : Hid (Below wc4.heap.size wc4 wb5) := hide (dA.trans (dB.mono dA.size))
  have SZ5 := hide DD.out.size
  have RW5 : Hid (wb5.ownsRow x4.heap.size 3 1 (.slice ba1 rA.1.length ca1) rA.1.length (rA.1.map (Value.int .i64)) ∧ wb5.ownsRow wa1.heap.size 3 1 (.slice bb1 rA.1.length cb1) rA.1.length (rA.1.map (Value.int .i64)) ∧ wb5.ownsRow wc1.heap.size 3 1 (.slice ba2 rB.1.length ca2) rB.1.length (rB.1.map (Value.int .i64)) ∧ wb5.ownsRow wa2.heap.size 3 1 (.slice bb2 rB.1.length cb2) rB.1.length (rB.1.map (Value.int .i64)) ∧ wb5.ownsRow wc2.heap.size 3 1 (.slice ba3 rC.1.length ca3) rC.1.length (rC.1.map (Value.int .i64)) ∧ wb5.ownsRow wa3.heap.size 3 1 (.slice bb3 rC.1.length cb3) rC.1.length (rC.1.map (Value.int .i64)) ∧ wb5.ownsRow wc3.heap.size 3 1 (.slice ba4 rE.1.length ca4) rE.1.length (rE.1.map (Value.int .i64)) ∧ wb5.ownsRow wa4.heap.size 3 1 (.slice bb4 rE.1.length cb4) rE.1.length (rE.1.map (Value.int .i64))) := hide ⟨own_below RW4.out.1 DD.out, own_below RW4.out.2.1 DD.out, own_below RW4.out.2.2.1 DD.out, own_below RW4.out.2.2.2.1 DD.out, own_below RW4.out.2.2.2.2.1 DD.out, own_below RW4.out.2.2.2.2.2.1 DD.out, own_below RW4.out.2.2.2.2.2.2.1 DD.out, own_below RW4.out.2.2.2.2.2.2.2 DD.out⟩
  clear RW4
  clear dA dB DD
  clear n0 n1 FP FR
  obtain ⟨⟨y0, y1, y2, y3, y4, y5, y6, y7, y8, y9, y10, y11, y12, y13, y14, y15⟩, ⟨ya0, ya1, ya2, ya3, ya4⟩, yb0, yb1, yb2, yb3, yb4⟩ := KK.out wb5 (HB5.out)
  go_upto_region 32 with (first
    | (go_at_call 13; refine (HP.out wb5 (HB5.out)).mono ?_; rintro e wa6 ⟨rfl, dA⟩; have HA6 := hide ((HB5.out).trans (dA.mono (HB5.out).size)); clear y0 y1 y2 y3 y4 y5 y6 y7 y8 y9 y10 y11 y12 y13 y14 y15 ya0 ya1 ya2 ya3 ya4 yb0 yb1 yb2 yb3 yb4; have ⟨⟨y0, y1, y2, y3, y4, y5, y6, y7, y8, y9, y10, y11, y12, y13, y14, y15⟩, ⟨ya0, ya1, ya2, ya3, ya4⟩, yb0, yb1, yb2, yb3, yb4⟩ := KK.out wa6 (HA6.out))
    | (go_at_call 46; refine (HR.out wa6 HA6.out).mono ?_; rintro e wb6 ⟨rfl, dB⟩; have HB6 := hide ((HA6.out).trans (dB.mono (HA6.out).size)); clear y0 y1 y2 y3 y4 y5 y6 y7 y8 y9 y10 y11 y12 y13 y14 y15 ya0 ya1 ya2 ya3 ya4 yb0 yb1 yb2 yb3 yb4))
  have DD : Hid (Below wb5.heap.size wb5 wb6) := hide (dA.trans (dB.mono dA.size))
  have SZ6 := hide DD.out.size
  have RW6 : Hid (wb6.ownsRow x4.heap.size 3 1 (.slice ba1 rA.1.length ca1) rA.1.length (rA.1.map (Value.int .i64)) ∧ wb6.ownsRow wa1.heap.size 3 1 (.slice bb1 rA.1.length cb1) rA.1.length (rA.1.map (Value.int .i64)) ∧ wb6.ownsRow wc1.heap.size 3 1 (.slice ba2 rB.1.length ca2) rB.1.length (rB.1.map (Value.int .i64)) ∧ wb6.ownsRow wa2.heap.size 3 1 (.slice bb2 rB.1.length cb2) rB.1.length (rB.1.map (Value.int .i64)) ∧ wb6.ownsRow wc2.heap.size 3 1 (.slice ba3 rC.1.length ca3) rC.1.length (rC.1.map (Value.int .i64)) ∧ wb6.ownsRow wa3.heap.size 3 1 (.slice bb3 rC.1.length cb3) rC.1.length (rC.1.map (Value.int .i64)) ∧ wb6.ownsRow wc3.heap.size 3 1 (.slice ba4 rE.1.length ca4) rE.1.length (rE.1.map (Value.int .i64)) ∧ wb6.ownsRow wa4.heap.size 3 1 (.slice bb4 rE.1.length cb4) rE.1.length (rE.1.map (Value.int .i64))) := hide ⟨own_below RW5.out.1 DD.out, own_below RW5.out.2.1 DD.out, own_below RW5.out.2.2.1 DD.out, own_below RW5.out.2.2.2.1 DD.out, own_below RW5.out.2.2.2.2.1 DD.out, own_below RW5.out.2.2.2.2.2.1 DD.out, own_below RW5.out.2.2.2.2.2.2.1 DD.out, own_below RW5.out.2.2.2.2.2.2.2 DD.out⟩
  clear RW5
  clear dA dB DD
  clear HP HR
  obtain ⟨⟨y0, y1, y2, y3, y4, y5, y6, y7, y8, y9, y10, y11, y12, y13, y14, y15⟩, ⟨ya0, ya1, ya2, ya3, ya4⟩, yb0, yb1, yb2, yb3, yb4⟩ := KK.out wb6 (HB6.out)
  go_upto_region 34 with (first
    | (go_at_call_of 30 a1; refine (untouched_yes wb6 w1.heap.size n m s1 ks1 s2 ks2 s3 ks3 a1 a2 a3 c1 c2 c3 St Fi Ed (hide (F5.out.2.2.2.1.on (HB6.out))) (hide (hA.out.on (RA.out wb6 (HB6.out)).2.2.2.2.2.1)) (by omega) (by omega) (by omega)).mono ?_; rintro e wta0 ⟨rfl, dT0⟩; have HTa0 := hide ((HB6.out).trans (dT0.mono (HB6.out).size)); clear y0 y1 y2 y3 y4 y5 y6 y7 y8 y9 y10 y11 y12 y13 y14 y15 ya0 ya1 ya2 ya3 ya4 yb0 yb1 yb2 yb3 yb4; have ⟨⟨y0, y1, y2, y3, y4, y5, y6, y7, y8, y9, y10, y11, y12, y13, y14, y15⟩, ⟨ya0, ya1, ya2, ya3, ya4⟩, yb0, yb1, yb2, yb3, yb4⟩ := KK.out wta0 (HTa0.out))
    | (go_at_call_of 30 b1; refine (untouched_yes wta0 W2.heap.size nb mb v1 kv1 v2 kv2 v3 kv3 b1 b2 b3 d1 d2 d3 Sb Fb Eb (hide (F5.out.2.2.2.2.1.on (HTa0.out))) (hide (hB.out.on (RA.out wta0 (HTa0.out)).2.2.2.2.2.1)) (by omega) (by omega) (by omega)).mono ?_; rintro e wta1 ⟨rfl, dT1⟩; have HTa1 := hide ((HTa0.out).trans (dT1.mono (HTa0.out).size)); clear y0 y1 y2 y3 y4 y5 y6 y7 y8 y9 y10 y11 y12 y13 y14 y15 ya0 ya1 ya2 ya3 ya4 yb0 yb1 yb2 yb3 yb4; have ⟨⟨y0, y1, y2, y3, y4, y5, y6, y7, y8, y9, y10, y11, y12, y13, y14, y15⟩, ⟨ya0, ya1, ya2, ya3, ya4⟩, yb0, yb1, yb2, yb3, yb4⟩ := KK.out wta1 (HTa1.out))
    | (go_at_call_of 31 gq; refine (intact_yes wta1 W3.heap.size gq kq q1 Q cq (hide (F5.out.2.2.2.2.2.1.on (HTa1.out) F5.out.2.2.2.2.2.1.lt.2)) (hide (hQ.out.on (RA.out wta1 (HTa1.out)).2.2.2.2.2.1)) (by omega)).mono ?_; rintro e wta2 ⟨rfl, dT2⟩; have HTa2 := hide ((HTa1.out).trans (dT2.mono (HTa1.out).size)); clear y0 y1 y2 y3 y4 y5 y6 y7 y8 y9 y10 y11 y12 y13 y14 y15 ya0 ya1 ya2 ya3 ya4 yb0 yb1 yb2 yb3 yb4; have ⟨⟨y0, y1, y2, y3, y4, y5, y6, y7, y8, y9, y10, y11, y12, y13, y14, y15⟩, ⟨ya0, ya1, ya2, ya3, ya4⟩, yb0, yb1, yb2, yb3, yb4⟩ := KK.out wta2 (HTa2.out))
    | (go_at_call_of 31 gw; refine (intact_yes wta2 w3q.heap.size gw kw u1 Wd cw (hide (F5.out.2.2.2.2.2.2.1.on (HTa2.out) F5.out.2.2.2.2.2.2.1.lt.2)) (hide (hU.out.on (RA.out wta2 (HTa2.out)).2.2.2.2.2.1)) (by omega)).mono ?_; rintro e wta3 ⟨rfl, dT3⟩; have HTa3 := hide ((HTa2.out).trans (dT3.mono (HTa2.out).size)); clear y0 y1 y2 y3 y4 y5 y6 y7 y8 y9 y10 y11 y12 y13 y14 y15 ya0 ya1 ya2 ya3 ya4 yb0 yb1 yb2 yb3 yb4; have ⟨⟨y0, y1, y2, y3, y4, y5, y6, y7, y8, y9, y10, y11, y12, y13, y14, y15⟩, ⟨ya0, ya1, ya2, ya3, ya4⟩, yb0, yb1, yb2, yb3, yb4⟩ := KK.out wta3 (HTa3.out))
    | (go_at_call_of 31 gp; refine (intact_yes wta3 w3w.heap.size gp kp p1 P cp (hide (F5.out.2.2.2.2.2.2.2.1.on (HTa3.out) F5.out.2.2.2.2.2.2.2.1.lt.2)) (hide (hP.out.on (RA.out wta3 (HTa3.out)).2.2.2.2.2.1)) (by omega)).mono ?_; rintro e wta4 ⟨rfl, dT4⟩; have HTa4 := hide ((HTa3.out).trans (dT4.mono (HTa3.out).size)); clear y0 y1 y2 y3 y4 y5 y6 y7 y8 y9 y10 y11 y12 y13 y14 y15 ya0 ya1 ya2 ya3 ya4 yb0 yb1 yb2 yb3 yb4; have ⟨⟨y0, y1, y2, y3, y4, y5, y6, y7, y8, y9, y10, y11, y12, y13, y14, y15⟩, ⟨ya0, ya1, ya2, ya3, ya4⟩, yb0, yb1, yb2, yb3, yb4⟩ := KK.out wta4 (HTa4.out)))
  have DD : Hid (Below wb6.heap.size wb6 wta4) := hide (dT0.trans ((dT1.trans ((dT2.trans ((dT3.trans (dT4.mono dT3.size)).mono dT2.size)).mono dT1.size)).mono dT0.size))
  have SZ7 := hide DD.out.size
  clear y0 y1 y2 y3 y4 y5 y6 y7 y8 y9 y10 y11 y12 y13 y14 y15 ya0 ya1 ya2 ya3 ya4 yb0 yb1 yb2 yb3 yb4 dT0 dT1 dT2 dT3 dT4
  have RW7 : Hid (wta4.ownsRow x4.heap.size 3 1 (.slice ba1 rA.1.length ca1) rA.1.length (rA.1.map (Value.int .i64)) ∧ wta4.ownsRow wa1.heap.size 3 1 (.slice bb1 rA.1.length cb1) rA.1.length (rA.1.map (Value.int .i64)) ∧ wta4.ownsRow wc1.heap.size 3 1 (.slice ba2 rB.1.length ca2) rB.1.length (rB.1.map (Value.int .i64)) ∧ wta4.ownsRow wa2.heap.size 3 1 (.slice bb2 rB.1.length cb2) rB.1.length (rB.1.map (Value.int .i64)) ∧ wta4.ownsRow wc2.heap.size 3 1 (.slice ba3 rC.1.length ca3) rC.1.length (rC.1.map (Value.int .i64)) ∧ wta4.ownsRow wa3.heap.size 3 1 (.slice bb3 rC.1.length cb3) rC.1.length (rC.1.map (Value.int .i64)) ∧ wta4.ownsRow wc3.heap.size 3 1 (.slice ba4 rE.1.length ca4) rE.1.length (rE.1.map (Value.int .i64)) ∧ wta4.ownsRow wa4.heap.size 3 1 (.slice bb4 rE.1.length cb4) rE.1.length (rE.1.map (Value.int .i64))) := hide ⟨own_below RW6.out.1 DD.out, own_below RW6.out.2.1 DD.out, own_below RW6.out.2.2.1 DD.out, own_below RW6.out.2.2.2.1 DD.out, own_below RW6.out.2.2.2.2.1 DD.out, own_below RW6.out.2.2.2.2.2.1 DD.out, own_below RW6.out.2.2.2.2.2.2.1 DD.out, own_below RW6.out.2.2.2.2.2.2.2 DD.out⟩
  clear RW6
  clear DD
  obtain ⟨⟨y0, y1, y2, y3, y4, y5, y6, y7, y8, y9, y10, y11, y12, y13, y14, y15⟩, ⟨ya0, ya1, ya2, ya3, ya4⟩, yb0, yb1, yb2, yb3, yb4⟩ := KK.out wta4 (HTa4.out)
  go_upto_region 35 with (go_at_call 15; refine (AP.out wta4 (HTa4.out)).mono ?_; rintro e wa8 ⟨ba8, ca8, rfl, OA, dA⟩; have HA8 := hide ((HTa4.out).trans (dA.mono (HTa4.out).size)); clear y0 y1 y2 y3 y4 y5 y6 y7 y8 y9 y10 y11 y12 y13 y14 y15 ya0 ya1 ya2 ya3 ya4 yb0 yb1 yb2 yb3 yb4)
  have SZ8 : Hid (wta4.heap.size ≤ wa8.heap.size) := hide dA.size
  have UA8 : Hid (∀ k, (Value.slice ba8 rA.1.length ca8).ownBlock = some k → k < wa8.heap.size) := hide (fun k hk => (OA.out.lt k hk).2)
  have RW8 : Hid (wa8.ownsRow x4.heap.size 3 1 (.slice ba1 rA.1.length ca1) rA.1.length (rA.1.map (Value.int .i64)) ∧ wa8.ownsRow wa1.heap.size 3 1 (.slice bb1 rA.1.length cb1) rA.1.length (rA.1.map (Value.int .i64)) ∧ wa8.ownsRow wc1.heap.size 3 1 (.slice ba2 rB.1.length ca2) rB.1.length (rB.1.map (Value.int .i64)) ∧ wa8.ownsRow wa2.heap.size 3 1 (.slice bb2 rB.1.length cb2) rB.1.length (rB.1.map (Value.int .i64)) ∧ wa8.ownsRow wc2.heap.size 3 1 (.slice ba3 rC.1.length ca3) rC.1.length (rC.1.map (Value.int .i64)) ∧ wa8.ownsRow wa3.heap.size 3 1 (.slice bb3 rC.1.length cb3) rC.1.length (rC.1.map (Value.int .i64)) ∧ wa8.ownsRow wc3.heap.size 3 1 (.slice ba4 rE.1.length ca4) rE.1.length (rE.1.map (Value.int .i64)) ∧ wa8.ownsRow wa4.heap.size 3 1 (.slice bb4 rE.1.length cb4) rE.1.length (rE.1.map (Value.int .i64)) ∧ wa8.ownsRow wta4.heap.size 3 1 (.slice ba8 rA.1.length ca8) rA.1.length (rA.1.map (Value.int .i64))) := hide ⟨own_below RW7.out.1 dA, own_below RW7.out.2.1 dA, own_below RW7.out.2.2.1 dA, own_below RW7.out.2.2.2.1 dA, own_below RW7.out.2.2.2.2.1 dA, own_below RW7.out.2.2.2.2.2.1 dA, own_below RW7.out.2.2.2.2.2.2.1 dA, own_below RW7.out.2.2.2.2.2.2.2 dA, OA.out⟩
  clear dA OA RW7
  obtain ⟨⟨y0, y1, y2, y3, y4, y5, y6, y7, y8, y9, y10, y11, y12, y13, y14, y15⟩, ⟨ya0, ya1, ya2, ya3, ya4⟩, yb0, yb1, yb2, yb3, yb4⟩ := KK.out wa8 (HA8.out)
  go_upto_region 36 with (go_at_call 16; refine (BP.out wa8 (HA8.out)).mono ?_; rintro e wa9 ⟨ba9, ca9, rfl, OA, dA⟩; have HA9 := hide ((HA8.out).trans (dA.mono (HA8.out).size)); clear y0 y1 y2 y3 y4 y5 y6 y7 y8 y9 y10 y11 y12 y13 y14 y15 ya0 ya1 ya2 ya3 ya4 yb0 yb1 yb2 yb3 yb4)
  have SZ9 : Hid (wa8.heap.size ≤ wa9.heap.size) := hide dA.size
  have UA9 : Hid (∀ k, (Value.slice ba9 rB.1.length ca9).ownBlock = some k → k < wa9.heap.size) := hide (fun k hk => (OA.out.lt k hk).2)
  have RW9 : Hid (wa9.ownsRow x4.heap.size 3 1 (.slice ba1 rA.1.length ca1) rA.1.length (rA.1.map (Value.int .i64)) ∧ wa9.ownsRow wa1.heap.size 3 1 (.slice bb1 rA.1.length cb1) rA.1.length (rA.1.map (Value.int .i64)) ∧ wa9.ownsRow wc1.heap.size 3 1 (.slice ba2 rB.1.length ca2) rB.1.length (rB.1.map (Value.int .i64)) ∧ wa9.ownsRow wa2.heap.size 3 1 (.slice bb2 rB.1.length cb2) rB.1.length (rB.1.map (Value.int .i64)) ∧ wa9.ownsRow wc2.heap.size 3 1 (.slice ba3 rC.1.length ca3) rC.1.length (rC.1.map (Value.int .i64)) ∧ wa9.ownsRow wa3.heap.size 3 1 (.slice bb3 rC.1.length cb3) rC.1.length (rC.1.map (Value.int .i64)) ∧ wa9.ownsRow wc3.heap.size 3 1 (.slice ba4 rE.1.length ca4) rE.1.length (rE.1.map (Value.int .i64)) ∧ wa9.ownsRow wa4.heap.size 3 1 (.slice bb4 rE.1.length cb4) rE.1.length (rE.1.map (Value.int .i64)) ∧ wa9.ownsRow wta4.heap.size 3 1 (.slice ba8 rA.1.length ca8) rA.1.length (rA.1.map (Value.int .i64)) ∧ wa9.ownsRow wa8.heap.size 3 1 (.slice ba9 rB.1.length ca9) rB.1.length (rB.1.map (Value.int .i64))) := hide ⟨own_below RW8.out.1 dA, own_below RW8.out.2.1 dA, own_below RW8.out.2.2.1 dA, own_below RW8.out.2.2.2.1 dA, own_below RW8.out.2.2.2.2.1 dA, own_below RW8.out.2.2.2.2.2.1 dA, own_below RW8.out.2.2.2.2.2.2.1 dA, own_below RW8.out.2.2.2.2.2.2.2.1 dA, own_below RW8.out.2.2.2.2.2.2.2.2 dA, OA.out⟩
  clear dA OA RW8
  obtain ⟨⟨y0, y1, y2, y3, y4, y5, y6, y7, y8, y9, y10, y11, y12, y13, y14, y15⟩, ⟨ya0, ya1, ya2, ya3, ya4⟩, yb0, yb1, yb2, yb3, yb4⟩ := KK.out wa9 (HA9.out)
  go_upto_region 37 with (go_at_call 19; refine (CP.out wa9 (HA9.out)).mono ?_; rintro e wa10 ⟨ba10, ca10, rfl, OA, dA⟩; have HA10 := hide ((HA9.out).trans (dA.mono (HA9.out).size)); clear y0 y1 y2 y3 y4 y5 y6 y7 y8 y9 y10 y11 y12 y13 y14 y15 ya0 ya1 ya2 ya3 ya4 yb0 yb1 yb2 yb3 yb4)
  have SZ10 : Hid (wa9.heap.size ≤ wa10.heap.size) := hide dA.size
  have UA10 : Hid (∀ k, (Value.slice ba10 rC.1.length ca10).ownBlock = some k → k < wa10.heap.size) := hide (fun k hk => (OA.out.lt k hk).2)
  have RW10 : Hid (wa10.ownsRow x4.heap.size 3 1 (.slice ba1 rA.1.length ca1) rA.1.length (rA.1.map (Value.int .i64)) ∧ wa10.ownsRow wa1.heap.size 3 1 (.slice bb1 rA.1.length cb1) rA.1.length (rA.1.map (Value.int .i64)) ∧ wa10.ownsRow wc1.heap.size 3 1 (.slice ba2 rB.1.length ca2) rB.1.length (rB.1.map (Value.int .i64)) ∧ wa10.ownsRow wa2.heap.size 3 1 (.slice bb2 rB.1.length cb2) rB.1.length (rB.1.map (Value.int .i64)) ∧ wa10.ownsRow wc2.heap.size 3 1 (.slice ba3 rC.1.length ca3) rC.1.length (rC.1.map (Value.int .i64)) ∧ wa10.ownsRow wa3.heap.size 3 1 (.slice bb3 rC.1.length cb3) rC.1.length (rC.1.map (Value.int .i64)) ∧ wa10.ownsRow wc3.heap.size 3 1 (.slice ba4 rE.1.length ca4) rE.1.length (rE.1.map (Value.int .i64)) ∧ wa10.ownsRow wa4.heap.size 3 1 (.slice bb4 rE.1.length cb4) rE.1.length (rE.1.map (Value.int .i64)) ∧ wa10.ownsRow wta4.heap.size 3 1 (.slice ba8 rA.1.length ca8) rA.1.length (rA.1.map (Value.int .i64)) ∧ wa10.ownsRow wa8.heap.size 3 1 (.slice ba9 rB.1.length ca9) rB.1.length (rB.1.map (Value.int .i64)) ∧ wa10.ownsRow wa9.heap.size 3 1 (.slice ba10 rC.1.length ca10) rC.1.length (rC.1.map (Value.int .i64))) := hide ⟨own_below RW9.out.1 dA, own_below RW9.out.2.1 dA, own_below RW9.out.2.2.1 dA, own_below RW9.out.2.2.2.1 dA, own_below RW9.out.2.2.2.2.1 dA, own_below RW9.out.2.2.2.2.2.1 dA, own_below RW9.out.2.2.2.2.2.2.1 dA, own_below RW9.out.2.2.2.2.2.2.2.1 dA, own_below RW9.out.2.2.2.2.2.2.2.2.1 dA, own_below RW9.out.2.2.2.2.2.2.2.2.2 dA, OA.out⟩
  clear dA OA RW9
  obtain ⟨⟨y0, y1, y2, y3, y4, y5, y6, y7, y8, y9, y10, y11, y12, y13, y14, y15⟩, ⟨ya0, ya1, ya2, ya3, ya4⟩, yb0, yb1, yb2, yb3, yb4⟩ := KK.out wa10 (HA10.out)
  go_upto_region 38 with (go_at_call 12; refine (EP.out wa10 (HA10.out)).mono ?_; rintro e wa11 ⟨ba11, ca11, rfl, OA, dA⟩; have HA11 := hide ((HA10.out).trans (dA.mono (HA10.out).size)); clear y0 y1 y2 y3 y4 y5 y6 y7 y8 y9 y10 y11 y12 y13 y14 y15 ya0 ya1 ya2 ya3 ya4 yb0 yb1 yb2 yb3 yb4)
  have SZ11 : Hid (wa10.heap.size ≤ wa11.heap.size) := hide dA.size
  have UA11 : Hid (∀ k, (Value.slice ba11 rE.1.length ca11).ownBlock = some k → k < wa11.heap.size) := hide (fun k hk => (OA.out.lt k hk).2)
  have RW11 : Hid (wa11.ownsRow x4.heap.size 3 1 (.slice ba1 rA.1.length ca1) rA.1.length (rA.1.map (Value.int .i64)) ∧ wa11.ownsRow wa1.heap.size 3 1 (.slice bb1 rA.1.length cb1) rA.1.length (rA.1.map (Value.int .i64)) ∧ wa11.ownsRow wc1.heap.size 3 1 (.slice ba2 rB.1.length ca2) rB.1.length (rB.1.map (Value.int .i64)) ∧ wa11.ownsRow wa2.heap.size 3 1 (.slice bb2 rB.1.length cb2) rB.1.length (rB.1.map (Value.int .i64)) ∧ wa11.ownsRow wc2.heap.size 3 1 (.slice ba3 rC.1.length ca3) rC.1.length (rC.1.map (Value.int .i64)) ∧ wa11.ownsRow wa3.heap.size 3 1 (.slice bb3 rC.1.length cb3) rC.1.length (rC.1.map (Value.int .i64)) ∧ wa11.ownsRow wc3.heap.size 3 1 (.slice ba4 rE.1.length ca4) rE.1.length (rE.1.map (Value.int .i64)) ∧ wa11.ownsRow wa4.heap.size 3 1 (.slice bb4 rE.1.length cb4) rE.1.length (rE.1.map (Value.int .i64)) ∧ wa11.ownsRow wta4.heap.size 3 1 (.slice ba8 rA.1.length ca8) rA.1.length (rA.1.map (Value.int .i64)) ∧ wa11.ownsRow wa8.heap.size 3 1 (.slice ba9 rB.1.length ca9) rB.1.length (rB.1.map (Value.int .i64)) ∧ wa11.ownsRow wa9.heap.size 3 1 (.slice ba10 rC.1.length ca10) rC.1.length (rC.1.map (Value.int .i64)) ∧ wa11.ownsRow wa10.heap.size 3 1 (.slice ba11 rE.1.length ca11) rE.1.length (rE.1.map (Value.int .i64))) := hide ⟨own_below RW10.out.1 dA, own_below RW10.out.2.1 dA, own_below RW10.out.2.2.1 dA, own_below RW10.out.2.2.2.1 dA, own_below RW10.out.2.2.2.2.1 dA, own_below RW10.out.2.2.2.2.2.1 dA, own_below RW10.out.2.2.2.2.2.2.1 dA, own_below RW10.out.2.2.2.2.2.2.2.1 dA, own_below RW10.out.2.2.2.2.2.2.2.2.1 dA, own_below RW10.out.2.2.2.2.2.2.2.2.2.1 dA, own_below RW10.out.2.2.2.2.2.2.2.2.2.2 dA, OA.out⟩
  clear dA OA RW10
  clear AP BP CP EP
  have n0 : (rH.2 != rH.2) = false := by simp
  have n1 : (rH.1 != rH.1) = false := by simp
  have TO1 : Hid (Calls Tryz.prog 47 #[.slice (some ⟨wa11.heap.size, 0, none⟩) 4 4] (wa11.alloc (.cells #[.slice ba1 rA.1.length ca1, .slice ba2 rB.1.length ca2, .slice ba3 rC.1.length ca3, .slice ba4 rE.1.length ca4] 22)) fun e w' => e = .returned (.bool true) ∧ Only wa11 w' (In4 (.slice ba1 rA.1.length ca1) (.slice ba2 rB.1.length ca2) (.slice ba3 rC.1.length ca3) (.slice ba4 rE.1.length ca4))) := hide (over4 wa11 ba1 ba2 ba3 ba4 ca1 ca2 ca3 ca4 rA.1 rB.1 rC.1 rE.1 (owns_down RW11.out.1 (Nat.zero_le _)) (owns_down RW11.out.2.2.1 (Nat.zero_le _)) (owns_down RW11.out.2.2.2.2.1 (Nat.zero_le _)) (owns_down RW11.out.2.2.2.2.2.2.1 (Nat.zero_le _)) (rows_apart UA1.out RW11.out.2.2.1 (by have zSZ1 := SZ1.out; have zSZ2 := SZ2.out; have zSZ3 := SZ3.out; have zSZ4 := SZ4.out; have zSZ5 := SZ5.out; have zSZ6 := SZ6.out; have zSZ7 := SZ7.out; have zSZ8 := SZ8.out; have zSZ9 := SZ9.out; have zSZ10 := SZ10.out; have zSZ11 := SZ11.out; omega)) (rows_apart UA1.out RW11.out.2.2.2.2.1 (by have zSZ1 := SZ1.out; have zSZ2 := SZ2.out; have zSZ3 := SZ3.out; have zSZ4 := SZ4.out; have zSZ5 := SZ5.out; have zSZ6 := SZ6.out; have zSZ7 := SZ7.out; have zSZ8 := SZ8.out; have zSZ9 := SZ9.out; have zSZ10 := SZ10.out; have zSZ11 := SZ11.out; omega)) (rows_apart UA1.out RW11.out.2.2.2.2.2.2.1 (by have zSZ1 := SZ1.out; have zSZ2 := SZ2.out; have zSZ3 := SZ3.out; have zSZ4 := SZ4.out; have zSZ5 := SZ5.out; have zSZ6 := SZ6.out; have zSZ7 := SZ7.out; have zSZ8 := SZ8.out; have zSZ9 := SZ9.out; have zSZ10 := SZ10.out; have zSZ11 := SZ11.out; omega)) (rows_apart UA2.out RW11.out.2.2.2.2.1 (by have zSZ1 := SZ1.out; have zSZ2 := SZ2.out; have zSZ3 := SZ3.out; have zSZ4 := SZ4.out; have zSZ5 := SZ5.out; have zSZ6 := SZ6.out; have zSZ7 := SZ7.out; have zSZ8 := SZ8.out; have zSZ9 := SZ9.out; have zSZ10 := SZ10.out; have zSZ11 := SZ11.out; omega)) (rows_apart UA2.out RW11.out.2.2.2.2.2.2.1 (by have zSZ1 := SZ1.out; have zSZ2 := SZ2.out; have zSZ3 := SZ3.out; have zSZ4 := SZ4.out; have zSZ5 := SZ5.out; have zSZ6 := SZ6.out; have zSZ7 := SZ7.out; have zSZ8 := SZ8.out; have zSZ9 := SZ9.out; have zSZ10 := SZ10.out; have zSZ11 := SZ11.out; omega)) (rows_apart UA3.out RW11.out.2.2.2.2.2.2.1 (by have zSZ1 := SZ1.out; have zSZ2 := SZ2.out; have zSZ3 := SZ3.out; have zSZ4 := SZ4.out; have zSZ5 := SZ5.out; have zSZ6 := SZ6.out; have zSZ7 := SZ7.out; have zSZ8 := SZ8.out; have zSZ9 := SZ9.out; have zSZ10 := SZ10.out; have zSZ11 := SZ11.out; omega)) HLA.out HLB.out HLC.out HLE.out)
  go_upto_region 40 with (go_at_call 47; refine TO1.out.mono ?_; rintro e wo1 ⟨rfl, oo1⟩)
  have HO1 := hide oo1
  clear oo1 TO1 n0 n1
  have HB1 : Hid (Below w5.heap.size w5 wo1) := hide ((HA11.out).trans (HO1.out.toBelow (HA11.out).size fun k z => by
      rcases z with z | z | z | z
      · exact Nat.le_trans (by have zSZ1 := SZ1.out; have zSZ2 := SZ2.out; have zSZ3 := SZ3.out; have zSZ4 := SZ4.out; have zSZ5 := SZ5.out; have zSZ6 := SZ6.out; have zSZ7 := SZ7.out; have zSZ8 := SZ8.out; have zSZ9 := SZ9.out; have zSZ10 := SZ10.out; have zSZ11 := SZ11.out; have zz := HX4.out.size; omega) (RW11.out.1.lt k z).1
      · exact Nat.le_trans (by have zSZ1 := SZ1.out; have zSZ2 := SZ2.out; have zSZ3 := SZ3.out; have zSZ4 := SZ4.out; have zSZ5 := SZ5.out; have zSZ6 := SZ6.out; have zSZ7 := SZ7.out; have zSZ8 := SZ8.out; have zSZ9 := SZ9.out; have zSZ10 := SZ10.out; have zSZ11 := SZ11.out; have zz := HX4.out.size; omega) (RW11.out.2.2.1.lt k z).1
      · exact Nat.le_trans (by have zSZ1 := SZ1.out; have zSZ2 := SZ2.out; have zSZ3 := SZ3.out; have zSZ4 := SZ4.out; have zSZ5 := SZ5.out; have zSZ6 := SZ6.out; have zSZ7 := SZ7.out; have zSZ8 := SZ8.out; have zSZ9 := SZ9.out; have zSZ10 := SZ10.out; have zSZ11 := SZ11.out; have zz := HX4.out.size; omega) (RW11.out.2.2.2.2.1.lt k z).1
      · exact Nat.le_trans (by have zSZ1 := SZ1.out; have zSZ2 := SZ2.out; have zSZ3 := SZ3.out; have zSZ4 := SZ4.out; have zSZ5 := SZ5.out; have zSZ6 := SZ6.out; have zSZ7 := SZ7.out; have zSZ8 := SZ8.out; have zSZ9 := SZ9.out; have zSZ10 := SZ10.out; have zSZ11 := SZ11.out; have zz := HX4.out.size; omega) (RW11.out.2.2.2.2.2.2.1.lt k z).1
      ))
  have RWo : Hid (wo1.ownsRow wa1.heap.size 3 1 (.slice bb1 rA.1.length cb1) rA.1.length (rA.1.map (Value.int .i64)) ∧ wo1.ownsRow wa2.heap.size 3 1 (.slice bb2 rB.1.length cb2) rB.1.length (rB.1.map (Value.int .i64)) ∧ wo1.ownsRow wa3.heap.size 3 1 (.slice bb3 rC.1.length cb3) rC.1.length (rC.1.map (Value.int .i64)) ∧ wo1.ownsRow wa4.heap.size 3 1 (.slice bb4 rE.1.length cb4) rE.1.length (rE.1.map (Value.int .i64)) ∧ wo1.ownsRow wta4.heap.size 3 1 (.slice ba8 rA.1.length ca8) rA.1.length (rA.1.map (Value.int .i64)) ∧ wo1.ownsRow wa8.heap.size 3 1 (.slice ba9 rB.1.length ca9) rB.1.length (rB.1.map (Value.int .i64)) ∧ wo1.ownsRow wa9.heap.size 3 1 (.slice ba10 rC.1.length ca10) rC.1.length (rC.1.map (Value.int .i64)) ∧ wo1.ownsRow wa10.heap.size 3 1 (.slice ba11 rE.1.length ca11) rE.1.length (rE.1.map (Value.int .i64))) := hide ⟨row_only RW11.out.2.1 HO1.out (fun k q z => by
      rcases z with z | z | z | z
      · exact rows_apart UA1.out RW11.out.2.1 (by have zSZ1 := SZ1.out; have zSZ2 := SZ2.out; have zSZ3 := SZ3.out; have zSZ4 := SZ4.out; have zSZ5 := SZ5.out; have zSZ6 := SZ6.out; have zSZ7 := SZ7.out; have zSZ8 := SZ8.out; have zSZ9 := SZ9.out; have zSZ10 := SZ10.out; have zSZ11 := SZ11.out; omega) k z q
      · exact rows_apart UB1.out RW11.out.2.2.1 (by have zSZ1 := SZ1.out; have zSZ2 := SZ2.out; have zSZ3 := SZ3.out; have zSZ4 := SZ4.out; have zSZ5 := SZ5.out; have zSZ6 := SZ6.out; have zSZ7 := SZ7.out; have zSZ8 := SZ8.out; have zSZ9 := SZ9.out; have zSZ10 := SZ10.out; have zSZ11 := SZ11.out; omega) k q z
      · exact rows_apart UB1.out RW11.out.2.2.2.2.1 (by have zSZ1 := SZ1.out; have zSZ2 := SZ2.out; have zSZ3 := SZ3.out; have zSZ4 := SZ4.out; have zSZ5 := SZ5.out; have zSZ6 := SZ6.out; have zSZ7 := SZ7.out; have zSZ8 := SZ8.out; have zSZ9 := SZ9.out; have zSZ10 := SZ10.out; have zSZ11 := SZ11.out; omega) k q z
      · exact rows_apart UB1.out RW11.out.2.2.2.2.2.2.1 (by have zSZ1 := SZ1.out; have zSZ2 := SZ2.out; have zSZ3 := SZ3.out; have zSZ4 := SZ4.out; have zSZ5 := SZ5.out; have zSZ6 := SZ6.out; have zSZ7 := SZ7.out; have zSZ8 := SZ8.out; have zSZ9 := SZ9.out; have zSZ10 := SZ10.out; have zSZ11 := SZ11.out; omega) k q z
      ),
    row_only RW11.out.2.2.2.1 HO1.out (fun k q z => by
      rcases z with z | z | z | z
      · exact rows_apart UA1.out RW11.out.2.2.2.1 (by have zSZ1 := SZ1.out; have zSZ2 := SZ2.out; have zSZ3 := SZ3.out; have zSZ4 := SZ4.out; have zSZ5 := SZ5.out; have zSZ6 := SZ6.out; have zSZ7 := SZ7.out; have zSZ8 := SZ8.out; have zSZ9 := SZ9.out; have zSZ10 := SZ10.out; have zSZ11 := SZ11.out; omega) k z q
      · exact rows_apart UA2.out RW11.out.2.2.2.1 (by have zSZ1 := SZ1.out; have zSZ2 := SZ2.out; have zSZ3 := SZ3.out; have zSZ4 := SZ4.out; have zSZ5 := SZ5.out; have zSZ6 := SZ6.out; have zSZ7 := SZ7.out; have zSZ8 := SZ8.out; have zSZ9 := SZ9.out; have zSZ10 := SZ10.out; have zSZ11 := SZ11.out; omega) k z q
      · exact rows_apart UB2.out RW11.out.2.2.2.2.1 (by have zSZ1 := SZ1.out; have zSZ2 := SZ2.out; have zSZ3 := SZ3.out; have zSZ4 := SZ4.out; have zSZ5 := SZ5.out; have zSZ6 := SZ6.out; have zSZ7 := SZ7.out; have zSZ8 := SZ8.out; have zSZ9 := SZ9.out; have zSZ10 := SZ10.out; have zSZ11 := SZ11.out; omega) k q z
      · exact rows_apart UB2.out RW11.out.2.2.2.2.2.2.1 (by have zSZ1 := SZ1.out; have zSZ2 := SZ2.out; have zSZ3 := SZ3.out; have zSZ4 := SZ4.out; have zSZ5 := SZ5.out; have zSZ6 := SZ6.out; have zSZ7 := SZ7.out; have zSZ8 := SZ8.out; have zSZ9 := SZ9.out; have zSZ10 := SZ10.out; have zSZ11 := SZ11.out; omega) k q z
      ),
    row_only RW11.out.2.2.2.2.2.1 HO1.out (fun k q z => by
      rcases z with z | z | z | z
      · exact rows_apart UA1.out RW11.out.2.2.2.2.2.1 (by have zSZ1 := SZ1.out; have zSZ2 := SZ2.out; have zSZ3 := SZ3.out; have zSZ4 := SZ4.out; have zSZ5 := SZ5.out; have zSZ6 := SZ6.out; have zSZ7 := SZ7.out; have zSZ8 := SZ8.out; have zSZ9 := SZ9.out; have zSZ10 := SZ10.out; have zSZ11 := SZ11.out; omega) k z q
      · exact rows_apart UA2.out RW11.out.2.2.2.2.2.1 (by have zSZ1 := SZ1.out; have zSZ2 := SZ2.out; have zSZ3 := SZ3.out; have zSZ4 := SZ4.out; have zSZ5 := SZ5.out; have zSZ6 := SZ6.out; have zSZ7 := SZ7.out; have zSZ8 := SZ8.out; have zSZ9 := SZ9.out; have zSZ10 := SZ10.out; have zSZ11 := SZ11.out; omega) k z q
      · exact rows_apart UA3.out RW11.out.2.2.2.2.2.1 (by have zSZ1 := SZ1.out; have zSZ2 := SZ2.out; have zSZ3 := SZ3.out; have zSZ4 := SZ4.out; have zSZ5 := SZ5.out; have zSZ6 := SZ6.out; have zSZ7 := SZ7.out; have zSZ8 := SZ8.out; have zSZ9 := SZ9.out; have zSZ10 := SZ10.out; have zSZ11 := SZ11.out; omega) k z q
      · exact rows_apart UB3.out RW11.out.2.2.2.2.2.2.1 (by have zSZ1 := SZ1.out; have zSZ2 := SZ2.out; have zSZ3 := SZ3.out; have zSZ4 := SZ4.out; have zSZ5 := SZ5.out; have zSZ6 := SZ6.out; have zSZ7 := SZ7.out; have zSZ8 := SZ8.out; have zSZ9 := SZ9.out; have zSZ10 := SZ10.out; have zSZ11 := SZ11.out; omega) k q z
      ),
    row_only RW11.out.2.2.2.2.2.2.2.1 HO1.out (fun k q z => by
      rcases z with z | z | z | z
      · exact rows_apart UA1.out RW11.out.2.2.2.2.2.2.2.1 (by have zSZ1 := SZ1.out; have zSZ2 := SZ2.out; have zSZ3 := SZ3.out; have zSZ4 := SZ4.out; have zSZ5 := SZ5.out; have zSZ6 := SZ6.out; have zSZ7 := SZ7.out; have zSZ8 := SZ8.out; have zSZ9 := SZ9.out; have zSZ10 := SZ10.out; have zSZ11 := SZ11.out; omega) k z q
      · exact rows_apart UA2.out RW11.out.2.2.2.2.2.2.2.1 (by have zSZ1 := SZ1.out; have zSZ2 := SZ2.out; have zSZ3 := SZ3.out; have zSZ4 := SZ4.out; have zSZ5 := SZ5.out; have zSZ6 := SZ6.out; have zSZ7 := SZ7.out; have zSZ8 := SZ8.out; have zSZ9 := SZ9.out; have zSZ10 := SZ10.out; have zSZ11 := SZ11.out; omega) k z q
      · exact rows_apart UA3.out RW11.out.2.2.2.2.2.2.2.1 (by have zSZ1 := SZ1.out; have zSZ2 := SZ2.out; have zSZ3 := SZ3.out; have zSZ4 := SZ4.out; have zSZ5 := SZ5.out; have zSZ6 := SZ6.out; have zSZ7 := SZ7.out; have zSZ8 := SZ8.out; have zSZ9 := SZ9.out; have zSZ10 := SZ10.out; have zSZ11 := SZ11.out; omega) k z q
      · exact rows_apart UA4.out RW11.out.2.2.2.2.2.2.2.1 (by have zSZ1 := SZ1.out; have zSZ2 := SZ2.out; have zSZ3 := SZ3.out; have zSZ4 := SZ4.out; have zSZ5 := SZ5.out; have zSZ6 := SZ6.out; have zSZ7 := SZ7.out; have zSZ8 := SZ8.out; have zSZ9 := SZ9.out; have zSZ10 := SZ10.out; have zSZ11 := SZ11.out; omega) k z q
      ),
    row_only RW11.out.2.2.2.2.2.2.2.2.1 HO1.out (fun k q z => by
      rcases z with z | z | z | z
      · exact rows_apart UA1.out RW11.out.2.2.2.2.2.2.2.2.1 (by have zSZ1 := SZ1.out; have zSZ2 := SZ2.out; have zSZ3 := SZ3.out; have zSZ4 := SZ4.out; have zSZ5 := SZ5.out; have zSZ6 := SZ6.out; have zSZ7 := SZ7.out; have zSZ8 := SZ8.out; have zSZ9 := SZ9.out; have zSZ10 := SZ10.out; have zSZ11 := SZ11.out; omega) k z q
      · exact rows_apart UA2.out RW11.out.2.2.2.2.2.2.2.2.1 (by have zSZ1 := SZ1.out; have zSZ2 := SZ2.out; have zSZ3 := SZ3.out; have zSZ4 := SZ4.out; have zSZ5 := SZ5.out; have zSZ6 := SZ6.out; have zSZ7 := SZ7.out; have zSZ8 := SZ8.out; have zSZ9 := SZ9.out; have zSZ10 := SZ10.out; have zSZ11 := SZ11.out; omega) k z q
      · exact rows_apart UA3.out RW11.out.2.2.2.2.2.2.2.2.1 (by have zSZ1 := SZ1.out; have zSZ2 := SZ2.out; have zSZ3 := SZ3.out; have zSZ4 := SZ4.out; have zSZ5 := SZ5.out; have zSZ6 := SZ6.out; have zSZ7 := SZ7.out; have zSZ8 := SZ8.out; have zSZ9 := SZ9.out; have zSZ10 := SZ10.out; have zSZ11 := SZ11.out; omega) k z q
      · exact rows_apart UA4.out RW11.out.2.2.2.2.2.2.2.2.1 (by have zSZ1 := SZ1.out; have zSZ2 := SZ2.out; have zSZ3 := SZ3.out; have zSZ4 := SZ4.out; have zSZ5 := SZ5.out; have zSZ6 := SZ6.out; have zSZ7 := SZ7.out; have zSZ8 := SZ8.out; have zSZ9 := SZ9.out; have zSZ10 := SZ10.out; have zSZ11 := SZ11.out; omega) k z q
      ),
    row_only RW11.out.2.2.2.2.2.2.2.2.2.1 HO1.out (fun k q z => by
      rcases z with z | z | z | z
      · exact rows_apart UA1.out RW11.out.2.2.2.2.2.2.2.2.2.1 (by have zSZ1 := SZ1.out; have zSZ2 := SZ2.out; have zSZ3 := SZ3.out; have zSZ4 := SZ4.out; have zSZ5 := SZ5.out; have zSZ6 := SZ6.out; have zSZ7 := SZ7.out; have zSZ8 := SZ8.out; have zSZ9 := SZ9.out; have zSZ10 := SZ10.out; have zSZ11 := SZ11.out; omega) k z q
      · exact rows_apart UA2.out RW11.out.2.2.2.2.2.2.2.2.2.1 (by have zSZ1 := SZ1.out; have zSZ2 := SZ2.out; have zSZ3 := SZ3.out; have zSZ4 := SZ4.out; have zSZ5 := SZ5.out; have zSZ6 := SZ6.out; have zSZ7 := SZ7.out; have zSZ8 := SZ8.out; have zSZ9 := SZ9.out; have zSZ10 := SZ10.out; have zSZ11 := SZ11.out; omega) k z q
      · exact rows_apart UA3.out RW11.out.2.2.2.2.2.2.2.2.2.1 (by have zSZ1 := SZ1.out; have zSZ2 := SZ2.out; have zSZ3 := SZ3.out; have zSZ4 := SZ4.out; have zSZ5 := SZ5.out; have zSZ6 := SZ6.out; have zSZ7 := SZ7.out; have zSZ8 := SZ8.out; have zSZ9 := SZ9.out; have zSZ10 := SZ10.out; have zSZ11 := SZ11.out; omega) k z q
      · exact rows_apart UA4.out RW11.out.2.2.2.2.2.2.2.2.2.1 (by have zSZ1 := SZ1.out; have zSZ2 := SZ2.out; have zSZ3 := SZ3.out; have zSZ4 := SZ4.out; have zSZ5 := SZ5.out; have zSZ6 := SZ6.out; have zSZ7 := SZ7.out; have zSZ8 := SZ8.out; have zSZ9 := SZ9.out; have zSZ10 := SZ10.out; have zSZ11 := SZ11.out; omega) k z q
      ),
    row_only RW11.out.2.2.2.2.2.2.2.2.2.2.1 HO1.out (fun k q z => by
      rcases z with z | z | z | z
      · exact rows_apart UA1.out RW11.out.2.2.2.2.2.2.2.2.2.2.1 (by have zSZ1 := SZ1.out; have zSZ2 := SZ2.out; have zSZ3 := SZ3.out; have zSZ4 := SZ4.out; have zSZ5 := SZ5.out; have zSZ6 := SZ6.out; have zSZ7 := SZ7.out; have zSZ8 := SZ8.out; have zSZ9 := SZ9.out; have zSZ10 := SZ10.out; have zSZ11 := SZ11.out; omega) k z q
      · exact rows_apart UA2.out RW11.out.2.2.2.2.2.2.2.2.2.2.1 (by have zSZ1 := SZ1.out; have zSZ2 := SZ2.out; have zSZ3 := SZ3.out; have zSZ4 := SZ4.out; have zSZ5 := SZ5.out; have zSZ6 := SZ6.out; have zSZ7 := SZ7.out; have zSZ8 := SZ8.out; have zSZ9 := SZ9.out; have zSZ10 := SZ10.out; have zSZ11 := SZ11.out; omega) k z q
      · exact rows_apart UA3.out RW11.out.2.2.2.2.2.2.2.2.2.2.1 (by have zSZ1 := SZ1.out; have zSZ2 := SZ2.out; have zSZ3 := SZ3.out; have zSZ4 := SZ4.out; have zSZ5 := SZ5.out; have zSZ6 := SZ6.out; have zSZ7 := SZ7.out; have zSZ8 := SZ8.out; have zSZ9 := SZ9.out; have zSZ10 := SZ10.out; have zSZ11 := SZ11.out; omega) k z q
      · exact rows_apart UA4.out RW11.out.2.2.2.2.2.2.2.2.2.2.1 (by have zSZ1 := SZ1.out; have zSZ2 := SZ2.out; have zSZ3 := SZ3.out; have zSZ4 := SZ4.out; have zSZ5 := SZ5.out; have zSZ6 := SZ6.out; have zSZ7 := SZ7.out; have zSZ8 := SZ8.out; have zSZ9 := SZ9.out; have zSZ10 := SZ10.out; have zSZ11 := SZ11.out; omega) k z q
      ),
    row_only RW11.out.2.2.2.2.2.2.2.2.2.2.2 HO1.out (fun k q z => by
      rcases z with z | z | z | z
      · exact rows_apart UA1.out RW11.out.2.2.2.2.2.2.2.2.2.2.2 (by have zSZ1 := SZ1.out; have zSZ2 := SZ2.out; have zSZ3 := SZ3.out; have zSZ4 := SZ4.out; have zSZ5 := SZ5.out; have zSZ6 := SZ6.out; have zSZ7 := SZ7.out; have zSZ8 := SZ8.out; have zSZ9 := SZ9.out; have zSZ10 := SZ10.out; have zSZ11 := SZ11.out; omega) k z q
      · exact rows_apart UA2.out RW11.out.2.2.2.2.2.2.2.2.2.2.2 (by have zSZ1 := SZ1.out; have zSZ2 := SZ2.out; have zSZ3 := SZ3.out; have zSZ4 := SZ4.out; have zSZ5 := SZ5.out; have zSZ6 := SZ6.out; have zSZ7 := SZ7.out; have zSZ8 := SZ8.out; have zSZ9 := SZ9.out; have zSZ10 := SZ10.out; have zSZ11 := SZ11.out; omega) k z q
      · exact rows_apart UA3.out RW11.out.2.2.2.2.2.2.2.2.2.2.2 (by have zSZ1 := SZ1.out; have zSZ2 := SZ2.out; have zSZ3 := SZ3.out; have zSZ4 := SZ4.out; have zSZ5 := SZ5.out; have zSZ6 := SZ6.out; have zSZ7 := SZ7.out; have zSZ8 := SZ8.out; have zSZ9 := SZ9.out; have zSZ10 := SZ10.out; have zSZ11 := SZ11.out; omega) k z q
      · exact rows_apart UA4.out RW11.out.2.2.2.2.2.2.2.2.2.2.2 (by have zSZ1 := SZ1.out; have zSZ2 := SZ2.out; have zSZ3 := SZ3.out; have zSZ4 := SZ4.out; have zSZ5 := SZ5.out; have zSZ6 := SZ6.out; have zSZ7 := SZ7.out; have zSZ8 := SZ8.out; have zSZ9 := SZ9.out; have zSZ10 := SZ10.out; have zSZ11 := SZ11.out; omega) k z q
      )⟩
  have SZo : Hid (wa11.heap.size ≤ wo1.heap.size) := hide HO1.out.size
  clear HO1 RW11
  go_upto_region 42 with (first
    | (go_at_call_of 20 ba8; refine (same_same wo1 ba8 bb1 rA.1 ca8 cb1 (hide (own_rdN (RWo.out.2.2.2.2.1))) (hide (own_rdN (RWo.out.1))) (by have := HLA.out; omega)).mono ?_; rintro e wq0 ⟨rfl, dq0⟩; have DQ0 := hide (dq0); clear dq0)
    | (go_at_call_of 20 ba9; refine (same_same wq0 ba9 bb2 rB.1 ca9 cb2 (hide (own_rdN (own_below RWo.out.2.2.2.2.2.1 DQ0.out))) (hide (own_rdN (own_below RWo.out.2.1 DQ0.out))) (by have := HLB.out; omega)).mono ?_; rintro e wq1 ⟨rfl, dq1⟩; have DQ1 := hide (DQ0.out.trans (dq1.mono DQ0.out.size)); clear dq1)
    | (go_at_call_of 20 ba10; refine (same_same wq1 ba10 bb3 rC.1 ca10 cb3 (hide (own_rdN (own_below RWo.out.2.2.2.2.2.2.1 DQ1.out))) (hide (own_rdN (own_below RWo.out.2.2.1 DQ1.out))) (by have := HLC.out; omega)).mono ?_; rintro e wq2 ⟨rfl, dq2⟩; have DQ2 := hide (DQ1.out.trans (dq2.mono DQ1.out.size)); clear dq2)
    | (go_at_call_of 20 ba11; refine (same_same wq2 ba11 bb4 rE.1 ca11 cb4 (hide (own_rdN (own_below RWo.out.2.2.2.2.2.2.2 DQ2.out))) (hide (own_rdN (own_below RWo.out.2.2.2.1 DQ2.out))) (by have := HLE.out; omega)).mono ?_; rintro e wq3 ⟨rfl, dq3⟩; have DQ3 := hide (DQ2.out.trans (dq3.mono DQ2.out.size)); clear dq3; have TO2 : Hid (Calls Tryz.prog 47 #[.slice (some ⟨wq3.heap.size, 0, none⟩) 4 4] (wq3.alloc (.cells #[.slice ba8 rA.1.length ca8, .slice ba9 rB.1.length ca9, .slice ba10 rC.1.length ca10, .slice ba11 rE.1.length ca11] 22)) fun e w' => e = .returned (.bool true) ∧ Only wq3 w' (In4 (.slice ba8 rA.1.length ca8) (.slice ba9 rB.1.length ca9) (.slice ba10 rC.1.length ca10) (.slice ba11 rE.1.length ca11))) := hide (over4 wq3 ba8 ba9 ba10 ba11 ca8 ca9 ca10 ca11 rA.1 rB.1 rC.1 rE.1 (own_below (owns_down RWo.out.2.2.2.2.1 (Nat.zero_le _)) DQ3.out) (own_below (owns_down RWo.out.2.2.2.2.2.1 (Nat.zero_le _)) DQ3.out) (own_below (owns_down RWo.out.2.2.2.2.2.2.1 (Nat.zero_le _)) DQ3.out) (own_below (owns_down RWo.out.2.2.2.2.2.2.2 (Nat.zero_le _)) DQ3.out) (rows_apart UA8.out RWo.out.2.2.2.2.2.1 (by have zSZ1 := SZ1.out; have zSZ2 := SZ2.out; have zSZ3 := SZ3.out; have zSZ4 := SZ4.out; have zSZ5 := SZ5.out; have zSZ6 := SZ6.out; have zSZ7 := SZ7.out; have zSZ8 := SZ8.out; have zSZ9 := SZ9.out; have zSZ10 := SZ10.out; have zSZ11 := SZ11.out; have zSZo := SZo.out; omega)) (rows_apart UA8.out RWo.out.2.2.2.2.2.2.1 (by have zSZ1 := SZ1.out; have zSZ2 := SZ2.out; have zSZ3 := SZ3.out; have zSZ4 := SZ4.out; have zSZ5 := SZ5.out; have zSZ6 := SZ6.out; have zSZ7 := SZ7.out; have zSZ8 := SZ8.out; have zSZ9 := SZ9.out; have zSZ10 := SZ10.out; have zSZ11 := SZ11.out; have zSZo := SZo.out; omega)) (rows_apart UA8.out RWo.out.2.2.2.2.2.2.2 (by have zSZ1 := SZ1.out; have zSZ2 := SZ2.out; have zSZ3 := SZ3.out; have zSZ4 := SZ4.out; have zSZ5 := SZ5.out; have zSZ6 := SZ6.out; have zSZ7 := SZ7.out; have zSZ8 := SZ8.out; have zSZ9 := SZ9.out; have zSZ10 := SZ10.out; have zSZ11 := SZ11.out; have zSZo := SZo.out; omega)) (rows_apart UA9.out RWo.out.2.2.2.2.2.2.1 (by have zSZ1 := SZ1.out; have zSZ2 := SZ2.out; have zSZ3 := SZ3.out; have zSZ4 := SZ4.out; have zSZ5 := SZ5.out; have zSZ6 := SZ6.out; have zSZ7 := SZ7.out; have zSZ8 := SZ8.out; have zSZ9 := SZ9.out; have zSZ10 := SZ10.out; have zSZ11 := SZ11.out; have zSZo := SZo.out; omega)) (rows_apart UA9.out RWo.out.2.2.2.2.2.2.2 (by have zSZ1 := SZ1.out; have zSZ2 := SZ2.out; have zSZ3 := SZ3.out; have zSZ4 := SZ4.out; have zSZ5 := SZ5.out; have zSZ6 := SZ6.out; have zSZ7 := SZ7.out; have zSZ8 := SZ8.out; have zSZ9 := SZ9.out; have zSZ10 := SZ10.out; have zSZ11 := SZ11.out; have zSZo := SZo.out; omega)) (rows_apart UA10.out RWo.out.2.2.2.2.2.2.2 (by have zSZ1 := SZ1.out; have zSZ2 := SZ2.out; have zSZ3 := SZ3.out; have zSZ4 := SZ4.out; have zSZ5 := SZ5.out; have zSZ6 := SZ6.out; have zSZ7 := SZ7.out; have zSZ8 := SZ8.out; have zSZ9 := SZ9.out; have zSZ10 := SZ10.out; have zSZ11 := SZ11.out; have zSZo := SZo.out; omega)) HLA.out HLB.out HLC.out HLE.out))
    | (go_at_call 47; refine TO2.out.mono ?_; rintro e wo2 ⟨rfl, oo2⟩))
  have HB2 : Hid (Below w5.heap.size w5 wo2) := hide ((HB1.out.trans (DQ3.out.mono HB1.out.size)).trans (oo2.toBelow (Nat.le_trans HB1.out.size DQ3.out.size) fun k z => by
      rcases z with z | z | z | z
      · exact Nat.le_trans (by have zSZ1 := SZ1.out; have zSZ2 := SZ2.out; have zSZ3 := SZ3.out; have zSZ4 := SZ4.out; have zSZ5 := SZ5.out; have zSZ6 := SZ6.out; have zSZ7 := SZ7.out; have zSZ8 := SZ8.out; have zSZ9 := SZ9.out; have zSZ10 := SZ10.out; have zSZ11 := SZ11.out; have zSZo := SZo.out; have zz := HX4.out.size; omega) (RWo.out.2.2.2.2.1.lt k z).1
      · exact Nat.le_trans (by have zSZ1 := SZ1.out; have zSZ2 := SZ2.out; have zSZ3 := SZ3.out; have zSZ4 := SZ4.out; have zSZ5 := SZ5.out; have zSZ6 := SZ6.out; have zSZ7 := SZ7.out; have zSZ8 := SZ8.out; have zSZ9 := SZ9.out; have zSZ10 := SZ10.out; have zSZ11 := SZ11.out; have zSZo := SZo.out; have zz := HX4.out.size; omega) (RWo.out.2.2.2.2.2.1.lt k z).1
      · exact Nat.le_trans (by have zSZ1 := SZ1.out; have zSZ2 := SZ2.out; have zSZ3 := SZ3.out; have zSZ4 := SZ4.out; have zSZ5 := SZ5.out; have zSZ6 := SZ6.out; have zSZ7 := SZ7.out; have zSZ8 := SZ8.out; have zSZ9 := SZ9.out; have zSZ10 := SZ10.out; have zSZ11 := SZ11.out; have zSZo := SZo.out; have zz := HX4.out.size; omega) (RWo.out.2.2.2.2.2.2.1.lt k z).1
      · exact Nat.le_trans (by have zSZ1 := SZ1.out; have zSZ2 := SZ2.out; have zSZ3 := SZ3.out; have zSZ4 := SZ4.out; have zSZ5 := SZ5.out; have zSZ6 := SZ6.out; have zSZ7 := SZ7.out; have zSZ8 := SZ8.out; have zSZ9 := SZ9.out; have zSZ10 := SZ10.out; have zSZ11 := SZ11.out; have zSZo := SZo.out; have zz := HX4.out.size; omega) (RWo.out.2.2.2.2.2.2.2.lt k z).1
      ))
  clear oo2 TO2 DQ0 DQ1 DQ2 DQ3 RWo HB1
  have B1 : Hid (0 < w1.heap.size) := hide (by have := N1.out; omega)
  have LS : Hid ((St.map (onF n)).length = St.length ∧ (Fi.map (onF n)).length = Fi.length ∧ (Ed.map (toE n)).length = Ed.length) := hide ⟨List.length_map _, List.length_map _, List.length_map _⟩
  have TN : Hid (∀ W, Below w5.heap.size w5 W → Calls Tryz.prog 48 #[.agg #[.int .i64 n, .int .i64 m, .slice (some ⟨s1, 0, none⟩) St.length ks1, .slice (some ⟨s2, 0, none⟩) Fi.length ks2, .slice (some ⟨s3, 0, none⟩) Ed.length ks3], .slice (some ⟨gq, 0, none⟩) Q.length kq, .slice (some ⟨gp, 0, none⟩) P.length kp, .slice (some ⟨gw, 0, none⟩) Wd.length kw, .int .i64 sym] W fun e w' => e = .returned (.bool true) ∧ Hid (TwA w1.heap.size w' s1 ks1 s2 ks2 s3 ks3 (St.map (onF n)) (Fi.map (onF n)) (Ed.map (toE n))) ∧ Hid (Only W w' (fun k => k = s1 ∨ k = s2 ∨ k = s3 ∨ k = gq ∨ k = gp ∨ k = gw))) := hide (fun W d => by
    have z := N1.out
    have zz := d.size
    exact anew_yes W w1.heap.size n m sym s1 ks1 s2 ks2 s3 ks3 gq kq gp kp gw kw St Fi Ed Q P Wd (hide ⟨(RA.out W d).2.2.2.2.2.2.1, B1.out⟩) (hide (F5.out.2.2.2.1.on d)) (hide ((F5.out.2.2.2.2.2.1.on d F5.out.2.2.2.2.2.1.lt.2).down (by omega))) (hide ((F5.out.2.2.2.2.2.2.2.1.on d F5.out.2.2.2.2.2.2.2.1.lt.2).down (by omega))) (hide ((F5.out.2.2.2.2.2.2.1.on d F5.out.2.2.2.2.2.2.1.lt.2).down (by omega))) (hide (by omega)) (by omega) h1 h2 h3 h7 h8 h9)
  have TL : Hid (∀ W, TwA w1.heap.size W s1 ks1 s2 ks2 s3 ks3 (St.map (onF n)) (Fi.map (onF n)) (Ed.map (toE n)) → w1.heap.size ≤ W.heap.size → Calls Tryz.prog 49 #[.agg #[.int .i64 n, .int .i64 m, .slice (some ⟨s1, 0, none⟩) St.length ks1, .slice (some ⟨s2, 0, none⟩) Fi.length ks2, .slice (some ⟨s3, 0, none⟩) Ed.length ks3]] W fun e w' => e = .returned (.bool true) ∧ Hid (Below w1.heap.size W w')) := hide (fun W h hb => by
    have l := LS.out
    have t := unlike_yes W w1.heap.size n m s1 ks1 s2 ks2 s3 ks3 (St.map (onF n)) (Fi.map (onF n)) (Ed.map (toE n)) (hide h) hb (by omega) (by omega) (by omega)
    rw [l.1, l.2.1, l.2.2] at t
    exact t)
  obtain ⟨⟨y0, y1, y2, y3, y4, y5, y6, y7, y8, y9, y10, y11, y12, y13, y14, y15⟩, ⟨ya0, ya1, ya2, ya3, ya4⟩, yb0, yb1, yb2, yb3, yb4⟩ := KK.out wo2 (HB2.out)
  go_wp2_with (first
    | (go_at_call_of 30 a1; refine (untouched_yes wo2 w1.heap.size n m s1 ks1 s2 ks2 s3 ks3 a1 a2 a3 c1 c2 c3 St Fi Ed (hide (F5.out.2.2.2.1.on (HB2.out))) (hide (hA.out.on (RA.out wo2 (HB2.out)).2.2.2.2.2.1)) (by omega) (by omega) (by omega)).mono ?_; rintro e wtb0 ⟨rfl, dT0⟩; have HTb0 := hide ((HB2.out).trans (dT0.mono (HB2.out).size)); clear y0 y1 y2 y3 y4 y5 y6 y7 y8 y9 y10 y11 y12 y13 y14 y15 ya0 ya1 ya2 ya3 ya4 yb0 yb1 yb2 yb3 yb4; have ⟨⟨y0, y1, y2, y3, y4, y5, y6, y7, y8, y9, y10, y11, y12, y13, y14, y15⟩, ⟨ya0, ya1, ya2, ya3, ya4⟩, yb0, yb1, yb2, yb3, yb4⟩ := KK.out wtb0 (HTb0.out))
    | (go_at_call_of 30 b1; refine (untouched_yes wtb0 W2.heap.size nb mb v1 kv1 v2 kv2 v3 kv3 b1 b2 b3 d1 d2 d3 Sb Fb Eb (hide (F5.out.2.2.2.2.1.on (HTb0.out))) (hide (hB.out.on (RA.out wtb0 (HTb0.out)).2.2.2.2.2.1)) (by omega) (by omega) (by omega)).mono ?_; rintro e wtb1 ⟨rfl, dT1⟩; have HTb1 := hide ((HTb0.out).trans (dT1.mono (HTb0.out).size)); clear y0 y1 y2 y3 y4 y5 y6 y7 y8 y9 y10 y11 y12 y13 y14 y15 ya0 ya1 ya2 ya3 ya4 yb0 yb1 yb2 yb3 yb4; have ⟨⟨y0, y1, y2, y3, y4, y5, y6, y7, y8, y9, y10, y11, y12, y13, y14, y15⟩, ⟨ya0, ya1, ya2, ya3, ya4⟩, yb0, yb1, yb2, yb3, yb4⟩ := KK.out wtb1 (HTb1.out))
    | (go_at_call_of 31 gq; refine (intact_yes wtb1 W3.heap.size gq kq q1 Q cq (hide (F5.out.2.2.2.2.2.1.on (HTb1.out) F5.out.2.2.2.2.2.1.lt.2)) (hide (hQ.out.on (RA.out wtb1 (HTb1.out)).2.2.2.2.2.1)) (by omega)).mono ?_; rintro e wtb2 ⟨rfl, dT2⟩; have HTb2 := hide ((HTb1.out).trans (dT2.mono (HTb1.out).size)); clear y0 y1 y2 y3 y4 y5 y6 y7 y8 y9 y10 y11 y12 y13 y14 y15 ya0 ya1 ya2 ya3 ya4 yb0 yb1 yb2 yb3 yb4; have ⟨⟨y0, y1, y2, y3, y4, y5, y6, y7, y8, y9, y10, y11, y12, y13, y14, y15⟩, ⟨ya0, ya1, ya2, ya3, ya4⟩, yb0, yb1, yb2, yb3, yb4⟩ := KK.out wtb2 (HTb2.out))
    | (go_at_call_of 31 gw; refine (intact_yes wtb2 w3q.heap.size gw kw u1 Wd cw (hide (F5.out.2.2.2.2.2.2.1.on (HTb2.out) F5.out.2.2.2.2.2.2.1.lt.2)) (hide (hU.out.on (RA.out wtb2 (HTb2.out)).2.2.2.2.2.1)) (by omega)).mono ?_; rintro e wtb3 ⟨rfl, dT3⟩; have HTb3 := hide ((HTb2.out).trans (dT3.mono (HTb2.out).size)); clear y0 y1 y2 y3 y4 y5 y6 y7 y8 y9 y10 y11 y12 y13 y14 y15 ya0 ya1 ya2 ya3 ya4 yb0 yb1 yb2 yb3 yb4; have ⟨⟨y0, y1, y2, y3, y4, y5, y6, y7, y8, y9, y10, y11, y12, y13, y14, y15⟩, ⟨ya0, ya1, ya2, ya3, ya4⟩, yb0, yb1, yb2, yb3, yb4⟩ := KK.out wtb3 (HTb3.out))
    | (go_at_call_of 31 gp; refine (intact_yes wtb3 w3w.heap.size gp kp p1 P cp (hide (F5.out.2.2.2.2.2.2.2.1.on (HTb3.out) F5.out.2.2.2.2.2.2.2.1.lt.2)) (hide (hP.out.on (RA.out wtb3 (HTb3.out)).2.2.2.2.2.1)) (by omega)).mono ?_; rintro e wtb4 ⟨rfl, dT4⟩; have HTb4 := hide ((HTb3.out).trans (dT4.mono (HTb3.out).size)); clear y0 y1 y2 y3 y4 y5 y6 y7 y8 y9 y10 y11 y12 y13 y14 y15 ya0 ya1 ya2 ya3 ya4 yb0 yb1 yb2 yb3 yb4; have ⟨⟨y0, y1, y2, y3, y4, y5, y6, y7, y8, y9, y10, y11, y12, y13, y14, y15⟩, ⟨ya0, ya1, ya2, ya3, ya4⟩, yb0, yb1, yb2, yb3, yb4⟩ := KK.out wtb4 (HTb4.out))
    | (go_at_call 48; refine (TN.out wtb4 HTb4.out).mono ?_; rintro e wy ⟨rfl, TY, OY⟩; have ZY : wy.heap[pa]? = some (.cells #[.int .i64 n, .int .i64 m, .slice (some ⟨s1, 0, none⟩) St.length ks1, .slice (some ⟨s2, 0, none⟩) Fi.length ks2, .slice (some ⟨s3, 0, none⟩) Ed.length ks3] 25 (0, 0)) := OY.out.cellK (blk_on F5.out.2.1 HTb4.out) (by have := N1.out; omega); have yy0 : wy.cell? ⟨pa, 0, none⟩ = some (.int .i64 n) := cell_of ZY rfl; have yy1 : wy.cell? ⟨pa, 1, none⟩ = some (.int .i64 m) := cell_of ZY rfl; have yy2 : wy.cell? ⟨pa, 2, none⟩ = some (.slice (some ⟨s1, 0, none⟩) St.length ks1) := cell_of ZY rfl; have yy3 : wy.cell? ⟨pa, 3, none⟩ = some (.slice (some ⟨s2, 0, none⟩) Fi.length ks2) := cell_of ZY rfl; have yy4 : wy.cell? ⟨pa, 4, none⟩ = some (.slice (some ⟨s3, 0, none⟩) Ed.length ks3) := cell_of ZY rfl)
    | (go_at_call 49; refine (TL.out wy TY.out (Nat.le_trans N1.out.2.2.2.2.2.2 (Nat.le_trans HTb4.out.size OY.out.size))).mono ?_; rintro e wz ⟨rfl, DZ⟩))
  refine bodyPost_ret (results_tmp rfl _ _ _) rfl ?_
  have q := N1.out
  have e1 := (RA.out wtb4 HTb4.out).2.2.2.2.2.1
  have e2 := OY.out.toBelow (B := w.heap.size) e1.size (fun k hk => by omega)
  exact ⟨rfl, e1.trans (e2.trans (DZ.out.mono (by omega)))⟩
end Go.Proofs.YtfoahpideglghaaGreatDoor
