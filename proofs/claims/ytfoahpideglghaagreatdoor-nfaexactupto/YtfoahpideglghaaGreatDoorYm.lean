import Derived.Test.YtfoahpideglghaaGreatDoorYK
import Derived.Test.YtfoahpideglghaaGreatDoorYG
namespace Go.Proofs.YtfoahpideglghaaGreatDoor
open Go.RowKit Go.Maps Go.Shelf
attribute [local go_sem] Oper.semAt_some

theorem pthR_len {Ed : List EdT} {Fi : List Int} : ∀ (W C L : List Int), pthR Ed Fi W C = some L → L.length = W.length + 1
  | [], C, L, h => by
    unfold pthR at h
    rw [Option.map_eq_some_iff] at h
    obtain ⟨p, _, rfl⟩ := h
    rfl
  | y :: W, C, L, h => by
    unfold pthR at h
    rw [Option.bind_eq_some_iff] at h
    obtain ⟨p, _, h⟩ := h
    rw [Option.map_eq_some_iff] at h
    obtain ⟨r, hr, rfl⟩ := h
    rw [List.length_cons, pthR_len W _ r hr]
    rfl
theorem pthA_len {n m : Int} {St Fi : List Int} {Ed : List EdT} {Wd : List Int} (h : Wd.length ≤ 1048576) : (pthA n m St Fi Ed Wd).1.length ≤ 4194304 := by
  unfold pthA
  by_cases e0 : wordErr n m St Fi Ed Wd = 0
  · rw [if_pos e0]
    cases hp : pthR Ed Fi Wd (riseL St) with
    | none => exact Nat.zero_le _
    | some L =>
      have := pthR_len _ _ _ hp
      show L.length ≤ _
      omega
  · rw [if_neg e0]; exact Nat.zero_le _
theorem imgA_len {back : Bool} {n m : Int} {St Fi : List Int} {Ed : List EdT} {Q : List Int} {sym : Int} (h : Ed.length ≤ 4194304) : (imgA back n m St Fi Ed Q sym).1.length ≤ 4194304 := by
  unfold imgA
  by_cases e0 : imgErr n m St Fi Ed Q sym = 0
  · rw [if_pos e0]; exact Nat.le_trans (riseL_len _) (Nat.le_trans (imgL_len _ _ _ _) h)
  · rw [if_neg e0]; exact Nat.zero_le _
theorem same_same (w : World) (ao bo : Option Addr) (A : List Int) (c d : Nat) (hA : Hid (RdN w ao A)) (hB : Hid (RdN w bo A)) (hl : A.length ≤ 4194304) :
    Calls Tryz.prog 20 #[.slice ao A.length c, .slice bo A.length d] w fun e w' => e = .returned (.bool true) ∧ Below w.heap.size w w' := by
  have t := sameInts_any w ao bo A A c d hA hB hl hl
  simpa using t
set_option maxRecDepth 100000 in
set_option maxHeartbeats 8000000 in
theorem anew_yes (w : World) (B : Nat) (n m sym : Int) (g1 k1 g2 k2 g3 k3 gq kq gp kp gw kw : Nat) (St Fi : List Int) (Ed : List EdT) (Q P Wd : List Int) (hT : Hid (TabAt w ∧ 0 < B)) (hm : Hid (TwA B w g1 k1 g2 k2 g3 k3 St Fi Ed)) (hq : Hid (Mk B w gq kq Q)) (hp : Hid (Mk B w gp kp P)) (hw : Hid (Mk B w gw kw Wd)) (hn : Hid ((gq ≠ g1 ∧ gq ≠ g2 ∧ gq ≠ g3) ∧ (gp ≠ g1 ∧ gp ≠ g2 ∧ gp ≠ g3) ∧ (gw ≠ g1 ∧ gw ≠ g2 ∧ gw ≠ g3) ∧ gq ≠ gp ∧ gq ≠ gw ∧ gp ≠ gw)) (hB : B ≤ w.heap.size) (h1 : St.length ≤ 1048576) (h2 : Fi.length ≤ 1048576) (h3 : Ed.length ≤ 1048576) (h4 : Q.length ≤ 1048576) (h5 : P.length ≤ 1048576) (h6 : Wd.length ≤ 1048576) :
    Calls Tryz.prog 48 #[.agg #[.int .i64 n, .int .i64 m, .slice (some ⟨g1, 0, none⟩) St.length k1, .slice (some ⟨g2, 0, none⟩) Fi.length k2, .slice (some ⟨g3, 0, none⟩) Ed.length k3], .slice (some ⟨gq, 0, none⟩) Q.length kq, .slice (some ⟨gp, 0, none⟩) P.length kp, .slice (some ⟨gw, 0, none⟩) Wd.length kw, .int .i64 sym] w fun e w' => e = .returned (.bool true) ∧ Hid (TwA B w' g1 k1 g2 k2 g3 k3 (St.map (onF n)) (Fi.map (onF n)) (Ed.map (toE n))) ∧ Hid (Only w w' (fun k => k = g1 ∨ k = g2 ∨ k = g3 ∨ k = gq ∨ k = gp ∨ k = gw)) := by
  obtain ⟨W0, hW0⟩ : ∃ W0, w.alloc (.cells #[.int .i64 n, .int .i64 m, .slice (some ⟨g1, 0, none⟩) St.length k1, .slice (some ⟨g2, 0, none⟩) Fi.length k2, .slice (some ⟨g3, 0, none⟩) Ed.length k3] 25) = W0 := ⟨_, rfl⟩
  have H0 : Hid (Below w.heap.size w W0 ∧ W0.heap[w.heap.size]? = some (.cells #[.int .i64 n, .int .i64 m, .slice (some ⟨g1, 0, none⟩) St.length k1, .slice (some ⟨g2, 0, none⟩) Fi.length k2, .slice (some ⟨g3, 0, none⟩) Ed.length k3] 25 (0, 0)) ∧ w.heap.size < W0.heap.size) := hide ⟨by rw [← hW0]; exact alloc_below _ _, by rw [← hW0]; exact World.alloc_heap_new _ _, by rw [← hW0]; simp⟩
  have T0 := hide (hm.out.on H0.out.1)
  have HLT : Hid ((B ≤ g1 ∧ g1 < w.heap.size) ∧ (B ≤ g2 ∧ g2 < w.heap.size) ∧ (B ≤ g3 ∧ g3 < w.heap.size) ∧ (B ≤ gq ∧ gq < w.heap.size) ∧ (B ≤ gp ∧ gp < w.heap.size) ∧ (B ≤ gw ∧ gw < w.heap.size)) := hide ⟨hm.out.s.lt, hm.out.f.lt, hm.out.e.lt, hq.out.lt, hp.out.lt, hw.out.lt⟩
  have SK : Hid (∀ W, Only W0 W (fun k => k = g1 ∨ k = g2 ∨ k = g3 ∨ k = gq ∨ k = gp ∨ k = gw) → W.heap[w.heap.size]? = some (.cells #[.int .i64 n, .int .i64 m, .slice (some ⟨g1, 0, none⟩) St.length k1, .slice (some ⟨g2, 0, none⟩) Fi.length k2, .slice (some ⟨g3, 0, none⟩) Ed.length k3] 25 (0, 0))) := hide (fun W o => by
    have s := HLT.out
    exact o.cellK H0.out.2.1 (by omega))
  obtain ⟨S2, hS2⟩ : ∃ X, St.map (onF n) = X := ⟨_, rfl⟩
  obtain ⟨F2, hF2⟩ : ∃ X, Fi.map (onF n) = X := ⟨_, rfl⟩
  obtain ⟨E2, hE2⟩ : ∃ X, Ed.map (toE n) = X := ⟨_, rfl⟩
  obtain ⟨Q2, hQ2⟩ : ∃ X, Q.map (acF n) = X := ⟨_, rfl⟩
  obtain ⟨P2, hP2⟩ : ∃ X, P.map (acF n) = X := ⟨_, rfl⟩
  obtain ⟨V2, hV2⟩ : ∃ X, Wd.map (onF m) = X := ⟨_, rfl⟩
  have LS : Hid (S2.length = St.length ∧ F2.length = Fi.length ∧ E2.length = Ed.length ∧ Q2.length = Q.length ∧ P2.length = P.length ∧ V2.length = Wd.length) := hide (by
    rw [← hS2, ← hF2, ← hE2, ← hQ2, ← hP2, ← hV2]
    exact ⟨List.length_map _, List.length_map _, List.length_map _, List.length_map _, List.length_map _, List.length_map _⟩)
  have HS := hide (And.intro hS2 (And.intro hF2 (And.intro hE2 (And.intro hQ2 (And.intro hP2 hV2)))))
  rw [hS2, hF2, hE2]
  clear hS2 hF2 hE2 hQ2 hP2 hV2
  have y0 : W0.cell? ⟨w.heap.size, 0, none⟩ = some (.int .i64 n) := cell_of H0.out.2.1 rfl
  have y1 : W0.cell? ⟨w.heap.size, 1, none⟩ = some (.int .i64 m) := cell_of H0.out.2.1 rfl
  have y2 : W0.cell? ⟨w.heap.size, 2, none⟩ = some (.slice (some ⟨g1, 0, none⟩) St.length k1) := cell_of H0.out.2.1 rfl
  have y3 : W0.cell? ⟨w.heap.size, 3, none⟩ = some (.slice (some ⟨g2, 0, none⟩) Fi.length k2) := cell_of H0.out.2.1 rfl
  have y4 : W0.cell? ⟨w.heap.size, 4, none⟩ = some (.slice (some ⟨g3, 0, none⟩) Ed.length k3) := cell_of H0.out.2.1 rfl
  have T1 := normal_ans W0 n m (some ⟨g1, 0, none⟩) (some ⟨g2, 0, none⟩) (some ⟨g3, 0, none⟩) k1 k2 k3 St Fi Ed (hide T0.out.rd) (by omega) (by omega) (by omega)
  go_enter Tryz.func48, Tryz.ntmps48
  go_upto_region 2 with (go_at_call 21; refine T1.mono ?_; rintro e w1 ⟨_, _, _, _, _, _, rfl, _, D1⟩)
  have H1 := hide D1
  clear D1 T1 y0 y1 y2 y3 y4 hW0
  have O1 : Hid (Only W0 w1 (fun k => k = g1 ∨ k = g2 ∨ k = g3 ∨ k = gq ∨ k = gp ∨ k = gw)) := hide (Only.ofBelow H1.out)
  have y0 : w1.cell? ⟨w.heap.size, 0, none⟩ = some (.int .i64 n) := cell_of (SK.out w1 O1.out) rfl
  have y1 : w1.cell? ⟨w.heap.size, 1, none⟩ = some (.int .i64 m) := cell_of (SK.out w1 O1.out) rfl
  have y2 : w1.cell? ⟨w.heap.size, 2, none⟩ = some (.slice (some ⟨g1, 0, none⟩) St.length k1) := cell_of (SK.out w1 O1.out) rfl
  have y3 : w1.cell? ⟨w.heap.size, 3, none⟩ = some (.slice (some ⟨g2, 0, none⟩) Fi.length k2) := cell_of (SK.out w1 O1.out) rfl
  have y4 : w1.cell? ⟨w.heap.size, 4, none⟩ = some (.slice (some ⟨g3, 0, none⟩) Ed.length k3) := cell_of (SK.out w1 O1.out) rfl
  go_upto_region 3 with (go_at_call 37; refine (moved_any w1 B n m g1 k1 g2 k2 g3 k3 St Fi Ed (hide (T0.out.on H1.out)) (Nat.le_trans hB (Nat.le_trans H0.out.1.size H1.out.size)) (by omega) (by omega) (by omega)).mono ?_; rintro e w2 ⟨o1, ko1, o2, ko2, o3, ko3, rfl, T1, T2, T3, T4⟩)
  rw [HS.out.1, HS.out.2.1, HS.out.2.2.1] at T1 T2
  clear y0 y1 y2 y3 y4
  obtain ⟨W2, hW⟩ : ∃ X, w2.alloc (.cells #[.int .i64 n, .int .i64 m, .slice (some ⟨o1, 0, none⟩) St.length ko1, .slice (some ⟨o2, 0, none⟩) Fi.length ko2, .slice (some ⟨o3, 0, none⟩) Ed.length ko3] 25) = X := ⟨_, rfl⟩
  have G2 : Hid (W2.heap[w2.heap.size]? = some (.cells #[.int .i64 n, .int .i64 m, .slice (some ⟨o1, 0, none⟩) St.length ko1, .slice (some ⟨o2, 0, none⟩) Fi.length ko2, .slice (some ⟨o3, 0, none⟩) Ed.length ko3] 25 (0, 0)) ∧ TwA w1.heap.size W2 o1 ko1 o2 ko2 o3 ko3 S2 F2 E2 ∧ TwA B W2 g1 k1 g2 k2 g3 k3 S2 F2 E2 ∧ Only W0 W2 (fun k => k = g1 ∨ k = g2 ∨ k = g3 ∨ k = gq ∨ k = gp ∨ k = gw) ∧ Only w1 W2 (fun k => k = g1 ∨ k = g2 ∨ k = g3) ∧ w1.heap.size ≤ w2.heap.size ∧ w2.heap.size < W2.heap.size) := hide (by
    have dn : Below w2.heap.size w2 W2 := by rw [← hW]; exact alloc_below _ _
    have o1 := T4.out.trans (Only.ofBelow dn)
    exact ⟨by rw [← hW]; exact World.alloc_heap_new _ _, T1.out.on dn, T2.out.on dn, O1.out.trans (o1.mono fun k _ h => by rcases h with h | h | h <;> simp [h]), o1, T4.out.size, by rw [← hW]; simp⟩)
  rw [hW]
  clear hW T1 T2 T3 T4
  generalize w2.heap.size = pb at G2 ⊢
  have MQ : Hid (Mk B W2 gq kq Q ∧ Mk B W2 gp kp P ∧ Mk B W2 gw kw Wd) := hide (by
    have s := hn.out
    have d := H0.out.1.trans (H1.out.mono H0.out.1.size)
    exact ⟨mk_onlyR (hq.out.on d hq.out.lt.2) G2.out.2.2.2.2.1 (by omega), mk_onlyR (hp.out.on d hp.out.lt.2) G2.out.2.2.2.2.1 (by omega), mk_onlyR (hw.out.on d hw.out.lt.2) G2.out.2.2.2.2.1 (by omega)⟩)
  have y0 : W2.cell? ⟨w.heap.size, 0, none⟩ = some (.int .i64 n) := cell_of (SK.out W2 G2.out.2.2.2.1) rfl
  have y1 : W2.cell? ⟨w.heap.size, 1, none⟩ = some (.int .i64 m) := cell_of (SK.out W2 G2.out.2.2.2.1) rfl
  have y2 : W2.cell? ⟨w.heap.size, 2, none⟩ = some (.slice (some ⟨g1, 0, none⟩) St.length k1) := cell_of (SK.out W2 G2.out.2.2.2.1) rfl
  have y3 : W2.cell? ⟨w.heap.size, 3, none⟩ = some (.slice (some ⟨g2, 0, none⟩) Fi.length k2) := cell_of (SK.out W2 G2.out.2.2.2.1) rfl
  have y4 : W2.cell? ⟨w.heap.size, 4, none⟩ = some (.slice (some ⟨g3, 0, none⟩) Ed.length k3) := cell_of (SK.out W2 G2.out.2.2.2.1) rfl
  go_upto_region 4 with (go_at_call 81; refine (across_any W2 B gq kq Q n (hide MQ.out.1) (by omega)).mono ?_; rintro e w3 ⟨rfl, M3, O3⟩)
  rw [HS.out.2.2.2.1] at M3
  clear y0 y1 y2 y3 y4
  have P3 : Hid (Only W0 w3 (fun k => k = g1 ∨ k = g2 ∨ k = g3 ∨ k = gq ∨ k = gp ∨ k = gw)) := hide (G2.out.2.2.2.1.trans (O3.out.mono fun k _ h => by simp [h]))
  have M3p := hide (mk_onlyR MQ.out.2.1 O3.out (fun h => hn.out.2.2.2.1 h.symm))
  have M3w := hide (mk_onlyR MQ.out.2.2 O3.out (fun h => hn.out.2.2.2.2.1 h.symm))
  have y0 : w3.cell? ⟨w.heap.size, 0, none⟩ = some (.int .i64 n) := cell_of (SK.out w3 P3.out) rfl
  have y1 : w3.cell? ⟨w.heap.size, 1, none⟩ = some (.int .i64 m) := cell_of (SK.out w3 P3.out) rfl
  have y2 : w3.cell? ⟨w.heap.size, 2, none⟩ = some (.slice (some ⟨g1, 0, none⟩) St.length k1) := cell_of (SK.out w3 P3.out) rfl
  have y3 : w3.cell? ⟨w.heap.size, 3, none⟩ = some (.slice (some ⟨g2, 0, none⟩) Fi.length k2) := cell_of (SK.out w3 P3.out) rfl
  have y4 : w3.cell? ⟨w.heap.size, 4, none⟩ = some (.slice (some ⟨g3, 0, none⟩) Ed.length k3) := cell_of (SK.out w3 P3.out) rfl
  go_upto_region 5 with (go_at_call 81; refine (across_any w3 B gp kp P n M3p (by omega)).mono ?_; rintro e w4 ⟨rfl, M4, O4⟩)
  rw [HS.out.2.2.2.2.1] at M4
  clear y0 y1 y2 y3 y4
  have P4 : Hid (Only W0 w4 (fun k => k = g1 ∨ k = g2 ∨ k = g3 ∨ k = gq ∨ k = gp ∨ k = gw)) := hide (P3.out.trans (O4.out.mono fun k _ h => by simp [h]))
  have M4q := hide (mk_onlyR M3.out O4.out (fun h => hn.out.2.2.2.1 h))
  have M4w := hide (mk_onlyR M3w.out O4.out (fun h => hn.out.2.2.2.2.2 h.symm))
  have y0 : w4.cell? ⟨w.heap.size, 0, none⟩ = some (.int .i64 n) := cell_of (SK.out w4 P4.out) rfl
  have y1 : w4.cell? ⟨w.heap.size, 1, none⟩ = some (.int .i64 m) := cell_of (SK.out w4 P4.out) rfl
  have y2 : w4.cell? ⟨w.heap.size, 2, none⟩ = some (.slice (some ⟨g1, 0, none⟩) St.length k1) := cell_of (SK.out w4 P4.out) rfl
  have y3 : w4.cell? ⟨w.heap.size, 3, none⟩ = some (.slice (some ⟨g2, 0, none⟩) Fi.length k2) := cell_of (SK.out w4 P4.out) rfl
  have y4 : w4.cell? ⟨w.heap.size, 4, none⟩ = some (.slice (some ⟨g3, 0, none⟩) Ed.length k3) := cell_of (SK.out w4 P4.out) rfl
  go_upto_region 6 with (go_at_call 38; refine (onward_any w4 B gw kw Wd m M4w (by omega)).mono ?_; rintro e w5 ⟨rfl, M5, O5⟩)
  rw [HS.out.2.2.2.2.2] at M5
  clear y0 y1 y2 y3 y4
  have G5 : Hid (w5.heap[w.heap.size]? = some (.cells #[.int .i64 n, .int .i64 m, .slice (some ⟨g1, 0, none⟩) St.length k1, .slice (some ⟨g2, 0, none⟩) Fi.length k2, .slice (some ⟨g3, 0, none⟩) Ed.length k3] 25 (0, 0)) ∧ w5.heap[pb]? = some (.cells #[.int .i64 n, .int .i64 m, .slice (some ⟨o1, 0, none⟩) St.length ko1, .slice (some ⟨o2, 0, none⟩) Fi.length ko2, .slice (some ⟨o3, 0, none⟩) Ed.length ko3] 25 (0, 0)) ∧ TwA B w5 g1 k1 g2 k2 g3 k3 S2 F2 E2 ∧ TwA w1.heap.size w5 o1 ko1 o2 ko2 o3 ko3 S2 F2 E2 ∧ Mk B w5 gq kq Q2 ∧ Mk B w5 gp kp P2 ∧ Mk B w5 gw kw V2 ∧ Below B w w5 ∧ Only w w5 (fun k => k = g1 ∨ k = g2 ∨ k = g3 ∨ k = gq ∨ k = gp ∨ k = gw)) := hide (by
    have s := HLT.out
    have s1 := hn.out
    have s2 := H1.out.size
    have s3 := H0.out.2.2
    have o1 := G2.out.2.1.s.lt
    have o2 := G2.out.2.1.f.lt
    have o3 := G2.out.2.1.e.lt
    have s4 := G2.out.2.2.2.2.2
    have P5 : Only W0 w5 (fun k => k = g1 ∨ k = g2 ∨ k = g3 ∨ k = gq ∨ k = gp ∨ k = gw) := P4.out.trans (O5.out.mono fun k _ h => by simp [h])
    have c : Only W2 w5 (fun k => k = gq ∨ k = gp ∨ k = gw) := ((O3.out.mono fun k _ h => Or.inl h).trans (O4.out.mono fun k _ h => Or.inr (Or.inl h))).trans (O5.out.mono fun k _ h => Or.inr (Or.inr h))
    exact ⟨SK.out w5 P5, c.cellK G2.out.1 (by omega), twA_onlyR G2.out.2.2.1 c (by omega) (by omega) (by omega), twA_onlyR G2.out.2.1 c (by omega) (by omega) (by omega), mk_onlyR M4q.out O5.out (by omega), mk_onlyR M4.out O5.out (by omega), M5.out, (H0.out.1.mono hB).trans (P5.toBelow (by omega) fun k hk => by omega), (Only.ofBelow H0.out.1).trans P5⟩)
  clear MQ M3 M3p M3w M4 M4q M4w M5 O3 O4 O5 P3 P4 G2 O1 SK T0 H1
  have LI : Hid (∀ W g c (L L' : List Int), Mk B W g c L' → L'.length = L.length → L.length ≤ 1048576 → Calls Tryz.prog 11 #[.slice (some ⟨g, 0, none⟩) L.length c] W fun e w' => ∃ g c, e = .returned (.slice (some ⟨g, 0, none⟩) L.length c) ∧ Hid (Mk W.heap.size w' g c L') ∧ Below W.heap.size W w') := hide (fun W g c L L' h hl hb => by
    have t := ints_any W (some ⟨g, 0, none⟩) L' c (hide h.rd) (by omega)
    rw [hl] at t
    exact t)
  go_upto_region 7 with (first
    | (go_at_call_of 11 gq; refine (LI.out w5 gq kq Q Q2 G5.out.2.2.2.2.1 LS.out.2.2.2.1 h4).mono ?_; rintro e w6 ⟨i1, j1, rfl, N1, d1⟩; have D6 := hide d1; clear d1)
    | (go_at_call_of 11 gp; refine (LI.out w6 gp kp P P2 (G5.out.2.2.2.2.2.1.on D6.out G5.out.2.2.2.2.2.1.lt.2) LS.out.2.2.2.2.1 h5).mono ?_; rintro e w7 ⟨i2, j2, rfl, N2, d2⟩; have D7 := hide (D6.out.trans (d2.mono D6.out.size)); have N1b := hide (N1.out.on d2 N1.out.lt.2); clear d2)
    | (go_at_call_of 11 gw; refine (LI.out w7 gw kw Wd V2 (G5.out.2.2.2.2.2.2.1.on D7.out G5.out.2.2.2.2.2.2.1.lt.2) LS.out.2.2.2.2.2 h6).mono ?_; rintro e Wb ⟨i3, j3, rfl, N3, d3⟩; have D8 := hide (D7.out.trans (d3.mono D7.out.size)); have N1c := hide (N1b.out.on d3 N1b.out.lt.2); have N2c := hide (N2.out.on d3 N2.out.lt.2); clear d3))
  have GB : Hid (Wb.heap[w.heap.size]? = some (.cells #[.int .i64 n, .int .i64 m, .slice (some ⟨g1, 0, none⟩) St.length k1, .slice (some ⟨g2, 0, none⟩) Fi.length k2, .slice (some ⟨g3, 0, none⟩) Ed.length k3] 25 (0, 0)) ∧ Wb.heap[pb]? = some (.cells #[.int .i64 n, .int .i64 m, .slice (some ⟨o1, 0, none⟩) St.length ko1, .slice (some ⟨o2, 0, none⟩) Fi.length ko2, .slice (some ⟨o3, 0, none⟩) Ed.length ko3] 25 (0, 0)) ∧ TwA B Wb g1 k1 g2 k2 g3 k3 S2 F2 E2 ∧ TwA w1.heap.size Wb o1 ko1 o2 ko2 o3 ko3 S2 F2 E2 ∧ (RdN Wb (some ⟨gq, 0, none⟩) Q2 ∧ RdN Wb (some ⟨gp, 0, none⟩) P2 ∧ RdN Wb (some ⟨gw, 0, none⟩) V2) ∧ (RdN Wb (some ⟨i1, 0, none⟩) Q2 ∧ RdN Wb (some ⟨i2, 0, none⟩) P2 ∧ RdN Wb (some ⟨i3, 0, none⟩) V2) ∧ Below B w Wb ∧ TabAt Wb ∧ 0 < Wb.heap.size ∧ Only w Wb (fun k => k = g1 ∨ k = g2 ∨ k = g3 ∨ k = gq ∨ k = gp ∨ k = gw)) := hide (by
    have db := G5.out.2.2.2.2.2.2.2.1.trans (D8.out.mono (Nat.le_trans hB G5.out.2.2.2.2.2.2.2.1.size))
    exact ⟨blk_on G5.out.1 D8.out, blk_on G5.out.2.1 D8.out, G5.out.2.2.1.on D8.out, G5.out.2.2.2.1.on D8.out, ⟨G5.out.2.2.2.2.1.rd.on D8.out, G5.out.2.2.2.2.2.1.rd.on D8.out, G5.out.2.2.2.2.2.2.1.rd.on D8.out⟩, ⟨N1c.out.rd, N2c.out.rd, N3.out.rd⟩, db, hT.out.1.below db hT.out.2, Nat.lt_of_lt_of_le hT.out.2 (Nat.le_trans hB db.size), G5.out.2.2.2.2.2.2.2.2.trans (Only.ofBelow D8.out)⟩)
  clear N1 N1b N1c N2 N2c N3 D6 D7 D8 G5 LI hm hq hp hw hn HLT H0 HS
  have KK : Hid (∀ W, Below Wb.heap.size Wb W → (W.cell? ⟨w.heap.size, 0, none⟩ = some (.int .i64 n) ∧ W.cell? ⟨w.heap.size, 1, none⟩ = some (.int .i64 m) ∧ W.cell? ⟨w.heap.size, 2, none⟩ = some (.slice (some ⟨g1, 0, none⟩) St.length k1) ∧ W.cell? ⟨w.heap.size, 3, none⟩ = some (.slice (some ⟨g2, 0, none⟩) Fi.length k2) ∧ W.cell? ⟨w.heap.size, 4, none⟩ = some (.slice (some ⟨g3, 0, none⟩) Ed.length k3)) ∧ (W.cell? ⟨pb, 0, none⟩ = some (.int .i64 n) ∧ W.cell? ⟨pb, 1, none⟩ = some (.int .i64 m) ∧ W.cell? ⟨pb, 2, none⟩ = some (.slice (some ⟨o1, 0, none⟩) St.length ko1) ∧ W.cell? ⟨pb, 3, none⟩ = some (.slice (some ⟨o2, 0, none⟩) Fi.length ko2) ∧ W.cell? ⟨pb, 4, none⟩ = some (.slice (some ⟨o3, 0, none⟩) Ed.length ko3))) := hide (fun W d => by
    have e0 := blk_on GB.out.1 d
    have e1 := blk_on GB.out.2.1 d
    exact ⟨⟨cell_of e0 rfl, cell_of e0 rfl, cell_of e0 rfl, cell_of e0 rfl, cell_of e0 rfl⟩, cell_of e1 rfl, cell_of e1 rfl, cell_of e1 rfl, cell_of e1 rfl, cell_of e1 rfl⟩)
  have TT : Hid (∀ W, Below Wb.heap.size Wb W → TabAt W ∧ 0 < W.heap.size) := hide (fun W d => ⟨GB.out.2.2.2.2.2.2.2.1.below d GB.out.2.2.2.2.2.2.2.2.1, Nat.lt_of_lt_of_le GB.out.2.2.2.2.2.2.2.2.1 d.size⟩)
  have RG : Hid (∀ W, Below Wb.heap.size Wb W → RdA W (some ⟨g1, 0, none⟩) (some ⟨g2, 0, none⟩) (some ⟨g3, 0, none⟩) S2 F2 E2 ∧ RdA W (some ⟨o1, 0, none⟩) (some ⟨o2, 0, none⟩) (some ⟨o3, 0, none⟩) S2 F2 E2) := hide (fun W d => ⟨GB.out.2.2.1.rd.on d, GB.out.2.2.2.1.rd.on d⟩)
  have RI : Hid (∀ W, Below Wb.heap.size Wb W → (RdN W (some ⟨gq, 0, none⟩) Q2 ∧ RdN W (some ⟨gp, 0, none⟩) P2 ∧ RdN W (some ⟨gw, 0, none⟩) V2) ∧ (RdN W (some ⟨i1, 0, none⟩) Q2 ∧ RdN W (some ⟨i2, 0, none⟩) P2 ∧ RdN W (some ⟨i3, 0, none⟩) V2)) := hide (fun W d => ⟨⟨GB.out.2.2.2.2.1.1.on d, GB.out.2.2.2.2.1.2.1.on d, GB.out.2.2.2.2.1.2.2.on d⟩, ⟨GB.out.2.2.2.2.2.1.1.on d, GB.out.2.2.2.2.2.1.2.1.on d, GB.out.2.2.2.2.2.1.2.2.on d⟩⟩)
  have KO : Hid (E2.length ≤ ko3) := hide (by have := GB.out.2.2.2.1.e.le; omega)
  have AP : Hid (∀ W, Below Wb.heap.size Wb W → Calls Tryz.prog 15 #[.agg #[.int .i64 n, .int .i64 m, .slice (some ⟨g1, 0, none⟩) St.length k1, .slice (some ⟨g2, 0, none⟩) Fi.length k2, .slice (some ⟨g3, 0, none⟩) Ed.length k3], .slice (some ⟨gq, 0, none⟩) Q.length kq, .int .i64 sym] W (LAns W (imgA false n m S2 F2 E2 Q2 sym))) := hide (fun W d => by
    have l := LS.out
    have t := post_ans W n m (some ⟨g1, 0, none⟩) (some ⟨g2, 0, none⟩) (some ⟨g3, 0, none⟩) k1 k2 k3 S2 F2 E2 (some ⟨gq, 0, none⟩) kq Q2 sym (hide (RG.out W d).1) (hide (RI.out W d).1.1) (hide (TT.out W d)) (by omega) (by omega) (by omega) (by omega)
    rw [l.1, l.2.1, l.2.2.1, l.2.2.2.1] at t
    exact t)
  have AR : Hid (∀ W, Below Wb.heap.size Wb W → Calls Tryz.prog 41 #[.agg #[.int .i64 n, .int .i64 m, .slice (some ⟨o1, 0, none⟩) St.length ko1, .slice (some ⟨o2, 0, none⟩) Fi.length ko2, .slice (some ⟨o3, 0, none⟩) Ed.length ko3], .slice (some ⟨i1, 0, none⟩) Q.length j1, .int .i64 sym] W (LAns W (imgA false n m S2 F2 E2 Q2 sym))) := hide (fun W d => by
    have l := LS.out
    have t := rpost_any W n m (some ⟨o1, 0, none⟩) (some ⟨o2, 0, none⟩) (some ⟨o3, 0, none⟩) ko1 ko2 ko3 S2 F2 E2 (some ⟨i1, 0, none⟩) j1 Q2 sym (hide (RG.out W d).2) (hide (RI.out W d).2.1) (by omega) (by omega) (by omega) (by omega)
    rw [l.1, l.2.1, l.2.2.1, l.2.2.2.1] at t
    exact t)
  have HLA : Hid ((imgA false n m S2 F2 E2 Q2 sym).1.length ≤ 4194304) := hide (by have l := LS.out; exact imgA_len (by omega))
  generalize imgA false n m S2 F2 E2 Q2 sym = rA at AP AR HLA
  have BP : Hid (∀ W, Below Wb.heap.size Wb W → Calls Tryz.prog 16 #[.agg #[.int .i64 n, .int .i64 m, .slice (some ⟨g1, 0, none⟩) St.length k1, .slice (some ⟨g2, 0, none⟩) Fi.length k2, .slice (some ⟨g3, 0, none⟩) Ed.length k3], .slice (some ⟨gq, 0, none⟩) Q.length kq, .int .i64 sym] W (LAns W (imgA true n m S2 F2 E2 Q2 sym))) := hide (fun W d => by
    have l := LS.out
    have t := pre_ans W n m (some ⟨g1, 0, none⟩) (some ⟨g2, 0, none⟩) (some ⟨g3, 0, none⟩) k1 k2 k3 S2 F2 E2 (some ⟨gq, 0, none⟩) kq Q2 sym (hide (RG.out W d).1) (hide (RI.out W d).1.1) (hide (TT.out W d)) (by omega) (by omega) (by omega) (by omega)
    rw [l.1, l.2.1, l.2.2.1, l.2.2.2.1] at t
    exact t)
  have BR : Hid (∀ W, Below Wb.heap.size Wb W → Calls Tryz.prog 42 #[.agg #[.int .i64 n, .int .i64 m, .slice (some ⟨o1, 0, none⟩) St.length ko1, .slice (some ⟨o2, 0, none⟩) Fi.length ko2, .slice (some ⟨o3, 0, none⟩) Ed.length ko3], .slice (some ⟨i1, 0, none⟩) Q.length j1, .int .i64 sym] W (LAns W (imgA true n m S2 F2 E2 Q2 sym))) := hide (fun W d => by
    have l := LS.out
    have t := rpre_any W n m (some ⟨o1, 0, none⟩) (some ⟨o2, 0, none⟩) (some ⟨o3, 0, none⟩) ko1 ko2 ko3 S2 F2 E2 (some ⟨i1, 0, none⟩) j1 Q2 sym (hide (RG.out W d).2) (hide (RI.out W d).2.1) (by omega) (by omega) (by omega) (by omega)
    rw [l.1, l.2.1, l.2.2.1, l.2.2.2.1] at t
    exact t)
  have HLB : Hid ((imgA true n m S2 F2 E2 Q2 sym).1.length ≤ 4194304) := hide (by have l := LS.out; exact imgA_len (by omega))
  generalize imgA true n m S2 F2 E2 Q2 sym = rB at BP BR HLB
  have CP : Hid (∀ W, Below Wb.heap.size Wb W → Calls Tryz.prog 19 #[.agg #[.int .i64 n, .int .i64 m, .slice (some ⟨g1, 0, none⟩) St.length k1, .slice (some ⟨g2, 0, none⟩) Fi.length k2, .slice (some ⟨g3, 0, none⟩) Ed.length k3], .slice (some ⟨gw, 0, none⟩) Wd.length kw] W (LAns W (aftA n m S2 F2 E2 V2))) := hide (fun W d => by
    have l := LS.out
    have t := after_ans W n m (some ⟨g1, 0, none⟩) (some ⟨g2, 0, none⟩) (some ⟨g3, 0, none⟩) k1 k2 k3 S2 F2 E2 (some ⟨gw, 0, none⟩) kw V2 (hide (RG.out W d).1) (hide (RI.out W d).1.2.2) (hide (TT.out W d)) (by omega) (by omega) (by omega) (by omega)
    rw [l.1, l.2.1, l.2.2.1, l.2.2.2.2.2] at t
    exact t)
  have CR : Hid (∀ W, Below Wb.heap.size Wb W → Calls Tryz.prog 43 #[.agg #[.int .i64 n, .int .i64 m, .slice (some ⟨o1, 0, none⟩) St.length ko1, .slice (some ⟨o2, 0, none⟩) Fi.length ko2, .slice (some ⟨o3, 0, none⟩) Ed.length ko3], .slice (some ⟨i3, 0, none⟩) Wd.length j3] W (LAns W (aftA n m S2 F2 E2 V2))) := hide (fun W d => by
    have l := LS.out
    have t := rafter_any W n m (some ⟨o1, 0, none⟩) (some ⟨o2, 0, none⟩) (some ⟨o3, 0, none⟩) ko1 ko2 ko3 S2 F2 E2 (some ⟨i3, 0, none⟩) j3 V2 (hide (RG.out W d).2) (hide (RI.out W d).2.2.2) (by omega) (by omega) (by omega) (by omega)
    rw [l.1, l.2.1, l.2.2.1, l.2.2.2.2.2] at t
    exact t)
  have HLC : Hid ((aftA n m S2 F2 E2 V2).1.length ≤ 4194304) := hide (by have l := LS.out; exact aftA_len (by omega) (by omega))
  generalize aftA n m S2 F2 E2 V2 = rC at CP CR HLC
  have EP : Hid (∀ W, Below Wb.heap.size Wb W → Calls Tryz.prog 12 #[.agg #[.int .i64 n, .int .i64 m, .slice (some ⟨g1, 0, none⟩) St.length k1, .slice (some ⟨g2, 0, none⟩) Fi.length k2, .slice (some ⟨g3, 0, none⟩) Ed.length k3], .slice (some ⟨gw, 0, none⟩) Wd.length kw] W (LAns W (pthA n m S2 F2 E2 V2))) := hide (fun W d => by
    have l := LS.out
    have t := path_ans W n m (some ⟨g1, 0, none⟩) (some ⟨g2, 0, none⟩) (some ⟨g3, 0, none⟩) k1 k2 k3 S2 F2 E2 (some ⟨gw, 0, none⟩) kw V2 (hide (RG.out W d).1) (hide (RI.out W d).1.2.2) (hide (TT.out W d)) (by omega) (by omega) (by omega) (by omega)
    rw [l.1, l.2.1, l.2.2.1, l.2.2.2.2.2] at t
    exact t)
  have ER : Hid (∀ W, Below Wb.heap.size Wb W → Calls Tryz.prog 44 #[.agg #[.int .i64 n, .int .i64 m, .slice (some ⟨o1, 0, none⟩) St.length ko1, .slice (some ⟨o2, 0, none⟩) Fi.length ko2, .slice (some ⟨o3, 0, none⟩) Ed.length ko3], .slice (some ⟨i3, 0, none⟩) Wd.length j3] W (LAns W (pthA n m S2 F2 E2 V2))) := hide (fun W d => by
    have l := LS.out
    have t := rpath_any W n m (some ⟨o1, 0, none⟩) (some ⟨o2, 0, none⟩) (some ⟨o3, 0, none⟩) ko1 ko2 ko3 S2 F2 E2 (some ⟨i3, 0, none⟩) j3 V2 (hide (RG.out W d).2) (hide (RI.out W d).2.2.2) (by omega) (by omega) (by omega) (by omega)
    rw [l.1, l.2.1, l.2.2.1, l.2.2.2.2.2] at t
    exact t)
  have HLE : Hid ((pthA n m S2 F2 E2 V2).1.length ≤ 4194304) := hide (by have l := LS.out; exact pthA_len (by omega))
  generalize pthA n m S2 F2 E2 V2 = rE at EP ER HLE
  have NP : Hid (∀ W, Below Wb.heap.size Wb W → Calls Tryz.prog 21 #[.agg #[.int .i64 n, .int .i64 m, .slice (some ⟨g1, 0, none⟩) St.length k1, .slice (some ⟨g2, 0, none⟩) Fi.length k2, .slice (some ⟨g3, 0, none⟩) Ed.length k3]] W (AnsO W (normAns n m S2 F2 E2))) := hide (fun W d => by
    have l := LS.out
    have t := normal_ans W n m (some ⟨g1, 0, none⟩) (some ⟨g2, 0, none⟩) (some ⟨g3, 0, none⟩) k1 k2 k3 S2 F2 E2 (hide (RG.out W d).1) (by omega) (by omega) (by omega)
    rw [l.1, l.2.1, l.2.2.1] at t
    exact t)
  have NR : Hid (∀ W, Below Wb.heap.size Wb W → Calls Tryz.prog 32 #[.agg #[.int .i64 n, .int .i64 m, .slice (some ⟨o1, 0, none⟩) St.length ko1, .slice (some ⟨o2, 0, none⟩) Fi.length ko2, .slice (some ⟨o3, 0, none⟩) Ed.length ko3]] W (AnsR W (normAns n m S2 F2 E2))) := hide (fun W d => by
    have l := LS.out
    have t := rnormal_ans W n m (some ⟨o1, 0, none⟩) (some ⟨o2, 0, none⟩) (some ⟨o3, 0, none⟩) ko1 ko2 ko3 S2 F2 E2 (hide (RG.out W d).2) (by omega) (by omega) (by omega) KO.out
    rw [l.1, l.2.1, l.2.2.1] at t
    exact t)
  have HLN : Hid ((normAns n m S2 F2 E2).s.length ≤ 4194304 ∧ (normAns n m S2 F2 E2).f.length ≤ 4194304 ∧ (normAns n m S2 F2 E2).e.length ≤ 4194304) := hide (by have l := LS.out; exact norm_len n m S2 F2 E2 (by omega) (by omega) (by omega))
  generalize normAns n m S2 F2 E2 = rN at NP NR HLN
  have FP : Hid (∀ W, Below Wb.heap.size Wb W → Calls Tryz.prog 9 #[.agg #[.int .i64 n, .int .i64 m, .slice (some ⟨g1, 0, none⟩) St.length k1, .slice (some ⟨g2, 0, none⟩) Fi.length k2, .slice (some ⟨g3, 0, none⟩) Ed.length k3], .slice (some ⟨gw, 0, none⟩) Wd.length kw] W fun e w' => e = .returned (.tuple #[.bool (accA n m S2 F2 E2 V2).1, .int .i64 (accA n m S2 F2 E2 V2).2]) ∧ Below W.heap.size W w') := hide (fun W d => by
    have l := LS.out
    have t := accepts_ans W n m (some ⟨g1, 0, none⟩) (some ⟨g2, 0, none⟩) (some ⟨g3, 0, none⟩) k1 k2 k3 S2 F2 E2 (some ⟨gw, 0, none⟩) kw V2 (hide (RG.out W d).1) (hide (RI.out W d).1.2.2) (hide (TT.out W d)) (by omega) (by omega) (by omega) (by omega)
    rw [l.1, l.2.1, l.2.2.1, l.2.2.2.2.2] at t
    exact t)
  have FR : Hid (∀ W, Below Wb.heap.size Wb W → Calls Tryz.prog 45 #[.agg #[.int .i64 n, .int .i64 m, .slice (some ⟨o1, 0, none⟩) St.length ko1, .slice (some ⟨o2, 0, none⟩) Fi.length ko2, .slice (some ⟨o3, 0, none⟩) Ed.length ko3], .slice (some ⟨i3, 0, none⟩) Wd.length j3] W fun e w' => e = .returned (.tuple #[.bool (accA n m S2 F2 E2 V2).1, .int .i64 (accA n m S2 F2 E2 V2).2]) ∧ Below W.heap.size W w') := hide (fun W d => by
    have l := LS.out
    have t := raccepts_any W n m (some ⟨o1, 0, none⟩) (some ⟨o2, 0, none⟩) (some ⟨o3, 0, none⟩) ko1 ko2 ko3 S2 F2 E2 (some ⟨i3, 0, none⟩) j3 V2 (hide (RG.out W d).2) (hide (RI.out W d).2.2.2) (by omega) (by omega) (by omega) (by omega)
    rw [l.1, l.2.1, l.2.2.1, l.2.2.2.2.2] at t
    exact t)
  generalize accA n m S2 F2 E2 V2 = rF at FP FR
  have HP : Hid (∀ W, Below Wb.heap.size Wb W → Calls Tryz.prog 13 #[.agg #[.int .i64 n, .int .i64 m, .slice (some ⟨g1, 0, none⟩) St.length k1, .slice (some ⟨g2, 0, none⟩) Fi.length k2, .slice (some ⟨g3, 0, none⟩) Ed.length k3], .slice (some ⟨gp, 0, none⟩) P.length kp, .slice (some ⟨gw, 0, none⟩) Wd.length kw] W fun e w' => e = .returned (.tuple #[.bool (runR n m S2 F2 E2 P2 V2).1, .int .i64 (runR n m S2 F2 E2 P2 V2).2]) ∧ Below W.heap.size W w') := hide (fun W d => by
    have l := LS.out
    have t := runs_ans W n m (some ⟨g1, 0, none⟩) (some ⟨g2, 0, none⟩) (some ⟨g3, 0, none⟩) k1 k2 k3 S2 F2 E2 (some ⟨gp, 0, none⟩) kp P2 (some ⟨gw, 0, none⟩) kw V2 (hide (RG.out W d).1) (hide (RI.out W d).1.2.2) (hide (RI.out W d).1.2.1) (by omega) (by omega) (by omega) (by omega) (by omega)
    rw [l.1, l.2.1, l.2.2.1, l.2.2.2.2.1, l.2.2.2.2.2] at t
    exact t)
  have HR : Hid (∀ W, Below Wb.heap.size Wb W → Calls Tryz.prog 46 #[.agg #[.int .i64 n, .int .i64 m, .slice (some ⟨o1, 0, none⟩) St.length ko1, .slice (some ⟨o2, 0, none⟩) Fi.length ko2, .slice (some ⟨o3, 0, none⟩) Ed.length ko3], .slice (some ⟨i2, 0, none⟩) P.length j2, .slice (some ⟨i3, 0, none⟩) Wd.length j3] W fun e w' => e = .returned (.tuple #[.bool (runR n m S2 F2 E2 P2 V2).1, .int .i64 (runR n m S2 F2 E2 P2 V2).2]) ∧ Below W.heap.size W w') := hide (fun W d => by
    have l := LS.out
    have t := rruns_ans W n m (some ⟨o1, 0, none⟩) (some ⟨o2, 0, none⟩) (some ⟨o3, 0, none⟩) ko1 ko2 ko3 S2 F2 E2 (some ⟨i2, 0, none⟩) j2 P2 (some ⟨i3, 0, none⟩) j3 V2 (hide (RG.out W d).2) (hide (RI.out W d).2.2.2) (hide (RI.out W d).2.2.1) (by omega) (by omega) (by omega) (by omega) (by omega)
    rw [l.1, l.2.1, l.2.2.1, l.2.2.2.2.1, l.2.2.2.2.2] at t
    exact t)
  generalize runR n m S2 F2 E2 P2 V2 = rH at HP HR
  obtain ⟨⟨y0, y1, y2, y3, y4⟩, z0, z1, z2, z3, z4⟩ := KK.out Wb ((Below.refl _ _))
  have n0 : (rA.2 != rA.2) = false := by simp
  go_upto_region 11 with (first
    | (go_at_call 15; refine (AP.out Wb ((Below.refl _ _))).mono ?_; rintro e wa1 ⟨ba, ca, rfl, OA, dA⟩; have HA1 := hide dA; clear y0 y1 y2 y3 y4 z0 z1 z2 z3 z4; have ⟨⟨y0, y1, y2, y3, y4⟩, z0, z1, z2, z3, z4⟩ := KK.out wa1 (HA1.out))
    | (go_at_call 41; refine (AR.out wa1 HA1.out).mono ?_; rintro e wb1 ⟨bb, cb, rfl, OB, dB⟩; have HB1 := hide (HA1.out.trans (dB.mono (HA1.out).size)); have OA2 := hide (own_below OA.out dB); clear y0 y1 y2 y3 y4 z0 z1 z2 z3 z4; have ⟨⟨y0, y1, y2, y3, y4⟩, z0, z1, z2, z3, z4⟩ := KK.out wb1 (HB1.out))
    | (go_at_call 20; refine (same_same wb1 ba bb rA.1 ca cb (hide (own_rdN OA2.out)) (hide (own_rdN OB.out)) HLA.out).mono ?_; rintro e wc1 ⟨rfl, dC⟩; have HC1 := hide (HB1.out.trans (dC.mono (HB1.out).size)); clear y0 y1 y2 y3 y4 z0 z1 z2 z3 z4))
  clear n0 dA dB dC OA OB OA2 AP AR HLA
  obtain ⟨⟨y0, y1, y2, y3, y4⟩, z0, z1, z2, z3, z4⟩ := KK.out wc1 (HC1.out)
  have n0 : (rB.2 != rB.2) = false := by simp
  go_upto_region 15 with (first
    | (go_at_call 16; refine (BP.out wc1 (HC1.out)).mono ?_; rintro e wa2 ⟨ba, ca, rfl, OA, dA⟩; have HA2 := hide ((HC1.out).trans (dA.mono ((HC1.out)).size)); clear y0 y1 y2 y3 y4 z0 z1 z2 z3 z4; have ⟨⟨y0, y1, y2, y3, y4⟩, z0, z1, z2, z3, z4⟩ := KK.out wa2 (HA2.out))
    | (go_at_call 42; refine (BR.out wa2 HA2.out).mono ?_; rintro e wb2 ⟨bb, cb, rfl, OB, dB⟩; have HB2 := hide (HA2.out.trans (dB.mono (HA2.out).size)); have OA2 := hide (own_below OA.out dB); clear y0 y1 y2 y3 y4 z0 z1 z2 z3 z4; have ⟨⟨y0, y1, y2, y3, y4⟩, z0, z1, z2, z3, z4⟩ := KK.out wb2 (HB2.out))
    | (go_at_call 20; refine (same_same wb2 ba bb rB.1 ca cb (hide (own_rdN OA2.out)) (hide (own_rdN OB.out)) HLB.out).mono ?_; rintro e wc2 ⟨rfl, dC⟩; have HC2 := hide (HB2.out.trans (dC.mono (HB2.out).size)); clear y0 y1 y2 y3 y4 z0 z1 z2 z3 z4))
  clear n0 dA dB dC OA OB OA2 BP BR HLB
  obtain ⟨⟨y0, y1, y2, y3, y4⟩, z0, z1, z2, z3, z4⟩ := KK.out wc2 (HC2.out)
  have n0 : (rC.2 != rC.2) = false := by simp
  go_upto_region 19 with (first
    | (go_at_call 19; refine (CP.out wc2 (HC2.out)).mono ?_; rintro e wa3 ⟨ba, ca, rfl, OA, dA⟩; have HA3 := hide ((HC2.out).trans (dA.mono ((HC2.out)).size)); clear y0 y1 y2 y3 y4 z0 z1 z2 z3 z4; have ⟨⟨y0, y1, y2, y3, y4⟩, z0, z1, z2, z3, z4⟩ := KK.out wa3 (HA3.out))
    | (go_at_call 43; refine (CR.out wa3 HA3.out).mono ?_; rintro e wb3 ⟨bb, cb, rfl, OB, dB⟩; have HB3 := hide (HA3.out.trans (dB.mono (HA3.out).size)); have OA2 := hide (own_below OA.out dB); clear y0 y1 y2 y3 y4 z0 z1 z2 z3 z4; have ⟨⟨y0, y1, y2, y3, y4⟩, z0, z1, z2, z3, z4⟩ := KK.out wb3 (HB3.out))
    | (go_at_call 20; refine (same_same wb3 ba bb rC.1 ca cb (hide (own_rdN OA2.out)) (hide (own_rdN OB.out)) HLC.out).mono ?_; rintro e wc3 ⟨rfl, dC⟩; have HC3 := hide (HB3.out.trans (dC.mono (HB3.out).size)); clear y0 y1 y2 y3 y4 z0 z1 z2 z3 z4))
  clear n0 dA dB dC OA OB OA2 CP CR HLC
  obtain ⟨⟨y0, y1, y2, y3, y4⟩, z0, z1, z2, z3, z4⟩ := KK.out wc3 (HC3.out)
  go_upto_region 21 with (first
    | (go_at_call 12; refine (EP.out wc3 (HC3.out)).mono ?_; rintro e wa4 ⟨ba, ca, rfl, OA, dA⟩; have HA4 := hide ((HC3.out).trans (dA.mono (HC3.out).size)); clear y0 y1 y2 y3 y4 z0 z1 z2 z3 z4; have ⟨⟨y0, y1, y2, y3, y4⟩, z0, z1, z2, z3, z4⟩ := KK.out wa4 (HA4.out))
    | (go_at_call 44; refine (ER.out wa4 HA4.out).mono ?_; rintro e wb4 ⟨bb, cb, rfl, OB, dB⟩; have HB4 := hide (HA4.out.trans (dB.mono HA4.out.size)); have OA2 := hide (own_below OA.out dB); clear y0 y1 y2 y3 y4 z0 z1 z2 z3 z4; have ⟨⟨y0, y1, y2, y3, y4⟩, z0, z1, z2, z3, z4⟩ := KK.out wb4 (HB4.out)))
  clear OA dA dB EP ER
  go_upto_region 22 with (go_at_call 21; refine (NP.out wb4 HB4.out).mono ?_; rintro e w9 ⟨x1, kx1, x2, kx2, x3, kx3, rfl, OX, d9⟩)
  clear y0 y1 y2 y3 y4 z0 z1 z2 z3 z4
  obtain ⟨W9, hW⟩ : ∃ X, w9.alloc (.cells #[.int .i64 rN.n, .int .i64 rN.m, .slice x1 rN.s.length kx1, .slice x2 rN.f.length kx2, .slice x3 rN.e.length kx3] 25) = X := ⟨_, rfl⟩
  have G9 : Hid (W9.heap[w9.heap.size]? = some (.cells #[.int .i64 rN.n, .int .i64 rN.m, .slice x1 rN.s.length kx1, .slice x2 rN.f.length kx2, .slice x3 rN.e.length kx3] 25 (0, 0)) ∧ RdA W9 x1 x2 x3 rN.s rN.f rN.e ∧ RdN W9 ba rE.1 ∧ RdN W9 bb rE.1 ∧ Below Wb.heap.size Wb W9) := hide (by
    have dn : Below w9.heap.size w9 W9 := by rw [← hW]; exact alloc_below _ _
    have e1 := d9.trans (dn.mono d9.size)
    exact ⟨by rw [← hW]; exact World.alloc_heap_new _ _, (OX.out.on dn).rd, (own_rdN OA2.out).on e1, (own_rdN OB.out).on e1, HB4.out.trans (e1.mono HB4.out.size)⟩)
  rw [hW]
  clear hW OX d9 OA2 OB
  generalize w9.heap.size = px at G9 ⊢
  obtain ⟨⟨y0, y1, y2, y3, y4⟩, z0, z1, z2, z3, z4⟩ := KK.out W9 (G9.out.2.2.2.2)
  go_upto_region 23 with (go_at_call 32; refine (NR.out W9 G9.out.2.2.2.2).mono ?_; rintro e w10 ⟨v1, kv1, v2, kv2, v3, kv3, rfl, OV, d10⟩)
  clear y0 y1 y2 y3 y4 z0 z1 z2 z3 z4
  obtain ⟨W10, hW⟩ : ∃ X, w10.alloc (.cells #[.int .i64 rN.n, .int .i64 rN.m, .slice v1 rN.s.length kv1, .slice v2 rN.f.length kv2, .slice v3 rN.e.length kv3] 25) = X := ⟨_, rfl⟩
  have G10 : Hid (W10.heap[w10.heap.size]? = some (.cells #[.int .i64 rN.n, .int .i64 rN.m, .slice v1 rN.s.length kv1, .slice v2 rN.f.length kv2, .slice v3 rN.e.length kv3] 25 (0, 0)) ∧ W10.heap[px]? = some (.cells #[.int .i64 rN.n, .int .i64 rN.m, .slice x1 rN.s.length kx1, .slice x2 rN.f.length kx2, .slice x3 rN.e.length kx3] 25 (0, 0)) ∧ RdA W10 v1 v2 v3 rN.s rN.f rN.e ∧ RdA W10 x1 x2 x3 rN.s rN.f rN.e ∧ RdN W10 ba rE.1 ∧ RdN W10 bb rE.1 ∧ Below Wb.heap.size Wb W10) := hide (by
    have dn : Below w10.heap.size w10 W10 := by rw [← hW]; exact alloc_below _ _
    have e1 := d10.trans (dn.mono d10.size)
    exact ⟨by rw [← hW]; exact World.alloc_heap_new _ _, blk_on G9.out.1 e1, (OV.out.on dn).rd, G9.out.2.1.on e1, G9.out.2.2.1.on e1, G9.out.2.2.2.1.on e1, G9.out.2.2.2.2.trans (e1.mono G9.out.2.2.2.2.size)⟩)
  rw [hW]
  clear hW OV d10 G9 NP NR
  generalize w10.heap.size = pv at G10 ⊢
  have n0 : (rE.2 != rE.2) = false := by simp
  have n1 : (rN.er != rN.er) = false := by simp
  go_upto_region 25 with (first
    | (go_at_call 20; refine (same_same W10 ba bb rE.1 ca cb (hide G10.out.2.2.2.2.1) (hide G10.out.2.2.2.2.2.1) HLE.out).mono ?_; rintro e w11 ⟨rfl, d11⟩; have H11 := hide (And.intro d11 (And.intro (blk_on G10.out.1 d11) (blk_on G10.out.2.1 d11))); clear d11; have y0 : w11.cell? ⟨px, 0, none⟩ = some (.int .i64 rN.n) := cell_of H11.out.2.2 rfl; have y1 : w11.cell? ⟨px, 1, none⟩ = some (.int .i64 rN.m) := cell_of H11.out.2.2 rfl; have y2 : w11.cell? ⟨px, 2, none⟩ = some (.slice x1 rN.s.length kx1) := cell_of H11.out.2.2 rfl; have y3 : w11.cell? ⟨px, 3, none⟩ = some (.slice x2 rN.f.length kx2) := cell_of H11.out.2.2 rfl; have y4 : w11.cell? ⟨px, 4, none⟩ = some (.slice x3 rN.e.length kx3) := cell_of H11.out.2.2 rfl; have z0 : w11.cell? ⟨pv, 0, none⟩ = some (.int .i64 rN.n) := cell_of H11.out.2.1 rfl; have z1 : w11.cell? ⟨pv, 1, none⟩ = some (.int .i64 rN.m) := cell_of H11.out.2.1 rfl; have z2 : w11.cell? ⟨pv, 2, none⟩ = some (.slice v1 rN.s.length kv1) := cell_of H11.out.2.1 rfl; have z3 : w11.cell? ⟨pv, 3, none⟩ = some (.slice v2 rN.f.length kv2) := cell_of H11.out.2.1 rfl; have z4 : w11.cell? ⟨pv, 4, none⟩ = some (.slice v3 rN.e.length kv3) := cell_of H11.out.2.1 rfl)
    | (go_at_call 25; refine (equal_yes w11 rN.n rN.m _ _ _ _ _ _ _ _ _ _ _ _ rN.s rN.f rN.e (hide (G10.out.2.2.2.1.on H11.out.1)) (hide (G10.out.2.2.1.on H11.out.1)) HLN.out.1 HLN.out.2.1 HLN.out.2.2).mono ?_; rintro e w12 ⟨rfl, d12⟩; have H12 := hide (G10.out.2.2.2.2.2.2.trans ((H11.out.1.trans (d12.mono H11.out.1.size)).mono G10.out.2.2.2.2.2.2.size)); clear d12 y0 y1 y2 y3 y4 z0 z1 z2 z3 z4))
  clear n0 n1 G10 H11 HLE HLN
  obtain ⟨⟨y0, y1, y2, y3, y4⟩, z0, z1, z2, z3, z4⟩ := KK.out w12 (H12.out)
  have b0 : (rF.2 == rF.2) = true := by simp
  have b1 : (rH.2 == rH.2) = true := by simp
  have b2 : (rF.1 == rF.1) = true := by simp
  have b3 : (rH.1 == rH.1) = true := by simp
  go_wp2_with (first
    | (go_at_call 9; refine (FP.out w12 H12.out).mono ?_; rintro e w13 ⟨rfl, d13⟩; have H13 := hide (H12.out.trans (d13.mono H12.out.size)); clear d13 y0 y1 y2 y3 y4 z0 z1 z2 z3 z4; have ⟨⟨y0, y1, y2, y3, y4⟩, z0, z1, z2, z3, z4⟩ := KK.out w13 (H13.out))
    | (go_at_call 45; refine (FR.out w13 H13.out).mono ?_; rintro e w14 ⟨rfl, d14⟩; have H14 := hide (H13.out.trans (d14.mono H13.out.size)); clear d14 y0 y1 y2 y3 y4 z0 z1 z2 z3 z4; have ⟨⟨y0, y1, y2, y3, y4⟩, z0, z1, z2, z3, z4⟩ := KK.out w14 (H14.out))
    | (go_at_call 13; refine (HP.out w14 H14.out).mono ?_; rintro e w15 ⟨rfl, d15⟩; have H15 := hide (H14.out.trans (d15.mono H14.out.size)); clear d15 y0 y1 y2 y3 y4 z0 z1 z2 z3 z4; have ⟨⟨y0, y1, y2, y3, y4⟩, z0, z1, z2, z3, z4⟩ := KK.out w15 (H15.out))
    | (go_at_call 46; refine (HR.out w15 H15.out).mono ?_; rintro e w16 ⟨rfl, d16⟩; have H16 := hide (H15.out.trans (d16.mono H15.out.size)); clear d16 y0 y1 y2 y3 y4 z0 z1 z2 z3 z4))
  refine bodyPost_ret (results_tmp rfl _ _ _) rfl ?_
  exact ⟨rfl, hide (GB.out.2.2.1.on H16.out), hide (GB.out.2.2.2.2.2.2.2.2.2.trans (Only.ofBelow H16.out))⟩
end Go.Proofs.YtfoahpideglghaaGreatDoor
