import Derived.Test.YtfoahpideglghaaGreatDoorEq
import Derived.Test.YtfoahpideglghaaGreatDoorLH
import Derived.Test.YtfoahpideglghaaGreatDoorZB
import Derived.Test.YtfoahpideglghaaGreatDoorBW
namespace Go.Proofs.YtfoahpideglghaaGreatDoor
open Go.RowKit Go.Maps Go.Shelf
attribute [local go_sem] Oper.semAt_some

/-! ### The law's intact, untouched -/
theorem mrk_at {i : Nat} (h : i < 70) (L : List Int) : ((L ++ mrk 70).map (Value.int .i64))[L.length + i]? = some (.int .i64 (-1000 - (i : Int))) := by
  rw [List.getElem?_map, List.getElem?_append_right (by omega), Nat.add_sub_cancel_left]
  unfold mrk
  rw [List.getElem?_map, List.getElem?_range h]
  rfl
set_option maxRecDepth 100000 in
theorem intact_yes (w : World) (B g c : Nat) (ao : Option Addr) (L : List Int) (ca : Nat) (hm : Hid (Mk B w g c L)) (hr : Hid (RdN w ao L)) (hl : L.length ≤ 4194304) :
    Calls Tryz.prog 31 #[.slice (some ⟨g, 0, none⟩) L.length c, .slice ao L.length ca] w fun e w' => e = .returned (.bool true) ∧ Below w.heap.size w w' := by
  have T := sameInts_any w (some ⟨g, 0, none⟩) ao L L c ca (hide hm.out.rd) hr hl hl
  rw [decide_eq_true (show L = L from rfl)] at T
  have hle := hm.out.le
  have iw0 : IntKind.i64.wrap ((L.length : Int) + 70) = ((L.length + 70 : Nat) : Int) := by rw [IntKind.wrap_i64]; omega
  have c0 : ((L.length + 70 : Nat) : Int) ≤ (c : Int) := by omega
  have c1 : (0 : Int) ≤ ((L.length + 70 : Nat) : Int) := by omega
  obtain ⟨M, hM⟩ : ∃ M, L.length + 70 = M := ⟨_, rfl⟩
  rw [hM] at iw0 c0 c1
  have HM := hide hM
  clear hM hle
  go_enter Tryz.func31, Tryz.ntmps31
  go_wp2_with (go_at_call 20; refine T.mono ?_; rintro e wa ⟨rfl, d1⟩; have HD := hide d1; have HK := hide (hm.out.on d1 hm.out.lt.2); clear d1)
  go_loopw [6] (fun iv wr => ∃ i : Nat, i ≤ 70 ∧ iv = .int .i64 i ∧ wr = wa) (fun iv _ => 70 - (intOf iv).toNat)
  case atStart => exact ⟨0, Nat.zero_le _, rfl, rfl⟩
  case round =>
    obtain ⟨i, hi, rfl, hw⟩ := hrel
    obtain rfl := hw.symm
    clear hw
    by_cases hlt : i < 70
    · have l0 : (i : Int) < 70 := by omega
      have iw1 : IntKind.i64.wrap ((i : Int) + 1) = (i : Int) + 1 := by rw [IntKind.wrap_i64]; omega
      have iw2 : IntKind.i64.wrap ((L.length : Int) + (i : Int)) = ((L.length + i : Nat) : Int) := by rw [IntKind.wrap_i64]; omega
      have iw3 : IntKind.i64.wrap (-1000 - (i : Int)) = -1000 - (i : Int) := by rw [IntKind.wrap_i64]; omega
      have q := own_get HK.out.rw (j := L.length + i) (mrk_at hlt L)
      obtain ⟨J, hJ⟩ : ∃ J, L.length + i = J := ⟨_, rfl⟩
      rw [hJ] at q iw2
      have j0 : (J : Int) < (M : Int) := by have := HM.out; omega
      have j1 : (0 : Int) ≤ (J : Int) := by omega
      clear hJ
      go_wp2_with fail
      go_roundw
      case rel => exact ⟨i + 1, by omega, by go_num, by simp⟩
      case measure => simp [intOf]; omega
    · have l0 : ¬ (i : Int) < 70 := by omega
      go_wp2_with fail
      refine bodyPost_ret (results_tmp rfl _ _ _) rfl ?_
      exact ⟨rfl, HD.out⟩
theorem mrkE_at {i : Nat} (h : i < 70) (L : List EdT) : ((L ++ mrkE 70).flatMap encE)[(L.length + i) * 3]? = some (.int .i64 (-1000 - (i : Int))) ∧ ((L ++ mrkE 70).flatMap encE)[(L.length + i) * 3 + 1]? = some (.int .i64 0) ∧ ((L ++ mrkE 70).flatMap encE)[(L.length + i) * 3 + 2]? = some (.int .i64 0) := by
  have hl : L.length + i < (L ++ mrkE 70).length := by simp [mrkE]; omega
  have e : (L ++ mrkE 70)[L.length + i] = (-1000 - (i : Int), 0, 0) := by
    rw [List.getElem_append_right (by omega)]
    simp [mrkE]
  have f0 := flat_get encE 3 encE_len (L ++ mrkE 70) (L.length + i) 0 hl (by omega)
  have f1 := flat_get encE 3 encE_len (L ++ mrkE 70) (L.length + i) 1 hl (by omega)
  have f2 := flat_get encE 3 encE_len (L ++ mrkE 70) (L.length + i) 2 hl (by omega)
  rw [e] at f0 f1 f2
  exact ⟨f0, f1, f2⟩
set_option maxRecDepth 100000 in
set_option maxHeartbeats 4000000 in
theorem untouched_yes (w : World) (B : Nat) (n m : Int) (g1 k1 g2 k2 g3 k3 : Nat) (a1 a2 a3 : Option Addr) (c1 c2 c3 : Nat) (St Fi : List Int) (Ed : List EdT) (hm : Hid (TwA B w g1 k1 g2 k2 g3 k3 St Fi Ed)) (hr : Hid (RdA w a1 a2 a3 St Fi Ed)) (h1 : St.length ≤ 4194304) (h2 : Fi.length ≤ 4194304) (h3 : Ed.length ≤ 4194304) :
    Calls Tryz.prog 30 #[.agg #[.int .i64 n, .int .i64 m, .slice (some ⟨g1, 0, none⟩) St.length k1, .slice (some ⟨g2, 0, none⟩) Fi.length k2, .slice (some ⟨g3, 0, none⟩) Ed.length k3], .agg #[.int .i64 n, .int .i64 m, .slice a1 St.length c1, .slice a2 Fi.length c2, .slice a3 Ed.length c3]] w fun e w' => e = .returned (.bool true) ∧ Below w.heap.size w w' := by
  obtain ⟨W0, hW0⟩ : ∃ W0, (w.alloc (.cells #[.int .i64 n, .int .i64 m, .slice (some ⟨g1, 0, none⟩) St.length k1, .slice (some ⟨g2, 0, none⟩) Fi.length k2, .slice (some ⟨g3, 0, none⟩) Ed.length k3] 25)).alloc (.cells #[.int .i64 n, .int .i64 m, .slice a1 St.length c1, .slice a2 Fi.length c2, .slice a3 Ed.length c3] 25) = W0 := ⟨_, rfl⟩
  have HD := hide (box2 w #[.int .i64 n, .int .i64 m, .slice (some ⟨g1, 0, none⟩) St.length k1, .slice (some ⟨g2, 0, none⟩) Fi.length k2, .slice (some ⟨g3, 0, none⟩) Ed.length k3] #[.int .i64 n, .int .i64 m, .slice a1 St.length c1, .slice a2 Fi.length c2, .slice a3 Ed.length c3] 25)
  rw [hW0] at HD
  have SK : Hid (∀ W, Below W0.heap.size W0 W → W.cell? ⟨w.heap.size, 0, none⟩ = some (.int .i64 n) ∧ W.cell? ⟨w.heap.size, 1, none⟩ = some (.int .i64 m) ∧ W.cell? ⟨w.heap.size, 2, none⟩ = some (.slice (some ⟨g1, 0, none⟩) St.length k1) ∧ W.cell? ⟨w.heap.size, 3, none⟩ = some (.slice (some ⟨g2, 0, none⟩) Fi.length k2) ∧ W.cell? ⟨w.heap.size, 4, none⟩ = some (.slice (some ⟨g3, 0, none⟩) Ed.length k3) ∧ W.cell? ⟨w.heap.size + 1, 0, none⟩ = some (.int .i64 n) ∧ W.cell? ⟨w.heap.size + 1, 1, none⟩ = some (.int .i64 m) ∧ W.cell? ⟨w.heap.size + 1, 2, none⟩ = some (.slice a1 St.length c1) ∧ W.cell? ⟨w.heap.size + 1, 3, none⟩ = some (.slice a2 Fi.length c2) ∧ W.cell? ⟨w.heap.size + 1, 4, none⟩ = some (.slice a3 Ed.length c3)) := hide (fun W d => by
    have e := blk_on HD.out.2.1 d
    have f := blk_on HD.out.2.2.1 d
    exact ⟨cell_of e rfl, cell_of e rfl, cell_of e rfl, cell_of e rfl, cell_of e rfl, cell_of f rfl, cell_of f rfl, cell_of f rfl, cell_of f rfl, cell_of f rfl⟩)
  have KT : Hid (∀ W, Below W0.heap.size W0 W → TwA B W g1 k1 g2 k2 g3 k3 St Fi Ed ∧ RdA W a1 a2 a3 St Fi Ed) := hide (fun W d => ⟨(hm.out.on HD.out.1).on d, (hr.out.on HD.out.1).on d⟩)
  have T25 := equal_yes W0 n m (some ⟨g1, 0, none⟩) (some ⟨g2, 0, none⟩) (some ⟨g3, 0, none⟩) a1 a2 a3 k1 k2 k3 c1 c2 c3 St Fi Ed (hide (KT.out W0 (Below.refl _ _)).1.rd) (hide (KT.out W0 (Below.refl _ _)).2) h1 h2 h3
  have TS : Hid (∀ W, Below W0.heap.size W0 W → Calls Tryz.prog 31 #[.slice (some ⟨g1, 0, none⟩) St.length k1, .slice a1 St.length c1] W fun e w' => e = .returned (.bool true) ∧ Below W0.heap.size W0 w') := hide (fun W d => (intact_yes W B g1 k1 a1 St c1 (hide (KT.out W d).1.s) (hide (KT.out W d).2.s) h1).mono fun e w' ⟨h, dd⟩ => ⟨h, d.trans (dd.mono d.size)⟩)
  have TF : Hid (∀ W, Below W0.heap.size W0 W → Calls Tryz.prog 31 #[.slice (some ⟨g2, 0, none⟩) Fi.length k2, .slice a2 Fi.length c2] W fun e w' => e = .returned (.bool true) ∧ Below W0.heap.size W0 w') := hide (fun W d => (intact_yes W B g2 k2 a2 Fi c2 (hide (KT.out W d).1.f) (hide (KT.out W d).2.f) h2).mono fun e w' ⟨h, dd⟩ => ⟨h, d.trans (dd.mono d.size)⟩)
  have hle := hm.out.e.le
  have iw0 : IntKind.i64.wrap ((Ed.length : Int) + 70) = ((Ed.length + 70 : Nat) : Int) := by rw [IntKind.wrap_i64]; omega
  have c0 : ((Ed.length + 70 : Nat) : Int) ≤ (k3 : Int) := by omega
  have c1' : (0 : Int) ≤ ((Ed.length + 70 : Nat) : Int) := by omega
  obtain ⟨M, hM⟩ : ∃ M, Ed.length + 70 = M := ⟨_, rfl⟩
  rw [hM] at iw0 c0 c1'
  have HM := hide hM
  clear hM hle
  obtain ⟨y0, y1, y2, y3, y4, z0, z1, z2, z3, z4⟩ := SK.out W0 (Below.refl _ _)
  go_enter Tryz.func30, Tryz.ntmps30
  go_upto_region 3 with (first
    | (go_at_call 25; refine T25.mono ?_; rintro e wa ⟨rfl, D1⟩; clear y0 y1 y2 y3 y4 z0 z1 z2 z3 z4; obtain ⟨y0, y1, y2, y3, y4, z0, z1, z2, z3, z4⟩ := SK.out wa D1)
    | (go_at_call_of 31 g1; refine (TS.out _ D1).mono ?_; rintro e wb ⟨rfl, D2⟩; clear y0 y1 y2 y3 y4 z0 z1 z2 z3 z4; obtain ⟨y0, y1, y2, y3, y4, z0, z1, z2, z3, z4⟩ := SK.out wb D2)
    | (go_at_call_of 31 g2; refine (TF.out _ D2).mono ?_; rintro e wc ⟨rfl, D3⟩; clear y0 y1 y2 y3 y4 z0 z1 z2 z3 z4; obtain ⟨y0, y1, y2, y3, y4, z0, z1, z2, z3, z4⟩ := SK.out wc D3))
  have HD3 := hide D3
  clear D1 D2 D3 T25 TS TF
  go_wp2_with fail
  go_loopw [6] (fun iv wr => ∃ i : Nat, i ≤ 70 ∧ iv = .int .i64 i ∧ wr = wc) (fun iv _ => 70 - (intOf iv).toNat)
  case atStart => exact ⟨0, Nat.zero_le _, rfl, rfl⟩
  case round =>
    obtain ⟨i, hi, rfl, hw⟩ := hrel
    obtain rfl := hw.symm
    clear hw
    by_cases hlt : i < 70
    · have l0 : (i : Int) < 70 := by omega
      have iw1 : IntKind.i64.wrap ((i : Int) + 1) = (i : Int) + 1 := by rw [IntKind.wrap_i64]; omega
      have iw2 : IntKind.i64.wrap ((Ed.length : Int) + (i : Int)) = ((Ed.length + i : Nat) : Int) := by rw [IntKind.wrap_i64]; omega
      have iw3 : IntKind.i64.wrap (-1000 - (i : Int)) = -1000 - (i : Int) := by rw [IntKind.wrap_i64]; omega
      obtain ⟨q1, q2, q3⟩ := mrkE_at hlt Ed
      have q1 := own_get (KT.out _ HD3.out).1.e.rw q1
      have q2 := own_get (KT.out _ HD3.out).1.e.rw q2
      have q3 := own_get (KT.out _ HD3.out).1.e.rw q3
      obtain ⟨J, hJ⟩ : ∃ J, Ed.length + i = J := ⟨_, rfl⟩
      rw [hJ] at q1 q2 q3 iw2
      have j0 : (J : Int) < (M : Int) := by have := HM.out; omega
      have j1 : (0 : Int) ≤ (J : Int) := by omega
      clear hJ
      go_wp2_with fail
      go_roundw
      case rel => exact ⟨i + 1, by omega, by go_num, by simp⟩
      case measure => simp [intOf]; omega
    · have l0 : ¬ (i : Int) < 70 := by omega
      go_wp2_with fail
      refine bodyPost_ret (results_tmp rfl _ _ _) rfl ?_
      exact ⟨rfl, HD.out.1.trans (HD3.out.mono HD.out.1.size)⟩
end Go.Proofs.YtfoahpideglghaaGreatDoor
namespace Go.Proofs.YtfoahpideglghaaGreatDoor
open Go.RowKit Go.Maps Go.Shelf
attribute [local go_sem] Oper.semAt_some

/-! ### The law's on, onward -/
def onF (n x : Int) : Int := if x < 0 ∨ n ≤ x then x else (wrap64 (x + 1)).tmod n
set_option maxRecDepth 100000 in
theorem on_any (w : World) (x n : Int) : Calls Tryz.prog 75 #[.int .i64 x, .int .i64 n] w fun e w' => e = .returned (.int .i64 (onF n x)) ∧ w' = w := by
  obtain ⟨y, hy⟩ : ∃ y, onF n x = y := ⟨_, rfl⟩
  rw [hy]
  have HY := hide hy
  clear hy
  go_enter Tryz.func75, Tryz.ntmps75
  by_cases h0 : x < 0
  · have HE : Hid (x = y) := hide (by rw [← HY.out]; unfold onF; rw [if_pos (Or.inl h0)])
    go_wp2
    refine bodyPost_ret (results_tmp rfl _ _ _) rfl ?_
    exact ⟨by rw [← HE.out]; rfl, rfl⟩
  · by_cases h1 : x ≥ n
    · have HE : Hid (x = y) := hide (by rw [← HY.out]; unfold onF; rw [if_pos (Or.inr h1)])
      go_wp2
      refine bodyPost_ret (results_tmp rfl _ _ _) rfl ?_
      exact ⟨by rw [← HE.out]; rfl, rfl⟩
    · have HE : Hid ((wrap64 (x + 1)).tmod n = y) := hide (by rw [← HY.out]; unfold onF; rw [if_neg (by omega)])
      have hn : ¬ n = 0 := by omega
      have hn2 : (n == 0) = false := by simpa using hn
      go_wp2
      refine bodyPost_ret (results_tmp rfl _ _ _) rfl ?_
      exact ⟨by rw [← HE.out]; rfl, rfl⟩
theorem mixM_get (f : Int → Int) (L M : List Int) (i : Nat) (h : i < L.length) : ((mixG f L i ++ M).map (Value.int .i64))[i]? = some (.int .i64 L[i]) := by
  rw [List.getElem?_map, List.getElem?_append_left (by rw [mixG_len]; exact h), mixG_get f L i h]
  rfl
theorem mixM_set (f : Int → Int) (L M : List Int) (i : Nat) (h : i < L.length) : ((mixG f L i ++ M).map (Value.int .i64)).set i (.int .i64 (f L[i])) = (mixG f L (i + 1) ++ M).map (Value.int .i64) := by
  rw [← mixG_set f L i h, ← List.set_append_left _ _ (by rw [mixG_len]; exact h), List.map_set]
set_option maxRecDepth 100000 in
theorem onward_any (w : World) (B g c : Nat) (L : List Int) (n : Int) (hm : Hid (Mk B w g c L)) (hl : L.length ≤ 4194304) :
    Calls Tryz.prog 38 #[.slice (some ⟨g, 0, none⟩) L.length c, .int .i64 n] w fun e w' => e = .returned (.tuple #[]) ∧ Hid (Mk B w' g c (L.map (onF n))) ∧ Hid (Only w w' (fun k => k = g)) := by
  go_enter Tryz.func38, Tryz.ntmps38
  go_wp2
  go_loopw [4] (fun iv wr => ∃ i : Nat, i ≤ L.length ∧ iv = .int .i64 i ∧ Hid (wr.ownsRow B 3 1 (.slice (some ⟨g, 0, none⟩) (L.length + 70) c) (L.length + 70) ((mixG (onF n) L i ++ mrk 70).map (Value.int .i64)) ∧ Only w wr (fun k => k = g))) (fun iv _ => L.length - (intOf iv).toNat)
  case atStart => exact ⟨0, Nat.zero_le _, rfl, hide ⟨by rw [mixG_zero]; exact hm.out.rw, ⟨rfl, rfl, rfl, Nat.le_refl _, fun _ _ _ => rfl⟩⟩⟩
  case round =>
    obtain ⟨i, hi, rfl, HY⟩ := hrel
    by_cases hlt : i < L.length
    · have l0 : (i : Int) < (L.length : Int) := by omega
      have l1 : (0 : Int) ≤ (i : Int) := by omega
      have iw1 : IntKind.i64.wrap ((i : Int) + 1) = (i : Int) + 1 := by rw [IntKind.wrap_i64]; omega
      have q := own_get HY.out.1 (mixM_get (onF n) L (mrk 70) i hlt)
      have f := own_fz HY.out.1 i
      have HS := hide (row1_set HY.out.1 i (.int .i64 (onF n L[i])))
      have HO := hide (HY.out.2.trans (only_set wr g i (.int .i64 (onF n L[i]))))
      rw [mixM_set (onF n) L (mrk 70) i hlt] at HS
      have T := on_any wr L[i] n
      generalize L[i] = x at q T HS HO
      generalize onF n x = y at T HS HO
      go_wp2_with (go_at_call 75; refine T.mono ?_; rintro e wa ⟨rfl, hw⟩; obtain rfl := hw.symm; clear hw)
      go_roundw
      case rel => exact ⟨i + 1, by omega, by go_num, hide ⟨HS.out, HO.out⟩⟩
      case measure => simp [intOf]; omega
    · have l0 : ¬ (i : Int) < (L.length : Int) := by omega
      obtain rfl : i = L.length := by omega
      have HS : Hid (Mk B wr g c (L.map (onF n))) := hide ⟨by rw [List.length_map]; exact hm.out.le, by have := HY.out.1; rw [mixG_full] at this; rw [List.length_map]; exact this⟩
      go_wp2_with fail
      go_end0
      exact ⟨rfl, HS, hide HY.out.2⟩
/-- An edge, its end one on. -/
def toE (n : Int) (e : EdT) : EdT := (e.1, e.2.1, onF n e.2.2)
theorem mixE_len (f : EdT → EdT) (L : List EdT) (i : Nat) : (mixG f L i ++ mrkE 70).length = L.length + 70 := by rw [List.length_append, mixG_len]; simp [mrkE]
theorem rowE_to {W : World} {B b cap : Nat} {X : List EdT} (h : W.ownsRow B 59 3 (.slice (some ⟨b, 0, none⟩) X.length cap) X.length (X.flatMap encE)) (j : Nat) (z : Int) (hj : j < X.length) :
    (W.setCell ⟨b, j * 3 + 2, none⟩ (.int .i64 z)).ownsRow B 59 3 (.slice (some ⟨b, 0, none⟩) (X.set j (X[j].1, X[j].2.1, z)).length cap) (X.set j (X[j].1, X[j].2.1, z)).length ((X.set j (X[j].1, X[j].2.1, z)).flatMap encE) := by
  refine ⟨by rw [flatE_len], ?_⟩
  rcases h.2 with ⟨z, _⟩ | ⟨g, cap', cur, e, hb, hg, hn, hc, hs, ht⟩
  · cases z
  · cases e
    refine .inr ⟨b, cap, _, rfl, hb, heap_setCell_same _ _ _ _ 59 _ hg, by rw [List.length_set]; exact hn, hc, by simpa using hs, ?_⟩
    rw [List.length_set]
    apply List.ext_getElem?
    intro t
    have hcz : X.length * 3 ≤ cur.size := by rw [hs]; exact Nat.mul_le_mul_right 3 hn
    by_cases hq : t / 3 < X.length
    · have htl : t < X.length * 3 := by omega
      have old : cur[t]? = (encE X[t / 3])[t % 3]? := by rw [← flatE_at X t hq, ← ht, List.getElem?_take_of_lt htl, Array.getElem?_toList]
      rw [List.getElem?_take_of_lt htl, flatE_at _ t (by rw [List.length_set]; exact hq), List.getElem_set, Array.getElem?_toList]
      simp only [Array.getElem?_setIfInBounds]
      by_cases hjq : j = t / 3
      · rw [if_pos hjq]
        subst hjq
        have : t = t / 3 * 3 ∨ t = t / 3 * 3 + 1 ∨ t = t / 3 * 3 + 2 := by omega
        rcases this with h5 | h5 | h5
        · rw [if_neg (by omega), old, show t % 3 = 0 by omega]; rfl
        · rw [if_neg (by omega), old, show t % 3 = 1 by omega]; rfl
        · rw [if_pos (by omega), if_pos (by omega), show t % 3 = 2 by omega]; rfl
      · rw [if_neg hjq, if_neg (by omega), old]
    · rw [flatE_none _ t (by rw [List.length_set]; exact hq), List.getElem?_take_eq_none (by omega)]
theorem twA_keep {B p : Nat} {w w' : World} {g1 k1 g2 k2 g3 k3 : Nat} {S F : List Int} {E : List EdT} {cs : Array Value} (h : TwA B w g1 k1 g2 k2 g3 k3 S F E) (z : w.heap[p]? = some (.cells cs 25 (0, 0))) (o : Only w w' (fun k => k = p)) : TwA B w' g1 k1 g2 k2 g3 k3 S F E :=
  ⟨h.s.only o (row_box h.s.rw z (by decide)), h.f.only o (row_box h.f.rw z (by decide)), h.e.only o (row_box h.e.rw z (by decide)), h.n12, h.n13, h.n23⟩
theorem twA_down {B C : Nat} {w : World} {g1 k1 g2 k2 g3 k3 : Nat} {S F : List Int} {E : List EdT} (h : TwA C w g1 k1 g2 k2 g3 k3 S F E) (hB : B ≤ C) : TwA B w g1 k1 g2 k2 g3 k3 S F E := ⟨h.s.down hB, h.f.down hB, h.e.down hB, h.n12, h.n13, h.n23⟩
set_option maxRecDepth 100000 in
set_option maxHeartbeats 4000000 in
theorem moved_any (w : World) (B : Nat) (n m : Int) (g1 k1 g2 k2 g3 k3 : Nat) (St Fi : List Int) (Ed : List EdT) (hm : Hid (TwA B w g1 k1 g2 k2 g3 k3 St Fi Ed)) (hB : B ≤ w.heap.size) (h1 : St.length ≤ 4194304) (h2 : Fi.length ≤ 4194304) (h3 : Ed.length ≤ 4194304) :
    Calls Tryz.prog 37 #[.agg #[.int .i64 n, .int .i64 m, .slice (some ⟨g1, 0, none⟩) St.length k1, .slice (some ⟨g2, 0, none⟩) Fi.length k2, .slice (some ⟨g3, 0, none⟩) Ed.length k3]] w fun e w' => ∃ p1 j1 p2 j2 p3 j3, e = .returned (.agg #[.int .i64 n, .int .i64 m, .slice (some ⟨p1, 0, none⟩) St.length j1, .slice (some ⟨p2, 0, none⟩) Fi.length j2, .slice (some ⟨p3, 0, none⟩) Ed.length j3]) ∧ Hid (TwA w.heap.size w' p1 j1 p2 j2 p3 j3 (St.map (onF n)) (Fi.map (onF n)) (Ed.map (toE n))) ∧ Hid (TwA B w' g1 k1 g2 k2 g3 k3 (St.map (onF n)) (Fi.map (onF n)) (Ed.map (toE n))) ∧ Hid (Below B w w') ∧ Hid (Only w w' (fun k => k = g1 ∨ k = g2 ∨ k = g3)) := by
  obtain ⟨W0, hW0⟩ : ∃ W0, (w.alloc (.cells #[.int .i64 n, .int .i64 m, .slice (some ⟨g1, 0, none⟩) St.length k1, .slice (some ⟨g2, 0, none⟩) Fi.length k2, .slice (some ⟨g3, 0, none⟩) Ed.length k3] 25)).alloc (.cells #[.int .i64 0, .int .i64 0, .slice none 0 0, .slice none 0 0, .slice none 0 0] 25) = W0 := ⟨_, rfl⟩
  have HD := hide (box2 w #[.int .i64 n, .int .i64 m, .slice (some ⟨g1, 0, none⟩) St.length k1, .slice (some ⟨g2, 0, none⟩) Fi.length k2, .slice (some ⟨g3, 0, none⟩) Ed.length k3] #[.int .i64 0, .int .i64 0, .slice none 0 0, .slice none 0 0, .slice none 0 0] 25)
  rw [hW0] at HD
  have HT0 := hide (hm.out.on HD.out.1)
  have g1l := hm.out.s.lt
  have g2l := hm.out.f.lt
  have g3l := hm.out.e.lt
  have HGL := hide (And.intro g1l (And.intro g2l g3l))
  have SK : Hid (∀ W, Only W0 W (fun k => k = g1 ∨ k = g2 ∨ k = g3) → W.cell? ⟨w.heap.size, 0, none⟩ = some (.int .i64 n) ∧ W.cell? ⟨w.heap.size, 1, none⟩ = some (.int .i64 m) ∧ W.cell? ⟨w.heap.size, 2, none⟩ = some (.slice (some ⟨g1, 0, none⟩) St.length k1) ∧ W.cell? ⟨w.heap.size, 3, none⟩ = some (.slice (some ⟨g2, 0, none⟩) Fi.length k2) ∧ W.cell? ⟨w.heap.size, 4, none⟩ = some (.slice (some ⟨g3, 0, none⟩) Ed.length k3)) := hide (fun W o => by
    have e := o.cellK HD.out.2.1 (by omega)
    exact ⟨cell_of e rfl, cell_of e rfl, cell_of e rfl, cell_of e rfl, cell_of e rfl⟩)
  clear g1l g2l g3l
  obtain ⟨y0, y1, y2, y3, y4⟩ := SK.out W0 ⟨rfl, rfl, rfl, Nat.le_refl _, fun _ _ _ => rfl⟩
  have T1 := onward_any W0 B g1 k1 St n (hide HT0.out.s) h1
  go_enter Tryz.func37, Tryz.ntmps37
  go_upto_region 2 with (go_at_call 38; refine T1.mono ?_; rintro e wa ⟨rfl, HS, HO1⟩)
  clear y0 y1 y2 y3 y4 T1
  have O1 : Hid (Only W0 wa (fun k => k = g1 ∨ k = g2 ∨ k = g3)) := hide (HO1.out.mono (fun k _ h => Or.inl h))
  have F1 := hide (HT0.out.f.only HO1.out (fun e => hm.out.n12 e.symm))
  have E1 := hide (HT0.out.e.only HO1.out (fun e => hm.out.n13 e.symm))
  obtain ⟨y0, y1, y2, y3, y4⟩ := SK.out wa O1.out
  have T2 := onward_any wa B g2 k2 Fi n F1 h2
  go_upto_region 3 with (go_at_call 38; refine T2.mono ?_; rintro e wb ⟨rfl, HF, HO2⟩)
  clear y0 y1 y2 y3 y4 T2
  have O2 : Hid (Only W0 wb (fun k => k = g1 ∨ k = g2 ∨ k = g3)) := hide (O1.out.trans (HO2.out.mono (fun k _ h => Or.inr (Or.inl h))))
  have S2 := hide (HS.out.only HO2.out hm.out.n12)
  have E2 := hide (E1.out.only HO2.out (fun e => hm.out.n23 e.symm))
  clear HS F1 E1 HO1 HO2 O1
  obtain ⟨y0, y1, y2, y3, y4⟩ := SK.out wb O2.out
  go_wp2_with fail
  go_loopw [3] (fun iv wr => ∃ i : Nat, i ≤ Ed.length ∧ iv = .int .i64 i ∧ Hid (wr.ownsRow B 59 3 (.slice (some ⟨g3, 0, none⟩) (Ed.length + 70) k3) (Ed.length + 70) ((mixG (toE n) Ed i ++ mrkE 70).flatMap encE) ∧ Only W0 wr (fun k => k = g1 ∨ k = g2 ∨ k = g3) ∧ Only wb wr (fun k => k = g3))) (fun iv _ => Ed.length - (intOf iv).toNat)
  case atStart => exact ⟨0, Nat.zero_le _, rfl, hide ⟨by rw [mixG_zero]; exact E2.out.rw, O2.out, ⟨rfl, rfl, rfl, Nat.le_refl _, fun _ _ _ => rfl⟩⟩⟩
  case round =>
    obtain ⟨i, hi, rfl, HY⟩ := hrel
    clear y0 y1 y2 y3 y4
    have HYO := hide (show wr.ownsRow B 59 3 (.slice (some ⟨g3, 0, none⟩) (mixG (toE n) Ed i ++ mrkE 70).length k3) (mixG (toE n) Ed i ++ mrkE 70).length ((mixG (toE n) Ed i ++ mrkE 70).flatMap encE) by rw [mixE_len]; exact HY.out.1)
    have HYB := hide HY.out.2.1
    have HYC := hide HY.out.2.2
    clear HY
    obtain ⟨y0, y1, y2, y3, y4⟩ := SK.out wr HYB.out
    by_cases hlt : i < Ed.length
    · have l0 : (i : Int) < (Ed.length : Int) := by omega
      have l1 : (0 : Int) ≤ (i : Int) := by omega
      have iw1 : IntKind.i64.wrap ((i : Int) + 1) = (i : Int) + 1 := by rw [IntKind.wrap_i64]; omega
      have hlm : i < (mixG (toE n) Ed i ++ mrkE 70).length := by rw [mixE_len]; omega
      have HXI : Hid ((mixG (toE n) Ed i ++ mrkE 70)[i] = Ed[i]) := hide (by
        rw [List.getElem_append_left (by rw [mixG_len]; exact hlt)]
        have := mixG_get (toE n) Ed i hlt
        rw [List.getElem?_eq_getElem (by rw [mixG_len]; exact hlt)] at this
        exact Option.some.inj this)
      have HG : Hid (((mixG (toE n) Ed i ++ mrkE 70).flatMap encE)[i * 3 + 2]? = some (.int .i64 Ed[i].2.2)) := hide (by
        have := flatE_at (mixG (toE n) Ed i ++ mrkE 70) (i * 3 + 2) (by rw [mixE_len]; omega)
        rw [this]
        simp only [show (i * 3 + 2) / 3 = i by omega, show (i * 3 + 2) % 3 = 2 by omega, HXI.out]
        rfl)
      have HT : Hid ((mixG (toE n) Ed i ++ mrkE 70).set i ((mixG (toE n) Ed i ++ mrkE 70)[i].1, (mixG (toE n) Ed i ++ mrkE 70)[i].2.1, onF n Ed[i].2.2) = mixG (toE n) Ed (i + 1) ++ mrkE 70) := hide (by
        rw [HXI.out, List.set_append_left _ _ (by rw [mixG_len]; exact hlt), ← mixG_set (toE n) Ed i hlt]
        rfl)
      have q2 := own_get HYO.out (j := i * 3 + 2) HG.out
      clear HXI
      generalize Ed[i] = x at HG HT q2
      go_upto_region 6 with fail
      clear y0 y1 y2 y3 y4
      have hmo : MonIL 0 [vI 0 (.pointer (some ⟨w.heap.size, 4, none⟩)), vI 1 (.slice (some ⟨g3, 0, none⟩) Ed.length k3), vI 2 (.int .i64 i), vI 3 (.pointer (some ⟨w.heap.size, 4, none⟩)), vI 4 (.slice (some ⟨g3, 0, none⟩) Ed.length k3), vI 5 (.int .i64 i), vI 6 (.pointer (some ⟨g3, i * 3, none⟩)), vI 7 (.pointer (some ⟨g3, i * 3 + 2, none⟩)), vI 8 (.int .i64 x.2.2), vI 9 (.pointer (some ⟨w.heap.size, 0, none⟩)), vI 10 (.int .i64 n), vI 11 (.int .i64 (onF n x.2.2))] := ⟨vI_mono _ _, vI_mono _ _, vI_mono _ _, vI_mono _ _, vI_mono _ _, vI_mono _ _, vI_mono _ _, vI_mono _ _, vI_mono _ _, vI_mono _ _, vI_mono _ _, vI_mono _ _, trivial⟩
      refine wp_region_sl [vI 0 (.pointer (some ⟨w.heap.size, 4, none⟩)), vI 1 (.slice (some ⟨g3, 0, none⟩) Ed.length k3), vI 2 (.int .i64 i), vI 3 (.pointer (some ⟨w.heap.size, 4, none⟩)), vI 4 (.slice (some ⟨g3, 0, none⟩) Ed.length k3), vI 5 (.int .i64 i), vI 6 (.pointer (some ⟨g3, i * 3, none⟩)), vI 7 (.pointer (some ⟨g3, i * 3 + 2, none⟩)), vI 8 (.int .i64 x.2.2), vI 9 (.pointer (some ⟨w.heap.size, 0, none⟩)), vI 10 (.int .i64 n), vI 11 (.int .i64 (onF n x.2.2))] (by kernel_rfl) (by kernel_rfl) (by kernel_rfl) (by kernel_rfl) hmo ⟨?o0, ?o1, ?o2, ?o3, ?o4, ?o5, ?o6, ?o7, ?o8, ?o9, ?o10, ?o11, trivial⟩ ?fin
      case o0 =>
        intro At yy W hy hb d hd K hK
        have s1 : At.tmps.getD 1 undef = .pointer (some ⟨w.heap.size, 0, none⟩) := hb 1 rfl
        have s1' := s1
        rw [Array.getD_eq_getD_getElem?] at s1'
        clear hd hy hb
        go_simp
        exact hK.out _ W (stp_of hmo d (Below.refl _ _)) (if_pos rfl)
      case o1 =>
        intro At yy W hy hb d hd K hK
        have e0 : yy 0 = .pointer (some ⟨w.heap.size, 4, none⟩) := by obtain ⟨_, _, _, _, e⟩ := hd ⟨0, .data⟩ (by simp) rfl rfl; exact e
        have s21 := (hy 0 _ 21 rfl rfl).trans e0
        have s21' := s21
        rw [Array.getD_eq_getD_getElem?] at s21'
        clear hd hy hb
        obtain ⟨y0, y1, y2, y3, y4⟩ := SK.out W (HYB.out.andNew (Only.ofBelow (R := fun _ => False) d) (fun _ _ h => h.elim))
        go_simp
        exact hK.out _ W (stp_of hmo d (Below.refl _ _)) (if_pos rfl)
      case o2 =>
        intro At yy W hy hb d hd K hK
        have s3 : At.tmps.getD 3 undef = .int .i64 i := hb 3 rfl
        have s3' := s3
        rw [Array.getD_eq_getD_getElem?] at s3'
        clear hd hy hb
        go_simp
        exact hK.out _ W (stp_of hmo d (Below.refl _ _)) (if_pos rfl)
      case o3 =>
        intro At yy W hy hb d hd K hK
        have s1 : At.tmps.getD 1 undef = .pointer (some ⟨w.heap.size, 0, none⟩) := hb 1 rfl
        have s1' := s1
        rw [Array.getD_eq_getD_getElem?] at s1'
        clear hd hy hb
        go_simp
        exact hK.out _ W (stp_of hmo d (Below.refl _ _)) (if_pos rfl)
      case o4 =>
        intro At yy W hy hb d hd K hK
        have e3 : yy 3 = .pointer (some ⟨w.heap.size, 4, none⟩) := by obtain ⟨_, _, _, _, e⟩ := hd ⟨3, .data⟩ (by simp) rfl rfl; exact e
        have s24 := (hy 3 _ 24 rfl rfl).trans e3
        have s24' := s24
        rw [Array.getD_eq_getD_getElem?] at s24'
        clear hd hy hb
        obtain ⟨y0, y1, y2, y3, y4⟩ := SK.out W (HYB.out.andNew (Only.ofBelow (R := fun _ => False) d) (fun _ _ h => h.elim))
        go_simp
        exact hK.out _ W (stp_of hmo d (Below.refl _ _)) (if_pos rfl)
      case o5 =>
        intro At yy W hy hb d hd K hK
        have s3 : At.tmps.getD 3 undef = .int .i64 i := hb 3 rfl
        have s3' := s3
        rw [Array.getD_eq_getD_getElem?] at s3'
        clear hd hy hb
        go_simp
        exact hK.out _ W (stp_of hmo d (Below.refl _ _)) (if_pos rfl)
      case o6 =>
        intro At yy W hy hb d hd K hK
        have e4 : yy 4 = .slice (some ⟨g3, 0, none⟩) Ed.length k3 := by obtain ⟨_, _, _, _, e⟩ := hd ⟨4, .data⟩ (by simp) rfl rfl; exact e
        have e5 : yy 5 = .int .i64 i := by obtain ⟨_, _, _, _, e⟩ := hd ⟨5, .data⟩ (by simp) rfl rfl; exact e
        have s25 := (hy 4 _ 25 rfl rfl).trans e4
        have s25' := s25
        rw [Array.getD_eq_getD_getElem?] at s25'
        have s26 := (hy 5 _ 26 rfl rfl).trans e5
        have s26' := s26
        rw [Array.getD_eq_getD_getElem?] at s26'
        clear hd hy hb
        go_simp
        exact hK.out _ W (stp_of hmo d (Below.refl _ _)) (if_pos rfl)
      case o7 =>
        intro At yy W hy hb d hd K hK
        have e6 : yy 6 = .pointer (some ⟨g3, i * 3, none⟩) := by obtain ⟨_, _, _, _, e⟩ := hd ⟨6, .data⟩ (by simp) rfl rfl; exact e
        have s27 := (hy 6 _ 27 rfl rfl).trans e6
        have s27' := s27
        rw [Array.getD_eq_getD_getElem?] at s27'
        clear hd hy hb
        go_simp
        exact hK.out _ W (stp_of hmo d (Below.refl _ _)) (if_pos rfl)
      case o8 =>
        intro At yy W hy hb d hd K hK
        have e7 : yy 7 = .pointer (some ⟨g3, i * 3 + 2, none⟩) := by obtain ⟨_, _, _, _, e⟩ := hd ⟨7, .data⟩ (by simp) rfl rfl; exact e
        have s28 := (hy 7 _ 28 rfl rfl).trans e7
        have s28' := s28
        rw [Array.getD_eq_getD_getElem?] at s28'
        clear hd hy hb
        have q0 := (d.cell (p := ⟨g3, i * 3 + 2, none⟩) (World.block_lt_of_cell? wr _ q2)).trans q2
        go_simp
        exact hK.out _ W (stp_of hmo d (Below.refl _ _)) (if_pos rfl)
      case o9 =>
        intro At yy W hy hb d hd K hK
        have s1 : At.tmps.getD 1 undef = .pointer (some ⟨w.heap.size, 0, none⟩) := hb 1 rfl
        have s1' := s1
        rw [Array.getD_eq_getD_getElem?] at s1'
        clear hd hy hb
        go_simp
        exact hK.out _ W (stp_of hmo d (Below.refl _ _)) (if_pos rfl)
      case o10 =>
        intro At yy W hy hb d hd K hK
        have e9 : yy 9 = .pointer (some ⟨w.heap.size, 0, none⟩) := by obtain ⟨_, _, _, _, e⟩ := hd ⟨9, .data⟩ (by simp) rfl rfl; exact e
        have s30 := (hy 9 _ 30 rfl rfl).trans e9
        have s30' := s30
        rw [Array.getD_eq_getD_getElem?] at s30'
        clear hd hy hb
        obtain ⟨y0, y1, y2, y3, y4⟩ := SK.out W (HYB.out.andNew (Only.ofBelow (R := fun _ => False) d) (fun _ _ h => h.elim))
        go_simp
        exact hK.out _ W (stp_of hmo d (Below.refl _ _)) (if_pos rfl)
      case o11 =>
        intro At yy W hy hb d hd K hK
        have e8 : yy 8 = .int .i64 x.2.2 := by obtain ⟨_, _, _, _, e⟩ := hd ⟨8, .data⟩ (by simp) rfl rfl; exact e
        have e10 : yy 10 = .int .i64 n := by obtain ⟨_, _, _, _, e⟩ := hd ⟨10, .data⟩ (by simp) rfl rfl; exact e
        have s29 := (hy 8 _ 29 rfl rfl).trans e8
        have s29' := s29
        rw [Array.getD_eq_getD_getElem?] at s29'
        have s31 := (hy 10 _ 31 rfl rfl).trans e10
        have s31' := s31
        rw [Array.getD_eq_getD_getElem?] at s31'
        clear hd hy hb
        go_simp
        go_wp2_with (go_at_call 75; refine (on_any _ _ _).mono ?_; rintro e wz ⟨rfl, hw⟩; obtain rfl := hw.symm; clear hw)
        exact hK.out _ W (stp_of hmo d (Below.refl _ _)) (if_pos rfl)
      case fin =>
        intro yy lo hi W hM
        show wpList _ _ _ [_, _, _] _ _
        have e0 : yy 0 = .pointer (some ⟨w.heap.size, 4, none⟩) := hM.fact 0 (by simp) rfl (notR_all 0 rfl)
        have e1 : yy 1 = .slice (some ⟨g3, 0, none⟩) Ed.length k3 := hM.fact 1 (by simp) rfl (notR_all 1 rfl)
        have e2 : yy 2 = .int .i64 i := hM.fact 2 (by simp) rfl (notR_all 2 rfl)
        have e3 : yy 3 = .pointer (some ⟨w.heap.size, 4, none⟩) := hM.fact 3 (by simp) rfl (notR_all 3 rfl)
        have e4 : yy 4 = .slice (some ⟨g3, 0, none⟩) Ed.length k3 := hM.fact 4 (by simp) rfl (notR_all 4 rfl)
        have e5 : yy 5 = .int .i64 i := hM.fact 5 (by simp) rfl (notR_all 5 rfl)
        have e6 : yy 6 = .pointer (some ⟨g3, i * 3, none⟩) := hM.fact 6 (by simp) rfl (notR_all 6 rfl)
        have e7 : yy 7 = .pointer (some ⟨g3, i * 3 + 2, none⟩) := hM.fact 7 (by simp) rfl (notR_all 7 rfl)
        have e8 : yy 8 = .int .i64 x.2.2 := hM.fact 8 (by simp) rfl (notR_all 8 rfl)
        have e9 : yy 9 = .pointer (some ⟨w.heap.size, 0, none⟩) := hM.fact 9 (by simp) rfl (notR_all 9 rfl)
        have e10 : yy 10 = .int .i64 n := hM.fact 10 (by simp) rfl (notR_all 10 rfl)
        have e11 : yy 11 = .int .i64 (onF n x.2.2) := hM.fact 11 (by simp) rfl (notR_all 11 rfl)
        have OW := hide (own_below HYO.out hM.d)
        have OnW := hide (HYB.out.andNew (Only.ofBelow (R := fun _ => False) hM.d) (fun _ _ h => h.elim))
        have OnC := hide (HYC.out.andNew (Only.ofBelow (R := fun _ => False) hM.d) (fun _ _ h => h.elim))
        have z1 := own_get OW.out (j := i * 3 + 2) HG.out
        have z2 := own_fz OW.out (i * 3 + 2)
        have HV := hide (rowE_to OW.out i (onF n x.2.2) hlm)
        simp only [fills, Act.put, List.take, List.length, List.setIfInBounds_toArray, List.set_cons_zero, List.set_cons_succ, e0, e1, e2, e3, e4, e5, e6, e7, e8, e9, e10, e11]
        clear hM hmo e0 e1 e2 e3 e4 e5 e6 e7 e8 e9 e10 e11
        go_wp2_with fail
        go_roundw
        case rel => exact ⟨i + 1, by omega, by go_num, hide ⟨by have t := HV.out; rw [HT.out, mixE_len] at t; exact t, OnW.out.andNew (only_set W g3 (i * 3 + 2) (.int .i64 (onF n x.2.2))) (fun j _ hj => Or.inr (Or.inr hj)), OnC.out.andNew (only_set W g3 (i * 3 + 2) (.int .i64 (onF n x.2.2))) (fun j _ hj => hj)⟩⟩
        case measure => simp [intOf]; omega

    · have l0 : ¬ (i : Int) < (Ed.length : Int) := by omega
      obtain rfl : i = Ed.length := by omega
      have HEd : Hid (MkE B wr g3 k3 (Ed.map (toE n))) := hide ⟨by rw [List.length_map]; exact hm.out.e.le, by have := HYO.out; rw [mixE_len, mixG_full] at this; rw [List.length_map]; exact this⟩
      have HSd := hide (S2.out.only HYC.out hm.out.n13)
      have HFd := hide (HF.out.only HYC.out hm.out.n23)
      have HTd : Hid (TwA B wr g1 k1 g2 k2 g3 k3 (St.map (onF n)) (Fi.map (onF n)) (Ed.map (toE n))) := hide ⟨HSd.out, HFd.out, HEd.out, hm.out.n12, hm.out.n13, hm.out.n23⟩
      have T := twin_any wr n m (some ⟨g1, 0, none⟩) (some ⟨g2, 0, none⟩) (some ⟨g3, 0, none⟩) k1 k2 k3 (St.map (onF n)) (Fi.map (onF n)) (Ed.map (toE n)) (hide HTd.out.rd) (by rw [List.length_map]; exact h1) (by rw [List.length_map]; exact h2) (by rw [List.length_map]; exact h3)
      rw [List.length_map, List.length_map, List.length_map] at T
      clear HSd HFd HEd HYO
      have s0 := HGL.out
      have s1 := HD.out.2.2.2
      have BZ : Hid (wr.heap[w.heap.size + 1]? = some (.cells #[.int .i64 0, .int .i64 0, .slice none 0 0, .slice none 0 0, .slice none 0 0] 25 (0, 0))) := hide (HYB.out.cellK HD.out.2.2.1 (by omega))
      have DR : Hid (Below B w wr) := hide ((HD.out.1.mono hB).trans (HYB.out.toBelow (by omega) (fun k hk => by omega)))
      clear s0 s1
      go_wp2_with (go_at_call 10; refine T.mono ?_; rintro e wd ⟨p1, j1, p2, j2, p3, j3, rfl, HTn, dd⟩; have HB2 := hide dd; clear dd; have F3 := blk_on BZ.out HB2.out; have o0 : wd.cell? ⟨w.heap.size + 1, 0, none⟩ = some (.int .i64 0) := cell_of F3 rfl; have f0 : wd.frozen? ⟨w.heap.size + 1, 0, none⟩ = false := fz_of F3; have o1 : wd.cell? ⟨w.heap.size + 1, 1, none⟩ = some (.int .i64 0) := cell_of F3 rfl; have f1 : wd.frozen? ⟨w.heap.size + 1, 1, none⟩ = false := fz_of F3; have o2 : wd.cell? ⟨w.heap.size + 1, 2, none⟩ = some (.slice none 0 0) := cell_of F3 rfl; have f2 : wd.frozen? ⟨w.heap.size + 1, 2, none⟩ = false := fz_of F3; have o3 : wd.cell? ⟨w.heap.size + 1, 3, none⟩ = some (.slice none 0 0) := cell_of F3 rfl; have f3 : wd.frozen? ⟨w.heap.size + 1, 3, none⟩ = false := fz_of F3; have o4 : wd.cell? ⟨w.heap.size + 1, 4, none⟩ = some (.slice none 0 0) := cell_of F3 rfl; have f4 : wd.frozen? ⟨w.heap.size + 1, 4, none⟩ = false := fz_of F3; have O6 := hide (And.intro (set5 wd (w.heap.size + 1) _ _ _ _ _ (.int .i64 n) (.int .i64 m) (.slice (some ⟨p1, 0, none⟩) St.length j1) (.slice (some ⟨p2, 0, none⟩) Fi.length j2) (.slice (some ⟨p3, 0, none⟩) Ed.length j3) 25 F3) (only5 wd (w.heap.size + 1) (.int .i64 n) (.int .i64 m) (.slice (some ⟨p1, 0, none⟩) St.length j1) (.slice (some ⟨p2, 0, none⟩) Fi.length j2) (.slice (some ⟨p3, 0, none⟩) Ed.length j3))); have HZ := hide F3; clear F3)
      refine bodyPost_ret (results_cell_row (p := 2) (ty := 25) rfl _ _ (w.heap.size + 1) 25 _ (0, 0) _ rfl O6.out.1 Tryz.underlying25 rfl (by kernel_rfl)) rfl ?_
      have s2 := DR.out.size
      have s3 := HB2.out.size
      have s4 := HD.out.1.size
      have s5 := HYB.out.size
      have s6 := HD.out.2.2.2
      refine ⟨p1, j1, p2, j2, p3, j3, rfl, hide (twA_down (twA_keep HTn.out HZ.out O6.out.2) (by omega)), hide (twA_keep (HTd.out.on HB2.out) HZ.out O6.out.2), hide ((DR.out.trans (HB2.out.mono (by omega))).trans (O6.out.2.toBelow (by omega) (fun k hk => by omega))), hide ((((Only.ofBelow HD.out.1).trans HYB.out).trans (Only.ofBelow HB2.out)).andNew O6.out.2 (fun k hk hj => by omega))⟩
end Go.Proofs.YtfoahpideglghaaGreatDoor
