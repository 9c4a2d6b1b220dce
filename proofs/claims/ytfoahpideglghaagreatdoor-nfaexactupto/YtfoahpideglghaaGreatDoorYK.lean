import Derived.Test.YtfoahpideglghaaGreatDoorYI
import Derived.Test.YtfoahpideglghaaGreatDoorZR
import Derived.Deep.RegionHeld3
namespace Go.Proofs.YtfoahpideglghaaGreatDoor
open Go.RowKit Go.Maps Go.Shelf
attribute [local go_sem] Oper.semAt_some

def acF (n x : Int) : Int := if 0 ≤ x ∧ x < n then wrap64 (wrap64 (n - 1) - x) else x
theorem set_same {α : Type} {l : List α} {i : Nat} {v : α} (h : l[i]? = some v) : l.set i v = l := by
  apply List.ext_getElem?
  intro j
  by_cases e : i = j
  · subst e
    rw [List.getElem?_set_self (List.getElem?_eq_some_iff.1 h).1, h]
  · rw [List.getElem?_set_ne e]
set_option maxRecDepth 100000 in
theorem across_any (w : World) (B g c : Nat) (L : List Int) (n : Int) (hm : Hid (Mk B w g c L)) (hl : L.length ≤ 4194304) :
    Calls Tryz.prog 81 #[.slice (some ⟨g, 0, none⟩) L.length c, .int .i64 n] w fun e w' => e = .returned (.tuple #[]) ∧ Hid (Mk B w' g c (L.map (acF n))) ∧ Hid (Only w w' (fun k => k = g)) := by
  go_enter Tryz.func81, Tryz.ntmps81
  go_wp2
  go_loopw [4] (fun iv wr => ∃ i : Nat, i ≤ L.length ∧ iv = .int .i64 i ∧ Hid (wr.ownsRow B 3 1 (.slice (some ⟨g, 0, none⟩) (L.length + 70) c) (L.length + 70) ((mixG (acF n) L i ++ mrk 70).map (Value.int .i64)) ∧ Only w wr (fun k => k = g))) (fun iv _ => L.length - (intOf iv).toNat)
  case atStart => exact ⟨0, Nat.zero_le _, rfl, hide ⟨by rw [mixG_zero]; exact hm.out.rw, ⟨rfl, rfl, rfl, Nat.le_refl _, fun _ _ _ => rfl⟩⟩⟩
  case round =>
    obtain ⟨i, hi, rfl, HY⟩ := hrel
    by_cases hlt : i < L.length
    · have l0 : (i : Int) < (L.length : Int) := by omega
      have l1 : (0 : Int) ≤ (i : Int) := by omega
      have iw1 : IntKind.i64.wrap ((i : Int) + 1) = (i : Int) + 1 := by rw [IntKind.wrap_i64]; omega
      have hg := mixM_get (acF n) L (mrk 70) i hlt
      have q := own_get HY.out.1 hg
      have f := own_fz HY.out.1 i
      have HW := hide (mixM_set (acF n) L (mrk 70) i hlt)
      have HQ : Hid (acF n L[i] = L[i] → wr.ownsRow B 3 1 (.slice (some ⟨g, 0, none⟩) (L.length + 70) c) (L.length + 70) ((mixG (acF n) L (i + 1) ++ mrk 70).map (Value.int .i64))) := hide (fun e => by
        rw [← HW.out, e, set_same hg]
        exact HY.out.1)
      have HS := hide (row1_set HY.out.1 i (.int .i64 (acF n L[i])))
      have HO := hide (HY.out.2.trans (only_set wr g i (.int .i64 (acF n L[i]))))
      rw [mixM_set (acF n) L (mrk 70) i hlt] at HS
      clear HW hg
      generalize L[i] = x at q HS HO HQ
      by_cases h0 : x ≥ 0
      · by_cases h1 : x < n
        · have HE : acF n x = wrap64 (wrap64 (n - 1) - x) := by unfold acF; rw [if_pos ⟨h0, h1⟩]
          rw [HE] at HS HO
          clear HQ HE
          go_wp2_with fail
          go_roundw
          case rel => exact ⟨i + 1, by omega, by go_num, hide ⟨HS.out, HO.out⟩⟩
          case measure => simp [intOf]; omega
        · have HN := hide (HQ.out (by unfold acF; rw [if_neg fun h => h1 h.2]))
          clear HQ HS HO
          go_wp2_with fail
          go_roundw
          case rel => exact ⟨i + 1, by omega, by go_num, hide ⟨HN.out, HY.out.2⟩⟩
          case measure => simp [intOf]; omega
      · have HN := hide (HQ.out (by unfold acF; rw [if_neg fun h => h0 h.1]))
        clear HQ HS HO
        go_wp2_with fail
        go_roundw
        case rel => exact ⟨i + 1, by omega, by go_num, hide ⟨HN.out, HY.out.2⟩⟩
        case measure => simp [intOf]; omega
    · have l0 : ¬ (i : Int) < (L.length : Int) := by omega
      obtain rfl : i = L.length := by omega
      have HS : Hid (Mk B wr g c (L.map (acF n))) := hide ⟨by rw [List.length_map]; exact hm.out.le, by have := HY.out.1; rw [mixG_full] at this; rw [List.length_map]; exact this⟩
      go_wp2_with fail
      go_end0
      exact ⟨rfl, HS, hide HY.out.2⟩
end Go.Proofs.YtfoahpideglghaaGreatDoor
namespace Go.Proofs.YtfoahpideglghaaGreatDoor
open Go.RowKit Go.Maps Go.Shelf
attribute [local go_sem] Oper.semAt_some

theorem rowE_from {W : World} {B b cap : Nat} {X : List EdT} (h : W.ownsRow B 59 3 (.slice (some ⟨b, 0, none⟩) X.length cap) X.length (X.flatMap encE)) (j : Nat) (z : Int) (hj : j < X.length) :
    (W.setCell ⟨b, j * 3, none⟩ (.int .i64 z)).ownsRow B 59 3 (.slice (some ⟨b, 0, none⟩) (X.set j (z, X[j].2.1, X[j].2.2)).length cap) (X.set j (z, X[j].2.1, X[j].2.2)).length ((X.set j (z, X[j].2.1, X[j].2.2)).flatMap encE) := by
  refine ⟨by rw [flatE_len], ?_⟩
  rcases h.2 with ⟨z, _⟩ | ⟨g, cap', cur, e, hb, hg, hn, hc, hs, ht⟩
  · cases z
  · cases e
    refine .inr ⟨b, cap, _, rfl, hb, heap_setCell_same _ _ _ _ 59 _ hg, by rw [List.length_set]; exact hn, hc, by simpa using hs, ?_⟩
    rw [List.length_set]
    apply List.ext_getElem?
    intro t
    have hcz : X.length * 3 ≤ cur.size := by rw [hs]; exact Nat.mul_le_mul_right 3 hn
    by_cases hq : t / 3 < X.length
    · have htl : t < X.length * 3 := by omega
      have old : cur[t]? = (encE X[t / 3])[t % 3]? := by rw [← flatE_at X t hq, ← ht, List.getElem?_take_of_lt htl, Array.getElem?_toList]
      rw [List.getElem?_take_of_lt htl, flatE_at _ t (by rw [List.length_set]; exact hq), List.getElem_set, Array.getElem?_toList]
      simp only [Array.getElem?_setIfInBounds]
      by_cases hjq : j = t / 3
      · rw [if_pos hjq]
        subst hjq
        have : t = t / 3 * 3 ∨ t = t / 3 * 3 + 1 ∨ t = t / 3 * 3 + 2 := by omega
        rcases this with h5 | h5 | h5
        · rw [if_pos (by omega), if_pos (by omega), show t % 3 = 0 by omega]; rfl
        · rw [if_neg (by omega), old, show t % 3 = 1 by omega]; rfl
        · rw [if_neg (by omega), old, show t % 3 = 2 by omega]; rfl
      · rw [if_neg hjq, if_neg (by omega), old]
    · rw [flatE_none _ t (by rw [List.length_set]; exact hq), List.getElem?_take_eq_none (by omega)]
/-- The first edge's beginning is none. -/
def badE : List EdT → List EdT
  | [] => []
  | e :: l => (-1, e.2.1, e.2.2) :: l
theorem badE_len (L : List EdT) : (badE L).length = L.length := by cases L <;> rfl
theorem mkE_bad {B : Nat} {w : World} {g c : Nat} {L : List EdT} (h : MkE B w g c L) (h0 : 0 < L.length) : MkE B (w.setCell ⟨g, 0, none⟩ (.int .i64 (-1))) g c (badE L) := by
  cases L with
  | nil => cases h0
  | cons e l =>
    have hl : ((e :: l) ++ mrkE 70).length = (e :: l).length + 70 := by simp [mrkE]
    have hr := h.rw
    rw [← hl] at hr
    have t := rowE_from hr 0 (-1) (by rw [hl]; omega)
    rw [Nat.zero_mul] at t
    have e1 : ((e :: l) ++ mrkE 70).set 0 (-1, ((e :: l) ++ mrkE 70)[0].2.1, ((e :: l) ++ mrkE 70)[0].2.2) = badE (e :: l) ++ mrkE 70 := rfl
    have hl2 : (badE (e :: l) ++ mrkE 70).length = (badE (e :: l)).length + 70 := by simp [mrkE]
    rw [e1, hl2] at t
    exact ⟨by rw [badE_len]; exact h.le, t⟩
set_option maxRecDepth 100000 in
set_option maxHeartbeats 8000000 in
theorem unlike_yes (w : World) (B : Nat) (n m : Int) (g1 k1 g2 k2 g3 k3 : Nat) (St Fi : List Int) (Ed : List EdT) (hm : Hid (TwA B w g1 k1 g2 k2 g3 k3 St Fi Ed)) (hB : B ≤ w.heap.size) (h1 : St.length ≤ 4194304) (h2 : Fi.length ≤ 4194304) (h3 : Ed.length ≤ 4194304) :
    Calls Tryz.prog 49 #[.agg #[.int .i64 n, .int .i64 m, .slice (some ⟨g1, 0, none⟩) St.length k1, .slice (some ⟨g2, 0, none⟩) Fi.length k2, .slice (some ⟨g3, 0, none⟩) Ed.length k3]] w fun e w' => e = .returned (.bool true) ∧ Hid (Below B w w') := by
  obtain ⟨W0, hW0⟩ : ∃ W0, w.alloc (.cells #[.int .i64 n, .int .i64 m, .slice (some ⟨g1, 0, none⟩) St.length k1, .slice (some ⟨g2, 0, none⟩) Fi.length k2, .slice (some ⟨g3, 0, none⟩) Ed.length k3] 25) = W0 := ⟨_, rfl⟩
  have H0 : Hid (Below w.heap.size w W0 ∧ W0.heap[w.heap.size]? = some (.cells #[.int .i64 n, .int .i64 m, .slice (some ⟨g1, 0, none⟩) St.length k1, .slice (some ⟨g2, 0, none⟩) Fi.length k2, .slice (some ⟨g3, 0, none⟩) Ed.length k3] 25 (0, 0)) ∧ w.heap.size < W0.heap.size) := hide ⟨by rw [← hW0]; exact alloc_below _ _, by rw [← hW0]; exact World.alloc_heap_new _ _, by rw [← hW0]; simp⟩
  have HBW := hide hB
  have T0 := hide (hm.out.on H0.out.1)
  have HK : Hid (Ed.length ≤ k3) := hide (by have := hm.out.e.le; omega)
  have y0 : W0.cell? ⟨w.heap.size, 0, none⟩ = some (.int .i64 n) := cell_of H0.out.2.1 rfl
  have y1 : W0.cell? ⟨w.heap.size, 1, none⟩ = some (.int .i64 m) := cell_of H0.out.2.1 rfl
  have y2 : W0.cell? ⟨w.heap.size, 2, none⟩ = some (.slice (some ⟨g1, 0, none⟩) St.length k1) := cell_of H0.out.2.1 rfl
  have y3 : W0.cell? ⟨w.heap.size, 3, none⟩ = some (.slice (some ⟨g2, 0, none⟩) Fi.length k2) := cell_of H0.out.2.1 rfl
  have y4 : W0.cell? ⟨w.heap.size, 4, none⟩ = some (.slice (some ⟨g3, 0, none⟩) Ed.length k3) := cell_of H0.out.2.1 rfl
  have T1 := twin_any W0 n m (some ⟨g1, 0, none⟩) (some ⟨g2, 0, none⟩) (some ⟨g3, 0, none⟩) k1 k2 k3 St Fi Ed (hide T0.out.rd) h1 h2 h3
  go_enter Tryz.func49, Tryz.ntmps49
  go_upto_region 2 with (go_at_call 10; refine T1.mono ?_; rintro e w1 ⟨o1, ko1, o2, ko2, o3, ko3, rfl, HO, D1⟩)
  clear T1 y0 y1 y2 y3 y4
  obtain ⟨W1, hW⟩ : ∃ X, w1.alloc (.cells #[.int .i64 n, .int .i64 m, .slice (some ⟨o1, 0, none⟩) St.length ko1, .slice (some ⟨o2, 0, none⟩) Fi.length ko2, .slice (some ⟨o3, 0, none⟩) Ed.length ko3] 25) = X := ⟨_, rfl⟩
  have G1 : Hid (W1.heap[w1.heap.size]? = some (.cells #[.int .i64 n, .int .i64 m, .slice (some ⟨o1, 0, none⟩) St.length ko1, .slice (some ⟨o2, 0, none⟩) Fi.length ko2, .slice (some ⟨o3, 0, none⟩) Ed.length ko3] 25 (0, 0)) ∧ W1.heap[w.heap.size]? = some (.cells #[.int .i64 n, .int .i64 m, .slice (some ⟨g1, 0, none⟩) St.length k1, .slice (some ⟨g2, 0, none⟩) Fi.length k2, .slice (some ⟨g3, 0, none⟩) Ed.length k3] 25 (0, 0)) ∧ TwA W0.heap.size W1 o1 ko1 o2 ko2 o3 ko3 St Fi Ed ∧ TwA B W1 g1 k1 g2 k2 g3 k3 St Fi Ed ∧ Below W0.heap.size W0 W1 ∧ W0.heap.size ≤ w1.heap.size) := hide (by
    have dn : Below w1.heap.size w1 W1 := by rw [← hW]; exact alloc_below _ _
    have e1 := D1.trans (dn.mono D1.size)
    exact ⟨by rw [← hW]; exact World.alloc_heap_new _ _, blk_on H0.out.2.1 e1, HO.out.on dn, T0.out.on e1, e1, D1.size⟩)
  rw [hW]
  clear hW HO D1 hW0
  generalize w1.heap.size = po at G1 ⊢
  have HKO : Hid (Ed.length ≤ ko3) := hide (by have := G1.out.2.2.1.e.le; omega)
  have SKK : Hid (∀ W, Below W1.heap.size W1 W → (fun W => (W.cell? ⟨w.heap.size, 0, none⟩ = some (.int .i64 n) ∧ W.cell? ⟨w.heap.size, 1, none⟩ = some (.int .i64 m) ∧ W.cell? ⟨w.heap.size, 2, none⟩ = some (.slice (some ⟨g1, 0, none⟩) St.length k1) ∧ W.cell? ⟨w.heap.size, 3, none⟩ = some (.slice (some ⟨g2, 0, none⟩) Fi.length k2) ∧ W.cell? ⟨w.heap.size, 4, none⟩ = some (.slice (some ⟨g3, 0, none⟩) Ed.length k3)) ∧ (W.cell? ⟨po, 0, none⟩ = some (.int .i64 n) ∧ W.cell? ⟨po, 1, none⟩ = some (.int .i64 m) ∧ W.cell? ⟨po, 2, none⟩ = some (.slice (some ⟨o1, 0, none⟩) St.length ko1) ∧ W.cell? ⟨po, 3, none⟩ = some (.slice (some ⟨o2, 0, none⟩) Fi.length ko2) ∧ W.cell? ⟨po, 4, none⟩ = some (.slice (some ⟨o3, 0, none⟩) Ed.length ko3)) ∧ Hid (Below W1.heap.size W1 W)) W) := hide (fun W d => by
    have e0 := blk_on G1.out.2.1 d
    have e1 := blk_on G1.out.1 d
    exact ⟨⟨cell_of e0 rfl, cell_of e0 rfl, cell_of e0 rfl, cell_of e0 rfl, cell_of e0 rfl⟩, ⟨cell_of e1 rfl, cell_of e1 rfl, cell_of e1 rfl, cell_of e1 rfl, cell_of e1 rfl⟩, hide d⟩)
  have TV : Hid (∀ W, Below W1.heap.size W1 W → Calls Tryz.prog 22 #[.agg #[.int .i64 n, .int .i64 m, .slice (some ⟨g1, 0, none⟩) St.length k1, .slice (some ⟨g2, 0, none⟩) Fi.length k2, .slice (some ⟨g3, 0, none⟩) Ed.length k3]] W fun e w' => e = .returned (.int .i64 (if mayA n m St Fi Ed then 0 else 2)) ∧ Below W1.heap.size W1 w') := hide (fun W d => (valid_any W n m (some ⟨g1, 0, none⟩) (some ⟨g2, 0, none⟩) (some ⟨g3, 0, none⟩) k1 k2 k3 St Fi Ed (hide (G1.out.2.2.2.1.rd.on d)) h1 h2 h3).mono fun e w' ⟨he, dd⟩ => ⟨he, d.trans (dd.mono d.size)⟩)
  have TR : Hid (∀ W, Below W1.heap.size W1 W → Calls Tryz.prog 39 #[.agg #[.int .i64 n, .int .i64 m, .slice (some ⟨o1, 0, none⟩) St.length ko1, .slice (some ⟨o2, 0, none⟩) Fi.length ko2, .slice (some ⟨o3, 0, none⟩) Ed.length ko3]] W fun e w' => e = .returned (.int .i64 (if mayA n m St Fi Ed then 0 else 2)) ∧ Below W1.heap.size W1 w') := hide (fun W d => (rvalid_any W n m (some ⟨o1, 0, none⟩) (some ⟨o2, 0, none⟩) (some ⟨o3, 0, none⟩) ko1 ko2 ko3 St Fi Ed (hide (G1.out.2.2.1.rd.on d)) h1 h2 h3).mono fun e w' ⟨he, dd⟩ => ⟨he, d.trans (dd.mono d.size)⟩)
  have TS : Hid (∀ W, Below W1.heap.size W1 W → Calls Tryz.prog 24 #[.agg #[.int .i64 n, .int .i64 m, .slice (some ⟨g1, 0, none⟩) St.length k1, .slice (some ⟨g2, 0, none⟩) Fi.length k2, .slice (some ⟨g3, 0, none⟩) Ed.length k3], .agg #[.int .i64 n, .int .i64 m, .slice (some ⟨o1, 0, none⟩) St.length ko1, .slice (some ⟨o2, 0, none⟩) Fi.length ko2, .slice (some ⟨o3, 0, none⟩) Ed.length ko3]] W fun e w' => e = .returned (.bool (smB n m n m St Fi Ed St Fi Ed)) ∧ Below W1.heap.size W1 w') := hide (fun W d => (same_any W n m n m (some ⟨g1, 0, none⟩) (some ⟨g2, 0, none⟩) (some ⟨g3, 0, none⟩) (some ⟨o1, 0, none⟩) (some ⟨o2, 0, none⟩) (some ⟨o3, 0, none⟩) k1 k2 k3 ko1 ko2 ko3 St Fi Ed St Fi Ed (hide (G1.out.2.2.2.1.rd.on d)) (hide (G1.out.2.2.1.rd.on d)) h1 h2 h3 h1 h2 h3).mono fun e w' ⟨he, dd⟩ => ⟨he, d.trans (dd.mono d.size)⟩)
  have TT : Hid (∀ W, Below W1.heap.size W1 W → Calls Tryz.prog 40 #[.agg #[.int .i64 n, .int .i64 m, .slice (some ⟨o1, 0, none⟩) St.length ko1, .slice (some ⟨o2, 0, none⟩) Fi.length ko2, .slice (some ⟨o3, 0, none⟩) Ed.length ko3], .agg #[.int .i64 n, .int .i64 m, .slice (some ⟨o1, 0, none⟩) St.length ko1, .slice (some ⟨o2, 0, none⟩) Fi.length ko2, .slice (some ⟨o3, 0, none⟩) Ed.length ko3]] W fun e w' => e = .returned (.bool (smB n m n m St Fi Ed St Fi Ed)) ∧ Below W1.heap.size W1 w') := hide (fun W d => (rsame_any W n m n m (some ⟨o1, 0, none⟩) (some ⟨o2, 0, none⟩) (some ⟨o3, 0, none⟩) (some ⟨o1, 0, none⟩) (some ⟨o2, 0, none⟩) (some ⟨o3, 0, none⟩) ko1 ko2 ko3 ko1 ko2 ko3 St Fi Ed St Fi Ed (hide (G1.out.2.2.1.rd.on d)) (hide (G1.out.2.2.1.rd.on d)) h1 h2 h3 h1 h2 h3 HKO.out HKO.out).mono fun e w' ⟨he, dd⟩ => ⟨he, d.trans (dd.mono d.size)⟩)
  generalize (if mayA n m St Fi Ed then (0 : Int) else 2) = v at TV TR
  generalize smB n m n m St Fi Ed St Fi Ed = sv at TS TT
  have kv : (v != v) = false := by simp
  have ks : (sv != sv) = false := by simp
  have SD : Hid (∀ W, (fun W => (W.cell? ⟨w.heap.size, 0, none⟩ = some (.int .i64 n) ∧ W.cell? ⟨w.heap.size, 1, none⟩ = some (.int .i64 m) ∧ W.cell? ⟨w.heap.size, 2, none⟩ = some (.slice (some ⟨g1, 0, none⟩) St.length k1) ∧ W.cell? ⟨w.heap.size, 3, none⟩ = some (.slice (some ⟨g2, 0, none⟩) Fi.length k2) ∧ W.cell? ⟨w.heap.size, 4, none⟩ = some (.slice (some ⟨g3, 0, none⟩) Ed.length k3)) ∧ (W.cell? ⟨po, 0, none⟩ = some (.int .i64 n) ∧ W.cell? ⟨po, 1, none⟩ = some (.int .i64 m) ∧ W.cell? ⟨po, 2, none⟩ = some (.slice (some ⟨o1, 0, none⟩) St.length ko1) ∧ W.cell? ⟨po, 3, none⟩ = some (.slice (some ⟨o2, 0, none⟩) Fi.length ko2) ∧ W.cell? ⟨po, 4, none⟩ = some (.slice (some ⟨o3, 0, none⟩) Ed.length ko3)) ∧ Hid (Below W1.heap.size W1 W)) W → Below W1.heap.size W1 W) := hide (fun W h => h.2.2.out)
  have S0 := SKK.out W1.drew (Below.refl _ _).drew
  go_region_held3 (fun W => (W.cell? ⟨w.heap.size, 0, none⟩ = some (.int .i64 n) ∧ W.cell? ⟨w.heap.size, 1, none⟩ = some (.int .i64 m) ∧ W.cell? ⟨w.heap.size, 2, none⟩ = some (.slice (some ⟨g1, 0, none⟩) St.length k1) ∧ W.cell? ⟨w.heap.size, 3, none⟩ = some (.slice (some ⟨g2, 0, none⟩) Fi.length k2) ∧ W.cell? ⟨w.heap.size, 4, none⟩ = some (.slice (some ⟨g3, 0, none⟩) Ed.length k3)) ∧ (W.cell? ⟨po, 0, none⟩ = some (.int .i64 n) ∧ W.cell? ⟨po, 1, none⟩ = some (.int .i64 m) ∧ W.cell? ⟨po, 2, none⟩ = some (.slice (some ⟨o1, 0, none⟩) St.length ko1) ∧ W.cell? ⟨po, 3, none⟩ = some (.slice (some ⟨o2, 0, none⟩) Fi.length ko2) ∧ W.cell? ⟨po, 4, none⟩ = some (.slice (some ⟨o3, 0, none⟩) Ed.length ko3)) ∧ Hid (Below W1.heap.size W1 W))
    (with_reducible assumption)
    ((first
        | (go_at_call 22; refine (TV.out _ (SD.out _ (by with_reducible assumption))).mono ?_; rintro e wa ⟨rfl, da⟩; have Swa := SKK.out wa da)
        | (go_at_call 39; refine (TR.out _ (SD.out _ (by with_reducible assumption))).mono ?_; rintro e wb ⟨rfl, db⟩; have Swb := SKK.out wb db)
        | (go_at_call 24; refine (TS.out _ (SD.out _ (by with_reducible assumption))).mono ?_; rintro e wc ⟨rfl, dc⟩; have Swc := SKK.out wc dc)
        | (go_at_call 40; refine (TT.out _ (SD.out _ (by with_reducible assumption))).mono ?_; rintro e wd ⟨rfl, dd⟩; have Swd := SKK.out wd dd)))
  clear S0 Swa Swb Swc Swd SD
  have GD : Hid (wd.heap[po]? = some (.cells #[.int .i64 n, .int .i64 m, .slice (some ⟨o1, 0, none⟩) St.length ko1, .slice (some ⟨o2, 0, none⟩) Fi.length ko2, .slice (some ⟨o3, 0, none⟩) Ed.length ko3] 25 (0, 0)) ∧ wd.heap[w.heap.size]? = some (.cells #[.int .i64 n, .int .i64 m, .slice (some ⟨g1, 0, none⟩) St.length k1, .slice (some ⟨g2, 0, none⟩) Fi.length k2, .slice (some ⟨g3, 0, none⟩) Ed.length k3] 25 (0, 0)) ∧ TwA W0.heap.size wd o1 ko1 o2 ko2 o3 ko3 St Fi Ed ∧ TwA B wd g1 k1 g2 k2 g3 k3 St Fi Ed ∧ Below W0.heap.size W0 wd) := hide ⟨blk_on G1.out.1 dd, blk_on G1.out.2.1 dd, G1.out.2.2.1.on dd, G1.out.2.2.2.1.on dd, G1.out.2.2.2.2.1.trans (dd.mono G1.out.2.2.2.2.1.size)⟩
  have HPO : Hid (W0.heap.size ≤ po) := hide G1.out.2.2.2.2.2
  clear da db dc dd TV TR TS TT kv ks SKK G1
  have HG3 : Hid (B ≤ g3 ∧ g3 < w.heap.size) := hide hm.out.e.lt
  have SK : Hid (∀ W, Only wd W (fun k => k = g3) → W.cell? ⟨w.heap.size, 0, none⟩ = some (.int .i64 n) ∧ W.cell? ⟨w.heap.size, 1, none⟩ = some (.int .i64 m) ∧ W.cell? ⟨w.heap.size, 2, none⟩ = some (.slice (some ⟨g1, 0, none⟩) St.length k1) ∧ W.cell? ⟨w.heap.size, 3, none⟩ = some (.slice (some ⟨g2, 0, none⟩) Fi.length k2) ∧ W.cell? ⟨w.heap.size, 4, none⟩ = some (.slice (some ⟨g3, 0, none⟩) Ed.length k3)) := hide (fun W o => by
    have s := HG3.out
    have e := o.cellK GD.out.2.1 (by omega)
    exact ⟨cell_of e rfl, cell_of e rfl, cell_of e rfl, cell_of e rfl, cell_of e rfl⟩)
  obtain ⟨y0, y1, y2, y3, y4⟩ := SK.out wd ⟨rfl, rfl, rfl, Nat.le_refl _, fun _ _ _ => rfl⟩
  go_wp2_with fail
  go_loopw [4] (fun iv wr => ∃ i : Nat, i ≤ Ed.length ∧ iv = .int .i64 i ∧ Hid (wr.ownsRow B 59 3 (.slice (some ⟨g3, 0, none⟩) (Ed.length + 70) k3) (Ed.length + 70) ((mixG (toE n) Ed i ++ mrkE 70).flatMap encE) ∧ Only wd wr (fun k => k = g3))) (fun iv _ => Ed.length - (intOf iv).toNat)
  case atStart => exact ⟨0, Nat.zero_le _, rfl, hide ⟨by rw [mixG_zero]; exact GD.out.2.2.2.1.e.rw, ⟨rfl, rfl, rfl, Nat.le_refl _, fun _ _ _ => rfl⟩⟩⟩
  case round =>
    obtain ⟨i, hi, rfl, HY⟩ := hrel
    clear y0 y1 y2 y3 y4
    have HYO := hide (show wr.ownsRow B 59 3 (.slice (some ⟨g3, 0, none⟩) (mixG (toE n) Ed i ++ mrkE 70).length k3) (mixG (toE n) Ed i ++ mrkE 70).length ((mixG (toE n) Ed i ++ mrkE 70).flatMap encE) by rw [mixE_len]; exact HY.out.1)
    have HYB := hide HY.out.2
    clear HY
    obtain ⟨y0, y1, y2, y3, y4⟩ := SK.out wr HYB.out
    by_cases hlt : i < Ed.length
    · have l0 : (i : Int) < (Ed.length : Int) := by omega
      have l1 : (0 : Int) ≤ (i : Int) := by omega
      have iw1 : IntKind.i64.wrap ((i : Int) + 1) = (i : Int) + 1 := by rw [IntKind.wrap_i64]; omega
      have hlm : i < (mixG (toE n) Ed i ++ mrkE 70).length := by rw [mixE_len]; omega
      have HXI : Hid ((mixG (toE n) Ed i ++ mrkE 70)[i] = Ed[i]) := hide (by
        rw [List.getElem_append_left (by rw [mixG_len]; exact hlt)]
        have := mixG_get (toE n) Ed i hlt
        rw [List.getElem?_eq_getElem (by rw [mixG_len]; exact hlt)] at this
        exact Option.some.inj this)
      have HG : Hid (((mixG (toE n) Ed i ++ mrkE 70).flatMap encE)[i * 3 + 2]? = some (.int .i64 Ed[i].2.2)) := hide (by
        have := flatE_at (mixG (toE n) Ed i ++ mrkE 70) (i * 3 + 2) (by rw [mixE_len]; omega)
        rw [this]
        simp only [show (i * 3 + 2) / 3 = i by omega, show (i * 3 + 2) % 3 = 2 by omega, HXI.out]
        rfl)
      have HT : Hid ((mixG (toE n) Ed i ++ mrkE 70).set i ((mixG (toE n) Ed i ++ mrkE 70)[i].1, (mixG (toE n) Ed i ++ mrkE 70)[i].2.1, onF n Ed[i].2.2) = mixG (toE n) Ed (i + 1) ++ mrkE 70) := hide (by
        rw [HXI.out, List.set_append_left _ _ (by rw [mixG_len]; exact hlt), ← mixG_set (toE n) Ed i hlt]
        rfl)
      have q2 := own_get HYO.out (j := i * 3 + 2) HG.out
      clear HXI
      generalize Ed[i] = x at HG HT q2
      go_upto_region 7 with fail
      clear y0 y1 y2 y3 y4
      have hmo : MonIL 0 [vI 0 (.pointer (some ⟨w.heap.size, 4, none⟩)), vI 1 (.slice (some ⟨g3, 0, none⟩) Ed.length k3), vI 2 (.int .i64 i), vI 3 (.pointer (some ⟨w.heap.size, 4, none⟩)), vI 4 (.slice (some ⟨g3, 0, none⟩) Ed.length k3), vI 5 (.int .i64 i), vI 6 (.pointer (some ⟨g3, i * 3, none⟩)), vI 7 (.pointer (some ⟨g3, i * 3 + 2, none⟩)), vI 8 (.int .i64 x.2.2), vI 9 (.pointer (some ⟨w.heap.size, 0, none⟩)), vI 10 (.int .i64 n), vI 11 (.int .i64 (onF n x.2.2))] := ⟨vI_mono _ _, vI_mono _ _, vI_mono _ _, vI_mono _ _, vI_mono _ _, vI_mono _ _, vI_mono _ _, vI_mono _ _, vI_mono _ _, vI_mono _ _, vI_mono _ _, vI_mono _ _, trivial⟩
      refine wp_region_sl [vI 0 (.pointer (some ⟨w.heap.size, 4, none⟩)), vI 1 (.slice (some ⟨g3, 0, none⟩) Ed.length k3), vI 2 (.int .i64 i), vI 3 (.pointer (some ⟨w.heap.size, 4, none⟩)), vI 4 (.slice (some ⟨g3, 0, none⟩) Ed.length k3), vI 5 (.int .i64 i), vI 6 (.pointer (some ⟨g3, i * 3, none⟩)), vI 7 (.pointer (some ⟨g3, i * 3 + 2, none⟩)), vI 8 (.int .i64 x.2.2), vI 9 (.pointer (some ⟨w.heap.size, 0, none⟩)), vI 10 (.int .i64 n), vI 11 (.int .i64 (onF n x.2.2))] (by kernel_rfl) (by kernel_rfl) (by kernel_rfl) (by kernel_rfl) hmo ⟨?o0, ?o1, ?o2, ?o3, ?o4, ?o5, ?o6, ?o7, ?o8, ?o9, ?o10, ?o11, trivial⟩ ?fin
      case o0 =>
        intro At yy W hy hb d hd K hK
        have s1 : At.tmps.getD 1 undef = .pointer (some ⟨w.heap.size, 0, none⟩) := hb 1 rfl
        have s1' := s1
        rw [Array.getD_eq_getD_getElem?] at s1'
        clear hd hy hb
        go_simp
        exact hK.out _ W (stp_of hmo d (Below.refl _ _)) (if_pos rfl)
      case o1 =>
        intro At yy W hy hb d hd K hK
        have e0 : yy 0 = .pointer (some ⟨w.heap.size, 4, none⟩) := by obtain ⟨_, _, _, _, e⟩ := hd ⟨0, .data⟩ (by simp) rfl rfl; exact e
        have s30 := (hy 0 _ 30 rfl rfl).trans e0
        have s30' := s30
        rw [Array.getD_eq_getD_getElem?] at s30'
        clear hd hy hb
        obtain ⟨y0, y1, y2, y3, y4⟩ := SK.out W (HYB.out.andNew (Only.ofBelow (R := fun _ => False) d) (fun _ _ h => h.elim))
        go_simp
        exact hK.out _ W (stp_of hmo d (Below.refl _ _)) (if_pos rfl)
      case o2 =>
        intro At yy W hy hb d hd K hK
        have s4 : At.tmps.getD 4 undef = .int .i64 i := hb 4 rfl
        have s4' := s4
        rw [Array.getD_eq_getD_getElem?] at s4'
        clear hd hy hb
        go_simp
        exact hK.out _ W (stp_of hmo d (Below.refl _ _)) (if_pos rfl)
      case o3 =>
        intro At yy W hy hb d hd K hK
        have s1 : At.tmps.getD 1 undef = .pointer (some ⟨w.heap.size, 0, none⟩) := hb 1 rfl
        have s1' := s1
        rw [Array.getD_eq_getD_getElem?] at s1'
        clear hd hy hb
        go_simp
        exact hK.out _ W (stp_of hmo d (Below.refl _ _)) (if_pos rfl)
      case o4 =>
        intro At yy W hy hb d hd K hK
        have e3 : yy 3 = .pointer (some ⟨w.heap.size, 4, none⟩) := by obtain ⟨_, _, _, _, e⟩ := hd ⟨3, .data⟩ (by simp) rfl rfl; exact e
        have s33 := (hy 3 _ 33 rfl rfl).trans e3
        have s33' := s33
        rw [Array.getD_eq_getD_getElem?] at s33'
        clear hd hy hb
        obtain ⟨y0, y1, y2, y3, y4⟩ := SK.out W (HYB.out.andNew (Only.ofBelow (R := fun _ => False) d) (fun _ _ h => h.elim))
        go_simp
        exact hK.out _ W (stp_of hmo d (Below.refl _ _)) (if_pos rfl)
      case o5 =>
        intro At yy W hy hb d hd K hK
        have s4 : At.tmps.getD 4 undef = .int .i64 i := hb 4 rfl
        have s4' := s4
        rw [Array.getD_eq_getD_getElem?] at s4'
        clear hd hy hb
        go_simp
        exact hK.out _ W (stp_of hmo d (Below.refl _ _)) (if_pos rfl)
      case o6 =>
        intro At yy W hy hb d hd K hK
        have e4 : yy 4 = .slice (some ⟨g3, 0, none⟩) Ed.length k3 := by obtain ⟨_, _, _, _, e⟩ := hd ⟨4, .data⟩ (by simp) rfl rfl; exact e
        have e5 : yy 5 = .int .i64 i := by obtain ⟨_, _, _, _, e⟩ := hd ⟨5, .data⟩ (by simp) rfl rfl; exact e
        have s34 := (hy 4 _ 34 rfl rfl).trans e4
        have s34' := s34
        rw [Array.getD_eq_getD_getElem?] at s34'
        have s35 := (hy 5 _ 35 rfl rfl).trans e5
        have s35' := s35
        rw [Array.getD_eq_getD_getElem?] at s35'
        clear hd hy hb
        go_simp
        exact hK.out _ W (stp_of hmo d (Below.refl _ _)) (if_pos rfl)
      case o7 =>
        intro At yy W hy hb d hd K hK
        have e6 : yy 6 = .pointer (some ⟨g3, i * 3, none⟩) := by obtain ⟨_, _, _, _, e⟩ := hd ⟨6, .data⟩ (by simp) rfl rfl; exact e
        have s36 := (hy 6 _ 36 rfl rfl).trans e6
        have s36' := s36
        rw [Array.getD_eq_getD_getElem?] at s36'
        clear hd hy hb
        go_simp
        exact hK.out _ W (stp_of hmo d (Below.refl _ _)) (if_pos rfl)
      case o8 =>
        intro At yy W hy hb d hd K hK
        have e7 : yy 7 = .pointer (some ⟨g3, i * 3 + 2, none⟩) := by obtain ⟨_, _, _, _, e⟩ := hd ⟨7, .data⟩ (by simp) rfl rfl; exact e
        have s37 := (hy 7 _ 37 rfl rfl).trans e7
        have s37' := s37
        rw [Array.getD_eq_getD_getElem?] at s37'
        clear hd hy hb
        have q0 := (d.cell (p := ⟨g3, i * 3 + 2, none⟩) (World.block_lt_of_cell? wr _ q2)).trans q2
        go_simp
        exact hK.out _ W (stp_of hmo d (Below.refl _ _)) (if_pos rfl)
      case o9 =>
        intro At yy W hy hb d hd K hK
        have s1 : At.tmps.getD 1 undef = .pointer (some ⟨w.heap.size, 0, none⟩) := hb 1 rfl
        have s1' := s1
        rw [Array.getD_eq_getD_getElem?] at s1'
        clear hd hy hb
        go_simp
        exact hK.out _ W (stp_of hmo d (Below.refl _ _)) (if_pos rfl)
      case o10 =>
        intro At yy W hy hb d hd K hK
        have e9 : yy 9 = .pointer (some ⟨w.heap.size, 0, none⟩) := by obtain ⟨_, _, _, _, e⟩ := hd ⟨9, .data⟩ (by simp) rfl rfl; exact e
        have s39 := (hy 9 _ 39 rfl rfl).trans e9
        have s39' := s39
        rw [Array.getD_eq_getD_getElem?] at s39'
        clear hd hy hb
        obtain ⟨y0, y1, y2, y3, y4⟩ := SK.out W (HYB.out.andNew (Only.ofBelow (R := fun _ => False) d) (fun _ _ h => h.elim))
        go_simp
        exact hK.out _ W (stp_of hmo d (Below.refl _ _)) (if_pos rfl)
      case o11 =>
        intro At yy W hy hb d hd K hK
        have e8 : yy 8 = .int .i64 x.2.2 := by obtain ⟨_, _, _, _, e⟩ := hd ⟨8, .data⟩ (by simp) rfl rfl; exact e
        have e10 : yy 10 = .int .i64 n := by obtain ⟨_, _, _, _, e⟩ := hd ⟨10, .data⟩ (by simp) rfl rfl; exact e
        have s38 := (hy 8 _ 38 rfl rfl).trans e8
        have s38' := s38
        rw [Array.getD_eq_getD_getElem?] at s38'
        have s40 := (hy 10 _ 40 rfl rfl).trans e10
        have s40' := s40
        rw [Array.getD_eq_getD_getElem?] at s40'
        clear hd hy hb
        go_simp
        go_wp2_with (go_at_call 75; refine (on_any _ _ _).mono ?_; rintro e wz ⟨rfl, hw⟩; obtain rfl := hw.symm; clear hw)
        exact hK.out _ W (stp_of hmo d (Below.refl _ _)) (if_pos rfl)
      case fin =>
        intro yy lo hi W hM
        show wpList _ _ _ [_, _, _] _ _
        have e0 : yy 0 = .pointer (some ⟨w.heap.size, 4, none⟩) := hM.fact 0 (by simp) rfl (notR_all 0 rfl)
        have e1 : yy 1 = .slice (some ⟨g3, 0, none⟩) Ed.length k3 := hM.fact 1 (by simp) rfl (notR_all 1 rfl)
        have e2 : yy 2 = .int .i64 i := hM.fact 2 (by simp) rfl (notR_all 2 rfl)
        have e3 : yy 3 = .pointer (some ⟨w.heap.size, 4, none⟩) := hM.fact 3 (by simp) rfl (notR_all 3 rfl)
        have e4 : yy 4 = .slice (some ⟨g3, 0, none⟩) Ed.length k3 := hM.fact 4 (by simp) rfl (notR_all 4 rfl)
        have e5 : yy 5 = .int .i64 i := hM.fact 5 (by simp) rfl (notR_all 5 rfl)
        have e6 : yy 6 = .pointer (some ⟨g3, i * 3, none⟩) := hM.fact 6 (by simp) rfl (notR_all 6 rfl)
        have e7 : yy 7 = .pointer (some ⟨g3, i * 3 + 2, none⟩) := hM.fact 7 (by simp) rfl (notR_all 7 rfl)
        have e8 : yy 8 = .int .i64 x.2.2 := hM.fact 8 (by simp) rfl (notR_all 8 rfl)
        have e9 : yy 9 = .pointer (some ⟨w.heap.size, 0, none⟩) := hM.fact 9 (by simp) rfl (notR_all 9 rfl)
        have e10 : yy 10 = .int .i64 n := hM.fact 10 (by simp) rfl (notR_all 10 rfl)
        have e11 : yy 11 = .int .i64 (onF n x.2.2) := hM.fact 11 (by simp) rfl (notR_all 11 rfl)
        have OW := hide (own_below HYO.out hM.d)
        have OnW := hide (HYB.out.andNew (Only.ofBelow (R := fun _ => False) hM.d) (fun _ _ h => h.elim))
        have z1 := own_get OW.out (j := i * 3 + 2) HG.out
        have z2 := own_fz OW.out (i * 3 + 2)
        have HV := hide (rowE_to OW.out i (onF n x.2.2) hlm)
        simp only [fills, Act.put, List.take, List.length, List.setIfInBounds_toArray, List.set_cons_zero, List.set_cons_succ, e0, e1, e2, e3, e4, e5, e6, e7, e8, e9, e10, e11]
        clear hM hmo e0 e1 e2 e3 e4 e5 e6 e7 e8 e9 e10 e11
        go_wp2_with fail
        go_roundw
        case rel => exact ⟨i + 1, by omega, by go_num, hide ⟨by have t := HV.out; rw [HT.out, mixE_len] at t; exact t, OnW.out.andNew (only_set W g3 (i * 3 + 2) (.int .i64 (onF n x.2.2))) (fun j _ hj => hj)⟩⟩
        case measure => simp [intOf]; omega

    · have l0 : ¬ (i : Int) < (Ed.length : Int) := by omega
      obtain rfl : i = Ed.length := by omega
      have HEd : Hid (MkE B wr g3 k3 (Ed.map (toE n))) := hide ⟨by rw [List.length_map]; exact hm.out.e.le, by have := HYO.out; rw [mixE_len, mixG_full] at this; rw [List.length_map]; exact this⟩
      obtain ⟨E2, hE2⟩ : ∃ E2, Ed.map (toE n) = E2 := ⟨_, rfl⟩
      have HL2 : Hid (E2.length = Ed.length) := hide (by rw [← hE2, List.length_map])
      rw [hE2] at HEd
      clear hE2 HYO
      have GR : Hid (wr.heap[po]? = some (.cells #[.int .i64 n, .int .i64 m, .slice (some ⟨o1, 0, none⟩) St.length ko1, .slice (some ⟨o2, 0, none⟩) Fi.length ko2, .slice (some ⟨o3, 0, none⟩) Ed.length ko3] 25 (0, 0)) ∧ wr.heap[w.heap.size]? = some (.cells #[.int .i64 n, .int .i64 m, .slice (some ⟨g1, 0, none⟩) St.length k1, .slice (some ⟨g2, 0, none⟩) Fi.length k2, .slice (some ⟨g3, 0, none⟩) Ed.length k3] 25 (0, 0)) ∧ TwA W0.heap.size wr o1 ko1 o2 ko2 o3 ko3 St Fi Ed ∧ TwA B wr g1 k1 g2 k2 g3 k3 St Fi E2 ∧ Below B w wr) := hide (by
        have s := HG3.out
        have s1 := HPO.out
        have s2 := H0.out.2.2
        have o1 := GD.out.2.2.1.s.lt
        have o2 := GD.out.2.2.1.f.lt
        have o3 := GD.out.2.2.1.e.lt
        have s3 := GD.out.2.2.2.2.size
        have dw := H0.out.1.trans (GD.out.2.2.2.2.mono H0.out.1.size)
        exact ⟨HYB.out.cellK GD.out.1 (by omega), HYB.out.cellK GD.out.2.1 (by omega), twA_onlyR GD.out.2.2.1 HYB.out (by omega) (by omega) (by omega), ⟨GD.out.2.2.2.1.s.only HYB.out hm.out.n13, GD.out.2.2.2.1.f.only HYB.out hm.out.n23, HEd.out, hm.out.n12, hm.out.n13, hm.out.n23⟩, (dw.mono hB).trans (HYB.out.toBelow (by omega) fun k hk => by omega)⟩)
      clear HEd HYB GD SK
      have T8 : Calls Tryz.prog 10 #[.agg #[.int .i64 n, .int .i64 m, .slice (some ⟨g1, 0, none⟩) St.length k1, .slice (some ⟨g2, 0, none⟩) Fi.length k2, .slice (some ⟨g3, 0, none⟩) Ed.length k3]] wr fun e w' => ∃ u1 ku1 u2 ku2 u3 ku3, e = .returned (.agg #[.int .i64 n, .int .i64 m, .slice (some ⟨u1, 0, none⟩) St.length ku1, .slice (some ⟨u2, 0, none⟩) Fi.length ku2, .slice (some ⟨u3, 0, none⟩) Ed.length ku3]) ∧ Hid (TwA wr.heap.size w' u1 ku1 u2 ku2 u3 ku3 St Fi E2) ∧ Below wr.heap.size wr w' := by
        have t := twin_any wr n m (some ⟨g1, 0, none⟩) (some ⟨g2, 0, none⟩) (some ⟨g3, 0, none⟩) k1 k2 k3 St Fi E2 (hide GR.out.2.2.2.1.rd) h1 h2 (by rw [HL2.out]; exact h3)
        rw [HL2.out] at t
        exact t
      go_upto_region 9 with (go_at_call 10; refine T8.mono ?_; rintro e w8 ⟨u1, ku1, u2, ku2, u3, ku3, rfl, HU, D8⟩)
      clear T8 y0 y1 y2 y3 y4
      obtain ⟨W8, hW⟩ : ∃ X, w8.alloc (.cells #[.int .i64 n, .int .i64 m, .slice (some ⟨u1, 0, none⟩) St.length ku1, .slice (some ⟨u2, 0, none⟩) Fi.length ku2, .slice (some ⟨u3, 0, none⟩) Ed.length ku3] 25) = X := ⟨_, rfl⟩
      have G8 : Hid (W8.heap[w8.heap.size]? = some (.cells #[.int .i64 n, .int .i64 m, .slice (some ⟨u1, 0, none⟩) St.length ku1, .slice (some ⟨u2, 0, none⟩) Fi.length ku2, .slice (some ⟨u3, 0, none⟩) Ed.length ku3] 25 (0, 0)) ∧ W8.heap[po]? = some (.cells #[.int .i64 n, .int .i64 m, .slice (some ⟨o1, 0, none⟩) St.length ko1, .slice (some ⟨o2, 0, none⟩) Fi.length ko2, .slice (some ⟨o3, 0, none⟩) Ed.length ko3] 25 (0, 0)) ∧ W8.heap[w.heap.size]? = some (.cells #[.int .i64 n, .int .i64 m, .slice (some ⟨g1, 0, none⟩) St.length k1, .slice (some ⟨g2, 0, none⟩) Fi.length k2, .slice (some ⟨g3, 0, none⟩) Ed.length k3] 25 (0, 0)) ∧ TwA wr.heap.size W8 u1 ku1 u2 ku2 u3 ku3 St Fi E2 ∧ TwA W0.heap.size W8 o1 ko1 o2 ko2 o3 ko3 St Fi Ed ∧ TwA B W8 g1 k1 g2 k2 g3 k3 St Fi E2 ∧ Below B w W8) := hide (by
        have dn : Below w8.heap.size w8 W8 := by rw [← hW]; exact alloc_below _ _
        have e1 := D8.trans (dn.mono D8.size)
        exact ⟨by rw [← hW]; exact World.alloc_heap_new _ _, blk_on GR.out.1 e1, blk_on GR.out.2.1 e1, HU.out.on dn, GR.out.2.2.1.on e1, GR.out.2.2.2.1.on e1, GR.out.2.2.2.2.trans (e1.mono (Nat.le_trans hB GR.out.2.2.2.2.size))⟩)
      rw [hW]
      clear hW HU D8 GR
      generalize w8.heap.size = pu at G8 ⊢
      have HKU : Hid (E2.length ≤ ku3) := hide (by have := G8.out.2.2.2.1.e.le; omega)
      have SKK : Hid (∀ W, Below W8.heap.size W8 W → (fun W => (W.cell? ⟨w.heap.size, 0, none⟩ = some (.int .i64 n) ∧ W.cell? ⟨w.heap.size, 1, none⟩ = some (.int .i64 m) ∧ W.cell? ⟨w.heap.size, 2, none⟩ = some (.slice (some ⟨g1, 0, none⟩) St.length k1) ∧ W.cell? ⟨w.heap.size, 3, none⟩ = some (.slice (some ⟨g2, 0, none⟩) Fi.length k2) ∧ W.cell? ⟨w.heap.size, 4, none⟩ = some (.slice (some ⟨g3, 0, none⟩) Ed.length k3)) ∧ (W.cell? ⟨po, 0, none⟩ = some (.int .i64 n) ∧ W.cell? ⟨po, 1, none⟩ = some (.int .i64 m) ∧ W.cell? ⟨po, 2, none⟩ = some (.slice (some ⟨o1, 0, none⟩) St.length ko1) ∧ W.cell? ⟨po, 3, none⟩ = some (.slice (some ⟨o2, 0, none⟩) Fi.length ko2) ∧ W.cell? ⟨po, 4, none⟩ = some (.slice (some ⟨o3, 0, none⟩) Ed.length ko3)) ∧ (W.cell? ⟨pu, 0, none⟩ = some (.int .i64 n) ∧ W.cell? ⟨pu, 1, none⟩ = some (.int .i64 m) ∧ W.cell? ⟨pu, 2, none⟩ = some (.slice (some ⟨u1, 0, none⟩) St.length ku1) ∧ W.cell? ⟨pu, 3, none⟩ = some (.slice (some ⟨u2, 0, none⟩) Fi.length ku2) ∧ W.cell? ⟨pu, 4, none⟩ = some (.slice (some ⟨u3, 0, none⟩) Ed.length ku3)) ∧ Hid (Below W8.heap.size W8 W)) W) := hide (fun W d => by
        have e0 := blk_on G8.out.2.2.1 d
        have e1 := blk_on G8.out.2.1 d
        have e2 := blk_on G8.out.1 d
        exact ⟨⟨cell_of e0 rfl, cell_of e0 rfl, cell_of e0 rfl, cell_of e0 rfl, cell_of e0 rfl⟩, ⟨cell_of e1 rfl, cell_of e1 rfl, cell_of e1 rfl, cell_of e1 rfl, cell_of e1 rfl⟩, ⟨cell_of e2 rfl, cell_of e2 rfl, cell_of e2 rfl, cell_of e2 rfl, cell_of e2 rfl⟩, hide d⟩)
      have TS : Hid (∀ W, Below W8.heap.size W8 W → Calls Tryz.prog 24 #[.agg #[.int .i64 n, .int .i64 m, .slice (some ⟨g1, 0, none⟩) St.length k1, .slice (some ⟨g2, 0, none⟩) Fi.length k2, .slice (some ⟨g3, 0, none⟩) Ed.length k3], .agg #[.int .i64 n, .int .i64 m, .slice (some ⟨o1, 0, none⟩) St.length ko1, .slice (some ⟨o2, 0, none⟩) Fi.length ko2, .slice (some ⟨o3, 0, none⟩) Ed.length ko3]] W fun e w' => e = .returned (.bool (smB n m n m St Fi E2 St Fi Ed)) ∧ Below W8.heap.size W8 w') := hide (fun W d => by
        have t := same_any W n m n m (some ⟨g1, 0, none⟩) (some ⟨g2, 0, none⟩) (some ⟨g3, 0, none⟩) (some ⟨o1, 0, none⟩) (some ⟨o2, 0, none⟩) (some ⟨o3, 0, none⟩) k1 k2 k3 ko1 ko2 ko3 St Fi E2 St Fi Ed (hide (G8.out.2.2.2.2.2.1.rd.on d)) (hide (G8.out.2.2.2.2.1.rd.on d)) h1 h2 (by rw [HL2.out]; exact h3) h1 h2 h3
        rw [HL2.out] at t
        exact t.mono fun e w' ⟨he, dd⟩ => ⟨he, d.trans (dd.mono d.size)⟩)
      have TT : Hid (∀ W, Below W8.heap.size W8 W → Calls Tryz.prog 40 #[.agg #[.int .i64 n, .int .i64 m, .slice (some ⟨u1, 0, none⟩) St.length ku1, .slice (some ⟨u2, 0, none⟩) Fi.length ku2, .slice (some ⟨u3, 0, none⟩) Ed.length ku3], .agg #[.int .i64 n, .int .i64 m, .slice (some ⟨o1, 0, none⟩) St.length ko1, .slice (some ⟨o2, 0, none⟩) Fi.length ko2, .slice (some ⟨o3, 0, none⟩) Ed.length ko3]] W fun e w' => e = .returned (.bool (smB n m n m St Fi E2 St Fi Ed)) ∧ Below W8.heap.size W8 w') := hide (fun W d => by
        have t := rsame_any W n m n m (some ⟨u1, 0, none⟩) (some ⟨u2, 0, none⟩) (some ⟨u3, 0, none⟩) (some ⟨o1, 0, none⟩) (some ⟨o2, 0, none⟩) (some ⟨o3, 0, none⟩) ku1 ku2 ku3 ko1 ko2 ko3 St Fi E2 St Fi Ed (hide (G8.out.2.2.2.1.rd.on d)) (hide (G8.out.2.2.2.2.1.rd.on d)) h1 h2 (by rw [HL2.out]; exact h3) h1 h2 h3 HKU.out HKO.out
        rw [HL2.out] at t
        exact t.mono fun e w' ⟨he, dd⟩ => ⟨he, d.trans (dd.mono d.size)⟩)
      have TV : Hid (∀ W, Below W8.heap.size W8 W → Calls Tryz.prog 22 #[.agg #[.int .i64 n, .int .i64 m, .slice (some ⟨g1, 0, none⟩) St.length k1, .slice (some ⟨g2, 0, none⟩) Fi.length k2, .slice (some ⟨g3, 0, none⟩) Ed.length k3]] W fun e w' => e = .returned (.int .i64 (if mayA n m St Fi E2 then 0 else 2)) ∧ Below W8.heap.size W8 w') := hide (fun W d => by
        have t := valid_any W n m (some ⟨g1, 0, none⟩) (some ⟨g2, 0, none⟩) (some ⟨g3, 0, none⟩) k1 k2 k3 St Fi E2 (hide (G8.out.2.2.2.2.2.1.rd.on d)) h1 h2 (by rw [HL2.out]; exact h3)
        rw [HL2.out] at t
        exact t.mono fun e w' ⟨he, dd⟩ => ⟨he, d.trans (dd.mono d.size)⟩)
      have TR : Hid (∀ W, Below W8.heap.size W8 W → Calls Tryz.prog 39 #[.agg #[.int .i64 n, .int .i64 m, .slice (some ⟨u1, 0, none⟩) St.length ku1, .slice (some ⟨u2, 0, none⟩) Fi.length ku2, .slice (some ⟨u3, 0, none⟩) Ed.length ku3]] W fun e w' => e = .returned (.int .i64 (if mayA n m St Fi E2 then 0 else 2)) ∧ Below W8.heap.size W8 w') := hide (fun W d => by
        have t := rvalid_any W n m (some ⟨u1, 0, none⟩) (some ⟨u2, 0, none⟩) (some ⟨u3, 0, none⟩) ku1 ku2 ku3 St Fi E2 (hide (G8.out.2.2.2.1.rd.on d)) h1 h2 (by rw [HL2.out]; exact h3)
        rw [HL2.out] at t
        exact t.mono fun e w' ⟨he, dd⟩ => ⟨he, d.trans (dd.mono d.size)⟩)
      generalize smB n m n m St Fi E2 St Fi Ed = sv at TS TT
      generalize (if mayA n m St Fi E2 then (0 : Int) else 2) = v at TV TR
      have kv : (v != v) = false := by simp
      have ks : (sv != sv) = false := by simp
      have SD : Hid (∀ W, (fun W => (W.cell? ⟨w.heap.size, 0, none⟩ = some (.int .i64 n) ∧ W.cell? ⟨w.heap.size, 1, none⟩ = some (.int .i64 m) ∧ W.cell? ⟨w.heap.size, 2, none⟩ = some (.slice (some ⟨g1, 0, none⟩) St.length k1) ∧ W.cell? ⟨w.heap.size, 3, none⟩ = some (.slice (some ⟨g2, 0, none⟩) Fi.length k2) ∧ W.cell? ⟨w.heap.size, 4, none⟩ = some (.slice (some ⟨g3, 0, none⟩) Ed.length k3)) ∧ (W.cell? ⟨po, 0, none⟩ = some (.int .i64 n) ∧ W.cell? ⟨po, 1, none⟩ = some (.int .i64 m) ∧ W.cell? ⟨po, 2, none⟩ = some (.slice (some ⟨o1, 0, none⟩) St.length ko1) ∧ W.cell? ⟨po, 3, none⟩ = some (.slice (some ⟨o2, 0, none⟩) Fi.length ko2) ∧ W.cell? ⟨po, 4, none⟩ = some (.slice (some ⟨o3, 0, none⟩) Ed.length ko3)) ∧ (W.cell? ⟨pu, 0, none⟩ = some (.int .i64 n) ∧ W.cell? ⟨pu, 1, none⟩ = some (.int .i64 m) ∧ W.cell? ⟨pu, 2, none⟩ = some (.slice (some ⟨u1, 0, none⟩) St.length ku1) ∧ W.cell? ⟨pu, 3, none⟩ = some (.slice (some ⟨u2, 0, none⟩) Fi.length ku2) ∧ W.cell? ⟨pu, 4, none⟩ = some (.slice (some ⟨u3, 0, none⟩) Ed.length ku3)) ∧ Hid (Below W8.heap.size W8 W)) W → Below W8.heap.size W8 W) := hide (fun W h => h.2.2.2.out)
      have S0 := SKK.out W8.drew (Below.refl _ _).drew
      go_region_held3 (fun W => (W.cell? ⟨w.heap.size, 0, none⟩ = some (.int .i64 n) ∧ W.cell? ⟨w.heap.size, 1, none⟩ = some (.int .i64 m) ∧ W.cell? ⟨w.heap.size, 2, none⟩ = some (.slice (some ⟨g1, 0, none⟩) St.length k1) ∧ W.cell? ⟨w.heap.size, 3, none⟩ = some (.slice (some ⟨g2, 0, none⟩) Fi.length k2) ∧ W.cell? ⟨w.heap.size, 4, none⟩ = some (.slice (some ⟨g3, 0, none⟩) Ed.length k3)) ∧ (W.cell? ⟨po, 0, none⟩ = some (.int .i64 n) ∧ W.cell? ⟨po, 1, none⟩ = some (.int .i64 m) ∧ W.cell? ⟨po, 2, none⟩ = some (.slice (some ⟨o1, 0, none⟩) St.length ko1) ∧ W.cell? ⟨po, 3, none⟩ = some (.slice (some ⟨o2, 0, none⟩) Fi.length ko2) ∧ W.cell? ⟨po, 4, none⟩ = some (.slice (some ⟨o3, 0, none⟩) Ed.length ko3)) ∧ (W.cell? ⟨pu, 0, none⟩ = some (.int .i64 n) ∧ W.cell? ⟨pu, 1, none⟩ = some (.int .i64 m) ∧ W.cell? ⟨pu, 2, none⟩ = some (.slice (some ⟨u1, 0, none⟩) St.length ku1) ∧ W.cell? ⟨pu, 3, none⟩ = some (.slice (some ⟨u2, 0, none⟩) Fi.length ku2) ∧ W.cell? ⟨pu, 4, none⟩ = some (.slice (some ⟨u3, 0, none⟩) Ed.length ku3)) ∧ Hid (Below W8.heap.size W8 W))
        (with_reducible assumption)
        ((first
            | (go_at_call 24; refine (TS.out _ (SD.out _ (by with_reducible assumption))).mono ?_; rintro e wa ⟨rfl, da⟩; have Swa := SKK.out wa da)
            | (go_at_call 40; refine (TT.out _ (SD.out _ (by with_reducible assumption))).mono ?_; rintro e wb ⟨rfl, db⟩; have Swb := SKK.out wb db)))
      clear S0 Swa Swb SD
      have HDB := hide db
      clear da db
      go_upto_region 11 with fail
      have S1 := SKK.out wb.drew HDB.out.drew
      have SD : Hid (∀ W, (fun W => (W.cell? ⟨w.heap.size, 0, none⟩ = some (.int .i64 n) ∧ W.cell? ⟨w.heap.size, 1, none⟩ = some (.int .i64 m) ∧ W.cell? ⟨w.heap.size, 2, none⟩ = some (.slice (some ⟨g1, 0, none⟩) St.length k1) ∧ W.cell? ⟨w.heap.size, 3, none⟩ = some (.slice (some ⟨g2, 0, none⟩) Fi.length k2) ∧ W.cell? ⟨w.heap.size, 4, none⟩ = some (.slice (some ⟨g3, 0, none⟩) Ed.length k3)) ∧ (W.cell? ⟨po, 0, none⟩ = some (.int .i64 n) ∧ W.cell? ⟨po, 1, none⟩ = some (.int .i64 m) ∧ W.cell? ⟨po, 2, none⟩ = some (.slice (some ⟨o1, 0, none⟩) St.length ko1) ∧ W.cell? ⟨po, 3, none⟩ = some (.slice (some ⟨o2, 0, none⟩) Fi.length ko2) ∧ W.cell? ⟨po, 4, none⟩ = some (.slice (some ⟨o3, 0, none⟩) Ed.length ko3)) ∧ (W.cell? ⟨pu, 0, none⟩ = some (.int .i64 n) ∧ W.cell? ⟨pu, 1, none⟩ = some (.int .i64 m) ∧ W.cell? ⟨pu, 2, none⟩ = some (.slice (some ⟨u1, 0, none⟩) St.length ku1) ∧ W.cell? ⟨pu, 3, none⟩ = some (.slice (some ⟨u2, 0, none⟩) Fi.length ku2) ∧ W.cell? ⟨pu, 4, none⟩ = some (.slice (some ⟨u3, 0, none⟩) Ed.length ku3)) ∧ Hid (Below W8.heap.size W8 W)) W → Below W8.heap.size W8 W) := hide (fun W h => h.2.2.2.out)
      go_region_held3 (fun W => (W.cell? ⟨w.heap.size, 0, none⟩ = some (.int .i64 n) ∧ W.cell? ⟨w.heap.size, 1, none⟩ = some (.int .i64 m) ∧ W.cell? ⟨w.heap.size, 2, none⟩ = some (.slice (some ⟨g1, 0, none⟩) St.length k1) ∧ W.cell? ⟨w.heap.size, 3, none⟩ = some (.slice (some ⟨g2, 0, none⟩) Fi.length k2) ∧ W.cell? ⟨w.heap.size, 4, none⟩ = some (.slice (some ⟨g3, 0, none⟩) Ed.length k3)) ∧ (W.cell? ⟨po, 0, none⟩ = some (.int .i64 n) ∧ W.cell? ⟨po, 1, none⟩ = some (.int .i64 m) ∧ W.cell? ⟨po, 2, none⟩ = some (.slice (some ⟨o1, 0, none⟩) St.length ko1) ∧ W.cell? ⟨po, 3, none⟩ = some (.slice (some ⟨o2, 0, none⟩) Fi.length ko2) ∧ W.cell? ⟨po, 4, none⟩ = some (.slice (some ⟨o3, 0, none⟩) Ed.length ko3)) ∧ (W.cell? ⟨pu, 0, none⟩ = some (.int .i64 n) ∧ W.cell? ⟨pu, 1, none⟩ = some (.int .i64 m) ∧ W.cell? ⟨pu, 2, none⟩ = some (.slice (some ⟨u1, 0, none⟩) St.length ku1) ∧ W.cell? ⟨pu, 3, none⟩ = some (.slice (some ⟨u2, 0, none⟩) Fi.length ku2) ∧ W.cell? ⟨pu, 4, none⟩ = some (.slice (some ⟨u3, 0, none⟩) Ed.length ku3)) ∧ Hid (Below W8.heap.size W8 W))
        (with_reducible assumption)
        ((first
          | (go_at_call 22; refine (TV.out _ (SD.out _ (by with_reducible assumption))).mono ?_; rintro e wc ⟨rfl, dc⟩; have Swc := SKK.out wc dc)
          | (go_at_call 39; refine (TR.out _ (SD.out _ (by with_reducible assumption))).mono ?_; rintro e we ⟨rfl, de⟩; have Swe := SKK.out we de)))
      clear S1 Swc Swe SD dc
      have G11 : Hid (we.heap[w.heap.size]? = some (.cells #[.int .i64 n, .int .i64 m, .slice (some ⟨g1, 0, none⟩) St.length k1, .slice (some ⟨g2, 0, none⟩) Fi.length k2, .slice (some ⟨g3, 0, none⟩) Ed.length k3] 25 (0, 0)) ∧ TwA B we g1 k1 g2 k2 g3 k3 St Fi E2 ∧ Below B w we) := hide ⟨blk_on G8.out.2.2.1 de, G8.out.2.2.2.2.2.1.on de, G8.out.2.2.2.2.2.2.trans (de.mono (Nat.le_trans hB G8.out.2.2.2.2.2.2.size))⟩
      clear de HDB SKK TS TT TV TR kv ks G8 HKU HKO
      have y0 : we.cell? ⟨w.heap.size, 0, none⟩ = some (.int .i64 n) := cell_of G11.out.1 rfl
      have y1 : we.cell? ⟨w.heap.size, 1, none⟩ = some (.int .i64 m) := cell_of G11.out.1 rfl
      have y2 : we.cell? ⟨w.heap.size, 2, none⟩ = some (.slice (some ⟨g1, 0, none⟩) St.length k1) := cell_of G11.out.1 rfl
      have y3 : we.cell? ⟨w.heap.size, 3, none⟩ = some (.slice (some ⟨g2, 0, none⟩) Fi.length k2) := cell_of G11.out.1 rfl
      have y4 : we.cell? ⟨w.heap.size, 4, none⟩ = some (.slice (some ⟨g3, 0, none⟩) Ed.length k3) := cell_of G11.out.1 rfl
      by_cases hp : 0 < Ed.length
      · have l2 : (0 : Int) < (Ed.length : Int) := by omega
        have HP : Hid (0 < E2.length) := hide (by rw [HL2.out]; exact hp)
        obtain ⟨z0, zz0⟩ : ∃ v, we.cell? ⟨g3, 0, none⟩ = some v := by
          obtain ⟨_, _, e, q, _⟩ := G11.out.2.1.rd.e 0 HP.out
          cases e
          exact ⟨_, q⟩
        have zf : we.frozen? ⟨g3, 0, none⟩ = false := own_fz G11.out.2.1.e.rw 0
        go_upto_region 15 with fail
        obtain ⟨Wx, hX⟩ : ∃ X, we.setCell ⟨g3, 0, none⟩ (.int .i64 (-1)) = X := ⟨_, rfl⟩
        have GX : Hid (Wx.heap[w.heap.size]? = some (.cells #[.int .i64 n, .int .i64 m, .slice (some ⟨g1, 0, none⟩) St.length k1, .slice (some ⟨g2, 0, none⟩) Fi.length k2, .slice (some ⟨g3, 0, none⟩) Ed.length k3] 25 (0, 0)) ∧ TwA B Wx g1 k1 g2 k2 g3 k3 St Fi (badE E2) ∧ Below B w Wx) := hide (by
          have o := only_set we g3 0 (.int .i64 (-1))
          have t := mkE_bad G11.out.2.1.e HP.out
          rw [hX] at o t
          have s := HG3.out
          exact ⟨o.cellK G11.out.1 (by omega), ⟨G11.out.2.1.s.only o hm.out.n13, G11.out.2.1.f.only o hm.out.n23, t, hm.out.n12, hm.out.n13, hm.out.n23⟩, G11.out.2.2.trans (o.toBelow (Nat.le_trans hB G11.out.2.2.size) fun k hk => by omega)⟩)
        rw [hX]
        clear hX zz0 zf y0 y1 y2 y3 y4 G11
        have HLX : Hid ((badE E2).length = Ed.length) := hide (by rw [badE_len]; exact HL2.out)
        have y0 : Wx.cell? ⟨w.heap.size, 0, none⟩ = some (.int .i64 n) := cell_of GX.out.1 rfl
        have y1 : Wx.cell? ⟨w.heap.size, 1, none⟩ = some (.int .i64 m) := cell_of GX.out.1 rfl
        have y2 : Wx.cell? ⟨w.heap.size, 2, none⟩ = some (.slice (some ⟨g1, 0, none⟩) St.length k1) := cell_of GX.out.1 rfl
        have y3 : Wx.cell? ⟨w.heap.size, 3, none⟩ = some (.slice (some ⟨g2, 0, none⟩) Fi.length k2) := cell_of GX.out.1 rfl
        have y4 : Wx.cell? ⟨w.heap.size, 4, none⟩ = some (.slice (some ⟨g3, 0, none⟩) Ed.length k3) := cell_of GX.out.1 rfl
        have T10 : Calls Tryz.prog 10 #[.agg #[.int .i64 n, .int .i64 m, .slice (some ⟨g1, 0, none⟩) St.length k1, .slice (some ⟨g2, 0, none⟩) Fi.length k2, .slice (some ⟨g3, 0, none⟩) Ed.length k3]] Wx fun e w' => ∃ q1 kq1 q2 kq2 q3 kq3, e = .returned (.agg #[.int .i64 n, .int .i64 m, .slice (some ⟨q1, 0, none⟩) St.length kq1, .slice (some ⟨q2, 0, none⟩) Fi.length kq2, .slice (some ⟨q3, 0, none⟩) Ed.length kq3]) ∧ Hid (TwA Wx.heap.size w' q1 kq1 q2 kq2 q3 kq3 St Fi (badE E2)) ∧ Below Wx.heap.size Wx w' := by
          have t := twin_any Wx n m (some ⟨g1, 0, none⟩) (some ⟨g2, 0, none⟩) (some ⟨g3, 0, none⟩) k1 k2 k3 St Fi (badE E2) (hide GX.out.2.1.rd) h1 h2 (by rw [HLX.out]; exact h3)
          rw [HLX.out] at t
          exact t
        go_upto_region 16 with (go_at_call 10; refine T10.mono ?_; rintro e wq ⟨q1, kq1, q2, kq2, q3, kq3, rfl, HQ, DQ⟩)
        clear T10 y0 y1 y2 y3 y4
        obtain ⟨Wq, hW⟩ : ∃ X, wq.alloc (.cells #[.int .i64 n, .int .i64 m, .slice (some ⟨q1, 0, none⟩) St.length kq1, .slice (some ⟨q2, 0, none⟩) Fi.length kq2, .slice (some ⟨q3, 0, none⟩) Ed.length kq3] 25) = X := ⟨_, rfl⟩
        have GQ : Hid (Wq.heap[wq.heap.size]? = some (.cells #[.int .i64 n, .int .i64 m, .slice (some ⟨q1, 0, none⟩) St.length kq1, .slice (some ⟨q2, 0, none⟩) Fi.length kq2, .slice (some ⟨q3, 0, none⟩) Ed.length kq3] 25 (0, 0)) ∧ Wq.heap[w.heap.size]? = some (.cells #[.int .i64 n, .int .i64 m, .slice (some ⟨g1, 0, none⟩) St.length k1, .slice (some ⟨g2, 0, none⟩) Fi.length k2, .slice (some ⟨g3, 0, none⟩) Ed.length k3] 25 (0, 0)) ∧ TwA Wx.heap.size Wq q1 kq1 q2 kq2 q3 kq3 St Fi (badE E2) ∧ TwA B Wq g1 k1 g2 k2 g3 k3 St Fi (badE E2) ∧ Below Wx.heap.size Wx Wq) := hide (by
          have dn : Below wq.heap.size wq Wq := by rw [← hW]; exact alloc_below _ _
          have e1 := DQ.trans (dn.mono DQ.size)
          exact ⟨by rw [← hW]; exact World.alloc_heap_new _ _, blk_on (GX.out.1) e1, HQ.out.on dn, (GX.out.2.1).on e1, e1⟩)
        rw [hW]
        clear hW HQ DQ
        generalize wq.heap.size = pq at GQ ⊢
        have SKK : Hid (∀ W, Below Wq.heap.size Wq W → (fun W => (W.cell? ⟨w.heap.size, 0, none⟩ = some (.int .i64 n) ∧ W.cell? ⟨w.heap.size, 1, none⟩ = some (.int .i64 m) ∧ W.cell? ⟨w.heap.size, 2, none⟩ = some (.slice (some ⟨g1, 0, none⟩) St.length k1) ∧ W.cell? ⟨w.heap.size, 3, none⟩ = some (.slice (some ⟨g2, 0, none⟩) Fi.length k2) ∧ W.cell? ⟨w.heap.size, 4, none⟩ = some (.slice (some ⟨g3, 0, none⟩) Ed.length k3)) ∧ (W.cell? ⟨pq, 0, none⟩ = some (.int .i64 n) ∧ W.cell? ⟨pq, 1, none⟩ = some (.int .i64 m) ∧ W.cell? ⟨pq, 2, none⟩ = some (.slice (some ⟨q1, 0, none⟩) St.length kq1) ∧ W.cell? ⟨pq, 3, none⟩ = some (.slice (some ⟨q2, 0, none⟩) Fi.length kq2) ∧ W.cell? ⟨pq, 4, none⟩ = some (.slice (some ⟨q3, 0, none⟩) Ed.length kq3)) ∧ Hid (Below Wq.heap.size Wq W)) W) := hide (fun W d => by
          have e0 := blk_on GQ.out.2.1 d
          have e1 := blk_on GQ.out.1 d
          exact ⟨⟨cell_of e0 rfl, cell_of e0 rfl, cell_of e0 rfl, cell_of e0 rfl, cell_of e0 rfl⟩, ⟨cell_of e1 rfl, cell_of e1 rfl, cell_of e1 rfl, cell_of e1 rfl, cell_of e1 rfl⟩, hide d⟩)
        have TV : Hid (∀ W, Below Wq.heap.size Wq W → Calls Tryz.prog 22 #[.agg #[.int .i64 n, .int .i64 m, .slice (some ⟨g1, 0, none⟩) St.length k1, .slice (some ⟨g2, 0, none⟩) Fi.length k2, .slice (some ⟨g3, 0, none⟩) Ed.length k3]] W fun e w' => e = .returned (.int .i64 (if mayA n m St Fi (badE E2) then 0 else 2)) ∧ Below Wq.heap.size Wq w') := hide (fun W d => by
          have t := valid_any W n m (some ⟨g1, 0, none⟩) (some ⟨g2, 0, none⟩) (some ⟨g3, 0, none⟩) k1 k2 k3 St Fi (badE E2) (hide (GQ.out.2.2.2.1.rd.on d)) h1 h2 (by rw [HLX.out]; exact h3)
          rw [HLX.out] at t
          exact t.mono fun e w' ⟨he, dd⟩ => ⟨he, d.trans (dd.mono d.size)⟩)
        have TR : Hid (∀ W, Below Wq.heap.size Wq W → Calls Tryz.prog 39 #[.agg #[.int .i64 n, .int .i64 m, .slice (some ⟨q1, 0, none⟩) St.length kq1, .slice (some ⟨q2, 0, none⟩) Fi.length kq2, .slice (some ⟨q3, 0, none⟩) Ed.length kq3]] W fun e w' => e = .returned (.int .i64 (if mayA n m St Fi (badE E2) then 0 else 2)) ∧ Below Wq.heap.size Wq w') := hide (fun W d => by
          have t := rvalid_any W n m (some ⟨q1, 0, none⟩) (some ⟨q2, 0, none⟩) (some ⟨q3, 0, none⟩) kq1 kq2 kq3 St Fi (badE E2) (hide (GQ.out.2.2.1.rd.on d)) h1 h2 (by rw [HLX.out]; exact h3)
          rw [HLX.out] at t
          exact t.mono fun e w' ⟨he, dd⟩ => ⟨he, d.trans (dd.mono d.size)⟩)
        generalize (if mayA n m St Fi (badE E2) then (0 : Int) else 2) = v at TV TR
        have kv : (v == v) = true := by simp
        have SD : Hid (∀ W, (fun W => (W.cell? ⟨w.heap.size, 0, none⟩ = some (.int .i64 n) ∧ W.cell? ⟨w.heap.size, 1, none⟩ = some (.int .i64 m) ∧ W.cell? ⟨w.heap.size, 2, none⟩ = some (.slice (some ⟨g1, 0, none⟩) St.length k1) ∧ W.cell? ⟨w.heap.size, 3, none⟩ = some (.slice (some ⟨g2, 0, none⟩) Fi.length k2) ∧ W.cell? ⟨w.heap.size, 4, none⟩ = some (.slice (some ⟨g3, 0, none⟩) Ed.length k3)) ∧ (W.cell? ⟨pq, 0, none⟩ = some (.int .i64 n) ∧ W.cell? ⟨pq, 1, none⟩ = some (.int .i64 m) ∧ W.cell? ⟨pq, 2, none⟩ = some (.slice (some ⟨q1, 0, none⟩) St.length kq1) ∧ W.cell? ⟨pq, 3, none⟩ = some (.slice (some ⟨q2, 0, none⟩) Fi.length kq2) ∧ W.cell? ⟨pq, 4, none⟩ = some (.slice (some ⟨q3, 0, none⟩) Ed.length kq3)) ∧ Hid (Below Wq.heap.size Wq W)) W → Below Wq.heap.size Wq W) := hide (fun W h => h.2.2.out)
        have S0 := SKK.out Wq.drew (Below.refl _ _).drew
        go_region_held3 (fun W => (W.cell? ⟨w.heap.size, 0, none⟩ = some (.int .i64 n) ∧ W.cell? ⟨w.heap.size, 1, none⟩ = some (.int .i64 m) ∧ W.cell? ⟨w.heap.size, 2, none⟩ = some (.slice (some ⟨g1, 0, none⟩) St.length k1) ∧ W.cell? ⟨w.heap.size, 3, none⟩ = some (.slice (some ⟨g2, 0, none⟩) Fi.length k2) ∧ W.cell? ⟨w.heap.size, 4, none⟩ = some (.slice (some ⟨g3, 0, none⟩) Ed.length k3)) ∧ (W.cell? ⟨pq, 0, none⟩ = some (.int .i64 n) ∧ W.cell? ⟨pq, 1, none⟩ = some (.int .i64 m) ∧ W.cell? ⟨pq, 2, none⟩ = some (.slice (some ⟨q1, 0, none⟩) St.length kq1) ∧ W.cell? ⟨pq, 3, none⟩ = some (.slice (some ⟨q2, 0, none⟩) Fi.length kq2) ∧ W.cell? ⟨pq, 4, none⟩ = some (.slice (some ⟨q3, 0, none⟩) Ed.length kq3)) ∧ Hid (Below Wq.heap.size Wq W))
          (with_reducible assumption)
          ((first
              | (go_at_call 22; refine (TV.out _ (SD.out _ (by with_reducible assumption))).mono ?_; rintro e wa ⟨rfl, da⟩; have Swa := SKK.out wa da)
              | (go_at_call 39; refine (TR.out _ (SD.out _ (by with_reducible assumption))).mono ?_; rintro e wb ⟨rfl, db⟩; have Swb := SKK.out wb db)))
        clear S0 Swa Swb SD
        go_wp2_with fail
        refine bodyPost_ret (results_tmp rfl _ _ _) rfl ?_
        exact ⟨rfl, hide ((GX.out.2.2).trans ((GQ.out.2.2.2.2.trans (db.mono GQ.out.2.2.2.2.size)).mono (by have := (GX.out.2.2).size; have := HBW.out; omega)))⟩
      · have l2 : ¬ (0 : Int) < (Ed.length : Int) := by omega
        go_upto_region 15 with fail
        clear y0 y1 y2 y3 y4
        have HLX : Hid ((E2).length = Ed.length) := hide (HL2.out)
        have y0 : we.cell? ⟨w.heap.size, 0, none⟩ = some (.int .i64 n) := cell_of G11.out.1 rfl
        have y1 : we.cell? ⟨w.heap.size, 1, none⟩ = some (.int .i64 m) := cell_of G11.out.1 rfl
        have y2 : we.cell? ⟨w.heap.size, 2, none⟩ = some (.slice (some ⟨g1, 0, none⟩) St.length k1) := cell_of G11.out.1 rfl
        have y3 : we.cell? ⟨w.heap.size, 3, none⟩ = some (.slice (some ⟨g2, 0, none⟩) Fi.length k2) := cell_of G11.out.1 rfl
        have y4 : we.cell? ⟨w.heap.size, 4, none⟩ = some (.slice (some ⟨g3, 0, none⟩) Ed.length k3) := cell_of G11.out.1 rfl
        have T10 : Calls Tryz.prog 10 #[.agg #[.int .i64 n, .int .i64 m, .slice (some ⟨g1, 0, none⟩) St.length k1, .slice (some ⟨g2, 0, none⟩) Fi.length k2, .slice (some ⟨g3, 0, none⟩) Ed.length k3]] we fun e w' => ∃ q1 kq1 q2 kq2 q3 kq3, e = .returned (.agg #[.int .i64 n, .int .i64 m, .slice (some ⟨q1, 0, none⟩) St.length kq1, .slice (some ⟨q2, 0, none⟩) Fi.length kq2, .slice (some ⟨q3, 0, none⟩) Ed.length kq3]) ∧ Hid (TwA we.heap.size w' q1 kq1 q2 kq2 q3 kq3 St Fi (E2)) ∧ Below we.heap.size we w' := by
          have t := twin_any we n m (some ⟨g1, 0, none⟩) (some ⟨g2, 0, none⟩) (some ⟨g3, 0, none⟩) k1 k2 k3 St Fi (E2) (hide G11.out.2.1.rd) h1 h2 (by rw [HLX.out]; exact h3)
          rw [HLX.out] at t
          exact t
        go_upto_region 16 with (go_at_call 10; refine T10.mono ?_; rintro e wq ⟨q1, kq1, q2, kq2, q3, kq3, rfl, HQ, DQ⟩)
        clear T10 y0 y1 y2 y3 y4
        obtain ⟨Wq, hW⟩ : ∃ X, wq.alloc (.cells #[.int .i64 n, .int .i64 m, .slice (some ⟨q1, 0, none⟩) St.length kq1, .slice (some ⟨q2, 0, none⟩) Fi.length kq2, .slice (some ⟨q3, 0, none⟩) Ed.length kq3] 25) = X := ⟨_, rfl⟩
        have GQ : Hid (Wq.heap[wq.heap.size]? = some (.cells #[.int .i64 n, .int .i64 m, .slice (some ⟨q1, 0, none⟩) St.length kq1, .slice (some ⟨q2, 0, none⟩) Fi.length kq2, .slice (some ⟨q3, 0, none⟩) Ed.length kq3] 25 (0, 0)) ∧ Wq.heap[w.heap.size]? = some (.cells #[.int .i64 n, .int .i64 m, .slice (some ⟨g1, 0, none⟩) St.length k1, .slice (some ⟨g2, 0, none⟩) Fi.length k2, .slice (some ⟨g3, 0, none⟩) Ed.length k3] 25 (0, 0)) ∧ TwA we.heap.size Wq q1 kq1 q2 kq2 q3 kq3 St Fi (E2) ∧ TwA B Wq g1 k1 g2 k2 g3 k3 St Fi (E2) ∧ Below we.heap.size we Wq) := hide (by
          have dn : Below wq.heap.size wq Wq := by rw [← hW]; exact alloc_below _ _
          have e1 := DQ.trans (dn.mono DQ.size)
          exact ⟨by rw [← hW]; exact World.alloc_heap_new _ _, blk_on (G11.out.1) e1, HQ.out.on dn, (G11.out.2.1).on e1, e1⟩)
        rw [hW]
        clear hW HQ DQ
        generalize wq.heap.size = pq at GQ ⊢
        have SKK : Hid (∀ W, Below Wq.heap.size Wq W → (fun W => (W.cell? ⟨w.heap.size, 0, none⟩ = some (.int .i64 n) ∧ W.cell? ⟨w.heap.size, 1, none⟩ = some (.int .i64 m) ∧ W.cell? ⟨w.heap.size, 2, none⟩ = some (.slice (some ⟨g1, 0, none⟩) St.length k1) ∧ W.cell? ⟨w.heap.size, 3, none⟩ = some (.slice (some ⟨g2, 0, none⟩) Fi.length k2) ∧ W.cell? ⟨w.heap.size, 4, none⟩ = some (.slice (some ⟨g3, 0, none⟩) Ed.length k3)) ∧ (W.cell? ⟨pq, 0, none⟩ = some (.int .i64 n) ∧ W.cell? ⟨pq, 1, none⟩ = some (.int .i64 m) ∧ W.cell? ⟨pq, 2, none⟩ = some (.slice (some ⟨q1, 0, none⟩) St.length kq1) ∧ W.cell? ⟨pq, 3, none⟩ = some (.slice (some ⟨q2, 0, none⟩) Fi.length kq2) ∧ W.cell? ⟨pq, 4, none⟩ = some (.slice (some ⟨q3, 0, none⟩) Ed.length kq3)) ∧ Hid (Below Wq.heap.size Wq W)) W) := hide (fun W d => by
          have e0 := blk_on GQ.out.2.1 d
          have e1 := blk_on GQ.out.1 d
          exact ⟨⟨cell_of e0 rfl, cell_of e0 rfl, cell_of e0 rfl, cell_of e0 rfl, cell_of e0 rfl⟩, ⟨cell_of e1 rfl, cell_of e1 rfl, cell_of e1 rfl, cell_of e1 rfl, cell_of e1 rfl⟩, hide d⟩)
        have TV : Hid (∀ W, Below Wq.heap.size Wq W → Calls Tryz.prog 22 #[.agg #[.int .i64 n, .int .i64 m, .slice (some ⟨g1, 0, none⟩) St.length k1, .slice (some ⟨g2, 0, none⟩) Fi.length k2, .slice (some ⟨g3, 0, none⟩) Ed.length k3]] W fun e w' => e = .returned (.int .i64 (if mayA n m St Fi (E2) then 0 else 2)) ∧ Below Wq.heap.size Wq w') := hide (fun W d => by
          have t := valid_any W n m (some ⟨g1, 0, none⟩) (some ⟨g2, 0, none⟩) (some ⟨g3, 0, none⟩) k1 k2 k3 St Fi (E2) (hide (GQ.out.2.2.2.1.rd.on d)) h1 h2 (by rw [HLX.out]; exact h3)
          rw [HLX.out] at t
          exact t.mono fun e w' ⟨he, dd⟩ => ⟨he, d.trans (dd.mono d.size)⟩)
        have TR : Hid (∀ W, Below Wq.heap.size Wq W → Calls Tryz.prog 39 #[.agg #[.int .i64 n, .int .i64 m, .slice (some ⟨q1, 0, none⟩) St.length kq1, .slice (some ⟨q2, 0, none⟩) Fi.length kq2, .slice (some ⟨q3, 0, none⟩) Ed.length kq3]] W fun e w' => e = .returned (.int .i64 (if mayA n m St Fi (E2) then 0 else 2)) ∧ Below Wq.heap.size Wq w') := hide (fun W d => by
          have t := rvalid_any W n m (some ⟨q1, 0, none⟩) (some ⟨q2, 0, none⟩) (some ⟨q3, 0, none⟩) kq1 kq2 kq3 St Fi (E2) (hide (GQ.out.2.2.1.rd.on d)) h1 h2 (by rw [HLX.out]; exact h3)
          rw [HLX.out] at t
          exact t.mono fun e w' ⟨he, dd⟩ => ⟨he, d.trans (dd.mono d.size)⟩)
        generalize (if mayA n m St Fi (E2) then (0 : Int) else 2) = v at TV TR
        have kv : (v == v) = true := by simp
        have SD : Hid (∀ W, (fun W => (W.cell? ⟨w.heap.size, 0, none⟩ = some (.int .i64 n) ∧ W.cell? ⟨w.heap.size, 1, none⟩ = some (.int .i64 m) ∧ W.cell? ⟨w.heap.size, 2, none⟩ = some (.slice (some ⟨g1, 0, none⟩) St.length k1) ∧ W.cell? ⟨w.heap.size, 3, none⟩ = some (.slice (some ⟨g2, 0, none⟩) Fi.length k2) ∧ W.cell? ⟨w.heap.size, 4, none⟩ = some (.slice (some ⟨g3, 0, none⟩) Ed.length k3)) ∧ (W.cell? ⟨pq, 0, none⟩ = some (.int .i64 n) ∧ W.cell? ⟨pq, 1, none⟩ = some (.int .i64 m) ∧ W.cell? ⟨pq, 2, none⟩ = some (.slice (some ⟨q1, 0, none⟩) St.length kq1) ∧ W.cell? ⟨pq, 3, none⟩ = some (.slice (some ⟨q2, 0, none⟩) Fi.length kq2) ∧ W.cell? ⟨pq, 4, none⟩ = some (.slice (some ⟨q3, 0, none⟩) Ed.length kq3)) ∧ Hid (Below Wq.heap.size Wq W)) W → Below Wq.heap.size Wq W) := hide (fun W h => h.2.2.out)
        have S0 := SKK.out Wq.drew (Below.refl _ _).drew
        go_region_held3 (fun W => (W.cell? ⟨w.heap.size, 0, none⟩ = some (.int .i64 n) ∧ W.cell? ⟨w.heap.size, 1, none⟩ = some (.int .i64 m) ∧ W.cell? ⟨w.heap.size, 2, none⟩ = some (.slice (some ⟨g1, 0, none⟩) St.length k1) ∧ W.cell? ⟨w.heap.size, 3, none⟩ = some (.slice (some ⟨g2, 0, none⟩) Fi.length k2) ∧ W.cell? ⟨w.heap.size, 4, none⟩ = some (.slice (some ⟨g3, 0, none⟩) Ed.length k3)) ∧ (W.cell? ⟨pq, 0, none⟩ = some (.int .i64 n) ∧ W.cell? ⟨pq, 1, none⟩ = some (.int .i64 m) ∧ W.cell? ⟨pq, 2, none⟩ = some (.slice (some ⟨q1, 0, none⟩) St.length kq1) ∧ W.cell? ⟨pq, 3, none⟩ = some (.slice (some ⟨q2, 0, none⟩) Fi.length kq2) ∧ W.cell? ⟨pq, 4, none⟩ = some (.slice (some ⟨q3, 0, none⟩) Ed.length kq3)) ∧ Hid (Below Wq.heap.size Wq W))
          (with_reducible assumption)
          ((first
              | (go_at_call 22; refine (TV.out _ (SD.out _ (by with_reducible assumption))).mono ?_; rintro e wa ⟨rfl, da⟩; have Swa := SKK.out wa da)
              | (go_at_call 39; refine (TR.out _ (SD.out _ (by with_reducible assumption))).mono ?_; rintro e wb ⟨rfl, db⟩; have Swb := SKK.out wb db)))
        clear S0 Swa Swb SD
        go_wp2_with fail
        refine bodyPost_ret (results_tmp rfl _ _ _) rfl ?_
        exact ⟨rfl, hide ((G11.out.2.2).trans ((GQ.out.2.2.2.2.trans (db.mono GQ.out.2.2.2.2.size)).mono (by have := (G11.out.2.2).size; have := HBW.out; omega)))⟩
end Go.Proofs.YtfoahpideglghaaGreatDoor
