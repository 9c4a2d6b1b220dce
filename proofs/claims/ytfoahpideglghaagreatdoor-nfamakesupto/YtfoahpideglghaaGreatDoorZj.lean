import Derived.Test.YtfoahpideglghaaGreatDoorZG
import Derived.Test.YtfoahpideglghaaGreatDoorBW
namespace Go.Proofs.YtfoahpideglghaaGreatDoor
open Go.RowKit Go.Maps Go.Shelf
attribute [local go_sem] Oper.semAt_some

/-! ### The document's Widen -/
theorem rise_rl (To : List Int) (L : List EdT) : riseE (rlEs To (riseE L)) = riseE (rlEs To L) := riseE_same fun x => by
  unfold rlEs
  rw [List.mem_map, List.mem_map]
  constructor
  · rintro ⟨y, hy, e⟩; exact ⟨y, (riseE_iff _ _).1 hy, e⟩
  · rintro ⟨y, hy, e⟩; exact ⟨y, (riseE_iff _ _).2 hy, e⟩
theorem rise_nodup {To : List Int} (h0 : ∀ x ∈ To, 0 ≤ x) : (riseL To).length = To.length ↔ To.Nodup := by
  have inj : ∀ (L : List Int), (∀ x ∈ L, 0 ≤ x) → (L.Nodup ↔ (L.map Int.toNat).Nodup) := fun L hL => by
    unfold List.Nodup
    rw [List.pairwise_map]
    constructor
    · intro h
      refine List.Pairwise.imp_of_mem (fun {a b} ha hb hab e => hab ?_) h
      have := hL a ha
      have := hL b hb
      omega
    · intro h
      exact h.imp fun {a b} hab e => hab (by rw [e])
  have hr : ∀ x ∈ riseL To, 0 ≤ x := fun x hx => h0 x ((riseL_iff To x).1 hx)
  have nr : (riseL To).Nodup := (riseL_ss To).imp fun {a b} h e => by omega
  have mem : ∀ x, x ∈ (riseL To).map Int.toNat ↔ x ∈ To.map Int.toNat := fun x => by
    rw [List.mem_map, List.mem_map]
    constructor
    · rintro ⟨y, hy, e⟩; exact ⟨y, (riseL_iff _ _).1 hy, e⟩
    · rintro ⟨y, hy, e⟩; exact ⟨y, (riseL_iff _ _).2 hy, e⟩
  constructor
  · intro h
    rw [inj To h0]
    exact nodup_of_len _ _ ((inj _ hr).1 nr) (fun x hx => (mem x).1 hx) (by rw [List.length_map, List.length_map]; omega)
  · intro h
    refine Nat.le_antisymm (riseL_len To) ?_
    have := sub_len ((riseL To).map Int.toNat) (To.map Int.toNat) ((inj To h0).1 h) (fun x hx => (mem x).2 hx)
    rwa [List.length_map, List.length_map] at this
theorem wide_of {m k : Int} {To : List Int} (hk : 0 ≤ k ∧ k ≤ 128) (hl : (To.length : Int) = m) (ht : To.all (inB k) = true) (hr : (riseL To).length = To.length) : wideOk m k To = true := by
  have hk2 : ((k.toNat : Nat) : Int) = k := Int.toNat_of_nonneg hk.1
  have ht2 : ∀ x ∈ To, 0 ≤ x ∧ x < ((k.toNat : Nat) : Int) := fun x hx => by have := inB_iff.1 (List.all_eq_true.1 ht x hx); omega
  unfold wideOk
  simp only [Bool.and_eq_true, decide_eq_true_eq]
  refine ⟨⟨⟨inB_iff.2 (by omega), hl⟩, okI_of (List.all_eq_true.2 fun x hx => inB_iff.2 (ht2 x hx))⟩, to_count ht2 ((rise_nodup fun x hx => (ht2 x hx).1).1 hr)⟩
theorem wide_iff {m k : Int} {To : List Int} : wideOk m k To = true → (0 ≤ k ∧ k ≤ 128) ∧ (To.length : Int) = m ∧ To.all (inB k) = true ∧ (riseL To).length = To.length := fun h => by
  obtain ⟨a, b, c, d⟩ := wide_parts h
  exact ⟨a, b, List.all_eq_true.2 fun x hx => inB_iff.2 (c x hx), (rise_nodup fun x hx => (c x hx).1).2 d⟩
theorem rowE_sym {W : World} {B b cap : Nat} {X : List EdT} (h : W.ownsRow B 59 3 (.slice (some ⟨b, 0, none⟩) X.length cap) X.length (X.flatMap encE)) (j : Nat) (z : Int) (hj : j < X.length) :
    (W.setCell ⟨b, j * 3 + 1, none⟩ (.int .i64 z)).ownsRow B 59 3 (.slice (some ⟨b, 0, none⟩) (X.set j (X[j].1, z, X[j].2.2)).length cap) (X.set j (X[j].1, z, X[j].2.2)).length ((X.set j (X[j].1, z, X[j].2.2)).flatMap encE) := by
  refine ⟨by rw [flatE_len], ?_⟩
  rcases h.2 with ⟨z, _⟩ | ⟨g, cap', cur, e, hb, hg, hn, hc, hs, ht⟩
  · cases z
  · cases e
    refine .inr ⟨b, cap, _, rfl, hb, heap_setCell_same _ _ _ _ 59 _ hg, by rw [List.length_set]; exact hn, hc, by simpa using hs, ?_⟩
    rw [List.length_set]
    apply List.ext_getElem?
    intro t
    have hcz : X.length * 3 ≤ cur.size := by rw [hs]; exact Nat.mul_le_mul_right 3 hn
    by_cases hq : t / 3 < X.length
    · have htl : t < X.length * 3 := by omega
      have old : cur[t]? = (encE X[t / 3])[t % 3]? := by rw [← flatE_at X t hq, ← ht, List.getElem?_take_of_lt htl, Array.getElem?_toList]
      rw [List.getElem?_take_of_lt htl, flatE_at _ t (by rw [List.length_set]; exact hq), List.getElem_set, Array.getElem?_toList]
      simp only [Array.getElem?_setIfInBounds]
      by_cases hjq : j = t / 3
      · rw [if_pos hjq]
        subst hjq
        have : t = t / 3 * 3 ∨ t = t / 3 * 3 + 1 ∨ t = t / 3 * 3 + 2 := by omega
        rcases this with h5 | h5 | h5
        · rw [if_neg (by omega), old, show t % 3 = 0 by omega]; rfl
        · rw [if_pos (by omega), if_pos (by omega), show t % 3 = 1 by omega]; rfl
        · rw [if_neg (by omega), old, show t % 3 = 2 by omega]; rfl
      · rw [if_neg hjq, if_neg (by omega), old]
    · rw [flatE_none _ t (by rw [List.length_set]; exact hq), List.getElem?_take_eq_none (by omega)]
set_option maxRecDepth 100000 in
set_option maxHeartbeats 4000000 in
theorem rwiden_auto (w : World) (n m k : Int) (a1 a2 a3 a0 : Option Addr) (c1 c2 c3 c0 : Nat) (St Fi To : List Int) (Ed : List EdT) (hA : Hid (RdA w a1 a2 a3 St Fi Ed)) (h1 : St.length ≤ 4194304) (h2 : Fi.length ≤ 4194304) (h3 : Ed.length ≤ 4194304) (em : mayA n m St Fi Ed = false) :
    Calls Tryz.prog 36 #[.agg #[.int .i64 n, .int .i64 m, .slice a1 St.length c1, .slice a2 Fi.length c2, .slice a3 Ed.length c3], .int .i64 k, .slice a0 To.length c0] w fun e w' => e = .returned (.tuple #[.agg #[.int .i64 0, .int .i64 0, .slice none 0 0, .slice none 0 0, .slice none 0 0], .int .i64 2]) ∧ Below w.heap.size w w' := by
  obtain ⟨W0, hW0⟩ : ∃ W0, (w.alloc (.cells #[.int .i64 n, .int .i64 m, .slice a1 St.length c1, .slice a2 Fi.length c2, .slice a3 Ed.length c3] 25)).alloc (.cells #[.int .i64 0, .int .i64 0, .slice none 0 0, .slice none 0 0, .slice none 0 0] 25) = W0 := ⟨_, rfl⟩
  have HD := hide (box2 w #[.int .i64 n, .int .i64 m, .slice a1 St.length c1, .slice a2 Fi.length c2, .slice a3 Ed.length c3] #[.int .i64 0, .int .i64 0, .slice none 0 0, .slice none 0 0, .slice none 0 0] 25)
  rw [hW0] at HD
  have y0 : W0.cell? ⟨w.heap.size, 0, none⟩ = some (.int .i64 n) := cell_of HD.out.2.1 rfl
  have y1 : W0.cell? ⟨w.heap.size, 1, none⟩ = some (.int .i64 m) := cell_of HD.out.2.1 rfl
  have y2 : W0.cell? ⟨w.heap.size, 2, none⟩ = some (.slice a1 St.length c1) := cell_of HD.out.2.1 rfl
  have y3 : W0.cell? ⟨w.heap.size, 3, none⟩ = some (.slice a2 Fi.length c2) := cell_of HD.out.2.1 rfl
  have y4 : W0.cell? ⟨w.heap.size, 4, none⟩ = some (.slice a3 Ed.length c3) := cell_of HD.out.2.1 rfl
  have TN := rnormal_bad W0 n m a1 a2 a3 c1 c2 c3 St Fi Ed (hide (hA.out.on HD.out.1)) h1 h2 h3 em
  clear em
  go_enter Tryz.func36, Tryz.ntmps36
  go_upto_region 3 with (go_at_call 32; refine TN.mono ?_; rintro e wa ⟨rfl, D1⟩; have DB := hide D1)
  obtain ⟨X, hX⟩ : ∃ X, wa.alloc (.cells #[.int .i64 0, .int .i64 0, .slice none 0 0, .slice none 0 0, .slice none 0 0] 25) = X := ⟨_, rfl⟩
  rw [hX]
  have HX : Hid (X.heap[wa.heap.size]? = some (.cells #[.int .i64 0, .int .i64 0, .slice none 0 0, .slice none 0 0, .slice none 0 0] 25 (0, 0)) ∧ Below W0.heap.size W0 X) := hide (by rw [← hX]; exact ⟨World.alloc_heap_new _ _, DB.out.alloc DB.out.size _⟩)
  have HX2 := hide HX.out.2
  have F4 := HX.out.1
  have x0 : X.cell? ⟨wa.heap.size, 0, none⟩ = some (.int .i64 0) := cell_of F4 rfl
  have x1 : X.cell? ⟨wa.heap.size, 1, none⟩ = some (.int .i64 0) := cell_of F4 rfl
  have x2 : X.cell? ⟨wa.heap.size, 2, none⟩ = some (.slice none 0 0) := cell_of F4 rfl
  have x3 : X.cell? ⟨wa.heap.size, 3, none⟩ = some (.slice none 0 0) := cell_of F4 rfl
  have x4 : X.cell? ⟨wa.heap.size, 4, none⟩ = some (.slice none 0 0) := cell_of F4 rfl
  clear F4
  have F3 := blk_on HD.out.2.2.1 HX2.out
  have o0 : X.cell? ⟨w.heap.size + 1, 0, none⟩ = some (.int .i64 0) := cell_of F3 rfl
  have g0 : X.frozen? ⟨w.heap.size + 1, 0, none⟩ = false := fz_of F3
  have o1 : X.cell? ⟨w.heap.size + 1, 1, none⟩ = some (.int .i64 0) := cell_of F3 rfl
  have g1 : X.frozen? ⟨w.heap.size + 1, 1, none⟩ = false := fz_of F3
  have o2 : X.cell? ⟨w.heap.size + 1, 2, none⟩ = some (.slice none 0 0) := cell_of F3 rfl
  have g2 : X.frozen? ⟨w.heap.size + 1, 2, none⟩ = false := fz_of F3
  have o3 : X.cell? ⟨w.heap.size + 1, 3, none⟩ = some (.slice none 0 0) := cell_of F3 rfl
  have g3 : X.frozen? ⟨w.heap.size + 1, 3, none⟩ = false := fz_of F3
  have o4 : X.cell? ⟨w.heap.size + 1, 4, none⟩ = some (.slice none 0 0) := cell_of F3 rfl
  have g4 : X.frozen? ⟨w.heap.size + 1, 4, none⟩ = false := fz_of F3
  have O6 := hide (And.intro (set5 X (w.heap.size + 1) _ _ _ _ _ (.int .i64 0) (.int .i64 0) (.slice none 0 0) (.slice none 0 0) (.slice none 0 0) 25 F3) (only5 X (w.heap.size + 1) (.int .i64 0) (.int .i64 0) (.slice none 0 0) (.slice none 0 0) (.slice none 0 0)))
  clear F3
  go_wp2_with fail
  refine bodyPost_ret (results_c1 (p := 6) (q := 7) (ty := 25) rfl _ _ (w.heap.size + 1) 25 _ (0, 0) _ _ rfl rfl O6.out.1 Tryz.underlying25 rfl (by kernel_rfl)) rfl ?_
  have s1 := HD.out.2.2.2
  have s2 := HX2.out.size
  exact ⟨rfl, (HD.out.1.trans (HX2.out.mono (by omega))).trans (O6.out.2.toBelow (by omega) (fun k hk => by omega))⟩

set_option maxRecDepth 100000 in
set_option maxHeartbeats 4000000 in
theorem rwiden_arg (w : World) (n m k : Int) (a1 a2 a3 a0 : Option Addr) (c1 c2 c3 c0 : Nat) (St Fi To : List Int) (Ed : List EdT) (hA : Hid (RdA w a1 a2 a3 St Fi Ed)) (hTo : Hid (RdN w a0 To)) (h1 : St.length ≤ 4194304) (h2 : Fi.length ≤ 4194304) (h3 : Ed.length ≤ 4194304) (h4 : To.length ≤ 4194304) (hc : Ed.length ≤ c3) (em : mayA n m St Fi Ed = true) (ew : wideOk m k To = false) :
    Calls Tryz.prog 36 #[.agg #[.int .i64 n, .int .i64 m, .slice a1 St.length c1, .slice a2 Fi.length c2, .slice a3 Ed.length c3], .int .i64 k, .slice a0 To.length c0] w fun e w' => e = .returned (.tuple #[.agg #[.int .i64 0, .int .i64 0, .slice none 0 0, .slice none 0 0, .slice none 0 0], .int .i64 1]) ∧ Below w.heap.size w w' := by
  obtain ⟨W0, hW0⟩ : ∃ W0, (w.alloc (.cells #[.int .i64 n, .int .i64 m, .slice a1 St.length c1, .slice a2 Fi.length c2, .slice a3 Ed.length c3] 25)).alloc (.cells #[.int .i64 0, .int .i64 0, .slice none 0 0, .slice none 0 0, .slice none 0 0] 25) = W0 := ⟨_, rfl⟩
  have HD := hide (box2 w #[.int .i64 n, .int .i64 m, .slice a1 St.length c1, .slice a2 Fi.length c2, .slice a3 Ed.length c3] #[.int .i64 0, .int .i64 0, .slice none 0 0, .slice none 0 0, .slice none 0 0] 25)
  rw [hW0] at HD
  have y0 : W0.cell? ⟨w.heap.size, 0, none⟩ = some (.int .i64 n) := cell_of HD.out.2.1 rfl
  have y1 : W0.cell? ⟨w.heap.size, 1, none⟩ = some (.int .i64 m) := cell_of HD.out.2.1 rfl
  have y2 : W0.cell? ⟨w.heap.size, 2, none⟩ = some (.slice a1 St.length c1) := cell_of HD.out.2.1 rfl
  have y3 : W0.cell? ⟨w.heap.size, 3, none⟩ = some (.slice a2 Fi.length c2) := cell_of HD.out.2.1 rfl
  have y4 : W0.cell? ⟨w.heap.size, 4, none⟩ = some (.slice a3 Ed.length c3) := cell_of HD.out.2.1 rfl
  have TN := rnormal_ok W0 n m a1 a2 a3 c1 c2 c3 St Fi Ed (hide (hA.out.on HD.out.1)) h1 h2 h3 hc em
  have HLE : Hid ((riseE Ed).length ≤ 4194304) := hide (Nat.le_trans (riseE_len _) h3)
  have HM := hide (And.intro (may_parts em).1 (And.intro (may_parts em).2.1 (may_parts (may_rise em)).2.2.2.2.2))
  have HRT := hide (rise_rl To Ed)
  obtain ⟨S1, hS1⟩ : ∃ X, riseL St = X := ⟨_, rfl⟩
  obtain ⟨F1, hF1⟩ : ∃ X, riseL Fi = X := ⟨_, rfl⟩
  obtain ⟨E1, hE1⟩ : ∃ X, riseE Ed = X := ⟨_, rfl⟩
  obtain ⟨T1, hT1⟩ : ∃ X, riseE (rlEs To Ed) = X := ⟨_, rfl⟩
  rw [hS1, hF1, hE1] at TN
  rw [hE1] at HLE HRT HM
  rw [hT1] at HRT
  have HW := hide ew
  clear em ew hS1 hF1 hE1 hT1
  go_enter Tryz.func36, Tryz.ntmps36
  go_upto_region 4 with (go_at_call 32; refine TN.mono ?_; rintro e wa ⟨b1, k1, b2, k2, b3, k3, rfl, HO, D1⟩; have DB := hide D1; clear D1)
  clear TN
  obtain ⟨wq, hwq⟩ : ∃ X, wa.alloc (.cells #[.int .i64 n, .int .i64 m, .slice b1 S1.length k1, .slice b2 F1.length k2, .slice b3 E1.length k3] 25) = X := ⟨_, rfl⟩
  rw [hwq]
  have BQ : Hid (wq.heap[wa.heap.size]? = some (.cells #[.int .i64 n, .int .i64 m, .slice b1 S1.length k1, .slice b2 F1.length k2, .slice b3 E1.length k3] 25 (0, 0)) ∧ W0.heap.size ≤ wa.heap.size ∧ wa.heap.size < wq.heap.size) := hide (by rw [← hwq]; exact ⟨World.alloc_heap_new _ _, DB.out.size, by simp⟩)
  have DQ : Hid (Below W0.heap.size W0 wq) := hide (by rw [← hwq]; exact DB.out.alloc DB.out.size _)
  have OQ : Hid (OwnO W0.heap.size wq (.slice b1 S1.length k1) (.slice b2 F1.length k2) (.slice b3 E1.length k3) S1 F1 E1) := hide (by rw [← hwq]; exact HO.out.on ((Below.refl _ _).alloc (Nat.le_refl _) _))
  clear hwq HO y0 y1 y2 y3 y4
  have y1 : wq.cell? ⟨w.heap.size, 1, none⟩ = some (.int .i64 m) := cell_of (blk_on HD.out.2.1 DQ.out) rfl
  have RT : Hid (∀ W, Below W0.heap.size W0 W → RdN W a0 To) := hide (fun W d => (hTo.out.on HD.out.1).on d)
  have T74 := below_any wq a0 To c0 k (hide (RT.out wq DQ.out)) h4
  have T72 := set_any wq a0 To c0 (hide (RT.out wq DQ.out)) h4
  by_cases x0 : k < 0
  · go_upto_region 5 with fail
    have F3 := blk_on HD.out.2.2.1 DQ.out
    have o0 : wq.cell? ⟨w.heap.size + 1, 0, none⟩ = some (.int .i64 0) := cell_of F3 rfl
    have g0 : wq.frozen? ⟨w.heap.size + 1, 0, none⟩ = false := fz_of F3
    have o1 : wq.cell? ⟨w.heap.size + 1, 1, none⟩ = some (.int .i64 0) := cell_of F3 rfl
    have g1 : wq.frozen? ⟨w.heap.size + 1, 1, none⟩ = false := fz_of F3
    have o2 : wq.cell? ⟨w.heap.size + 1, 2, none⟩ = some (.slice none 0 0) := cell_of F3 rfl
    have g2 : wq.frozen? ⟨w.heap.size + 1, 2, none⟩ = false := fz_of F3
    have o3 : wq.cell? ⟨w.heap.size + 1, 3, none⟩ = some (.slice none 0 0) := cell_of F3 rfl
    have g3 : wq.frozen? ⟨w.heap.size + 1, 3, none⟩ = false := fz_of F3
    have o4 : wq.cell? ⟨w.heap.size + 1, 4, none⟩ = some (.slice none 0 0) := cell_of F3 rfl
    have g4 : wq.frozen? ⟨w.heap.size + 1, 4, none⟩ = false := fz_of F3
    have O6 := hide (And.intro (set5 wq (w.heap.size + 1) _ _ _ _ _ (.int .i64 0) (.int .i64 0) (.slice none 0 0) (.slice none 0 0) (.slice none 0 0) 25 F3) (only5 wq (w.heap.size + 1) (.int .i64 0) (.int .i64 0) (.slice none 0 0) (.slice none 0 0) (.slice none 0 0)))
    clear F3
    go_wp2_with fail
    refine bodyPost_ret (results_c1 (p := 6) (q := 7) (ty := 25) rfl _ _ (w.heap.size + 1) 25 _ (0, 0) _ _ rfl rfl O6.out.1 Tryz.underlying25 rfl (by kernel_rfl)) rfl ?_
    have s1 := HD.out.2.2.2
    have s2 := DQ.out.size
    exact ⟨rfl, (HD.out.1.trans (DQ.out.mono (by omega))).trans (O6.out.2.toBelow (by omega) (fun k hk => by omega))⟩
  · by_cases x1 : k > 128
    · go_upto_region 5 with fail
      have F3 := blk_on HD.out.2.2.1 DQ.out
      have o0 : wq.cell? ⟨w.heap.size + 1, 0, none⟩ = some (.int .i64 0) := cell_of F3 rfl
      have g0 : wq.frozen? ⟨w.heap.size + 1, 0, none⟩ = false := fz_of F3
      have o1 : wq.cell? ⟨w.heap.size + 1, 1, none⟩ = some (.int .i64 0) := cell_of F3 rfl
      have g1 : wq.frozen? ⟨w.heap.size + 1, 1, none⟩ = false := fz_of F3
      have o2 : wq.cell? ⟨w.heap.size + 1, 2, none⟩ = some (.slice none 0 0) := cell_of F3 rfl
      have g2 : wq.frozen? ⟨w.heap.size + 1, 2, none⟩ = false := fz_of F3
      have o3 : wq.cell? ⟨w.heap.size + 1, 3, none⟩ = some (.slice none 0 0) := cell_of F3 rfl
      have g3 : wq.frozen? ⟨w.heap.size + 1, 3, none⟩ = false := fz_of F3
      have o4 : wq.cell? ⟨w.heap.size + 1, 4, none⟩ = some (.slice none 0 0) := cell_of F3 rfl
      have g4 : wq.frozen? ⟨w.heap.size + 1, 4, none⟩ = false := fz_of F3
      have O6 := hide (And.intro (set5 wq (w.heap.size + 1) _ _ _ _ _ (.int .i64 0) (.int .i64 0) (.slice none 0 0) (.slice none 0 0) (.slice none 0 0) 25 F3) (only5 wq (w.heap.size + 1) (.int .i64 0) (.int .i64 0) (.slice none 0 0) (.slice none 0 0) (.slice none 0 0)))
      clear F3
      go_wp2_with fail
      refine bodyPost_ret (results_c1 (p := 6) (q := 7) (ty := 25) rfl _ _ (w.heap.size + 1) 25 _ (0, 0) _ _ rfl rfl O6.out.1 Tryz.underlying25 rfl (by kernel_rfl)) rfl ?_
      have s1 := HD.out.2.2.2
      have s2 := DQ.out.size
      exact ⟨rfl, (HD.out.1.trans (DQ.out.mono (by omega))).trans (O6.out.2.toBelow (by omega) (fun k hk => by omega))⟩
    · by_cases x2 : (To.length : Int) = m
      · have e0 : ((To.length : Int) != m) = false := by simpa using x2
        have HX2 := hide x2
        clear x2
        cases hb : To.all (inB k) with
        | false =>
          rw [hb] at T74
          clear hb T72
          go_upto_region 5 with (go_at_call 74; refine T74.mono ?_; rintro e wb ⟨rfl, hw⟩; obtain rfl := hw.symm; clear hw)
          have F3 := blk_on HD.out.2.2.1 DQ.out
          have o0 : wq.cell? ⟨w.heap.size + 1, 0, none⟩ = some (.int .i64 0) := cell_of F3 rfl
          have g0 : wq.frozen? ⟨w.heap.size + 1, 0, none⟩ = false := fz_of F3
          have o1 : wq.cell? ⟨w.heap.size + 1, 1, none⟩ = some (.int .i64 0) := cell_of F3 rfl
          have g1 : wq.frozen? ⟨w.heap.size + 1, 1, none⟩ = false := fz_of F3
          have o2 : wq.cell? ⟨w.heap.size + 1, 2, none⟩ = some (.slice none 0 0) := cell_of F3 rfl
          have g2 : wq.frozen? ⟨w.heap.size + 1, 2, none⟩ = false := fz_of F3
          have o3 : wq.cell? ⟨w.heap.size + 1, 3, none⟩ = some (.slice none 0 0) := cell_of F3 rfl
          have g3 : wq.frozen? ⟨w.heap.size + 1, 3, none⟩ = false := fz_of F3
          have o4 : wq.cell? ⟨w.heap.size + 1, 4, none⟩ = some (.slice none 0 0) := cell_of F3 rfl
          have g4 : wq.frozen? ⟨w.heap.size + 1, 4, none⟩ = false := fz_of F3
          have O6 := hide (And.intro (set5 wq (w.heap.size + 1) _ _ _ _ _ (.int .i64 0) (.int .i64 0) (.slice none 0 0) (.slice none 0 0) (.slice none 0 0) 25 F3) (only5 wq (w.heap.size + 1) (.int .i64 0) (.int .i64 0) (.slice none 0 0) (.slice none 0 0) (.slice none 0 0)))
          clear F3
          go_wp2_with fail
          refine bodyPost_ret (results_c1 (p := 6) (q := 7) (ty := 25) rfl _ _ (w.heap.size + 1) 25 _ (0, 0) _ _ rfl rfl O6.out.1 Tryz.underlying25 rfl (by kernel_rfl)) rfl ?_
          have s1 := HD.out.2.2.2
          have s2 := DQ.out.size
          exact ⟨rfl, (HD.out.1.trans (DQ.out.mono (by omega))).trans (O6.out.2.toBelow (by omega) (fun k hk => by omega))⟩
        | true =>
          rw [hb] at T74
          have hr : ¬ (riseL To).length = To.length := fun h => by
            have := wide_of (k := k) (by omega) HX2.out hb h
            rw [HW.out] at this
            cases this
          have e1 : (((riseL To).length : Int) != (To.length : Int)) = true := by simp; omega
          clear hb hr
          generalize riseL To = RT1 at T72 e1
          go_upto_region 5 with (first | (go_at_call 74; refine T74.mono ?_; rintro e wb ⟨rfl, hw⟩; obtain rfl := hw.symm; clear hw) | (go_at_call 72; refine T72.mono ?_; rintro e wb ⟨bs, cs, rfl, _, D3⟩; have D3q := hide D3; have D3 := hide (DQ.out.trans (D3.mono DQ.out.size))))
          have F3 := blk_on HD.out.2.2.1 D3.out
          have o0 : wb.cell? ⟨w.heap.size + 1, 0, none⟩ = some (.int .i64 0) := cell_of F3 rfl
          have g0 : wb.frozen? ⟨w.heap.size + 1, 0, none⟩ = false := fz_of F3
          have o1 : wb.cell? ⟨w.heap.size + 1, 1, none⟩ = some (.int .i64 0) := cell_of F3 rfl
          have g1 : wb.frozen? ⟨w.heap.size + 1, 1, none⟩ = false := fz_of F3
          have o2 : wb.cell? ⟨w.heap.size + 1, 2, none⟩ = some (.slice none 0 0) := cell_of F3 rfl
          have g2 : wb.frozen? ⟨w.heap.size + 1, 2, none⟩ = false := fz_of F3
          have o3 : wb.cell? ⟨w.heap.size + 1, 3, none⟩ = some (.slice none 0 0) := cell_of F3 rfl
          have g3 : wb.frozen? ⟨w.heap.size + 1, 3, none⟩ = false := fz_of F3
          have o4 : wb.cell? ⟨w.heap.size + 1, 4, none⟩ = some (.slice none 0 0) := cell_of F3 rfl
          have g4 : wb.frozen? ⟨w.heap.size + 1, 4, none⟩ = false := fz_of F3
          have O6 := hide (And.intro (set5 wb (w.heap.size + 1) _ _ _ _ _ (.int .i64 0) (.int .i64 0) (.slice none 0 0) (.slice none 0 0) (.slice none 0 0) 25 F3) (only5 wb (w.heap.size + 1) (.int .i64 0) (.int .i64 0) (.slice none 0 0) (.slice none 0 0) (.slice none 0 0)))
          clear F3
          go_wp2_with fail
          refine bodyPost_ret (results_c1 (p := 6) (q := 7) (ty := 25) rfl _ _ (w.heap.size + 1) 25 _ (0, 0) _ _ rfl rfl O6.out.1 Tryz.underlying25 rfl (by kernel_rfl)) rfl ?_
          have s1 := HD.out.2.2.2
          have s2 := D3.out.size
          exact ⟨rfl, (HD.out.1.trans (D3.out.mono (by omega))).trans (O6.out.2.toBelow (by omega) (fun k hk => by omega))⟩
      · have e0 : ((To.length : Int) != m) = true := by simpa using x2
        clear x2
        go_upto_region 5 with fail
        have F3 := blk_on HD.out.2.2.1 DQ.out
        have o0 : wq.cell? ⟨w.heap.size + 1, 0, none⟩ = some (.int .i64 0) := cell_of F3 rfl
        have g0 : wq.frozen? ⟨w.heap.size + 1, 0, none⟩ = false := fz_of F3
        have o1 : wq.cell? ⟨w.heap.size + 1, 1, none⟩ = some (.int .i64 0) := cell_of F3 rfl
        have g1 : wq.frozen? ⟨w.heap.size + 1, 1, none⟩ = false := fz_of F3
        have o2 : wq.cell? ⟨w.heap.size + 1, 2, none⟩ = some (.slice none 0 0) := cell_of F3 rfl
        have g2 : wq.frozen? ⟨w.heap.size + 1, 2, none⟩ = false := fz_of F3
        have o3 : wq.cell? ⟨w.heap.size + 1, 3, none⟩ = some (.slice none 0 0) := cell_of F3 rfl
        have g3 : wq.frozen? ⟨w.heap.size + 1, 3, none⟩ = false := fz_of F3
        have o4 : wq.cell? ⟨w.heap.size + 1, 4, none⟩ = some (.slice none 0 0) := cell_of F3 rfl
        have g4 : wq.frozen? ⟨w.heap.size + 1, 4, none⟩ = false := fz_of F3
        have O6 := hide (And.intro (set5 wq (w.heap.size + 1) _ _ _ _ _ (.int .i64 0) (.int .i64 0) (.slice none 0 0) (.slice none 0 0) (.slice none 0 0) 25 F3) (only5 wq (w.heap.size + 1) (.int .i64 0) (.int .i64 0) (.slice none 0 0) (.slice none 0 0) (.slice none 0 0)))
        clear F3
        go_wp2_with fail
        refine bodyPost_ret (results_c1 (p := 6) (q := 7) (ty := 25) rfl _ _ (w.heap.size + 1) 25 _ (0, 0) _ _ rfl rfl O6.out.1 Tryz.underlying25 rfl (by kernel_rfl)) rfl ?_
        have s1 := HD.out.2.2.2
        have s2 := DQ.out.size
        exact ⟨rfl, (HD.out.1.trans (DQ.out.mono (by omega))).trans (O6.out.2.toBelow (by omega) (fun k hk => by omega))⟩
set_option maxRecDepth 100000 in
set_option maxHeartbeats 4000000 in
theorem rwiden_ok (w : World) (n m k : Int) (a1 a2 a3 a0 : Option Addr) (c1 c2 c3 c0 : Nat) (St Fi To : List Int) (Ed : List EdT) (hA : Hid (RdA w a1 a2 a3 St Fi Ed)) (hTo : Hid (RdN w a0 To)) (h1 : St.length ≤ 4194304) (h2 : Fi.length ≤ 4194304) (h3 : Ed.length ≤ 4194304) (h4 : To.length ≤ 4194304) (hc : Ed.length ≤ c3) (em : mayA n m St Fi Ed = true) (ew : wideOk m k To = true) :
    Calls Tryz.prog 36 #[.agg #[.int .i64 n, .int .i64 m, .slice a1 St.length c1, .slice a2 Fi.length c2, .slice a3 Ed.length c3], .int .i64 k, .slice a0 To.length c0] w fun e w' => ∃ r1 q1 r2 q2 r3 q3, e = .returned (.tuple #[.agg #[.int .i64 n, .int .i64 k, .slice r1 (riseL St).length q1, .slice r2 (riseL Fi).length q2, .slice r3 (riseE (rlEs To Ed)).length q3], .int .i64 0]) ∧ Hid (OwnD w.heap.size w' (.slice r1 (riseL St).length q1) (.slice r2 (riseL Fi).length q2) (.slice r3 (riseE (rlEs To Ed)).length q3) (riseL St) (riseL Fi) (riseE (rlEs To Ed))) ∧ Below w.heap.size w w' := by
  obtain ⟨W0, hW0⟩ : ∃ W0, (w.alloc (.cells #[.int .i64 n, .int .i64 m, .slice a1 St.length c1, .slice a2 Fi.length c2, .slice a3 Ed.length c3] 25)).alloc (.cells #[.int .i64 0, .int .i64 0, .slice none 0 0, .slice none 0 0, .slice none 0 0] 25) = W0 := ⟨_, rfl⟩
  have HD := hide (box2 w #[.int .i64 n, .int .i64 m, .slice a1 St.length c1, .slice a2 Fi.length c2, .slice a3 Ed.length c3] #[.int .i64 0, .int .i64 0, .slice none 0 0, .slice none 0 0, .slice none 0 0] 25)
  rw [hW0] at HD
  have y0 : W0.cell? ⟨w.heap.size, 0, none⟩ = some (.int .i64 n) := cell_of HD.out.2.1 rfl
  have y1 : W0.cell? ⟨w.heap.size, 1, none⟩ = some (.int .i64 m) := cell_of HD.out.2.1 rfl
  have y2 : W0.cell? ⟨w.heap.size, 2, none⟩ = some (.slice a1 St.length c1) := cell_of HD.out.2.1 rfl
  have y3 : W0.cell? ⟨w.heap.size, 3, none⟩ = some (.slice a2 Fi.length c2) := cell_of HD.out.2.1 rfl
  have y4 : W0.cell? ⟨w.heap.size, 4, none⟩ = some (.slice a3 Ed.length c3) := cell_of HD.out.2.1 rfl
  have TN := rnormal_ok W0 n m a1 a2 a3 c1 c2 c3 St Fi Ed (hide (hA.out.on HD.out.1)) h1 h2 h3 hc em
  have HLE : Hid ((riseE Ed).length ≤ 4194304) := hide (Nat.le_trans (riseE_len _) h3)
  have HM := hide (And.intro (may_parts em).1 (And.intro (may_parts em).2.1 (may_parts (may_rise em)).2.2.2.2.2))
  have HRT := hide (rise_rl To Ed)
  obtain ⟨S1, hS1⟩ : ∃ X, riseL St = X := ⟨_, rfl⟩
  obtain ⟨F1, hF1⟩ : ∃ X, riseL Fi = X := ⟨_, rfl⟩
  obtain ⟨E1, hE1⟩ : ∃ X, riseE Ed = X := ⟨_, rfl⟩
  obtain ⟨T1, hT1⟩ : ∃ X, riseE (rlEs To Ed) = X := ⟨_, rfl⟩
  rw [hS1, hF1, hE1] at TN
  rw [hE1] at HLE HRT HM
  rw [hT1] at HRT
  rw [hS1, hF1, hT1]
  have HW := hide (wide_iff ew)
  clear em ew hS1 hF1 hE1 hT1
  go_enter Tryz.func36, Tryz.ntmps36
  go_upto_region 4 with (go_at_call 32; refine TN.mono ?_; rintro e wa ⟨b1, k1, b2, k2, b3, k3, rfl, HO, D1⟩; have DB := hide D1; clear D1)
  clear TN
  obtain ⟨wq, hwq⟩ : ∃ X, wa.alloc (.cells #[.int .i64 n, .int .i64 m, .slice b1 S1.length k1, .slice b2 F1.length k2, .slice b3 E1.length k3] 25) = X := ⟨_, rfl⟩
  rw [hwq]
  have BQ : Hid (wq.heap[wa.heap.size]? = some (.cells #[.int .i64 n, .int .i64 m, .slice b1 S1.length k1, .slice b2 F1.length k2, .slice b3 E1.length k3] 25 (0, 0)) ∧ W0.heap.size ≤ wa.heap.size ∧ wa.heap.size < wq.heap.size) := hide (by rw [← hwq]; exact ⟨World.alloc_heap_new _ _, DB.out.size, by simp⟩)
  have DQ : Hid (Below W0.heap.size W0 wq) := hide (by rw [← hwq]; exact DB.out.alloc DB.out.size _)
  have OQ : Hid (OwnO W0.heap.size wq (.slice b1 S1.length k1) (.slice b2 F1.length k2) (.slice b3 E1.length k3) S1 F1 E1) := hide (by rw [← hwq]; exact HO.out.on ((Below.refl _ _).alloc (Nat.le_refl _) _))
  clear hwq HO y0 y1 y2 y3 y4
  have y1 : wq.cell? ⟨w.heap.size, 1, none⟩ = some (.int .i64 m) := cell_of (blk_on HD.out.2.1 DQ.out) rfl
  have RT : Hid (∀ W, Below W0.heap.size W0 W → RdN W a0 To) := hide (fun W d => (hTo.out.on HD.out.1).on d)
  have T74 := below_any wq a0 To c0 k (hide (RT.out wq DQ.out)) h4
  have T72 := set_any wq a0 To c0 (hide (RT.out wq DQ.out)) h4
  have hb := HW.out.2.2.1
  rw [hb] at T74
  have x0 : ¬ k < 0 := by have := HW.out.1; omega
  have x1 : ¬ k > 128 := by have := HW.out.1; omega
  have e0 : ((To.length : Int) != m) = false := by simpa using HW.out.2.1
  have e1 : (((riseL To).length : Int) != (To.length : Int)) = false := by have := HW.out.2.2.2; simp; omega
  have HRL := hide HW.out.2.2.2
  clear hb
  generalize riseL To = RT1 at T72 e1 HRL
  go_upto_region 6 with (first | (go_at_call 74; refine T74.mono ?_; rintro e wb ⟨rfl, hw⟩; obtain rfl := hw.symm; clear hw) | (go_at_call 72; refine T72.mono ?_; rintro e wb ⟨bs, cs, rfl, _, D3⟩; have D3q := hide D3; have D3 := hide (DQ.out.trans (D3.mono DQ.out.size))))
  clear T74 T72 x0 x1 e0 e1 y1
  have BP := blk_on BQ.out.1 D3q.out
  have p1 : wb.cell? ⟨wa.heap.size, 1, none⟩ = some (.int .i64 m) := cell_of BP rfl
  have f1 : wb.frozen? ⟨wa.heap.size, 1, none⟩ = false := fz_of BP
  go_upto_region 7 with fail
  obtain ⟨wl, hwl⟩ : ∃ X, wb.setCell ⟨wa.heap.size, 1, none⟩ (.int .i64 k) = X := ⟨_, rfl⟩
  rw [hwl]
  have HL0 : Hid (wl.heap[wa.heap.size]? = some (.cells #[.int .i64 n, .int .i64 k, .slice b1 S1.length k1, .slice b2 F1.length k2, .slice b3 E1.length k3] 25 (0, 0)) ∧ Only wb wl (fun j => j = wa.heap.size)) := hide (by rw [← hwl]; exact ⟨heap_setCell_same _ _ 1 _ 25 _ BP, only_set wb _ 1 _⟩)
  have OL := hide ((OQ.out.on D3q.out).keep BP HL0.out.2)
  have s0 := BQ.out.2
  have s1 := D3.out.size
  have DL : Hid (Below W0.heap.size W0 wl) := hide (D3.out.trans (HL0.out.2.toBelow (by omega) (fun j hj => by omega)))
  clear BP p1 f1 hwl OQ
  go_wp2_with fail
  go_loopw [10] (fun iv wr => ∃ i : Nat, i ≤ E1.length ∧ iv = .int .i64 i ∧ Hid (wr.ownsRow W0.heap.size 59 3 (.slice b3 E1.length k3) E1.length ((mixG (rlE To) E1 i).flatMap encE) ∧ Only wl wr (fun j => (Value.slice b3 E1.length k3).ownBlock = some j))) (fun iv _ => E1.length - (intOf iv).toNat)
  case atStart => exact ⟨0, Nat.zero_le _, rfl, hide ⟨by rw [mixG_zero]; exact OL.out.e, ⟨rfl, rfl, rfl, Nat.le_refl _, fun _ _ _ => rfl⟩⟩⟩
  case round =>
    obtain ⟨i, hi, rfl, HY⟩ := hrel
    have HYO := hide HY.out.1
    have HYB := hide HY.out.2
    clear HY
    have HYX : Hid (wr.heap[wa.heap.size]? = some (.cells #[.int .i64 n, .int .i64 k, .slice b1 S1.length k1, .slice b2 F1.length k2, .slice b3 E1.length k3] 25 (0, 0))) := hide (HYB.out.cellK HL0.out.1 (fun e => own_not OL.out.e e HL0.out.1 (by decide)))
    have q4 : wr.cell? ⟨wa.heap.size, 4, none⟩ = some (.slice b3 E1.length k3) := cell_of HYX.out rfl
    by_cases hlt : i < E1.length
    · have i0 : (i : Int) < (E1.length : Int) := by omega
      have i1 : (0 : Int) ≤ (i : Int) := by omega
      have iw : IntKind.i64.wrap ((i : Int) + 1) = (i : Int) + 1 := by have := HLE.out; rw [IntKind.wrap_i64]; omega
      obtain ⟨g, hg⟩ : ∃ g, b3 = some ⟨g, 0, none⟩ := by
        rcases OL.out.e.2 with ⟨_, hn⟩ | ⟨g, cap, cur, hv, _⟩
        · omega
        · injection hv with hv _ _; exact ⟨g, hv⟩
      subst hg
      have hlm : i < (mixG (rlE To) E1 i).length := by rw [mixG_len]; exact hlt
      have HXI : Hid ((mixG (rlE To) E1 i)[i] = E1[i]) := hide (by have := mixG_get (rlE To) E1 i hlt; rw [List.getElem?_eq_getElem hlm] at this; exact Option.some.inj this)
      have hsy := HM.out.2.2 E1[i] (List.getElem_mem hlt)
      have hlo : E1[i].2.1 < (To.length : Int) := by have := HW.out.2.1; omega
      have HZ := hide (toF_at hsy.2.1.1 hlo).2
      have HT0 := hide (mixG_set (rlE To) E1 i hlt)
      have xl : E1[i].2.1.toNat < To.length := by omega
      obtain ⟨gt, ot, hao, qt⟩ := RT.out wr (DL.out.trans (HYB.out.toBelow DL.out.size (fun j hj => (OL.out.e.lt j hj).1))) E1[i].2.1.toNat xl
      subst hao
      have HG : Hid (((mixG (rlE To) E1 i).flatMap encE)[i * 3 + 1]? = some (.int .i64 E1[i].2.1)) := hide (by
        have := flatE_at (mixG (rlE To) E1 i) (i * 3 + 1) (by rw [mixG_len]; omega)
        rw [this]
        simp only [show (i * 3 + 1) / 3 = i by omega, show (i * 3 + 1) % 3 = 1 by omega, HXI.out]
        rfl)
      have q2 := own_get HYO.out (j := i * 3 + 1) HG.out
      have x0 : (0 : Int) ≤ E1[i].2.1 := hsy.2.1.1
      have xn : (E1[i].2.1.toNat : Int) = E1[i].2.1 := Int.toNat_of_nonneg x0
      have HT : Hid ((mixG (rlE To) E1 i).set i ((mixG (rlE To) E1 i)[i].1, To[E1[i].2.1.toNat], (mixG (rlE To) E1 i)[i].2.2) = mixG (rlE To) E1 (i + 1)) := hide (by
        rw [HXI.out, ← HT0.out]
        obtain ⟨_, hz⟩ := HZ.out
        unfold rlE
        rw [hz])
      clear hsy HT0 HZ HXI
      have HOx := hide (show wr.ownsRow W0.heap.size 59 3 (.slice (some ⟨g, 0, none⟩) (mixG (rlE To) E1 i).length k3) (mixG (rlE To) E1 i).length ((mixG (rlE To) E1 i).flatMap encE) by rw [mixG_len]; exact HYO.out)
      clear HYO
      have HYO := HOx
      clear HOx
      generalize To[E1[i].2.1.toNat] = z at qt HT
      generalize E1[i] = x at q2 qt HG x0 xn xl hlo
      go_upto_region 10 with fail
      clear q4
      have hmo : MonIL 0 [vI 0 (.pointer (some ⟨wa.heap.size, 4, none⟩)), vI 1 (.slice (some ⟨g, 0, none⟩) E1.length k3), vI 2 (.int .i64 i), vI 3 (.slice (some ⟨gt, ot, none⟩) To.length c0), vI 4 (.pointer (some ⟨wa.heap.size, 4, none⟩)), vI 5 (.slice (some ⟨g, 0, none⟩) E1.length k3), vI 6 (.int .i64 i), vI 7 (.pointer (some ⟨g, i * 3, none⟩)), vI 8 (.pointer (some ⟨g, i * 3 + 1, none⟩)), vI 9 (.int .i64 x.2.1), vI 10 (.pointer (some ⟨gt, ot + x.2.1.toNat, none⟩)), vI 11 (.int .i64 z)] := ⟨vI_mono _ _, vI_mono _ _, vI_mono _ _, vI_mono _ _, vI_mono _ _, vI_mono _ _, vI_mono _ _, vI_mono _ _, vI_mono _ _, vI_mono _ _, vI_mono _ _, vI_mono _ _, trivial⟩
      refine wp_region_sl [vI 0 (.pointer (some ⟨wa.heap.size, 4, none⟩)), vI 1 (.slice (some ⟨g, 0, none⟩) E1.length k3), vI 2 (.int .i64 i), vI 3 (.slice (some ⟨gt, ot, none⟩) To.length c0), vI 4 (.pointer (some ⟨wa.heap.size, 4, none⟩)), vI 5 (.slice (some ⟨g, 0, none⟩) E1.length k3), vI 6 (.int .i64 i), vI 7 (.pointer (some ⟨g, i * 3, none⟩)), vI 8 (.pointer (some ⟨g, i * 3 + 1, none⟩)), vI 9 (.int .i64 x.2.1), vI 10 (.pointer (some ⟨gt, ot + x.2.1.toNat, none⟩)), vI 11 (.int .i64 z)] (by kernel_rfl) (by kernel_rfl) (by kernel_rfl) (by kernel_rfl) hmo ⟨?o0, ?o1, ?o2, ?o3, ?o4, ?o5, ?o6, ?o7, ?o8, ?o9, ?o10, ?o11, trivial⟩ ?fin
      case o0 =>
        intro At yy W hy hb d hd K hK
        have s8 : At.tmps.getD 8 undef = .pointer (some ⟨wa.heap.size, 0, none⟩) := hb 8 rfl
        have s8' := s8
        rw [Array.getD_eq_getD_getElem?] at s8'
        clear hd hy hb
        go_simp
        exact hK.out _ W (stp_of hmo d (Below.refl _ _)) (if_pos rfl)
      case o1 =>
        intro At yy W hy hb d hd K hK
        have e0 : yy 0 = .pointer (some ⟨wa.heap.size, 4, none⟩) := by obtain ⟨_, _, _, _, e⟩ := hd ⟨0, .data⟩ (by simp) rfl rfl; exact e
        have s57 := (hy 0 _ 57 rfl rfl).trans e0
        have s57' := s57
        rw [Array.getD_eq_getD_getElem?] at s57'
        clear hd hy hb
        have q0 : W.cell? ⟨wa.heap.size, 4, none⟩ = some (.slice (some ⟨g, 0, none⟩) E1.length k3) := cell_of (blk_on HYX.out d) rfl
        go_simp
        exact hK.out _ W (stp_of hmo d (Below.refl _ _)) (if_pos rfl)
      case o2 =>
        intro At yy W hy hb d hd K hK
        have s10 : At.tmps.getD 10 undef = .int .i64 i := hb 10 rfl
        have s10' := s10
        rw [Array.getD_eq_getD_getElem?] at s10'
        clear hd hy hb
        go_simp
        exact hK.out _ W (stp_of hmo d (Below.refl _ _)) (if_pos rfl)
      case o3 =>
        intro At yy W hy hb d hd K hK
        have s2 : At.tmps.getD 2 undef = .slice (some ⟨gt, ot, none⟩) To.length c0 := hb 2 rfl
        have s2' := s2
        rw [Array.getD_eq_getD_getElem?] at s2'
        clear hd hy hb
        go_simp
        exact hK.out _ W (stp_of hmo d (Below.refl _ _)) (if_pos rfl)
      case o4 =>
        intro At yy W hy hb d hd K hK
        have s8 : At.tmps.getD 8 undef = .pointer (some ⟨wa.heap.size, 0, none⟩) := hb 8 rfl
        have s8' := s8
        rw [Array.getD_eq_getD_getElem?] at s8'
        clear hd hy hb
        go_simp
        exact hK.out _ W (stp_of hmo d (Below.refl _ _)) (if_pos rfl)
      case o5 =>
        intro At yy W hy hb d hd K hK
        have e4 : yy 4 = .pointer (some ⟨wa.heap.size, 4, none⟩) := by obtain ⟨_, _, _, _, e⟩ := hd ⟨4, .data⟩ (by simp) rfl rfl; exact e
        have s61 := (hy 4 _ 61 rfl rfl).trans e4
        have s61' := s61
        rw [Array.getD_eq_getD_getElem?] at s61'
        clear hd hy hb
        have q0 : W.cell? ⟨wa.heap.size, 4, none⟩ = some (.slice (some ⟨g, 0, none⟩) E1.length k3) := cell_of (blk_on HYX.out d) rfl
        go_simp
        exact hK.out _ W (stp_of hmo d (Below.refl _ _)) (if_pos rfl)
      case o6 =>
        intro At yy W hy hb d hd K hK
        have s10 : At.tmps.getD 10 undef = .int .i64 i := hb 10 rfl
        have s10' := s10
        rw [Array.getD_eq_getD_getElem?] at s10'
        clear hd hy hb
        go_simp
        exact hK.out _ W (stp_of hmo d (Below.refl _ _)) (if_pos rfl)
      case o7 =>
        intro At yy W hy hb d hd K hK
        have e5 : yy 5 = .slice (some ⟨g, 0, none⟩) E1.length k3 := by obtain ⟨_, _, _, _, e⟩ := hd ⟨5, .data⟩ (by simp) rfl rfl; exact e
        have e6 : yy 6 = .int .i64 i := by obtain ⟨_, _, _, _, e⟩ := hd ⟨6, .data⟩ (by simp) rfl rfl; exact e
        have s62 := (hy 5 _ 62 rfl rfl).trans e5
        have s62' := s62
        rw [Array.getD_eq_getD_getElem?] at s62'
        have s63 := (hy 6 _ 63 rfl rfl).trans e6
        have s63' := s63
        rw [Array.getD_eq_getD_getElem?] at s63'
        clear hd hy hb
        go_simp
        exact hK.out _ W (stp_of hmo d (Below.refl _ _)) (if_pos rfl)
      case o8 =>
        intro At yy W hy hb d hd K hK
        have e7 : yy 7 = .pointer (some ⟨g, i * 3, none⟩) := by obtain ⟨_, _, _, _, e⟩ := hd ⟨7, .data⟩ (by simp) rfl rfl; exact e
        have s64 := (hy 7 _ 64 rfl rfl).trans e7
        have s64' := s64
        rw [Array.getD_eq_getD_getElem?] at s64'
        clear hd hy hb
        go_simp
        exact hK.out _ W (stp_of hmo d (Below.refl _ _)) (if_pos rfl)
      case o9 =>
        intro At yy W hy hb d hd K hK
        have e8 : yy 8 = .pointer (some ⟨g, i * 3 + 1, none⟩) := by obtain ⟨_, _, _, _, e⟩ := hd ⟨8, .data⟩ (by simp) rfl rfl; exact e
        have s65 := (hy 8 _ 65 rfl rfl).trans e8
        have s65' := s65
        rw [Array.getD_eq_getD_getElem?] at s65'
        clear hd hy hb
        have q0 := (d.cell (p := ⟨g, i * 3 + 1, none⟩) (World.block_lt_of_cell? wr _ q2)).trans q2
        go_simp
        exact hK.out _ W (stp_of hmo d (Below.refl _ _)) (if_pos rfl)
      case o10 =>
        intro At yy W hy hb d hd K hK
        have e3 : yy 3 = .slice (some ⟨gt, ot, none⟩) To.length c0 := by obtain ⟨_, _, _, _, e⟩ := hd ⟨3, .data⟩ (by simp) rfl rfl; exact e
        have e9 : yy 9 = .int .i64 x.2.1 := by obtain ⟨_, _, _, _, e⟩ := hd ⟨9, .data⟩ (by simp) rfl rfl; exact e
        have s60 := (hy 3 _ 60 rfl rfl).trans e3
        have s60' := s60
        rw [Array.getD_eq_getD_getElem?] at s60'
        have s66 := (hy 9 _ 66 rfl rfl).trans e9
        have s66' := s66
        rw [Array.getD_eq_getD_getElem?] at s66'
        clear hd hy hb
        go_simp
        exact hK.out _ W (stp_of hmo d (Below.refl _ _)) (if_pos rfl)
      case o11 =>
        intro At yy W hy hb d hd K hK
        have e10 : yy 10 = .pointer (some ⟨gt, ot + x.2.1.toNat, none⟩) := by obtain ⟨_, _, _, _, e⟩ := hd ⟨10, .data⟩ (by simp) rfl rfl; exact e
        have s67 := (hy 10 _ 67 rfl rfl).trans e10
        have s67' := s67
        rw [Array.getD_eq_getD_getElem?] at s67'
        clear hd hy hb
        have q0 := (d.cell (p := ⟨gt, ot + x.2.1.toNat, none⟩) (World.block_lt_of_cell? wr _ qt)).trans qt
        go_simp
        exact hK.out _ W (stp_of hmo d (Below.refl _ _)) (if_pos rfl)
      case fin =>
        intro yy lo hi W hM
        show wpList _ _ _ [_, _, _] _ _
        have e0 : yy 0 = .pointer (some ⟨wa.heap.size, 4, none⟩) := hM.fact 0 (by simp) rfl (notR_all 0 rfl)
        have e1 : yy 1 = .slice (some ⟨g, 0, none⟩) E1.length k3 := hM.fact 1 (by simp) rfl (notR_all 1 rfl)
        have e2 : yy 2 = .int .i64 i := hM.fact 2 (by simp) rfl (notR_all 2 rfl)
        have e3 : yy 3 = .slice (some ⟨gt, ot, none⟩) To.length c0 := hM.fact 3 (by simp) rfl (notR_all 3 rfl)
        have e4 : yy 4 = .pointer (some ⟨wa.heap.size, 4, none⟩) := hM.fact 4 (by simp) rfl (notR_all 4 rfl)
        have e5 : yy 5 = .slice (some ⟨g, 0, none⟩) E1.length k3 := hM.fact 5 (by simp) rfl (notR_all 5 rfl)
        have e6 : yy 6 = .int .i64 i := hM.fact 6 (by simp) rfl (notR_all 6 rfl)
        have e7 : yy 7 = .pointer (some ⟨g, i * 3, none⟩) := hM.fact 7 (by simp) rfl (notR_all 7 rfl)
        have e8 : yy 8 = .pointer (some ⟨g, i * 3 + 1, none⟩) := hM.fact 8 (by simp) rfl (notR_all 8 rfl)
        have e9 : yy 9 = .int .i64 x.2.1 := hM.fact 9 (by simp) rfl (notR_all 9 rfl)
        have e10 : yy 10 = .pointer (some ⟨gt, ot + x.2.1.toNat, none⟩) := hM.fact 10 (by simp) rfl (notR_all 10 rfl)
        have e11 : yy 11 = .int .i64 z := hM.fact 11 (by simp) rfl (notR_all 11 rfl)
        have OW := hide (own_below HYO.out hM.d)
        have OnW := hide (HYB.out.trans (Only.ofBelow hM.d))
        have z1 := own_get OW.out (j := i * 3 + 1) HG.out
        have z2 := own_fz OW.out (i * 3 + 1)
        have HV := hide (rowE_sym OW.out i z hlm)
        simp only [fills, Act.put, List.take, List.length, List.setIfInBounds_toArray, List.set_cons_zero, List.set_cons_succ, e0, e1, e2, e3, e4, e5, e6, e7, e8, e9, e10, e11]
        clear hM hmo e0 e1 e2 e3 e4 e5 e6 e7 e8 e9 e10 e11
        go_wp2_with fail
        go_roundw
        case rel => exact ⟨i + 1, by omega, by go_num, hide ⟨by have t := HV.out; rw [HT.out, mixG_len] at t; exact t, OnW.out.trans ((only_set W g (i * 3 + 1) (.int .i64 z)).mono (fun j _ hj => by rw [hj]; rfl))⟩⟩
        case measure => simp [intOf]; omega

    · have i0 : ¬ (i : Int) < (E1.length : Int) := by omega
      have ei : i = E1.length := by omega
      rw [ei, mixG_full] at HYO
      have HRD : Hid (RdE wr b3 (rlEs To E1)) := hide (own_rdE (by rw [rlEs_len]; exact HYO.out))
      have hcap : E1.length ≤ k3 := by
        rcases HYO.out.2 with ⟨hv, hn⟩ | ⟨g, cap, cur, hv, _, _, hle, _⟩
        · rw [hn]; exact Nat.zero_le _
        · injection hv with _ _ h5; rw [h5]; exact hle
      have T := edgesR_any _ wr b3 (rlEs To E1) k3 (Nat.le_refl _) HRD (by rw [rlEs_len]; exact hcap) (by rw [rlEs_len]; exact HLE.out)
      rw [HRT.out, rlEs_len] at T
      clear hcap
      go_upto_region 11 with fail
      go_upto_region 12 with (go_at_call 73; refine T.mono ?_; rintro e w2 ⟨bb, cc, rfl, HE, d2⟩; have HB2 := hide d2; have BP := blk_on HYX.out HB2.out; have x4 : w2.cell? ⟨wa.heap.size, 4, none⟩ = some (.slice b3 E1.length k3) := cell_of BP rfl; have z4 : w2.frozen? ⟨wa.heap.size, 4, none⟩ = false := fz_of BP; clear d2)
      obtain ⟨X, hX⟩ : ∃ X, w2.setCell ⟨wa.heap.size, 4, none⟩ (.slice bb T1.length cc) = X := ⟨_, rfl⟩
      rw [hX]
      have HX : Hid (X.heap[wa.heap.size]? = some (.cells #[.int .i64 n, .int .i64 k, .slice b1 S1.length k1, .slice b2 F1.length k2, .slice bb T1.length cc] 25 (0, 0)) ∧ Only w2 X (fun j => j = wa.heap.size)) := hide (by rw [← hX]; exact ⟨heap_setCell_same _ _ 4 _ 25 _ BP, only_set w2 _ 4 _⟩)
      have SY : Hid (wr.ownsRow W0.heap.size 3 1 (.slice b1 S1.length k1) S1.length (S1.map (Value.int .i64)) ∧ wr.ownsRow W0.heap.size 3 1 (.slice b2 F1.length k2) F1.length (F1.map (Value.int .i64))) := hide ⟨row_only OL.out.s HYB.out (fun j hj e => own_twice OL.out.s hj OL.out.e e (by decide)), row_only OL.out.f HYB.out (fun j hj e => own_twice OL.out.f hj OL.out.e e (by decide))⟩
      have SX := hide (And.intro (own_keep (own_below SY.out.1 HB2.out) BP (by decide) HX.out.2) (And.intro (own_keep (own_below SY.out.2 HB2.out) BP (by decide) HX.out.2) (own_keep HE.out BP (by decide) HX.out.2)))
      have s2 := HB2.out.size
      have s4 := HX.out.2.size
      have s5 := HD.out.2.2.2
      have DR : Hid (Below W0.heap.size W0 wr) := hide (DL.out.trans (HYB.out.toBelow DL.out.size (fun j hj => (OL.out.e.lt j hj).1)))
      have s6 := DR.out.size
      have DX : Hid (Below W0.heap.size W0 X) := hide ((DR.out.trans (HB2.out.mono DR.out.size)).trans (HX.out.2.toBelow (by omega) (fun j hj => by omega)))
      have F4 := HX.out.1
      have e0 : X.cell? ⟨wa.heap.size, 0, none⟩ = some (.int .i64 n) := cell_of F4 rfl
      have e1 : X.cell? ⟨wa.heap.size, 1, none⟩ = some (.int .i64 k) := cell_of F4 rfl
      have e2 : X.cell? ⟨wa.heap.size, 2, none⟩ = some (.slice b1 S1.length k1) := cell_of F4 rfl
      have e3 : X.cell? ⟨wa.heap.size, 3, none⟩ = some (.slice b2 F1.length k2) := cell_of F4 rfl
      have e4 : X.cell? ⟨wa.heap.size, 4, none⟩ = some (.slice bb T1.length cc) := cell_of F4 rfl
      have F3 := blk_on HD.out.2.2.1 DX.out
      have o0 : X.cell? ⟨w.heap.size + 1, 0, none⟩ = some (.int .i64 0) := cell_of F3 rfl
      have g0 : X.frozen? ⟨w.heap.size + 1, 0, none⟩ = false := fz_of F3
      have o1 : X.cell? ⟨w.heap.size + 1, 1, none⟩ = some (.int .i64 0) := cell_of F3 rfl
      have g1 : X.frozen? ⟨w.heap.size + 1, 1, none⟩ = false := fz_of F3
      have o2 : X.cell? ⟨w.heap.size + 1, 2, none⟩ = some (.slice none 0 0) := cell_of F3 rfl
      have g2 : X.frozen? ⟨w.heap.size + 1, 2, none⟩ = false := fz_of F3
      have o3 : X.cell? ⟨w.heap.size + 1, 3, none⟩ = some (.slice none 0 0) := cell_of F3 rfl
      have g3 : X.frozen? ⟨w.heap.size + 1, 3, none⟩ = false := fz_of F3
      have o4 : X.cell? ⟨w.heap.size + 1, 4, none⟩ = some (.slice none 0 0) := cell_of F3 rfl
      have g4 : X.frozen? ⟨w.heap.size + 1, 4, none⟩ = false := fz_of F3
      have O6 := hide (And.intro (set5 X (w.heap.size + 1) _ _ _ _ _ (.int .i64 n) (.int .i64 k) (.slice b1 S1.length k1) (.slice b2 F1.length k2) (.slice bb T1.length cc) 25 F3) (only5 X (w.heap.size + 1) (.int .i64 n) (.int .i64 k) (.slice b1 S1.length k1) (.slice b2 F1.length k2) (.slice bb T1.length cc)))
      have OY := hide (And.intro (own_keep SX.out.1 F3 (by decide) O6.out.2) (And.intro (own_keep SX.out.2.1 F3 (by decide) O6.out.2) (own_keep SX.out.2.2 F3 (by decide) O6.out.2)))
      clear F3 F4 BP hX x4 z4 T q4
      go_wp2_with fail
      refine bodyPost_ret (results_c1 (p := 6) (q := 7) (ty := 25) rfl _ _ (w.heap.size + 1) 25 _ (0, 0) _ _ rfl rfl O6.out.1 Tryz.underlying25 rfl (by kernel_rfl)) rfl ?_
      have s7 := DX.out.size
      have s8 := HYB.out.size
      exact ⟨b1, k1, b2, k2, bb, cc, rfl, hide ⟨owns_down OY.out.1 (by first | exact Nat.le_refl _ | omega), owns_down OY.out.2.1 (by first | exact Nat.le_refl _ | omega), owns_down OY.out.2.2 (by first | exact Nat.le_refl _ | omega)⟩, (HD.out.1.trans (DX.out.mono (by omega))).trans (O6.out.2.toBelow (by omega) (fun j hj => by omega))⟩
end Go.Proofs.YtfoahpideglghaaGreatDoor
