import Derived.Test.YtfoahpideglghaaGreatDoorPM
namespace Go.Proofs.YtfoahpideglghaaGreatDoor
open Go.RowKit Go.Maps Go.Shelf
attribute [local go_sem] Oper.semAt_some

/-! ### Edges found by their end -/
set_option maxRecDepth 100000 in
set_option maxHeartbeats 1000000 in
theorem toOrder_any (w : World) (x : EdT) (y : Int) :
    Calls Tryz.prog 116 #[.agg #[.int .i64 x.1, .int .i64 x.2.1, .int .i64 x.2.2], .int .i64 y] w fun e w' => e = .returned (.int .i64 (Lib.compareInt x.2.2 y)) ∧ Below w.heap.size w w' := by
  obtain ⟨x0, x1, x2⟩ := x
  simp only
  obtain ⟨W0, hW0⟩ : ∃ W0, w.alloc (.cells #[.int .i64 x0, .int .i64 x1, .int .i64 x2] 59) = W0 := ⟨_, rfl⟩
  have HD : Hid (Below w.heap.size w W0) := hide (by rw [← hW0]; exact (Below.refl _ _).alloc (Nat.le_refl _) _)
  have b0 : W0.heap[w.heap.size]? = some (.cells #[.int .i64 x0, .int .i64 x1, .int .i64 x2] 59 (0, 0)) := by rw [← hW0]; exact World.alloc_heap_new _ _
  have c1 : W0.cell? ⟨w.heap.size, 2, none⟩ = some (.int .i64 x2) := cell_of b0 rfl
  clear b0
  go_enter Tryz.func116, Tryz.ntmps116
  go_wp2_with (go_at_call 113; refine (cmpi_any _ _ _).mono ?_; rintro e w1 ⟨rfl, rfl⟩)
  go_ret
  exact ⟨rfl, HD.out⟩
def fndT (L : List EdT) (k : Nat) (y : Int) : Bool := match L[k]? with
  | some x => Lib.compareInt x.2.2 y == 0
  | none => false
set_option maxRecDepth 100000 in
set_option maxHeartbeats 1000000 in
theorem searchT_any (w : World) (ao : Option Addr) (L : List EdT) (c : Nat) (y : Int) (hr : Hid (RdE w ao L)) (hl : L.length ≤ 4194304) (hS : Hid (∀ i j (hi : i < L.length) (hj : j < L.length), i ≤ j → L[i].2.2 ≤ L[j].2.2)) :
    Calls Tryz.prog 114 #[.slice ao L.length c, .int .i64 y, .func (.func 116) #[] #[]] w fun e w' => ∃ k : Nat, e = .returned (.tuple #[.int .i64 k, .bool (fndT L k y)]) ∧ k ≤ L.length ∧ (∀ t (h : t < L.length), L[t].2.2 < y ↔ t < k) ∧ Below w.heap.size w w' := by
  go_enter Tryz.func114, Tryz.ntmps114
  go_wp2
  go_loopw [9, 10] (fun iv jv wr => ∃ i j : Nat, i ≤ j ∧ j ≤ L.length ∧ iv = .int .i64 i ∧ jv = .int .i64 j ∧ Hid ((∀ t (h : t < L.length), t < i → L[t].2.2 < y) ∧ (∀ t (h : t < L.length), j ≤ t → y ≤ L[t].2.2) ∧ Below w.heap.size w wr)) (fun iv jv _ => (intOf jv).toNat - (intOf iv).toNat)
  case atStart => exact ⟨0, L.length, Nat.zero_le _, Nat.le_refl _, rfl, rfl, hide ⟨fun t _ h => absurd h (Nat.not_lt_zero t), fun t h h2 => absurd h (by omega), Below.refl _ _⟩⟩
  case round =>
    obtain ⟨i, j, hij, hjl, rfl, rfl, HI⟩ := hrel
    by_cases hlt : i < j
    · have l0 : (i : Int) < (j : Int) := by omega
      have l1 : (0 : Int) ≤ (i : Int) := by omega
      have l2 : (j : Int) ≤ 4194304 := by omega
      go_upto_region 5 with fail
      obtain ⟨h, hh⟩ : ∃ h : Nat, ((i : Int) + (j : Int)) / 2 = (h : Int) := ⟨(i + j) / 2, by omega⟩
      rw [hh]
      have hb : i ≤ h ∧ h < j := by omega
      clear hh
      have h0 : (0 : Int) ≤ (h : Int) := by omega
      have h1 : (h : Int) < (L.length : Int) := by omega
      have h2 : (h : Int) ≤ 4194304 := by omega
      have hhl : h < L.length := by omega
      obtain ⟨g, o, rfl, q0, q1, q2⟩ := (hr.out.on HI.out.2.2) h hhl
      obtain ⟨x, hx⟩ : ∃ x, L[h] = x := ⟨_, rfl⟩
      rw [hx] at q0 q1 q2
      obtain ⟨x0, x1, x2⟩ := x
      have T := toOrder_any wr (x0, x1, x2) y
      simp only at T q0 q1 q2
      have HX := hide (show L[h].2.2 = x2 by rw [hx])
      clear hx
      have HC := hide (cmp_lt x2 y)
      generalize Lib.compareInt x2 y = cv at T HC
      by_cases hc : cv < 0
      · go_wp2_with (go_at_call 116; refine T.mono ?_; rintro e w2 ⟨rfl, d2⟩)
        refine ⟨⟨h + 1, j, by omega, hjl, by go_num, rfl, hide ⟨fun t ht hti => ?_, HI.out.2.1, HI.out.2.2.trans (d2.mono HI.out.2.2.size)⟩⟩, by simp [intOf]; omega⟩
        have e1 := hS.out t h ht hhl (by omega)
        have e2 := HC.out.1 hc
        rw [HX.out] at e1
        omega
      · go_wp2_with (go_at_call 116; refine T.mono ?_; rintro e w2 ⟨rfl, d2⟩)
        refine ⟨⟨i, h, by omega, by omega, rfl, rfl, hide ⟨HI.out.1, fun t ht hti => ?_, HI.out.2.2.trans (d2.mono HI.out.2.2.size)⟩⟩, by simp [intOf]; omega⟩
        have e1 := hS.out h t hhl ht hti
        have e2 : ¬ x2 < y := fun q => by have := HC.out.2 q; omega
        rw [HX.out] at e1
        omega
    · obtain rfl : i = j := by omega
      have l0 : ¬ (i : Int) < (i : Int) := by omega
      by_cases hi : i < L.length
      · have l1 : (i : Int) < (L.length : Int) := by omega
        have l2 : (0 : Int) ≤ (i : Int) := by omega
        obtain ⟨g, o, rfl, q0, q1, q2⟩ := (hr.out.on HI.out.2.2) i hi
        obtain ⟨x, hx⟩ : ∃ x, L[i] = x := ⟨_, rfl⟩
        rw [hx] at q0 q1 q2
        obtain ⟨x0, x1, x2⟩ := x
        have T := toOrder_any wr (x0, x1, x2) y
        simp only at T q0 q1 q2
        have HX : Hid (fndT L i y = (Lib.compareInt x2 y == 0)) := hide (by unfold fndT; rw [List.getElem?_eq_getElem hi, hx])
        clear hx
        go_wp2_with (go_at_call 116; refine T.mono ?_; rintro e w2 ⟨rfl, d2⟩)
        go_ret2
        exact ⟨i, by rw [HX.out]; rfl, hjl, fun t ht => ⟨fun q => Nat.lt_of_not_le fun z => by have := HI.out.2.1 t ht z; omega, HI.out.1 t ht⟩, HI.out.2.2.trans (d2.mono HI.out.2.2.size)⟩
      · have l1 : ¬ (i : Int) < (L.length : Int) := by omega
        have HX : Hid (fndT L i y = false) := hide (by unfold fndT; rw [List.getElem?_eq_none (by omega)])
        go_wp2_with fail
        go_ret2
        exact ⟨i, by rw [HX.out]; rfl, hjl, fun t ht => ⟨fun q => Nat.lt_of_not_le fun z => by have := HI.out.2.1 t ht z; omega, HI.out.1 t ht⟩, HI.out.2.2⟩
theorem from_up {Es : List EdT} (hS : SsE Es) {p : Nat} {y : Int} {L : List EdT} (hL : fromL Es p y = L) : ∀ i j (hi : i < L.length) (hj : j < L.length), i ≤ j → L[i].2.2 ≤ L[j].2.2 := by
  subst hL
  intro i j hi hj hij
  rcases Nat.eq_or_lt_of_le hij with rfl | hlt
  · exact Int.le_refl _
  · have hp : (fromL Es p y).Pairwise fun a b => ltE a b = true := List.Pairwise.sublist List.filter_sublist hS
    have h := (List.pairwise_iff_getElem.1 hp) i j hi hj hlt
    have e1 := (List.mem_filter.1 (List.getElem_mem hi)).2
    have e2 := (List.mem_filter.1 (List.getElem_mem hj)).2
    simp only [decide_eq_true_eq] at e1 e2
    rw [ltE_iff] at h
    omega
theorem from_has {Es : List EdT} {p : Nat} {y t : Int} {L : List EdT} (hL : fromL Es p y = L) {k : Nat} (hk : ∀ i (h : i < L.length), L[i].2.2 < t ↔ i < k) (hu : ∀ i j (hi : i < L.length) (hj : j < L.length), i ≤ j → L[i].2.2 ≤ L[j].2.2) : fndT L k t = decide (((p : Int), y, t) ∈ Es) := by
  have key : fndT L k t = true ↔ ∃ x ∈ L, x.2.2 = t := by
    unfold fndT
    constructor
    · intro h
      split at h
      · rename_i x hx
        obtain ⟨hl, rfl⟩ := List.getElem?_eq_some_iff.1 hx
        refine ⟨_, List.getElem_mem hl, ?_⟩
        rcases cmp_pos L[k].2.2 t with ⟨_, e⟩ | ⟨_, e⟩ | ⟨q, _⟩
        · rw [e] at h; cases h
        · rw [e] at h; cases h
        · exact q
      · cases h
    · rintro ⟨x, hx, e⟩
      obtain ⟨i, hi, rfl⟩ := List.getElem_of_mem hx
      have h1 : ¬ i < k := fun q => by have := (hk i hi).2 q; omega
      have hkl : k < L.length := by omega
      have h2 := hu k i hkl hi (by omega)
      have h3 : ¬ L[k].2.2 < t := fun q => by have := (hk k hkl).1 q; omega
      rw [List.getElem?_eq_getElem hkl]
      simp only
      rcases cmp_pos L[k].2.2 t with ⟨q, _⟩ | ⟨q, _⟩ | ⟨_, e⟩
      · omega
      · omega
      · rw [e]; rfl
  rw [Bool.eq_iff_iff, key, decide_eq_true_eq]
  subst hL
  constructor
  · rintro ⟨x, hx, e⟩
    obtain ⟨h1, h2⟩ := List.mem_filter.1 hx
    simp only [decide_eq_true_eq] at h2
    obtain ⟨x0, x1, x2⟩ := x
    simp only at h2 e
    obtain ⟨rfl, rfl⟩ := h2
    subst e
    exact h1
  · intro h
    exact ⟨_, List.mem_filter.2 ⟨h, by simp⟩, rfl⟩
set_option maxRecDepth 100000 in
set_option maxHeartbeats 1000000 in
theorem whas_any (w : World) (N p : Nat) (m y t : Int) (a1 a2 : Option Addr) (l1 l2 c1 c2 g3 k3 gf : Nat) (Es : List EdT) (hE : Hid (RdE w (some ⟨g3, 0, none⟩) Es)) (hk : Es.length ≤ k3) (hM : Hid (Mrw w gf 3 (N + 1) (fun c => .int .i64 (lessC Es c : Nat)) (N + 1))) (hp : p < N) (hN : N ≤ 4096) (hS : Hid (SsE Es)) (hl : Es.length ≤ 4194304) :
    Calls Tryz.prog 94 #[.agg #[.int .i64 (N : Int), .int .i64 m, .slice a1 l1 c1, .slice a2 l2 c2, .slice (some ⟨g3, 0, none⟩) Es.length k3, .slice (some ⟨gf, 0, none⟩) (N + 1) (N + 1)], .agg #[.int .i64 (p : Int), .int .i64 y, .int .i64 t]] w fun e w' => e = .returned (.bool (decide (((p : Int), y, t) ∈ Es))) ∧ Below w.heap.size w w' := by
  obtain ⟨W1, hW1⟩ : ∃ W1, w.alloc (.cells #[.int .i64 (N : Int), .int .i64 m, .slice a1 l1 c1, .slice a2 l2 c2, .slice (some ⟨g3, 0, none⟩) Es.length k3, .slice (some ⟨gf, 0, none⟩) (N + 1) (N + 1)] 80) = W1 := ⟨_, rfl⟩
  have D1 : Below w.heap.size w W1 := by rw [← hW1]; exact (Below.refl _ _).alloc (Nat.le_refl _) _
  have s1 : W1.heap.size = w.heap.size + 1 := by rw [← hW1]; simp
  have b1 : W1.heap[w.heap.size]? = some (.cells #[.int .i64 (N : Int), .int .i64 m, .slice a1 l1 c1, .slice a2 l2 c2, .slice (some ⟨g3, 0, none⟩) Es.length k3, .slice (some ⟨gf, 0, none⟩) (N + 1) (N + 1)] 80 (0, 0)) := by rw [← hW1]; exact World.alloc_heap_new _ _
  obtain ⟨W0, hW0⟩ : ∃ W0, W1.alloc (.cells #[.int .i64 (p : Int), .int .i64 y, .int .i64 t] 59) = W0 := ⟨_, rfl⟩
  have D2 : Below W1.heap.size W1 W0 := by rw [← hW0]; exact (Below.refl _ _).alloc (Nat.le_refl _) _
  have e0 : W0.heap[w.heap.size + 1]? = some (.cells #[.int .i64 (p : Int), .int .i64 y, .int .i64 t] 59 (0, 0)) := by rw [← hW0, ← s1]; exact World.alloc_heap_new _ _
  have b0 : W0.heap[w.heap.size]? = some (.cells #[.int .i64 (N : Int), .int .i64 m, .slice a1 l1 c1, .slice a2 l2 c2, .slice (some ⟨g3, 0, none⟩) Es.length k3, .slice (some ⟨gf, 0, none⟩) (N + 1) (N + 1)] 80 (0, 0)) := blk_on b1 D2
  have HD : Hid (Below w.heap.size w W0) := hide (D1.trans (D2.mono D1.size))
  have SK : Hid (∀ W, Below W0.heap.size W0 W → (fun W => (W.cell? ⟨w.heap.size, 0, none⟩ = some (.int .i64 (N : Int)) ∧ W.cell? ⟨w.heap.size, 1, none⟩ = some (.int .i64 m) ∧ W.cell? ⟨w.heap.size, 2, none⟩ = some (.slice a1 l1 c1) ∧ W.cell? ⟨w.heap.size, 3, none⟩ = some (.slice a2 l2 c2) ∧ W.cell? ⟨w.heap.size, 4, none⟩ = some (.slice (some ⟨g3, 0, none⟩) Es.length k3) ∧ W.cell? ⟨w.heap.size, 5, none⟩ = some (.slice (some ⟨gf, 0, none⟩) (N + 1) (N + 1)) ∧ W.cell? ⟨w.heap.size + 1, 0, none⟩ = some (.int .i64 (p : Int)) ∧ W.cell? ⟨w.heap.size + 1, 1, none⟩ = some (.int .i64 y) ∧ W.cell? ⟨w.heap.size + 1, 2, none⟩ = some (.int .i64 t) ∧ Hid (Below W0.heap.size W0 W))) W) := hide (fun W d => by
    have e := blk_on b0 d
    have f := blk_on e0 d
    exact ⟨cell_of e rfl, cell_of e rfl, cell_of e rfl, cell_of e rfl, cell_of e rfl, cell_of e rfl, cell_of f rfl, cell_of f rfl, cell_of f rfl, hide d⟩)
  have SD : Hid (∀ W, (fun W => (W.cell? ⟨w.heap.size, 0, none⟩ = some (.int .i64 (N : Int)) ∧ W.cell? ⟨w.heap.size, 1, none⟩ = some (.int .i64 m) ∧ W.cell? ⟨w.heap.size, 2, none⟩ = some (.slice a1 l1 c1) ∧ W.cell? ⟨w.heap.size, 3, none⟩ = some (.slice a2 l2 c2) ∧ W.cell? ⟨w.heap.size, 4, none⟩ = some (.slice (some ⟨g3, 0, none⟩) Es.length k3) ∧ W.cell? ⟨w.heap.size, 5, none⟩ = some (.slice (some ⟨gf, 0, none⟩) (N + 1) (N + 1)) ∧ W.cell? ⟨w.heap.size + 1, 0, none⟩ = some (.int .i64 (p : Int)) ∧ W.cell? ⟨w.heap.size + 1, 1, none⟩ = some (.int .i64 y) ∧ W.cell? ⟨w.heap.size + 1, 2, none⟩ = some (.int .i64 t) ∧ Hid (Below W0.heap.size W0 W))) W → Below W0.heap.size W0 W) := hide (fun W h => h.2.2.2.2.2.2.2.2.2.out)
  obtain ⟨L, hL⟩ : ∃ L, fromL Es p y = L := ⟨_, rfl⟩
  have hLl : L.length ≤ 4194304 := by rw [← hL]; exact Nat.le_trans (List.length_filter_le _ _) hl
  have HU := hide (from_up hS.out hL)
  have HH := hide (fun k (hk : ∀ i (h : i < L.length), L[i].2.2 < t ↔ i < k) => from_has hL hk HU.out)
  have T92 : Hid (∀ W, Below W0.heap.size W0 W → Calls Tryz.prog 92 #[.agg #[.int .i64 (N : Int), .int .i64 m, .slice a1 l1 c1, .slice a2 l2 c2, .slice (some ⟨g3, 0, none⟩) Es.length k3, .slice (some ⟨gf, 0, none⟩) (N + 1) (N + 1)], .int .i64 (p : Int), .int .i64 y] W fun e w' => ∃ o c, e = .returned (.slice (some ⟨g3, o, none⟩) L.length c) ∧ Hid (RdE w' (some ⟨g3, o, none⟩) L) ∧ Below W0.heap.size W0 w') := hide (fun W d => by
    have dw := HD.out.trans (d.mono HD.out.size)
    refine (from_any W N p m y a1 a2 l1 l2 c1 c2 g3 k3 gf Es (hide (hE.out.on dw)) hk (hide (hM.out.below dw hM.out.lt)) hp hN hS hl).mono ?_
    rw [hL]
    rintro e w' ⟨o, c, rfl, hr, db⟩
    exact ⟨o, c, rfl, hide (hr.out.on db), d.trans (db.mono d.size)⟩)
  generalize decide (((p : Int), y, t) ∈ Es) = r at HH ⊢
  have T114 : Hid (∀ W o c, Below W0.heap.size W0 W → RdE W (some ⟨g3, o, none⟩) L → Calls Tryz.prog 114 #[.slice (some ⟨g3, o, none⟩) L.length c, .int .i64 t, .func (.func 116) #[] #[]] W fun e w' => ∃ k : Nat, e = .returned (.tuple #[.int .i64 k, .bool r]) ∧ Below W0.heap.size W0 w') := hide (fun W o c d hr => by
    refine (searchT_any W (some ⟨g3, o, none⟩) L c t (hide hr) hLl HU).mono ?_
    rintro e w' ⟨k, rfl, _, hk2, db⟩
    exact ⟨k, by rw [HH.out k hk2], d.trans (db.mono d.size)⟩)
  clear b0 b1 e0 hM hE hL hS HU HH D2
  go_enter Tryz.func94, Tryz.ntmps94
  go_upto_region 2 with fail
  have S0 := SK.out W0.drew (Below.refl _ _).drew
  go_region_held3 (fun W => (W.cell? ⟨w.heap.size, 0, none⟩ = some (.int .i64 (N : Int)) ∧ W.cell? ⟨w.heap.size, 1, none⟩ = some (.int .i64 m) ∧ W.cell? ⟨w.heap.size, 2, none⟩ = some (.slice a1 l1 c1) ∧ W.cell? ⟨w.heap.size, 3, none⟩ = some (.slice a2 l2 c2) ∧ W.cell? ⟨w.heap.size, 4, none⟩ = some (.slice (some ⟨g3, 0, none⟩) Es.length k3) ∧ W.cell? ⟨w.heap.size, 5, none⟩ = some (.slice (some ⟨gf, 0, none⟩) (N + 1) (N + 1)) ∧ W.cell? ⟨w.heap.size + 1, 0, none⟩ = some (.int .i64 (p : Int)) ∧ W.cell? ⟨w.heap.size + 1, 1, none⟩ = some (.int .i64 y) ∧ W.cell? ⟨w.heap.size + 1, 2, none⟩ = some (.int .i64 t) ∧ Hid (Below W0.heap.size W0 W)))
    (with_reducible assumption)
    ((first
      | (go_at_call 92; refine (T92.out _ (SD.out _ (by with_reducible assumption))).mono ?_; rintro e wa ⟨o, c, rfl, hr, Da⟩; have Sa := SK.out wa Da)
      | (go_at_call 114; refine (T114.out _ _ _ (SD.out _ (by with_reducible assumption)) hr.out).mono ?_; rintro e wb ⟨k, rfl, Db⟩; have Sb := SK.out wb Db)))
  all_goals (
    go_wp2_with fail
    refine bodyPost_ret (results_tmp rfl _ _ _) rfl ?_
    exact ⟨rfl, HD.out.trans (Db.mono HD.out.size)⟩)
end Go.Proofs.YtfoahpideglghaaGreatDoor
namespace Go.Proofs.YtfoahpideglghaaGreatDoor
open Go.RowKit Go.Maps Go.Shelf
attribute [local go_sem] Oper.semAt_some

/-! ### Is a list of states a path? -/
theorem cont_any (w : World) (ao : Option Addr) (L : List Int) (c : Nat) (x : Int) (h : RdN w ao L) (hl : L.length ≤ 4194304) :
    Calls Tryz.prog 93 #[.slice ao L.length c, .int .i64 x] w fun e w' => e = .returned (.bool (decide (x ∈ L))) ∧ w' = w := by
  match L, h, hl with
  | [], _, _ => exact (Tryz.slices_Contains_int_empty ao c x w).mono fun e w' ⟨h1, h2⟩ => ⟨by rw [h1]; rfl, h2⟩
  | z :: L, h, hl =>
    obtain ⟨g, o, rfl, _⟩ := h 0 (by simp)
    refine (Tryz.slices_Contains_int g o (z :: L).length c (z :: L) x w (Nat.le_refl _) (by omega) (fun j hj => ?_)).mono fun e w' ⟨h1, h2⟩ => ⟨by rw [h1, List.take_length]; congr 2; rw [Bool.eq_iff_iff, List.contains_iff_mem, decide_eq_true_eq], h2⟩
    obtain ⟨g', o', e, q⟩ := h j hj
    cases e
    rw [q, List.getD_eq_getElem?_getD, List.getElem?_eq_getElem hj]
    rfl
/-- A list of states is a path of a word. -/
def IsP (St Fi : List Int) (Ed : List EdT) (Ss Wd : List Int) : Prop := ∃ hl : Ss.length = Wd.length + 1, Ss[0] ∈ St ∧ Ss[Wd.length] ∈ Fi ∧ ∀ i (h : i < Wd.length), (Ss[i], Wd[i], Ss[i + 1]) ∈ Ed
/-- What isPath answers. -/
def PthA (St Fi : List Int) (Ed : List EdT) (Ss Wd : List Int) (w : World) (e : Ending) (w' : World) : Prop := ∃ r : Bool, e = .returned (.bool r) ∧ (r = true ↔ IsP St Fi Ed Ss Wd) ∧ Below w.heap.size w w'
set_option maxRecDepth 100000 in
set_option maxHeartbeats 2000000 in
theorem isPath_any (w : World) (N : Nat) (m : Int) (a1 a2 a3 ax aw : Option Addr) (c1 c2 c3 cs cw : Nat) (St Fi : List Int) (Ed : List EdT) (Ss Wd : List Int) (hA : Hid (RdA w a1 a2 a3 St Fi Ed)) (hSs : Hid (RdN w ax Ss)) (hWd : Hid (RdN w aw Wd)) (h1 : St.length ≤ 4194304) (h2 : Fi.length ≤ 4194304) (h3 : Ed.length ≤ 4194304) (hs : Ss.length ≤ 4194304) (hw : Wd.length ≤ 4194304) (em : Hid (mayA N m St Fi Ed = true)) :
    Calls Tryz.prog 56 #[.agg #[.int .i64 (N : Nat), .int .i64 m, .slice a1 St.length c1, .slice a2 Fi.length c2, .slice a3 Ed.length c3], .slice ax Ss.length cs, .slice aw Wd.length cw] w fun e w' => PthA St Fi Ed Ss Wd w e w' := by
  have hN : N ≤ 4096 := by have := (may_parts em.out).1; omega
  have HIN := hide (may_in em.out)
  obtain ⟨W0, hW0⟩ : ∃ W0, w.alloc (.cells #[.int .i64 (N : Nat), .int .i64 m, .slice a1 St.length c1, .slice a2 Fi.length c2, .slice a3 Ed.length c3] 25) = W0 := ⟨_, rfl⟩
  have d0 : Below w.heap.size w W0 := by rw [← hW0]; exact (Below.refl _ _).alloc (Nat.le_refl _) _
  have B0 : W0.heap[w.heap.size]? = some (.cells #[.int .i64 (N : Nat), .int .i64 m, .slice a1 St.length c1, .slice a2 Fi.length c2, .slice a3 Ed.length c3] 25 (0, 0)) := by rw [← hW0]; exact World.alloc_heap_new _ _
  have y0 : W0.cell? ⟨w.heap.size, 0, none⟩ = some (.int .i64 (N : Nat)) := cell_of B0 rfl
  have y1 : W0.cell? ⟨w.heap.size, 1, none⟩ = some (.int .i64 m) := cell_of B0 rfl
  have y2 : W0.cell? ⟨w.heap.size, 2, none⟩ = some (.slice a1 St.length c1) := cell_of B0 rfl
  have y3 : W0.cell? ⟨w.heap.size, 3, none⟩ = some (.slice a2 Fi.length c2) := cell_of B0 rfl
  have y4 : W0.cell? ⟨w.heap.size, 4, none⟩ = some (.slice a3 Ed.length c3) := cell_of B0 rfl
  have HD := hide (And.intro d0 B0)
  have TO : Hid (∀ W, Below W0.heap.size W0 W → Calls Tryz.prog 62 #[.agg #[.int .i64 (N : Nat), .int .i64 m, .slice a1 St.length c1, .slice a2 Fi.length c2, .slice a3 Ed.length c3]] W fun e w' => ∃ g1 k1 g2 k2 g3 k3, e = .returned (.agg #[.int .i64 (N : Nat), .int .i64 m, .slice (some ⟨g1, 0, none⟩) (riseL St).length k1, .slice (some ⟨g2, 0, none⟩) (riseL Fi).length k2, .slice (some ⟨g3, 0, none⟩) (riseE Ed).length k3]) ∧ Own W.heap.size w' g1 k1 g2 k2 g3 k3 (riseL St) (riseL Fi) (riseE Ed) ∧ Below W.heap.size W w') := hide (fun W d => inOrder_any W N m a1 a2 a3 c1 c2 c3 St Fi Ed (hide (hA.out.on (HD.out.1.trans (d.mono HD.out.1.size)))) h1 h2 h3)
  have HFr : Hid (∀ e ∈ riseE Ed, 0 ≤ e.1 ∧ e.1 < (N : Int)) := hide (fun e he => (HIN.out e ((riseE_iff Ed e).1 he)).1)
  have hl3 : (riseE Ed).length ≤ 4194304 := Nat.le_trans (riseE_len Ed) h3
  have WK := hide (fun (w1 w2 : World) (g1 k1 g2 k2 g3 k3 gf B : Nat) (S F : List Int) => wk_of (N := N) (w := w1) (w' := w2) (g1 := g1) (k1 := k1) (g2 := g2) (k2 := k2) (g3 := g3) (k3 := k3) (gf := gf) (B := B) (S := S) (F := F) (Ed := Ed))
  have IFF := hide (riseE_iff Ed)
  have TC1 : Hid (∀ W x, RdN W a1 St → Calls Tryz.prog 93 #[.slice a1 St.length c1, .int .i64 x] W fun e w' => e = .returned (.bool (decide (x ∈ St))) ∧ w' = W) := hide (fun W x h => cont_any W a1 St c1 x h h1)
  have TC2 : Hid (∀ W x, RdN W a2 Fi → Calls Tryz.prog 93 #[.slice a2 Fi.length c2, .int .i64 x] W fun e w' => e = .returned (.bool (decide (x ∈ Fi))) ∧ w' = W) := hide (fun W x h => cont_any W a2 Fi c2 x h h2)
  generalize riseE Ed = Es at TO HFr hl3 WK IFF
  have RS0 := hide (hSs.out.on d0)
  have RA0 := hide (hA.out.on d0)
  clear d0 B0
  by_cases hln : Ss.length = Wd.length + 1
  case neg =>
    have l0 : ((Ss.length : Int) != (Wd.length : Int) + 1) = true := by simp; omega
    go_enter Tryz.func56, Tryz.ntmps56
    go_upto_region 1 with fail
    refine wp_region_phase 25 #[true, true, true, true, true, true, true, true, true, true, true, true, true, true, true, true, true, true, true, true, true, true, true, true, true, false] (by kernel_rfl) (by kernel_rfl) ?_
    simp only [List.take_succ_cons, List.take_zero, List.drop_succ_cons, List.drop_zero]
    repeat (go_big_quiet_step (fail))
    refine wpQuiet_nil ?_
    intro wz hzz
    obtain ⟨nq, rfl⟩ := hzz
    go_wp2_with fail
    refine bodyPost_ret (results_tmp rfl _ _ _) rfl ?_
    exact ⟨false, rfl, ⟨fun h => (by cases h), fun h => absurd h.1 hln⟩, below_drewN2 HD.out.1 nq⟩
  case pos =>
    have l0 : ((Ss.length : Int) != (Wd.length : Int) + 1) = false := by simp; omega
    have l1 : (0 : Int) < (Ss.length : Int) := by omega
    have l2 : (Wd.length : Int) < (Ss.length : Int) := by omega
    have l3 : (0 : Int) ≤ (Wd.length : Int) := by omega
    have HP := hide (fun (h0 : Ss[0]'(by omega) ∈ St) (h1 : Ss[Wd.length]'(by omega) ∈ Fi) (h2 : ∀ i (h : i < Wd.length), (Ss[i]'(by omega), Wd[i], Ss[i + 1]'(by omega)) ∈ Ed) => (show IsP St Fi Ed Ss Wd from ⟨hln, h0, h1, h2⟩))
    obtain ⟨gs, os, rfl, q0⟩ := RS0.out 0 (by omega)
    obtain ⟨_, _, e1, q1⟩ := RS0.out Wd.length (by omega)
    cases e1
    have HX0 : Hid ((Ss[0]'(by omega) ∈ St) ↔ decide (Ss[0]'(by omega) ∈ St) = true) := hide decide_eq_true_iff.symm
    have HX1 : Hid ((Ss[Wd.length]'(by omega) ∈ Fi) ↔ decide (Ss[Wd.length]'(by omega) ∈ Fi) = true) := hide decide_eq_true_iff.symm
    have U1 := hide (fun W => TC1.out W (Ss[0]'(by omega)))
    have U2 := hide (fun W => TC2.out W (Ss[Wd.length]'(by omega)))
    have HX2 : Hid (∀ k : Nat, (Ss[0]'(by omega)) = (k : Int) ∨ True) := hide (fun _ => Or.inr trivial)
    clear TC1 TC2 HX2
    have HXI := hide (fun (h : (Ss[0]'(by omega)) ∈ St) => (inB_iff.1 (List.all_eq_true.1 (may_parts em.out).2.2.2.1 (Ss[0]'(by omega)) h)))
    generalize decide (Ss[0]'(by omega) ∈ St) = r0 at HX0 U1
    generalize decide (Ss[Wd.length]'(by omega) ∈ Fi) = r1 at HX1 U2
    obtain ⟨x0, hx0⟩ : ∃ x, Ss[0]'(by omega) = x := ⟨_, rfl⟩
    obtain ⟨x1, hx1⟩ : ∃ x, Ss[Wd.length]'(by omega) = x := ⟨_, rfl⟩
    rw [hx0, Nat.add_zero] at q0
    rw [hx1] at q1
    simp only [hx0] at U1
    simp only [hx1] at U2
    have HY0 := hide hx0
    have HY1 := hide hx1
    clear hx0 hx1
    cases r0
    · go_enter Tryz.func56, Tryz.ntmps56
      go_upto_region 1 with fail
      refine wp_region_phase 25 #[true, true, true, true, true, true, true, true, true, true, true, true, true, true, true, true, true, true, true, true, true, true, true, true, true, false] (by kernel_rfl) (by kernel_rfl) ?_
      simp only [List.take_succ_cons, List.take_zero, List.drop_succ_cons, List.drop_zero]
      repeat (go_big_quiet_step ((go_at_call 93; exact Calls.quiet_of_same (U1.out _ RA0.out.s))))
      refine wpQuiet_nil ?_
      intro wz hzz
      obtain ⟨nq, rfl⟩ := hzz
      go_wp2_with fail
      refine bodyPost_ret (results_tmp rfl _ _ _) rfl ?_
      exact ⟨false, rfl, ⟨fun h => (by cases h), fun h => absurd (HX0.out.1 h.2.1) (by decide)⟩, below_drewN2 HD.out.1 nq⟩
    · have r1f : True := trivial
      clear r1f
      have HXI2 := hide (HXI.out (HX0.out.2 rfl))
      cases r1
      · go_enter Tryz.func56, Tryz.ntmps56
        go_upto_region 1 with fail
        refine wp_region_phase 25 #[true, true, true, true, true, true, true, true, true, true, true, true, true, true, true, true, true, true, true, true, true, true, true, true, true, false] (by kernel_rfl) (by kernel_rfl) ?_
        simp only [List.take_succ_cons, List.take_zero, List.drop_succ_cons, List.drop_zero]
        repeat (go_big_quiet_step ((first | (go_at_call 93; exact Calls.quiet_of_same (U1.out _ RA0.out.s)) | (go_at_call 93; exact Calls.quiet_of_same (U2.out _ RA0.out.f)))))
        refine wpQuiet_nil ?_
        intro wz hzz
        obtain ⟨nq, rfl⟩ := hzz
        go_wp2_with fail
        refine bodyPost_ret (results_tmp rfl _ _ _) rfl ?_
        exact ⟨false, rfl, ⟨fun h => (by cases h), fun h => absurd (HX1.out.1 h.2.2.1) (by decide)⟩, below_drewN2 HD.out.1 nq⟩
      · go_enter Tryz.func56, Tryz.ntmps56
        go_upto_region 1 with fail
        refine wp_region_phase 25 #[true, true, true, true, true, true, true, true, true, true, true, true, true, true, true, true, true, true, true, true, true, true, true, true, true, false] (by kernel_rfl) (by kernel_rfl) ?_
        simp only [List.take_succ_cons, List.take_zero, List.drop_succ_cons, List.drop_zero]
        repeat (go_big_quiet_step ((first | (go_at_call 93; exact Calls.quiet_of_same (U1.out _ RA0.out.s)) | (go_at_call 93; exact Calls.quiet_of_same (U2.out _ RA0.out.f)))))
        refine wpQuiet_nil ?_
        intro wz hzz
        obtain ⟨nq, rfl⟩ := hzz
        obtain ⟨W1, hW1⟩ : ∃ W1, W0.drewN nq = W1 := ⟨_, rfl⟩
        rw [hW1]
        have d1' : Below W0.heap.size W0 W1 := by rw [← hW1]; exact below_drewN2 (Below.refl _ _) nq
        have B1 := blk_on HD.out.2 d1'
        have Y0 : W1.cell? ⟨w.heap.size, 0, none⟩ = some (.int .i64 (N : Nat)) := cell_of B1 rfl
        have Y1 : W1.cell? ⟨w.heap.size, 1, none⟩ = some (.int .i64 m) := cell_of B1 rfl
        have Y2 : W1.cell? ⟨w.heap.size, 2, none⟩ = some (.slice a1 St.length c1) := cell_of B1 rfl
        have Y3 : W1.cell? ⟨w.heap.size, 3, none⟩ = some (.slice a2 Fi.length c2) := cell_of B1 rfl
        have Y4 : W1.cell? ⟨w.heap.size, 4, none⟩ = some (.slice a3 Ed.length c3) := cell_of B1 rfl
        have TO1 := TO.out W1 d1'
        have D1 := hide d1'
        clear hW1 B1 d1' TO y0 y1 y2 y3 y4 q0 q1 U1 U2 hW0
        go_upto_region 4 with (first
          | (go_at_call 62; refine TO1.mono ?_; rintro e w1 ⟨g1, k1, g2, k2, g3, k3, rfl, hO, d1⟩; have TN := newWalk_any w1 N m (some ⟨g1, 0, none⟩) (some ⟨g2, 0, none⟩) (some ⟨g3, 0, none⟩) (riseL St).length (riseL Fi).length k1 k2 k3 Es hN (hide (rdE_own hO.e)) hl3 HFr)
          | (go_at_call 85; refine TN.mono ?_; rintro e w2 ⟨gf, rfl, hM, hgf, d2⟩))
        obtain ⟨W3, hW3⟩ : ∃ W3, w2.alloc (.cells #[.int .i64 (N : Int), .int .i64 m, .slice (some ⟨g1, 0, none⟩) (riseL St).length k1, .slice (some ⟨g2, 0, none⟩) (riseL Fi).length k2, .slice (some ⟨g3, 0, none⟩) Es.length k3, .slice (some ⟨gf, 0, none⟩) (N + 1) (N + 1)] 80) = W3 := ⟨_, rfl⟩
        rw [hW3]
        have d3 : Below w2.heap.size w2 W3 := by rw [← hW3]; exact (Below.refl _ _).alloc (Nat.le_refl _) _
        have b3 : W3.heap[w2.heap.size]? = some (.cells #[.int .i64 (N : Int), .int .i64 m, .slice (some ⟨g1, 0, none⟩) (riseL St).length k1, .slice (some ⟨g2, 0, none⟩) (riseL Fi).length k2, .slice (some ⟨g3, 0, none⟩) Es.length k3, .slice (some ⟨gf, 0, none⟩) (N + 1) (N + 1)] 80 (0, 0)) := by rw [← hW3]; exact World.alloc_heap_new _ _
        have D12 : Below W1.heap.size W1 w2 := d1.trans (d2.mono d1.size)
        have D13 : Below W1.heap.size W1 W3 := D12.trans (d3.mono D12.size)
        have D03 : Below W0.heap.size W0 W3 := D1.out.trans (D13.mono D1.out.size)
        have H3 := hide (And.intro ((WK.out w1 w2 g1 k1 g2 k2 g3 k3 gf _ _ _ hO d2 hM HIN.out h3 hN).on d3) (And.intro b3 (HD.out.1.trans (D03.mono HD.out.1.size))))
        clear Y0 Y1 Y2 Y3 Y4 TO1 TN hO d1 hM d2 hW3 d3 b3 D12 D13 D03 WK D1
        have INV0 : Hid (Below W3.heap.size W3 W3 ∧ (∀ j (h : j < Wd.length), j < 0 → (Ss[j]'(by omega), Wd[j], Ss[j + 1]'(by omega)) ∈ Ed) ∧ (0 ≤ (Ss[0]'(by omega)) ∧ (Ss[0]'(by omega)) < (N : Int))) := hide ⟨Below.refl _ _, fun j _ h => absurd h (by omega), HXI2.out⟩
        go_wp2_with fail
        go_loopw [41] (fun iv wr => ∃ i : Nat, ∃ hi : i ≤ Wd.length, iv = .int .i64 i ∧ Hid (Below W3.heap.size W3 wr ∧ (∀ j (h : j < Wd.length), j < i → (Ss[j]'(by omega), Wd[j], Ss[j + 1]'(by omega)) ∈ Ed) ∧ (0 ≤ (Ss[i]'(by omega)) ∧ (Ss[i]'(by omega)) < (N : Int)))) (fun iv _ => Wd.length - (intOf iv).toNat)
        case atStart => exact ⟨0, Nat.zero_le _, rfl, INV0⟩
        case round =>
          clear INV0
          obtain ⟨i, hi, rfl, HY⟩ := hrel
          by_cases hlt : i < Wd.length
          · have i0 : (0 : Int) ≤ (i : Int) := by omega
            have i1 : (i : Int) < (Wd.length : Int) := by omega
            have i2 : (i : Int) < (Ss.length : Int) := by omega
            have i3 : (i : Int) + 1 < (Ss.length : Int) := by omega
            have i4 : (i : Int) ≤ 4194304 := by omega
            have i5 : (i : Int) < (Wd.length : Int) + 1 := by omega
            have i6 : (i : Int) + 1 < (Wd.length : Int) + 1 := by omega
            have i7 : (i : Int) ≤ (Wd.length : Int) := by omega
            have i8 : (0 : Int) ≤ (i : Int) + 1 := by omega
            have DR := hide (H3.out.2.2.trans (HY.out.1.mono H3.out.2.2.size))
            obtain ⟨gw, ow, rfl, qw⟩ := (hWd.out.on DR.out) i hlt
            obtain ⟨_, _, e1, s0⟩ := (hSs.out.on H3.out.2.2) i (by omega)
            cases e1
            obtain ⟨_, _, e1, s1⟩ := (hSs.out.on H3.out.2.2) (i + 1) (by omega)
            cases e1
            obtain ⟨p, hp⟩ := Int.eq_ofNat_of_zero_le HY.out.2.2.1
            have hpN : p < N := by have := HY.out.2.2.2; omega
            have HE : Hid (((Ss[i]'(by omega), Wd[i], Ss[i + 1]'(by omega)) ∈ Ed) ↔ decide (((p : Int), Wd[i], Ss[i + 1]'(by omega)) ∈ Es) = true) := hide (by rw [decide_eq_true_iff, IFF.out, hp])
            have HV : Hid (((Ss[i]'(by omega), Wd[i], Ss[i + 1]'(by omega)) ∈ Ed) → (0 ≤ (Ss[i + 1]'(by omega)) ∧ (Ss[i + 1]'(by omega)) < (N : Int))) := hide (fun h => (HIN.out _ h).2)
            have T94 := hide (fun W (d : Below W3.heap.size W3 W) => whas_any W N p m Wd[i] (Ss[i + 1]'(by omega)) (some ⟨g1, 0, none⟩) (some ⟨g2, 0, none⟩) (riseL St).length (riseL Fi).length k1 k2 g3 k3 gf Es (hide (H3.out.1.on d).e) H3.out.1.k (hide (H3.out.1.on d).f) hpN hN (hide H3.out.1.s) H3.out.1.l)
            generalize decide (((p : Int), Wd[i], Ss[i + 1]'(by omega)) ∈ Es) = r at HE T94
            rw [hp] at s0
            have HZ : Hid (Ss[i + 1]'(by omega) = Ss[i + 1]'(by omega)) := hide rfl
            obtain ⟨z, hz⟩ : ∃ z, Ss[i + 1]'(by omega) = z := ⟨_, rfl⟩
            rw [hz] at s1
            simp only [hz] at T94
            obtain ⟨sy, hsy⟩ : ∃ z, Wd[i] = z := ⟨_, rfl⟩
            rw [hsy] at qw
            simp only [hsy] at T94
            have HS0 := hide s0
            have HS1 := hide s1
            have HN2 : Hid (r = true → (∀ j (h : j < Wd.length), j < i + 1 → (Ss[j]'(by omega), Wd[j], Ss[j + 1]'(by omega)) ∈ Ed) ∧ (0 ≤ (Ss[i + 1]'(by omega)) ∧ (Ss[i + 1]'(by omega)) < (N : Int))) := hide (fun hr => ⟨fun j hj hji => by
              rcases Nat.lt_or_ge j i with h | h
              · exact HY.out.2.1 j hj h
              · obtain rfl : j = i := by omega
                exact HE.out.2 hr, HV.out (HE.out.2 hr)⟩)
            have HY1 := hide HY.out.1
            clear hp hz hsy s0 s1 HZ
            have SK : Hid (∀ W, Below W3.heap.size W3 W → (fun W => (W.cell? ⟨w2.heap.size, 0, none⟩ = some (.int .i64 (N : Int)) ∧ W.cell? ⟨w2.heap.size, 1, none⟩ = some (.int .i64 m) ∧ W.cell? ⟨w2.heap.size, 2, none⟩ = some (.slice (some ⟨g1, 0, none⟩) (riseL St).length k1) ∧ W.cell? ⟨w2.heap.size, 3, none⟩ = some (.slice (some ⟨g2, 0, none⟩) (riseL Fi).length k2) ∧ W.cell? ⟨w2.heap.size, 4, none⟩ = some (.slice (some ⟨g3, 0, none⟩) Es.length k3) ∧ W.cell? ⟨w2.heap.size, 5, none⟩ = some (.slice (some ⟨gf, 0, none⟩) (N + 1) (N + 1)) ∧ W.cell? ⟨gs, os + i, none⟩ = some (.int .i64 (p : Int)) ∧ W.cell? ⟨gs, os + (i + 1), none⟩ = some (.int .i64 z) ∧ Hid (Below W3.heap.size W3 W))) W) := hide (fun W d => by
              have e := blk_on H3.out.2.1 d
              exact ⟨cell_of e rfl, cell_of e rfl, cell_of e rfl, cell_of e rfl, cell_of e rfl, cell_of e rfl, (d.cell (p := ⟨gs, os + i, none⟩) (World.block_lt_of_cell? W3 _ HS0.out)).trans HS0.out, (d.cell (p := ⟨gs, os + (i + 1), none⟩) (World.block_lt_of_cell? W3 _ HS1.out)).trans HS1.out, hide d⟩)
            go_upto_region 7 with fail
            obtain ⟨f0, f1, f2, f3, f4, f5, f6, f7, _⟩ := SK.out wr HY1.out
            have fin : Hid (r = false → ∀ w', Below W3.heap.size W3 w' → PthA St Fi Ed Ss Wd w (.returned (.bool false)) w') := hide (fun hr w' d => ⟨false, rfl, ⟨fun h => (by cases h), fun h => absurd (HE.out.1 (h.2.2.2 i hlt)) (by rw [hr]; decide)⟩, H3.out.2.2.trans (d.mono H3.out.2.2.size)⟩)
            refine wp_region_phase 12 #[true, true, true, true, true, true, true, true, true, true, true, true, false, false] (by kernel_rfl) (by kernel_rfl) ?_
            simp only [List.take_succ_cons, List.take_zero, List.drop_succ_cons, List.drop_zero]
            repeat (go_big_quiet_step (fail))
            refine wpQuiet_nil ?_
            intro wz hzz
            obtain ⟨nq2, rfl⟩ := hzz
            cases r
            · go_wp2_with (go_at_call 94; refine (T94.out _ (below_drewN2 HY1.out nq2)).mono ?_; rintro e wa ⟨rfl, da⟩; have Da : Below W3.heap.size W3 wa := (below_drewN2 HY1.out nq2).trans (da.mono (below_drewN2 HY1.out nq2).size))
              refine bodyPost_ret (results_tmp rfl _ _ _) rfl ?_
              exact fin.out (by trivial) _ Da
            · go_wp2_with (go_at_call 94; refine (T94.out _ (below_drewN2 HY1.out nq2)).mono ?_; rintro e wa ⟨rfl, da⟩; have Da : Below W3.heap.size W3 wa := (below_drewN2 HY1.out nq2).trans (da.mono (below_drewN2 HY1.out nq2).size))
              exact ⟨⟨i + 1, by omega, by go_num, hide ⟨Da, HN2.out (by trivial)⟩⟩, by simp [intOf]; omega⟩
          · have i1 : ¬ (i : Int) < (Wd.length : Int) := by omega
            obtain rfl : i = Wd.length := by omega
            have FN : Hid (PthA St Fi Ed Ss Wd w (.returned (.bool true)) wr) := hide ⟨true, rfl, ⟨fun _ => HP.out (HX0.out.2 (by trivial)) (HX1.out.2 (by trivial)) (fun j hj => HY.out.2.1 j hj hj), fun _ => rfl⟩, H3.out.2.2.trans (HY.out.1.mono H3.out.2.2.size)⟩
            clear HY
            go_wp2_with fail
            refine bodyPost_ret (results_tmp rfl _ _ _) rfl ?_
            exact FN.out
end Go.Proofs.YtfoahpideglghaaGreatDoor
namespace Go.Proofs.YtfoahpideglghaaGreatDoor
open Go.RowKit Go.Maps Go.Shelf
attribute [local go_sem] Oper.semAt_some

/-! ### Runs; one list less than another -/
set_option maxRecDepth 100000 in
set_option maxHeartbeats 1000000 in
theorem Runs_bad (w : World) (n : Int) (m : Int) (a1 a2 a3 ax aw : Option Addr) (c1 c2 c3 cs cw ls : Nat) (St Fi : List Int) (Ed : List EdT) (Wd : List Int) (hA : Hid (RdA w a1 a2 a3 St Fi Ed)) (hWd : Hid (RdN w aw Wd)) (h1 : St.length ≤ 4194304) (h2 : Fi.length ≤ 4194304) (h3 : Ed.length ≤ 4194304) (hw : Wd.length ≤ 4194304) (hbad : wordErr n m St Fi Ed Wd ≠ 0) :
    Calls Tryz.prog 13 #[.agg #[.int .i64 n, .int .i64 m, .slice a1 St.length c1, .slice a2 Fi.length c2, .slice a3 Ed.length c3], .slice ax ls cs, .slice aw Wd.length cw] w fun e w' => e = .returned (.tuple #[.bool false, .int .i64 (wordErr n m St Fi Ed Wd)]) ∧ Below w.heap.size w w' := by
  obtain ⟨W0, hW0⟩ : ∃ W0, w.alloc (.cells #[.int .i64 n, .int .i64 m, .slice a1 St.length c1, .slice a2 Fi.length c2, .slice a3 Ed.length c3] 25) = W0 := ⟨_, rfl⟩
  have d0 : Below w.heap.size w W0 := by rw [← hW0]; exact (Below.refl _ _).alloc (Nat.le_refl _) _
  have B0 : W0.heap[w.heap.size]? = some (.cells #[.int .i64 n, .int .i64 m, .slice a1 St.length c1, .slice a2 Fi.length c2, .slice a3 Ed.length c3] 25 (0, 0)) := by rw [← hW0]; exact World.alloc_heap_new _ _
  have y0 : W0.cell? ⟨w.heap.size, 0, none⟩ = some (.int .i64 n) := cell_of B0 rfl
  have y1 : W0.cell? ⟨w.heap.size, 1, none⟩ = some (.int .i64 m) := cell_of B0 rfl
  have y2 : W0.cell? ⟨w.heap.size, 2, none⟩ = some (.slice a1 St.length c1) := cell_of B0 rfl
  have y3 : W0.cell? ⟨w.heap.size, 3, none⟩ = some (.slice a2 Fi.length c2) := cell_of B0 rfl
  have y4 : W0.cell? ⟨w.heap.size, 4, none⟩ = some (.slice a3 Ed.length c3) := cell_of B0 rfl
  have T1 := checkWord_any W0 n m a1 a2 a3 c1 c2 c3 St Fi Ed (hide (hA.out.on d0)) h1 h2 h3 aw cw Wd (hide (hWd.out.on d0)) hw
  have HD := hide (And.intro d0 B0)
  clear d0 B0
  obtain ⟨r, hr⟩ : ∃ r, wordErr n m St Fi Ed Wd = r := ⟨_, rfl⟩
  rw [hr] at T1 hbad
  rw [hr]
  clear hr
  go_enter Tryz.func13, Tryz.ntmps13
  go_wp2_with (go_at_call 51; refine T1.mono ?_; rintro e w1 ⟨rfl, d1⟩; have H1 := hide d1; clear d1)
  go_ret2
  exact ⟨rfl, HD.out.1.trans (H1.out.mono HD.out.1.size)⟩
/-- What Runs answers. -/
def RunA (St Fi : List Int) (Ed : List EdT) (Ss Wd : List Int) (w : World) (e : Ending) (w' : World) : Prop := ∃ r : Bool, e = .returned (.tuple #[.bool r, .int .i64 0]) ∧ (r = true ↔ IsP St Fi Ed Ss Wd) ∧ Below w.heap.size w w'
set_option maxRecDepth 100000 in
set_option maxHeartbeats 1000000 in
theorem Runs_ok (w : World) (N : Nat) (m : Int) (a1 a2 a3 ax aw : Option Addr) (c1 c2 c3 cs cw : Nat) (St Fi : List Int) (Ed : List EdT) (Ss Wd : List Int) (hA : Hid (RdA w a1 a2 a3 St Fi Ed)) (hSs : Hid (RdN w ax Ss)) (hWd : Hid (RdN w aw Wd)) (h1 : St.length ≤ 4194304) (h2 : Fi.length ≤ 4194304) (h3 : Ed.length ≤ 4194304) (hs : Ss.length ≤ 4194304) (hw : Wd.length ≤ 4194304) (hok : wordErr N m St Fi Ed Wd = 0) :
    Calls Tryz.prog 13 #[.agg #[.int .i64 (N : Nat), .int .i64 m, .slice a1 St.length c1, .slice a2 Fi.length c2, .slice a3 Ed.length c3], .slice ax Ss.length cs, .slice aw Wd.length cw] w fun e w' => RunA St Fi Ed Ss Wd w e w' := by
  obtain ⟨W0, hW0⟩ : ∃ W0, w.alloc (.cells #[.int .i64 (N : Nat), .int .i64 m, .slice a1 St.length c1, .slice a2 Fi.length c2, .slice a3 Ed.length c3] 25) = W0 := ⟨_, rfl⟩
  have d0 : Below w.heap.size w W0 := by rw [← hW0]; exact (Below.refl _ _).alloc (Nat.le_refl _) _
  have B0 : W0.heap[w.heap.size]? = some (.cells #[.int .i64 (N : Nat), .int .i64 m, .slice a1 St.length c1, .slice a2 Fi.length c2, .slice a3 Ed.length c3] 25 (0, 0)) := by rw [← hW0]; exact World.alloc_heap_new _ _
  have y0 : W0.cell? ⟨w.heap.size, 0, none⟩ = some (.int .i64 (N : Nat)) := cell_of B0 rfl
  have y1 : W0.cell? ⟨w.heap.size, 1, none⟩ = some (.int .i64 m) := cell_of B0 rfl
  have y2 : W0.cell? ⟨w.heap.size, 2, none⟩ = some (.slice a1 St.length c1) := cell_of B0 rfl
  have y3 : W0.cell? ⟨w.heap.size, 3, none⟩ = some (.slice a2 Fi.length c2) := cell_of B0 rfl
  have y4 : W0.cell? ⟨w.heap.size, 4, none⟩ = some (.slice a3 Ed.length c3) := cell_of B0 rfl
  have T1 := checkWord_any W0 N m a1 a2 a3 c1 c2 c3 St Fi Ed (hide (hA.out.on d0)) h1 h2 h3 aw cw Wd (hide (hWd.out.on d0)) hw
  have em := hide (wordErr_zero hok).1
  have HD := hide (And.intro d0 B0)
  have T2 : Hid (∀ W, Below W0.heap.size W0 W → Calls Tryz.prog 56 #[.agg #[.int .i64 (N : Nat), .int .i64 m, .slice a1 St.length c1, .slice a2 Fi.length c2, .slice a3 Ed.length c3], .slice ax Ss.length cs, .slice aw Wd.length cw] W fun e w' => PthA St Fi Ed Ss Wd W e w') := hide (fun W d => by
    have D := HD.out.1.trans (d.mono HD.out.1.size)
    exact isPath_any W N m a1 a2 a3 ax aw c1 c2 c3 cs cw St Fi Ed Ss Wd (hide (hA.out.on D)) (hide (hSs.out.on D)) (hide (hWd.out.on D)) h1 h2 h3 hs hw em)
  clear d0 B0
  rw [hok] at T1
  go_enter Tryz.func13, Tryz.ntmps13
  go_upto_region 4 with (go_at_call 51; refine T1.mono ?_; rintro e w1 ⟨rfl, d1⟩)
  have B1 := blk_on HD.out.2 d1
  have z0 : w1.cell? ⟨w.heap.size, 0, none⟩ = some (.int .i64 (N : Nat)) := cell_of B1 rfl
  have z1 : w1.cell? ⟨w.heap.size, 1, none⟩ = some (.int .i64 m) := cell_of B1 rfl
  have z2 : w1.cell? ⟨w.heap.size, 2, none⟩ = some (.slice a1 St.length c1) := cell_of B1 rfl
  have z3 : w1.cell? ⟨w.heap.size, 3, none⟩ = some (.slice a2 Fi.length c2) := cell_of B1 rfl
  have z4 : w1.cell? ⟨w.heap.size, 4, none⟩ = some (.slice a3 Ed.length c3) := cell_of B1 rfl
  have D1 := hide (HD.out.1.trans (d1.mono HD.out.1.size))
  have T3 := T2.out w1 d1
  clear B1 d1 T1 T2 y0 y1 y2 y3 y4
  go_wp2_with (go_at_call 56; refine T3.mono ?_; rintro e w2 ⟨r, rfl, hr, d2⟩; have HR := hide hr; have H2 := hide d2; clear hr d2)
  go_ret2
  exact ⟨r, rfl, HR.out, D1.out.trans (H2.out.mono D1.out.size)⟩
end Go.Proofs.YtfoahpideglghaaGreatDoor
