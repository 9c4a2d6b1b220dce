import Derived.Test.YtfoahpideglghaaGreatDoorNw
namespace Go.Proofs.YtfoahpideglghaaGreatDoor
open Go.RowKit Go.Maps
attribute [local go_sem] Oper.semAt_some

/-! ### Edges found by their symbol -/
set_option maxRecDepth 100000 in
set_option maxHeartbeats 1000000 in
theorem symOrder_any (w : World) (x : EdT) (y : Int) :
    Calls Tryz.prog 112 #[.agg #[.int .i64 x.1, .int .i64 x.2.1, .int .i64 x.2.2], .int .i64 y] w fun e w' => e = .returned (.int .i64 (Lib.compareInt x.2.1 y)) ∧ Below w.heap.size w w' := by
  obtain ⟨x0, x1, x2⟩ := x
  simp only
  obtain ⟨W0, hW0⟩ : ∃ W0, w.alloc (.cells #[.int .i64 x0, .int .i64 x1, .int .i64 x2] 59) = W0 := ⟨_, rfl⟩
  have HD : Hid (Below w.heap.size w W0) := hide (by rw [← hW0]; exact (Below.refl _ _).alloc (Nat.le_refl _) _)
  have b0 : W0.heap[w.heap.size]? = some (.cells #[.int .i64 x0, .int .i64 x1, .int .i64 x2] 59 (0, 0)) := by rw [← hW0]; exact World.alloc_heap_new _ _
  have c1 : W0.cell? ⟨w.heap.size, 1, none⟩ = some (.int .i64 x1) := cell_of b0 rfl
  clear b0
  go_enter Tryz.func112, Tryz.ntmps112
  go_wp2_with (go_at_call 113; refine (cmpi_any _ _ _).mono ?_; rintro e w1 ⟨rfl, rfl⟩)
  go_ret
  exact ⟨rfl, HD.out⟩
/-- Does the edge at a place have the symbol? -/
def fnd (L : List EdT) (k : Nat) (y : Int) : Bool := match L[k]? with
  | some x => Lib.compareInt x.2.1 y == 0
  | none => false
theorem cmp_lt (x y : Int) : Lib.compareInt x y < 0 ↔ x < y := by
  rcases cmp_pos x y with ⟨h, e⟩ | ⟨h, e⟩ | ⟨h, e⟩ <;> rw [e] <;> omega
set_option maxRecDepth 100000 in
set_option maxHeartbeats 1000000 in
theorem search_any (w : World) (ao : Option Addr) (L : List EdT) (c : Nat) (y : Int) (hr : Hid (RdE w ao L)) (hl : L.length ≤ 4194304) (hS : Hid (∀ i j (hi : i < L.length) (hj : j < L.length), i ≤ j → L[i].2.1 ≤ L[j].2.1)) :
    Calls Tryz.prog 114 #[.slice ao L.length c, .int .i64 y, .func (.func 112) #[] #[]] w fun e w' => ∃ k : Nat, e = .returned (.tuple #[.int .i64 k, .bool (fnd L k y)]) ∧ k ≤ L.length ∧ (∀ t (h : t < L.length), L[t].2.1 < y ↔ t < k) ∧ Below w.heap.size w w' := by
  go_enter Tryz.func114, Tryz.ntmps114
  go_wp2
  go_loopw [9, 10] (fun iv jv wr => ∃ i j : Nat, i ≤ j ∧ j ≤ L.length ∧ iv = .int .i64 i ∧ jv = .int .i64 j ∧ Hid ((∀ t (h : t < L.length), t < i → L[t].2.1 < y) ∧ (∀ t (h : t < L.length), j ≤ t → y ≤ L[t].2.1) ∧ Below w.heap.size w wr)) (fun iv jv _ => (intOf jv).toNat - (intOf iv).toNat)
  case atStart => exact ⟨0, L.length, Nat.zero_le _, Nat.le_refl _, rfl, rfl, hide ⟨fun t _ h => absurd h (Nat.not_lt_zero t), fun t h h2 => absurd h (by omega), Below.refl _ _⟩⟩
  case round =>
    obtain ⟨i, j, hij, hjl, rfl, rfl, HI⟩ := hrel
    by_cases hlt : i < j
    · have l0 : (i : Int) < (j : Int) := by omega
      have l1 : (0 : Int) ≤ (i : Int) := by omega
      have l2 : (j : Int) ≤ 4194304 := by omega
      go_upto_region 5 with fail
      obtain ⟨h, hh⟩ : ∃ h : Nat, ((i : Int) + (j : Int)) / 2 = (h : Int) := ⟨(i + j) / 2, by omega⟩
      rw [hh]
      have hb : i ≤ h ∧ h < j := by omega
      clear hh
      have h0 : (0 : Int) ≤ (h : Int) := by omega
      have h1 : (h : Int) < (L.length : Int) := by omega
      have h2 : (h : Int) ≤ 4194304 := by omega
      have hhl : h < L.length := by omega
      obtain ⟨g, o, rfl, q0, q1, q2⟩ := (hr.out.on HI.out.2.2) h hhl
      obtain ⟨x, hx⟩ : ∃ x, L[h] = x := ⟨_, rfl⟩
      rw [hx] at q0 q1 q2
      obtain ⟨x0, x1, x2⟩ := x
      have T := symOrder_any wr (x0, x1, x2) y
      simp only at T q0 q1 q2
      have HX := hide (show L[h].2.1 = x1 by rw [hx])
      clear hx
      have HC := hide (cmp_lt x1 y)
      generalize Lib.compareInt x1 y = cv at T HC
      by_cases hc : cv < 0
      · go_wp2_with (go_at_call 112; refine T.mono ?_; rintro e w2 ⟨rfl, d2⟩)
        refine ⟨⟨h + 1, j, by omega, hjl, by go_num, rfl, hide ⟨fun t ht hti => ?_, HI.out.2.1, HI.out.2.2.trans (d2.mono HI.out.2.2.size)⟩⟩, by simp [intOf]; omega⟩
        have e1 := hS.out t h ht hhl (by omega)
        have e2 := HC.out.1 hc
        rw [HX.out] at e1
        omega
      · go_wp2_with (go_at_call 112; refine T.mono ?_; rintro e w2 ⟨rfl, d2⟩)
        refine ⟨⟨i, h, by omega, by omega, rfl, rfl, hide ⟨HI.out.1, fun t ht hti => ?_, HI.out.2.2.trans (d2.mono HI.out.2.2.size)⟩⟩, by simp [intOf]; omega⟩
        have e1 := hS.out h t hhl ht hti
        have e2 : ¬ x1 < y := fun q => by have := HC.out.2 q; omega
        rw [HX.out] at e1
        omega
    · obtain rfl : i = j := by omega
      have l0 : ¬ (i : Int) < (i : Int) := by omega
      by_cases hi : i < L.length
      · have l1 : (i : Int) < (L.length : Int) := by omega
        have l2 : (0 : Int) ≤ (i : Int) := by omega
        obtain ⟨g, o, rfl, q0, q1, q2⟩ := (hr.out.on HI.out.2.2) i hi
        obtain ⟨x, hx⟩ : ∃ x, L[i] = x := ⟨_, rfl⟩
        rw [hx] at q0 q1 q2
        obtain ⟨x0, x1, x2⟩ := x
        have T := symOrder_any wr (x0, x1, x2) y
        simp only at T q0 q1 q2
        have HX : Hid (fnd L i y = (Lib.compareInt x1 y == 0)) := hide (by unfold fnd; rw [List.getElem?_eq_getElem hi, hx])
        clear hx
        go_wp2_with (go_at_call 112; refine T.mono ?_; rintro e w2 ⟨rfl, d2⟩)
        go_ret2
        exact ⟨i, by rw [HX.out]; rfl, hjl, fun t ht => ⟨fun q => Nat.lt_of_not_le fun z => by have := HI.out.2.1 t ht z; omega, HI.out.1 t ht⟩, HI.out.2.2.trans (d2.mono HI.out.2.2.size)⟩
      · have l1 : ¬ (i : Int) < (L.length : Int) := by omega
        have HX : Hid (fnd L i y = false) := hide (by unfold fnd; rw [List.getElem?_eq_none (by omega)])
        go_wp2_with fail
        go_ret2
        exact ⟨i, by rw [HX.out]; rfl, hjl, fun t ht => ⟨fun q => Nat.lt_of_not_le fun z => by have := HI.out.2.1 t ht z; omega, HI.out.1 t ht⟩, HI.out.2.2⟩
end Go.Proofs.YtfoahpideglghaaGreatDoor
