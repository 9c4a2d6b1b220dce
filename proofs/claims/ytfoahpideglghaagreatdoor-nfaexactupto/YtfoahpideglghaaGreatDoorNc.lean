import Derived.Test.YtfoahpideglghaaGreatDoorNB
namespace Go.Proofs.YtfoahpideglghaaGreatDoor
open Go.RowKit
attribute [local go_sem] Oper.semAt_some

/-! ### image -/
def imgF (back : Bool) (X : Nat) (sym : Int) (L : List EdT) : Nat := L.foldl (fun R e => if e.2.1 = sym ∧ hasB X (ends back e).1 = true then R ||| 2 ^ (ends back e).2.toNat else R) 0
theorem imgF_snoc (back : Bool) (X : Nat) (sym : Int) (L : List EdT) (e : EdT) : imgF back X sym (L ++ [e]) = if e.2.1 = sym ∧ hasB X (ends back e).1 = true then imgF back X sym L ||| 2 ^ (ends back e).2.toNat else imgF back X sym L := by
  unfold imgF
  rw [List.foldl_append]
  rfl
theorem imgF_test (back : Bool) (X : Nat) (sym : Int) (L : List EdT) (q : Nat) : (imgF back X sym L).testBit q = true ↔ ∃ e ∈ L, e.2.1 = sym ∧ hasB X (ends back e).1 = true ∧ (ends back e).2.toNat = q := by
  suffices h : ∀ R : Nat, (L.foldl (fun (R : Nat) (e : EdT) => if e.2.1 = sym ∧ hasB X (ends back e).1 = true then R ||| 2 ^ (ends back e).2.toNat else R) R).testBit q = true ↔ R.testBit q = true ∨ ∃ e ∈ L, e.2.1 = sym ∧ hasB X (ends back e).1 = true ∧ (ends back e).2.toNat = q by
    unfold imgF
    rw [h]
    simp
  induction L with
  | nil => intro R; simp
  | cons a L ih =>
    intro R
    rw [List.foldl_cons, ih]
    by_cases hc : a.2.1 = sym ∧ hasB X (ends back a).1 = true
    · rw [if_pos hc, Nat.testBit_or, Nat.testBit_two_pow]
      simp only [Bool.or_eq_true, decide_eq_true_eq, List.mem_cons, exists_eq_or_imp]
      constructor
      · rintro ((h | h) | h)
        · exact .inl h
        · exact .inr (.inl ⟨hc.1, hc.2, h⟩)
        · exact .inr (.inr h)
      · rintro (h | ⟨_, _, h⟩ | h)
        · exact .inl (.inl h)
        · exact .inl (.inr h)
        · exact .inr h
    · rw [if_neg hc]
      simp only [List.mem_cons, exists_eq_or_imp]
      constructor
      · rintro (h | h)
        · exact .inl h
        · exact .inr (.inr h)
      · rintro (h | ⟨h1, h2, _⟩ | h)
        · exact .inl h
        · exact absurd ⟨h1, h2⟩ hc
        · exact .inr h
/-- What image answers: an error. -/
def imgErr (n m : Int) (St Fi : List Int) (Ed : List EdT) (Q : List Int) (sym : Int) : Int := if mayA n m St Fi Ed then (if Q.all (inB n) && inB m sym then 0 else 1) else 2
theorem may_parts {n m : Int} {St Fi : List Int} {Ed : List EdT} (h : mayA n m St Fi Ed = true) : (0 ≤ n ∧ n ≤ 4096) ∧ (0 ≤ m ∧ m ≤ 128) ∧ Ed.length ≤ 65536 ∧ St.all (inB n) = true ∧ Fi.all (inB n) = true ∧ ∀ e ∈ Ed, (0 ≤ e.1 ∧ e.1 < n) ∧ (0 ≤ e.2.1 ∧ e.2.1 < m) ∧ 0 ≤ e.2.2 ∧ e.2.2 < n := by
  unfold mayA at h
  simp only [Bool.and_eq_true, decide_eq_true_eq, inB_iff] at h
  obtain ⟨⟨⟨⟨⟨h1, h2⟩, h3⟩, h4⟩, h5⟩, h6⟩ := h
  refine ⟨by omega, by omega, h3, h4, h5, fun e he => ?_⟩
  have := List.all_eq_true.1 h6 e he
  simp only [edOk, Bool.and_eq_true, inB_iff] at this
  exact ⟨this.1.1, this.1.2, this.2⟩
set_option maxRecDepth 100000 in
set_option maxHeartbeats 4000000 in
theorem image_bad (w : World) (n m : Int) (a1 a2 a3 aq : Option Addr) (c1 c2 c3 cq : Nat) (St Fi : List Int) (Ed : List EdT) (Q : List Int) (sym : Int) (hA : Hid (RdA w a1 a2 a3 St Fi Ed)) (hQ : Hid (RdN w aq Q)) (h1 : St.length ≤ 4194304) (h2 : Fi.length ≤ 4194304) (h3 : Ed.length ≤ 4194304) (hq : Q.length ≤ 4194304) (hbad : imgErr n m St Fi Ed Q sym ≠ 0) :
    Calls Tryz.prog 57 #[.agg #[.int .i64 n, .int .i64 m, .slice a1 St.length c1, .slice a2 Fi.length c2, .slice a3 Ed.length c3], .slice aq Q.length cq, .int .i64 sym, .func (.func 58) #[] #[]] w fun e w' => e = .returned (.tuple #[.slice none 0 0, .int .i64 (imgErr n m St Fi Ed Q sym)]) ∧ Below w.heap.size w w' := by
  obtain ⟨W0, hW0⟩ : ∃ W0, w.alloc (.cells #[.int .i64 n, .int .i64 m, .slice a1 St.length c1, .slice a2 Fi.length c2, .slice a3 Ed.length c3] 25) = W0 := ⟨_, rfl⟩
  have d0 : Below w.heap.size w W0 := by rw [← hW0]; exact (Below.refl _ _).alloc (Nat.le_refl _) _
  have B0 : W0.heap[w.heap.size]? = some (.cells #[.int .i64 n, .int .i64 m, .slice a1 St.length c1, .slice a2 Fi.length c2, .slice a3 Ed.length c3] 25 (0, 0)) := by rw [← hW0]; exact World.alloc_heap_new _ _
  have T1 := valid_any W0 n m a1 a2 a3 c1 c2 c3 St Fi Ed (hide (hA.out.on d0)) h1 h2 h3
  have k0 : W0.cell? ⟨w.heap.size, 0, none⟩ = some (.int .i64 n) := cell_of B0 rfl
  have k1 : W0.cell? ⟨w.heap.size, 1, none⟩ = some (.int .i64 m) := cell_of B0 rfl
  have k2 : W0.cell? ⟨w.heap.size, 2, none⟩ = some (.slice a1 St.length c1) := cell_of B0 rfl
  have k3 : W0.cell? ⟨w.heap.size, 3, none⟩ = some (.slice a2 Fi.length c2) := cell_of B0 rfl
  have k4 : W0.cell? ⟨w.heap.size, 4, none⟩ = some (.slice a3 Ed.length c3) := cell_of B0 rfl
  have HD := hide (And.intro d0 B0)
  have HQ := hide (hQ.out.on d0)
  clear d0 B0 hA hQ
  go_enter Tryz.func57, Tryz.ntmps57
  cases em : mayA n m St Fi Ed
  · rw [em] at T1
    have T1 : Calls Tryz.prog 22 #[.agg #[.int .i64 n, .int .i64 m, .slice a1 St.length c1, .slice a2 Fi.length c2, .slice a3 Ed.length c3]] W0 fun e w' => e = .returned (.int .i64 2) ∧ Below W0.heap.size W0 w' := T1
    go_wp2_with (go_at_call 22; refine T1.mono ?_; rintro e w1 ⟨rfl, d1⟩)
    go_ret2
    exact ⟨by simp [imgErr, em], HD.out.1.trans (d1.mono HD.out.1.size)⟩
  · rw [em] at T1
    have T1 : Calls Tryz.prog 22 #[.agg #[.int .i64 n, .int .i64 m, .slice a1 St.length c1, .slice a2 Fi.length c2, .slice a3 Ed.length c3]] W0 fun e w' => e = .returned (.int .i64 0) ∧ Below W0.heap.size W0 w' := T1
    go_upto_region 4 with (go_at_call 22; refine T1.mono ?_; rintro e w1 ⟨rfl, d1⟩)
    have H1 := hide (And.intro d1 (blk_on HD.out.2 d1))
    have y0 : w1.cell? ⟨w.heap.size, 0, none⟩ = some (.int .i64 n) := cell_of H1.out.2 rfl
    have y1 : w1.cell? ⟨w.heap.size, 1, none⟩ = some (.int .i64 m) := cell_of H1.out.2 rfl
    have T2 := allWithin_any aq cq Q n w1 (hide (HQ.out.on d1)) hq
    clear T1 d1 k0 k1 k2 k3 k4
    cases e4 : Q.all (inB n)
    · rw [e4] at T2
      go_wp2_with (go_at_call 64; refine T2.mono ?_; rintro e w2 ⟨rfl, hw⟩; obtain rfl := hw.symm)
      go_ret2
      exact ⟨by simp [imgErr, em, e4], HD.out.1.trans (H1.out.1.mono HD.out.1.size)⟩
    · rw [e4] at T2
      have e5 : inB m sym = false := by
        cases q : inB m sym
        · rfl
        · exact absurd (by simp [imgErr, em, e4, q]) hbad
      go_wp2_with (first
        | (go_at_call 64; refine T2.mono ?_; rintro e w2 ⟨rfl, hw⟩; obtain rfl := hw.symm)
        | (go_at_call 63; refine (within_any _ _ _).mono ?_; rintro e w2 ⟨rfl, hw⟩; obtain rfl := hw.symm))
      go_ret2
      exact ⟨by simp [imgErr, em, e4, e5], HD.out.1.trans (H1.out.1.mono HD.out.1.size)⟩
set_option maxRecDepth 100000 in
set_option maxHeartbeats 4000000 in
theorem image_badB (w : World) (n m : Int) (a1 a2 a3 aq : Option Addr) (c1 c2 c3 cq : Nat) (St Fi : List Int) (Ed : List EdT) (Q : List Int) (sym : Int) (hA : Hid (RdA w a1 a2 a3 St Fi Ed)) (hQ : Hid (RdN w aq Q)) (h1 : St.length ≤ 4194304) (h2 : Fi.length ≤ 4194304) (h3 : Ed.length ≤ 4194304) (hq : Q.length ≤ 4194304) (hbad : imgErr n m St Fi Ed Q sym ≠ 0) :
    Calls Tryz.prog 57 #[.agg #[.int .i64 n, .int .i64 m, .slice a1 St.length c1, .slice a2 Fi.length c2, .slice a3 Ed.length c3], .slice aq Q.length cq, .int .i64 sym, .func (.func 59) #[] #[]] w fun e w' => e = .returned (.tuple #[.slice none 0 0, .int .i64 (imgErr n m St Fi Ed Q sym)]) ∧ Below w.heap.size w w' := by
  obtain ⟨W0, hW0⟩ : ∃ W0, w.alloc (.cells #[.int .i64 n, .int .i64 m, .slice a1 St.length c1, .slice a2 Fi.length c2, .slice a3 Ed.length c3] 25) = W0 := ⟨_, rfl⟩
  have d0 : Below w.heap.size w W0 := by rw [← hW0]; exact (Below.refl _ _).alloc (Nat.le_refl _) _
  have B0 : W0.heap[w.heap.size]? = some (.cells #[.int .i64 n, .int .i64 m, .slice a1 St.length c1, .slice a2 Fi.length c2, .slice a3 Ed.length c3] 25 (0, 0)) := by rw [← hW0]; exact World.alloc_heap_new _ _
  have T1 := valid_any W0 n m a1 a2 a3 c1 c2 c3 St Fi Ed (hide (hA.out.on d0)) h1 h2 h3
  have k0 : W0.cell? ⟨w.heap.size, 0, none⟩ = some (.int .i64 n) := cell_of B0 rfl
  have k1 : W0.cell? ⟨w.heap.size, 1, none⟩ = some (.int .i64 m) := cell_of B0 rfl
  have k2 : W0.cell? ⟨w.heap.size, 2, none⟩ = some (.slice a1 St.length c1) := cell_of B0 rfl
  have k3 : W0.cell? ⟨w.heap.size, 3, none⟩ = some (.slice a2 Fi.length c2) := cell_of B0 rfl
  have k4 : W0.cell? ⟨w.heap.size, 4, none⟩ = some (.slice a3 Ed.length c3) := cell_of B0 rfl
  have HD := hide (And.intro d0 B0)
  have HQ := hide (hQ.out.on d0)
  clear d0 B0 hA hQ
  go_enter Tryz.func57, Tryz.ntmps57
  cases em : mayA n m St Fi Ed
  · rw [em] at T1
    have T1 : Calls Tryz.prog 22 #[.agg #[.int .i64 n, .int .i64 m, .slice a1 St.length c1, .slice a2 Fi.length c2, .slice a3 Ed.length c3]] W0 fun e w' => e = .returned (.int .i64 2) ∧ Below W0.heap.size W0 w' := T1
    go_wp2_with (go_at_call 22; refine T1.mono ?_; rintro e w1 ⟨rfl, d1⟩)
    go_ret2
    exact ⟨by simp [imgErr, em], HD.out.1.trans (d1.mono HD.out.1.size)⟩
  · rw [em] at T1
    have T1 : Calls Tryz.prog 22 #[.agg #[.int .i64 n, .int .i64 m, .slice a1 St.length c1, .slice a2 Fi.length c2, .slice a3 Ed.length c3]] W0 fun e w' => e = .returned (.int .i64 0) ∧ Below W0.heap.size W0 w' := T1
    go_upto_region 4 with (go_at_call 22; refine T1.mono ?_; rintro e w1 ⟨rfl, d1⟩)
    have H1 := hide (And.intro d1 (blk_on HD.out.2 d1))
    have y0 : w1.cell? ⟨w.heap.size, 0, none⟩ = some (.int .i64 n) := cell_of H1.out.2 rfl
    have y1 : w1.cell? ⟨w.heap.size, 1, none⟩ = some (.int .i64 m) := cell_of H1.out.2 rfl
    have T2 := allWithin_any aq cq Q n w1 (hide (HQ.out.on d1)) hq
    clear T1 d1 k0 k1 k2 k3 k4
    cases e4 : Q.all (inB n)
    · rw [e4] at T2
      go_wp2_with (go_at_call 64; refine T2.mono ?_; rintro e w2 ⟨rfl, hw⟩; obtain rfl := hw.symm)
      go_ret2
      exact ⟨by simp [imgErr, em, e4], HD.out.1.trans (H1.out.1.mono HD.out.1.size)⟩
    · rw [e4] at T2
      have e5 : inB m sym = false := by
        cases q : inB m sym
        · rfl
        · exact absurd (by simp [imgErr, em, e4, q]) hbad
      go_wp2_with (first
        | (go_at_call 64; refine T2.mono ?_; rintro e w2 ⟨rfl, hw⟩; obtain rfl := hw.symm)
        | (go_at_call 63; refine (within_any _ _ _).mono ?_; rintro e w2 ⟨rfl, hw⟩; obtain rfl := hw.symm))
      go_ret2
      exact ⟨by simp [imgErr, em, e4, e5], HD.out.1.trans (H1.out.1.mono HD.out.1.size)⟩
end Go.Proofs.YtfoahpideglghaaGreatDoor
