import Derived.Test.YtfoahpideglghaaGreatDoorLH
namespace Go.Proofs.YtfoahpideglghaaGreatDoor
open Go.RowKit Go.Maps Go.Shelf
attribute [local go_sem] Oper.semAt_some

/-! ### The law's and the document's questions about lists -/
set_option maxRecDepth 100000 in
set_option maxHeartbeats 1000000 in
theorem in60 (w : World) (ao : Option Addr) (L : List Int) (c : Nat) (x : Int) (hr : Hid (RdN w ao L)) (hl : L.length ≤ 4194304) :
    Calls Tryz.prog 60 #[.slice ao L.length c, .int .i64 x] w fun e w' => e = .returned (.bool (decide (x ∈ L))) ∧ w' = w := by
  go_enter Tryz.func60, Tryz.ntmps60
  go_wp2
  go_loopw [5] (fun iv wr => ∃ i : Nat, i ≤ L.length ∧ iv = .int .i64 i ∧ Hid (∀ t (h : t < L.length), t < i → L[t] ≠ x) ∧ wr = w) (fun iv _ => L.length - (intOf iv).toNat)
  case atStart => exact ⟨0, Nat.zero_le _, rfl, hide (fun t _ h => absurd h (Nat.not_lt_zero t)), rfl⟩
  case round =>
    obtain ⟨i, hi, rfl, HY, hw⟩ := hrel
    obtain rfl := hw.symm
    clear hw
    by_cases hlt : i < L.length
    · have l0 : (i : Int) < (L.length : Int) := by omega
      have l1 : (0 : Int) ≤ (i : Int) := by omega
      obtain ⟨g, o, rfl, q⟩ := hr.out i hlt
      by_cases he : L[i] = x
      · have hm : x ∈ L := he ▸ List.getElem_mem hlt
        rw [he] at q
        have hd : Hid (decide (x ∈ L) = true) := hide (by simpa using hm)
        clear he hm
        go_wp2
        refine bodyPost_ret (results_tmp rfl _ _ _) rfl ?_
        exact ⟨by rw [hd.out]; rfl, rfl⟩
      · have HN : Hid (∀ t (h : t < L.length), t < i + 1 → L[t] ≠ x) := hide (fun t ht h2 => by
          rcases Nat.lt_or_ge t i with h3 | h3
          · exact HY.out t ht h3
          · obtain rfl : t = i := by omega
            exact he)
        have hb : (L[i] == x) = false := by simpa using he
        generalize L[i] = y at q he hb
        go_wp2
        go_roundw
        case rel => exact ⟨i + 1, by omega, by go_num, HN, by simp⟩
        case measure => simp [intOf]; omega
    · have l0 : ¬ (i : Int) < (L.length : Int) := by omega
      have hd : Hid (decide (x ∈ L) = false) := hide (by
        rw [decide_eq_false_iff_not]
        intro hm
        obtain ⟨t, ht, e⟩ := List.getElem_of_mem hm
        exact HY.out t ht (by omega) e)
      go_wp2
      refine bodyPost_ret (results_tmp rfl _ _ _) rfl ?_
      exact ⟨by rw [hd.out]; rfl, rfl⟩
set_option maxRecDepth 100000 in
set_option maxHeartbeats 1000000 in
theorem meets18 (w : World) (ao bo : Option Addr) (A B : List Int) (c d : Nat) (hA : Hid (RdN w ao A)) (hB : Hid (RdN w bo B)) (hl : A.length ≤ 4194304) (hk : B.length ≤ 4194304) :
    Calls Tryz.prog 18 #[.slice ao A.length c, .slice bo B.length d] w fun e w' => e = .returned (.bool (A.any fun x => decide (x ∈ B))) ∧ w' = w := by
  go_enter Tryz.func18, Tryz.ntmps18
  go_wp2
  go_loopw [5] (fun iv wr => ∃ i : Nat, i ≤ A.length ∧ iv = .int .i64 i ∧ Hid (∀ t (h : t < A.length), t < i → A[t] ∉ B) ∧ wr = w) (fun iv _ => A.length - (intOf iv).toNat)
  case atStart => exact ⟨0, Nat.zero_le _, rfl, hide (fun t _ h => absurd h (Nat.not_lt_zero t)), rfl⟩
  case round =>
    obtain ⟨i, hi, rfl, HY, hw⟩ := hrel
    obtain rfl := hw.symm
    clear hw
    by_cases hlt : i < A.length
    · have l0 : (i : Int) < (A.length : Int) := by omega
      have l1 : (0 : Int) ≤ (i : Int) := by omega
      obtain ⟨g, o, rfl, q⟩ := hA.out i hlt
      have T := in60 w bo B d A[i] hB hk
      by_cases he : A[i] ∈ B
      · have hd : Hid ((A.any fun x => decide (x ∈ B)) = true) := hide (List.any_eq_true.2 ⟨A[i], List.getElem_mem hlt, by simpa using he⟩)
        rw [show decide (A[i] ∈ B) = true by simpa using he] at T
        generalize A[i] = y at q T
        clear he
        go_wp2_with (go_at_call 60; refine T.mono ?_; rintro e w2 ⟨rfl, hw2⟩; obtain rfl := hw2.symm)
        refine bodyPost_ret (results_tmp rfl _ _ _) rfl ?_
        exact ⟨by rw [hd.out]; rfl, rfl⟩
      · have HN : Hid (∀ t (h : t < A.length), t < i + 1 → A[t] ∉ B) := hide (fun t ht h2 => by
          rcases Nat.lt_or_ge t i with h3 | h3
          · exact HY.out t ht h3
          · obtain rfl : t = i := by omega
            exact he)
        rw [show decide (A[i] ∈ B) = false by simpa using he] at T
        generalize A[i] = y at q T
        clear he
        go_wp2_with (go_at_call 60; refine T.mono ?_; rintro e w2 ⟨rfl, hw2⟩; obtain rfl := hw2.symm)
        go_roundw
        case rel => exact ⟨i + 1, by omega, by go_num, HN, by simp⟩
        case measure => simp [intOf]; omega
    · have l0 : ¬ (i : Int) < (A.length : Int) := by omega
      have hd : Hid ((A.any fun x => decide (x ∈ B)) = false) := hide (by
        rw [List.any_eq_false]
        intro x hx
        obtain ⟨t, ht, e⟩ := List.getElem_of_mem hx
        have := HY.out t ht (by omega)
        rw [e] at this
        simpa using this)
      go_wp2
      refine bodyPost_ret (results_tmp rfl _ _ _) rfl ?_
      exact ⟨by rw [hd.out]; rfl, rfl⟩
set_option maxRecDepth 100000 in
set_option maxHeartbeats 1000000 in
theorem sameInts_any (w : World) (ao bo : Option Addr) (A B : List Int) (c d : Nat) (hA : Hid (RdN w ao A)) (hB : Hid (RdN w bo B)) (hl : A.length ≤ 4194304) (hk : B.length ≤ 4194304) :
    Calls Tryz.prog 20 #[.slice ao A.length c, .slice bo B.length d] w fun e w' => e = .returned (.bool (decide (A = B))) ∧ Below w.heap.size w w' := by
  go_enter Tryz.func20, Tryz.ntmps20
  by_cases hlen : A.length = B.length
  · have hl2 : ((A.length : Int) != (B.length : Int)) = false := by simp [hlen]
    go_wp2
    go_loopw [5] (fun iv wr => ∃ i : Nat, i ≤ A.length ∧ iv = .int .i64 i ∧ Hid (∀ t (h : t < A.length), t < i → A[t] = B[t]'(by omega)) ∧ Hid (Below w.heap.size w wr)) (fun iv _ => A.length - (intOf iv).toNat)
    case atStart => exact ⟨0, Nat.zero_le _, rfl, hide (fun t _ h => absurd h (Nat.not_lt_zero t)), hide (Below.refl _ _)⟩
    case round =>
      obtain ⟨i, hi, rfl, HY, HW⟩ := hrel
      by_cases hlt : i < A.length
      · have l0 : (i : Int) < (A.length : Int) := by omega
        have l1 : (0 : Int) ≤ (i : Int) := by omega
        have hltB : i < B.length := by omega
        have l2 : (i : Int) < (B.length : Int) := by omega
        obtain ⟨g, o, hao, q⟩ := (hA.out.on HW.out) i hlt
        obtain ⟨g', o', hbo, q'⟩ := (hB.out.on HW.out) i hltB
        subst hao hbo
        by_cases he : A[i] = B[i]
        · have HN : Hid (∀ t (h : t < A.length), t < i + 1 → A[t] = B[t]'(by omega)) := hide (fun t ht h2 => by
            rcases Nat.lt_or_ge t i with h3 | h3
            · exact HY.out t ht h3
            · obtain rfl : t = i := by omega
              exact he)
          rw [← he] at q'
          generalize A[i] = x at q q' he
          have hb : (x != x) = false := by simp
          clear he
          go_wp2
          refine wp_region_phase 8 #[true, true, true, true, true, true, true, true, false] (by kernel_rfl) (by kernel_rfl) ?_
          simp only [List.take_succ_cons, List.take_zero, List.drop_succ_cons, List.drop_zero]
          repeat (go_big_quiet_step (fail))
          refine wpQuiet_nil ?_
          intro wz hzz
          obtain ⟨nq, rfl⟩ := hzz
          go_wp2_with fail
          go_roundw
          case rel => exact ⟨i + 1, by omega, by go_num, HN, hide (below_drewN2 HW.out nq)⟩
          case measure => simp [intOf]; omega
        · have hd : Hid (decide (A = B) = false) := hide (by
            rw [decide_eq_false_iff_not]
            intro e
            subst e
            exact he rfl)
          have hb : (A[i] != B[i]) = true := by simpa using he
          generalize A[i] = x at q he hb
          generalize B[i] = y at q' he hb
          go_wp2
          refine wp_region_phase 8 #[true, true, true, true, true, true, true, true, false] (by kernel_rfl) (by kernel_rfl) ?_
          simp only [List.take_succ_cons, List.take_zero, List.drop_succ_cons, List.drop_zero]
          repeat (go_big_quiet_step (fail))
          refine wpQuiet_nil ?_
          intro wz hzz
          obtain ⟨nq, rfl⟩ := hzz
          go_wp2_with fail
          refine bodyPost_ret (results_tmp rfl _ _ _) rfl ?_
          exact ⟨by rw [hd.out]; rfl, below_drewN2 HW.out nq⟩
      · have l0 : ¬ (i : Int) < (A.length : Int) := by omega
        have hd : Hid (decide (A = B) = true) := hide (by
          rw [decide_eq_true_eq]
          exact List.ext_getElem hlen fun t h1 h2 => HY.out t h1 (by omega))
        go_wp2
        refine bodyPost_ret (results_tmp rfl _ _ _) rfl ?_
        exact ⟨by rw [hd.out]; rfl, HW.out⟩
  · have hl2 : ((A.length : Int) != (B.length : Int)) = true := by simp; omega
    have hd : Hid (decide (A = B) = false) := hide (by
      rw [decide_eq_false_iff_not]
      intro e
      exact hlen (by rw [e]))
    go_wp2
    refine bodyPost_ret (results_tmp rfl _ _ _) rfl ?_
    exact ⟨by rw [hd.out]; rfl, Below.refl _ _⟩
end Go.Proofs.YtfoahpideglghaaGreatDoor
