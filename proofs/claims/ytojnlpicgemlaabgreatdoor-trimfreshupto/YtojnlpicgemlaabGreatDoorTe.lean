import Derived.Test.YtojnlpicgemlaabGreatDoorTd
namespace Go.Proofs.YtojnlpicgemlaabGreatDoor
open Go.RowKit Go.Maps
attribute [local go_sem] Oper.semAt_some

/-! ### Which automata may be, as the document says it -/
def isB (n x : Int) : Bool := decide (0 ≤ x) && decide (x < n)
theorem isB_iff {n x : Int} : isB n x = true ↔ 0 ≤ x ∧ x < n := by unfold isB; simp
def edOkF (n m : Int) (e : EdT) : Bool := isB n e.1 && isB m e.2.1 && isB n e.2.2
def mayF (n m : Int) (St Fi : List Int) (Ed : List EdT) : Bool := decide (0 ≤ n ∧ n ≤ 4096 ∧ 0 ≤ m ∧ m ≤ 128 ∧ Ed.length ≤ 65536) && Ed.all (edOkF n m) && St.all (isB n) && Fi.all (isB n)
theorem mayF_size {n m : Int} {St Fi : List Int} {Ed : List EdT} (h : ¬ (0 ≤ n ∧ n ≤ 4096 ∧ 0 ≤ m ∧ m ≤ 128 ∧ Ed.length ≤ 65536)) : mayF n m St Fi Ed = false := by unfold mayF; rw [decide_eq_false h]; rfl
theorem mayF_ed {n m : Int} {St Fi : List Int} {Ed : List EdT} (h : Ed.all (edOkF n m) = false) : mayF n m St Fi Ed = false := by unfold mayF; rw [h]; simp
theorem all_bad {α : Type} {p : α → Bool} {l : List α} {k : Nat} {x : α} (h : l[k]? = some x) (hp : p x = false) : l.all p = false := by
  rw [List.all_eq_false]
  exact ⟨x, List.mem_of_getElem? h, by simp [hp]⟩
theorem all_nxB {α : Type} {p : α → Bool} {l : List α} {k : Nat} {x : α} (h : l[k]? = some x) (hk : (l.take k).all p = true) (hp : p x = true) : (l.take (k + 1)).all p = true := by
  rw [List.take_add_one, h, List.all_append, hk]
  simp [hp]

theorem mayF_st {n m : Int} {St Fi : List Int} {Ed : List EdT} (h : St.all (isB n) = false) : mayF n m St Fi Ed = false := by unfold mayF; rw [h]; simp
theorem mayF_fi {n m : Int} {St Fi : List Int} {Ed : List EdT} (h : Fi.all (isB n) = false) : mayF n m St Fi Ed = false := by unfold mayF; rw [h]; simp
theorem isB_no {n x : Int} (h : ¬ (0 ≤ x ∧ x < n)) : isB n x = false := by rw [Bool.eq_false_iff]; exact fun z => h (isB_iff.1 z)
theorem edOkF_no {n m s1 s2 s3 : Int} (h : ¬ ((0 ≤ s1 ∧ s1 < n) ∧ (0 ≤ s2 ∧ s2 < m) ∧ 0 ≤ s3 ∧ s3 < n)) : edOkF n m (s1, s2, s3) = false := by
  rw [Bool.eq_false_iff]
  intro z
  unfold edOkF at z
  simp only [Bool.and_eq_true, isB_iff] at z
  exact h ⟨z.1.1, z.1.2, z.2⟩
theorem edOkF_yes {n m s1 s2 s3 : Int} (h : (0 ≤ s1 ∧ s1 < n) ∧ (0 ≤ s2 ∧ s2 < m) ∧ 0 ≤ s3 ∧ s3 < n) : edOkF n m (s1, s2, s3) = true := by
  unfold edOkF
  simp only [Bool.and_eq_true, isB_iff]
  exact ⟨⟨h.1, h.2.1⟩, h.2.2⟩
set_option maxRecDepth 100000 in
set_option maxHeartbeats 8000000 in
theorem rmay_any (w : World) (n m : Int) (St Fi : List Int) (Ed : List EdT) (a1 a2 a3 : Option Addr) (c1 c2 c3 : Nat) (hA : Hid (RdN w a1 St ∧ RdN w a2 Fi ∧ RdE w a3 Ed)) (h1 : St.length ≤ 4194304) (h2 : Fi.length ≤ 4194304) (h3 : Ed.length ≤ 4194304) :
    Calls Tryz.prog 39 #[.agg #[.int .i64 n, .int .i64 m, .slice a1 St.length c1, .slice a2 Fi.length c2, .slice a3 Ed.length c3]] w fun e w' => e = .returned (.bool (mayF n m St Fi Ed)) ∧ Below w.heap.size w w' := by
  obtain ⟨W0, hW0⟩ : ∃ W0, w.alloc (.cells #[.int .i64 n, .int .i64 m, .slice a1 St.length c1, .slice a2 Fi.length c2, .slice a3 Ed.length c3] 25) = W0 := ⟨_, rfl⟩
  have d0 : Below w.heap.size w W0 := by rw [← hW0]; exact (Below.refl _ _).alloc (Nat.le_refl _) _
  have B0 : W0.heap[w.heap.size]? = some (.cells #[.int .i64 n, .int .i64 m, .slice a1 St.length c1, .slice a2 Fi.length c2, .slice a3 Ed.length c3] 25 (0, 0)) := by rw [← hW0]; exact World.alloc_heap_new _ _
  have HD := hide (And.intro d0 (And.intro B0 (show w.heap.size < W0.heap.size by rw [← hW0]; simp)))
  have x0 : W0.cell? ⟨w.heap.size, 0, none⟩ = some (.int .i64 n) := cell_of B0 rfl
  have x1 : W0.cell? ⟨w.heap.size, 1, none⟩ = some (.int .i64 m) := cell_of B0 rfl
  have x4 : W0.cell? ⟨w.heap.size, 4, none⟩ = some (.slice a3 Ed.length c3) := cell_of B0 rfl
  clear d0 B0
  go_enter Tryz.func39, Tryz.ntmps39
  by_cases g0 : n < 0
  · have HF := hide (mayF_size (n := n) (m := m) (St := St) (Fi := Fi) (Ed := Ed) (by omega))
    go_wp2
    go_ret
    exact ⟨by rw [HF.out]; rfl, HD.out.1⟩
  by_cases g1 : 4096 < n
  · have HF := hide (mayF_size (n := n) (m := m) (St := St) (Fi := Fi) (Ed := Ed) (by omega))
    go_wp2
    go_ret
    exact ⟨by rw [HF.out]; rfl, HD.out.1⟩
  by_cases g2 : m < 0
  · have HF := hide (mayF_size (n := n) (m := m) (St := St) (Fi := Fi) (Ed := Ed) (by omega))
    go_wp2
    go_ret
    exact ⟨by rw [HF.out]; rfl, HD.out.1⟩
  by_cases g3 : 128 < m
  · have HF := hide (mayF_size (n := n) (m := m) (St := St) (Fi := Fi) (Ed := Ed) (by omega))
    go_wp2
    go_ret
    exact ⟨by rw [HF.out]; rfl, HD.out.1⟩
  by_cases g4 : 65536 < Ed.length
  · have HF := hide (mayF_size (n := n) (m := m) (St := St) (Fi := Fi) (Ed := Ed) (by omega))
    have i4 : (65536 : Int) < (Ed.length : Int) := by omega
    go_wp2
    go_ret
    exact ⟨by rw [HF.out]; rfl, HD.out.1⟩
  have i4 : ¬ (65536 : Int) < (Ed.length : Int) := by omega
  have HS : Hid (0 ≤ n ∧ n ≤ 4096 ∧ 0 ≤ m ∧ m ≤ 128 ∧ Ed.length ≤ 65536) := hide (by omega)
  have x2 : W0.cell? ⟨w.heap.size, 2, none⟩ = some (.slice a1 St.length c1) := cell_of HD.out.2.1 rfl
  go_wp2_with fail
  clear x0 x1 x2 x4 hW0 g0 g1 g2 g3 g4 i4
  go_loopw [3] (fun i wr => ∃ k : Nat, k ≤ St.length ∧ i = .int .i64 k ∧ Hid ((St.take k).all (isB n) = true ∧ Below W0.heap.size W0 wr)) (fun i _ => St.length - (intOf i).toNat)
  case atStart => exact ⟨0, Nat.zero_le _, rfl, hide ⟨by simp, Below.refl _ _⟩⟩
  case round =>
    obtain ⟨k, hk, rfl, HH⟩ := hrel
    obtain ⟨wa, rfl⟩ : ∃ z, z = wr := ⟨_, rfl⟩
    have HDW := hide (HD.out.1.trans (HH.out.2.mono HD.out.1.size))
    have HX := hide ((HH.out.2.block _ HD.out.2.2).trans HD.out.2.1)
    have y2 : wa.cell? ⟨w.heap.size, 2, none⟩ = some (.slice a1 St.length c1) := cell_of HX.out rfl
    have y0 : wa.cell? ⟨w.heap.size, 0, none⟩ = some (.int .i64 n) := cell_of HX.out rfl
    by_cases hlt : k < St.length
    · have i2 : (k : Int) < (St.length : Int) := by omega
      have i3 : (0 : Int) ≤ (k : Int) := by omega
      obtain ⟨b1, o1, rfl, q0⟩ := (hA.out.1.on HDW.out) k hlt
      have HK : Hid (St[k]? = some St[k]) := hide (List.getElem?_eq_getElem hlt)
      obtain ⟨x, hx⟩ : ∃ x, St[k] = x := ⟨_, rfl⟩
      rw [hx] at q0 HK
      clear hx
      by_cases u1 : x < 0
      · have HBAD := hide (mayF_st (n := n) (m := m) (St := St) (Fi := Fi) (Ed := Ed) (all_bad HK.out (isB_no (n := n) (x := x) (by omega))))
        go_wp2_with fail
        go_big_quiet (fail)
        go_wp2_with fail
        go_ret
        exact ⟨by rw [HBAD.out]; rfl, below_drewN2 HDW.out _⟩
      · by_cases u2 : n ≤ x
        · have HBAD := hide (mayF_st (n := n) (m := m) (St := St) (Fi := Fi) (Ed := Ed) (all_bad HK.out (isB_no (n := n) (x := x) (by omega))))
          go_wp2_with fail
          have v1 : ¬ x < 0 := by omega
          have v2 : n ≤ x := by omega
          go_big_quiet (fail)
          go_wp2_with fail
          go_ret
          exact ⟨by rw [HBAD.out]; rfl, below_drewN2 HDW.out _⟩
        · have HOK := hide (all_nxB HK.out HH.out.1 (isB_iff.2 ⟨by omega, by omega⟩))
          go_wp2_with fail
          have v1 : ¬ x < 0 := by omega
          have v2 : ¬ n ≤ x := by omega
          go_big_quiet (fail)
          go_wp2_with fail
          exact ⟨⟨k + 1, by omega, by go_num, hide ⟨HOK.out, below_drewN2 HH.out.2 _⟩⟩, by simp [intOf]; omega⟩
    · obtain rfl : k = St.length := by omega
      have i2 : ¬ (St.length : Int) < (St.length : Int) := by omega
      rw [List.take_length] at HH
      have HST := hide HH.out.1
      have y3 : wa.cell? ⟨w.heap.size, 3, none⟩ = some (.slice a2 Fi.length c2) := cell_of HX.out rfl
      have HW1 := hide HH.out.2
      go_wp2_with fail
      clear y0 y2 y3 HX HDW HH i2 hk hlt
      go_loopw [4] (fun i wr => ∃ k : Nat, k ≤ Fi.length ∧ i = .int .i64 k ∧ Hid ((Fi.take k).all (isB n) = true ∧ Below W0.heap.size W0 wr)) (fun i _ => Fi.length - (intOf i).toNat)
      case atStart => exact ⟨0, Nat.zero_le _, rfl, hide ⟨by simp, HW1.out⟩⟩
      case round =>
        obtain ⟨k, hk, rfl, HH⟩ := hrel
        obtain ⟨wb, rfl⟩ : ∃ z, z = wr := ⟨_, rfl⟩
        have HDW := hide (HD.out.1.trans (HH.out.2.mono HD.out.1.size))
        have HX := hide ((HH.out.2.block _ HD.out.2.2).trans HD.out.2.1)
        have y3 : wb.cell? ⟨w.heap.size, 3, none⟩ = some (.slice a2 Fi.length c2) := cell_of HX.out rfl
        have y0 : wb.cell? ⟨w.heap.size, 0, none⟩ = some (.int .i64 n) := cell_of HX.out rfl
        by_cases hlt : k < Fi.length
        · have i2 : (k : Int) < (Fi.length : Int) := by omega
          have i3 : (0 : Int) ≤ (k : Int) := by omega
          obtain ⟨b1, o1, rfl, q0⟩ := (hA.out.2.1.on HDW.out) k hlt
          have HK : Hid (Fi[k]? = some Fi[k]) := hide (List.getElem?_eq_getElem hlt)
          obtain ⟨x, hx⟩ : ∃ x, Fi[k] = x := ⟨_, rfl⟩
          rw [hx] at q0 HK
          clear hx
          by_cases u1 : x < 0
          · have HBAD := hide (mayF_fi (n := n) (m := m) (St := St) (Fi := Fi) (Ed := Ed) (all_bad HK.out (isB_no (n := n) (x := x) (by omega))))
            go_wp2_with fail
            go_big_quiet (fail)
            go_wp2_with fail
            go_ret
            exact ⟨by rw [HBAD.out]; rfl, below_drewN2 HDW.out _⟩
          · by_cases u2 : n ≤ x
            · have HBAD := hide (mayF_fi (n := n) (m := m) (St := St) (Fi := Fi) (Ed := Ed) (all_bad HK.out (isB_no (n := n) (x := x) (by omega))))
              go_wp2_with fail
              have v1 : ¬ x < 0 := by omega
              have v2 : n ≤ x := by omega
              go_big_quiet (fail)
              go_wp2_with fail
              go_ret
              exact ⟨by rw [HBAD.out]; rfl, below_drewN2 HDW.out _⟩
            · have HOK := hide (all_nxB HK.out HH.out.1 (isB_iff.2 ⟨by omega, by omega⟩))
              go_wp2_with fail
              have v1 : ¬ x < 0 := by omega
              have v2 : ¬ n ≤ x := by omega
              go_big_quiet (fail)
              go_wp2_with fail
              exact ⟨⟨k + 1, by omega, by go_num, hide ⟨HOK.out, below_drewN2 HH.out.2 _⟩⟩, by simp [intOf]; omega⟩
        · obtain rfl : k = Fi.length := by omega
          have i2 : ¬ (Fi.length : Int) < (Fi.length : Int) := by omega
          rw [List.take_length] at HH
          have HFI := hide HH.out.1
          have y4 : wb.cell? ⟨w.heap.size, 4, none⟩ = some (.slice a3 Ed.length c3) := cell_of HX.out rfl
          have HW2 := hide HH.out.2
          go_wp2_with fail
          clear y0 y3 y4 HX HDW HH i2 hk hlt HW1
          go_loopw [5] (fun i wr => ∃ k : Nat, k ≤ Ed.length ∧ i = .int .i64 k ∧ Hid ((Ed.take k).all (edOkF n m) = true ∧ Below W0.heap.size W0 wr)) (fun i _ => Ed.length - (intOf i).toNat)
          case atStart => exact ⟨0, Nat.zero_le _, rfl, hide ⟨by simp, HW2.out⟩⟩
          case round =>
            obtain ⟨k, hk, rfl, HH⟩ := hrel
            clear HW2
            have HDW := hide (HD.out.1.trans (HH.out.2.mono HD.out.1.size))
            have HX := hide ((HH.out.2.block _ HD.out.2.2).trans HD.out.2.1)
            have y4 : wr.cell? ⟨w.heap.size, 4, none⟩ = some (.slice a3 Ed.length c3) := cell_of HX.out rfl
            by_cases hlt : k < Ed.length
            · have i2 : (k : Int) < (Ed.length : Int) := by omega
              have i3 : (0 : Int) ≤ (k : Int) := by omega
              obtain ⟨b1, o1, rfl, p1, p2, p3⟩ := (hA.out.2.2.on HDW.out) k hlt
              have HK : Hid (Ed[k]? = some Ed[k]) := hide (List.getElem?_eq_getElem hlt)
              obtain ⟨s, hs⟩ : ∃ s, Ed[k] = s := ⟨_, rfl⟩
              rw [hs] at p1 p2 p3 HK
              obtain ⟨s1, s2, s3⟩ := s
              simp only at p1 p2 p3
              clear hs
              go_upto_region 17 with fail
              obtain ⟨X, hX⟩ : ∃ X, wr.alloc (.cells #[.int .i64 s1, .int .i64 s2, .int .i64 s3] 35) = X := ⟨_, rfl⟩
              rw [hX]
              have hrb : X.heap[wr.heap.size]? = some (.cells #[.int .i64 s1, .int .i64 s2, .int .i64 s3] 35 (0, 0)) := by rw [← hX]; exact World.alloc_heap_new _ _
              have dX : Below wr.heap.size wr X := by rw [← hX]; exact (Below.refl _ _).alloc (Nat.le_refl _) _
              have HDX := hide (HH.out.2.trans (dX.mono HH.out.2.size))
              have HBX := hide ((dX.block _ (Array.getElem?_eq_some_iff.1 HX.out).1).trans HX.out)
              have e0 : X.cell? ⟨wr.heap.size, 0, none⟩ = some (.int .i64 s1) := cell_of hrb rfl
              have e1 : X.cell? ⟨wr.heap.size, 1, none⟩ = some (.int .i64 s2) := cell_of hrb rfl
              have e2 : X.cell? ⟨wr.heap.size, 2, none⟩ = some (.int .i64 s3) := cell_of hrb rfl
              have y0 : X.cell? ⟨w.heap.size, 0, none⟩ = some (.int .i64 n) := cell_of HBX.out rfl
              have y1 : X.cell? ⟨w.heap.size, 1, none⟩ = some (.int .i64 m) := cell_of HBX.out rfl
              obtain ⟨bX, hbX⟩ : ∃ b, wr.heap.size = b := ⟨_, rfl⟩
              rw [hbX] at e0 e1 e2
              rw [hbX]
              clear hrb dX hX p1 p2 p3 hbX y4
              by_cases t0 : s1 < 0
              · have HBAD := hide (mayF_ed (n := n) (m := m) (St := St) (Fi := Fi) (all_bad (p := edOkF n m) HK.out (edOkF_no (by omega))))
                go_wp2_with fail
                go_ret
                exact ⟨by rw [HBAD.out]; rfl, HD.out.1.trans (HDX.out.mono HD.out.1.size)⟩
              by_cases t1 : n ≤ s1
              · have HBAD := hide (mayF_ed (n := n) (m := m) (St := St) (Fi := Fi) (all_bad (p := edOkF n m) HK.out (edOkF_no (by omega))))
                go_wp2_with fail
                go_ret
                exact ⟨by rw [HBAD.out]; rfl, HD.out.1.trans (HDX.out.mono HD.out.1.size)⟩
              by_cases t2 : s3 < 0
              · have HBAD := hide (mayF_ed (n := n) (m := m) (St := St) (Fi := Fi) (all_bad (p := edOkF n m) HK.out (edOkF_no (by omega))))
                go_wp2_with fail
                go_ret
                exact ⟨by rw [HBAD.out]; rfl, HD.out.1.trans (HDX.out.mono HD.out.1.size)⟩
              by_cases t3 : n ≤ s3
              · have HBAD := hide (mayF_ed (n := n) (m := m) (St := St) (Fi := Fi) (all_bad (p := edOkF n m) HK.out (edOkF_no (by omega))))
                go_wp2_with fail
                go_ret
                exact ⟨by rw [HBAD.out]; rfl, HD.out.1.trans (HDX.out.mono HD.out.1.size)⟩
              by_cases t4 : s2 < 0
              · have HBAD := hide (mayF_ed (n := n) (m := m) (St := St) (Fi := Fi) (all_bad (p := edOkF n m) HK.out (edOkF_no (by omega))))
                go_wp2_with fail
                go_ret
                exact ⟨by rw [HBAD.out]; rfl, HD.out.1.trans (HDX.out.mono HD.out.1.size)⟩
              by_cases t5 : m ≤ s2
              · have HBAD := hide (mayF_ed (n := n) (m := m) (St := St) (Fi := Fi) (all_bad (p := edOkF n m) HK.out (edOkF_no (by omega))))
                go_wp2_with fail
                go_ret
                exact ⟨by rw [HBAD.out]; rfl, HD.out.1.trans (HDX.out.mono HD.out.1.size)⟩
              have HOK := hide (all_nxB HK.out HH.out.1 (edOkF_yes (n := n) (m := m) (s1 := s1) (s2 := s2) (s3 := s3) (by omega)))
              go_wp2_with fail
              exact ⟨⟨k + 1, by omega, by go_num, hide ⟨HOK.out, HDX.out⟩⟩, by simp [intOf]; omega⟩
            · obtain rfl : k = Ed.length := by omega
              have i2 : ¬ (Ed.length : Int) < (Ed.length : Int) := by omega
              rw [List.take_length] at HH
              have HM : Hid (mayF n m St Fi Ed = true) := hide (by unfold mayF; rw [decide_eq_true HS.out, HH.out.1, HST.out, HFI.out]; rfl)
              go_wp2
              go_ret
              exact ⟨by rw [HM.out]; rfl, HDW.out⟩
theorem isB_in : isB = inB := by
  funext n x
  rw [Bool.eq_iff_iff]
  unfold isB inB
  simp
theorem mayF_is (n m : Int) (St Fi : List Int) (Ed : List EdT) : mayF n m St Fi Ed = mayA n m St Fi Ed := by
  have e : edOkF n m = edOk n m := by
    funext x
    unfold edOkF edOk
    rw [isB_in]
  rw [Bool.eq_iff_iff]
  unfold mayF mayA
  rw [e, isB_in]
  simp only [Bool.and_eq_true, decide_eq_true_eq]
  have h1 : inB 4097 n = true ↔ 0 ≤ n ∧ n ≤ 4096 := by unfold inB; simp; omega
  have h2 : inB 129 m = true ↔ 0 ≤ m ∧ m ≤ 128 := by unfold inB; simp; omega
  rw [h1, h2]
  constructor
  · rintro ⟨⟨⟨⟨a, b, c, d, e⟩, f⟩, g⟩, h⟩
    exact ⟨⟨⟨⟨⟨⟨a, b⟩, c, d⟩, e⟩, g⟩, h⟩, f⟩
  · rintro ⟨⟨⟨⟨⟨⟨a, b⟩, c, d⟩, e⟩, g⟩, h⟩, f⟩
    exact ⟨⟨⟨⟨a, b, c, d, e⟩, f⟩, g⟩, h⟩
end Go.Proofs.YtojnlpicgemlaabGreatDoor
