import Derived.Test.YtojnlpicgemlaabGreatDoorTF
namespace Go.Proofs.YtojnlpicgemlaabGreatDoor
open Go.RowKit Go.Maps
attribute [local go_sem] Oper.semAt_some

/-! ### What both seats name alike -/
theorem set5b (w : World) (b : Nat) (v0 v1 v2 v3 v4 u0 u1 u2 u3 u4 : Value) (t : TypeId) (h : w.heap[b]? = some (.cells #[v0, v1, v2, v3, v4] t (0, 0))) :
    (((((w.setCell ⟨b, 0, none⟩ u0).setCell ⟨b, 1, none⟩ u1).setCell ⟨b, 2, none⟩ u2).setCell ⟨b, 3, none⟩ u3).setCell ⟨b, 4, none⟩ u4).heap[b]? = some (.cells #[u0, u1, u2, u3, u4] t (0, 0)) ∧ Only w (((((w.setCell ⟨b, 0, none⟩ u0).setCell ⟨b, 1, none⟩ u1).setCell ⟨b, 2, none⟩ u2).setCell ⟨b, 3, none⟩ u3).setCell ⟨b, 4, none⟩ u4) (fun k => k = b) := ⟨set5 w b v0 v1 v2 v3 v4 u0 u1 u2 u3 u4 t h, only5 w b u0 u1 u2 u3 u4⟩
theorem sameInts_eq (w : World) (ao bo : Option Addr) (ca cb : Nat) (l : List Int) (hA : Hid (RdN w ao l)) (hB : Hid (RdN w bo l)) (hl : l.length ≤ 4194304) :
    Calls Tryz.prog 25 #[.slice ao l.length ca, .slice bo l.length cb] w fun e w' => e = .returned (.bool true) ∧ Below w.heap.size w w' :=
  (same4_any w ao bo ca cb l l hA.out hB.out hl).mono fun _ _ ⟨h1, h2⟩ => ⟨by rw [h1, decide_eq_true rfl], h2⟩

/-! ### Numbers, laid anew -/
def padN (l : List Int) (j : Nat) : Value := if h : j < l.length then .int .i64 l[j] else .int .i64 (-77)
set_option maxRecDepth 100000 in
set_option maxHeartbeats 1000000 in
theorem numbersP_any (ao : Option Addr) (cap : Nat) (l : List Int) (w : World) (hr : Hid (RdN w ao l)) (hs : l.length ≤ 4194304) :
    Calls Tryz.prog 8 #[.slice ao l.length cap] w fun e w' => e = .returned (.slice (some ⟨w.heap.size, 0, none⟩) l.length (l.length + 64)) ∧ Mrw w' w.heap.size 3 (l.length + 64) (padN l) (l.length + 64) ∧ Below w.heap.size w w' := by
  obtain ⟨i9, hi9, hz90, hz91, hz92⟩ := info_parts info3
  obtain ⟨m, hm⟩ : ∃ m, m = l.length := ⟨_, rfl⟩
  have HL := hide hm
  rw [← hm]
  rw [← hm] at hs
  clear hm
  go_enter Tryz.func8, Tryz.ntmps8
  go_wp2_with (at_make; refine wpList_make_full _ rfl _ _ 22 rfl w.heap.size 3 i9 (.int .i64 0) 1 Tryz.underlying22 hi9 hz90 hz91 _ _ _ _ (m + 64) rfl rfl (by go_num) (by go_num) (by rw [hz92]; omega) (by unfold maxLen; omega) (Nat.le_refl _) ?_)
  intro w1 ho hg
  have D1 : Below w.heap.size w w1 := (Below.refl _ _).grown hg (Nat.le_refl _) (by intro k hk; cases hk)
  have HM := hide (And.intro (Mrw.ofRow (padN l) ho) D1)
  rw [Nat.mul_one] at HM
  clear ho hg D1
  go_wp2
  go_loopw [4] (fun i wr => ∃ k : Nat, k ≤ m + 64 ∧ i = .int .i64 k ∧ Hid (Mrw wr w.heap.size 3 (m + 64) (padN l) k ∧ Below w.heap.size w wr)) (fun i _ => m + 64 - (intOf i).toNat)
  case atStart => exact ⟨0, Nat.zero_le _, rfl, HM⟩
  case round =>
    obtain ⟨k, hk, rfl, HX⟩ := hrel
    clear HM
    by_cases hlt : k < m + 64
    · obtain ⟨u, c0⟩ := HX.out.1.cell k hlt
      have f0 := HX.out.1.fz k
      have i0 : (0 : Int) ≤ (k : Int) := by omega
      have i2 : (k : Int) < ((m + 64 : Nat) : Int) := by omega
      by_cases hkl : k < m
      · have i3 : (k : Int) < (m : Int) := by omega
        obtain ⟨g, o, rfl, q1⟩ := hr.out.on HX.out.2 k (HL.out ▸ hkl)
        obtain ⟨g', o', e', q2⟩ := hr.out k (HL.out ▸ hkl)
        cases e'
        have hg : g < w.heap.size := World.block_lt_of_cell? w ⟨g, o + k, none⟩ q2
        have n1 : g ≠ w.heap.size := by omega
        clear q2
        go_wp2
        go_roundw
        case rel =>
          refine ⟨k + 1, by omega, by go_num, hide ⟨?_, (HX.out.2.setCell (Nat.le_refl _) _).setCell (Nat.le_refl _) _⟩⟩
          exact (HX.out.1.set k (Nat.le_refl _) _).put hlt _ (by simp [padN, HL.out ▸ hkl])
        case measure => simp [intOf]; omega
      · have i3 : ¬ (k : Int) < (m : Int) := by omega
        go_wp2
        go_roundw
        case rel =>
          refine ⟨k + 1, by omega, by go_num, hide ⟨?_, HX.out.2.setCell (Nat.le_refl _) _⟩⟩
          exact HX.out.1.put hlt _ (by simp [padN, HL.out ▸ hkl])
        case measure => simp [intOf]; omega
    · obtain rfl : k = m + 64 := by omega
      have i2 : ¬ ((m + 64 : Nat) : Int) < ((m + 64 : Nat) : Int) := by omega
      have i4 : (0 : Int) ≤ (m : Int) := by omega
      have i5 : (m : Int) ≤ ((m + 64 : Nat) : Int) := by omega
      go_wp2
      go_ret
      exact ⟨rfl, HX.out.1, HX.out.2⟩

theorem padN_at {W : World} {H : Nat} {l : List Int} {M : Nat} (h : Mrw W H 3 M (padN l) M) {k : Nat} (hk : k < M) (hl : k < l.length) : W.cell? ⟨H, k, none⟩ = some (.int .i64 l[k]) := by
  rw [h.at k hk]; simp [padN, hl]
theorem padN_out {W : World} {H : Nat} {l : List Int} {M : Nat} (h : Mrw W H 3 M (padN l) M) {k : Nat} (hk : k < M) (hl : ¬ k < l.length) : W.cell? ⟨H, k, none⟩ = some (.int .i64 (-77)) := by
  rw [h.at k hk]; simp [padN, hl]

set_option maxRecDepth 100000 in
set_option maxHeartbeats 2000000 in
/-- Numbers are as they were laid, marks too. -/
theorem numsLeft_any (w : World) (H : Nat) (ao : Option Addr) (cap : Nat) (l : List Int) (hM : Hid (Mrw w H 3 (l.length + 64) (padN l) (l.length + 64))) (hA : Hid (RdN w ao l)) (hl : l.length ≤ 4194304) :
    Calls Tryz.prog 26 #[.slice (some ⟨H, 0, none⟩) l.length (l.length + 64), .slice ao l.length cap] w fun e w' => e = .returned (.bool true) ∧ Below w.heap.size w w' := by
  obtain ⟨n, hn⟩ : ∃ n, l.length = n := ⟨_, rfl⟩
  obtain ⟨M, hMn⟩ : ∃ M, n + 64 = M := ⟨_, rfl⟩
  have HL := hide hn
  rw [hn, hMn] at hM
  rw [hn] at hl
  rw [hn, hMn]
  have e64 : (n : Int) + 64 = (M : Int) := by omega
  have hw : IntKind.i64.wrap ((n : Int) + 64) = (M : Int) := by rw [e64]; simp [IntKind.wrap, IntKind.bits, IntKind.signed]; omega
  have hM2 : n ≤ M := by omega
  have hM3 : M ≤ 4194368 := by omega
  have hj0 : (0 : Int) ≤ (M : Int) := by omega
  have HMn := hide hMn
  clear hn hMn
  go_enter Tryz.func26, Tryz.ntmps26
  go_wp2_with fail
  go_loopw [6] (fun i wr => ∃ k : Nat, k ≤ M ∧ i = .int .i64 k ∧ Hid (Below w.heap.size w wr)) (fun i _ => M - (intOf i).toNat)
  case atStart => exact ⟨0, Nat.zero_le _, rfl, hide (Below.refl _ _)⟩
  case round =>
    obtain ⟨k, hk, rfl, HN⟩ := hrel
    have HM2 := hide (hM.out.below HN.out hM.out.lt)
    by_cases hlt : k < M
    · have i1 : (k : Int) < (M : Int) := by omega
      have i0 : (0 : Int) ≤ (k : Int) := by omega
      by_cases hkl : k < n
      · have i2 : (k : Int) < (n : Int) := by omega
        have i3 : decide ((k : Int) < (n : Int)) = true := decide_eq_true i2
        have i4 : decide ((n : Int) ≤ (k : Int)) = false := decide_eq_false (by omega)
        have i5 : decide (n ≤ k) = false := decide_eq_false (by omega)
        have i6 : decide (k < n) = true := decide_eq_true hkl
        have hkl' : k < l.length := by rw [HL.out]; exact hkl
        have q0 := padN_at HM2.out hlt hkl'
        obtain ⟨g1, o1, rfl, q1⟩ := hA.out.on HN.out k hkl'
        obtain ⟨x, hx⟩ : ∃ x, l[k] = x := ⟨_, rfl⟩
        rw [hx] at q0 q1
        clear hx
        go_wp2_with fail
        go_quiet (fail)
        go_wp2_with fail
        exact ⟨⟨k + 1, by omega, by go_num, hide (below_drewN2 HN.out _)⟩, by simp [intOf]; omega⟩
      · have i2 : ¬ (k : Int) < (n : Int) := by omega
        have i3 : decide ((k : Int) < (n : Int)) = false := decide_eq_false i2
        have i4 : decide ((n : Int) ≤ (k : Int)) = true := decide_eq_true (by omega)
        have i5 : decide (n ≤ k) = true := decide_eq_true (by omega)
        have i6 : decide (k < n) = false := decide_eq_false hkl
        have q0 := padN_out HM2.out hlt (by rw [HL.out]; exact hkl)
        go_wp2_with fail
        go_quiet (fail)
        go_wp2_with fail
        exact ⟨⟨k + 1, by omega, by go_num, hide (below_drewN2 HN.out _)⟩, by simp [intOf]; omega⟩
    · obtain rfl : k = M := by omega
      have i1 : ¬ (k : Int) < (k : Int) := by omega
      go_wp2
      go_ret
      exact ⟨rfl, HN.out⟩

/-! ### An automaton, laid anew -/
def edPad (E : List EdT) (j : Nat) : Value := if h : j / 3 < E.length then (if j % 3 = 0 then .int .i64 E[j / 3].1 else if j % 3 = 1 then .int .i64 E[j / 3].2.1 else .int .i64 E[j / 3].2.2) else (if j % 3 = 0 then .int .i64 (-77) else .int .i64 0)
theorem edPad_at (R : List EdT) (k : Nat) (h : k < R.length) : edPad R (k * 3) = .int .i64 R[k].1 ∧ edPad R (k * 3 + 1) = .int .i64 R[k].2.1 ∧ edPad R (k * 3 + 2) = .int .i64 R[k].2.2 := by
  have e0 : k * 3 / 3 = k := by omega
  have e1 : (k * 3 + 1) / 3 = k := by omega
  have e2 : (k * 3 + 2) / 3 = k := by omega
  refine ⟨?_, ?_, ?_⟩
  · simp [edPad, e0, h]
  · simp [edPad, e1, h, Nat.add_mod]
  · simp [edPad, e2, h, Nat.add_mod]
theorem edPad_out (R : List EdT) (k : Nat) (h : ¬ k < R.length) : edPad R (k * 3) = .int .i64 (-77) ∧ edPad R (k * 3 + 1) = .int .i64 0 ∧ edPad R (k * 3 + 2) = .int .i64 0 := by
  have e0 : k * 3 / 3 = k := by omega
  have e1 : (k * 3 + 1) / 3 = k := by omega
  have e2 : (k * 3 + 2) / 3 = k := by omega
  refine ⟨?_, ?_, ?_⟩
  · simp [edPad, e0, h]
  · simp [edPad, e1, h, Nat.add_mod]
  · simp [edPad, e2, h, Nat.add_mod]
theorem edPad_reads {W : World} {H : Nat} {R : List EdT} (h : Mrw W H 35 ((R.length + 64) * 3) (edPad R) ((R.length + 64) * 3)) : RdE W (some ⟨H, 0, none⟩) R := fun k hk => ⟨H, 0, rfl, by
  rw [Nat.zero_add, h.at _ (by omega), (edPad_at R k hk).1], by
  rw [Nat.zero_add, h.at _ (by omega), (edPad_at R k hk).2.1], by
  rw [Nat.zero_add, h.at _ (by omega), (edPad_at R k hk).2.2]⟩
theorem padN_reads {W : World} {H : Nat} {l : List Int} (h : Mrw W H 3 (l.length + 64) (padN l) (l.length + 64)) : RdN W (some ⟨H, 0, none⟩) l := fun k hk => ⟨H, 0, rfl, by
  rw [Nat.zero_add, h.at k (by omega)]
  simp [padN, hk]⟩
/-- A twin of an automaton. -/
structure TwA (W : World) (b1 b2 b3 : Nat) (St Fi : List Int) (Ed : List EdT) : Prop where
  s : Mrw W b1 3 (St.length + 64) (padN St) (St.length + 64)
  f : Mrw W b2 3 (Fi.length + 64) (padN Fi) (Fi.length + 64)
  e : Mrw W b3 35 ((Ed.length + 64) * 3) (edPad Ed) ((Ed.length + 64) * 3)
  ne : b1 ≠ b2
set_option maxRecDepth 100000 in
set_option maxHeartbeats 4000000 in
theorem twinA_any (w : World) (n m : Int) (St Fi : List Int) (Ed : List EdT) (a1 a2 a3 : Option Addr) (c1 c2 c3 : Nat) (hA : Hid (RdN w a1 St ∧ RdN w a2 Fi ∧ RdE w a3 Ed)) (h1 : St.length ≤ 4194304) (h2 : Fi.length ≤ 4194304) (h3 : Ed.length ≤ 4194304) :
    Calls Tryz.prog 4 #[.agg #[.int .i64 n, .int .i64 m, .slice a1 St.length c1, .slice a2 Fi.length c2, .slice a3 Ed.length c3]] w fun e w' => ∃ b1 b2 b3, e = .returned (.agg #[.int .i64 n, .int .i64 m, .slice (some ⟨b1, 0, none⟩) St.length (St.length + 64), .slice (some ⟨b2, 0, none⟩) Fi.length (Fi.length + 64), .slice (some ⟨b3, 0, none⟩) Ed.length (Ed.length + 64)]) ∧ TwA w' b1 b2 b3 St Fi Ed ∧ (w.heap.size ≤ b1 ∧ w.heap.size ≤ b2 ∧ w.heap.size ≤ b3) ∧ Below w.heap.size w w' := by
  obtain ⟨i5, hi5, hz50, hz51, hz52⟩ := info_parts info59
  obtain ⟨r, hrr⟩ : ∃ r, r = Ed.length := ⟨_, rfl⟩
  have HLR := hide hrr
  rw [← hrr]
  rw [← hrr] at h3
  clear hrr
  obtain ⟨W0, hW0⟩ : ∃ W0, (w.alloc (.cells #[.int .i64 n, .int .i64 m, .slice a1 St.length c1, .slice a2 Fi.length c2, .slice a3 r c3] 25)).alloc (.cells #[.int .i64 0, .int .i64 0, .slice none 0 0, .slice none 0 0, .slice none 0 0] 25) = W0 := ⟨_, rfl⟩
  have d0 : Below w.heap.size w W0 := by rw [← hW0]; exact ((Below.refl _ _).alloc (Nat.le_refl _) _).alloc (by simp) _
  have b0 : W0.heap[w.heap.size]? = some (.cells #[.int .i64 n, .int .i64 m, .slice a1 St.length c1, .slice a2 Fi.length c2, .slice a3 r c3] 25 (0, 0)) := by rw [← hW0]; exact (Below.heap_alloc _ _ _ (by simp)).trans (World.alloc_heap_new _ _)
  have b1 : W0.heap[w.heap.size + 1]? = some (.cells #[.int .i64 0, .int .i64 0, .slice none 0 0, .slice none 0 0, .slice none 0 0] 25 (0, 0)) := by rw [← hW0]; exact heap_alloc2_new w _ _
  have z0 : W0.heap.size = w.heap.size + 2 := by rw [← hW0]; simp
  have HD := hide (And.intro d0 (And.intro b0 (And.intro b1 z0)))
  have c4 : W0.cell? ⟨w.heap.size, 4, none⟩ = some (.slice a3 r c3) := cell_of b0 rfl
  clear d0 b0 b1 z0
  go_enter Tryz.func4, Tryz.ntmps4
  go_wp2_with (at_make; refine wpList_make_full _ rfl _ _ 23 rfl W0.heap.size 35 i5 (.agg #[.int .i64 0, .int .i64 0, .int .i64 0]) 3 Tryz.underlying23 hi5 hz50 hz51 _ _ _ _ (r + 64) rfl rfl (by go_num) (by go_num) (by rw [hz52]; omega) (by unfold maxLen; omega) (Nat.le_refl _) ?_)
  intro w1 ho hg
  have D1 : Below W0.heap.size W0 w1 := (Below.refl _ _).grown hg (Nat.le_refl _) (by intro k hk; cases hk)
  have HM := hide (And.intro (Mrw.ofRow (edPad Ed) ho) D1)
  clear ho hg D1 c4 hW0
  go_wp2
  go_loopw [4] (fun i wr => ∃ k : Nat, k ≤ r + 64 ∧ i = .int .i64 k ∧ Hid (Mrw wr W0.heap.size 35 ((r + 64) * 3) (edPad Ed) (k * 3) ∧ Below W0.heap.size W0 wr)) (fun i _ => r + 64 - (intOf i).toNat)
  case atStart => exact ⟨0, Nat.zero_le _, rfl, HM⟩
  case round =>
    obtain ⟨k, hk, rfl, HY⟩ := hrel
    clear HM
    have HDW := hide (HD.out.1.trans (HY.out.2.mono HD.out.1.size))
    have HBX := hide ((HY.out.2.block _ (by have := HD.out.2.2.2; omega)).trans HD.out.2.1)
    have c4 : wr.cell? ⟨w.heap.size, 4, none⟩ = some (.slice a3 r c3) := cell_of HBX.out rfl
    by_cases hlt : k < r + 64
    · obtain ⟨u0, q0⟩ := HY.out.1.cell (k * 3) (by omega)
      obtain ⟨u1, q1⟩ := HY.out.1.cell (k * 3 + 1) (by omega)
      obtain ⟨u2, q2⟩ := HY.out.1.cell (k * 3 + 2) (by omega)
      have f0 := HY.out.1.fz (k * 3)
      have f1 := HY.out.1.fz (k * 3 + 1)
      have f2 := HY.out.1.fz (k * 3 + 2)
      have i0 : (0 : Int) ≤ (k : Int) := by omega
      have i2 : (k : Int) < ((r + 64 : Nat) : Int) := by omega
      have n2 : w.heap.size ≠ W0.heap.size := by have := HD.out.2.2.2; omega
      by_cases hkl : k < r
      · have i3 : (k : Int) < (r : Int) := by omega
        obtain ⟨g, o, rfl, p0, p1, p3⟩ := (hA.out.2.2.on HDW.out) k (HLR.out ▸ hkl)
        obtain ⟨g', o', e', p2, _⟩ := hA.out.2.2 k (HLR.out ▸ hkl)
        cases e'
        have hg : g < w.heap.size := World.block_lt_of_cell? w ⟨g, o + k * 3, none⟩ p2
        have n1 : g ≠ W0.heap.size := by have := HD.out.2.2.2; omega
        clear p2 hg
        go_wp2
        go_roundw
        case rel =>
          refine ⟨k + 1, by omega, by go_num, hide ⟨?_, (((((HY.out.2.setCell (Nat.le_refl _) _).setCell (Nat.le_refl _) _).setCell (Nat.le_refl _) _).setCell (Nat.le_refl _) _).setCell (Nat.le_refl _) _).setCell (Nat.le_refl _) _⟩⟩
          have e := edPad_at Ed k (HLR.out ▸ hkl)
          rw [show (k + 1) * 3 = k * 3 + 1 + 1 + 1 by omega]
          exact (((((HY.out.1.set (k * 3) (Nat.le_refl _) _).set (k * 3 + 1) (by omega) _).set (k * 3 + 2) (by omega) _).put (by omega) _ e.1).put (by omega) _ e.2.1).put (by omega) _ e.2.2
        case measure => simp [intOf]; omega
      · have i3 : ¬ (k : Int) < (r : Int) := by omega
        go_wp2
        go_roundw
        case rel =>
          refine ⟨k + 1, by omega, by go_num, hide ⟨?_, ((HY.out.2.setCell (Nat.le_refl _) _).setCell (Nat.le_refl _) _).setCell (Nat.le_refl _) _⟩⟩
          have e := edPad_out Ed k (HLR.out ▸ hkl)
          rw [show (k + 1) * 3 = k * 3 + 1 + 1 + 1 by omega]
          exact ((HY.out.1.put (by omega) _ e.1).put (by omega) _ e.2.1).put (by omega) _ e.2.2
        case measure => simp [intOf]; omega
    · obtain rfl : k = r + 64 := by omega
      have i2 : ¬ ((r + 64 : Nat) : Int) < ((r + 64 : Nat) : Int) := by omega
      have HRX := hide ((HY.out.2.block _ (by have := HD.out.2.2.2; omega)).trans HD.out.2.2.1)
      have hz : W0.heap.size < wr.heap.size := HY.out.1.lt
      have k2 : wr.cell? ⟨w.heap.size, 2, none⟩ = some (.slice a1 St.length c1) := cell_of HBX.out rfl
      have T1 := numbersP_any a1 c1 St wr (hide (hA.out.1.on HDW.out)) h1
      clear c4
      go_upto_region 9 with (go_at_call 8; refine T1.mono ?_; rintro e wa ⟨rfl, ha, da⟩; have hbx := (da.block _ (Array.getElem?_eq_some_iff.1 HBX.out).1).trans HBX.out; have kc : wa.cell? ⟨w.heap.size, 2, none⟩ = some (.slice a1 St.length c1) := cell_of hbx rfl; have fc : wa.frozen? ⟨w.heap.size, 2, none⟩ = false := fz_of hbx; have HA := hide (And.intro ha (And.intro da hbx)); clear ha da hbx)
      obtain ⟨X1, hX1⟩ : ∃ X, wa.setCell ⟨w.heap.size, 2, none⟩ (.slice (some ⟨wr.heap.size, 0, none⟩) St.length (St.length + 64)) = X := ⟨_, rfl⟩
      rw [hX1]
      have HO1 : Hid (Only wa X1 (fun k => k = w.heap.size) ∧ X1.heap[w.heap.size]? = some (.cells #[.int .i64 n, .int .i64 m, .slice (some ⟨wr.heap.size, 0, none⟩) St.length (St.length + 64), .slice a2 Fi.length c2, .slice a3 r c3] 25 (0, 0))) := hide (by
        rw [← hX1]
        exact ⟨only_set _ _ _ _, heap_setCell_same _ _ 2 _ 25 _ HA.out.2.2⟩)
      have HDX1 := hide (HDW.out.trans ((HA.out.2.1.mono HDW.out.size).trans (HO1.out.1.toBelow (Nat.le_trans HDW.out.size HA.out.2.1.size) fun k z => by omega)))
      clear hX1 kc fc k2 T1
      have k3 : X1.cell? ⟨w.heap.size, 3, none⟩ = some (.slice a2 Fi.length c2) := cell_of HO1.out.2 rfl
      have T2 := numbersP_any a2 c2 Fi X1 (hide (hA.out.2.1.on HDX1.out)) h2
      go_upto_region 10 with (go_at_call 8; refine T2.mono ?_; rintro e wb ⟨rfl, hb, db⟩; have hbx := (db.block _ (Array.getElem?_eq_some_iff.1 HO1.out.2).1).trans HO1.out.2; have kc : wb.cell? ⟨w.heap.size, 3, none⟩ = some (.slice a2 Fi.length c2) := cell_of hbx rfl; have fc : wb.frozen? ⟨w.heap.size, 3, none⟩ = false := fz_of hbx; have HB := hide (And.intro hb (And.intro db hbx)); clear hb db hbx)
      obtain ⟨X2, hX2⟩ : ∃ X, wb.setCell ⟨w.heap.size, 3, none⟩ (.slice (some ⟨X1.heap.size, 0, none⟩) Fi.length (Fi.length + 64)) = X := ⟨_, rfl⟩
      rw [hX2]
      have HO2 : Hid (Only wb X2 (fun k => k = w.heap.size) ∧ X2.heap[w.heap.size]? = some (.cells #[.int .i64 n, .int .i64 m, .slice (some ⟨wr.heap.size, 0, none⟩) St.length (St.length + 64), .slice (some ⟨X1.heap.size, 0, none⟩) Fi.length (Fi.length + 64), .slice a3 r c3] 25 (0, 0))) := hide (by
        rw [← hX2]
        exact ⟨only_set _ _ _ _, heap_setCell_same _ _ 3 _ 25 _ HB.out.2.2⟩)
      clear hX2 kc fc k3 T2
      obtain ⟨M, hM⟩ : ∃ M, M = r + 64 := ⟨_, rfl⟩
      have HMN := hide hM
      rw [← hM]
      have i5 : (0 : Int) ≤ (r : Int) := by omega
      have i6 : (r : Int) ≤ (M : Int) := by omega
      clear hM
      have k4 : X2.cell? ⟨w.heap.size, 4, none⟩ = some (.slice a3 r c3) := cell_of HO2.out.2 rfl
      have g4 : X2.frozen? ⟨w.heap.size, 4, none⟩ = false := fz_of HO2.out.2
      go_upto_region 11 with fail
      obtain ⟨X3, hX3⟩ : ∃ X, X2.setCell ⟨w.heap.size, 4, none⟩ (.slice (some ⟨W0.heap.size, 0, none⟩) r M) = X := ⟨_, rfl⟩
      rw [hX3]
      have HO3 : Hid (Only wb X3 (fun k => k = w.heap.size) ∧ X3.heap[w.heap.size]? = some (.cells #[.int .i64 n, .int .i64 m, .slice (some ⟨wr.heap.size, 0, none⟩) St.length (St.length + 64), .slice (some ⟨X1.heap.size, 0, none⟩) Fi.length (Fi.length + 64), .slice (some ⟨W0.heap.size, 0, none⟩) r M] 25 (0, 0))) := hide (by
        rw [← hX3]
        exact ⟨HO2.out.1.trans (only_set _ _ _ _), heap_setCell_same _ _ 4 _ 25 _ HO2.out.2⟩)
      have hw0 : w.heap.size + 1 < wr.heap.size := by have := HD.out.2.2.2; omega
      have HRZ : Hid (X3.heap[w.heap.size + 1]? = some (.cells #[.int .i64 0, .int .i64 0, .slice none 0 0, .slice none 0 0, .slice none 0 0] 25 (0, 0))) := hide (by
        have s1 := HA.out.2.1.size
        have s2 := HO1.out.1.size
        have s3 := HB.out.2.1.size
        refine (HO3.out.1.block _ (by omega) (by omega)).trans ((HB.out.2.1.block _ (by omega)).trans ((HO1.out.1.block _ (by omega) (by omega)).trans ((HA.out.2.1.block _ (by omega)).trans HRX.out)))
        )
      clear hX3 k4 g4 i5 i6 i2
      have x0 : X3.cell? ⟨w.heap.size, 0, none⟩ = some (.int .i64 n) := cell_of HO3.out.2 rfl
      have x1 : X3.cell? ⟨w.heap.size, 1, none⟩ = some (.int .i64 m) := cell_of HO3.out.2 rfl
      have x2 : X3.cell? ⟨w.heap.size, 2, none⟩ = some (.slice (some ⟨wr.heap.size, 0, none⟩) St.length (St.length + 64)) := cell_of HO3.out.2 rfl
      have x3 : X3.cell? ⟨w.heap.size, 3, none⟩ = some (.slice (some ⟨X1.heap.size, 0, none⟩) Fi.length (Fi.length + 64)) := cell_of HO3.out.2 rfl
      have x4 : X3.cell? ⟨w.heap.size, 4, none⟩ = some (.slice (some ⟨W0.heap.size, 0, none⟩) r M) := cell_of HO3.out.2 rfl
      have z0 : X3.cell? ⟨w.heap.size + 1, 0, none⟩ = some (.int .i64 0) := cell_of HRZ.out rfl
      have f0 : X3.frozen? ⟨w.heap.size + 1, 0, none⟩ = false := fz_of HRZ.out
      have z1 : X3.cell? ⟨w.heap.size + 1, 1, none⟩ = some (.int .i64 0) := cell_of HRZ.out rfl
      have f1 : X3.frozen? ⟨w.heap.size + 1, 1, none⟩ = false := fz_of HRZ.out
      have z2 : X3.cell? ⟨w.heap.size + 1, 2, none⟩ = some (.slice none 0 0) := cell_of HRZ.out rfl
      have f2 : X3.frozen? ⟨w.heap.size + 1, 2, none⟩ = false := fz_of HRZ.out
      have z3 : X3.cell? ⟨w.heap.size + 1, 3, none⟩ = some (.slice none 0 0) := cell_of HRZ.out rfl
      have f3 : X3.frozen? ⟨w.heap.size + 1, 3, none⟩ = false := fz_of HRZ.out
      have z4 : X3.cell? ⟨w.heap.size + 1, 4, none⟩ = some (.slice none 0 0) := cell_of HRZ.out rfl
      have f4 : X3.frozen? ⟨w.heap.size + 1, 4, none⟩ = false := fz_of HRZ.out
      have HZ := hide (set5b X3 (w.heap.size + 1) _ _ _ _ _ (.int .i64 n) (.int .i64 m) (.slice (some ⟨wr.heap.size, 0, none⟩) St.length (St.length + 64)) (.slice (some ⟨X1.heap.size, 0, none⟩) Fi.length (Fi.length + 64)) (.slice (some ⟨W0.heap.size, 0, none⟩) r M) 25 HRZ.out)
      go_wp2
      refine bodyPost_ret (results_cell_row (p := 2) (ty := 25) rfl _ _ (w.heap.size + 1) 25 _ (0, 0) _ rfl HZ.out.1 Tryz.underlying25 rfl (by kernel_rfl)) rfl ?_
      obtain rfl := HMN.out
      have s1 := HA.out.2.1.size
      have s2 := HO1.out.1.size
      have s3 := HB.out.2.1.size
      have z0 := HD.out.2.2.2
      have hal := HA.out.1.lt
      have hbl := HB.out.1.lt
      refine ⟨wr.heap.size, X1.heap.size, W0.heap.size, rfl, ⟨?_, ?_, ?_, by omega⟩, ⟨by omega, by omega, by omega⟩, ?_⟩
      · exact ((((HA.out.1.only HO1.out.1 (by omega)).below HB.out.2.1 (by omega)).only HO3.out.1 (by omega)).only HZ.out.2 (by omega))
      · exact ((HB.out.1.only HO3.out.1 (by omega)).only HZ.out.2 (by omega))
      · rw [← HLR.out]
        exact (((((HY.out.1.below HA.out.2.1 (by omega)).only HO1.out.1 (by omega)).below HB.out.2.1 (by omega)).only HO3.out.1 (by omega)).only HZ.out.2 (by omega))
      · exact HDX1.out.trans ((HB.out.2.1.mono HDX1.out.size).trans ((HO3.out.1.toBelow (by omega) fun k z => by omega).trans (HZ.out.2.toBelow (by have := HO3.out.1.size; omega) fun k z => by omega)))

set_option maxRecDepth 100000 in
set_option maxHeartbeats 4000000 in
theorem sameAutoZ_eq (w : World) (n m : Int) (St Fi : List Int) (Ed : List EdT) (a1 a2 a3 b1 b2 b3 : Option Addr) (c1 c2 c3 e1 e2 e3 : Nat) (hA : Hid (RdN w a1 St ∧ RdN w a2 Fi ∧ RdE w a3 Ed)) (hB : Hid (RdN w b1 St ∧ RdN w b2 Fi ∧ RdE w b3 Ed)) (h1 : St.length ≤ 4194304) (h2 : Fi.length ≤ 4194304) (h3 : Ed.length ≤ 4194304) :
    Calls Tryz.prog 9 #[.agg #[.int .i64 n, .int .i64 m, .slice a1 St.length c1, .slice a2 Fi.length c2, .slice a3 Ed.length c3], .agg #[.int .i64 n, .int .i64 m, .slice b1 St.length e1, .slice b2 Fi.length e2, .slice b3 Ed.length e3]] w fun e w' => e = .returned (.bool true) ∧ Below w.heap.size w w' := by
  obtain ⟨W0, hW0⟩ : ∃ W0, (w.alloc (.cells #[.int .i64 n, .int .i64 m, .slice a1 St.length c1, .slice a2 Fi.length c2, .slice a3 Ed.length c3] 25)).alloc (.cells #[.int .i64 n, .int .i64 m, .slice b1 St.length e1, .slice b2 Fi.length e2, .slice b3 Ed.length e3] 25) = W0 := ⟨_, rfl⟩
  have d0 : Below w.heap.size w W0 := by rw [← hW0]; exact ((Below.refl _ _).alloc (Nat.le_refl _) _).alloc (by simp) _
  have B0 : W0.heap[w.heap.size]? = some (.cells #[.int .i64 n, .int .i64 m, .slice a1 St.length c1, .slice a2 Fi.length c2, .slice a3 Ed.length c3] 25 (0, 0)) := by
    rw [← hW0]; exact (Below.heap_alloc _ _ _ (by simp)).trans (World.alloc_heap_new _ _)
  have B1 : W0.heap[w.heap.size + 1]? = some (.cells #[.int .i64 n, .int .i64 m, .slice b1 St.length e1, .slice b2 Fi.length e2, .slice b3 Ed.length e3] 25 (0, 0)) := by
    rw [← hW0]; exact heap_alloc2_new w _ _
  have z0 : w.heap.size + 2 = W0.heap.size := by rw [← hW0]; simp
  have HD := hide (And.intro d0 (And.intro B0 (And.intro B1 z0)))
  have x0 : W0.cell? ⟨w.heap.size, 0, none⟩ = some (.int .i64 n) := cell_of B0 rfl
  have x1 : W0.cell? ⟨w.heap.size, 1, none⟩ = some (.int .i64 m) := cell_of B0 rfl
  have x4 : W0.cell? ⟨w.heap.size, 4, none⟩ = some (.slice a3 Ed.length c3) := cell_of B0 rfl
  have y0 : W0.cell? ⟨w.heap.size + 1, 0, none⟩ = some (.int .i64 n) := cell_of B1 rfl
  have y1 : W0.cell? ⟨w.heap.size + 1, 1, none⟩ = some (.int .i64 m) := cell_of B1 rfl
  have y4 : W0.cell? ⟨w.heap.size + 1, 4, none⟩ = some (.slice b3 Ed.length e3) := cell_of B1 rfl
  clear d0 B0 B1 z0
  go_enter Tryz.func9, Tryz.ntmps9
  go_wp2_with fail
  clear x0 x1 x4 y0 y1 y4 hW0
  go_loopw [5] (fun i wr => ∃ k : Nat, k ≤ Ed.length ∧ i = .int .i64 k ∧ Hid (Below W0.heap.size W0 wr)) (fun i _ => Ed.length - (intOf i).toNat)
  case atStart => exact ⟨0, Nat.zero_le _, rfl, hide (Below.refl _ _)⟩
  case round =>
    obtain ⟨k, hk, rfl, HB⟩ := hrel
    have HDW := hide (HD.out.1.trans (HB.out.mono HD.out.1.size))
    have HX := hide ((HB.out.block _ (by have := HD.out.2.2.2; omega)).trans HD.out.2.1)
    have HY := hide ((HB.out.block _ (by have := HD.out.2.2.2; omega)).trans HD.out.2.2.1)
    have x4 : wr.cell? ⟨w.heap.size, 4, none⟩ = some (.slice a3 Ed.length c3) := cell_of HX.out rfl
    by_cases hlt : k < Ed.length
    · have y4 : wr.cell? ⟨w.heap.size + 1, 4, none⟩ = some (.slice b3 Ed.length e3) := cell_of HY.out rfl
      obtain ⟨g1, o1, rfl, p1, p2, p3⟩ := (hA.out.2.2.on HDW.out) k hlt
      obtain ⟨g2, o2, rfl, q1, q2, q3⟩ := (hB.out.2.2.on HDW.out) k hlt
      have i2 : (k : Int) < (Ed.length : Int) := by omega
      have i3 : (0 : Int) ≤ (k : Int) := by omega
      obtain ⟨s, hs⟩ : ∃ s, Ed[k] = s := ⟨_, rfl⟩
      obtain ⟨s1, s2, s3⟩ := s
      rw [hs] at p1 p2 p3 q1 q2 q3
      simp only at p1 p2 p3 q1 q2 q3
      clear hs
      go_wp2_with fail
      go_region_held3 (fun W => W.cell? ⟨w.heap.size, 4, none⟩ = some (.slice (some ⟨g1, o1, none⟩) Ed.length c3) ∧ W.cell? ⟨w.heap.size + 1, 4, none⟩ = some (.slice (some ⟨g2, o2, none⟩) Ed.length e3) ∧ W.cell? ⟨g1, o1 + k * 3, none⟩ = some (.int .i64 s1) ∧ W.cell? ⟨g1, o1 + k * 3 + 1, none⟩ = some (.int .i64 s2) ∧ W.cell? ⟨g1, o1 + k * 3 + 2, none⟩ = some (.int .i64 s3) ∧ W.cell? ⟨g2, o2 + k * 3, none⟩ = some (.int .i64 s1) ∧ W.cell? ⟨g2, o2 + k * 3 + 1, none⟩ = some (.int .i64 s2) ∧ W.cell? ⟨g2, o2 + k * 3 + 2, none⟩ = some (.int .i64 s3) ∧ Hid (Below W0.heap.size W0 W))
        (first | exact ⟨x4, y4, p1, p2, p3, q1, q2, q3, hide HB.out.drew⟩ | assumption)
        (fail)
      rename_i hSS
      have HDD := hide hSS.2.2.2.2.2.2.2.2.out
      clear hSS
      go_wp2_with fail
      exact ⟨⟨k + 1, by omega, by go_num, HDD⟩, by simp [intOf]; omega⟩
    · obtain rfl : k = Ed.length := by omega
      have i2 : ¬ (Ed.length : Int) < (Ed.length : Int) := by omega
      have x2 : wr.cell? ⟨w.heap.size, 2, none⟩ = some (.slice a1 St.length c1) := cell_of HX.out rfl
      have y2 : wr.cell? ⟨w.heap.size + 1, 2, none⟩ = some (.slice b1 St.length e1) := cell_of HY.out rfl
      have T1 := sameInts_eq wr a1 b1 c1 e1 St (hide (hA.out.1.on HDW.out)) (hide (hB.out.1.on HDW.out)) h1
      go_upto_region 9 with (go_at_call 25; refine T1.mono ?_; rintro e w5 ⟨rfl, d5⟩)
      have HD5 := hide (HDW.out.trans (d5.mono HDW.out.size))
      have x3 : w5.cell? ⟨w.heap.size, 3, none⟩ = some (.slice a2 Fi.length c2) := cell_of ((d5.block _ (Array.getElem?_eq_some_iff.1 HX.out).1).trans HX.out) rfl
      have y3 : w5.cell? ⟨w.heap.size + 1, 3, none⟩ = some (.slice b2 Fi.length e2) := cell_of ((d5.block _ (Array.getElem?_eq_some_iff.1 HY.out).1).trans HY.out) rfl
      have T2 := sameInts_eq w5 a2 b2 c2 e2 Fi (hide (hA.out.2.1.on HD5.out)) (hide (hB.out.2.1.on HD5.out)) h2
      clear d5 T1 x2 y2 x4
      go_wp2_with (go_at_call 25; refine T2.mono ?_; rintro e w6 ⟨rfl, d6⟩)
      go_ret
      exact ⟨rfl, HD5.out.trans (d6.mono HD5.out.size)⟩

theorem TwA.on {W W' : World} {b1 b2 b3 : Nat} {St Fi : List Int} {Ed : List EdT} (h : TwA W b1 b2 b3 St Fi Ed) (d : Below W.heap.size W W') : TwA W' b1 b2 b3 St Fi Ed := ⟨h.s.below d h.s.lt, h.f.below d h.f.lt, h.e.below d h.e.lt, h.ne⟩
set_option maxRecDepth 100000 in
set_option maxHeartbeats 4000000 in
/-- An automaton is as it was laid, marks too. -/
theorem autoLeft_any (w : World) (n m : Int) (St Fi : List Int) (Ed : List EdT) (b1 b2 b3 : Nat) (a1 a2 a3 : Option Addr) (c1 c2 c3 : Nat) (hX : Hid (TwA w b1 b2 b3 St Fi Ed)) (hA : Hid (RdN w a1 St ∧ RdN w a2 Fi ∧ RdE w a3 Ed)) (h1 : St.length ≤ 4194304) (h2 : Fi.length ≤ 4194304) (h3 : Ed.length ≤ 4194304) :
    Calls Tryz.prog 11 #[.agg #[.int .i64 n, .int .i64 m, .slice (some ⟨b1, 0, none⟩) St.length (St.length + 64), .slice (some ⟨b2, 0, none⟩) Fi.length (Fi.length + 64), .slice (some ⟨b3, 0, none⟩) Ed.length (Ed.length + 64)], .agg #[.int .i64 n, .int .i64 m, .slice a1 St.length c1, .slice a2 Fi.length c2, .slice a3 Ed.length c3]] w fun e w' => e = .returned (.bool true) ∧ Below w.heap.size w w' := by
  obtain ⟨W0, hW0⟩ : ∃ W0, (w.alloc (.cells #[.int .i64 n, .int .i64 m, .slice (some ⟨b1, 0, none⟩) St.length (St.length + 64), .slice (some ⟨b2, 0, none⟩) Fi.length (Fi.length + 64), .slice (some ⟨b3, 0, none⟩) Ed.length (Ed.length + 64)] 25)).alloc (.cells #[.int .i64 n, .int .i64 m, .slice a1 St.length c1, .slice a2 Fi.length c2, .slice a3 Ed.length c3] 25) = W0 := ⟨_, rfl⟩
  have d0 : Below w.heap.size w W0 := by rw [← hW0]; exact ((Below.refl _ _).alloc (Nat.le_refl _) _).alloc (by simp) _
  have B0 : W0.heap[w.heap.size]? = some (.cells #[.int .i64 n, .int .i64 m, .slice (some ⟨b1, 0, none⟩) St.length (St.length + 64), .slice (some ⟨b2, 0, none⟩) Fi.length (Fi.length + 64), .slice (some ⟨b3, 0, none⟩) Ed.length (Ed.length + 64)] 25 (0, 0)) := by
    rw [← hW0]; exact (Below.heap_alloc _ _ _ (by simp)).trans (World.alloc_heap_new _ _)
  have B1 : W0.heap[w.heap.size + 1]? = some (.cells #[.int .i64 n, .int .i64 m, .slice a1 St.length c1, .slice a2 Fi.length c2, .slice a3 Ed.length c3] 25 (0, 0)) := by
    rw [← hW0]; exact heap_alloc2_new w _ _
  have z0 : w.heap.size + 2 = W0.heap.size := by rw [← hW0]; simp
  have HD := hide (And.intro d0 (And.intro B0 (And.intro B1 z0)))
  have T15 := sameAutoZ_eq W0 n m St Fi Ed (some ⟨b1, 0, none⟩) (some ⟨b2, 0, none⟩) (some ⟨b3, 0, none⟩) a1 a2 a3 (St.length + 64) (Fi.length + 64) (Ed.length + 64) c1 c2 c3 (hide ⟨(padN_reads hX.out.s).on d0, (padN_reads hX.out.f).on d0, (edPad_reads hX.out.e).on d0⟩) (hide ⟨hA.out.1.on d0, hA.out.2.1.on d0, hA.out.2.2.on d0⟩) h1 h2 h3
  have x0 : W0.cell? ⟨w.heap.size, 0, none⟩ = some (.int .i64 n) := cell_of B0 rfl
  have x1 : W0.cell? ⟨w.heap.size, 1, none⟩ = some (.int .i64 m) := cell_of B0 rfl
  have x2 : W0.cell? ⟨w.heap.size, 2, none⟩ = some (.slice (some ⟨b1, 0, none⟩) St.length (St.length + 64)) := cell_of B0 rfl
  have x3 : W0.cell? ⟨w.heap.size, 3, none⟩ = some (.slice (some ⟨b2, 0, none⟩) Fi.length (Fi.length + 64)) := cell_of B0 rfl
  have x4 : W0.cell? ⟨w.heap.size, 4, none⟩ = some (.slice (some ⟨b3, 0, none⟩) Ed.length (Ed.length + 64)) := cell_of B0 rfl
  have y0 : W0.cell? ⟨w.heap.size + 1, 0, none⟩ = some (.int .i64 n) := cell_of B1 rfl
  have y1 : W0.cell? ⟨w.heap.size + 1, 1, none⟩ = some (.int .i64 m) := cell_of B1 rfl
  have y2 : W0.cell? ⟨w.heap.size + 1, 2, none⟩ = some (.slice a1 St.length c1) := cell_of B1 rfl
  have y3 : W0.cell? ⟨w.heap.size + 1, 3, none⟩ = some (.slice a2 Fi.length c2) := cell_of B1 rfl
  have y4 : W0.cell? ⟨w.heap.size + 1, 4, none⟩ = some (.slice a3 Ed.length c3) := cell_of B1 rfl
  clear d0 B0 B1 z0
  go_enter Tryz.func11, Tryz.ntmps11
  go_upto_region 4 with (go_at_call 9; refine T15.mono ?_; rintro e w1 ⟨rfl, d1⟩)
  have HDW := hide (HD.out.1.trans (d1.mono HD.out.1.size))
  have HBA := hide ((d1.block _ (by have := HD.out.2.2.2; omega)).trans HD.out.2.1)
  have HBB := hide ((d1.block _ (by have := HD.out.2.2.2; omega)).trans HD.out.2.2.1)
  clear d1 T15 hW0 HD x0 x1 x2 x3 x4 y0 y1 y2 y3 y4
  have HT := hide (fun (W : World) (d : Below w.heap.size w W) => show TwA W b1 b2 b3 St Fi Ed from hX.out.on d)
  obtain ⟨r, hr⟩ : ∃ r, Ed.length = r := ⟨_, rfl⟩
  obtain ⟨M, hM⟩ : ∃ M, r + 64 = M := ⟨_, rfl⟩
  have HR := hide (And.intro hr hM)
  rw [hr, hM] at HBA
  rw [hr] at HBB h3
  rw [hr, hM]
  have e64 : (r : Int) + 64 = (M : Int) := by omega
  have hw : IntKind.i64.wrap ((r : Int) + 64) = (M : Int) := by rw [e64]; simp [IntKind.wrap, IntKind.bits, IntKind.signed]; omega
  have hM2 : r ≤ M := by omega
  have hM3 : M ≤ 4194368 := by omega
  have hM4 : M = r + 64 := by omega
  have hj0 : (0 : Int) ≤ (M : Int) := by omega
  have HMM := hide hM4
  clear hr hM hM4
  have x4 : w1.cell? ⟨w.heap.size, 4, none⟩ = some (.slice (some ⟨b3, 0, none⟩) r M) := cell_of HBA.out rfl
  have y4 : w1.cell? ⟨w.heap.size + 1, 4, none⟩ = some (.slice a3 r c3) := cell_of HBB.out rfl
  go_wp2_with fail
  clear x4 y4
  go_loopw [7] (fun i wr => ∃ k : Nat, k ≤ 64 ∧ i = .int .i64 k ∧ Hid (Below w1.heap.size w1 wr)) (fun i _ => 64 - (intOf i).toNat)
  case atStart => exact ⟨0, Nat.zero_le _, rfl, hide (Below.refl _ _)⟩
  case round =>
    obtain ⟨k, hk, rfl, HN⟩ := hrel
    have HDN := hide (HDW.out.trans (HN.out.mono HDW.out.size))
    have HXA := hide ((HN.out.block _ (Array.getElem?_eq_some_iff.1 HBA.out).1).trans HBA.out)
    have HXB := hide ((HN.out.block _ (Array.getElem?_eq_some_iff.1 HBB.out).1).trans HBB.out)
    by_cases hlt : k < 64
    · have i1 : (k : Int) < 64 := by omega
      have i0 : (0 : Int) ≤ (k : Int) := by omega
      have y4 : wr.cell? ⟨w.heap.size + 1, 4, none⟩ = some (.slice a3 r c3) := cell_of HXB.out rfl
      have q0 : wr.cell? ⟨b3, (r + k) * 3, none⟩ = some (.int .i64 (-77)) := by
        have h := (HT.out wr HDN.out).e
        rw [h.at _ (by rw [HR.out.1]; omega), (edPad_out Ed (r + k) (by rw [HR.out.1]; omega)).1]
      obtain ⟨p, hp⟩ : ∃ p, r + k = p := ⟨_, rfl⟩
      have e1 : (r : Int) + (k : Int) = (p : Int) := by omega
      have e2 : IntKind.i64.wrap ((r : Int) + (k : Int)) = (p : Int) := by rw [e1]; simp [IntKind.wrap, IntKind.bits, IntKind.signed]; omega
      have i3 : (p : Int) < (M : Int) := by have := HMM.out; omega
      have i4 : (0 : Int) ≤ (p : Int) := by omega
      rw [hp] at q0
      clear hp
      go_wp2_with fail
      exact ⟨⟨k + 1, by omega, by go_num, HN⟩, by simp [intOf]; omega⟩
    · obtain rfl : k = 64 := by omega
      have i1 : ¬ ((64 : Nat) : Int) < 64 := by omega
      have x2 : wr.cell? ⟨w.heap.size, 2, none⟩ = some (.slice (some ⟨b1, 0, none⟩) St.length (St.length + 64)) := cell_of HXA.out rfl
      have y2 : wr.cell? ⟨w.heap.size + 1, 2, none⟩ = some (.slice a1 St.length c1) := cell_of HXB.out rfl
      have T1 := numsLeft_any wr b1 a1 c1 St (hide (HT.out wr HDN.out).s) (hide (hA.out.1.on HDN.out)) h1
      go_wp2_with (go_at_call 26; first | (refine T2.mono ?_; rintro e w6 ⟨rfl, d6⟩) | (refine T1.mono ?_; rintro e w5 ⟨rfl, d5⟩; have HD5 := hide (HDN.out.trans (d5.mono HDN.out.size)); have x3 : w5.cell? ⟨w.heap.size, 3, none⟩ = some (.slice (some ⟨b2, 0, none⟩) Fi.length (Fi.length + 64)) := cell_of ((d5.block _ (Array.getElem?_eq_some_iff.1 HXA.out).1).trans HXA.out) rfl; have y3 : w5.cell? ⟨w.heap.size + 1, 3, none⟩ = some (.slice a2 Fi.length c2) := cell_of ((d5.block _ (Array.getElem?_eq_some_iff.1 HXB.out).1).trans HXB.out) rfl; have T2 := numsLeft_any w5 b2 a2 c2 Fi (hide (HT.out w5 HD5.out).f) (hide (hA.out.2.1.on HD5.out)) h2; clear d5))
      go_ret
      exact ⟨rfl, HD5.out.trans (d6.mono HD5.out.size)⟩

/-! ### An automaton that is written over -/
end Go.Proofs.YtojnlpicgemlaabGreatDoor
