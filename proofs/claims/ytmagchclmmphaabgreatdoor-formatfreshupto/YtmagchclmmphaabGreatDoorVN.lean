import Derived.Test.YtmagchclmmphaabGreatDoorVG
import Derived.Test.YtmagchclmmphaabGreatDoorLM
import Derived.Test.YtmagchclmmphaabGreatDoorVL
namespace Go.Proofs.YtmagchclmmphaabGreatDoor
open Go.RowKit Go.Maps
attribute [local go_sem] Oper.semAt_some

theorem padV_at {W : World} {H : Nat} {l : List ByteArray} {M : Nat} (h : Mrw W H 9 M (padV l) M) {k : Nat} (hk : k < M) (hl : k < l.length) : W.cell? ⟨H, k, none⟩ = some (.string l[k]) := by
  rw [h.at k hk]; simp [padV, hl]
theorem padV_out {W : World} {H : Nat} {l : List ByteArray} {M : Nat} (h : Mrw W H 9 M (padV l) M) {k : Nat} (hk : k < M) (hl : ¬ k < l.length) : W.cell? ⟨H, k, none⟩ = some (.string spareB) := by
  rw [h.at k hk]; simp [padV, hl]

set_option maxRecDepth 100000 in
set_option maxHeartbeats 2000000 in
/-- Texts are as they were laid, marks too. -/
theorem textsLeft_any (w : World) (H : Nat) (ao : Option Addr) (cap : Nat) (l : List ByteArray) (hM : Hid (Mrw w H 9 (l.length + 64) (padV l) (l.length + 64))) (hA : Hid (ReadsS w ao l)) (hl : l.length ≤ 4194304) :
    Calls Tryz.prog 24 #[.slice (some ⟨H, 0, none⟩) l.length (l.length + 64), .slice ao l.length cap] w fun e w' => e = .returned (.bool true) ∧ Below w.heap.size w w' := by
  obtain ⟨n, hn⟩ : ∃ n, l.length = n := ⟨_, rfl⟩
  obtain ⟨M, hMn⟩ : ∃ M, n + 64 = M := ⟨_, rfl⟩
  have HL := hide hn
  rw [hn, hMn] at hM
  rw [hn] at hl
  rw [hn, hMn]
  have e64 : (n : Int) + 64 = (M : Int) := by omega
  have hw : IntKind.i64.wrap ((n : Int) + 64) = (M : Int) := by rw [e64]; simp [IntKind.wrap, IntKind.bits, IntKind.signed]; omega
  have hM2 : n ≤ M := by omega
  have hM3 : M ≤ 4194368 := by omega
  have hj0 : (0 : Int) ≤ (M : Int) := by omega
  have HMn := hide hMn
  clear hn hMn
  go_enter Tryz.func24, Tryz.ntmps24
  go_wp2_with fail
  go_loopw [6] (fun i wr => ∃ k : Nat, k ≤ M ∧ i = .int .i64 k ∧ Hid (Below w.heap.size w wr)) (fun i _ => M - (intOf i).toNat)
  case atStart => exact ⟨0, Nat.zero_le _, rfl, hide (Below.refl _ _)⟩
  case round =>
    obtain ⟨k, hk, rfl, HN⟩ := hrel
    have HM2 := hide (hM.out.below HN.out hM.out.lt)
    by_cases hlt : k < M
    · have i1 : (k : Int) < (M : Int) := by omega
      have i0 : (0 : Int) ≤ (k : Int) := by omega
      by_cases hkl : k < n
      · have i2 : (k : Int) < (n : Int) := by omega
        have i3 : decide ((k : Int) < (n : Int)) = true := decide_eq_true i2
        have i4 : decide ((n : Int) ≤ (k : Int)) = false := decide_eq_false (by omega)
        have i5 : decide (n ≤ k) = false := decide_eq_false (by omega)
        have i6 : decide (k < n) = true := decide_eq_true hkl
        have hkl' : k < l.length := by rw [HL.out]; exact hkl
        have q0 := padV_at HM2.out hlt hkl'
        obtain ⟨g1, o1, rfl, q1⟩ := hA.out.below HN.out k hkl'
        obtain ⟨x, hx⟩ : ∃ x, l[k] = x := ⟨_, rfl⟩
        rw [hx] at q0 q1
        clear hx
        go_wp2_with fail
        go_quiet (fail)
        go_wp2_with fail
        exact ⟨⟨k + 1, by omega, by go_num, hide (rf.below_drewN' HN.out _)⟩, by simp [intOf]; omega⟩
      · have i2 : ¬ (k : Int) < (n : Int) := by omega
        have i3 : decide ((k : Int) < (n : Int)) = false := decide_eq_false i2
        have i4 : decide ((n : Int) ≤ (k : Int)) = true := decide_eq_true (by omega)
        have i5 : decide (n ≤ k) = true := decide_eq_true (by omega)
        have i6 : decide (k < n) = false := decide_eq_false hkl
        have q0 := padV_out HM2.out hlt (by rw [HL.out]; exact hkl)
        rw [show spareB = ⟨#[115, 112, 97, 114, 101]⟩ from rfl] at q0
        go_wp2_with fail
        go_quiet (fail)
        go_wp2_with fail
        exact ⟨⟨k + 1, by omega, by go_num, hide (rf.below_drewN' HN.out _)⟩, by simp [intOf]; omega⟩
    · obtain rfl : k = M := by omega
      have i1 : ¬ (k : Int) < (k : Int) := by omega
      go_wp2
      go_ret
      exact ⟨rfl, HN.out⟩
end Go.Proofs.YtmagchclmmphaabGreatDoor
namespace Go.Proofs.YtmagchclmmphaabGreatDoor
open Go.RowKit Go.Maps
attribute [local go_sem] Oper.semAt_some

/-- A content laid with marks behind its lists. -/
structure Twn (w : World) (bo bs bf br : Nat) (O : List OpI) (S F : List ByteArray) (R : List RuT) : Prop where
  o : Mrw w bo 66 ((O.length + 64) * 2) (opPad O) ((O.length + 64) * 2)
  s : Mrw w bs 9 (S.length + 64) (padV S) (S.length + 64)
  f : Mrw w bf 9 (F.length + 64) (padV F) (F.length + 64)
  r : Mrw w br 68 ((R.length + 64) * 3) (ruPad R) ((R.length + 64) * 3)
theorem Twn.on {w w' : World} {bo bs bf br : Nat} {O : List OpI} {S F : List ByteArray} {R : List RuT} (h : Twn w bo bs bf br O S F R) (d : Below w.heap.size w w') : Twn w' bo bs bf br O S F R :=
  ⟨h.o.below d h.o.lt, h.s.below d h.s.lt, h.f.below d h.f.lt, h.r.below d h.r.lt⟩
theorem Twn.reads {w : World} {bo bs bf br : Nat} {O : List OpI} {S F : List ByteArray} {R : List RuT} (h : Twn w bo bs bf br O S F R) : RdO w (some ⟨bo, 0, none⟩) O ∧ ReadsS w (some ⟨bs, 0, none⟩) S ∧ ReadsS w (some ⟨bf, 0, none⟩) F ∧ RdRu w (some ⟨br, 0, none⟩) R :=
  ⟨opPad_reads h.o, padV_reads h.s, padV_reads h.f, ruPad_reads h.r⟩

set_option maxRecDepth 100000 in
set_option maxHeartbeats 4000000 in
/-- A twin is as it was laid. -/
theorem left_any (w : World) (ti : ByteArray) (bo bs bf br : Nat) (ao asx af ar : Option Addr) (co cs cf cr : Nat) (O : List OpI) (S F : List ByteArray) (R : List RuT) (hX : Hid (Twn w bo bs bf br O S F R))
    (hY : Hid (RdO w ao O ∧ ReadsS w asx S ∧ ReadsS w af F ∧ RdRu w ar R)) (hlo : O.length ≤ 1048576) (hls : S.length ≤ 1048576) (hlf : F.length ≤ 1048576) (hlr : R.length ≤ 1048576) :
    Calls Tryz.prog 20 #[.agg #[.string ti, .slice (some ⟨bo, 0, none⟩) O.length (O.length + 64), .slice (some ⟨bs, 0, none⟩) S.length (S.length + 64), .slice (some ⟨bf, 0, none⟩) F.length (F.length + 64), .slice (some ⟨br, 0, none⟩) R.length (R.length + 64)], .agg #[.string ti, .slice ao O.length co, .slice asx S.length cs, .slice af F.length cf, .slice ar R.length cr]] w fun e w' => e = .returned (.bool true) ∧ Below w.heap.size w w' := by
  obtain ⟨W0, hW0⟩ : ∃ W0, (w.alloc (.cells #[.string ti, .slice (some ⟨bo, 0, none⟩) O.length (O.length + 64), .slice (some ⟨bs, 0, none⟩) S.length (S.length + 64), .slice (some ⟨bf, 0, none⟩) F.length (F.length + 64), .slice (some ⟨br, 0, none⟩) R.length (R.length + 64)] 32)).alloc (.cells #[.string ti, .slice ao O.length co, .slice asx S.length cs, .slice af F.length cf, .slice ar R.length cr] 32) = W0 := ⟨_, rfl⟩
  have d0 : Below w.heap.size w W0 := by rw [← hW0]; exact ((Below.refl _ _).alloc (Nat.le_refl _) _).alloc (by simp) _
  have b0 : W0.heap[w.heap.size]? = some (.cells #[.string ti, .slice (some ⟨bo, 0, none⟩) O.length (O.length + 64), .slice (some ⟨bs, 0, none⟩) S.length (S.length + 64), .slice (some ⟨bf, 0, none⟩) F.length (F.length + 64), .slice (some ⟨br, 0, none⟩) R.length (R.length + 64)] 32 (0, 0)) := by rw [← hW0]; exact (Below.heap_alloc _ _ _ (by simp)).trans (World.alloc_heap_new _ _)
  have b1 : W0.heap[w.heap.size + 1]? = some (.cells #[.string ti, .slice ao O.length co, .slice asx S.length cs, .slice af F.length cf, .slice ar R.length cr] 32 (0, 0)) := by rw [← hW0]; exact heap_alloc2_new w _ _
  have HX := hide (hX.out.on d0)
  have HY : Hid (RdO W0 ao O ∧ ReadsS W0 asx S ∧ ReadsS W0 af F ∧ RdRu W0 ar R) := hide ⟨hY.out.1.on d0, hY.out.2.1.below d0, hY.out.2.2.1.below d0, hY.out.2.2.2.on d0⟩
  have HD := hide d0
  have TS := same_eq W0 ti O S F R (some ⟨bo, 0, none⟩) (some ⟨bs, 0, none⟩) (some ⟨bf, 0, none⟩) (some ⟨br, 0, none⟩) ao asx af ar (O.length + 64) (S.length + 64) (F.length + 64) (R.length + 64) co cs cf cr (hide ⟨HX.out.reads.1, HY.out.1⟩) (hide ⟨HX.out.reads.2.1, HY.out.2.1⟩) (hide ⟨HX.out.reads.2.2.1, HY.out.2.2.1⟩) (hide ⟨HX.out.reads.2.2.2, HY.out.2.2.2⟩) (by omega) (by omega) (by omega) (by omega)
  clear hX hY d0
  obtain ⟨n, hn⟩ : ∃ n, O.length = n := ⟨_, rfl⟩
  obtain ⟨M, hM⟩ : ∃ M, n + 64 = M := ⟨_, rfl⟩
  obtain ⟨r, hr⟩ : ∃ r, R.length = r := ⟨_, rfl⟩
  obtain ⟨N, hN⟩ : ∃ N, r + 64 = N := ⟨_, rfl⟩
  have HL := hide (And.intro hn (And.intro hM (And.intro hr hN)))
  have HO : Hid (Mrw W0 bo 66 (M * 2) (opPad O) (M * 2)) := hide (by have := HX.out.o; rw [hn, hM] at this; exact this)
  have HR : Hid (Mrw W0 br 68 (N * 3) (ruPad R) (N * 3)) := hide (by have := HX.out.r; rw [hr, hN] at this; exact this)
  have HBX : Hid (Bx5 W0 w.heap.size (.string ti) (.slice (some ⟨bo, 0, none⟩) n M) (.slice (some ⟨bs, 0, none⟩) S.length (S.length + 64)) (.slice (some ⟨bf, 0, none⟩) F.length (F.length + 64)) (.slice (some ⟨br, 0, none⟩) r N)) := hide (by rw [hn, hM, hr, hN] at b0; exact ⟨cell_of b0 rfl, cell_of b0 rfl, cell_of b0 rfl, cell_of b0 rfl, cell_of b0 rfl⟩)
  have HBY : Hid (Bx5 W0 (w.heap.size + 1) (.string ti) (.slice ao n co) (.slice asx S.length cs) (.slice af F.length cf) (.slice ar r cr)) := hide (by rw [hn, hr] at b1; exact ⟨cell_of b1 rfl, cell_of b1 rfl, cell_of b1 rfl, cell_of b1 rfl, cell_of b1 rfl⟩)
  have TX1 := hide (fun (W : World) (d : Below W0.heap.size W0 W) => textsLeft_any W bs asx cs S (hide (HX.out.on d).s) (hide (HY.out.2.1.below d)) (by omega))
  have TX2 := hide (fun (W : World) (d : Below W0.heap.size W0 W) => textsLeft_any W bf af cf F (hide (HX.out.on d).f) (hide (HY.out.2.2.1.below d)) (by omega))
  rw [hn, hM, hr, hN] at hW0 TS
  rw [hn, hM, hr, hN]
  have hn' : n ≤ 1048576 := by omega
  have hr' : r ≤ 1048576 := by omega
  have e64 : (n : Int) + 64 = (M : Int) := by omega
  have f64 : (r : Int) + 64 = (N : Int) := by omega
  have hw1 : IntKind.i64.wrap ((n : Int) + 64) = (M : Int) := by rw [e64]; simp [IntKind.wrap, IntKind.bits, IntKind.signed]; omega
  have hw2 : IntKind.i64.wrap ((r : Int) + 64) = (N : Int) := by rw [f64]; simp [IntKind.wrap, IntKind.bits, IntKind.signed]; omega
  have hM0 : (0 : Int) ≤ (M : Int) := by omega
  have hN0 : (0 : Int) ≤ (N : Int) := by omega
  have hMb : M ≤ 1048640 := by omega
  have hNb : N ≤ 1048640 := by omega
  clear hn hM hr hN b0 b1 hlo hlr
  obtain ⟨c0, c1, c2, c3, c4⟩ := HBX.out
  obtain ⟨p0, p1, p2, p3, p4⟩ := HBY.out
  go_enter Tryz.func20, Tryz.ntmps20
  go_wp2_with fail
  refine TS.mono ?_
  rintro e w1 ⟨rfl, d1⟩
  have D1 := hide d1
  clear TS d1 c0 c1 c2 c3 c4 p0 p1 p2 p3 p4
  obtain ⟨c0, c1, c2, c3, c4⟩ := HBX.out.on D1.out
  obtain ⟨p0, p1, p2, p3, p4⟩ := HBY.out.on D1.out
  go_wp2_with fail
  go_loopw [8] (fun i wr => ∃ k : Nat, k ≤ 64 ∧ i = .int .i64 k ∧ wr = w1) (fun i _ => 64 - (intOf i).toNat)
  case atStart => exact ⟨0, Nat.zero_le _, rfl, rfl⟩
  case round =>
    obtain ⟨k, hk, rfl, hwr⟩ := hrel
    obtain rfl := hwr.symm
    by_cases hlt : k < 64
    · have i1 : (k : Int) < 64 := by omega
      have hM2 := HL.out.2.1
      have hN2 := HL.out.2.2.2
      have i2 : (n : Int) + (k : Int) < (M : Int) := by omega
      have i3 : (0 : Int) ≤ (n : Int) + (k : Int) := by omega
      have i4 : (r : Int) + (k : Int) < (N : Int) := by omega
      have i5 : (0 : Int) ≤ (r : Int) + (k : Int) := by omega
      have a0 : w1.cell? ⟨bo, (n + k) * 2, none⟩ = some (.string ⟨#[115, 112, 97, 114, 101]⟩) := by
        rw [(HO.out.below D1.out HO.out.lt).at _ (by omega), (opPad_out O (n + k) (by rw [HL.out.1]; omega)).1]; rfl
      have a1 : w1.cell? ⟨bo, (n + k) * 2 + 1, none⟩ = some (.int .i64 7) := by
        rw [(HO.out.below D1.out HO.out.lt).at _ (by omega), (opPad_out O (n + k) (by rw [HL.out.1]; omega)).2]
      have q0 : w1.cell? ⟨br, (r + k) * 3, none⟩ = some (.string ⟨#[115, 112, 97, 114, 101]⟩) := by
        rw [(HR.out.below D1.out HR.out.lt).at _ (by omega), (ruPad_out R (r + k) (by rw [HL.out.2.2.1]; omega)).1]; rfl
      have q1 : w1.cell? ⟨br, (r + k) * 3 + 1, none⟩ = some (.string ⟨#[]⟩) := by
        rw [(HR.out.below D1.out HR.out.lt).at _ (by omega), (ruPad_out R (r + k) (by rw [HL.out.2.2.1]; omega)).2.1]
      have q2 : w1.cell? ⟨br, (r + k) * 3 + 2, none⟩ = some (.string ⟨#[]⟩) := by
        rw [(HR.out.below D1.out HR.out.lt).at _ (by omega), (ruPad_out R (r + k) (by rw [HL.out.2.2.1]; omega)).2.2]
      clear hM2 hN2
      go_wp2
      exact ⟨⟨k + 1, by omega, by go_num, trivial⟩, by simp [intOf]; omega⟩
    · obtain rfl : k = 64 := by omega
      have T2 := TX1.out w1 D1.out
      go_wp2_with fail
      refine T2.mono ?_
      rintro e w2 ⟨rfl, d2⟩
      have D2 := hide (D1.out.trans (d2.mono D1.out.size))
      clear T2 d2 c0 c1 c2 c3 c4 p0 p1 p2 p3 p4
      obtain ⟨c0, c1, c2, c3, c4⟩ := HBX.out.on D2.out
      obtain ⟨p0, p1, p2, p3, p4⟩ := HBY.out.on D2.out
      have T3 := TX2.out w2 D2.out
      go_wp2_with fail
      refine T3.mono ?_
      rintro e w3 ⟨rfl, d3⟩
      go_wp2_with fail
      go_ret
      exact ⟨by simp, HD.out.trans ((D2.out.trans (d3.mono D2.out.size)).mono HD.out.size)⟩
end Go.Proofs.YtmagchclmmphaabGreatDoor
