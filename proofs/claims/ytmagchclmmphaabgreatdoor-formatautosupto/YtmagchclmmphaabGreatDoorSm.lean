import Derived.Test.YtmagchclmmphaabGreatDoorVl
import Derived.Deep.RegionHeld3
namespace Go.Proofs.YtmagchclmmphaabGreatDoor
open Go.RowKit Go.Maps
attribute [local go_sem] Oper.semAt_some

/-! ### Contents that are the same -/
theorem below_up {B : Nat} {w W W' : World} (h : Below B w W) (d : Below W.heap.size W W') (hB : B ≤ W.heap.size) : Below B w W' := h.trans (d.mono hB)

set_option maxRecDepth 100000 in
set_option maxHeartbeats 2000000 in
theorem sameTexts_eq (w : World) (ao bo : Option Addr) (ca cb : Nat) (l : List ByteArray) (hA : Hid (ReadsS w ao l)) (hB : Hid (ReadsS w bo l)) (hl : l.length ≤ 4194304) :
    Calls Tryz.prog 39 #[.slice ao l.length ca, .slice bo l.length cb] w fun e w' => e = .returned (.bool true) ∧ Below w.heap.size w w' := by
  go_enter Tryz.func39, Tryz.ntmps39
  go_wp2_with fail
  go_loopw [5] (fun i wr => ∃ k : Nat, k ≤ l.length ∧ i = .int .i64 k ∧ Hid (Below w.heap.size w wr)) (fun i _ => l.length - (intOf i).toNat)
  case atStart => exact ⟨0, Nat.zero_le _, rfl, hide (Below.refl _ _)⟩
  case round =>
    obtain ⟨k, hk, rfl, HB⟩ := hrel
    by_cases hlt : k < l.length
    · obtain ⟨g1, o1, rfl, q1⟩ := (hA.out.below HB.out) k hlt
      obtain ⟨g2, o2, rfl, q2⟩ := (hB.out.below HB.out) k hlt
      have i2 : (k : Int) < (l.length : Int) := by omega
      have i3 : (0 : Int) ≤ (k : Int) := by omega
      obtain ⟨s, hs⟩ : ∃ s, l[k] = s := ⟨_, rfl⟩
      rw [hs] at q1 q2
      clear hs
      go_wp2_with fail
      go_region_held3 (fun W => W.cell? ⟨g1, o1 + k, none⟩ = some (.string s) ∧ W.cell? ⟨g2, o2 + k, none⟩ = some (.string s) ∧ Hid (Below w.heap.size w W))
        (first | exact ⟨q1, q2, hide HB.out.drew⟩ | assumption)
        (fail)
      rename_i hSS
      have HD := hide hSS.2.2.out
      clear hSS
      go_wp2_with fail
      exact ⟨⟨k + 1, by omega, by go_num, HD⟩, by simp [intOf]; omega⟩
    · obtain rfl : k = l.length := by omega
      have i2 : ¬ (l.length : Int) < (l.length : Int) := by omega
      go_wp2
      go_ret
      exact ⟨rfl, HB.out⟩

set_option maxRecDepth 100000 in
set_option maxHeartbeats 4000000 in
theorem same_eq (w : World) (ti : ByteArray) (O : List OpI) (S F : List ByteArray) (R : List RuT) (ao asx af ar bo bs bf br : Option Addr) (co cs cf cr eo es ef er : Nat)
    (hO : Hid (RdO w ao O ∧ RdO w bo O)) (hS : Hid (ReadsS w asx S ∧ ReadsS w bs S)) (hF : Hid (ReadsS w af F ∧ ReadsS w bf F)) (hR : Hid (RdRu w ar R ∧ RdRu w br R)) (hlo : O.length ≤ 4194304) (hls : S.length ≤ 4194304) (hlf : F.length ≤ 4194304) (hlr : R.length ≤ 4194304) :
    Calls Tryz.prog 10 #[.agg #[.string ti, .slice ao O.length co, .slice asx S.length cs, .slice af F.length cf, .slice ar R.length cr], .agg #[.string ti, .slice bo O.length eo, .slice bs S.length es, .slice bf F.length ef, .slice br R.length er]] w fun e w' => e = .returned (.bool true) ∧ Below w.heap.size w w' := by
  obtain ⟨W0, hW0⟩ : ∃ W0, (w.alloc (.cells #[.string ti, .slice ao O.length co, .slice asx S.length cs, .slice af F.length cf, .slice ar R.length cr] 32)).alloc (.cells #[.string ti, .slice bo O.length eo, .slice bs S.length es, .slice bf F.length ef, .slice br R.length er] 32) = W0 := ⟨_, rfl⟩
  have d0 : Below w.heap.size w W0 := by rw [← hW0]; exact ((Below.refl _ _).alloc (Nat.le_refl _) _).alloc (by simp) _
  have b0 : W0.heap[w.heap.size]? = some (.cells #[.string ti, .slice ao O.length co, .slice asx S.length cs, .slice af F.length cf, .slice ar R.length cr] 32 (0, 0)) := by
    rw [← hW0]; exact (Below.heap_alloc _ _ _ (by simp)).trans (World.alloc_heap_new _ _)
  have b1 : W0.heap[w.heap.size + 1]? = some (.cells #[.string ti, .slice bo O.length eo, .slice bs S.length es, .slice bf F.length ef, .slice br R.length er] 32 (0, 0)) := by
    rw [← hW0]; exact heap_alloc2_new w _ _
  have z0 : w.heap.size + 2 = W0.heap.size := by rw [← hW0]; simp
  have HX : Hid (Bx5 W0 w.heap.size (.string ti) (.slice ao O.length co) (.slice asx S.length cs) (.slice af F.length cf) (.slice ar R.length cr)) := hide ⟨cell_of b0 rfl, cell_of b0 rfl, cell_of b0 rfl, cell_of b0 rfl, cell_of b0 rfl⟩
  have HY : Hid (Bx5 W0 (w.heap.size + 1) (.string ti) (.slice bo O.length eo) (.slice bs S.length es) (.slice bf F.length ef) (.slice br R.length er)) := hide ⟨cell_of b1 rfl, cell_of b1 rfl, cell_of b1 rfl, cell_of b1 rfl, cell_of b1 rfl⟩
  have HO := hide (And.intro (hO.out.1.on d0) (hO.out.2.on d0))
  have HS := hide (And.intro (hS.out.1.below d0) (hS.out.2.below d0))
  have HF := hide (And.intro (hF.out.1.below d0) (hF.out.2.below d0))
  have HR := hide (And.intro (hR.out.1.on d0) (hR.out.2.on d0))
  have HD := hide (And.intro d0 z0)
  obtain ⟨x0, x1, x2, x3, x4⟩ := HX.out
  obtain ⟨y0, y1, y2, y3, y4⟩ := HY.out
  clear d0 b0 b1 z0 hO hS hF hR
  go_enter Tryz.func10, Tryz.ntmps10
  go_wp2_with fail
  go_loopw [5] (fun i wr => ∃ k : Nat, k ≤ O.length ∧ i = .int .i64 k ∧ Hid (Below W0.heap.size W0 wr)) (fun i _ => O.length - (intOf i).toNat)
  case atStart => exact ⟨0, Nat.zero_le _, rfl, hide (Below.refl _ _)⟩
  case round =>
    obtain ⟨k, hk, rfl, HB⟩ := hrel
    clear x0 x1 x2 x3 x4 y0 y1 y2 y3 y4
    obtain ⟨x0, x1, x2, x3, x4⟩ := HX.out.on HB.out
    obtain ⟨y0, y1, y2, y3, y4⟩ := HY.out.on HB.out
    by_cases hlt : k < O.length
    · obtain ⟨g1, o1, rfl, q1, p1⟩ := (HO.out.1.on HB.out) k hlt
      obtain ⟨g2, o2, rfl, q2, p2⟩ := (HO.out.2.on HB.out) k hlt
      have i2 : (k : Int) < (O.length : Int) := by omega
      have i3 : (0 : Int) ≤ (k : Int) := by omega
      obtain ⟨s, hs⟩ : ∃ s, O[k].1 = s := ⟨_, rfl⟩
      obtain ⟨a, ha⟩ : ∃ a, O[k].2 = a := ⟨_, rfl⟩
      rw [hs] at q1 q2
      rw [ha] at p1 p2
      clear hs ha
      go_wp2_with fail
      go_region_held3 (fun W => W.cell? ⟨w.heap.size, 1, none⟩ = some (.slice (some ⟨g1, o1, none⟩) O.length co) ∧ W.cell? ⟨w.heap.size + 1, 1, none⟩ = some (.slice (some ⟨g2, o2, none⟩) O.length eo) ∧ W.cell? ⟨g1, o1 + k * 2, none⟩ = some (.string s) ∧ W.cell? ⟨g1, o1 + k * 2 + 1, none⟩ = some (.int .i64 a) ∧ W.cell? ⟨g2, o2 + k * 2, none⟩ = some (.string s) ∧ W.cell? ⟨g2, o2 + k * 2 + 1, none⟩ = some (.int .i64 a) ∧ Hid (Below W0.heap.size W0 W))
        (first | exact ⟨x1, y1, q1, p1, q2, p2, hide HB.out.drew⟩ | assumption)
        (fail)
      rename_i hSS
      have HE := hide hSS.2.2.2.2.2.2.out
      clear hSS
      go_wp2_with fail
      exact ⟨⟨k + 1, by omega, by go_num, HE⟩, by simp [intOf]; omega⟩
    · obtain rfl : k = O.length := by omega
      have i2 : ¬ (O.length : Int) < (O.length : Int) := by omega
      obtain ⟨wm, rfl⟩ : ∃ wm, wm = wr := ⟨_, rfl⟩
      clear hlt hk
      go_wp2_with fail
      go_loopw [6] (fun i wr => ∃ k : Nat, k ≤ R.length ∧ i = .int .i64 k ∧ Hid (Below W0.heap.size W0 wr)) (fun i _ => R.length - (intOf i).toNat)
      case atStart => exact ⟨0, Nat.zero_le _, rfl, HB⟩
      case round =>
        obtain ⟨k, hk, rfl, HC⟩ := hrel
        clear x0 x1 x2 x3 x4 y0 y1 y2 y3 y4
        obtain ⟨x0, x1, x2, x3, x4⟩ := HX.out.on HC.out
        obtain ⟨y0, y1, y2, y3, y4⟩ := HY.out.on HC.out
        by_cases hlt : k < R.length
        · obtain ⟨g1, o1, rfl, q1, p1, r1⟩ := (HR.out.1.on HC.out) k hlt
          obtain ⟨g2, o2, rfl, q2, p2, r2⟩ := (HR.out.2.on HC.out) k hlt
          have j2 : (k : Int) < (R.length : Int) := by omega
          have j3 : (0 : Int) ≤ (k : Int) := by omega
          obtain ⟨s, hs⟩ : ∃ s, R[k].1 = s := ⟨_, rfl⟩
          obtain ⟨a, ha⟩ : ∃ a, R[k].2.1 = a := ⟨_, rfl⟩
          obtain ⟨b, hb⟩ : ∃ b, R[k].2.2 = b := ⟨_, rfl⟩
          rw [hs] at q1 q2
          rw [ha] at p1 p2
          rw [hb] at r1 r2
          clear hs ha hb
          go_wp2_with fail
          go_region_held3 (fun W => W.cell? ⟨w.heap.size, 4, none⟩ = some (.slice (some ⟨g1, o1, none⟩) R.length cr) ∧ W.cell? ⟨w.heap.size + 1, 4, none⟩ = some (.slice (some ⟨g2, o2, none⟩) R.length er) ∧ W.cell? ⟨g1, o1 + k * 3, none⟩ = some (.string s) ∧ W.cell? ⟨g1, o1 + k * 3 + 1, none⟩ = some (.string a) ∧ W.cell? ⟨g1, o1 + k * 3 + 2, none⟩ = some (.string b) ∧ W.cell? ⟨g2, o2 + k * 3, none⟩ = some (.string s) ∧ W.cell? ⟨g2, o2 + k * 3 + 1, none⟩ = some (.string a) ∧ W.cell? ⟨g2, o2 + k * 3 + 2, none⟩ = some (.string b) ∧ Hid (Below W0.heap.size W0 W))
            (first | exact ⟨x4, y4, q1, p1, r1, q2, p2, r2, hide HC.out.drew⟩ | assumption)
            (fail)
          rename_i hSS
          have HE := hide hSS.2.2.2.2.2.2.2.2.out
          clear hSS
          go_wp2_with fail
          exact ⟨⟨k + 1, by omega, by go_num, HE⟩, by simp [intOf]; omega⟩
        · obtain rfl : k = R.length := by omega
          have j2 : ¬ (R.length : Int) < (R.length : Int) := by omega
          clear hlt hk
          go_wp2_with fail
          refine (sameTexts_eq wr asx bs cs es S (hide (HS.out.1.below HC.out)) (hide (HS.out.2.below HC.out)) hls).mono ?_
          rintro e w1 ⟨rfl, d1⟩
          have HE := hide (HC.out.trans (d1.mono HC.out.size))
          clear x0 x1 x2 x3 x4 y0 y1 y2 y3 y4 d1
          obtain ⟨x0, x1, x2, x3, x4⟩ := HX.out.on HE.out
          obtain ⟨y0, y1, y2, y3, y4⟩ := HY.out.on HE.out
          go_wp2_with fail
          refine (sameTexts_eq w1 af bf cf ef F (hide (HF.out.1.below HE.out)) (hide (HF.out.2.below HE.out)) hlf).mono ?_
          rintro e w2 ⟨rfl, d2⟩
          have HG := hide (HD.out.1.trans ((HE.out.trans (d2.mono HE.out.size)).mono HD.out.1.size))
          clear x0 x1 x2 x3 x4 y0 y1 y2 y3 y4 d2
          go_wp2
          go_ret
          exact ⟨rfl, HG.out⟩
end Go.Proofs.YtmagchclmmphaabGreatDoor
