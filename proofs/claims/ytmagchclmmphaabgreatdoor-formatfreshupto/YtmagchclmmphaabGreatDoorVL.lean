import Derived.Test.YtmagchclmmphaabGreatDoorFR
import Derived.Deep.RegionHeld3
namespace Go.Proofs.YtmagchclmmphaabGreatDoor
open Go.RowKit Go.Maps
attribute [local go_sem] Oper.semAt_some

def opN (x : OpI) : OpT := (x.1, x.2.toNat)
/-- Whether a file's content may be. -/
def valF (ti : ByteArray) (O : List OpI) (S F : List ByteArray) (R : List RuT) : Bool :=
  namesOk ti O S && decide (O.map opN).Nodup && decide S.Nodup && decide R.Nodup && riseOk S (-1) F && R.all (ruleOk (O.map opN) S)
theorem ops_nat {O : List OpI} (h : O.all opOk = true) {W : World} {ao : Option Addr} (hr : RdO W ao O) : RdOp W ao (O.map opN) := fun j hj => by
  have hj' : j < O.length := by simpa using hj
  obtain ⟨g, o, e, c0, c1⟩ := hr j hj'
  refine ⟨g, o, e, by simpa [opN] using c0, ?_⟩
  have h1 := List.all_eq_true.1 h _ (List.getElem_mem hj')
  simp only [opOk, Bool.and_eq_true, decide_eq_true_eq] at h1
  have e2 : ((O.map opN)[j].2 : Int) = O[j].2 := by simp only [List.getElem_map, opN]; omega
  rw [e2]; exact c1
theorem vld_size {s : ByteArray} (h : vld s = true) : s.size ≤ 16 := by
  unfold vld at h
  simp only [Bool.and_eq_true, decide_eq_true_eq] at h
  exact h.1.2
theorem ops_ok {O : List OpI} (h : O.all opOk = true) : ∀ x ∈ O.map opN, kOps.ok x := by
  intro x hx
  obtain ⟨y, hy, rfl⟩ := List.mem_map.1 hx
  have h1 := List.all_eq_true.1 h _ hy
  simp only [opOk, Bool.and_eq_true, decide_eq_true_eq] at h1
  have := vld_size h1.1.1
  exact ⟨show y.1.size ≤ _ by omega, show y.2.toNat ≤ _ by omega⟩
theorem sts_ok {S : List ByteArray} (h : S.all vld = true) : ∀ x ∈ S, kText.ok x := by
  intro x hx
  have := vld_size (List.all_eq_true.1 h _ hx)
  exact show x.size ≤ _ by omega
/-- A file that lies in a box. -/
def Bx5 (W : World) (X : Nat) (v0 v1 v2 v3 v4 : Value) : Prop := W.cell? ⟨X, 0, none⟩ = some v0 ∧ W.cell? ⟨X, 1, none⟩ = some v1 ∧ W.cell? ⟨X, 2, none⟩ = some v2 ∧ W.cell? ⟨X, 3, none⟩ = some v3 ∧ W.cell? ⟨X, 4, none⟩ = some v4
theorem Bx5.on {W W' : World} {X : Nat} {v0 v1 v2 v3 v4 : Value} (h : Bx5 W X v0 v1 v2 v3 v4) (d : Below W.heap.size W W') : Bx5 W' X v0 v1 v2 v3 v4 := by
  have hX := World.block_lt_of_cell? W _ h.1
  exact ⟨(d.cell (p := ⟨X, 0, none⟩) hX).trans h.1, (d.cell (p := ⟨X, 1, none⟩) hX).trans h.2.1, (d.cell (p := ⟨X, 2, none⟩) hX).trans h.2.2.1, (d.cell (p := ⟨X, 3, none⟩) hX).trans h.2.2.2.1, (d.cell (p := ⟨X, 4, none⟩) hX).trans h.2.2.2.2⟩

set_option maxRecDepth 100000 in
set_option maxHeartbeats 4000000 in
theorem valid_file (w : World) (ti : ByteArray) (ao asx af ar : Option Addr) (co cs cf cr : Nat) (O : List OpI) (S F : List ByteArray) (R : List RuT) (hT : Hid (BytesAt w ∧ 1 < w.heap.size)) (hO : Hid (RdO w ao O)) (hS : Hid (ReadsS w asx S)) (hF : Hid (ReadsS w af F)) (hR : Hid (RdRu w ar R))
    (hok : Hid ((∀ x ∈ F, kText.ok x) ∧ ∀ x ∈ R, kRules.ok x)) (hlo : O.length ≤ 4194304) (hls : S.length ≤ 4194304) (hlf : F.length ≤ 4194304) (hlr : R.length ≤ 4194304) :
    Calls Tryz.prog 40 #[.agg #[.string ti, .slice ao O.length co, .slice asx S.length cs, .slice af F.length cf, .slice ar R.length cr]] w fun e w' => e = .returned (.bool (valF ti O S F R)) ∧ Below w.heap.size w w' := by
  obtain ⟨W0, hW0⟩ : ∃ W0, w.alloc (.cells #[.string ti, .slice ao O.length co, .slice asx S.length cs, .slice af F.length cf, .slice ar R.length cr] 32) = W0 := ⟨_, rfl⟩
  have d0 : Below w.heap.size w W0 := by rw [← hW0]; exact (Below.refl _ _).alloc (Nat.le_refl _) _
  have b0 : W0.heap[w.heap.size]? = some (.cells #[.string ti, .slice ao O.length co, .slice asx S.length cs, .slice af F.length cf, .slice ar R.length cr] 32 (0, 0)) := by rw [← hW0]; exact World.alloc_heap_new _ _
  have HBX : Hid (Bx5 W0 w.heap.size (.string ti) (.slice ao O.length co) (.slice asx S.length cs) (.slice af F.length cf) (.slice ar R.length cr)) := hide ⟨cell_of b0 rfl, cell_of b0 rfl, cell_of b0 rfl, cell_of b0 rfl, cell_of b0 rfl⟩
  obtain ⟨c0, c1, c2, c3, c4⟩ := HBX.out
  have T1 := names_any W0 ti ao asx co cs O S af ar F.length cf R.length cr (hide ⟨hT.out.1.below d0 hT.out.2, Nat.lt_of_lt_of_le hT.out.2 d0.size⟩) (hide (hO.out.on d0)) (hide (hS.out.below d0)) hlo hls
  have HD := hide d0
  have HO := hide (hO.out.on d0)
  have HS := hide (hS.out.below d0)
  have HF := hide (hF.out.below d0)
  have HR := hide (hR.out.on d0)
  clear hT hO hS hF hR d0 b0
  cases h1 : namesOk ti O S with
  | false =>
    have HE := hide (show valF ti O S F R = false by unfold valF; rw [h1]; rfl)
    go_enter Tryz.func40, Tryz.ntmps40
    go_wp2_with (first
      | (go_at_call 67; refine T1.mono ?_; rintro e w1 ⟨rfl, d1⟩; rw [h1]; have D1 := hide d1; clear c0 c1 c2 c3 c4 d1; obtain ⟨c0, c1, c2, c3, c4⟩ := HBX.out.on D1.out))
    go_ret
    exact ⟨by rw [HE.out]; rfl, HD.out.trans (D1.out.mono HD.out.size)⟩
  | true =>
    have hn : O.all opOk = true ∧ S.all vld = true := by
      unfold namesOk at h1
      simp only [Bool.and_eq_true] at h1
      exact ⟨h1.1.1, h1.1.2⟩
    have T2 : Hid (∀ W, Below W0.heap.size W0 W → Calls Tryz.prog 68 #[.slice ao O.length co] W fun e w' => e = .returned (.bool (!decide (O.map opN).Nodup)) ∧ Below W.heap.size W w') := hide fun W d => by
      have q := twoOps_any W ao co (O.map opN) (hide (ops_nat hn.1 (HO.out.on d))) (hide (ops_ok hn.1)) (by rw [List.length_map]; exact hlo)
      rwa [List.length_map] at q
    have T3 : Hid (∀ W, Below W0.heap.size W0 W → Calls Tryz.prog 69 #[.slice asx S.length cs] W fun e w' => e = .returned (.bool (!decide S.Nodup)) ∧ Below W.heap.size W w') := hide fun W d => twoTxt_any W asx cs S (hide (HS.out.below d)) (hide (sts_ok hn.2)) hls
    have T4 : Hid (∀ W, Below W0.heap.size W0 W → Calls Tryz.prog 70 #[.slice ar R.length cr] W fun e w' => e = .returned (.bool (!decide R.Nodup)) ∧ Below W.heap.size W w') := hide fun W d => twoRul_any W ar cr R (hide (HR.out.on d)) (hide hok.out.2) hlr
    have HN := hide hn
    clear hn
    by_cases h2' : (O.map opN).Nodup
    rotate_left
    · have h2 : (!decide (O.map opN).Nodup) = true := by rw [decide_eq_false h2']; rfl
      have HE := hide (show valF ti O S F R = false by unfold valF; rw [h1, decide_eq_false h2']; simp)
      go_enter Tryz.func40, Tryz.ntmps40
      go_wp2_with (first
        | (go_at_call 67; refine T1.mono ?_; rintro e w1 ⟨rfl, d1⟩; rw [h1]; have D1 := hide d1; clear c0 c1 c2 c3 c4 d1; obtain ⟨c0, c1, c2, c3, c4⟩ := HBX.out.on D1.out)
        | (go_at_call 68; refine (T2.out w1 D1.out).mono ?_; rintro e w2 ⟨rfl, d2⟩; rw [h2]; have D2 := hide (D1.out.trans (d2.mono D1.out.size)); clear c0 c1 c2 c3 c4 d2; obtain ⟨c0, c1, c2, c3, c4⟩ := HBX.out.on D2.out))
      go_ret
      exact ⟨by rw [HE.out]; rfl, HD.out.trans (D2.out.mono HD.out.size)⟩
    have h2 : (!decide (O.map opN).Nodup) = false := by rw [decide_eq_true h2']; rfl
    by_cases h3' : S.Nodup
    rotate_left
    · have h3 : (!decide S.Nodup) = true := by rw [decide_eq_false h3']; rfl
      have HE := hide (show valF ti O S F R = false by unfold valF; rw [h1, decide_eq_true h2', decide_eq_false h3']; simp)
      go_enter Tryz.func40, Tryz.ntmps40
      go_wp2_with (first
        | (go_at_call 67; refine T1.mono ?_; rintro e w1 ⟨rfl, d1⟩; rw [h1]; have D1 := hide d1; clear c0 c1 c2 c3 c4 d1; obtain ⟨c0, c1, c2, c3, c4⟩ := HBX.out.on D1.out)
        | (go_at_call 68; refine (T2.out w1 D1.out).mono ?_; rintro e w2 ⟨rfl, d2⟩; rw [h2]; have D2 := hide (D1.out.trans (d2.mono D1.out.size)); clear c0 c1 c2 c3 c4 d2; obtain ⟨c0, c1, c2, c3, c4⟩ := HBX.out.on D2.out)
        | (go_at_call 69; refine (T3.out w2 D2.out).mono ?_; rintro e w3 ⟨rfl, d3⟩; rw [h3]; have D3 := hide (D2.out.trans (d3.mono D2.out.size)); clear c0 c1 c2 c3 c4 d3; obtain ⟨c0, c1, c2, c3, c4⟩ := HBX.out.on D3.out))
      go_ret
      exact ⟨by rw [HE.out]; rfl, HD.out.trans (D3.out.mono HD.out.size)⟩
    have h3 : (!decide S.Nodup) = false := by rw [decide_eq_true h3']; rfl
    by_cases h4' : R.Nodup
    rotate_left
    · have h4 : (!decide R.Nodup) = true := by rw [decide_eq_false h4']; rfl
      have HE := hide (show valF ti O S F R = false by unfold valF; rw [h1, decide_eq_true h2', decide_eq_true h3', decide_eq_false h4']; simp)
      go_enter Tryz.func40, Tryz.ntmps40
      go_wp2_with (first
        | (go_at_call 67; refine T1.mono ?_; rintro e w1 ⟨rfl, d1⟩; rw [h1]; have D1 := hide d1; clear c0 c1 c2 c3 c4 d1; obtain ⟨c0, c1, c2, c3, c4⟩ := HBX.out.on D1.out)
        | (go_at_call 68; refine (T2.out w1 D1.out).mono ?_; rintro e w2 ⟨rfl, d2⟩; rw [h2]; have D2 := hide (D1.out.trans (d2.mono D1.out.size)); clear c0 c1 c2 c3 c4 d2; obtain ⟨c0, c1, c2, c3, c4⟩ := HBX.out.on D2.out)
        | (go_at_call 69; refine (T3.out w2 D2.out).mono ?_; rintro e w3 ⟨rfl, d3⟩; rw [h3]; have D3 := hide (D2.out.trans (d3.mono D2.out.size)); clear c0 c1 c2 c3 c4 d3; obtain ⟨c0, c1, c2, c3, c4⟩ := HBX.out.on D3.out)
        | (go_at_call 70; refine (T4.out w3 D3.out).mono ?_; rintro e w4 ⟨rfl, d4⟩; rw [h4]; have D4 := hide (D3.out.trans (d4.mono D3.out.size)); clear c0 c1 c2 c3 c4 d4; obtain ⟨c0, c1, c2, c3, c4⟩ := HBX.out.on D4.out))
      go_ret
      exact ⟨by rw [HE.out]; rfl, HD.out.trans (D4.out.mono HD.out.size)⟩
    have h4 : (!decide R.Nodup) = false := by rw [decide_eq_true h4']; rfl
    have T5 : Hid (∀ W, Below W0.heap.size W0 W → Calls Tryz.prog 71 #[.agg #[.string ti, .slice ao O.length co, .slice asx S.length cs, .slice af F.length cf, .slice ar R.length cr]] W fun e w' => e = .returned (.bool (riseOk S (-1) F)) ∧ Below W.heap.size W w') := hide fun W d => final_any W ti ao asx af ar O.length co cs cf R.length cr S F (hide (HS.out.below d)) (hide (HF.out.below d)) (hide h3') (hide ⟨sts_ok HN.out.2, hok.out.1⟩) hls hlf
    have T6 : Hid (∀ W, Below W0.heap.size W0 W → Calls Tryz.prog 72 #[.agg #[.string ti, .slice ao O.length co, .slice asx S.length cs, .slice af F.length cf, .slice ar R.length cr]] W fun e w' => e = .returned (.bool (R.all (ruleOk (O.map opN) S))) ∧ Below W.heap.size W w') := hide fun W d => by
      have q := rules_any W ti ao asx af ar co cs F.length cf cr (O.map opN) S R (hide (ops_nat HN.out.1 (HO.out.on d))) (hide (HS.out.below d)) (hide (HR.out.on d)) (hide ⟨ops_ok HN.out.1, sts_ok HN.out.2, hok.out.2⟩) (by rw [List.length_map]; exact hlo) hls hlr
      rwa [List.length_map] at q
    cases h5 : riseOk S (-1) F with
    | false =>
      have HE := hide (show valF ti O S F R = false by unfold valF; rw [h1, decide_eq_true h2', decide_eq_true h3', decide_eq_true h4', h5]; simp)
      go_enter Tryz.func40, Tryz.ntmps40
      go_wp2_with (first
        | (go_at_call 67; refine T1.mono ?_; rintro e w1 ⟨rfl, d1⟩; rw [h1]; have D1 := hide d1; clear c0 c1 c2 c3 c4 d1; obtain ⟨c0, c1, c2, c3, c4⟩ := HBX.out.on D1.out)
        | (go_at_call 68; refine (T2.out w1 D1.out).mono ?_; rintro e w2 ⟨rfl, d2⟩; rw [h2]; have D2 := hide (D1.out.trans (d2.mono D1.out.size)); clear c0 c1 c2 c3 c4 d2; obtain ⟨c0, c1, c2, c3, c4⟩ := HBX.out.on D2.out)
        | (go_at_call 69; refine (T3.out w2 D2.out).mono ?_; rintro e w3 ⟨rfl, d3⟩; rw [h3]; have D3 := hide (D2.out.trans (d3.mono D2.out.size)); clear c0 c1 c2 c3 c4 d3; obtain ⟨c0, c1, c2, c3, c4⟩ := HBX.out.on D3.out)
        | (go_at_call 70; refine (T4.out w3 D3.out).mono ?_; rintro e w4 ⟨rfl, d4⟩; rw [h4]; have D4 := hide (D3.out.trans (d4.mono D3.out.size)); clear c0 c1 c2 c3 c4 d4; obtain ⟨c0, c1, c2, c3, c4⟩ := HBX.out.on D4.out)
        | (go_at_call 71; refine (T5.out w4 D4.out).mono ?_; rintro e w5 ⟨rfl, d5⟩; rw [h5]; have D5 := hide (D4.out.trans (d5.mono D4.out.size)); clear c0 c1 c2 c3 c4 d5; obtain ⟨c0, c1, c2, c3, c4⟩ := HBX.out.on D5.out))
      go_ret
      exact ⟨by rw [HE.out]; rfl, HD.out.trans (D5.out.mono HD.out.size)⟩
    | true =>
      have HE := hide (show valF ti O S F R = R.all (ruleOk (O.map opN) S) by unfold valF; rw [h1, decide_eq_true h2', decide_eq_true h3', decide_eq_true h4', h5]; rfl)
      go_enter Tryz.func40, Tryz.ntmps40
      go_wp2_with (first
        | (go_at_call 67; refine T1.mono ?_; rintro e w1 ⟨rfl, d1⟩; rw [h1]; have D1 := hide d1; clear c0 c1 c2 c3 c4 d1; obtain ⟨c0, c1, c2, c3, c4⟩ := HBX.out.on D1.out)
        | (go_at_call 68; refine (T2.out w1 D1.out).mono ?_; rintro e w2 ⟨rfl, d2⟩; rw [h2]; have D2 := hide (D1.out.trans (d2.mono D1.out.size)); clear c0 c1 c2 c3 c4 d2; obtain ⟨c0, c1, c2, c3, c4⟩ := HBX.out.on D2.out)
        | (go_at_call 69; refine (T3.out w2 D2.out).mono ?_; rintro e w3 ⟨rfl, d3⟩; rw [h3]; have D3 := hide (D2.out.trans (d3.mono D2.out.size)); clear c0 c1 c2 c3 c4 d3; obtain ⟨c0, c1, c2, c3, c4⟩ := HBX.out.on D3.out)
        | (go_at_call 70; refine (T4.out w3 D3.out).mono ?_; rintro e w4 ⟨rfl, d4⟩; rw [h4]; have D4 := hide (D3.out.trans (d4.mono D3.out.size)); clear c0 c1 c2 c3 c4 d4; obtain ⟨c0, c1, c2, c3, c4⟩ := HBX.out.on D4.out)
        | (go_at_call 71; refine (T5.out w4 D4.out).mono ?_; rintro e w5 ⟨rfl, d5⟩; rw [h5]; have D5 := hide (D4.out.trans (d5.mono D4.out.size)); clear c0 c1 c2 c3 c4 d5; obtain ⟨c0, c1, c2, c3, c4⟩ := HBX.out.on D5.out)
        | (go_at_call 72; refine (T6.out w5 D5.out).mono ?_; rintro e w6 ⟨rfl, d6⟩; have D6 := hide (D5.out.trans (d6.mono D5.out.size))))
      go_ret
      exact ⟨by rw [HE.out]; rfl, HD.out.trans (D6.out.mono HD.out.size)⟩
end Go.Proofs.YtmagchclmmphaabGreatDoor
namespace Go.Proofs.YtmagchclmmphaabGreatDoor
open Go.RowKit Go.Maps
attribute [local go_sem] Oper.semAt_some

/-! ### Contents that are the same -/
theorem below_up {B : Nat} {w W W' : World} (h : Below B w W) (d : Below W.heap.size W W') (hB : B ≤ W.heap.size) : Below B w W' := h.trans (d.mono hB)

set_option maxRecDepth 100000 in
set_option maxHeartbeats 2000000 in
theorem sameTexts_eq (w : World) (ao bo : Option Addr) (ca cb : Nat) (l : List ByteArray) (hA : Hid (ReadsS w ao l)) (hB : Hid (ReadsS w bo l)) (hl : l.length ≤ 4194304) :
    Calls Tryz.prog 39 #[.slice ao l.length ca, .slice bo l.length cb] w fun e w' => e = .returned (.bool true) ∧ Below w.heap.size w w' := by
  go_enter Tryz.func39, Tryz.ntmps39
  go_wp2_with fail
  go_loopw [5] (fun i wr => ∃ k : Nat, k ≤ l.length ∧ i = .int .i64 k ∧ Hid (Below w.heap.size w wr)) (fun i _ => l.length - (intOf i).toNat)
  case atStart => exact ⟨0, Nat.zero_le _, rfl, hide (Below.refl _ _)⟩
  case round =>
    obtain ⟨k, hk, rfl, HB⟩ := hrel
    by_cases hlt : k < l.length
    · obtain ⟨g1, o1, rfl, q1⟩ := (hA.out.below HB.out) k hlt
      obtain ⟨g2, o2, rfl, q2⟩ := (hB.out.below HB.out) k hlt
      have i2 : (k : Int) < (l.length : Int) := by omega
      have i3 : (0 : Int) ≤ (k : Int) := by omega
      obtain ⟨s, hs⟩ : ∃ s, l[k] = s := ⟨_, rfl⟩
      rw [hs] at q1 q2
      clear hs
      go_wp2_with fail
      go_region_held3 (fun W => W.cell? ⟨g1, o1 + k, none⟩ = some (.string s) ∧ W.cell? ⟨g2, o2 + k, none⟩ = some (.string s) ∧ Hid (Below w.heap.size w W))
        (first | exact ⟨q1, q2, hide HB.out.drew⟩ | assumption)
        (fail)
      rename_i hSS
      have HD := hide hSS.2.2.out
      clear hSS
      go_wp2_with fail
      exact ⟨⟨k + 1, by omega, by go_num, HD⟩, by simp [intOf]; omega⟩
    · obtain rfl : k = l.length := by omega
      have i2 : ¬ (l.length : Int) < (l.length : Int) := by omega
      go_wp2
      go_ret
      exact ⟨rfl, HB.out⟩

set_option maxRecDepth 100000 in
set_option maxHeartbeats 4000000 in
theorem same_eq (w : World) (ti : ByteArray) (O : List OpI) (S F : List ByteArray) (R : List RuT) (ao asx af ar bo bs bf br : Option Addr) (co cs cf cr eo es ef er : Nat)
    (hO : Hid (RdO w ao O ∧ RdO w bo O)) (hS : Hid (ReadsS w asx S ∧ ReadsS w bs S)) (hF : Hid (ReadsS w af F ∧ ReadsS w bf F)) (hR : Hid (RdRu w ar R ∧ RdRu w br R)) (hlo : O.length ≤ 4194304) (hls : S.length ≤ 4194304) (hlf : F.length ≤ 4194304) (hlr : R.length ≤ 4194304) :
    Calls Tryz.prog 10 #[.agg #[.string ti, .slice ao O.length co, .slice asx S.length cs, .slice af F.length cf, .slice ar R.length cr], .agg #[.string ti, .slice bo O.length eo, .slice bs S.length es, .slice bf F.length ef, .slice br R.length er]] w fun e w' => e = .returned (.bool true) ∧ Below w.heap.size w w' := by
  obtain ⟨W0, hW0⟩ : ∃ W0, (w.alloc (.cells #[.string ti, .slice ao O.length co, .slice asx S.length cs, .slice af F.length cf, .slice ar R.length cr] 32)).alloc (.cells #[.string ti, .slice bo O.length eo, .slice bs S.length es, .slice bf F.length ef, .slice br R.length er] 32) = W0 := ⟨_, rfl⟩
  have d0 : Below w.heap.size w W0 := by rw [← hW0]; exact ((Below.refl _ _).alloc (Nat.le_refl _) _).alloc (by simp) _
  have b0 : W0.heap[w.heap.size]? = some (.cells #[.string ti, .slice ao O.length co, .slice asx S.length cs, .slice af F.length cf, .slice ar R.length cr] 32 (0, 0)) := by
    rw [← hW0]; exact (Below.heap_alloc _ _ _ (by simp)).trans (World.alloc_heap_new _ _)
  have b1 : W0.heap[w.heap.size + 1]? = some (.cells #[.string ti, .slice bo O.length eo, .slice bs S.length es, .slice bf F.length ef, .slice br R.length er] 32 (0, 0)) := by
    rw [← hW0]; exact heap_alloc2_new w _ _
  have z0 : w.heap.size + 2 = W0.heap.size := by rw [← hW0]; simp
  have HX : Hid (Bx5 W0 w.heap.size (.string ti) (.slice ao O.length co) (.slice asx S.length cs) (.slice af F.length cf) (.slice ar R.length cr)) := hide ⟨cell_of b0 rfl, cell_of b0 rfl, cell_of b0 rfl, cell_of b0 rfl, cell_of b0 rfl⟩
  have HY : Hid (Bx5 W0 (w.heap.size + 1) (.string ti) (.slice bo O.length eo) (.slice bs S.length es) (.slice bf F.length ef) (.slice br R.length er)) := hide ⟨cell_of b1 rfl, cell_of b1 rfl, cell_of b1 rfl, cell_of b1 rfl, cell_of b1 rfl⟩
  have HO := hide (And.intro (hO.out.1.on d0) (hO.out.2.on d0))
  have HS := hide (And.intro (hS.out.1.below d0) (hS.out.2.below d0))
  have HF := hide (And.intro (hF.out.1.below d0) (hF.out.2.below d0))
  have HR := hide (And.intro (hR.out.1.on d0) (hR.out.2.on d0))
  have HD := hide (And.intro d0 z0)
  obtain ⟨x0, x1, x2, x3, x4⟩ := HX.out
  obtain ⟨y0, y1, y2, y3, y4⟩ := HY.out
  clear d0 b0 b1 z0 hO hS hF hR
  go_enter Tryz.func10, Tryz.ntmps10
  go_wp2_with fail
  go_loopw [5] (fun i wr => ∃ k : Nat, k ≤ O.length ∧ i = .int .i64 k ∧ Hid (Below W0.heap.size W0 wr)) (fun i _ => O.length - (intOf i).toNat)
  case atStart => exact ⟨0, Nat.zero_le _, rfl, hide (Below.refl _ _)⟩
  case round =>
    obtain ⟨k, hk, rfl, HB⟩ := hrel
    clear x0 x1 x2 x3 x4 y0 y1 y2 y3 y4
    obtain ⟨x0, x1, x2, x3, x4⟩ := HX.out.on HB.out
    obtain ⟨y0, y1, y2, y3, y4⟩ := HY.out.on HB.out
    by_cases hlt : k < O.length
    · obtain ⟨g1, o1, rfl, q1, p1⟩ := (HO.out.1.on HB.out) k hlt
      obtain ⟨g2, o2, rfl, q2, p2⟩ := (HO.out.2.on HB.out) k hlt
      have i2 : (k : Int) < (O.length : Int) := by omega
      have i3 : (0 : Int) ≤ (k : Int) := by omega
      obtain ⟨s, hs⟩ : ∃ s, O[k].1 = s := ⟨_, rfl⟩
      obtain ⟨a, ha⟩ : ∃ a, O[k].2 = a := ⟨_, rfl⟩
      rw [hs] at q1 q2
      rw [ha] at p1 p2
      clear hs ha
      go_wp2_with fail
      go_region_held3 (fun W => W.cell? ⟨w.heap.size, 1, none⟩ = some (.slice (some ⟨g1, o1, none⟩) O.length co) ∧ W.cell? ⟨w.heap.size + 1, 1, none⟩ = some (.slice (some ⟨g2, o2, none⟩) O.length eo) ∧ W.cell? ⟨g1, o1 + k * 2, none⟩ = some (.string s) ∧ W.cell? ⟨g1, o1 + k * 2 + 1, none⟩ = some (.int .i64 a) ∧ W.cell? ⟨g2, o2 + k * 2, none⟩ = some (.string s) ∧ W.cell? ⟨g2, o2 + k * 2 + 1, none⟩ = some (.int .i64 a) ∧ Hid (Below W0.heap.size W0 W))
        (first | exact ⟨x1, y1, q1, p1, q2, p2, hide HB.out.drew⟩ | assumption)
        (fail)
      rename_i hSS
      have HE := hide hSS.2.2.2.2.2.2.out
      clear hSS
      go_wp2_with fail
      exact ⟨⟨k + 1, by omega, by go_num, HE⟩, by simp [intOf]; omega⟩
    · obtain rfl : k = O.length := by omega
      have i2 : ¬ (O.length : Int) < (O.length : Int) := by omega
      obtain ⟨wm, rfl⟩ : ∃ wm, wm = wr := ⟨_, rfl⟩
      clear hlt hk
      go_wp2_with fail
      go_loopw [6] (fun i wr => ∃ k : Nat, k ≤ R.length ∧ i = .int .i64 k ∧ Hid (Below W0.heap.size W0 wr)) (fun i _ => R.length - (intOf i).toNat)
      case atStart => exact ⟨0, Nat.zero_le _, rfl, HB⟩
      case round =>
        obtain ⟨k, hk, rfl, HC⟩ := hrel
        clear x0 x1 x2 x3 x4 y0 y1 y2 y3 y4
        obtain ⟨x0, x1, x2, x3, x4⟩ := HX.out.on HC.out
        obtain ⟨y0, y1, y2, y3, y4⟩ := HY.out.on HC.out
        by_cases hlt : k < R.length
        · obtain ⟨g1, o1, rfl, q1, p1, r1⟩ := (HR.out.1.on HC.out) k hlt
          obtain ⟨g2, o2, rfl, q2, p2, r2⟩ := (HR.out.2.on HC.out) k hlt
          have j2 : (k : Int) < (R.length : Int) := by omega
          have j3 : (0 : Int) ≤ (k : Int) := by omega
          obtain ⟨s, hs⟩ : ∃ s, R[k].1 = s := ⟨_, rfl⟩
          obtain ⟨a, ha⟩ : ∃ a, R[k].2.1 = a := ⟨_, rfl⟩
          obtain ⟨b, hb⟩ : ∃ b, R[k].2.2 = b := ⟨_, rfl⟩
          rw [hs] at q1 q2
          rw [ha] at p1 p2
          rw [hb] at r1 r2
          clear hs ha hb
          go_wp2_with fail
          go_region_held3 (fun W => W.cell? ⟨w.heap.size, 4, none⟩ = some (.slice (some ⟨g1, o1, none⟩) R.length cr) ∧ W.cell? ⟨w.heap.size + 1, 4, none⟩ = some (.slice (some ⟨g2, o2, none⟩) R.length er) ∧ W.cell? ⟨g1, o1 + k * 3, none⟩ = some (.string s) ∧ W.cell? ⟨g1, o1 + k * 3 + 1, none⟩ = some (.string a) ∧ W.cell? ⟨g1, o1 + k * 3 + 2, none⟩ = some (.string b) ∧ W.cell? ⟨g2, o2 + k * 3, none⟩ = some (.string s) ∧ W.cell? ⟨g2, o2 + k * 3 + 1, none⟩ = some (.string a) ∧ W.cell? ⟨g2, o2 + k * 3 + 2, none⟩ = some (.string b) ∧ Hid (Below W0.heap.size W0 W))
            (first | exact ⟨x4, y4, q1, p1, r1, q2, p2, r2, hide HC.out.drew⟩ | assumption)
            (fail)
          rename_i hSS
          have HE := hide hSS.2.2.2.2.2.2.2.2.out
          clear hSS
          go_wp2_with fail
          exact ⟨⟨k + 1, by omega, by go_num, HE⟩, by simp [intOf]; omega⟩
        · obtain rfl : k = R.length := by omega
          have j2 : ¬ (R.length : Int) < (R.length : Int) := by omega
          clear hlt hk
          go_wp2_with fail
          refine (sameTexts_eq wr asx bs cs es S (hide (HS.out.1.below HC.out)) (hide (HS.out.2.below HC.out)) hls).mono ?_
          rintro e w1 ⟨rfl, d1⟩
          have HE := hide (HC.out.trans (d1.mono HC.out.size))
          clear x0 x1 x2 x3 x4 y0 y1 y2 y3 y4 d1
          obtain ⟨x0, x1, x2, x3, x4⟩ := HX.out.on HE.out
          obtain ⟨y0, y1, y2, y3, y4⟩ := HY.out.on HE.out
          go_wp2_with fail
          refine (sameTexts_eq w1 af bf cf ef F (hide (HF.out.1.below HE.out)) (hide (HF.out.2.below HE.out)) hlf).mono ?_
          rintro e w2 ⟨rfl, d2⟩
          have HG := hide (HD.out.1.trans ((HE.out.trans (d2.mono HE.out.size)).mono HD.out.1.size))
          clear x0 x1 x2 x3 x4 y0 y1 y2 y3 y4 d2
          go_wp2
          go_ret
          exact ⟨rfl, HG.out⟩
end Go.Proofs.YtmagchclmmphaabGreatDoor
