import Derived.Test.YtmagchclmmphaabGreatDoorFR
namespace Go.Proofs.YtmagchclmmphaabGreatDoor
open Go.RowKit Go.Maps
attribute [local go_sem] Oper.semAt_some

def opN (x : OpI) : OpT := (x.1, x.2.toNat)
/-- Whether a file's content may be. -/
def valF (ti : ByteArray) (O : List OpI) (S F : List ByteArray) (R : List RuT) : Bool :=
  namesOk ti O S && decide (O.map opN).Nodup && decide S.Nodup && decide R.Nodup && riseOk S (-1) F && R.all (ruleOk (O.map opN) S)
theorem ops_nat {O : List OpI} (h : O.all opOk = true) {W : World} {ao : Option Addr} (hr : RdO W ao O) : RdOp W ao (O.map opN) := fun j hj => by
  have hj' : j < O.length := by simpa using hj
  obtain ⟨g, o, e, c0, c1⟩ := hr j hj'
  refine ⟨g, o, e, by simpa [opN] using c0, ?_⟩
  have h1 := List.all_eq_true.1 h _ (List.getElem_mem hj')
  simp only [opOk, Bool.and_eq_true, decide_eq_true_eq] at h1
  have e2 : ((O.map opN)[j].2 : Int) = O[j].2 := by simp only [List.getElem_map, opN]; omega
  rw [e2]; exact c1
theorem vld_size {s : ByteArray} (h : vld s = true) : s.size ≤ 16 := by
  unfold vld at h
  simp only [Bool.and_eq_true, decide_eq_true_eq] at h
  exact h.1.2
theorem ops_ok {O : List OpI} (h : O.all opOk = true) : ∀ x ∈ O.map opN, kOps.ok x := by
  intro x hx
  obtain ⟨y, hy, rfl⟩ := List.mem_map.1 hx
  have h1 := List.all_eq_true.1 h _ hy
  simp only [opOk, Bool.and_eq_true, decide_eq_true_eq] at h1
  have := vld_size h1.1.1
  exact ⟨show y.1.size ≤ _ by omega, show y.2.toNat ≤ _ by omega⟩
theorem sts_ok {S : List ByteArray} (h : S.all vld = true) : ∀ x ∈ S, kText.ok x := by
  intro x hx
  have := vld_size (List.all_eq_true.1 h _ hx)
  exact show x.size ≤ _ by omega
/-- A file that lies in a box. -/
def Bx5 (W : World) (X : Nat) (v0 v1 v2 v3 v4 : Value) : Prop := W.cell? ⟨X, 0, none⟩ = some v0 ∧ W.cell? ⟨X, 1, none⟩ = some v1 ∧ W.cell? ⟨X, 2, none⟩ = some v2 ∧ W.cell? ⟨X, 3, none⟩ = some v3 ∧ W.cell? ⟨X, 4, none⟩ = some v4
theorem Bx5.on {W W' : World} {X : Nat} {v0 v1 v2 v3 v4 : Value} (h : Bx5 W X v0 v1 v2 v3 v4) (d : Below W.heap.size W W') : Bx5 W' X v0 v1 v2 v3 v4 := by
  have hX := World.block_lt_of_cell? W _ h.1
  exact ⟨(d.cell (p := ⟨X, 0, none⟩) hX).trans h.1, (d.cell (p := ⟨X, 1, none⟩) hX).trans h.2.1, (d.cell (p := ⟨X, 2, none⟩) hX).trans h.2.2.1, (d.cell (p := ⟨X, 3, none⟩) hX).trans h.2.2.2.1, (d.cell (p := ⟨X, 4, none⟩) hX).trans h.2.2.2.2⟩

set_option maxRecDepth 100000 in
set_option maxHeartbeats 4000000 in
theorem valid_file (w : World) (ti : ByteArray) (ao asx af ar : Option Addr) (co cs cf cr : Nat) (O : List OpI) (S F : List ByteArray) (R : List RuT) (hT : Hid (BytesAt w ∧ 1 < w.heap.size)) (hO : Hid (RdO w ao O)) (hS : Hid (ReadsS w asx S)) (hF : Hid (ReadsS w af F)) (hR : Hid (RdRu w ar R))
    (hok : Hid ((∀ x ∈ F, kText.ok x) ∧ ∀ x ∈ R, kRules.ok x)) (hlo : O.length ≤ 4194304) (hls : S.length ≤ 4194304) (hlf : F.length ≤ 4194304) (hlr : R.length ≤ 4194304) :
    Calls Tryz.prog 40 #[.agg #[.string ti, .slice ao O.length co, .slice asx S.length cs, .slice af F.length cf, .slice ar R.length cr]] w fun e w' => e = .returned (.bool (valF ti O S F R)) ∧ Below w.heap.size w w' := by
  obtain ⟨W0, hW0⟩ : ∃ W0, w.alloc (.cells #[.string ti, .slice ao O.length co, .slice asx S.length cs, .slice af F.length cf, .slice ar R.length cr] 32) = W0 := ⟨_, rfl⟩
  have d0 : Below w.heap.size w W0 := by rw [← hW0]; exact (Below.refl _ _).alloc (Nat.le_refl _) _
  have b0 : W0.heap[w.heap.size]? = some (.cells #[.string ti, .slice ao O.length co, .slice asx S.length cs, .slice af F.length cf, .slice ar R.length cr] 32 (0, 0)) := by rw [← hW0]; exact World.alloc_heap_new _ _
  have HBX : Hid (Bx5 W0 w.heap.size (.string ti) (.slice ao O.length co) (.slice asx S.length cs) (.slice af F.length cf) (.slice ar R.length cr)) := hide ⟨cell_of b0 rfl, cell_of b0 rfl, cell_of b0 rfl, cell_of b0 rfl, cell_of b0 rfl⟩
  obtain ⟨c0, c1, c2, c3, c4⟩ := HBX.out
  have T1 := names_any W0 ti ao asx co cs O S af ar F.length cf R.length cr (hide ⟨hT.out.1.below d0 hT.out.2, Nat.lt_of_lt_of_le hT.out.2 d0.size⟩) (hide (hO.out.on d0)) (hide (hS.out.below d0)) hlo hls
  have HD := hide d0
  have HO := hide (hO.out.on d0)
  have HS := hide (hS.out.below d0)
  have HF := hide (hF.out.below d0)
  have HR := hide (hR.out.on d0)
  clear hT hO hS hF hR d0 b0
  cases h1 : namesOk ti O S with
  | false =>
    have HE := hide (show valF ti O S F R = false by unfold valF; rw [h1]; rfl)
    go_enter Tryz.func40, Tryz.ntmps40
    go_wp2_with (first
      | (go_at_call 67; refine T1.mono ?_; rintro e w1 ⟨rfl, d1⟩; rw [h1]; have D1 := hide d1; clear c0 c1 c2 c3 c4 d1; obtain ⟨c0, c1, c2, c3, c4⟩ := HBX.out.on D1.out))
    go_ret
    exact ⟨by rw [HE.out]; rfl, HD.out.trans (D1.out.mono HD.out.size)⟩
  | true =>
    have hn : O.all opOk = true ∧ S.all vld = true := by
      unfold namesOk at h1
      simp only [Bool.and_eq_true] at h1
      exact ⟨h1.1.1, h1.1.2⟩
    have T2 : Hid (∀ W, Below W0.heap.size W0 W → Calls Tryz.prog 68 #[.slice ao O.length co] W fun e w' => e = .returned (.bool (!decide (O.map opN).Nodup)) ∧ Below W.heap.size W w') := hide fun W d => by
      have q := twoOps_any W ao co (O.map opN) (hide (ops_nat hn.1 (HO.out.on d))) (hide (ops_ok hn.1)) (by rw [List.length_map]; exact hlo)
      rwa [List.length_map] at q
    have T3 : Hid (∀ W, Below W0.heap.size W0 W → Calls Tryz.prog 69 #[.slice asx S.length cs] W fun e w' => e = .returned (.bool (!decide S.Nodup)) ∧ Below W.heap.size W w') := hide fun W d => twoTxt_any W asx cs S (hide (HS.out.below d)) (hide (sts_ok hn.2)) hls
    have T4 : Hid (∀ W, Below W0.heap.size W0 W → Calls Tryz.prog 70 #[.slice ar R.length cr] W fun e w' => e = .returned (.bool (!decide R.Nodup)) ∧ Below W.heap.size W w') := hide fun W d => twoRul_any W ar cr R (hide (HR.out.on d)) (hide hok.out.2) hlr
    have HN := hide hn
    clear hn
    by_cases h2' : (O.map opN).Nodup
    rotate_left
    · have h2 : (!decide (O.map opN).Nodup) = true := by rw [decide_eq_false h2']; rfl
      have HE := hide (show valF ti O S F R = false by unfold valF; rw [h1, decide_eq_false h2']; simp)
      go_enter Tryz.func40, Tryz.ntmps40
      go_wp2_with (first
        | (go_at_call 67; refine T1.mono ?_; rintro e w1 ⟨rfl, d1⟩; rw [h1]; have D1 := hide d1; clear c0 c1 c2 c3 c4 d1; obtain ⟨c0, c1, c2, c3, c4⟩ := HBX.out.on D1.out)
        | (go_at_call 68; refine (T2.out w1 D1.out).mono ?_; rintro e w2 ⟨rfl, d2⟩; rw [h2]; have D2 := hide (D1.out.trans (d2.mono D1.out.size)); clear c0 c1 c2 c3 c4 d2; obtain ⟨c0, c1, c2, c3, c4⟩ := HBX.out.on D2.out))
      go_ret
      exact ⟨by rw [HE.out]; rfl, HD.out.trans (D2.out.mono HD.out.size)⟩
    have h2 : (!decide (O.map opN).Nodup) = false := by rw [decide_eq_true h2']; rfl
    by_cases h3' : S.Nodup
    rotate_left
    · have h3 : (!decide S.Nodup) = true := by rw [decide_eq_false h3']; rfl
      have HE := hide (show valF ti O S F R = false by unfold valF; rw [h1, decide_eq_true h2', decide_eq_false h3']; simp)
      go_enter Tryz.func40, Tryz.ntmps40
      go_wp2_with (first
        | (go_at_call 67; refine T1.mono ?_; rintro e w1 ⟨rfl, d1⟩; rw [h1]; have D1 := hide d1; clear c0 c1 c2 c3 c4 d1; obtain ⟨c0, c1, c2, c3, c4⟩ := HBX.out.on D1.out)
        | (go_at_call 68; refine (T2.out w1 D1.out).mono ?_; rintro e w2 ⟨rfl, d2⟩; rw [h2]; have D2 := hide (D1.out.trans (d2.mono D1.out.size)); clear c0 c1 c2 c3 c4 d2; obtain ⟨c0, c1, c2, c3, c4⟩ := HBX.out.on D2.out)
        | (go_at_call 69; refine (T3.out w2 D2.out).mono ?_; rintro e w3 ⟨rfl, d3⟩; rw [h3]; have D3 := hide (D2.out.trans (d3.mono D2.out.size)); clear c0 c1 c2 c3 c4 d3; obtain ⟨c0, c1, c2, c3, c4⟩ := HBX.out.on D3.out))
      go_ret
      exact ⟨by rw [HE.out]; rfl, HD.out.trans (D3.out.mono HD.out.size)⟩
    have h3 : (!decide S.Nodup) = false := by rw [decide_eq_true h3']; rfl
    by_cases h4' : R.Nodup
    rotate_left
    · have h4 : (!decide R.Nodup) = true := by rw [decide_eq_false h4']; rfl
      have HE := hide (show valF ti O S F R = false by unfold valF; rw [h1, decide_eq_true h2', decide_eq_true h3', decide_eq_false h4']; simp)
      go_enter Tryz.func40, Tryz.ntmps40
      go_wp2_with (first
        | (go_at_call 67; refine T1.mono ?_; rintro e w1 ⟨rfl, d1⟩; rw [h1]; have D1 := hide d1; clear c0 c1 c2 c3 c4 d1; obtain ⟨c0, c1, c2, c3, c4⟩ := HBX.out.on D1.out)
        | (go_at_call 68; refine (T2.out w1 D1.out).mono ?_; rintro e w2 ⟨rfl, d2⟩; rw [h2]; have D2 := hide (D1.out.trans (d2.mono D1.out.size)); clear c0 c1 c2 c3 c4 d2; obtain ⟨c0, c1, c2, c3, c4⟩ := HBX.out.on D2.out)
        | (go_at_call 69; refine (T3.out w2 D2.out).mono ?_; rintro e w3 ⟨rfl, d3⟩; rw [h3]; have D3 := hide (D2.out.trans (d3.mono D2.out.size)); clear c0 c1 c2 c3 c4 d3; obtain ⟨c0, c1, c2, c3, c4⟩ := HBX.out.on D3.out)
        | (go_at_call 70; refine (T4.out w3 D3.out).mono ?_; rintro e w4 ⟨rfl, d4⟩; rw [h4]; have D4 := hide (D3.out.trans (d4.mono D3.out.size)); clear c0 c1 c2 c3 c4 d4; obtain ⟨c0, c1, c2, c3, c4⟩ := HBX.out.on D4.out))
      go_ret
      exact ⟨by rw [HE.out]; rfl, HD.out.trans (D4.out.mono HD.out.size)⟩
    have h4 : (!decide R.Nodup) = false := by rw [decide_eq_true h4']; rfl
    have T5 : Hid (∀ W, Below W0.heap.size W0 W → Calls Tryz.prog 71 #[.agg #[.string ti, .slice ao O.length co, .slice asx S.length cs, .slice af F.length cf, .slice ar R.length cr]] W fun e w' => e = .returned (.bool (riseOk S (-1) F)) ∧ Below W.heap.size W w') := hide fun W d => final_any W ti ao asx af ar O.length co cs cf R.length cr S F (hide (HS.out.below d)) (hide (HF.out.below d)) (hide h3') (hide ⟨sts_ok HN.out.2, hok.out.1⟩) hls hlf
    have T6 : Hid (∀ W, Below W0.heap.size W0 W → Calls Tryz.prog 72 #[.agg #[.string ti, .slice ao O.length co, .slice asx S.length cs, .slice af F.length cf, .slice ar R.length cr]] W fun e w' => e = .returned (.bool (R.all (ruleOk (O.map opN) S))) ∧ Below W.heap.size W w') := hide fun W d => by
      have q := rules_any W ti ao asx af ar co cs F.length cf cr (O.map opN) S R (hide (ops_nat HN.out.1 (HO.out.on d))) (hide (HS.out.below d)) (hide (HR.out.on d)) (hide ⟨ops_ok HN.out.1, sts_ok HN.out.2, hok.out.2⟩) (by rw [List.length_map]; exact hlo) hls hlr
      rwa [List.length_map] at q
    cases h5 : riseOk S (-1) F with
    | false =>
      have HE := hide (show valF ti O S F R = false by unfold valF; rw [h1, decide_eq_true h2', decide_eq_true h3', decide_eq_true h4', h5]; simp)
      go_enter Tryz.func40, Tryz.ntmps40
      go_wp2_with (first
        | (go_at_call 67; refine T1.mono ?_; rintro e w1 ⟨rfl, d1⟩; rw [h1]; have D1 := hide d1; clear c0 c1 c2 c3 c4 d1; obtain ⟨c0, c1, c2, c3, c4⟩ := HBX.out.on D1.out)
        | (go_at_call 68; refine (T2.out w1 D1.out).mono ?_; rintro e w2 ⟨rfl, d2⟩; rw [h2]; have D2 := hide (D1.out.trans (d2.mono D1.out.size)); clear c0 c1 c2 c3 c4 d2; obtain ⟨c0, c1, c2, c3, c4⟩ := HBX.out.on D2.out)
        | (go_at_call 69; refine (T3.out w2 D2.out).mono ?_; rintro e w3 ⟨rfl, d3⟩; rw [h3]; have D3 := hide (D2.out.trans (d3.mono D2.out.size)); clear c0 c1 c2 c3 c4 d3; obtain ⟨c0, c1, c2, c3, c4⟩ := HBX.out.on D3.out)
        | (go_at_call 70; refine (T4.out w3 D3.out).mono ?_; rintro e w4 ⟨rfl, d4⟩; rw [h4]; have D4 := hide (D3.out.trans (d4.mono D3.out.size)); clear c0 c1 c2 c3 c4 d4; obtain ⟨c0, c1, c2, c3, c4⟩ := HBX.out.on D4.out)
        | (go_at_call 71; refine (T5.out w4 D4.out).mono ?_; rintro e w5 ⟨rfl, d5⟩; rw [h5]; have D5 := hide (D4.out.trans (d5.mono D4.out.size)); clear c0 c1 c2 c3 c4 d5; obtain ⟨c0, c1, c2, c3, c4⟩ := HBX.out.on D5.out))
      go_ret
      exact ⟨by rw [HE.out]; rfl, HD.out.trans (D5.out.mono HD.out.size)⟩
    | true =>
      have HE := hide (show valF ti O S F R = R.all (ruleOk (O.map opN) S) by unfold valF; rw [h1, decide_eq_true h2', decide_eq_true h3', decide_eq_true h4', h5]; rfl)
      go_enter Tryz.func40, Tryz.ntmps40
      go_wp2_with (first
        | (go_at_call 67; refine T1.mono ?_; rintro e w1 ⟨rfl, d1⟩; rw [h1]; have D1 := hide d1; clear c0 c1 c2 c3 c4 d1; obtain ⟨c0, c1, c2, c3, c4⟩ := HBX.out.on D1.out)
        | (go_at_call 68; refine (T2.out w1 D1.out).mono ?_; rintro e w2 ⟨rfl, d2⟩; rw [h2]; have D2 := hide (D1.out.trans (d2.mono D1.out.size)); clear c0 c1 c2 c3 c4 d2; obtain ⟨c0, c1, c2, c3, c4⟩ := HBX.out.on D2.out)
        | (go_at_call 69; refine (T3.out w2 D2.out).mono ?_; rintro e w3 ⟨rfl, d3⟩; rw [h3]; have D3 := hide (D2.out.trans (d3.mono D2.out.size)); clear c0 c1 c2 c3 c4 d3; obtain ⟨c0, c1, c2, c3, c4⟩ := HBX.out.on D3.out)
        | (go_at_call 70; refine (T4.out w3 D3.out).mono ?_; rintro e w4 ⟨rfl, d4⟩; rw [h4]; have D4 := hide (D3.out.trans (d4.mono D3.out.size)); clear c0 c1 c2 c3 c4 d4; obtain ⟨c0, c1, c2, c3, c4⟩ := HBX.out.on D4.out)
        | (go_at_call 71; refine (T5.out w4 D4.out).mono ?_; rintro e w5 ⟨rfl, d5⟩; rw [h5]; have D5 := hide (D4.out.trans (d5.mono D4.out.size)); clear c0 c1 c2 c3 c4 d5; obtain ⟨c0, c1, c2, c3, c4⟩ := HBX.out.on D5.out)
        | (go_at_call 72; refine (T6.out w5 D5.out).mono ?_; rintro e w6 ⟨rfl, d6⟩; have D6 := hide (D5.out.trans (d6.mono D5.out.size))))
      go_ret
      exact ⟨by rw [HE.out]; rfl, HD.out.trans (D6.out.mono HD.out.size)⟩
end Go.Proofs.YtmagchclmmphaabGreatDoor
