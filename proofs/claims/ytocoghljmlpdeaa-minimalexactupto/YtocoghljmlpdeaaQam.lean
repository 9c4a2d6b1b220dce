import Derived.Test.YtocoghljmlpdeaaQal
namespace Go.Proofs.Ytocoghljmlpdeaa
open Go.RowKit Go.Maps
attribute [local go_sem] Oper.semAt_some
/-! ### Two automata, field by field -/
set_option maxRecDepth 100000 in
set_option maxHeartbeats 1000000 in
theorem rsameInts_any (w : World) (aa ab : Option Addr) (la ca lb cb : Nat) (A B : List Int) (hA : RdN w aa A) (hB : RdN w ab B) (hla : A.length = la) (hlb : B.length = lb) (ba : la ≤ 4194304) (bb : lb ≤ 4194304) :
    Calls Try.prog 45 #[.slice aa la ca, .slice ab lb cb] w fun e w' => e = .returned (.bool (decide (A = B))) ∧ Below w.heap.size w w' := by
  have H := hide (And.intro hA (And.intro hB (And.intro hla hlb)))
  obtain ⟨q, hq⟩ : ∃ q, decide (A = B) = q := ⟨_, rfl⟩
  rw [hq]
  have HQ := hide hq
  clear hA hB hla hlb hq
  by_cases hl : la = lb
  · subst hl
    go_enter Try.func45, Try.ntmps45
    go_wp2
    go_loopw [5] (fun iv wr => ∃ i : Nat, i ≤ la ∧ iv = .int .i64 i ∧ Hid (A.take i = B.take i ∧ Below w.heap.size w wr)) (fun iv _ => la - (intOf iv).toNat)
    case atStart => exact ⟨0, Nat.zero_le _, rfl, hide ⟨by simp, Below.refl _ _⟩⟩
    case round =>
      obtain ⟨i, hi, rfl, HY⟩ := hrel
      by_cases hlt : i < la
      · have l0 : (i : Int) < (la : Int) := by omega
        have l1 : (0 : Int) ≤ (i : Int) := by omega
        have hiA : i < A.length := by have := H.out.2.2.1; omega
        have hiB : i < B.length := by have := H.out.2.2.2; omega
        obtain ⟨g, o, rfl, c⟩ := (H.out.1.on HY.out.2) i hiA
        obtain ⟨g2, o2, rfl, c2⟩ := (H.out.2.1.on HY.out.2) i hiB
        by_cases hx : A[i] = B[i]
        · rw [← hx] at c2
          have HX := hide (show A.take (i + 1) = B.take (i + 1) by
            rw [List.take_add_one, List.take_add_one, HY.out.1, List.getElem?_eq_getElem hiA, List.getElem?_eq_getElem hiB, hx])
          clear hx
          generalize A[i] = x at *
          go_upto_region 6 with fail
          go_quiet (fail)
          go_wp2
          go_roundw
          case rel => exact ⟨i + 1, by omega, by go_num, hide ⟨HX.out, below_drewN2 HY.out.2 _⟩⟩
          case measure => simp [intOf]; omega
        · have HX := hide (show ¬ A = B from fun e => hx (by subst e; rfl))
          have hxx : (A[i] != B[i]) = true := by simp [hx]
          obtain rfl : false = q := by rw [← HQ.out]; symm; simpa using HX.out
          generalize A[i] = x at *
          generalize B[i] = y at *
          go_upto_region 6 with fail
          go_quiet (fail)
          go_wp2
          go_ret
          exact ⟨rfl, below_drewN2 HY.out.2 _⟩
      · have l0 : ¬ (i : Int) < (la : Int) := by omega
        obtain rfl : i = la := by omega
        obtain rfl : true = q := by
          have e := HY.out.1
          rw [List.take_of_length_le (by have := H.out.2.2.1; omega), List.take_of_length_le (by have := H.out.2.2.2; omega)] at e
          rw [← HQ.out]
          symm
          simpa using e
        go_wp2
        go_ret
        exact ⟨rfl, HY.out.2⟩
  · obtain rfl : false = q := by
      rw [← HQ.out]
      symm
      simp only [decide_eq_false_iff_not]
      rintro rfl
      exact hl (H.out.2.2.1.symm.trans H.out.2.2.2)
    have hl2 : ¬ ((la : Int) = (lb : Int)) := by omega
    go_enter Try.func45, Try.ntmps45
    go_wp2
    go_ret
    exact ⟨rfl, Below.refl _ _⟩
set_option maxRecDepth 100000 in
set_option maxHeartbeats 2000000 in
/-- Are two automata one, field by field? -/
theorem same_any (w : World) (N1 M1 st1 N2 M2 st2 : Int) (aF1 aN1 aF2 aN2 : Option Addr) (lF1 cF1 lN1 cN1 lF2 cF2 lN2 cN2 : Nat) (F1 X1 F2 X2 : List Int) (hF1 : RdN w aF1 F1) (hX1 : RdN w aN1 X1) (hF2 : RdN w aF2 F2) (hX2 : RdN w aN2 X2) (e1 : F1.length = lF1) (e2 : X1.length = lN1) (e3 : F2.length = lF2) (e4 : X2.length = lN2) (b1 : lF1 ≤ 4194304) (b2 : lN1 ≤ 4194304) (b3 : lF2 ≤ 4194304) (b4 : lN2 ≤ 4194304) :
    Calls Try.prog 19 #[.agg #[.int .i64 N1, .int .i64 M1, .int .i64 st1, .slice aF1 lF1 cF1, .slice aN1 lN1 cN1], .agg #[.int .i64 N2, .int .i64 M2, .int .i64 st2, .slice aF2 lF2 cF2, .slice aN2 lN2 cN2]] w fun e w' => e = .returned (.bool (decide (N1 = N2 ∧ M1 = M2 ∧ st1 = st2 ∧ F1 = F2 ∧ X1 = X2))) ∧ Below w.heap.size w w' := by
  obtain ⟨W0, hW0⟩ : ∃ W0, (w.alloc (.cells #[.int .i64 N1, .int .i64 M1, .int .i64 st1, .slice aF1 lF1 cF1, .slice aN1 lN1 cN1] 24)).alloc (.cells #[.int .i64 N2, .int .i64 M2, .int .i64 st2, .slice aF2 lF2 cF2, .slice aN2 lN2 cN2] 24) = W0 := ⟨_, rfl⟩
  have H2 := hide (two_al w #[.int .i64 N1, .int .i64 M1, .int .i64 st1, .slice aF1 lF1 cF1, .slice aN1 lN1 cN1] #[.int .i64 N2, .int .i64 M2, .int .i64 st2, .slice aF2 lF2 cF2, .slice aN2 lN2 cN2] 24 24)
  rw [hW0] at H2
  have x0 : W0.cell? ⟨w.heap.size, 0, none⟩ = some (.int .i64 N1) := cell_of H2.out.2.1 rfl
  have x1 : W0.cell? ⟨w.heap.size, 1, none⟩ = some (.int .i64 M1) := cell_of H2.out.2.1 rfl
  have x2 : W0.cell? ⟨w.heap.size, 2, none⟩ = some (.int .i64 st1) := cell_of H2.out.2.1 rfl
  have x3 : W0.cell? ⟨w.heap.size, 3, none⟩ = some (.slice aF1 lF1 cF1) := cell_of H2.out.2.1 rfl
  have x4 : W0.cell? ⟨w.heap.size, 4, none⟩ = some (.slice aN1 lN1 cN1) := cell_of H2.out.2.1 rfl
  have y0 : W0.cell? ⟨w.heap.size + 1, 0, none⟩ = some (.int .i64 N2) := cell_of H2.out.2.2.1 rfl
  have y1 : W0.cell? ⟨w.heap.size + 1, 1, none⟩ = some (.int .i64 M2) := cell_of H2.out.2.2.1 rfl
  have y2 : W0.cell? ⟨w.heap.size + 1, 2, none⟩ = some (.int .i64 st2) := cell_of H2.out.2.2.1 rfl
  have y3 : W0.cell? ⟨w.heap.size + 1, 3, none⟩ = some (.slice aF2 lF2 cF2) := cell_of H2.out.2.2.1 rfl
  have y4 : W0.cell? ⟨w.heap.size + 1, 4, none⟩ = some (.slice aN2 lN2 cN2) := cell_of H2.out.2.2.1 rfl
  have TF : Hid (∀ W, Below W0.heap.size W0 W → Calls Try.prog 45 #[.slice aF1 lF1 cF1, .slice aF2 lF2 cF2] W fun e w' => e = .returned (.bool (decide (F1 = F2))) ∧ Below W.heap.size W w') := hide (fun W d => rsameInts_any W aF1 aF2 lF1 cF1 lF2 cF2 F1 F2 ((hF1.on H2.out.1).on d) ((hF2.on H2.out.1).on d) e1 e3 b1 b3)
  have TX : Hid (∀ W, Below W0.heap.size W0 W → Calls Try.prog 45 #[.slice aN1 lN1 cN1, .slice aN2 lN2 cN2] W fun e w' => e = .returned (.bool (decide (X1 = X2))) ∧ Below W.heap.size W w') := hide (fun W d => rsameInts_any W aN1 aN2 lN1 cN1 lN2 cN2 X1 X2 ((hX1.on H2.out.1).on d) ((hX2.on H2.out.1).on d) e2 e4 b2 b4)
  clear hF1 hX1 hF2 hX2 e1 e2 e3 e4 b1 b2 b3 b4
  by_cases n1 : N1 = N2
  · by_cases n2 : M1 = M2
    · by_cases n3 : st1 = st2
      · subst n1 n2 n3
        by_cases n4 : F1 = F2
        · rw [decide_eq_true n4] at TF
          by_cases n5 : X1 = X2
          · rw [decide_eq_true n5] at TX
            rw [decide_eq_true ⟨rfl, rfl, rfl, n4, n5⟩]
            clear n4 n5
            go_enter Try.func19, Try.ntmps19
            go_wp2_with fail
            go_at_call 45
            refine (TF.out W0 (Below.refl _ _)).mono ?_
            rintro e w2 ⟨rfl, d2⟩
            have Z1 := blk_on H2.out.2.1 d2
            have Z2 := blk_on H2.out.2.2.1 d2
            have HD := hide d2
            clear x0 y0 x1 y1 x2 y2 x3 y3 x4 y4 d2
            have x0 : w2.cell? ⟨w.heap.size, 0, none⟩ = some (.int .i64 N1) := cell_of Z1 rfl
            have x1 : w2.cell? ⟨w.heap.size, 1, none⟩ = some (.int .i64 M1) := cell_of Z1 rfl
            have x2 : w2.cell? ⟨w.heap.size, 2, none⟩ = some (.int .i64 st1) := cell_of Z1 rfl
            have x3 : w2.cell? ⟨w.heap.size, 3, none⟩ = some (.slice aF1 lF1 cF1) := cell_of Z1 rfl
            have x4 : w2.cell? ⟨w.heap.size, 4, none⟩ = some (.slice aN1 lN1 cN1) := cell_of Z1 rfl
            have y0 : w2.cell? ⟨w.heap.size + 1, 0, none⟩ = some (.int .i64 N1) := cell_of Z2 rfl
            have y1 : w2.cell? ⟨w.heap.size + 1, 1, none⟩ = some (.int .i64 M1) := cell_of Z2 rfl
            have y2 : w2.cell? ⟨w.heap.size + 1, 2, none⟩ = some (.int .i64 st1) := cell_of Z2 rfl
            have y3 : w2.cell? ⟨w.heap.size + 1, 3, none⟩ = some (.slice aF2 lF2 cF2) := cell_of Z2 rfl
            have y4 : w2.cell? ⟨w.heap.size + 1, 4, none⟩ = some (.slice aN2 lN2 cN2) := cell_of Z2 rfl
            clear Z1 Z2
            go_wp2_with fail
            go_at_call 45
            refine (TX.out w2 HD.out).mono ?_
            rintro e w3 ⟨rfl, d3⟩
            have HD3 := hide (HD.out.trans (d3.mono HD.out.size))
            clear d3 x0 y0 x1 y1 x2 y2 x3 y3 x4 y4
            go_wp2_with fail
            go_ret
            exact ⟨rfl, H2.out.1.trans (HD3.out.mono H2.out.1.size)⟩
          · rw [decide_eq_false n5] at TX
            rw [decide_eq_false (fun h => n5 h.2.2.2.2)]
            clear n4 n5
            go_enter Try.func19, Try.ntmps19
            go_wp2_with fail
            go_at_call 45
            refine (TF.out W0 (Below.refl _ _)).mono ?_
            rintro e w2 ⟨rfl, d2⟩
            have Z1 := blk_on H2.out.2.1 d2
            have Z2 := blk_on H2.out.2.2.1 d2
            have HD := hide d2
            clear x0 y0 x1 y1 x2 y2 x3 y3 x4 y4 d2
            have x0 : w2.cell? ⟨w.heap.size, 0, none⟩ = some (.int .i64 N1) := cell_of Z1 rfl
            have x1 : w2.cell? ⟨w.heap.size, 1, none⟩ = some (.int .i64 M1) := cell_of Z1 rfl
            have x2 : w2.cell? ⟨w.heap.size, 2, none⟩ = some (.int .i64 st1) := cell_of Z1 rfl
            have x3 : w2.cell? ⟨w.heap.size, 3, none⟩ = some (.slice aF1 lF1 cF1) := cell_of Z1 rfl
            have x4 : w2.cell? ⟨w.heap.size, 4, none⟩ = some (.slice aN1 lN1 cN1) := cell_of Z1 rfl
            have y0 : w2.cell? ⟨w.heap.size + 1, 0, none⟩ = some (.int .i64 N1) := cell_of Z2 rfl
            have y1 : w2.cell? ⟨w.heap.size + 1, 1, none⟩ = some (.int .i64 M1) := cell_of Z2 rfl
            have y2 : w2.cell? ⟨w.heap.size + 1, 2, none⟩ = some (.int .i64 st1) := cell_of Z2 rfl
            have y3 : w2.cell? ⟨w.heap.size + 1, 3, none⟩ = some (.slice aF2 lF2 cF2) := cell_of Z2 rfl
            have y4 : w2.cell? ⟨w.heap.size + 1, 4, none⟩ = some (.slice aN2 lN2 cN2) := cell_of Z2 rfl
            clear Z1 Z2
            go_wp2_with fail
            go_at_call 45
            refine (TX.out w2 HD.out).mono ?_
            rintro e w3 ⟨rfl, d3⟩
            have HD3 := hide (HD.out.trans (d3.mono HD.out.size))
            clear d3 x0 y0 x1 y1 x2 y2 x3 y3 x4 y4
            go_wp2_with fail
            go_ret
            exact ⟨rfl, H2.out.1.trans (HD3.out.mono H2.out.1.size)⟩
        · rw [decide_eq_false n4] at TF
          rw [decide_eq_false (fun h => n4 h.2.2.2.1)]
          clear n4
          go_enter Try.func19, Try.ntmps19
          go_wp2_with fail
          go_at_call 45
          refine (TF.out W0 (Below.refl _ _)).mono ?_
          rintro e w2 ⟨rfl, d2⟩
          have HD := hide d2
          clear x0 y0 x1 y1 x2 y2 x3 y3 x4 y4 d2
          go_wp2_with fail
          go_ret
          exact ⟨rfl, H2.out.1.trans (HD.out.mono H2.out.1.size)⟩
      · rw [decide_eq_false (fun h => n3 h.2.2.1)]
        subst n1 n2
        go_enter Try.func19, Try.ntmps19
        go_wp2_with fail
        go_ret
        exact ⟨rfl, H2.out.1⟩
    · rw [decide_eq_false (fun h => n2 h.2.1)]
      subst n1
      go_enter Try.func19, Try.ntmps19
      go_wp2_with fail
      go_ret
      exact ⟨rfl, H2.out.1⟩
  · rw [decide_eq_false (fun h => n1 h.1)]
    go_enter Try.func19, Try.ntmps19
    go_wp2_with fail
    go_ret
    exact ⟨rfl, H2.out.1⟩
/-! ### The law, statement by statement -/
def headR : Code → Nat
  | .region n _ _ => n
  | .seq a _ => headR a
  | _ => 0
def fromR (n : Nat) : Code → Code
  | .seq a b => if headR a = n then .seq a b else fromR n b
  | c => c
def hdOf : Code → Code
  | .seq a _ => a
  | c => c
def tlOf : Code → Code
  | .seq _ b => b
  | c => c
noncomputable def cd6 : Code := Try.f6.body.getD .skip
noncomputable def hdR (n : Nat) (c : Code) : Code := hdOf (fromR n c)
noncomputable def tlR (n : Nat) (c : Code) : Code := tlOf (fromR n c)
/-! ### The law, its end -/
set_option maxRecDepth 100000 in
set_option maxHeartbeats 16000000 in
theorem exact_end (w : World)
    (N M st N2 M2 s2 S T : Int)
    (aF aN aG aX aW : Option Addr)
    (cF cN cG cX cW : Nat)
    (Fi Nx Gi Ex Wd LC : List Int)
    (LT : List Int)
    (LW : List (List Int))
    (nn mm : Int)
    (LF LX : List Int)
    (LU : List Int)
    (HBB : Hid (Fi.length ≤ 1048576 ∧ Nx.length ≤ 1048576 ∧ Gi.length ≤ 1048576 ∧ Ex.length ≤ 1048576))
    (gF kF gN kN bd : Nat)
    (HNED : Hid (gF ≠ gN))
    (HWD : Hid (w.heap.size < bd))
    (gG kG gE kE be : Nat)
    (HNEE : Hid (gG ≠ gE))
    (HDJ : Hid (gF < gG ∧ gF < gE ∧ gN < gG ∧ gN < gE ∧ bd < be))
    (bb1 : Option Addr)
    (nb1 cb1 : Nat)
    (bh : Option Addr)
    (nh ch : Nat)
    (bw : Option Addr)
    (cw : Nat)
    (vs : List Value)
    (bv : Option Addr)
    (cv : Nat)
    (us : List Value)
    (f1 : Option Addr)
    (g1 : Nat)
    (f2 : Option Addr)
    (g2 bm : Nat)
    (HObm : Hid (be < bm))
    (f3 : Option Addr)
    (g3 : Nat)
    (f4 : Option Addr)
    (g4 bn : Nat)
    (HObn : Hid (bm < bn))
    (bt : Option Addr)
    (nt ct : Nat)
    (bz : Option Addr)
    (cz : Nat)
    (ws : List Value)
    (f5 : Option Addr)
    (g5 : Nat)
    (f6 : Option Addr)
    (g6 bm2 : Nat)
    (f7 : Option Addr)
    (g7 : Nat)
    (f8 : Option Addr)
    (g8 b9 : Nat)
    (w44 : World)
    (HS : Hid (ExS w w44 [(b9, #[Value.int IntKind.i64 nn, Value.int IntKind.i64 mm, Value.int IntKind.i64 0, Value.slice f7 LF.length g7, Value.slice f8 LX.length g8], 24), (bm2, #[Value.int IntKind.i64 nn, Value.int IntKind.i64 mm, Value.int IntKind.i64 0, Value.slice f5 LF.length g5, Value.slice f6 LX.length g6], 24), (bn, #[Value.int IntKind.i64 nn, Value.int IntKind.i64 mm, Value.int IntKind.i64 0, Value.slice f3 LF.length g3, Value.slice f4 LX.length g4], 24), (bm, #[Value.int IntKind.i64 nn, Value.int IntKind.i64 mm, Value.int IntKind.i64 0, Value.slice f1 LF.length g1, Value.slice f2 LX.length g2], 24), (be, #[Value.int IntKind.i64 N2, Value.int IntKind.i64 M2, Value.int IntKind.i64 s2, Value.slice (some { block := gG, off := 0 }) Gi.length kG, Value.slice (some { block := gE, off := 0 }) Ex.length kE], 24), (bd, #[Value.int IntKind.i64 N, Value.int IntKind.i64 M, Value.int IntKind.i64 st, Value.slice (some { block := gF, off := 0 }) Fi.length kF, Value.slice (some { block := gN, off := 0 }) Nx.length kN], 24), (w.heap.size, #[Value.int IntKind.i64 N, Value.int IntKind.i64 M, Value.int IntKind.i64 st, Value.slice aF Fi.length cF, Value.slice aN Nx.length cN, Value.int IntKind.i64 N2, Value.int IntKind.i64 M2, Value.int IntKind.i64 s2, Value.slice aG Gi.length cG, Value.slice aX Ex.length cX, Value.int IntKind.i64 S, Value.int IntKind.i64 T, Value.slice aW Wd.length cW], 26)] ([(Value.slice f7 LF.length g7, LF), (Value.slice f8 LX.length g8, LX)] ++ []) [] ([(Value.slice bt nt ct, LU)] ++ ([(Value.slice f3 LF.length g3, LF), (Value.slice f4 LX.length g4, LX)] ++ (us.zip LW ++ ([(Value.slice bh nh ch, LT)] ++ ([(Value.slice bb1 nb1 cb1, LC)] ++ (twE gG kG gE kE Gi Ex ++ (twE gF kF gN kN Fi Nx ++ []))))))) [(Value.slice bz LW.length cz, ws), (Value.slice bv LW.length cv, us), (Value.slice bw LW.length cw, vs)]))
    (q0 q5 q6 q7 q8 q9 q10 q11 q12 q15 q16 q17 q18 q19 q20 q21 q22 q23 q24 q25 q26 q27 q28 q29 q30 q31 q32 q33 q34 q35 q36 q37 q38 q39 q40 q41 q42 q43 q44 q45 q46 q47 q48 q49 q50 q51 q52 q53 q54 q55 q56 q57 q58 q59 q60 q61 q62 q63 q64 q65 q66 q67 q68 q69 q70 q71 q72 q73 q74 q75 q76 q77 q78 q79 q80 q81 q82 q83 q84 q85 q86 q87 q88 q89 q90 q91 q92 q93 q94 q95 q96 q97 q98 q99 q100 q101 q102 q103 q104 q105 q106 q107 q108 q109 q110 q111 q112 q113 q114 q115 q116 q117 q118 q119 q120 q121 q122 q123 q124 q125 q126 q127 q128 q129 q130 q131 q132 q133 q134 q135 q136 q137 q138 q139 q140 q141 q142 q143 q144 q145 q146 q147 q148 q149 q150 q151 q152 q153 q154 q155 q156 q157 q158 q159 q160 q161 q162 q163 q164 q165 q166 q167 q168 q169 q170 q171 q172 q173 q174 q175 q176 q177 q178 q179 q180 q181 q182 q183 q184 q185 q186 q187 q188 q189 q190 q191 q192 q193 q194 q195 q196 q197 q198 q199 q200 q201 q202 q203 q204 q205 q206 q207 q208 q209 q210 q211 q212 q213 q214 q215 q216 q217 q218 q219 q220 q221 q222 q223 q224 q225 q226 q227 q228 q229 q230 q231 q232 q233 q234 q235 q236 q237 q238 q239 q240 q241 q242 q243 q244 q245 q246 q247 q248 q249 q250 q251 q252 q253 q254 q255 q256 q257 q258 q259 q260 q261 q262 q263 q264 q265 q266 q267 q268 q269 q270 q271 q272 q273 q274 q275 q276 q277 q278 q279 q280 q281 q282 q283 q284 q285 q286 q287 q288 q289 q290 q291 q292 q293 q294 q295 q296 q297 q298 q299 q300 q301 q302 q303 q304 q305 q306 q307 q308 q309 q310 q311 q312 q313 q314 q315 q316 q317 q318 q319 q320 q321 q322 q323 q324 q325 q326 q327 q328 q329 q330 q331 q332 q333 q334 q335 q336 q337 q338 q339 q340 q341 q342 q343 q344 q345 q346 q347 q348 q349 q350 q351 q352 q353 q354 q355 q356 q357 q358 q359 q360 q361 q362 q363 q364 q365 q366 q367 q368 q369 q370 q371 q372 q373 q374 q375 q376 q377 q378 q379 q380 q381 q382 q383 q384 q385 q386 q387 q388 q389 q390 q391 q392 q393 q394 q395 q396 q397 q398 q399 q400 q401 q402 q403 q404 q405 q406 q407 q408 q409 q410 q411 q412 q413 : Value) (K9 : Act → World → Prop) (hK9 : ∀ a w', Code.wp Try.prog (tlR 41 cd6) (bodyPost Try.prog Try.f6 fun e w' => e = .returned (.bool true) ∧ Below w.heap.size w w') a w' → K9 a w') :
    Code.wp Try.prog (hdR 41 cd6) (Exit.then K9 (bodyPost Try.prog Try.f6 fun e w' => e = .returned (.bool true) ∧ Below w.heap.size w w')) ⟨List.toArray (q0 :: Value.pointer (some { block := w.heap.size, off := 0 }) :: Value.bool false :: Value.pointer (some { block := bd, off := 0 }) :: Value.pointer (some { block := be, off := 0 }) :: q5 :: q6 :: q7 :: q8 :: q9 :: q10 :: q11 :: q12 :: Value.pointer (some { block := bm, off := 0 }) :: Value.pointer (some { block := bn, off := 0 }) :: q15 :: q16 :: q17 :: q18 :: q19 :: q20 :: q21 :: q22 :: q23 :: q24 :: q25 :: q26 :: q27 :: q28 :: q29 :: q30 :: q31 :: q32 :: q33 :: q34 :: q35 :: q36 :: q37 :: q38 :: q39 :: q40 :: q41 :: q42 :: q43 :: q44 :: q45 :: q46 :: q47 :: q48 :: q49 :: q50 :: q51 :: q52 :: q53 :: q54 :: q55 :: q56 :: q57 :: q58 :: q59 :: q60 :: q61 :: q62 :: q63 :: q64 :: q65 :: q66 :: q67 :: q68 :: q69 :: q70 :: q71 :: q72 :: q73 :: q74 :: q75 :: q76 :: q77 :: q78 :: q79 :: q80 :: q81 :: q82 :: q83 :: q84 :: q85 :: q86 :: q87 :: q88 :: q89 :: q90 :: q91 :: q92 :: q93 :: q94 :: q95 :: q96 :: q97 :: q98 :: q99 :: q100 :: q101 :: q102 :: q103 :: q104 :: q105 :: q106 :: q107 :: q108 :: q109 :: q110 :: q111 :: q112 :: q113 :: q114 :: q115 :: q116 :: q117 :: q118 :: q119 :: q120 :: q121 :: q122 :: q123 :: q124 :: q125 :: q126 :: q127 :: q128 :: q129 :: q130 :: q131 :: q132 :: q133 :: q134 :: q135 :: q136 :: q137 :: q138 :: q139 :: q140 :: q141 :: q142 :: q143 :: q144 :: q145 :: q146 :: q147 :: q148 :: q149 :: q150 :: q151 :: q152 :: q153 :: q154 :: q155 :: q156 :: q157 :: q158 :: q159 :: q160 :: q161 :: q162 :: q163 :: q164 :: q165 :: q166 :: q167 :: q168 :: q169 :: q170 :: q171 :: q172 :: q173 :: q174 :: q175 :: q176 :: q177 :: q178 :: q179 :: q180 :: q181 :: q182 :: q183 :: q184 :: q185 :: q186 :: q187 :: q188 :: q189 :: q190 :: q191 :: q192 :: q193 :: q194 :: q195 :: q196 :: q197 :: q198 :: q199 :: q200 :: q201 :: q202 :: q203 :: q204 :: q205 :: q206 :: q207 :: q208 :: q209 :: q210 :: q211 :: q212 :: q213 :: q214 :: q215 :: q216 :: q217 :: q218 :: q219 :: q220 :: q221 :: q222 :: q223 :: q224 :: q225 :: q226 :: q227 :: q228 :: q229 :: q230 :: q231 :: q232 :: q233 :: q234 :: q235 :: q236 :: q237 :: q238 :: q239 :: q240 :: q241 :: q242 :: q243 :: q244 :: q245 :: q246 :: q247 :: q248 :: q249 :: q250 :: q251 :: q252 :: q253 :: q254 :: q255 :: q256 :: q257 :: q258 :: q259 :: q260 :: q261 :: q262 :: q263 :: q264 :: q265 :: q266 :: q267 :: q268 :: q269 :: q270 :: q271 :: q272 :: q273 :: q274 :: q275 :: q276 :: q277 :: q278 :: q279 :: q280 :: q281 :: q282 :: q283 :: q284 :: q285 :: q286 :: q287 :: q288 :: q289 :: q290 :: q291 :: q292 :: q293 :: q294 :: q295 :: q296 :: q297 :: q298 :: q299 :: q300 :: q301 :: q302 :: q303 :: q304 :: q305 :: q306 :: q307 :: q308 :: q309 :: q310 :: q311 :: q312 :: q313 :: q314 :: q315 :: q316 :: q317 :: q318 :: q319 :: q320 :: q321 :: q322 :: q323 :: q324 :: q325 :: q326 :: q327 :: q328 :: q329 :: q330 :: q331 :: q332 :: q333 :: q334 :: q335 :: q336 :: q337 :: q338 :: q339 :: q340 :: q341 :: q342 :: q343 :: q344 :: q345 :: q346 :: q347 :: q348 :: q349 :: q350 :: q351 :: q352 :: q353 :: q354 :: q355 :: q356 :: q357 :: q358 :: q359 :: q360 :: q361 :: q362 :: q363 :: q364 :: q365 :: q366 :: q367 :: q368 :: q369 :: q370 :: q371 :: q372 :: q373 :: q374 :: q375 :: q376 :: q377 :: q378 :: q379 :: q380 :: q381 :: q382 :: q383 :: q384 :: q385 :: q386 :: q387 :: q388 :: q389 :: q390 :: q391 :: q392 :: q393 :: q394 :: q395 :: q396 :: q397 :: q398 :: q399 :: q400 :: q401 :: q402 :: q403 :: q404 :: q405 :: q406 :: q407 :: q408 :: q409 :: q410 :: q411 :: q412 :: q413 :: []), []⟩ w44 := by
  conv => arg 2; whnf
  conv at hK9 => intro a w'; arg 1; arg 2; whnf
  have HNM := hide (show ∃ F9 N9 G9 X9 : List Int, Fi.map (onF N) = F9 ∧ Nx.map (onF N) = N9 ∧ Gi.map (onF N2) = G9 ∧ Ex.map (onF N2) = X9 from ⟨_, _, _, _, rfl, rfl, rfl, rfl⟩)
  obtain ⟨F9, N9, G9, X9, hF9, hN9, hG9, hX9⟩ := HNM.out
  clear HNM
  have HL9 := hide (show F9.length = Fi.length ∧ N9.length = Nx.length ∧ G9.length = Gi.length ∧ X9.length = Ex.length from ⟨by rw [← hF9, List.length_map], by rw [← hN9, List.length_map], by rw [← hG9, List.length_map], by rw [← hX9, List.length_map]⟩)
  obtain ⟨LC2, hLC2⟩ : ∃ x, clL N M st F9 N9 = x := ⟨_, rfl⟩
  obtain ⟨EC2, hEC2⟩ : ∃ x, clE N M st F9 N9 = x := ⟨_, rfl⟩
  obtain ⟨LT2, hLT2⟩ : ∃ x, tlL N M st F9 N9 S T = x := ⟨_, rfl⟩
  obtain ⟨ET2, hET2⟩ : ∃ x, tlE N M st F9 N9 S T = x := ⟨_, rfl⟩
  obtain ⟨LW2, hLW2⟩ : ∃ x, acL N M st F9 N9 = x := ⟨_, rfl⟩
  obtain ⟨EW2, hEW2⟩ : ∃ x, acE N M st F9 N9 = x := ⟨_, rfl⟩
  obtain ⟨nn2, hnn2⟩ : ∃ x, mnN N M st F9 N9 = x := ⟨_, rfl⟩
  obtain ⟨mm2, hmm2⟩ : ∃ x, mnM N M st F9 N9 = x := ⟨_, rfl⟩
  obtain ⟨LF2, hLF2⟩ : ∃ x, mnFl N M st F9 N9 = x := ⟨_, rfl⟩
  obtain ⟨LX2, hLX2⟩ : ∃ x, mnXl N M st F9 N9 = x := ⟨_, rfl⟩
  obtain ⟨bb2, hbb2⟩ : ∃ x, eqB N M st F9 N9 N2 M2 s2 G9 X9 = x := ⟨_, rfl⟩
  obtain ⟨LU2, hLU2⟩ : ∃ x, eqL N M st F9 N9 N2 M2 s2 G9 X9 = x := ⟨_, rfl⟩
  obtain ⟨EU2, hEU2⟩ : ∃ x, eqE N M st F9 N9 N2 M2 s2 G9 X9 = x := ⟨_, rfl⟩
  have HBN2 := hide (show LC2.length ≤ 8192 ∧ LW2.length ≤ 4096 ∧ (∀ L ∈ LW2, L.length ≤ 8192) ∧ LF2.length ≤ 1048576 ∧ LX2.length ≤ 1048576 from ⟨by rw [← hLC2]; exact clL_len _ _ _ _ _, by rw [← hLW2]; exact (acL_len _ _ _ _ _).1, by rw [← hLW2]; exact (acL_len _ _ _ _ _).2, by rw [← hLF2]; exact (mn_len _ _ _ _ _).1, by rw [← hLX2]; exact (mn_len _ _ _ _ _).2⟩)
  have UC : Hid (∀ (W : World) (a : Option Addr) (ka : Nat) (b : Option Addr) (kb : Nat), RdN W a F9 → RdN W b N9 → Calls Try.prog 14 #[.agg #[.int .i64 N, .int .i64 M, .int .i64 st, .slice a Fi.length ka, .slice b Nx.length kb]] W (LsA W LC2 EC2)) := hide (fun W a ka b kb h1 h2 => by rw [← hLC2, ← hEC2]; exact classes_uni W N M st a b Fi.length ka Nx.length kb F9 N9 h1 h2 HL9.out.1 HL9.out.2.1 (Nat.le_trans HBB.out.1 (by decide)) (Nat.le_trans HBB.out.2.1 (by decide)))
  have VC : Hid (∀ (W : World) (a : Option Addr) (ka : Nat) (b : Option Addr) (kb : Nat), RdN W a F9 → RdN W b N9 → Calls Try.prog 20 #[.agg #[.int .i64 N, .int .i64 M, .int .i64 st, .slice a Fi.length ka, .slice b Nx.length kb]] W (LsA W LC2 EC2)) := hide (fun W a ka b kb h1 h2 => by rw [← hLC2, ← hEC2]; exact rclasses_uni W N M st a b Fi.length ka Nx.length kb F9 N9 h1 h2 HL9.out.1 HL9.out.2.1 (Nat.le_trans HBB.out.1 (by decide)) (Nat.le_trans HBB.out.2.1 (by decide)))
  have UT : Hid (∀ (W : World) (a : Option Addr) (ka : Nat) (b : Option Addr) (kb : Nat), RdN W a F9 → RdN W b N9 → Calls Try.prog 15 #[.agg #[.int .i64 N, .int .i64 M, .int .i64 st, .slice a Fi.length ka, .slice b Nx.length kb], .int .i64 S, .int .i64 T] W (LsB W LT2 ET2)) := hide (fun W a ka b kb h1 h2 => by rw [← hLT2, ← hET2]; exact tell_uni W N M st a b Fi.length ka Nx.length kb F9 N9 h1 h2 HL9.out.1 HL9.out.2.1 (Nat.le_trans HBB.out.1 (by decide)) (Nat.le_trans HBB.out.2.1 (by decide)) S T)
  have VT : Hid (∀ (W : World) (a : Option Addr) (ka : Nat) (b : Option Addr) (kb : Nat), RdN W a F9 → RdN W b N9 → Calls Try.prog 22 #[.agg #[.int .i64 N, .int .i64 M, .int .i64 st, .slice a Fi.length ka, .slice b Nx.length kb], .int .i64 S, .int .i64 T] W (LsA W LT2 ET2)) := hide (fun W a ka b kb h1 h2 => by rw [← hLT2, ← hET2]; exact rtell_uni W N M st a b Fi.length ka Nx.length kb F9 N9 h1 h2 HL9.out.1 HL9.out.2.1 (Nat.le_trans HBB.out.1 (by decide)) (Nat.le_trans HBB.out.2.1 (by decide)) S T)
  have UW : Hid (∀ (W : World) (a : Option Addr) (ka : Nat) (b : Option Addr) (kb : Nat), RdN W a F9 → RdN W b N9 → Calls Try.prog 10 #[.agg #[.int .i64 N, .int .i64 M, .int .i64 st, .slice a Fi.length ka, .slice b Nx.length kb]] W (WsA OwWa W LW2 EW2)) := hide (fun W a ka b kb h1 h2 => by rw [← hLW2, ← hEW2]; exact access_uni W N M st a b Fi.length ka Nx.length kb F9 N9 h1 h2 HL9.out.1 HL9.out.2.1 (Nat.le_trans HBB.out.1 (by decide)) (Nat.le_trans HBB.out.2.1 (by decide)))
  have VW : Hid (∀ (W : World) (a : Option Addr) (ka : Nat) (b : Option Addr) (kb : Nat), RdN W a F9 → RdN W b N9 → Calls Try.prog 23 #[.agg #[.int .i64 N, .int .i64 M, .int .i64 st, .slice a Fi.length ka, .slice b Nx.length kb]] W (WsA OwWa W LW2 EW2)) := hide (fun W a ka b kb h1 h2 => by rw [← hLW2, ← hEW2]; exact raccess_uni W N M st a b Fi.length ka Nx.length kb F9 N9 h1 h2 HL9.out.1 HL9.out.2.1 (Nat.le_trans HBB.out.1 (by decide)) (Nat.le_trans HBB.out.2.1 (by decide)))
  have UM : Hid (∀ (W : World) (a : Option Addr) (ka : Nat) (b : Option Addr) (kb : Nat), RdN W a F9 → RdN W b N9 → Calls Try.prog 8 #[.agg #[.int .i64 N, .int .i64 M, .int .i64 st, .slice a Fi.length ka, .slice b Nx.length kb]] W (MnU W nn2 mm2 LF2 LX2 EC2)) := hide (fun W a ka b kb h1 h2 => by rw [← hnn2, ← hmm2, ← hLF2, ← hLX2, ← hEC2]; exact minimal_uni W N M st a b Fi.length ka Nx.length kb F9 N9 h1 h2 HL9.out.1 HL9.out.2.1 (Nat.le_trans HBB.out.1 (by decide)) (Nat.le_trans HBB.out.2.1 (by decide)))
  have VM : Hid (∀ (W : World) (a : Option Addr) (ka : Nat) (b : Option Addr) (kb : Nat), RdN W a F9 → RdN W b N9 → Calls Try.prog 25 #[.agg #[.int .i64 N, .int .i64 M, .int .i64 st, .slice a Fi.length ka, .slice b Nx.length kb]] W (MnU W nn2 mm2 LF2 LX2 EC2)) := hide (fun W a ka b kb h1 h2 => by rw [← hnn2, ← hmm2, ← hLF2, ← hLX2, ← hEC2]; exact rminimal_uni W N M st a b Fi.length ka Nx.length kb F9 N9 h1 h2 HL9.out.1 HL9.out.2.1 (Nat.le_trans HBB.out.1 (by decide)) (Nat.le_trans HBB.out.2.1 (by decide)))
  have UQ : Hid (∀ (W : World) (a : Option Addr) (ka : Nat) (b : Option Addr) (kb : Nat) (c : Option Addr) (kc : Nat) (d : Option Addr) (kd : Nat), RdN W a F9 → RdN W b N9 → RdN W c G9 → RdN W d X9 → Calls Try.prog 18 #[.agg #[.int .i64 N, .int .i64 M, .int .i64 st, .slice a Fi.length ka, .slice b Nx.length kb], .agg #[.int .i64 N2, .int .i64 M2, .int .i64 s2, .slice c Gi.length kc, .slice d Ex.length kd]] W (EqV W bb2 LU2 EU2)) := hide (fun W a ka b kb c kc d kd h1 h2 h3 h4 => by rw [← hbb2, ← hLU2, ← hEU2]; exact equal_uni W N M st N2 M2 s2 a b c d Fi.length ka Nx.length kb Gi.length kc Ex.length kd F9 N9 G9 X9 h1 h2 h3 h4 HL9.out.1 HL9.out.2.1 HL9.out.2.2.1 HL9.out.2.2.2 (Nat.le_trans HBB.out.1 (by decide)) (Nat.le_trans HBB.out.2.1 (by decide)) (Nat.le_trans HBB.out.2.2.1 (by decide)) (Nat.le_trans HBB.out.2.2.2 (by decide)))
  have VQ : Hid (∀ (W : World) (a : Option Addr) (ka : Nat) (b : Option Addr) (kb : Nat) (c : Option Addr) (kc : Nat) (d : Option Addr) (kd : Nat), RdN W a F9 → RdN W b N9 → RdN W c G9 → RdN W d X9 → Calls Try.prog 26 #[.agg #[.int .i64 N, .int .i64 M, .int .i64 st, .slice a Fi.length ka, .slice b Nx.length kb], .agg #[.int .i64 N2, .int .i64 M2, .int .i64 s2, .slice c Gi.length kc, .slice d Ex.length kd]] W (EqU W bb2 LU2 EU2)) := hide (fun W a ka b kb c kc d kd h1 h2 h3 h4 => by rw [← hbb2, ← hLU2, ← hEU2]; exact requal_uni W N M st N2 M2 s2 a b c d Fi.length ka Nx.length kb Gi.length kc Ex.length kd F9 N9 G9 X9 h1 h2 h3 h4 HL9.out.1 HL9.out.2.1 HL9.out.2.2.1 HL9.out.2.2.2 (Nat.le_trans HBB.out.1 (by decide)) (Nat.le_trans HBB.out.2.1 (by decide)) (Nat.le_trans HBB.out.2.2.1 (by decide)) (Nat.le_trans HBB.out.2.2.2 (by decide)))
  clear hLC2 hEC2 hLT2 hET2 hLW2 hEW2 hnn2 hmm2 hLF2 hLX2 hbb2 hLU2 hEU2
  have HS2 := hide (HS.out.keep (Bx' := [(w.heap.size, #[.int .i64 N, .int .i64 M, .int .i64 st, .slice aF Fi.length cF, .slice aN Nx.length cN, .int .i64 N2, .int .i64 M2, .int .i64 s2, .slice aG Gi.length cG, .slice aX Ex.length cX, .int .i64 S, .int .i64 T, .slice aW Wd.length cW], 26), (bd, #[.int .i64 N, .int .i64 M, .int .i64 st, .slice (some ⟨gF, 0, none⟩) Fi.length kF, .slice (some ⟨gN, 0, none⟩) Nx.length kN], 24), (be, #[.int .i64 N2, .int .i64 M2, .int .i64 s2, .slice (some ⟨gG, 0, none⟩) Gi.length kG, .slice (some ⟨gE, 0, none⟩) Ex.length kE], 24), (bm, #[.int .i64 nn, .int .i64 mm, .int .i64 0, .slice f1 LF.length g1, .slice f2 LX.length g2], 24), (bn, #[.int .i64 nn, .int .i64 mm, .int .i64 0, .slice f3 LF.length g3, .slice f4 LX.length g4], 24)]) (F3 := twE gG kG gE kE Gi Ex ++ (twE gF kF gN kN Fi Nx ++ [])) (by intro q hq; simp only [List.mem_cons, List.not_mem_nil, or_false] at hq; rcases hq with e | e | e | e | e <;> (subst e; simp)) (by repeat (first | exact List.Sublist.refl _ | refine List.Sublist.trans ?_ (List.sublist_append_right _ _))))
  clear HS
  have HS := HS2
  clear HS2
  have ZZk := (HS.out.b (bd, #[.int .i64 N, .int .i64 M, .int .i64 st, .slice (some ⟨gF, 0, none⟩) Fi.length kF, .slice (some ⟨gN, 0, none⟩) Nx.length kN], 24) (by simp)).1
  have k0 : w44.cell? ⟨bd, 0, none⟩ = some (.int .i64 N) := cell_of ZZk rfl
  have k1 : w44.cell? ⟨bd, 1, none⟩ = some (.int .i64 M) := cell_of ZZk rfl
  have k2 : w44.cell? ⟨bd, 2, none⟩ = some (.int .i64 st) := cell_of ZZk rfl
  have k3 : w44.cell? ⟨bd, 3, none⟩ = some (.slice (some ⟨gF, 0, none⟩) Fi.length kF) := cell_of ZZk rfl
  have k4 : w44.cell? ⟨bd, 4, none⟩ = some (.slice (some ⟨gN, 0, none⟩) Nx.length kN) := cell_of ZZk rfl
  clear ZZk
  have HS2 := hide (HS.out.swap (perm_ab (twE gG kG gE kE Gi Ex) (twE gF kF gN kN Fi Nx)))
  clear HS
  have HS := HS2
  clear HS2
  have TC := moved_any w44 w.heap.size N M st gF kF gN kN Fi Nx (hide ⟨(HS.out.tw (gF := gF) (kF := kF) (gN := gN) (kN := kN) (Fi := Fi) (Nx := Nx) (by intro x hx; simp [hx])).1, (HS.out.tw (gF := gF) (kF := kF) (gN := gN) (kN := kN) (Fi := Fi) (Nx := Nx) (by intro x hx; simp [hx])).2, HNED.out⟩) HS.out.d.size (Nat.le_trans HBB.out.1 (by decide)) (Nat.le_trans HBB.out.2.1 (by decide))
  rw [hF9, hN9] at TC
  go_upto_region 42 with (go_at_call 29; refine TC.mono ?_; rintro e w45 ⟨pF, jF, pN, jN, rfl, HA⟩; clear k0 k1 k2 k3 k4)
  obtain ⟨bP, hbP⟩ : ∃ x, w45.heap.size = x := ⟨_, rfl⟩
  obtain ⟨w46, hw3⟩ : ∃ W, w45.alloc (.cells #[.int .i64 N, .int .i64 M, .int .i64 st, .slice (some ⟨pF, 0, none⟩) Fi.length jF, .slice (some ⟨pN, 0, none⟩) Nx.length jN] 24) = W := ⟨_, rfl⟩
  rw [hbP, hw3]
  have HObP := hide (show bn < bP from by have z1 := (Array.getElem?_eq_some_iff.1 (HS.out.b (bn, #[.int .i64 nn, .int .i64 mm, .int .i64 0, .slice f3 LF.length g3, .slice f4 LX.length g4], 24) (by simp)).1).1; have z2 := HA.out.2.2.size; omega)
  have HNEbP := hide HA.out.2.1.ne
  have HS2 := hide (by have z := (HS.out.moved HL9.out.1 HL9.out.2.1 HA.out.1 HA.out.2.2 HA.out.2.1).box #[.int .i64 N, .int .i64 M, .int .i64 st, .slice (some ⟨pF, 0, none⟩) Fi.length jF, .slice (some ⟨pN, 0, none⟩) Nx.length jN] 24 (by decide); rw [hw3, hbP] at z; exact z)
  clear HS
  have HS := HS2
  clear HS2 HA TC hw3 hbP
  have ZZk := (HS.out.b (be, #[.int .i64 N2, .int .i64 M2, .int .i64 s2, .slice (some ⟨gG, 0, none⟩) Gi.length kG, .slice (some ⟨gE, 0, none⟩) Ex.length kE], 24) (by simp)).1
  have k0 : w46.cell? ⟨be, 0, none⟩ = some (.int .i64 N2) := cell_of ZZk rfl
  have k1 : w46.cell? ⟨be, 1, none⟩ = some (.int .i64 M2) := cell_of ZZk rfl
  have k2 : w46.cell? ⟨be, 2, none⟩ = some (.int .i64 s2) := cell_of ZZk rfl
  have k3 : w46.cell? ⟨be, 3, none⟩ = some (.slice (some ⟨gG, 0, none⟩) Gi.length kG) := cell_of ZZk rfl
  have k4 : w46.cell? ⟨be, 4, none⟩ = some (.slice (some ⟨gE, 0, none⟩) Ex.length kE) := cell_of ZZk rfl
  clear ZZk
  have HS2 := hide (HS.out.swap (perm_abc (twE pF jF pN jN F9 N9) (twE gF kF gN kN F9 N9) (twE gG kG gE kE Gi Ex)))
  clear HS
  have HS := HS2
  clear HS2
  have TC := moved_any w46 w.heap.size N2 M2 s2 gG kG gE kE Gi Ex (hide ⟨(HS.out.tw (gF := gG) (kF := kG) (gN := gE) (kN := kE) (Fi := Gi) (Nx := Ex) (by intro x hx; simp [hx])).1, (HS.out.tw (gF := gG) (kF := kG) (gN := gE) (kN := kE) (Fi := Gi) (Nx := Ex) (by intro x hx; simp [hx])).2, HNEE.out⟩) HS.out.d.size (Nat.le_trans HBB.out.2.2.1 (by decide)) (Nat.le_trans HBB.out.2.2.2 (by decide))
  rw [hG9, hX9] at TC
  go_upto_region 43 with (go_at_call 29; refine TC.mono ?_; rintro e w47 ⟨pG, jG, pE, jE, rfl, HA⟩; clear k0 k1 k2 k3 k4)
  obtain ⟨bQ, hbQ⟩ : ∃ x, w47.heap.size = x := ⟨_, rfl⟩
  obtain ⟨w48, hw3⟩ : ∃ W, w47.alloc (.cells #[.int .i64 N2, .int .i64 M2, .int .i64 s2, .slice (some ⟨pG, 0, none⟩) Gi.length jG, .slice (some ⟨pE, 0, none⟩) Ex.length jE] 24) = W := ⟨_, rfl⟩
  rw [hbQ, hw3]
  have HObQ := hide (show bP < bQ from by have z1 := (Array.getElem?_eq_some_iff.1 (HS.out.b (bP, #[.int .i64 N, .int .i64 M, .int .i64 st, .slice (some ⟨pF, 0, none⟩) Fi.length jF, .slice (some ⟨pN, 0, none⟩) Nx.length jN], 24) (by simp)).1).1; have z2 := HA.out.2.2.size; omega)
  have HNEbQ := hide HA.out.2.1.ne
  have HS2 := hide (by have z := (HS.out.moved HL9.out.2.2.1 HL9.out.2.2.2 HA.out.1 HA.out.2.2 HA.out.2.1).box #[.int .i64 N2, .int .i64 M2, .int .i64 s2, .slice (some ⟨pG, 0, none⟩) Gi.length jG, .slice (some ⟨pE, 0, none⟩) Ex.length jE] 24 (by decide); rw [hw3, hbQ] at z; exact z)
  clear HS
  have HS := HS2
  clear HS2 HA TC hw3 hbQ
  have ZZk := (HS.out.b (bd, #[.int .i64 N, .int .i64 M, .int .i64 st, .slice (some ⟨gF, 0, none⟩) Fi.length kF, .slice (some ⟨gN, 0, none⟩) Nx.length kN], 24) (by simp)).1
  have k0 : w48.cell? ⟨bd, 0, none⟩ = some (.int .i64 N) := cell_of ZZk rfl
  have k1 : w48.cell? ⟨bd, 1, none⟩ = some (.int .i64 M) := cell_of ZZk rfl
  have k2 : w48.cell? ⟨bd, 2, none⟩ = some (.int .i64 st) := cell_of ZZk rfl
  have k3 : w48.cell? ⟨bd, 3, none⟩ = some (.slice (some ⟨gF, 0, none⟩) Fi.length kF) := cell_of ZZk rfl
  have k4 : w48.cell? ⟨bd, 4, none⟩ = some (.slice (some ⟨gN, 0, none⟩) Nx.length kN) := cell_of ZZk rfl
  clear ZZk
  have TC := UM.out w48 (some ⟨gF, 0, none⟩) kF (some ⟨gN, 0, none⟩) kN (HS.out.tw (gF := gF) (kF := kF) (gN := gN) (kN := kN) (Fi := F9) (Nx := N9) (by intro x hx; simp [hx])).1.rd (HS.out.tw (gF := gF) (kF := kF) (gN := gN) (kN := kN) (Fi := F9) (Nx := N9) (by intro x hx; simp [hx])).2.rd
  go_wp2_with fail
  go_at_call 8
  refine TC.mono ?_
  rintro e w49 ⟨m1, l1, m2, l2, rfl, HA⟩
  clear k0 k1 k2 k3 k4
  have HS2 := hide (HS.out.put3 HA.out.2.2.2 (L := [(.slice m1 LF2.length l1, LF2), (.slice m2 LX2.length l2, LX2)]) (fun x hx => by rcases List.mem_cons.1 hx with e | hx; (subst e; exact HA.out.1); (obtain rfl := List.mem_singleton.1 hx; exact HA.out.2.1)) (List.pairwise_cons.2 ⟨fun x hx => by obtain rfl := List.mem_singleton.1 hx; exact HA.out.2.2.1, by simp⟩))
  clear HS
  have HS := HS2
  clear HS2 HA TC
  have R3 := (HS.out.b (bm, #[.int .i64 nn, .int .i64 mm, .int .i64 0, .slice f1 LF.length g1, .slice f2 LX.length g2], 24) (by simp)).1
  have r0 : w49.cell? ⟨bm, 0, none⟩ = some (.int .i64 nn) := cell_of R3 rfl
  have f0z : w49.frozen? ⟨bm, 0, none⟩ = false := fz_of R3
  have r1 : w49.cell? ⟨bm, 1, none⟩ = some (.int .i64 mm) := cell_of R3 rfl
  have f1z : w49.frozen? ⟨bm, 1, none⟩ = false := fz_of R3
  have r2 : w49.cell? ⟨bm, 2, none⟩ = some (.int .i64 0) := cell_of R3 rfl
  have f2z : w49.frozen? ⟨bm, 2, none⟩ = false := fz_of R3
  have r3 : w49.cell? ⟨bm, 3, none⟩ = some (.slice f1 LF.length g1) := cell_of R3 rfl
  have f3z : w49.frozen? ⟨bm, 3, none⟩ = false := fz_of R3
  have r4 : w49.cell? ⟨bm, 4, none⟩ = some (.slice f2 LX.length g2) := cell_of R3 rfl
  have f4z : w49.frozen? ⟨bm, 4, none⟩ = false := fz_of R3
  have O6 := hide (And.intro (set5 w49 bm _ _ _ _ _ (.int .i64 nn2) (.int .i64 mm2) (.int .i64 0) (.slice m1 LF2.length l1) (.slice m2 LX2.length l2) 24 R3) (And.intro (only5 w49 bm (.int .i64 nn2) (.int .i64 mm2) (.int .i64 0) (.slice m1 LF2.length l1) (.slice m2 LX2.length l2)) R3))
  clear R3
  go_upto_region 44 with fail
  obtain ⟨w50, hw3⟩ : ∃ W, ((((w49.setCell ⟨bm, 0, none⟩ (.int .i64 nn2)).setCell ⟨bm, 1, none⟩ (.int .i64 mm2)).setCell ⟨bm, 2, none⟩ (.int .i64 0)).setCell ⟨bm, 3, none⟩ (.slice m1 LF2.length l1)).setCell ⟨bm, 4, none⟩ (.slice m2 LX2.length l2) = W := ⟨_, rfl⟩
  rw [hw3] at O6 ⊢
  clear hw3 r0 f0z r1 f1z r2 f2z r3 f3z r4 f4z
  have HS2 := hide (HS.out.store (b := bm) (Bx' := [(bQ, #[.int .i64 N2, .int .i64 M2, .int .i64 s2, .slice (some ⟨pG, 0, none⟩) Gi.length jG, .slice (some ⟨pE, 0, none⟩) Ex.length jE], 24), (bP, #[.int .i64 N, .int .i64 M, .int .i64 st, .slice (some ⟨pF, 0, none⟩) Fi.length jF, .slice (some ⟨pN, 0, none⟩) Nx.length jN], 24), (w.heap.size, #[.int .i64 N, .int .i64 M, .int .i64 st, .slice aF Fi.length cF, .slice aN Nx.length cN, .int .i64 N2, .int .i64 M2, .int .i64 s2, .slice aG Gi.length cG, .slice aX Ex.length cX, .int .i64 S, .int .i64 T, .slice aW Wd.length cW], 26), (bd, #[.int .i64 N, .int .i64 M, .int .i64 st, .slice (some ⟨gF, 0, none⟩) Fi.length kF, .slice (some ⟨gN, 0, none⟩) Nx.length kN], 24), (be, #[.int .i64 N2, .int .i64 M2, .int .i64 s2, .slice (some ⟨gG, 0, none⟩) Gi.length kG, .slice (some ⟨gE, 0, none⟩) Ex.length kE], 24), (bm, #[.int .i64 nn2, .int .i64 mm2, .int .i64 0, .slice m1 LF2.length l1, .slice m2 LX2.length l2], 24), (bn, #[.int .i64 nn, .int .i64 mm, .int .i64 0, .slice f3 LF.length g3, .slice f4 LX.length g4], 24)]) O6.out.2.2 (by decide) (by have := HWD.out; have := HDJ.out; have := HObm.out; have := HObn.out; omega) O6.out.2.1 O6.out.1 (fun q hq => by
    have y1 := HWD.out; have y2 := HDJ.out; have y3 := HObm.out; have y4 := HObn.out; have y5 := HObP.out; have y6 := HObQ.out
    simp only [List.mem_cons, List.not_mem_nil, or_false] at hq
    rcases hq with e | e | e | e | e | e | e
    · subst e
      exact .inr ⟨by simp, fun e => by have e : bQ = bm := e; omega⟩
    · subst e
      exact .inr ⟨by simp, fun e => by have e : bP = bm := e; omega⟩
    · subst e
      exact .inr ⟨by simp, fun e => by have e : w.heap.size = bm := e; omega⟩
    · subst e
      exact .inr ⟨by simp, fun e => by have e : bd = bm := e; omega⟩
    · subst e
      exact .inr ⟨by simp, fun e => by have e : be = bm := e; omega⟩
    · subst e; exact .inl rfl
    · subst e
      exact .inr ⟨by simp, fun e => by have e : bn = bm := e; omega⟩))
  clear HS
  have HS := HS2
  clear HS2 O6
  have ZZk := (HS.out.b (bP, #[.int .i64 N, .int .i64 M, .int .i64 st, .slice (some ⟨pF, 0, none⟩) Fi.length jF, .slice (some ⟨pN, 0, none⟩) Nx.length jN], 24) (by simp)).1
  have k0 : w50.cell? ⟨bP, 0, none⟩ = some (.int .i64 N) := cell_of ZZk rfl
  have k1 : w50.cell? ⟨bP, 1, none⟩ = some (.int .i64 M) := cell_of ZZk rfl
  have k2 : w50.cell? ⟨bP, 2, none⟩ = some (.int .i64 st) := cell_of ZZk rfl
  have k3 : w50.cell? ⟨bP, 3, none⟩ = some (.slice (some ⟨pF, 0, none⟩) Fi.length jF) := cell_of ZZk rfl
  have k4 : w50.cell? ⟨bP, 4, none⟩ = some (.slice (some ⟨pN, 0, none⟩) Nx.length jN) := cell_of ZZk rfl
  clear ZZk
  have TC := VM.out w50 (some ⟨pF, 0, none⟩) jF (some ⟨pN, 0, none⟩) jN (HS.out.tw (gF := pF) (kF := jF) (gN := pN) (kN := jN) (Fi := F9) (Nx := N9) (by intro x hx; simp [hx])).1.rd (HS.out.tw (gF := pF) (kF := jF) (gN := pN) (kN := jN) (Fi := F9) (Nx := N9) (by intro x hx; simp [hx])).2.rd
  go_wp2_with fail
  go_at_call 25
  refine TC.mono ?_
  rintro e w51 ⟨m3, l3, m4, l4, rfl, HA⟩
  clear k0 k1 k2 k3 k4
  have HS2 := hide (HS.out.put3 HA.out.2.2.2 (L := [(.slice m3 LF2.length l3, LF2), (.slice m4 LX2.length l4, LX2)]) (fun x hx => by rcases List.mem_cons.1 hx with e | hx; (subst e; exact HA.out.1); (obtain rfl := List.mem_singleton.1 hx; exact HA.out.2.1)) (List.pairwise_cons.2 ⟨fun x hx => by obtain rfl := List.mem_singleton.1 hx; exact HA.out.2.2.1, by simp⟩))
  clear HS
  have HS := HS2
  clear HS2 HA TC
  have R3 := (HS.out.b (bn, #[.int .i64 nn, .int .i64 mm, .int .i64 0, .slice f3 LF.length g3, .slice f4 LX.length g4], 24) (by simp)).1
  have r0 : w51.cell? ⟨bn, 0, none⟩ = some (.int .i64 nn) := cell_of R3 rfl
  have f0z : w51.frozen? ⟨bn, 0, none⟩ = false := fz_of R3
  have r1 : w51.cell? ⟨bn, 1, none⟩ = some (.int .i64 mm) := cell_of R3 rfl
  have f1z : w51.frozen? ⟨bn, 1, none⟩ = false := fz_of R3
  have r2 : w51.cell? ⟨bn, 2, none⟩ = some (.int .i64 0) := cell_of R3 rfl
  have f2z : w51.frozen? ⟨bn, 2, none⟩ = false := fz_of R3
  have r3 : w51.cell? ⟨bn, 3, none⟩ = some (.slice f3 LF.length g3) := cell_of R3 rfl
  have f3z : w51.frozen? ⟨bn, 3, none⟩ = false := fz_of R3
  have r4 : w51.cell? ⟨bn, 4, none⟩ = some (.slice f4 LX.length g4) := cell_of R3 rfl
  have f4z : w51.frozen? ⟨bn, 4, none⟩ = false := fz_of R3
  have O6 := hide (And.intro (set5 w51 bn _ _ _ _ _ (.int .i64 nn2) (.int .i64 mm2) (.int .i64 0) (.slice m3 LF2.length l3) (.slice m4 LX2.length l4) 24 R3) (And.intro (only5 w51 bn (.int .i64 nn2) (.int .i64 mm2) (.int .i64 0) (.slice m3 LF2.length l3) (.slice m4 LX2.length l4)) R3))
  clear R3
  go_upto_region 45 with fail
  obtain ⟨w52, hw3⟩ : ∃ W, ((((w51.setCell ⟨bn, 0, none⟩ (.int .i64 nn2)).setCell ⟨bn, 1, none⟩ (.int .i64 mm2)).setCell ⟨bn, 2, none⟩ (.int .i64 0)).setCell ⟨bn, 3, none⟩ (.slice m3 LF2.length l3)).setCell ⟨bn, 4, none⟩ (.slice m4 LX2.length l4) = W := ⟨_, rfl⟩
  rw [hw3] at O6 ⊢
  clear hw3 r0 f0z r1 f1z r2 f2z r3 f3z r4 f4z
  have HS2 := hide (HS.out.store (b := bn) (Bx' := [(bQ, #[.int .i64 N2, .int .i64 M2, .int .i64 s2, .slice (some ⟨pG, 0, none⟩) Gi.length jG, .slice (some ⟨pE, 0, none⟩) Ex.length jE], 24), (bP, #[.int .i64 N, .int .i64 M, .int .i64 st, .slice (some ⟨pF, 0, none⟩) Fi.length jF, .slice (some ⟨pN, 0, none⟩) Nx.length jN], 24), (w.heap.size, #[.int .i64 N, .int .i64 M, .int .i64 st, .slice aF Fi.length cF, .slice aN Nx.length cN, .int .i64 N2, .int .i64 M2, .int .i64 s2, .slice aG Gi.length cG, .slice aX Ex.length cX, .int .i64 S, .int .i64 T, .slice aW Wd.length cW], 26), (bd, #[.int .i64 N, .int .i64 M, .int .i64 st, .slice (some ⟨gF, 0, none⟩) Fi.length kF, .slice (some ⟨gN, 0, none⟩) Nx.length kN], 24), (be, #[.int .i64 N2, .int .i64 M2, .int .i64 s2, .slice (some ⟨gG, 0, none⟩) Gi.length kG, .slice (some ⟨gE, 0, none⟩) Ex.length kE], 24), (bm, #[.int .i64 nn2, .int .i64 mm2, .int .i64 0, .slice m1 LF2.length l1, .slice m2 LX2.length l2], 24), (bn, #[.int .i64 nn2, .int .i64 mm2, .int .i64 0, .slice m3 LF2.length l3, .slice m4 LX2.length l4], 24)]) O6.out.2.2 (by decide) (by have := HWD.out; have := HDJ.out; have := HObm.out; have := HObn.out; omega) O6.out.2.1 O6.out.1 (fun q hq => by
    have y1 := HWD.out; have y2 := HDJ.out; have y3 := HObm.out; have y4 := HObn.out; have y5 := HObP.out; have y6 := HObQ.out
    simp only [List.mem_cons, List.not_mem_nil, or_false] at hq
    rcases hq with e | e | e | e | e | e | e
    · subst e
      exact .inr ⟨by simp, fun e => by have e : bQ = bn := e; omega⟩
    · subst e
      exact .inr ⟨by simp, fun e => by have e : bP = bn := e; omega⟩
    · subst e
      exact .inr ⟨by simp, fun e => by have e : w.heap.size = bn := e; omega⟩
    · subst e
      exact .inr ⟨by simp, fun e => by have e : bd = bn := e; omega⟩
    · subst e
      exact .inr ⟨by simp, fun e => by have e : be = bn := e; omega⟩
    · subst e
      exact .inr ⟨by simp, fun e => by have e : bm = bn := e; omega⟩
    · subst e; exact .inl rfl))
  clear HS
  have HS := HS2
  clear HS2 O6
  have ZZk := (HS.out.b (bd, #[.int .i64 N, .int .i64 M, .int .i64 st, .slice (some ⟨gF, 0, none⟩) Fi.length kF, .slice (some ⟨gN, 0, none⟩) Nx.length kN], 24) (by simp)).1
  have k0 : w52.cell? ⟨bd, 0, none⟩ = some (.int .i64 N) := cell_of ZZk rfl
  have k1 : w52.cell? ⟨bd, 1, none⟩ = some (.int .i64 M) := cell_of ZZk rfl
  have k2 : w52.cell? ⟨bd, 2, none⟩ = some (.int .i64 st) := cell_of ZZk rfl
  have k3 : w52.cell? ⟨bd, 3, none⟩ = some (.slice (some ⟨gF, 0, none⟩) Fi.length kF) := cell_of ZZk rfl
  have k4 : w52.cell? ⟨bd, 4, none⟩ = some (.slice (some ⟨gN, 0, none⟩) Nx.length kN) := cell_of ZZk rfl
  clear ZZk
  have ZZx := (HS.out.b (be, #[.int .i64 N2, .int .i64 M2, .int .i64 s2, .slice (some ⟨gG, 0, none⟩) Gi.length kG, .slice (some ⟨gE, 0, none⟩) Ex.length kE], 24) (by simp)).1
  have x0 : w52.cell? ⟨be, 0, none⟩ = some (.int .i64 N2) := cell_of ZZx rfl
  have x1 : w52.cell? ⟨be, 1, none⟩ = some (.int .i64 M2) := cell_of ZZx rfl
  have x2 : w52.cell? ⟨be, 2, none⟩ = some (.int .i64 s2) := cell_of ZZx rfl
  have x3 : w52.cell? ⟨be, 3, none⟩ = some (.slice (some ⟨gG, 0, none⟩) Gi.length kG) := cell_of ZZx rfl
  have x4 : w52.cell? ⟨be, 4, none⟩ = some (.slice (some ⟨gE, 0, none⟩) Ex.length kE) := cell_of ZZx rfl
  clear ZZx
  have TC := UQ.out w52 (some ⟨gF, 0, none⟩) kF (some ⟨gN, 0, none⟩) kN (some ⟨gG, 0, none⟩) kG (some ⟨gE, 0, none⟩) kE (HS.out.tw (gF := gF) (kF := kF) (gN := gN) (kN := kN) (Fi := F9) (Nx := N9) (by intro x hx; simp [hx])).1.rd (HS.out.tw (gF := gF) (kF := kF) (gN := gN) (kN := kN) (Fi := F9) (Nx := N9) (by intro x hx; simp [hx])).2.rd (HS.out.tw (gF := gG) (kF := kG) (gN := gE) (kN := kE) (Fi := G9) (Nx := X9) (by intro x hx; simp [hx])).1.rd (HS.out.tw (gF := gG) (kF := kG) (gN := gE) (kN := kE) (Fi := G9) (Nx := X9) (by intro x hx; simp [hx])).2.rd
  go_upto_region 46 with (go_at_call 18; refine TC.mono ?_; rintro e w53 ⟨r1, o1, c1, rfl, HA⟩; clear k0 k1 k2 k3 k4 x0 x1 x2 x3 x4)
  have HS2 := hide (HS.out.put3 HA.out.2.1 (L := [(.slice r1 o1 c1, LU2)]) (fun x hx => by obtain rfl := List.mem_singleton.1 hx; exact HA.out.1) (by simp))
  clear HS
  have HS := HS2
  have HLLU2 := hide HA.out.2.2
  clear HS2 HA TC
  have ZZk := (HS.out.b (bP, #[.int .i64 N, .int .i64 M, .int .i64 st, .slice (some ⟨pF, 0, none⟩) Fi.length jF, .slice (some ⟨pN, 0, none⟩) Nx.length jN], 24) (by simp)).1
  have k0 : w53.cell? ⟨bP, 0, none⟩ = some (.int .i64 N) := cell_of ZZk rfl
  have k1 : w53.cell? ⟨bP, 1, none⟩ = some (.int .i64 M) := cell_of ZZk rfl
  have k2 : w53.cell? ⟨bP, 2, none⟩ = some (.int .i64 st) := cell_of ZZk rfl
  have k3 : w53.cell? ⟨bP, 3, none⟩ = some (.slice (some ⟨pF, 0, none⟩) Fi.length jF) := cell_of ZZk rfl
  have k4 : w53.cell? ⟨bP, 4, none⟩ = some (.slice (some ⟨pN, 0, none⟩) Nx.length jN) := cell_of ZZk rfl
  clear ZZk
  have ZZx := (HS.out.b (bQ, #[.int .i64 N2, .int .i64 M2, .int .i64 s2, .slice (some ⟨pG, 0, none⟩) Gi.length jG, .slice (some ⟨pE, 0, none⟩) Ex.length jE], 24) (by simp)).1
  have x0 : w53.cell? ⟨bQ, 0, none⟩ = some (.int .i64 N2) := cell_of ZZx rfl
  have x1 : w53.cell? ⟨bQ, 1, none⟩ = some (.int .i64 M2) := cell_of ZZx rfl
  have x2 : w53.cell? ⟨bQ, 2, none⟩ = some (.int .i64 s2) := cell_of ZZx rfl
  have x3 : w53.cell? ⟨bQ, 3, none⟩ = some (.slice (some ⟨pG, 0, none⟩) Gi.length jG) := cell_of ZZx rfl
  have x4 : w53.cell? ⟨bQ, 4, none⟩ = some (.slice (some ⟨pE, 0, none⟩) Ex.length jE) := cell_of ZZx rfl
  clear ZZx
  have TC := VQ.out w53 (some ⟨pF, 0, none⟩) jF (some ⟨pN, 0, none⟩) jN (some ⟨pG, 0, none⟩) jG (some ⟨pE, 0, none⟩) jE (HS.out.tw (gF := pF) (kF := jF) (gN := pN) (kN := jN) (Fi := F9) (Nx := N9) (by intro x hx; simp [hx])).1.rd (HS.out.tw (gF := pF) (kF := jF) (gN := pN) (kN := jN) (Fi := F9) (Nx := N9) (by intro x hx; simp [hx])).2.rd (HS.out.tw (gF := pG) (kF := jG) (gN := pE) (kN := jE) (Fi := G9) (Nx := X9) (by intro x hx; simp [hx])).1.rd (HS.out.tw (gF := pG) (kF := jG) (gN := pE) (kN := jE) (Fi := G9) (Nx := X9) (by intro x hx; simp [hx])).2.rd
  go_upto_region 47 with (go_at_call 26; refine TC.mono ?_; rintro e w54 ⟨r2, o2, c2, rfl, HA⟩; clear k0 k1 k2 k3 k4 x0 x1 x2 x3 x4)
  have HS2 := hide (HS.out.put3 HA.out.2 (L := [(.slice r2 o2 c2, LU2)]) (fun x hx => by obtain rfl := List.mem_singleton.1 hx; exact HA.out.1) (by simp))
  clear HS
  have HS := HS2
  clear HS2 HA TC
  have hi1 : (EC2 == EC2) = true := by simp
  have hi2 : (EU2 == EU2) = true := by simp
  have hi3 : (bb2 == bb2) = true := by simp
  have hi4 : (ET2 == ET2) = true := by simp
  have hi5 : (EW2 == EW2) = true := by simp
  have ZZk := (HS.out.b (bm, #[.int .i64 nn2, .int .i64 mm2, .int .i64 0, .slice m1 LF2.length l1, .slice m2 LX2.length l2], 24) (by simp)).1
  have k0 : w54.cell? ⟨bm, 0, none⟩ = some (.int .i64 nn2) := cell_of ZZk rfl
  have k1 : w54.cell? ⟨bm, 1, none⟩ = some (.int .i64 mm2) := cell_of ZZk rfl
  have k2 : w54.cell? ⟨bm, 2, none⟩ = some (.int .i64 0) := cell_of ZZk rfl
  have k3 : w54.cell? ⟨bm, 3, none⟩ = some (.slice m1 LF2.length l1) := cell_of ZZk rfl
  have k4 : w54.cell? ⟨bm, 4, none⟩ = some (.slice m2 LX2.length l2) := cell_of ZZk rfl
  clear ZZk
  have ZZx := (HS.out.b (bn, #[.int .i64 nn2, .int .i64 mm2, .int .i64 0, .slice m3 LF2.length l3, .slice m4 LX2.length l4], 24) (by simp)).1
  have x0 : w54.cell? ⟨bn, 0, none⟩ = some (.int .i64 nn2) := cell_of ZZx rfl
  have x1 : w54.cell? ⟨bn, 1, none⟩ = some (.int .i64 mm2) := cell_of ZZx rfl
  have x2 : w54.cell? ⟨bn, 2, none⟩ = some (.int .i64 0) := cell_of ZZx rfl
  have x3 : w54.cell? ⟨bn, 3, none⟩ = some (.slice m3 LF2.length l3) := cell_of ZZx rfl
  have x4 : w54.cell? ⟨bn, 4, none⟩ = some (.slice m4 LX2.length l4) := cell_of ZZx rfl
  clear ZZx
  have TC := same_any w54 nn2 mm2 0 nn2 mm2 0 m1 m2 m3 m4 LF2.length l1 LX2.length l2 LF2.length l3 LX2.length l4 LF2 LX2 LF2 LX2 (owI_rd (HS.out.e (.slice m1 LF2.length l1, LF2) (by simp))).2 (owI_rd (HS.out.e (.slice m2 LX2.length l2, LX2) (by simp))).2 (owI_rd (HS.out.e (.slice m3 LF2.length l3, LF2) (by simp))).2 (owI_rd (HS.out.e (.slice m4 LX2.length l4, LX2) (by simp))).2 rfl rfl rfl rfl (Nat.le_trans HBN2.out.2.2.2.1 (by decide)) (Nat.le_trans HBN2.out.2.2.2.2 (by decide)) (Nat.le_trans HBN2.out.2.2.2.1 (by decide)) (Nat.le_trans HBN2.out.2.2.2.2 (by decide))
  rw [decide_eq_true ⟨rfl, rfl, rfl, rfl, rfl⟩] at TC
  go_wp2_with fail
  go_at_call 19
  refine TC.mono ?_
  rintro e w55 ⟨rfl, DC⟩
  have HS2 := hide (HS.out.on DC)
  clear DC HS
  have HS := HS2
  clear HS2 TC k0 k1 k2 k3 k4 x0 x1 x2 x3 x4
  have TC := sameInts_any w55 r1 r2 o1 c1 o2 c2 LU2 LU2 (owI_rd (HS.out.e (.slice r1 o1 c1, LU2) (by simp))).2 (owI_rd (HS.out.e (.slice r2 o2 c2, LU2) (by simp))).2 (owI_rd (HS.out.e (.slice r1 o1 c1, LU2) (by simp))).1.symm (owI_rd (HS.out.e (.slice r2 o2 c2, LU2) (by simp))).1.symm (by rw [(owI_rd (HS.out.e (.slice r1 o1 c1, LU2) (by simp))).1]; exact Nat.le_trans HLLU2.out (by decide)) (by rw [(owI_rd (HS.out.e (.slice r2 o2 c2, LU2) (by simp))).1]; exact Nat.le_trans HLLU2.out (by decide))
  rw [decide_eq_true rfl] at TC
  go_wp2_with fail
  go_at_call 21
  refine TC.mono ?_
  rintro e w56 ⟨rfl, DC⟩
  have HS2 := hide (HS.out.on DC)
  clear DC HS
  have HS := HS2
  clear HS2 TC 
  go_upto_region 49 with fail
  have ZZk := (HS.out.b (bd, #[.int .i64 N, .int .i64 M, .int .i64 st, .slice (some ⟨gF, 0, none⟩) Fi.length kF, .slice (some ⟨gN, 0, none⟩) Nx.length kN], 24) (by simp)).1
  have k0 : w56.cell? ⟨bd, 0, none⟩ = some (.int .i64 N) := cell_of ZZk rfl
  have k1 : w56.cell? ⟨bd, 1, none⟩ = some (.int .i64 M) := cell_of ZZk rfl
  have k2 : w56.cell? ⟨bd, 2, none⟩ = some (.int .i64 st) := cell_of ZZk rfl
  have k3 : w56.cell? ⟨bd, 3, none⟩ = some (.slice (some ⟨gF, 0, none⟩) Fi.length kF) := cell_of ZZk rfl
  have k4 : w56.cell? ⟨bd, 4, none⟩ = some (.slice (some ⟨gN, 0, none⟩) Nx.length kN) := cell_of ZZk rfl
  clear ZZk
  have TC := UC.out w56 (some ⟨gF, 0, none⟩) kF (some ⟨gN, 0, none⟩) kN (HS.out.tw (gF := gF) (kF := kF) (gN := gN) (kN := kN) (Fi := F9) (Nx := N9) (by intro x hx; simp [hx])).1.rd (HS.out.tw (gF := gF) (kF := kF) (gN := gN) (kN := kN) (Fi := F9) (Nx := N9) (by intro x hx; simp [hx])).2.rd
  go_upto_region 50 with (go_at_call 14; refine TC.mono ?_; rintro e w57 ⟨a1, n1, d1, rfl, HA⟩; clear k0 k1 k2 k3 k4)
  have HS2 := hide (HS.out.put3 HA.out.2 (L := [(.slice a1 n1 d1, LC2)]) (fun x hx => by obtain rfl := List.mem_singleton.1 hx; exact HA.out.1) (by simp))
  clear HS
  have HS := HS2
  clear HS2 HA TC
  have ZZk := (HS.out.b (bP, #[.int .i64 N, .int .i64 M, .int .i64 st, .slice (some ⟨pF, 0, none⟩) Fi.length jF, .slice (some ⟨pN, 0, none⟩) Nx.length jN], 24) (by simp)).1
  have k0 : w57.cell? ⟨bP, 0, none⟩ = some (.int .i64 N) := cell_of ZZk rfl
  have k1 : w57.cell? ⟨bP, 1, none⟩ = some (.int .i64 M) := cell_of ZZk rfl
  have k2 : w57.cell? ⟨bP, 2, none⟩ = some (.int .i64 st) := cell_of ZZk rfl
  have k3 : w57.cell? ⟨bP, 3, none⟩ = some (.slice (some ⟨pF, 0, none⟩) Fi.length jF) := cell_of ZZk rfl
  have k4 : w57.cell? ⟨bP, 4, none⟩ = some (.slice (some ⟨pN, 0, none⟩) Nx.length jN) := cell_of ZZk rfl
  clear ZZk
  have TC := VC.out w57 (some ⟨pF, 0, none⟩) jF (some ⟨pN, 0, none⟩) jN (HS.out.tw (gF := pF) (kF := jF) (gN := pN) (kN := jN) (Fi := F9) (Nx := N9) (by intro x hx; simp [hx])).1.rd (HS.out.tw (gF := pF) (kF := jF) (gN := pN) (kN := jN) (Fi := F9) (Nx := N9) (by intro x hx; simp [hx])).2.rd
  go_upto_region 51 with (go_at_call 20; refine TC.mono ?_; rintro e w58 ⟨a2, n2, d2, rfl, HA⟩; clear k0 k1 k2 k3 k4)
  have HS2 := hide (HS.out.put3 HA.out.2 (L := [(.slice a2 n2 d2, LC2)]) (fun x hx => by obtain rfl := List.mem_singleton.1 hx; exact HA.out.1) (by simp))
  clear HS
  have HS := HS2
  clear HS2 HA TC
  have ZZk := (HS.out.b (bd, #[.int .i64 N, .int .i64 M, .int .i64 st, .slice (some ⟨gF, 0, none⟩) Fi.length kF, .slice (some ⟨gN, 0, none⟩) Nx.length kN], 24) (by simp)).1
  have k0 : w58.cell? ⟨bd, 0, none⟩ = some (.int .i64 N) := cell_of ZZk rfl
  have k1 : w58.cell? ⟨bd, 1, none⟩ = some (.int .i64 M) := cell_of ZZk rfl
  have k2 : w58.cell? ⟨bd, 2, none⟩ = some (.int .i64 st) := cell_of ZZk rfl
  have k3 : w58.cell? ⟨bd, 3, none⟩ = some (.slice (some ⟨gF, 0, none⟩) Fi.length kF) := cell_of ZZk rfl
  have k4 : w58.cell? ⟨bd, 4, none⟩ = some (.slice (some ⟨gN, 0, none⟩) Nx.length kN) := cell_of ZZk rfl
  clear ZZk
  have ZZx := (HS.out.b (w.heap.size, #[.int .i64 N, .int .i64 M, .int .i64 st, .slice aF Fi.length cF, .slice aN Nx.length cN, .int .i64 N2, .int .i64 M2, .int .i64 s2, .slice aG Gi.length cG, .slice aX Ex.length cX, .int .i64 S, .int .i64 T, .slice aW Wd.length cW], 26) (by simp)).1
  have x10 : w58.cell? ⟨w.heap.size, 10, none⟩ = some (.int .i64 S) := cell_of ZZx rfl
  have x11 : w58.cell? ⟨w.heap.size, 11, none⟩ = some (.int .i64 T) := cell_of ZZx rfl
  clear ZZx
  have TC := UT.out w58 (some ⟨gF, 0, none⟩) kF (some ⟨gN, 0, none⟩) kN (HS.out.tw (gF := gF) (kF := kF) (gN := gN) (kN := kN) (Fi := F9) (Nx := N9) (by intro x hx; simp [hx])).1.rd (HS.out.tw (gF := gF) (kF := kF) (gN := gN) (kN := kN) (Fi := F9) (Nx := N9) (by intro x hx; simp [hx])).2.rd
  go_upto_region 52 with (go_at_call 15; refine TC.mono ?_; rintro e w59 ⟨a3, n3, d3, rfl, HA⟩; clear k0 k1 k2 k3 k4 x10 x11)
  have HS2 := hide (HS.out.put3 HA.out.2.1 (L := [(.slice a3 n3 d3, LT2)]) (fun x hx => by obtain rfl := List.mem_singleton.1 hx; exact HA.out.1) (by simp))
  clear HS
  have HS := HS2
  have HLLT2 := hide HA.out.2.2
  clear HS2 HA TC
  have ZZk := (HS.out.b (bP, #[.int .i64 N, .int .i64 M, .int .i64 st, .slice (some ⟨pF, 0, none⟩) Fi.length jF, .slice (some ⟨pN, 0, none⟩) Nx.length jN], 24) (by simp)).1
  have k0 : w59.cell? ⟨bP, 0, none⟩ = some (.int .i64 N) := cell_of ZZk rfl
  have k1 : w59.cell? ⟨bP, 1, none⟩ = some (.int .i64 M) := cell_of ZZk rfl
  have k2 : w59.cell? ⟨bP, 2, none⟩ = some (.int .i64 st) := cell_of ZZk rfl
  have k3 : w59.cell? ⟨bP, 3, none⟩ = some (.slice (some ⟨pF, 0, none⟩) Fi.length jF) := cell_of ZZk rfl
  have k4 : w59.cell? ⟨bP, 4, none⟩ = some (.slice (some ⟨pN, 0, none⟩) Nx.length jN) := cell_of ZZk rfl
  clear ZZk
  have ZZx := (HS.out.b (w.heap.size, #[.int .i64 N, .int .i64 M, .int .i64 st, .slice aF Fi.length cF, .slice aN Nx.length cN, .int .i64 N2, .int .i64 M2, .int .i64 s2, .slice aG Gi.length cG, .slice aX Ex.length cX, .int .i64 S, .int .i64 T, .slice aW Wd.length cW], 26) (by simp)).1
  have x10 : w59.cell? ⟨w.heap.size, 10, none⟩ = some (.int .i64 S) := cell_of ZZx rfl
  have x11 : w59.cell? ⟨w.heap.size, 11, none⟩ = some (.int .i64 T) := cell_of ZZx rfl
  clear ZZx
  have TC := VT.out w59 (some ⟨pF, 0, none⟩) jF (some ⟨pN, 0, none⟩) jN (HS.out.tw (gF := pF) (kF := jF) (gN := pN) (kN := jN) (Fi := F9) (Nx := N9) (by intro x hx; simp [hx])).1.rd (HS.out.tw (gF := pF) (kF := jF) (gN := pN) (kN := jN) (Fi := F9) (Nx := N9) (by intro x hx; simp [hx])).2.rd
  go_upto_region 53 with (go_at_call 22; refine TC.mono ?_; rintro e w60 ⟨a4, n4, d4, rfl, HA⟩; clear k0 k1 k2 k3 k4 x10 x11)
  have HS2 := hide (HS.out.put3 HA.out.2 (L := [(.slice a4 n4 d4, LT2)]) (fun x hx => by obtain rfl := List.mem_singleton.1 hx; exact HA.out.1) (by simp))
  clear HS
  have HS := HS2
  clear HS2 HA TC
  have ZZk := (HS.out.b (bd, #[.int .i64 N, .int .i64 M, .int .i64 st, .slice (some ⟨gF, 0, none⟩) Fi.length kF, .slice (some ⟨gN, 0, none⟩) Nx.length kN], 24) (by simp)).1
  have k0 : w60.cell? ⟨bd, 0, none⟩ = some (.int .i64 N) := cell_of ZZk rfl
  have k1 : w60.cell? ⟨bd, 1, none⟩ = some (.int .i64 M) := cell_of ZZk rfl
  have k2 : w60.cell? ⟨bd, 2, none⟩ = some (.int .i64 st) := cell_of ZZk rfl
  have k3 : w60.cell? ⟨bd, 3, none⟩ = some (.slice (some ⟨gF, 0, none⟩) Fi.length kF) := cell_of ZZk rfl
  have k4 : w60.cell? ⟨bd, 4, none⟩ = some (.slice (some ⟨gN, 0, none⟩) Nx.length kN) := cell_of ZZk rfl
  clear ZZk
  have TC := UW.out w60 (some ⟨gF, 0, none⟩) kF (some ⟨gN, 0, none⟩) kN (HS.out.tw (gF := gF) (kF := kF) (gN := gN) (kN := kN) (Fi := F9) (Nx := N9) (by intro x hx; simp [hx])).1.rd (HS.out.tw (gF := gF) (kF := kF) (gN := gN) (kN := kN) (Fi := F9) (Nx := N9) (by intro x hx; simp [hx])).2.rd
  go_upto_region 54 with (go_at_call 10; refine TC.mono ?_; rintro e w61 ⟨a5, d5, rfl, HA⟩; clear k0 k1 k2 k3 k4)
  obtain ⟨vz, z1, hlvz, z3, z4⟩ := zip_own HA.out.1
  have HS2 := hide ((HS.out.put3 HA.out.2 (L := vz.zip LW2) z3 z4).rows (owns_down z1 HS.out.d.size))
  clear HS
  have HS := HS2
  have HVvz := hide hlvz
  clear HS2 HA TC z1 z3 z4 hlvz
  have ZZk := (HS.out.b (bP, #[.int .i64 N, .int .i64 M, .int .i64 st, .slice (some ⟨pF, 0, none⟩) Fi.length jF, .slice (some ⟨pN, 0, none⟩) Nx.length jN], 24) (by simp)).1
  have k0 : w61.cell? ⟨bP, 0, none⟩ = some (.int .i64 N) := cell_of ZZk rfl
  have k1 : w61.cell? ⟨bP, 1, none⟩ = some (.int .i64 M) := cell_of ZZk rfl
  have k2 : w61.cell? ⟨bP, 2, none⟩ = some (.int .i64 st) := cell_of ZZk rfl
  have k3 : w61.cell? ⟨bP, 3, none⟩ = some (.slice (some ⟨pF, 0, none⟩) Fi.length jF) := cell_of ZZk rfl
  have k4 : w61.cell? ⟨bP, 4, none⟩ = some (.slice (some ⟨pN, 0, none⟩) Nx.length jN) := cell_of ZZk rfl
  clear ZZk
  have TC := VW.out w61 (some ⟨pF, 0, none⟩) jF (some ⟨pN, 0, none⟩) jN (HS.out.tw (gF := pF) (kF := jF) (gN := pN) (kN := jN) (Fi := F9) (Nx := N9) (by intro x hx; simp [hx])).1.rd (HS.out.tw (gF := pF) (kF := jF) (gN := pN) (kN := jN) (Fi := F9) (Nx := N9) (by intro x hx; simp [hx])).2.rd
  go_upto_region 55 with (go_at_call 23; refine TC.mono ?_; rintro e w62 ⟨a6, d6, rfl, HA⟩; clear k0 k1 k2 k3 k4)
  obtain ⟨uz, z1, hluz, z3, z4⟩ := zip_own HA.out.1
  have HS2 := hide ((HS.out.put3 HA.out.2 (L := uz.zip LW2) z3 z4).rows (owns_down z1 HS.out.d.size))
  clear HS
  have HS := HS2
  have HVuz := hide hluz
  clear HS2 HA TC z1 z3 z4 hluz
  have TC := sameInts_any w62 a1 a2 n1 d1 n2 d2 LC2 LC2 (owI_rd (HS.out.e (.slice a1 n1 d1, LC2) (by simp))).2 (owI_rd (HS.out.e (.slice a2 n2 d2, LC2) (by simp))).2 (owI_rd (HS.out.e (.slice a1 n1 d1, LC2) (by simp))).1.symm (owI_rd (HS.out.e (.slice a2 n2 d2, LC2) (by simp))).1.symm (by rw [(owI_rd (HS.out.e (.slice a1 n1 d1, LC2) (by simp))).1]; exact Nat.le_trans HBN2.out.1 (by decide)) (by rw [(owI_rd (HS.out.e (.slice a2 n2 d2, LC2) (by simp))).1]; exact Nat.le_trans HBN2.out.1 (by decide))
  rw [decide_eq_true rfl] at TC
  go_wp2_with fail
  go_at_call 21
  refine TC.mono ?_
  rintro e w63 ⟨rfl, DC⟩
  have HS2 := hide (HS.out.on DC)
  clear DC HS
  have HS := HS2
  clear HS2 TC 
  have TC := sameInts_any w63 a3 a4 n3 d3 n4 d4 LT2 LT2 (owI_rd (HS.out.e (.slice a3 n3 d3, LT2) (by simp))).2 (owI_rd (HS.out.e (.slice a4 n4 d4, LT2) (by simp))).2 (owI_rd (HS.out.e (.slice a3 n3 d3, LT2) (by simp))).1.symm (owI_rd (HS.out.e (.slice a4 n4 d4, LT2) (by simp))).1.symm (by rw [(owI_rd (HS.out.e (.slice a3 n3 d3, LT2) (by simp))).1]; exact Nat.le_trans HLLT2.out (by decide)) (by rw [(owI_rd (HS.out.e (.slice a4 n4 d4, LT2) (by simp))).1]; exact Nat.le_trans HLLT2.out (by decide))
  rw [decide_eq_true rfl] at TC
  go_wp2_with fail
  go_at_call 21
  refine TC.mono ?_
  rintro e w64 ⟨rfl, DC⟩
  have HS2 := hide (HS.out.on DC)
  clear DC HS
  have HS := HS2
  clear HS2 TC 
  have TC := sameWords_yes w64 w.heap.size w.heap.size a5 a6 LW2.length d5 LW2.length d6 LW2 (ws_of HS.out (v := .slice a5 LW2.length d5) (vs := vz) (by simp) HVvz.out (fun x hx => by simp [hx])) (ws_of HS.out (v := .slice a6 LW2.length d6) (vs := uz) (by simp) HVuz.out (fun x hx => by simp [hx])) rfl rfl (Nat.le_trans HBN2.out.2.1 (by decide)) (fun L hL => Nat.le_trans (HBN2.out.2.2.1 L hL) (by decide))
  go_wp2_with fail
  go_at_call 24
  refine TC.mono ?_
  rintro e w65 ⟨rfl, DC⟩
  have HS2 := hide (HS.out.on DC)
  clear DC HS
  have HS := HS2
  clear HS2 TC 
  go_wp2_with fail
  go_ret
  exact ⟨rfl, HS.out.d⟩
/-! ### The law, its middle -/
set_option maxRecDepth 100000 in
set_option maxHeartbeats 16000000 in
theorem exact_mid (w : World)
    (N M st N2 M2 s2 S T : Int)
    (aF aN aG aX aW : Option Addr)
    (cF cN cG cX cW : Nat)
    (Fi Nx Gi Ex Wd LC : List Int)
    (EC : Int)
    (LT : List Int)
    (LW : List (List Int))
    (nn mm : Int)
    (LF LX : List Int)
    (LU : List Int)
    (HBN : Hid (LC.length ≤ 8192 ∧ LW.length ≤ 4096 ∧ (∀ (L : List Int), L ∈ LW → L.length ≤ 8192) ∧ LF.length ≤ 1048576 ∧ LX.length ≤ 1048576))
    (UM : Hid (∀ (W : World) (a : Option Addr) (ka : Nat) (b : Option Addr) (kb : Nat), RdN W a Fi → RdN W b Nx → Calls Try.prog 8 #[Value.agg #[Value.int IntKind.i64 N, Value.int IntKind.i64 M, Value.int IntKind.i64 st, Value.slice a Fi.length ka, Value.slice b Nx.length kb]] W (MnU W nn mm LF LX EC)))
    (HXX : Hid (RdN w aF Fi ∧ RdN w aN Nx ∧ RdN w aG Gi ∧ RdN w aX Ex))
    (HBB : Hid (Fi.length ≤ 1048576 ∧ Nx.length ≤ 1048576 ∧ Gi.length ≤ 1048576 ∧ Ex.length ≤ 1048576))
    (gF kF gN kN bd : Nat)
    (HNED : Hid (gF ≠ gN))
    (HWD : Hid (w.heap.size < bd))
    (gG kG gE kE be : Nat)
    (HNEE : Hid (gG ≠ gE))
    (HDJ : Hid (gF < gG ∧ gF < gE ∧ gN < gG ∧ gN < gE ∧ bd < be))
    (bb1 : Option Addr)
    (nb1 cb1 : Nat)
    (bh : Option Addr)
    (nh ch : Nat)
    (bw : Option Addr)
    (cw : Nat)
    (vs : List Value)
    (bv : Option Addr)
    (cv : Nat)
    (us : List Value)
    (f1 : Option Addr)
    (g1 : Nat)
    (f2 : Option Addr)
    (g2 bm : Nat)
    (HObm : Hid (be < bm))
    (f3 : Option Addr)
    (g3 : Nat)
    (f4 : Option Addr)
    (g4 bn : Nat)
    (HObn : Hid (bm < bn))
    (bt : Option Addr)
    (nt ct : Nat)
    (bp : Option Addr)
    (np cp : Nat)
    (bq : Option Addr)
    (nq9 cq : Nat)
    (HLLT : Hid (LT.length ≤ 8192))
    (bz : Option Addr)
    (cz : Nat)
    (ws : List Value)
    (HVws : Hid (ws.length = LW.length))
    (f5 : Option Addr)
    (g5 : Nat)
    (f6 : Option Addr)
    (g6 bm2 : Nat)
    (by2 : Option Addr)
    (ny cy : Nat)
    (HLLU : Hid (LU.length ≤ 8192))
    (w35 : World)
    (HS : Hid (ExS w w35 [(bm2, #[Value.int IntKind.i64 nn, Value.int IntKind.i64 mm, Value.int IntKind.i64 0, Value.slice f5 LF.length g5, Value.slice f6 LX.length g6], 24), (bn, #[Value.int IntKind.i64 nn, Value.int IntKind.i64 mm, Value.int IntKind.i64 0, Value.slice f3 LF.length g3, Value.slice f4 LX.length g4], 24), (bm, #[Value.int IntKind.i64 nn, Value.int IntKind.i64 mm, Value.int IntKind.i64 0, Value.slice f1 LF.length g1, Value.slice f2 LX.length g2], 24), (be, #[Value.int IntKind.i64 N2, Value.int IntKind.i64 M2, Value.int IntKind.i64 s2, Value.slice (some { block := gG, off := 0 }) Gi.length kG, Value.slice (some { block := gE, off := 0 }) Ex.length kE], 24), (bd, #[Value.int IntKind.i64 N, Value.int IntKind.i64 M, Value.int IntKind.i64 st, Value.slice (some { block := gF, off := 0 }) Fi.length kF, Value.slice (some { block := gN, off := 0 }) Nx.length kN], 24), (w.heap.size, #[Value.int IntKind.i64 N, Value.int IntKind.i64 M, Value.int IntKind.i64 st, Value.slice aF Fi.length cF, Value.slice aN Nx.length cN, Value.int IntKind.i64 N2, Value.int IntKind.i64 M2, Value.int IntKind.i64 s2, Value.slice aG Gi.length cG, Value.slice aX Ex.length cX, Value.int IntKind.i64 S, Value.int IntKind.i64 T, Value.slice aW Wd.length cW], 26)] ([(Value.slice by2 ny cy, LU)] ++ ([(Value.slice f5 LF.length g5, LF), (Value.slice f6 LX.length g6, LX)] ++ (ws.zip LW ++ ([(Value.slice bq nq9 cq, LT)] ++ ([(Value.slice bp np cp, LC)] ++ []))))) [] ([(Value.slice bt nt ct, LU)] ++ ([(Value.slice f3 LF.length g3, LF), (Value.slice f4 LX.length g4, LX)] ++ (us.zip LW ++ ([(Value.slice bh nh ch, LT)] ++ ([(Value.slice bb1 nb1 cb1, LC)] ++ (twE gG kG gE kE Gi Ex ++ (twE gF kF gN kN Fi Nx ++ []))))))) [(Value.slice bz LW.length cz, ws), (Value.slice bv LW.length cv, us), (Value.slice bw LW.length cw, vs)]))
    (q0 q5 q6 q7 q8 q9 q10 q11 q12 q15 q16 q17 q18 q20 q22 q24 q26 q27 q29 q30 q31 q32 q33 q34 q35 q36 q37 q38 q39 q40 q41 q42 q43 q44 q45 q46 q47 q48 q49 q50 q51 q52 q53 q54 q55 q56 q57 q58 q59 q60 q61 q62 q63 q64 q65 q66 q67 q68 q69 q70 q71 q72 q73 q74 q75 q76 q77 q78 q79 q80 q81 q82 q83 q84 q85 q86 q87 q88 q89 q90 q91 q92 q93 q94 q95 q96 q97 q98 q99 q100 q101 q102 q103 q104 q105 q106 q107 q108 q109 q110 q111 q112 q113 q114 q115 q116 q117 q118 q119 q120 q121 q122 q123 q124 q125 q126 q127 q128 q129 q130 q131 q132 q133 q134 q135 q136 q137 q138 q139 q140 q141 q142 q143 q144 q145 q146 q147 q148 q149 q150 q151 q152 q153 q154 q155 q156 q157 q158 q159 q160 q161 q162 q163 q164 q165 q166 q167 q168 q169 q170 q171 q172 q173 q174 q175 q176 q177 q178 q179 q180 q181 q182 q183 q184 q185 q186 q187 q188 q189 q190 q191 q192 q193 q194 q195 q196 q197 q198 q199 q200 q201 q202 q203 q204 q205 q206 q207 q208 q209 q210 q211 q212 q213 q214 q215 q216 q217 q218 q219 q220 q221 q222 q223 q224 q225 q226 q227 q228 q229 q230 q231 q232 q233 q234 q235 q236 q237 q238 q239 q240 q241 q242 q243 q244 q245 q246 q247 q248 q249 q250 q251 q252 q253 q254 q255 q256 q257 q258 q259 q260 q261 q262 q263 q264 q265 q266 q267 q268 q269 q270 q271 q272 q273 q274 q275 q276 q277 q278 q279 q280 q281 q282 q283 q284 q285 q286 q287 q288 q289 q290 q291 q292 q293 q294 q295 q296 q297 q298 q299 q300 q301 q302 q303 q304 q305 q306 q307 q308 q309 q310 q311 q312 q313 q314 q315 q316 q317 q318 q319 q320 q321 q322 q323 q324 q325 q326 q327 q328 q329 q330 q331 q332 q333 q334 q335 q336 q337 q338 q339 q340 q341 q342 q343 q344 q345 q346 q347 q348 q349 q350 q351 q352 q353 q354 q355 q356 q357 q358 q359 q360 q361 q362 q363 q364 q365 q366 q367 q368 q369 q370 q371 q372 q373 q374 q375 q376 q377 q378 q379 q380 q381 q382 q383 q384 q385 q386 q387 q388 q389 q390 q391 q392 q393 q394 q395 q396 q397 q398 q399 q400 q401 q402 q403 q404 q405 q406 q407 q408 q409 q410 q411 q412 q413 : Value) (K9 : Act → World → Prop) (hK9 : ∀ a w', Code.wp Try.prog (tlR 35 cd6) (bodyPost Try.prog Try.f6 fun e w' => e = .returned (.bool true) ∧ Below w.heap.size w w') a w' → K9 a w') :
    Code.wp Try.prog (hdR 35 cd6) (Exit.then K9 (bodyPost Try.prog Try.f6 fun e w' => e = .returned (.bool true) ∧ Below w.heap.size w w')) ⟨List.toArray (q0 :: Value.pointer (some { block := w.heap.size, off := 0 }) :: Value.bool false :: Value.pointer (some { block := bd, off := 0 }) :: Value.pointer (some { block := be, off := 0 }) :: q5 :: q6 :: q7 :: q8 :: q9 :: q10 :: q11 :: q12 :: Value.pointer (some { block := bm, off := 0 }) :: Value.pointer (some { block := bn, off := 0 }) :: q15 :: q16 :: q17 :: q18 :: Value.slice bp np cp :: q20 :: Value.slice bq nq9 cq :: q22 :: Value.slice bz LW.length cz :: q24 :: Value.pointer (some { block := bm2, off := 0 }) :: q26 :: q27 :: Value.slice by2 ny cy :: q29 :: q30 :: q31 :: q32 :: q33 :: q34 :: q35 :: q36 :: q37 :: q38 :: q39 :: q40 :: q41 :: q42 :: q43 :: q44 :: q45 :: q46 :: q47 :: q48 :: q49 :: q50 :: q51 :: q52 :: q53 :: q54 :: q55 :: q56 :: q57 :: q58 :: q59 :: q60 :: q61 :: q62 :: q63 :: q64 :: q65 :: q66 :: q67 :: q68 :: q69 :: q70 :: q71 :: q72 :: q73 :: q74 :: q75 :: q76 :: q77 :: q78 :: q79 :: q80 :: q81 :: q82 :: q83 :: q84 :: q85 :: q86 :: q87 :: q88 :: q89 :: q90 :: q91 :: q92 :: q93 :: q94 :: q95 :: q96 :: q97 :: q98 :: q99 :: q100 :: q101 :: q102 :: q103 :: q104 :: q105 :: q106 :: q107 :: q108 :: q109 :: q110 :: q111 :: q112 :: q113 :: q114 :: q115 :: q116 :: q117 :: q118 :: q119 :: q120 :: q121 :: q122 :: q123 :: q124 :: q125 :: q126 :: q127 :: q128 :: q129 :: q130 :: q131 :: q132 :: q133 :: q134 :: q135 :: q136 :: q137 :: q138 :: q139 :: q140 :: q141 :: q142 :: q143 :: q144 :: q145 :: q146 :: q147 :: q148 :: q149 :: q150 :: q151 :: q152 :: q153 :: q154 :: q155 :: q156 :: q157 :: q158 :: q159 :: q160 :: q161 :: q162 :: q163 :: q164 :: q165 :: q166 :: q167 :: q168 :: q169 :: q170 :: q171 :: q172 :: q173 :: q174 :: q175 :: q176 :: q177 :: q178 :: q179 :: q180 :: q181 :: q182 :: q183 :: q184 :: q185 :: q186 :: q187 :: q188 :: q189 :: q190 :: q191 :: q192 :: q193 :: q194 :: q195 :: q196 :: q197 :: q198 :: q199 :: q200 :: q201 :: q202 :: q203 :: q204 :: q205 :: q206 :: q207 :: q208 :: q209 :: q210 :: q211 :: q212 :: q213 :: q214 :: q215 :: q216 :: q217 :: q218 :: q219 :: q220 :: q221 :: q222 :: q223 :: q224 :: q225 :: q226 :: q227 :: q228 :: q229 :: q230 :: q231 :: q232 :: q233 :: q234 :: q235 :: q236 :: q237 :: q238 :: q239 :: q240 :: q241 :: q242 :: q243 :: q244 :: q245 :: q246 :: q247 :: q248 :: q249 :: q250 :: q251 :: q252 :: q253 :: q254 :: q255 :: q256 :: q257 :: q258 :: q259 :: q260 :: q261 :: q262 :: q263 :: q264 :: q265 :: q266 :: q267 :: q268 :: q269 :: q270 :: q271 :: q272 :: q273 :: q274 :: q275 :: q276 :: q277 :: q278 :: q279 :: q280 :: q281 :: q282 :: q283 :: q284 :: q285 :: q286 :: q287 :: q288 :: q289 :: q290 :: q291 :: q292 :: q293 :: q294 :: q295 :: q296 :: q297 :: q298 :: q299 :: q300 :: q301 :: q302 :: q303 :: q304 :: q305 :: q306 :: q307 :: q308 :: q309 :: q310 :: q311 :: q312 :: q313 :: q314 :: q315 :: q316 :: q317 :: q318 :: q319 :: q320 :: q321 :: q322 :: q323 :: q324 :: q325 :: q326 :: q327 :: q328 :: q329 :: q330 :: q331 :: q332 :: q333 :: q334 :: q335 :: q336 :: q337 :: q338 :: q339 :: q340 :: q341 :: q342 :: q343 :: q344 :: q345 :: q346 :: q347 :: q348 :: q349 :: q350 :: q351 :: q352 :: q353 :: q354 :: q355 :: q356 :: q357 :: q358 :: q359 :: q360 :: q361 :: q362 :: q363 :: q364 :: q365 :: q366 :: q367 :: q368 :: q369 :: q370 :: q371 :: q372 :: q373 :: q374 :: q375 :: q376 :: q377 :: q378 :: q379 :: q380 :: q381 :: q382 :: q383 :: q384 :: q385 :: q386 :: q387 :: q388 :: q389 :: q390 :: q391 :: q392 :: q393 :: q394 :: q395 :: q396 :: q397 :: q398 :: q399 :: q400 :: q401 :: q402 :: q403 :: q404 :: q405 :: q406 :: q407 :: q408 :: q409 :: q410 :: q411 :: q412 :: q413 :: []), []⟩ w35 := by
  conv => arg 2; whnf
  conv at hK9 => intro a w'; arg 1; arg 2; whnf
  have ZZk := (HS.out.b (bm2, #[.int .i64 nn, .int .i64 mm, .int .i64 0, .slice f5 LF.length g5, .slice f6 LX.length g6], 24) (by simp)).1
  have k3 : w35.cell? ⟨bm2, 3, none⟩ = some (.slice f5 LF.length g5) := cell_of ZZk rfl
  have k4 : w35.cell? ⟨bm2, 4, none⟩ = some (.slice f6 LX.length g6) := cell_of ZZk rfl
  clear ZZk
  have HRW := hide (HS.out.v (.slice bz LW.length cz, ws) (by simp))
  obtain ⟨i22, hi22, hz0, hz1, hz2⟩ := info_parts info22
  have HI22 := hide (And.intro hi22 (And.intro hz0 (And.intro hz1 hz2)))
  clear hi22 hz0 hz1 hz2
  have HAL : Hid (∀ W : World, W = w35.alloc (.cells #[.slice bp np cp, .slice bq nq9 cq, .slice f5 LF.length g5, .slice f6 LX.length g6, .slice by2 ny cy] 22) → Below w35.heap.size w35 W ∧ W.ownsRow w35.heap.size 22 1 (.slice (some ⟨w35.heap.size, 0, none⟩) 5 5) 5 [.slice bp np cp, .slice bq nq9 cq, .slice f5 LF.length g5, .slice f6 LX.length g6, .slice by2 ny cy]) := hide (fun W e => by
    subst e
    exact ⟨(Below.refl _ _).alloc (Nat.le_refl _) _, rfl, .inr ⟨_, 5, _, rfl, Nat.le_refl _, World.alloc_heap_new _ _, Nat.le_refl _, by unfold maxLen; omega, rfl, rfl⟩⟩)
  go_cut [30] from 30 to 31 (fun p W => ∃ gL cL, p = .slice (some ⟨gL, 0, none⟩) (5 + LW.length) cL ∧ Hid (Below w35.heap.size w35 W ∧ w35.heap.size ≤ gL ∧ W.ownsRow w35.heap.size 22 1 (.slice (some ⟨gL, 0, none⟩) (5 + LW.length) cL) (5 + LW.length) ([.slice bp np cp, .slice bq nq9 cq, .slice f5 LF.length g5, .slice f6 LX.length g6, .slice by2 ny cy] ++ ws)))
  case first =>
    rcases HRW.out.2 with ⟨e1, e2⟩ | ⟨gw, cap, cur9, e1, e2, e3, e4, e5, e6, e7⟩
    · injection e1 with e1 e4 e5
      have hv0 : ws = [] := List.eq_nil_of_length_eq_zero e2
      have hl0 : LW = [] := List.eq_nil_of_length_eq_zero e4
      subst hl0 bz cz hv0
      clear e4 e2
      go_wp2_with fail
      go_meet
      have z := HAL.out _ rfl
      exact ⟨w35.heap.size, 5, rfl, hide ⟨z.1, Nat.le_refl _, z.2⟩⟩
    · injection e1 with e1 e8 e9
      subst bz
      have HW3 := hide (show ws.length = LW.length ∧ LW.length ≤ 4096 from ⟨HVws.out, HBN.out.2.1⟩)
      have HW4 : Hid (∀ (j : Nat) (u : Value), ws[j]? = some u → w35.cell? ((⟨gw, 0, none⟩ : Addr).add j) = some u) := hide (fun j u hu => by
        have z := HRW.out.cells (g := gw) rfl j u hu
        rw [Addr.add_lit] at z ⊢
        simpa using z)
      have HW5 := hide (zip_one HS.out (vs := ws) (LL := LW) HVws.out (fun x hx => by simp [hx]))
      clear e2 e3 e4 e5 e6 e7 e8 e9
      go_wp2_with (at_builtin; refine wpList_append_own_at _ rfl _ _ _ rfl w35.heap.size 22 i22 _ 1 24 Try.underlying32 HI22.out.1 HI22.out.2.1 HI22.out.2.2.1 HI22.out.2.2.2 rfl (by omega) (.slice (some ⟨w35.heap.size, 0, none⟩) 5 5) 5 [.slice bp np cp, .slice bq nq9 cq, .slice f5 LF.length g5, .slice f6 LX.length g6, .slice by2 ny cy] rfl (HAL.out _ rfl).2 ⟨gw, 0, none⟩ LW.length cz ws rfl (by rw [HW3.out.1, Nat.mul_one]) (fun j u hu => ((HAL.out _ rfl).1.cell (World.block_lt_of_cell? _ _ (HW4.out j u hu))).trans (HW4.out j u hu)) HW5.out (by have := HW3.out.2; unfold maxLen; omega) (by have := HW3.out.2; omega) (by simp) ?_; intro v6 w6 ho hgr hnil hloc; have HO6 := hide (And.intro ho (And.intro hgr hloc)); clear ho hgr hnil hloc)
      go_wp2_with fail
      go_meet
      have z := HAL.out _ rfl
      rcases HO6.out.1.2 with ⟨_, q2⟩ | ⟨g9, cap9, _, q1, q2, _⟩
      · omega
      · subst q1
        refine ⟨g9, cap9, rfl, hide ⟨z.1.trans ((grown_only HO6.out.2.1).toBelow (by simp) (fun k hk => by have hk : some w35.heap.size = some k := hk; injection hk with hk; omega)), q2, ?_⟩⟩
        exact HO6.out.1
  case rest =>
    rename World => w9
    obtain ⟨gL, cL, rfl, HC⟩ := hcut
    have HMP : Hid ((([(.slice bp np cp, LC), (.slice bq nq9 cq, LT), (.slice f5 LF.length g5, LF), (.slice f6 LX.length g6, LX), (.slice by2 ny cy, LU)] : List Ent) ++ ws.zip LW).map Prod.fst = [.slice bp np cp, .slice bq nq9 cq, .slice f5 LF.length g5, .slice f6 LX.length g6, .slice by2 ny cy] ++ ws) := hide (by rw [List.map_append, List.map_fst_zip (by rw [HVws.out]; exact Nat.le_refl _)]; rfl)
    have TC := ov.over_all (A := ([(.slice bp np cp, LC), (.slice bq nq9 cq, LT), (.slice f5 LF.length g5, LF), (.slice f6 LX.length g6, LX), (.slice by2 ny cy, LU)] : List Ent) ++ ws.zip LW) (K := 5 + LW.length) (cL := cL) HS.out perm_all HC.out.1 HC.out.2.1 (by rw [HMP.out]; exact HC.out.2.2) (by rw [List.length_append, List.length_zip, HVws.out, Nat.min_self]; rfl) (by have := HBN.out.2.1; omega) (fun x hx => by
      rcases List.mem_append.1 hx with hx | hx
      · simp only [List.mem_cons, List.not_mem_nil, or_false] at hx
        rcases hx with e | e | e | e | e
        · subst e; exact Nat.le_trans HBN.out.1 (by decide)
        · subst e; exact Nat.le_trans HLLT.out (by decide)
        · subst e; exact Nat.le_trans HBN.out.2.2.2.1 (by decide)
        · subst e; exact Nat.le_trans HBN.out.2.2.2.2 (by decide)
        · subst e; exact Nat.le_trans HLLU.out (by decide)
      · have z := (List.of_mem_zip (a := x.1) (b := x.2) hx).2
        exact Nat.le_trans (HBN.out.2.2.1 x.2 z) (by decide))
    clear HRW HI22 HAL
    go_upto_region 38 with (go_at_call 27; refine TC.mono ?_; rintro e w37 ⟨rfl, DC⟩; have HS2 := hide DC; clear DC)
    clear HS
    have HS := HS2
    clear HS2 TC HC HMP
    have ZZk := (HS.out.b (bd, #[.int .i64 N, .int .i64 M, .int .i64 st, .slice (some ⟨gF, 0, none⟩) Fi.length kF, .slice (some ⟨gN, 0, none⟩) Nx.length kN], 24) (by simp)).1
    have k0 : w37.cell? ⟨bd, 0, none⟩ = some (.int .i64 N) := cell_of ZZk rfl
    have k1 : w37.cell? ⟨bd, 1, none⟩ = some (.int .i64 M) := cell_of ZZk rfl
    have k2 : w37.cell? ⟨bd, 2, none⟩ = some (.int .i64 st) := cell_of ZZk rfl
    have k3 : w37.cell? ⟨bd, 3, none⟩ = some (.slice (some ⟨gF, 0, none⟩) Fi.length kF) := cell_of ZZk rfl
    have k4 : w37.cell? ⟨bd, 4, none⟩ = some (.slice (some ⟨gN, 0, none⟩) Nx.length kN) := cell_of ZZk rfl
    clear ZZk
    have TC := UM.out w37 (some ⟨gF, 0, none⟩) kF (some ⟨gN, 0, none⟩) kN (HS.out.tw (gF := gF) (kF := kF) (gN := gN) (kN := kN) (Fi := Fi) (Nx := Nx) (by intro x hx; simp [hx])).1.rd (HS.out.tw (gF := gF) (kF := kF) (gN := gN) (kN := kN) (Fi := Fi) (Nx := Nx) (by intro x hx; simp [hx])).2.rd
    go_upto_region 39 with (go_at_call 8; refine TC.mono ?_; rintro e w38 ⟨f7, g7, f8, g8, rfl, HA⟩; clear k0 k1 k2 k3 k4)
    obtain ⟨b9, hb9⟩ : ∃ x, w38.heap.size = x := ⟨_, rfl⟩
    obtain ⟨w39, hw3⟩ : ∃ W, w38.alloc (.cells #[.int .i64 nn, .int .i64 mm, .int .i64 0, .slice f7 LF.length g7, .slice f8 LX.length g8] 24) = W := ⟨_, rfl⟩
    rw [hb9, hw3]
    have HOb9 := hide (show bm2 < b9 from by have z1 := (Array.getElem?_eq_some_iff.1 (HS.out.b (bm2, #[.int .i64 nn, .int .i64 mm, .int .i64 0, .slice f5 LF.length g5, .slice f6 LX.length g6], 24) (by simp)).1).1; have z2 := HA.out.2.2.2.size; omega)
    have HS2 := hide (by have z := (HS.out.put1 HA.out.2.2.2 (L := [(.slice f7 LF.length g7, LF), (.slice f8 LX.length g8, LX)]) (fun x hx => by rcases List.mem_cons.1 hx with e | hx; (subst e; exact HA.out.1); (obtain rfl := List.mem_singleton.1 hx; exact HA.out.2.1)) (List.pairwise_cons.2 ⟨fun x hx => by obtain rfl := List.mem_singleton.1 hx; exact HA.out.2.2.1, by simp⟩)).box #[.int .i64 nn, .int .i64 mm, .int .i64 0, .slice f7 LF.length g7, .slice f8 LX.length g8] 24 (by decide); rw [hw3, hb9] at z; exact z)
    clear HS
    have HS := HS2
    clear HS2 HA TC hw3 hb9
    have ZZk := (HS.out.b (b9, #[.int .i64 nn, .int .i64 mm, .int .i64 0, .slice f7 LF.length g7, .slice f8 LX.length g8], 24) (by simp)).1
    have k0 : w39.cell? ⟨b9, 0, none⟩ = some (.int .i64 nn) := cell_of ZZk rfl
    have k1 : w39.cell? ⟨b9, 1, none⟩ = some (.int .i64 mm) := cell_of ZZk rfl
    have k2 : w39.cell? ⟨b9, 2, none⟩ = some (.int .i64 0) := cell_of ZZk rfl
    have k3 : w39.cell? ⟨b9, 3, none⟩ = some (.slice f7 LF.length g7) := cell_of ZZk rfl
    have k4 : w39.cell? ⟨b9, 4, none⟩ = some (.slice f8 LX.length g8) := cell_of ZZk rfl
    clear ZZk
    have ZZx := (HS.out.b (bn, #[.int .i64 nn, .int .i64 mm, .int .i64 0, .slice f3 LF.length g3, .slice f4 LX.length g4], 24) (by simp)).1
    have x0 : w39.cell? ⟨bn, 0, none⟩ = some (.int .i64 nn) := cell_of ZZx rfl
    have x1 : w39.cell? ⟨bn, 1, none⟩ = some (.int .i64 mm) := cell_of ZZx rfl
    have x2 : w39.cell? ⟨bn, 2, none⟩ = some (.int .i64 0) := cell_of ZZx rfl
    have x3 : w39.cell? ⟨bn, 3, none⟩ = some (.slice f3 LF.length g3) := cell_of ZZx rfl
    have x4 : w39.cell? ⟨bn, 4, none⟩ = some (.slice f4 LX.length g4) := cell_of ZZx rfl
    clear ZZx
    have TC := same_any w39 nn mm 0 nn mm 0 f7 f8 f3 f4 LF.length g7 LX.length g8 LF.length g3 LX.length g4 LF LX LF LX (owI_rd (HS.out.e (.slice f7 LF.length g7, LF) (by simp))).2 (owI_rd (HS.out.e (.slice f8 LX.length g8, LX) (by simp))).2 (owI_rd (HS.out.e (.slice f3 LF.length g3, LF) (by simp))).2 (owI_rd (HS.out.e (.slice f4 LX.length g4, LX) (by simp))).2 rfl rfl rfl rfl (Nat.le_trans HBN.out.2.2.2.1 (by decide)) (Nat.le_trans HBN.out.2.2.2.2 (by decide)) (Nat.le_trans HBN.out.2.2.2.1 (by decide)) (Nat.le_trans HBN.out.2.2.2.2 (by decide))
    rw [decide_eq_true ⟨rfl, rfl, rfl, rfl, rfl⟩] at TC
    go_wp2_with fail
    go_at_call 19
    refine TC.mono ?_
    rintro e w40 ⟨rfl, DC⟩
    have HS2 := hide (HS.out.on DC)
    clear DC HS
    have HS := HS2
    clear HS2 TC k0 k1 k2 k3 k4 x0 x1 x2 x3 x4
    have ZZk := (HS.out.b (bd, #[.int .i64 N, .int .i64 M, .int .i64 st, .slice (some ⟨gF, 0, none⟩) Fi.length kF, .slice (some ⟨gN, 0, none⟩) Nx.length kN], 24) (by simp)).1
    have k3 : w40.cell? ⟨bd, 3, none⟩ = some (.slice (some ⟨gF, 0, none⟩) Fi.length kF) := cell_of ZZk rfl
    clear ZZk
    have ZZx := (HS.out.b (w.heap.size, #[.int .i64 N, .int .i64 M, .int .i64 st, .slice aF Fi.length cF, .slice aN Nx.length cN, .int .i64 N2, .int .i64 M2, .int .i64 s2, .slice aG Gi.length cG, .slice aX Ex.length cX, .int .i64 S, .int .i64 T, .slice aW Wd.length cW], 26) (by simp)).1
    have x3 : w40.cell? ⟨w.heap.size, 3, none⟩ = some (.slice aF Fi.length cF) := cell_of ZZx rfl
    clear ZZx
    have TC := intact_yes w40 w.heap.size gF kF aF Fi cF (hide (HS.out.tw (gF := gF) (kF := kF) (gN := gN) (kN := kN) (Fi := Fi) (Nx := Nx) (by intro x hx; simp [hx])).1) (hide (HXX.out.1.on HS.out.d)) (Nat.le_trans HBB.out.1 (by decide))
    go_wp2_with fail
    go_at_call 28
    refine TC.mono ?_
    rintro e w41 ⟨rfl, DC⟩
    have HS2 := hide (HS.out.on DC)
    clear DC HS
    have HS := HS2
    clear HS2 TC k3 x3
    have ZZk := (HS.out.b (bd, #[.int .i64 N, .int .i64 M, .int .i64 st, .slice (some ⟨gF, 0, none⟩) Fi.length kF, .slice (some ⟨gN, 0, none⟩) Nx.length kN], 24) (by simp)).1
    have k4 : w41.cell? ⟨bd, 4, none⟩ = some (.slice (some ⟨gN, 0, none⟩) Nx.length kN) := cell_of ZZk rfl
    clear ZZk
    have ZZx := (HS.out.b (w.heap.size, #[.int .i64 N, .int .i64 M, .int .i64 st, .slice aF Fi.length cF, .slice aN Nx.length cN, .int .i64 N2, .int .i64 M2, .int .i64 s2, .slice aG Gi.length cG, .slice aX Ex.length cX, .int .i64 S, .int .i64 T, .slice aW Wd.length cW], 26) (by simp)).1
    have x4 : w41.cell? ⟨w.heap.size, 4, none⟩ = some (.slice aN Nx.length cN) := cell_of ZZx rfl
    clear ZZx
    have TC := intact_yes w41 w.heap.size gN kN aN Nx cN (hide (HS.out.tw (gF := gF) (kF := kF) (gN := gN) (kN := kN) (Fi := Fi) (Nx := Nx) (by intro x hx; simp [hx])).2) (hide (HXX.out.2.1.on HS.out.d)) (Nat.le_trans HBB.out.2.1 (by decide))
    go_wp2_with fail
    go_at_call 28
    refine TC.mono ?_
    rintro e w42 ⟨rfl, DC⟩
    have HS2 := hide (HS.out.on DC)
    clear DC HS
    have HS := HS2
    clear HS2 TC k4 x4
    have ZZk := (HS.out.b (be, #[.int .i64 N2, .int .i64 M2, .int .i64 s2, .slice (some ⟨gG, 0, none⟩) Gi.length kG, .slice (some ⟨gE, 0, none⟩) Ex.length kE], 24) (by simp)).1
    have k3 : w42.cell? ⟨be, 3, none⟩ = some (.slice (some ⟨gG, 0, none⟩) Gi.length kG) := cell_of ZZk rfl
    clear ZZk
    have ZZx := (HS.out.b (w.heap.size, #[.int .i64 N, .int .i64 M, .int .i64 st, .slice aF Fi.length cF, .slice aN Nx.length cN, .int .i64 N2, .int .i64 M2, .int .i64 s2, .slice aG Gi.length cG, .slice aX Ex.length cX, .int .i64 S, .int .i64 T, .slice aW Wd.length cW], 26) (by simp)).1
    have x8 : w42.cell? ⟨w.heap.size, 8, none⟩ = some (.slice aG Gi.length cG) := cell_of ZZx rfl
    clear ZZx
    have TC := intact_yes w42 w.heap.size gG kG aG Gi cG (hide (HS.out.tw (gF := gG) (kF := kG) (gN := gE) (kN := kE) (Fi := Gi) (Nx := Ex) (by intro x hx; simp [hx])).1) (hide (HXX.out.2.2.1.on HS.out.d)) (Nat.le_trans HBB.out.2.2.1 (by decide))
    go_wp2_with fail
    go_at_call 28
    refine TC.mono ?_
    rintro e w43 ⟨rfl, DC⟩
    have HS2 := hide (HS.out.on DC)
    clear DC HS
    have HS := HS2
    clear HS2 TC k3 x8
    have ZZk := (HS.out.b (be, #[.int .i64 N2, .int .i64 M2, .int .i64 s2, .slice (some ⟨gG, 0, none⟩) Gi.length kG, .slice (some ⟨gE, 0, none⟩) Ex.length kE], 24) (by simp)).1
    have k4 : w43.cell? ⟨be, 4, none⟩ = some (.slice (some ⟨gE, 0, none⟩) Ex.length kE) := cell_of ZZk rfl
    clear ZZk
    have ZZx := (HS.out.b (w.heap.size, #[.int .i64 N, .int .i64 M, .int .i64 st, .slice aF Fi.length cF, .slice aN Nx.length cN, .int .i64 N2, .int .i64 M2, .int .i64 s2, .slice aG Gi.length cG, .slice aX Ex.length cX, .int .i64 S, .int .i64 T, .slice aW Wd.length cW], 26) (by simp)).1
    have x9 : w43.cell? ⟨w.heap.size, 9, none⟩ = some (.slice aX Ex.length cX) := cell_of ZZx rfl
    clear ZZx
    have TC := intact_yes w43 w.heap.size gE kE aX Ex cX (hide (HS.out.tw (gF := gG) (kF := kG) (gN := gE) (kN := kE) (Fi := Gi) (Nx := Ex) (by intro x hx; simp [hx])).2) (hide (HXX.out.2.2.2.on HS.out.d)) (Nat.le_trans HBB.out.2.2.2 (by decide))
    go_wp2_with fail
    go_at_call 28
    refine TC.mono ?_
    rintro e w44 ⟨rfl, DC⟩
    have HS2 := hide (HS.out.on DC)
    clear DC HS
    have HS := HS2
    clear HS2 TC k4 x9
    go_upto_region 41 with fail
    rename_i hK9
    exact exact_end w N M st N2 M2 s2 S T aF aN aG aX aW cF cN cG cX cW Fi Nx Gi Ex Wd LC LT LW nn mm LF LX LU HBB gF kF gN kN bd HNED HWD gG kG gE kE be HNEE HDJ bb1 nb1 cb1 bh nh ch bw cw vs bv cv us f1 g1 f2 g2 bm HObm f3 g3 f4 g4 bn HObn bt nt ct bz cz ws f5 g5 f6 g6 bm2 f7 g7 f8 g8 b9 w44 HS _ _ _ _ _ _ _ _ _ _ _ _ _ _ _ _ _ _ _ _ _ _ _ _ _ _ _ _ _ _ _ _ _ _ _ _ _ _ _ _ _ _ _ _ _ _ _ _ _ _ _ _ _ _ _ _ _ _ _ _ _ _ _ _ _ _ _ _ _ _ _ _ _ _ _ _ _ _ _ _ _ _ _ _ _ _ _ _ _ _ _ _ _ _ _ _ _ _ _ _ _ _ _ _ _ _ _ _ _ _ _ _ _ _ _ _ _ _ _ _ _ _ _ _ _ _ _ _ _ _ _ _ _ _ _ _ _ _ _ _ _ _ _ _ _ _ _ _ _ _ _ _ _ _ _ _ _ _ _ _ _ _ _ _ _ _ _ _ _ _ _ _ _ _ _ _ _ _ _ _ _ _ _ _ _ _ _ _ _ _ _ _ _ _ _ _ _ _ _ _ _ _ _ _ _ _ _ _ _ _ _ _ _ _ _ _ _ _ _ _ _ _ _ _ _ _ _ _ _ _ _ _ _ _ _ _ _ _ _ _ _ _ _ _ _ _ _ _ _ _ _ _ _ _ _ _ _ _ _ _ _ _ _ _ _ _ _ _ _ _ _ _ _ _ _ _ _ _ _ _ _ _ _ _ _ _ _ _ _ _ _ _ _ _ _ _ _ _ _ _ _ _ _ _ _ _ _ _ _ _ _ _ _ _ _ _ _ _ _ _ _ _ _ _ _ _ _ _ _ _ _ _ _ _ _ _ _ _ _ _ _ _ _ _ _ _ _ _ _ _ _ _ _ _ _ _ _ _ _ _ _ _ _ _ _ _ _ _ _ _ _ _ _ _ _ _ _ _ _ _ _ _ _ _ _ _ _ _ _ _ _ _ _ _ _ _ _ _ _ _ _ _ _ _ _ _ _ _ _ hK9
end Go.Proofs.Ytocoghljmlpdeaa
