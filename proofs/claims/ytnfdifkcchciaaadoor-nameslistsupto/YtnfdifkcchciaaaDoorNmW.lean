import Derived.Test.YtnfdifkcchciaaaDoorNmS
namespace Go.Proofs.YtnfdifkcchciaaaDoor
open Go.RowKit Go.Maps

set_option maxRecDepth 100000 in
set_option maxHeartbeats 4000000 in
theorem nm_ok (v : Value) (a b c : List ByteArray) (w : World) (h : LstV w v a b c) (hT : BytesAt w) (hw0 : 0 < w.heap.size)
    (h1 : a.all vld = true) (h2 : b.all vld = true) (n1 : a.Nodup) (n2 : b.Nodup) :
    Calls Tryd.prog 4 #[v] w fun e w' => e = .returned (.bool true) ∧ Below w.heap.size w w' := by
  obtain ⟨i3, hi3, hz30, hz31, hz32⟩ := info_parts info3
  obtain ⟨vA, vB, vC, hd, N, rfl, hA, hB, hC, hl, s1, s2, s3⟩ := h
  have S0 := st_start (hd := hd) (N := N) hA hB hC hT hw0
  have HS := hide S0
  have sa : Sml a := ⟨by omega, s1⟩
  have sb : Sml b := ⟨by omega, s2⟩
  have sc : Sml c := ⟨by omega, s3⟩
  have HMF := hide (mf_of a b h1 h2 n1 n2)
  have HI := hide (And.intro sa (And.intro sb (And.intro sc (And.intro h1 (And.intro h2 (And.intro n1 n2))))))
  have HL := hide hl
  have hlA := len_str hA
  clear hA hB hC hT s1 s2 s3 S0 sa sb sc h1 h2 n1 n2 hl
  go_enter Tryd.func4, Tryd.ntmps4
  go_wp2_with fail
  refine (merge_ok vA vB a b _ HS.out.A HS.out.B (by have := HL.out; omega) (by have := HL.out; omega) HI.out.1 HI.out.2.1 HI.out.2.2.2.1 HI.out.2.2.2.2.1 HI.out.2.2.2.2.2.1 HI.out.2.2.2.2.2.2 HS.out.T HS.out.P).mono ?_
  rintro e w1 ⟨v, p, q, rfl, ov, op, oq, d1⟩
  generalize mrg a b = M at *
  generalize List.range a.length = P at *
  generalize qOf a b = Q at *
  replace HS := hide (HS.out.below d1)
  have HG : Hid (Got v p q M P Q w1) := ⟨ov.str, op.int, oq.int⟩
  have hlM := len_str ov.str
  have hlP := len_int op.int
  have hlQ := len_int oq.int
  obtain ⟨vs, hcut, hvs⟩ := cut_own ov HMF.out.la
  have HV := hide hvs
  have lM : M.length ≤ 1048576 := by have := HMF.out.len; have := HL.out; omega
  clear d1 ov op oq hvs
  go_wp2_with (at_make; refine wpList_make_full _ rfl _ _ 28 rfl w1.heap.size 3 i3 (.int .i64 0) 1 Tryd.underlying28 hi3 hz30 hz31 _ _ _ _ M.length rfl rfl rfl rfl (by rw [hz32]; omega) (by unfold maxLen; omega) (Nat.le_refl _) ?_)
  intro w2 hhit hg
  have d2 : Below w1.heap.size w1 w2 := (Below.refl _ _).grown hg (Nat.le_refl _) (by intro k hk; cases hk)
  rw [toList_madeCells_one, ← hits_nil M.length] at hhit
  have HH := hide (And.intro hhit d2)
  have S2 := HS.out.below d2
  have G2 := HG.out.below d2
  have c0 := S2.c0
  have c1 := S2.c1
  have HS2 := hide S2
  have HG2 := hide G2
  have HV2 := hide (HV.out.below d2)
  have lA : decide ((M.length : Int) < (a.length : Int)) = false := by have := HMF.out.la; rw [decide_eq_false_iff_not]; omega
  have lA2 : decide (M.length < a.length) = false := by have := HMF.out.la; rw [decide_eq_false_iff_not]; omega
  have lA3 : ¬ M.length < a.length := by have := HMF.out.la; omega
  clear hhit hg d2 S2 G2
  go_wp2_with fail
  go_quiet (first
    | (go_at_call_of 17 p; refine Calls.quiet_of (place_q v p vA M P a _ ?_ ?_ ?_ HMF.out.lp HMF.out.p (by omega) (by have := HL.out; omega)); exact HG2.out.m.heap rfl; exact HG2.out.p.heap rfl; exact HS2.out.A.heap rfl)
    | (go_at_call_of 17 q; refine Calls.quiet_of (place_q v q vB M Q b _ ?_ ?_ ?_ HMF.out.lq HMF.out.q (by omega) (by have := HL.out; omega)); exact HG2.out.m.heap rfl; exact HG2.out.q.heap rfl; exact HS2.out.B.heap rfl)
    | (go_at_call 15; refine Calls.quiet_of (same_q vs vA a _ ?_ ?_ (by have := HL.out; omega)); exact (HMF.out.ta ▸ HV2.out).heap rfl; exact HS2.out.A.heap rfl))
  go_wp2
  have HH3 : Hid ((w2.drewN nq).ownsRow w1.heap.size 3 1 (.slice (some ⟨w1.heap.size, 0, none⟩) M.length M.length) M.length (intV (hits [] M.length)) ∧ Below w1.heap.size w1 (w2.drewN nq)) := ⟨HH.out.1, below_drewN' HH.out.2 nq⟩
  have cQ : P.length + Q.length ≤ 4194304 := by have := HMF.out.lp; have := HMF.out.lq; have := HL.out; omega
  clear HH HS2 HG2 HV HV2 c0 c1 lA lA2 lA3 hcut
  go_loopw [81] (fun i wr => ∃ k : Nat, k ≤ P.length ∧ i = .int .i64 k ∧ wr.ownsRow w1.heap.size 3 1 (.slice (some ⟨w1.heap.size, 0, none⟩) M.length M.length) M.length (intV (hits (P.take k) M.length)) ∧ Below w1.heap.size w1 wr) (fun i _ => P.length - (intOf i).toNat)
  case atStart => exact ⟨0, Nat.zero_le _, rfl, by rw [List.take_zero]; exact HH3.out.1, HH3.out.2⟩
  case round =>
    obtain ⟨k, hk, rfl, hh, dr⟩ := hrel
    clear HH3
    by_cases hlt : k < P.length
    · obtain ⟨ap, cp, hvp, rp⟩ := (HG.out.p.below dr)
      subst hvp
      obtain ⟨g, o, rfl, q1⟩ := rp k hlt
      obtain ⟨hx3, _⟩ := HMF.out.p k hlt (by have := HMF.out.lp; omega)
      obtain ⟨x, hx⟩ : ∃ x, x = P[k] := ⟨_, rfl⟩
      rw [← hx] at q1 hx3
      obtain ⟨cn, hcn⟩ : ∃ cn, cn = (P.take k).count x := ⟨_, rfl⟩
      have q2 : wr.cell? ⟨w1.heap.size, x, none⟩ = some (.int .i64 (cn : Nat)) := by rw [hh.cellAt x (by omega), hits_get _ _ _ hx3, hcn]
      have hf : wr.frozen? ⟨w1.heap.size, x, none⟩ = false := hh.frozenAt _
      have hcb : cn ≤ 4194304 := by have := List.count_le_length (a := x) (l := P.take k); have : (P.take k).length ≤ P.length := by simp; omega
                                    omega
      have i0 : (0 : Int) ≤ (k : Int) := by omega
      have i2 : (k : Int) < (P.length : Int) := by omega
      have j0 : (0 : Int) ≤ (x : Int) := by omega
      have j2 : (x : Int) < (M.length : Int) := by omega
      have HX := hide (And.intro hh (And.intro dr (And.intro hx hcn)))
      clear hh dr hx hcn rp
      go_wp2
      go_roundw
      case rel =>
        obtain ⟨hh, dr, hx, hcn⟩ := HX.out
        refine ⟨k + 1, by omega, by go_num, ?_, dr.setCell (Nat.le_refl _) _⟩
        have := (hh.stored x (.int .i64 ((cn : Int) + 1))).1
        rw [hits_snoc _ _ _ _ (by rw [← hcn]; omega), hx, ← List.take_succ_eq_append_getElem hlt, ← hx] at this
        exact this
      case measure => simp [intOf]; omega
    · have i2 : ¬ (k : Int) < (P.length : Int) := by omega
      have hke : k = P.length := by omega
      have HH4 : Hid (wr.ownsRow w1.heap.size 3 1 (.slice (some ⟨w1.heap.size, 0, none⟩) M.length M.length) M.length (intV (hits P M.length)) ∧ Below w1.heap.size w1 wr) := ⟨by rw [hke, List.take_length] at hh; exact hh, dr⟩
      clear hh dr hke
      go_wp2
      go_loopw [96] (fun i wr => ∃ k : Nat, k ≤ Q.length ∧ i = .int .i64 k ∧ wr.ownsRow w1.heap.size 3 1 (.slice (some ⟨w1.heap.size, 0, none⟩) M.length M.length) M.length (intV (hits (P ++ Q.take k) M.length)) ∧ Below w1.heap.size w1 wr) (fun i _ => Q.length - (intOf i).toNat)
      case atStart => exact ⟨0, Nat.zero_le _, rfl, by rw [List.take_zero, List.append_nil]; exact HH4.out.1, HH4.out.2⟩
      case round =>
        obtain ⟨k, hk, rfl, hh, dr⟩ := hrel
        clear HH4
        by_cases hlt : k < Q.length
        · obtain ⟨ap, cp, hvp, rp⟩ := (HG.out.q.below dr)
          subst hvp
          obtain ⟨g, o, rfl, q1⟩ := rp k hlt
          obtain ⟨hx3, _⟩ := HMF.out.q k hlt (by have := HMF.out.lq; omega)
          obtain ⟨x, hx⟩ : ∃ x, x = Q[k] := ⟨_, rfl⟩
          rw [← hx] at q1 hx3
          obtain ⟨cn, hcn⟩ : ∃ cn, cn = (P ++ Q.take k).count x := ⟨_, rfl⟩
          have q2 : wr.cell? ⟨w1.heap.size, x, none⟩ = some (.int .i64 (cn : Nat)) := by rw [hh.cellAt x (by omega), hits_get _ _ _ hx3, hcn]
          have hf : wr.frozen? ⟨w1.heap.size, x, none⟩ = false := hh.frozenAt _
          have hcb : cn ≤ 4194304 := by
            have h1 := List.count_le_length (a := x) (l := P ++ Q.take k)
            have h2 : (P ++ Q.take k).length ≤ P.length + Q.length := by simp; omega
            omega
          have i0 : (0 : Int) ≤ (k : Int) := by omega
          have i2 : (k : Int) < (Q.length : Int) := by omega
          have j0 : (0 : Int) ≤ (x : Int) := by omega
          have j2 : (x : Int) < (M.length : Int) := by omega
          have HX := hide (And.intro hh (And.intro dr (And.intro hx hcn)))
          clear hh dr hx hcn rp
          go_wp2
          go_roundw
          case rel =>
            obtain ⟨hh, dr, hx, hcn⟩ := HX.out
            refine ⟨k + 1, by omega, by go_num, ?_, dr.setCell (Nat.le_refl _) _⟩
            have := (hh.stored x (.int .i64 ((cn : Int) + 1))).1
            rw [hits_snoc _ _ _ _ (by rw [← hcn]; omega), hx, List.append_assoc, ← List.take_succ_eq_append_getElem hlt, ← hx] at this
            exact this
          case measure => simp [intOf]; omega
        · have i2 : ¬ (k : Int) < (Q.length : Int) := by omega
          have hke : k = Q.length := by omega
          have HH5 : Hid (wr.ownsRow w1.heap.size 3 1 (.slice (some ⟨w1.heap.size, 0, none⟩) M.length M.length) M.length (intV (hits (P ++ Q) M.length)) ∧ Below w1.heap.size w1 wr) := ⟨by rw [hke, List.take_length] at hh; exact hh, dr⟩
          clear hh dr hke
          go_wp2
          go_loopw [111] (fun i wr => ∃ k : Nat, k ≤ M.length ∧ i = .int .i64 k ∧ wr.ownsRow w1.heap.size 3 1 (.slice (some ⟨w1.heap.size, 0, none⟩) M.length M.length) M.length (intV (hits (P ++ Q) M.length)) ∧ Below w1.heap.size w1 wr) (fun i _ => M.length - (intOf i).toNat)
          case atStart => exact ⟨0, Nat.zero_le _, rfl, HH5.out.1, HH5.out.2⟩
          case round =>
            obtain ⟨k, hk, rfl, hh, dr⟩ := hrel
            clear HH5
            by_cases hlt : k < M.length
            · have HGm := hide (HG.out.m.below dr)
              have HSr := hide (HS.out.below dr)
              obtain ⟨ap, cp, hvp, rp⟩ := HGm.out
              have HGv := HGm
              subst hvp
              obtain ⟨g, o, rfl, q1⟩ := rp k hlt
              have hval : vld M[k] = true := List.all_eq_true.1 HMF.out.val _ (List.getElem_mem hlt)
              have hidx : M.idxOf M[k] = k := (nodup_iff M).1 HMF.out.nod k hlt
              have hmem : M[k] ∈ M := List.getElem_mem hlt
              generalize M[k] = s at q1 hval hidx hmem
              obtain ⟨cn, hcn⟩ : ∃ cn, cn = (P ++ Q).count k := ⟨_, rfl⟩
              have q2 : wr.cell? ⟨w1.heap.size, k, none⟩ = some (.int .i64 (cn : Nat)) := by rw [hh.cellAt k (by omega), hits_get _ _ _ hlt, hcn]
              have hpos := HMF.out.hit k hlt
              have hz : ((cn : Int) == 0) = false := by rw [beq_eq_false_iff_ne]; omega
              have i0 : (0 : Int) ≤ (k : Int) := by omega
              have i2 : (k : Int) < (M.length : Int) := by omega
              have HX := hide (And.intro hh (And.intro dr (And.intro hidx hmem)))
              have HVL := hide hval
              clear hh dr hcn rp hpos hidx hmem hval
              go_wp2_with (first
                | (go_at_call 18; refine (place_yes _ M s k _ HGv.out (by omega) HX.out.2.2.2 HX.out.2.2.1).mono ?_; rintro e w' ⟨rfl, rfl⟩)
                | (go_at_call 11; refine (valid_any s _ HSr.out.T HSr.out.P).mono ?_; rintro e w' ⟨rfl, dv⟩; rw [HVL.out]))
              go_roundw
              case rel =>
                obtain ⟨hh, dr, _, _⟩ := HX.out
                exact ⟨k + 1, by omega, by go_num, row_below hh dv, dr.trans (dv.mono dr.size)⟩
              case measure => simp [intOf]; omega
            · have i2 : ¬ (k : Int) < (M.length : Int) := by omega
              have HS3 := hide (HS.out.below dr)
              have HG3 := hide (HG.out.below dr)
              have c1 := HS3.out.c1
              have c2 := HS3.out.c2
              clear hh dr
              go_wp2_with fail
              have hsub : mrg M b = M := mrg_sub HMF.out.sub
              have HMF2 : Hid (MF M b M (List.range M.length) (qOf M b)) := by
                have := mf_of M b HMF.out.val HI.out.2.2.2.2.1 HMF.out.nod HI.out.2.2.2.2.2.2
                rw [hsub] at this
                exact this
              have sM : Sml M := ⟨by omega, HMF.out.sml HI.out.1.2 HI.out.2.1.2⟩
              have HSM := hide (And.intro sM hsub)
              clear sM hsub
              refine (merge_ok v vB M b _ HG3.out.m HS3.out.B (by omega) (by have := HL.out; omega) HSM.out.1 HI.out.2.1 HMF.out.val HI.out.2.2.2.2.1 HMF.out.nod HI.out.2.2.2.2.2.2 HS3.out.T HS3.out.P).mono ?_
              rintro e w5 ⟨v5, p5, q5, rfl, ov, op, oq, d5⟩
              rw [HSM.out.2] at ov
              generalize List.range M.length = P5 at *
              generalize qOf M b = Q5 at *
              replace HS3 := hide (HS3.out.below d5)
              replace HG3 := hide (HG3.out.below d5)
              have HG5 : Hid (Got v5 p5 q5 M P5 Q5 w5) := ⟨ov.str, op.int, oq.int⟩
              clear d5 ov op oq c1 c2
              go_wp2_with fail
              refine (same_any v5 v M _ HG5.out.m HG3.out.m (by omega)).mono ?_
              rintro e w6 ⟨rfl, d⟩
              replace HS3 := hide (HS3.out.below d)
              replace HG3 := hide (HG3.out.below d)
              replace HG5 := hide (HG5.out.below d)
              clear d
              go_wp2_with fail
              refine (place_any v p5 v M P5 M _ HG3.out.m HG5.out.p HG3.out.m HMF2.out.lp HMF2.out.p (by omega) (by omega)).mono ?_
              rintro e w7 ⟨rfl, d⟩
              replace HS3 := hide (HS3.out.below d)
              replace HG3 := hide (HG3.out.below d)
              replace HG5 := hide (HG5.out.below d)
              have c1 := HS3.out.c1
              clear d
              go_wp2_with fail
              refine (place_any v q5 vB M Q5 b _ HG3.out.m HG5.out.q HS3.out.B HMF2.out.lq HMF2.out.q (by omega) (by have := HL.out; omega)).mono ?_
              rintro e w8 ⟨rfl, d⟩
              replace HS3 := hide (HS3.out.below d)
              replace HG3 := hide (HG3.out.below d)
              clear c1
              have c1 := HS3.out.c1
              have c2 := HS3.out.c2
              clear d
              go_wp2_with fail
              refine (undone_any v vB vC M b c _ (hide ⟨HG3.out.m, HS3.out.B, HS3.out.C, HSM.out.1, HI.out.2.1, HI.out.2.2.1, HS3.out.T, HS3.out.P⟩) (hide ⟨HMF.out.val, HMF.out.nod⟩)).mono ?_
              rintro e w9 ⟨rfl, d⟩
              replace HS3 := hide (HS3.out.below d)
              clear d c1 c2
              go_wp2_with fail
              refine (lives_any _ HS3.out.T HS3.out.P).mono ?_
              rintro e w10 ⟨rfl, d⟩
              have D := (HS3.out.below d).D
              clear d
              go_wp2
              go_ret
              exact ⟨rfl, D⟩

theorem namesMerge_any (v : Value) (a b c : List ByteArray) (w : World) (h : LstV w v a b c) (hT : BytesAt w) (hw0 : 0 < w.heap.size) :
    Calls Tryd.prog 4 #[v] w fun e w' => e = .returned (.bool true) ∧ Below w.heap.size w w' := by
  have hl : a.length ≤ 2097152 ∧ b.length ≤ 2097152 ∧ (∀ s ∈ a, s.size ≤ 1048576) ∧ ∀ s ∈ b, s.size ≤ 1048576 := by
    obtain ⟨_, _, _, _, _, _, _, _, _, hl, s1, s2, _⟩ := h
    exact ⟨by omega, by omega, s1, s2⟩
  by_cases hv : a.all vld = true ∧ b.all vld = true
  · by_cases hn : a.Nodup ∧ b.Nodup
    · exact nm_ok v a b c w h hT hw0 hv.1 hv.2 hn.1 hn.2
    · exact nm_err 21 (by decide) v a b c w h hT hw0 fun vA vB W hA hB hT hW => merge_twice vA vB a b W hA hB hl.1 hl.2.1 ⟨by omega, hl.2.2.1⟩ ⟨by omega, hl.2.2.2⟩ hv.1 hv.2 hn hT hW
  · exact nm_err 20 (by decide) v a b c w h hT hw0 fun vA vB W hA hB hT hW => merge_noname vA vB a b W hA hB hl.1 hl.2.1 hv hT hW

end Go.Proofs.YtnfdifkcchciaaaDoor
