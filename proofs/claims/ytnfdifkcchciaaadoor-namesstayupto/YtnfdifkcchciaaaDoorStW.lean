import Derived.Test.YtnfdifkcchciaaaDoorSy
namespace Go.Proofs.YtnfdifkcchciaaaDoor
open Go.RowKit Go.Maps

theorem new_at {l l2 : List ByteArray} {s : ByteArray} (h : l2 = l ++ [s]) (hs : s ∉ l) : s ∈ l2 ∧ (l.length : Int) = ((l2.idxOf s : Nat) : Int) := by
  subst h
  refine ⟨by simp, ?_⟩
  rw [ix_app_not hs]
  haveI := ba_lawful
  simp

/-- What the law holds in its second loop: the second table, and the first one's list. -/
structure Uy (w0 : World) (t bm : Nat) (most : Int) (v : Value) (l : List ByteArray) (va : Value) (k : Nat) (wr : World) : Prop where
  tb : Tbl wr t most v bm (l.take k)
  lb : ∀ j, TB t v bm j → w0.heap.size ≤ j
  all : OwnS wr w0.heap.size va l
  sep : ∀ j, va.ownBlock = some j → ¬ TB t v bm j
  D : Below w0.heap.size w0 wr

theorem Uy.added {w0 : World} {t bm : Nat} {most : Int} {v v' : Value} {l : List ByteArray} {va : Value} {k : Nat} {wr wr' : World} (h : Uy w0 t bm most v l va k wr) (hk : k < l.length)
    (T : Tbl wr' t most v' bm (l.take k ++ [l[k]])) (O : Only wr wr' (TB t v bm)) (hloc : v'.ownBlock = v.ownBlock ∨ ∃ j, v'.ownBlock = some j ∧ wr.heap.size ≤ j) : Uy w0 t bm most v' l va (k + 1) wr' := by
  have hg := World.ownsRow.lt h.all
  refine ⟨by rw [List.take_succ_eq_append_getElem hk]; exact T, ?_, row_only h.all O h.sep, fun j hj => ?_, h.D.trans (O.toBelow h.D.size h.lb)⟩
  · rintro j (e | e | e)
    · exact h.lb j (.inl e)
    · rcases hloc with e2 | ⟨i, e2, hi⟩
      · exact h.lb j (.inr (.inl (by rw [← e2]; exact e)))
      · rw [e2] at e
        have := h.D.size
        simp at e; omega
    · exact h.lb j (.inr (.inr e))
  · rintro (e | e | e)
    · exact h.sep j hj (.inl e)
    · rcases hloc with e2 | ⟨i, e2, hi⟩
      · exact h.sep j hj (.inr (.inl (by rw [← e2]; exact e)))
      · rw [e2] at e
        have := (hg j hj).2
        simp at e; omega
    · exact h.sep j hj (.inr (.inr e))


set_option maxRecDepth 100000 in
set_option maxHeartbeats 1000000 in
theorem stay_neg (most : Int) (vL : Value) (w : World) (hT : BytesAt w) (hw0 : 0 < w.heap.size) (hm : most < 0) :
    Calls Tryd.prog 3 #[.int .i64 most, vL] w fun e w' => e = .returned (.bool true) ∧ Below w.heap.size w w' := by
  go_enter Tryd.func3, Tryd.ntmps3
  go_wp2_with fail
  refine (new_bad most _ (by omega)).mono ?_
  rintro e w1 ⟨rfl, rfl⟩
  go_wp2_with fail
  refine (lives_any _ hT hw0).mono ?_
  rintro e w2 ⟨rfl, d⟩
  clear hT
  go_wp2
  go_ret
  exact ⟨rfl, d⟩

set_option maxRecDepth 100000 in
set_option maxHeartbeats 4000000 in
theorem stay_ok (most : Int) (aL : Option Addr) (cL : Nat) (L : List ByteArray) (w : World) (HA : Hid (Ar (.slice aL L.length cL) L w)) (HR : Hid (ReadsS w aL L)) (hL : L.length ≤ 1048576) (hm : ¬ most < 0) :
    Calls Tryd.prog 3 #[.int .i64 most, .slice aL L.length cL] w fun e w' => e = .returned (.bool true) ∧ Below w.heap.size w w' := by
  obtain ⟨i3, hi3, hz30, hz31, hz32⟩ := info_parts info3
  go_enter Tryd.func3, Tryd.ntmps3
  go_wp2_with fail
  refine (new_ok most _ (by omega)).mono ?_
  rintro e w1 ⟨t, bm, rfl, T1, ht, hbm, d1⟩
  have HS := hide (sy_start (L := L) T1 ht hbm d1)
  clear T1 ht hbm d1
  go_wp2
  go_loopw [7, 47] (fun gv i wr => ∃ (k : Nat) (v : Value) (l : List ByteArray) (gl : List Int), k ≤ L.length ∧ i = .int .i64 k ∧ Hid (Sy w L t bm most v l gv gl wr) ∧ Hid (gl.length = k ∧ l.length ≤ k)) (fun _ i _ => L.length - (intOf i).toNat)
  case atStart => exact ⟨0, .slice none 0 0, [], [], Nat.zero_le _, rfl, HS, hide ⟨rfl, Nat.le_refl _⟩⟩
  case round =>
    obtain ⟨k, v, l, gl, hk, rfl, S, HK⟩ := hrel
    clear HS
    by_cases hlt : k < L.length
    · obtain ⟨g, o, rfl, q1⟩ := (HR.out.below S.out.D) k hlt
      obtain ⟨s, hs⟩ : ∃ s, s = L[k] := ⟨_, rfl⟩
      rw [← hs] at q1
      have HSK := hide hs
      clear hs
      have i0 : (0 : Int) ≤ (k : Int) := by omega
      have i2 : (k : Int) < (L.length : Int) := by omega
      have hll : l.length ≤ 1048576 := by have := HK.out; omega
      have hlm := S.out.tb.len
      have HQ := hide (HR.out)
      by_cases hv : vld s = true
      · by_cases hin : s ∈ l
        · obtain ⟨m, hm2⟩ : ∃ m, l.idxOf s = m := ⟨_, rfl⟩
          have hml : m < l.length := by rw [← hm2]; exact ix_lt.2 hin
          have HIN := hide (And.intro hin hm2)
          have f1 : ¬ (m : Int) > (l.length : Int) := by omega
          have f2 : ¬ (m : Int) < 0 := by omega
          have f3 : ¬ (l.length : Int) > most := by omega
          have f4 : ((m : Int) == (l.length : Int)) = false := by rw [beq_eq_false_iff_ne]; omega
          have f5 : ((l.length : Int) == (l.length : Int) + 1) = false := by rw [beq_eq_false_iff_ne]; omega
          clear hin hm2
          go_wp2_with fail
          refine (count_tb t bm most v l _ (hide S.out.tb)).mono ?_
          rintro e wc ⟨rfl, hwc⟩
          obtain rfl := hwc.symm
          clear hwc
          go_wp2_with fail
          refine (add_old t bm most v l s m _ (hide S.out.tb) HIN (HA.out.below S.out.D).T (HA.out.below S.out.D).P).mono ?_
          rintro e w2 ⟨rfl, d2⟩
          have S2 := hide (S.out.below d2)
          clear d2
          obtain ⟨g_q2, o_q2, e_q2, q2⟩ := (HR.out.below S2.out.D) k hlt
          rw [← HSK.out] at q2
          simp only [Option.some.injEq, Addr.mk.injEq, and_true] at e_q2
          obtain ⟨rfl, rfl⟩ := e_q2
          go_wp2_with fail
          refine (count_tb t bm most v l _ (hide S2.out.tb)).mono ?_
          rintro e wc ⟨rfl, hwc⟩
          obtain rfl := hwc.symm
          clear hwc
          go_wp2_with fail
          refine (valid_any s _ (HA.out.below S2.out.D).T (HA.out.below S2.out.D).P).mono ?_
          rintro e w3 ⟨rfl, d3⟩
          rw [hv]
          have S3 := hide (S2.out.below d3)
          clear d3
          go_wp2_with fail
          refine (count_tb t bm most v l _ (hide S3.out.tb)).mono ?_
          rintro e wc ⟨rfl, hwc⟩
          obtain rfl := hwc.symm
          clear hwc
          have hgl := HK.out.1
          have hgot := S3.out.got
          rw [hgl] at hgot
          go_wp2_with (at_builtin; refine wpList_append_own_at _ rfl _ _ _ rfl w.heap.size 3 i3 _ 1 8 Tryd.underlying28 hi3 hz30 hz31 hz32 rfl (by omega) u7 k (intW gl) rfl (hgot.alloc _) ⟨w3.heap.size, 0, none⟩ 1 1 [.int .i64 (m : Int)] rfl rfl (cell_one_new _ _ _) (intW_one [(m : Int)]) (by unfold maxLen; omega) (by omega) (by have := S3.out.D.size; simp; omega) ?_)
          intro gv' w9 ho hgr hnil hloc
          have HX := hide (And.intro ho (And.intro hgr hloc))
          clear ho hgr hnil hloc hgot hgl
          go_wp2
          go_roundw
          case rel =>
            obtain ⟨ho, hgr, hloc⟩ := HX.out
            have hgl := HK.out.1
            refine ⟨k + 1, v, l, gl ++ [(m : Int)], by omega, by go_num, hide (S3.out.next (by rw [hgl]; exact ho) hgr (hloc.imp id (fun h => by first | exact h | (rw [h]; simp))) (fun h2 => ?_)), hide ⟨by simp [hgl], by have := HK.out.2; omega⟩⟩
            exact .inr (by simp only [hgl, ← HSK.out]; exact ⟨HIN.out.1, by rw [HIN.out.2]⟩)
          case measure => simp [intOf]; omega
        · by_cases hf : (l.length : Int) < most
          · have HIN := hide hin
            clear hin
            go_wp2_with fail
            refine (count_tb t bm most v l _ (hide S.out.tb)).mono ?_
            rintro e wc ⟨rfl, hwc⟩
            obtain rfl := hwc.symm
            clear hwc
            go_wp2_with fail
            refine (add_new t bm most v l s _ (hide S.out.tb) hv HIN hf (by omega) (HA.out.below S.out.D).T (HA.out.below S.out.D).P).mono ?_
            rintro e w2 ⟨v2, rfl, T2, O2, L2⟩
            have S2 := hide (S.out.added T2 O2 L2)
            clear T2 O2 L2
            obtain ⟨l2, hl2⟩ : ∃ l2, l2 = l ++ [s] := ⟨_, rfl⟩
            have hn2 : l2.length = l.length + 1 := by rw [hl2]; simp
            rw [← hl2] at S2
            have HL2 := hide (And.intro hl2 (And.intro HIN.out hn2))
            clear hl2
            have f1 : ¬ (l.length : Int) > (l.length : Int) := by omega
            have f2 : ¬ (l.length : Int) < 0 := by omega
            have f3 : ¬ (l.length : Int) + 1 > most := by omega
            have f4 : ((l.length : Int) == (l.length : Int)) = true := by simp
            have f5 : ((l.length : Int) + 1 == (l.length : Int) + 1) = true := by simp
            obtain ⟨g_q2, o_q2, e_q2, q2⟩ := (HR.out.below S2.out.D) k hlt
            rw [← HSK.out] at q2
            simp only [Option.some.injEq, Addr.mk.injEq, and_true] at e_q2
            obtain ⟨rfl, rfl⟩ := e_q2
            go_wp2_with fail
            refine (count_tb t bm most v2 l2 _ (hide S2.out.tb)).mono ?_
            rintro e wc ⟨rfl, hwc⟩
            obtain rfl := hwc.symm
            clear hwc
            rw [hn2, Int.natCast_add, Int.natCast_one]
            go_wp2_with fail
            refine (valid_any s _ (HA.out.below S2.out.D).T (HA.out.below S2.out.D).P).mono ?_
            rintro e w3 ⟨rfl, d3⟩
            rw [hv]
            have S3 := hide (S2.out.below d3)
            clear d3
            go_wp2_with fail
            refine (count_tb t bm most v2 l2 _ (hide S3.out.tb)).mono ?_
            rintro e wc ⟨rfl, hwc⟩
            obtain rfl := hwc.symm
            clear hwc
            rw [hn2, Int.natCast_add, Int.natCast_one]
            have hgl := HK.out.1
            have hgot := S3.out.got
            rw [hgl] at hgot
            go_wp2_with (at_builtin; refine wpList_append_own_at _ rfl _ _ _ rfl w.heap.size 3 i3 _ 1 8 Tryd.underlying28 hi3 hz30 hz31 hz32 rfl (by omega) u7 k (intW gl) rfl (hgot.alloc _) ⟨w3.heap.size, 0, none⟩ 1 1 [.int .i64 (l.length : Int)] rfl rfl (cell_one_new _ _ _) (intW_one [(l.length : Int)]) (by unfold maxLen; omega) (by omega) (by have := S3.out.D.size; simp; omega) ?_)
            intro gv' w9 ho hgr hnil hloc
            have HX := hide (And.intro ho (And.intro hgr hloc))
            clear ho hgr hnil hloc hgot hgl
            go_wp2
            go_roundw
            case rel =>
              obtain ⟨ho, hgr, hloc⟩ := HX.out
              have hgl := HK.out.1
              refine ⟨k + 1, v2, l2, gl ++ [(l.length : Int)], by omega, by go_num, hide (S3.out.next (by rw [hgl]; exact ho) hgr (hloc.imp id (fun h => by first | exact h | (rw [h]; simp))) (fun h2 => ?_)), hide ⟨by simp [hgl], by have := HK.out.2; (have := HL2.out.2.2; omega)⟩⟩
              exact .inr (by simp only [hgl, ← HSK.out]; exact new_at HL2.out.1 HL2.out.2.1)
            case measure => simp [intOf]; omega
          · have HIN := hide hin
            clear hin
            have f6 : ((l.length : Int) != (l.length : Int)) = false := by simp
            go_wp2_with fail
            refine (count_tb t bm most v l _ (hide S.out.tb)).mono ?_
            rintro e wc ⟨rfl, hwc⟩
            obtain rfl := hwc.symm
            clear hwc
            go_wp2_with fail
            refine (add_full t bm most v l s _ (hide S.out.tb) hv HIN (by omega) (HA.out.below S.out.D).T (HA.out.below S.out.D).P).mono ?_
            rintro e w2 ⟨rfl, d2⟩
            have S2 := hide (S.out.below d2)
            clear d2
            obtain ⟨g_q2, o_q2, e_q2, q2⟩ := (HR.out.below S2.out.D) k hlt
            rw [← HSK.out] at q2
            simp only [Option.some.injEq, Addr.mk.injEq, and_true] at e_q2
            obtain ⟨rfl, rfl⟩ := e_q2
            go_wp2_with fail
            refine (count_tb t bm most v l _ (hide S2.out.tb)).mono ?_
            rintro e wc ⟨rfl, hwc⟩
            obtain rfl := hwc.symm
            clear hwc
            go_wp2_with fail
            refine (valid_any s _ (HA.out.below S2.out.D).T (HA.out.below S2.out.D).P).mono ?_
            rintro e w3 ⟨rfl, d3⟩
            rw [hv]
            have S3 := hide (S2.out.below d3)
            clear d3
            have hgl := HK.out.1
            have hgot := S3.out.got
            rw [hgl] at hgot
            go_wp2_with (at_builtin; refine wpList_append_own_at _ rfl _ _ _ rfl w.heap.size 3 i3 _ 1 8 Tryd.underlying28 hi3 hz30 hz31 hz32 rfl (by omega) u7 k (intW gl) rfl (hgot.alloc _) ⟨w3.heap.size, 0, none⟩ 1 1 [.int .i64 (-1 : Int)] rfl rfl (cell_one_new _ _ _) (intW_one [(-1 : Int)]) (by unfold maxLen; omega) (by omega) (by have := S3.out.D.size; simp; omega) ?_)
            intro gv' w9 ho hgr hnil hloc
            have HX := hide (And.intro ho (And.intro hgr hloc))
            clear ho hgr hnil hloc hgot hgl
            go_wp2
            go_roundw
            case rel =>
              obtain ⟨ho, hgr, hloc⟩ := HX.out
              have hgl := HK.out.1
              refine ⟨k + 1, v, l, gl ++ [(-1 : Int)], by omega, by go_num, hide (S3.out.next (by rw [hgl]; exact ho) hgr (hloc.imp id (fun h => by first | exact h | (rw [h]; simp))) (fun h2 => ?_)), hide ⟨by simp [hgl], by have := HK.out.2; omega⟩⟩
              exact .inl rfl
            case measure => simp [intOf]; omega
      · have hv' : vld s = false := by simpa using hv
        clear hv
        go_wp2_with fail
        refine (count_tb t bm most v l _ (hide S.out.tb)).mono ?_
        rintro e wc ⟨rfl, hwc⟩
        obtain rfl := hwc.symm
        clear hwc
        go_wp2_with fail
        refine (add_bad t s _ (HA.out.below S.out.D).T (HA.out.below S.out.D).P hv').mono ?_
        rintro e w2 ⟨rfl, d2⟩
        have S2 := hide (S.out.below d2)
        clear d2
        obtain ⟨g_q2, o_q2, e_q2, q2⟩ := (HR.out.below S2.out.D) k hlt
        rw [← HSK.out] at q2
        simp only [Option.some.injEq, Addr.mk.injEq, and_true] at e_q2
        obtain ⟨rfl, rfl⟩ := e_q2
        go_wp2_with fail
        refine (count_tb t bm most v l _ (hide S2.out.tb)).mono ?_
        rintro e wc ⟨rfl, hwc⟩
        obtain rfl := hwc.symm
        clear hwc
        go_wp2_with fail
        refine (valid_any s _ (HA.out.below S2.out.D).T (HA.out.below S2.out.D).P).mono ?_
        rintro e w3 ⟨rfl, d3⟩
        rw [hv']
        have S3 := hide (S2.out.below d3)
        clear d3
        have hgl := HK.out.1
        have hgot := S3.out.got
        rw [hgl] at hgot
        go_wp2_with (at_builtin; refine wpList_append_own_at _ rfl _ _ _ rfl w.heap.size 3 i3 _ 1 8 Tryd.underlying28 hi3 hz30 hz31 hz32 rfl (by omega) u7 k (intW gl) rfl (hgot.alloc _) ⟨w3.heap.size, 0, none⟩ 1 1 [.int .i64 (-1 : Int)] rfl rfl (cell_one_new _ _ _) (intW_one [(-1 : Int)]) (by unfold maxLen; omega) (by omega) (by have := S3.out.D.size; simp; omega) ?_)
        intro gv' w9 ho hgr hnil hloc
        have HX := hide (And.intro ho (And.intro hgr hloc))
        clear ho hgr hnil hloc hgot hgl
        go_wp2
        go_roundw
        case rel =>
          obtain ⟨ho, hgr, hloc⟩ := HX.out
          have hgl := HK.out.1
          refine ⟨k + 1, v, l, gl ++ [(-1 : Int)], by omega, by go_num, hide (S3.out.next (by rw [hgl]; exact ho) hgr (hloc.imp id (fun h => by first | exact h | (rw [h]; simp))) (fun h2 => ?_)), hide ⟨by simp [hgl], by have := HK.out.2; omega⟩⟩
          exact .inl rfl
        case measure => simp [intOf]; omega
    · have i2 : ¬ (k : Int) < (L.length : Int) := by omega
      have hkL : k = L.length := by omega
      have hll : l.length ≤ 1048576 := by have := HK.out; omega
      have HKL := hide hkL
      clear hkL
      go_wp2_with fail
      refine (new_ok most _ (by omega)).mono ?_
      rintro e w5 ⟨t2, bm2, rfl, T5, ht2, hbm2, d5⟩
      have S5 := hide (S.out.below d5)
      have HT5 := hide (And.intro T5 (And.intro ht2 (And.intro hbm2 d5)))
      clear T5 ht2 hbm2 d5
      go_wp2_with fail
      refine (list_tb t bm most v l _ (hide S5.out.tb)).mono ?_
      rintro e w6 ⟨va, rfl, oa, d6⟩
      have hla := len_str oa.str
      have U0 : Uy wr t2 bm2 most (.slice none 0 0) l va 0 w6 := by
        obtain ⟨T5, ht2, hbm2, d5⟩ := HT5.out
        have l5 := T5.lt
        refine ⟨?_, ?_, oa.mono d5.size, fun j hj => ?_, d5.trans (d6.mono d5.size)⟩
        · rw [List.take_zero]; exact T5.below d6
        · rintro j (e | e | e)
          · omega
          · simp [Value.ownBlock] at e
          · omega
        · intro ht
          have h1 := l5 j ht
          have h2 := (World.ownsRow.lt oa j hj).1
          omega
      have HU := hide U0
      have W0 := hide S
      clear S5 HT5 oa d6 U0
      go_wp2
      go_loopw [125] (fun i wz => ∃ (k : Nat) (v2 : Value), k ≤ l.length ∧ i = .int .i64 k ∧ Hid (Uy wr t2 bm2 most v2 l va k wz)) (fun i _ => l.length - (intOf i).toNat)
      case atStart => exact ⟨0, _, Nat.zero_le _, rfl, HU⟩
      case round =>
        obtain ⟨j, v2, hj, rfl, U⟩ := hrel
        clear HU
        by_cases hjl : j < l.length
        · have hUD := hide (S.out.D.trans (U.out.D.mono S.out.D.size))
          obtain ⟨aa, ca, hva, ra⟩ := U.out.all.str
          subst hva
          obtain ⟨ga, oo, rfl, qa⟩ := ra j hjl
          have hval : vld l[j] = true := S.out.tb.val _ (List.getElem_mem hjl)
          have hnin : l[j] ∉ l.take j := fun hin => by
            obtain ⟨i, hi, he⟩ := List.getElem_of_mem hin
            rw [List.getElem_take] at he
            have h1 : i < j := by simp at hi; omega
            have := (List.getElem_inj S.out.tb.nod).1 he
            omega
          have htk : (l.take j).length = j := by simp; omega
          have hjm : ((l.take j).length : Int) < most := by rw [htk]; have := S.out.tb.len; omega
          have htl : (l.take j).length < 2097152 := by omega
          obtain ⟨s, hs⟩ : ∃ s, s = l[j] := ⟨_, rfl⟩
          rw [← hs] at qa hval hnin
          have HN := hide hnin
          have HS2 := hide hs
          have i0 : (0 : Int) ≤ (j : Int) := by omega
          have i3' : (j : Int) < (l.length : Int) := by omega
          clear hnin hs ra
          go_wp2_with fail
          refine (add_new t2 bm2 most v2 (l.take j) s _ (hide U.out.tb) hval HN hjm htl (HA.out.below hUD.out).T (HA.out.below hUD.out).P).mono ?_
          rintro e w7 ⟨v3, rfl, T7, O7, L7⟩
          rw [htk]
          rw [HS2.out] at T7
          have U7 := hide (U.out.added hjl T7 O7 L7)
          clear T7 O7 L7 hjm htl htk
          go_wp2
          go_roundw
          case rel => exact ⟨j + 1, v3, by omega, by go_num, U7⟩
          case measure => simp [intOf]; omega
        · have i3' : ¬ (j : Int) < (l.length : Int) := by omega
          have hjl2 : j = l.length := by omega
          have U3 : Hid (Uy _ t2 bm2 most v2 l va l.length _) := hjl2 ▸ U
          have S3 := hide (S.out.below U3.out.D)
          clear hjl2 U
          go_wp2
          go_loopw [147] (fun i wz => ∃ k : Nat, k ≤ L.length ∧ i = .int .i64 k ∧ wz = wr) (fun i _ => L.length - (intOf i).toNat)
          case atStart => exact ⟨0, Nat.zero_le _, rfl, rfl⟩
          case round =>
            obtain ⟨n, hn, rfl, rfl⟩ := hrel
            by_cases hnl : n < L.length
            · have hgl : gl.length = L.length := by have := HK.out.1; have := HKL.out; omega
              obtain ⟨gg, cg, hgv, _, _⟩ := S3.out.got.form (by omega)
              have hgot := S3.out.got
              have hrl := S3.out.rel n (by omega) hnl
              subst hgv
              have qg : wr.cell? ⟨gg, n, none⟩ = some (.int .i64 (gl[n]'(by omega))) := by
                rw [hgot.cellAt n (by omega)]
                simp [intW, hgl, hnl]
              obtain ⟨g, o, rfl, q1⟩ := (HR.out.below S3.out.D) n hnl
              obtain ⟨s, hs⟩ : ∃ s, s = L[n] := ⟨_, rfl⟩
              generalize gl[n]'(by omega) = x at qg hrl
              rw [← hs] at q1 hrl
              have i0 : (0 : Int) ≤ (n : Int) := by omega
              have i4 : (n : Int) < (L.length : Int) := by omega
              have i5 : (n : Int) < (gl.length : Int) := by omega
              have HX := hide hgot
              have HG2 := hide hgl
              clear hgot hs hgl
              rcases hrl with rfl | ⟨hin, rfl⟩
              · go_wp2
                go_roundw
                case rel => exact ⟨n + 1, by omega, by go_num, by first | rfl | trivial⟩
                case measure => simp [intOf]; omega
              · obtain ⟨m, hm2⟩ : ∃ m, l.idxOf s = m := ⟨_, rfl⟩
                have hml : m < l.length := by rw [← hm2]; exact ix_lt.2 hin
                have hlm2 : l[m] = s := by
                  have := ix_get (l := l) (s := s) (by rw [hm2]; exact hml)
                  simp only [hm2] at this
                  exact this
                rw [hm2] at qg
                have HIN := hide (And.intro hin hm2)
                have j0 : ¬ (m : Int) < 0 := by omega
                clear hin hm2
                go_wp2_with fail
                refine (name_tb t bm most v l m _ (hide S3.out.tb) hml).mono ?_
                rintro e wc ⟨rfl, hwc⟩
                obtain rfl := hwc.symm
                clear hwc
                rw [hlm2]
                clear hlm2
                go_wp2_with fail
                refine (find_tb t bm most v l s m _ (hide S3.out.tb) HIN).mono ?_
                rintro e wc ⟨rfl, hwc⟩
                obtain rfl := hwc.symm
                clear hwc
                go_wp2
                go_roundw
                case rel => exact ⟨n + 1, by omega, by go_num, by first | rfl | trivial⟩
                case measure => simp [intOf]; omega
            · have i4 : ¬ (n : Int) < (L.length : Int) := by omega
              have tk : l.take l.length = l := List.take_length
              go_wp2_with fail
              refine (list_tb t2 bm2 most v2 (l.take l.length) _ (hide U3.out.tb)).mono ?_
              rintro e w8 ⟨vb, rfl, ob, d8⟩
              rw [tk] at ob
              have HB := hide (And.intro ob d8)
              clear ob d8 tk
              go_wp2_with fail
              refine (same_any vb va l _ HB.out.1.str (U3.out.all.str.below HB.out.2) (by omega)).mono ?_
              rintro e w9 ⟨rfl, d9⟩
              have D9 := S3.out.D.trans ((HB.out.2.trans (d9.mono HB.out.2.size)).mono S3.out.D.size)
              clear d9
              go_wp2_with fail
              refine (lives_any _ (HA.out.below D9).T (HA.out.below D9).P).mono ?_
              rintro e w10 ⟨rfl, d10⟩
              have D10 := D9.trans (d10.mono D9.size)
              clear d10
              go_wp2
              go_ret
              exact ⟨rfl, D10⟩

end Go.Proofs.YtnfdifkcchciaaaDoor
