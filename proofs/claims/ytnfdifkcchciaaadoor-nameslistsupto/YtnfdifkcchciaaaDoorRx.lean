import Derived.Test.YtnfdifkcchciaaaDoorRs
namespace Go.Proofs.YtnfdifkcchciaaaDoor
open Go.RowKit Go.Maps

/-- Numbers as the program's own. -/
def ints (l : List Nat) : List Int := l.map fun (i : Nat) => (i : Int)
theorem ints_length (l : List Nat) : (ints l).length = l.length := by simp [ints]
theorem ints_W (l : List Nat) : intW (ints l) = intV l := by simp [ints, intW, intV]
theorem ints_range (k : Nat) : ints (List.range (k + 1)) = ints (List.range k) ++ [(k : Int)] := by simp [ints, List.range_succ]
theorem ints_take (l : List Nat) (k : Nat) (h : k < l.length) : ints (l.take (k + 1)) = ints (l.take k) ++ [(l[k] : Int)] := by
  unfold ints
  rw [List.take_succ_eq_append_getElem h, List.map_append]
  rfl

set_option maxRecDepth 100000 in
set_option maxHeartbeats 4000000 in
/-- The reference's Merge. -/
theorem rmerge_ok (va vb : Value) (a b : List ByteArray) (w : World) (ha : StrS w va a) (hb : StrS w vb b) (la : a.length ≤ 2097152) (lb : b.length ≤ 2097152) (h1 : a.all vld = true) (h2 : b.all vld = true) (n1 : a.Nodup) (n2 : b.Nodup) :
    Calls Tryd.prog 27 #[va, vb] w fun e w' => ∃ v p q, e = .returned (.tuple #[v, p, q, .int .i64 0]) ∧ OwnS w' w.heap.size v (mrg a b) ∧ OwnN w' w.heap.size p (List.range a.length) ∧ OwnN w' w.heap.size q (qOf a b) ∧ Below w.heap.size w w' := by
  obtain ⟨i3, hi3, hz30, hz31, hz32⟩ := info_parts info3
  obtain ⟨i9, hi9, hz90, hz91, hz92⟩ := info_parts info9
  have HA := hide (And.intro ha hb)
  have HV := hide (And.intro h1 (And.intro h2 (And.intro n1 n2)))
  obtain ⟨a1, c1, rfl, r1⟩ := ha
  obtain ⟨a2, c2, rfl, r2⟩ := hb
  have HR := hide (And.intro r1 r2)
  have M0 := hide (Mq.start w)
  clear r1 r2 h1 h2 n1 n2
  go_enter Tryd.func27, Tryd.ntmps27
  go_wp2_with fail
  refine (all_yes _ a _ HA.out.1 (by omega) (hide (good_mem HV.out.1))).mono ?_
  rintro e w2 ⟨rfl, hw⟩
  obtain rfl := hw.symm
  clear hw
  go_wp2_with fail
  refine (all_yes _ b _ HA.out.2 (by omega) (hide (good_mem HV.out.2.1))).mono ?_
  rintro e w2 ⟨rfl, hw⟩
  obtain rfl := hw.symm
  clear hw
  go_wp2_with fail
  refine (once_yes _ a _ HA.out.1 (by omega) HV.out.2.2.1).mono ?_
  rintro e w2 ⟨rfl, hw⟩
  obtain rfl := hw.symm
  clear hw
  go_wp2_with fail
  refine (once_yes _ b _ HA.out.2 (by omega) HV.out.2.2.2).mono ?_
  rintro e w2 ⟨rfl, hw⟩
  obtain rfl := hw.symm
  clear hw
  go_wp2
  go_loopw [10, 11, 13] (fun av pv i wr => ∃ k : Nat, k ≤ a.length ∧ i = .int .i64 k ∧ Hid (Mq w av pv (.slice none 0 0) (a.take k) (ints (List.range k)) [] wr)) (fun _ _ i _ => a.length - (intOf i).toNat)
  case atStart => exact ⟨0, Nat.zero_le _, rfl, M0⟩
  case round =>
    obtain ⟨k, hk, rfl, M1⟩ := hrel
    clear M0
    by_cases hlt : k < a.length
    · obtain ⟨g, o, rfl, q1⟩ := (HR.out.1.below M1.out.D) k hlt
      obtain ⟨x, hx⟩ : ∃ x, x = a[k] := ⟨_, rfl⟩
      rw [← hx] at q1
      have HRK : Hid (a.take (k + 1) = a.take k ++ [x] ∧ ints (List.range (k + 1)) = ints (List.range k) ++ [(k : Int)]) := hide ⟨by rw [List.take_succ_eq_append_getElem hlt, hx], ints_range k⟩
      obtain ⟨al, hal⟩ : ∃ al, a.take k = al := ⟨_, rfl⟩
      obtain ⟨pl, hpl⟩ : ∃ pl, ints (List.range k) = pl := ⟨_, rfl⟩
      have hla : al.length = k := by rw [← hal, List.length_take]; omega
      have hlp : pl.length = k := by rw [← hpl, ints_length, List.length_range]
      rw [hal, hpl] at M1 HRK
      have i0 : (0 : Int) ≤ (k : Int) := by omega
      have i2 : (k : Int) < (a.length : Int) := by omega
      have hoa := M1.out.a
      rw [hla] at hoa
      have HLL := hide (And.intro hla hlp)
      clear hx hal hpl hla hlp
      go_wp2_with (at_builtin; refine wpList_append_own_at _ rfl _ _ _ rfl w.heap.size 9 i9 _ 1 16 Tryd.underlying22 hi9 hz90 hz91 hz92 rfl (by omega) u10 k (strV al) rfl (hoa.alloc _) ⟨wr.heap.size, 0, none⟩ 1 1 [.string x] rfl rfl (cell_one_new _ _ _) (strV_one [x]) (by unfold maxLen; omega) (by omega) (by have := M1.out.D.size; simp; omega) ?_)
      intro av' w3 ho hgr hnil hloc
      have M2 := hide (M1.out.nextA (by rw [HLL.out.1]; exact ho) hgr (hloc.imp id (fun h => by first | exact h | (rw [h]; simp))))
      have hop := M2.out.p
      rw [HLL.out.2] at hop
      clear ho hgr hnil hloc hoa
      go_wp2_with (at_builtin; refine wpList_append_own_at _ rfl _ _ _ rfl w.heap.size 3 i3 _ 1 8 Tryd.underlying28 hi3 hz30 hz31 hz32 rfl (by omega) u11 k (intW pl) rfl (hop.alloc _) ⟨w3.heap.size, 0, none⟩ 1 1 [.int .i64 (k : Int)] rfl rfl (cell_one_new _ _ _) (intW_one [(k : Int)]) (by unfold maxLen; omega) (by omega) (by have := M2.out.D.size; simp; omega) ?_)
      intro pv' w4 ho hgr hnil hloc
      have M3 := hide (M2.out.nextP (by rw [HLL.out.2]; exact ho) hgr (hloc.imp id (fun h => by first | exact h | (rw [h]; simp))))
      rw [← HRK.out.1, ← HRK.out.2] at M3
      clear ho hgr hnil hloc hop M2 M1
      go_wp2
      go_roundw
      case rel => exact ⟨k + 1, by omega, by go_num, M3⟩
      case measure => simp [intOf]; omega
    · have i2 : ¬ (k : Int) < (a.length : Int) := by omega
      have hke : k = a.length := by omega
      have M2 : Hid (Mq w u10 u11 (.slice none 0 0) (mrg a (b.take 0)) (ints (List.range a.length)) (ints ((qOf a b).take 0)) wr) := by
        rw [List.take_zero, mrg_nil]
        have := M1
        rw [hke, List.take_length] at this
        exact this
      clear M1 hke
      go_wp2
      go_loopw [10, 12, 14] (fun av qv i wr => ∃ k : Nat, k ≤ b.length ∧ i = .int .i64 k ∧ Hid (Mq w av u11 qv (mrg a (b.take k)) (ints (List.range a.length)) (ints ((qOf a b).take k)) wr)) (fun _ _ i _ => b.length - (intOf i).toNat)
      case atStart => exact ⟨0, Nat.zero_le _, rfl, M2⟩
      case round =>
        obtain ⟨j, hj, rfl, M1⟩ := hrel
        clear M2
        by_cases hlb : j < b.length
        · obtain ⟨g, o, rfl, q1⟩ := (HR.out.2.below M1.out.D) j hlb
          obtain ⟨x, hx⟩ : ∃ x, x = b[j] := ⟨_, rfl⟩
          rw [← hx] at q1
          have hjq : j < (qOf a b).length := by rw [qOf_length]; exact hlb
          have hqj : (qOf a b)[j] = (mrg a b).idxOf x := by simp [qOf, hx]
          have hq1 := ints_take (qOf a b) j hjq
          rw [hqj] at hq1
          have htk : b.take (j + 1) = b.take j ++ [x] := by rw [List.take_succ_eq_append_getElem hlb, hx]
          have hml : (mrg a (b.take j)).length ≤ 4194304 := by have := mrg_len a (b.take j); rw [List.length_take] at this; omega
          have hlq : (ints ((qOf a b).take j)).length = j := by rw [ints_length, List.length_take]; omega
          have i0 : (0 : Int) ≤ (j : Int) := by omega
          have j2 : (j : Int) < (b.length : Int) := by omega
          obtain ⟨ql, hql⟩ : ∃ ql, ints ((qOf a b).take j) = ql := ⟨_, rfl⟩
          rw [hql] at M1 hq1 hlq
          by_cases hin : x ∈ a
          · obtain ⟨m, hm⟩ : ∃ m, a.idxOf x = m := ⟨_, rfl⟩
            have e1 : mrg a (b.take (j + 1)) = mrg a (b.take j) := by rw [htk, mrg_snoc_old hin]
            have e2 : (mrg a b).idxOf x = m := by rw [q_old hin, hm]
            have e3 : (mrg a (b.take j)).idxOf x = m := by rw [q_old hin, hm]
            have e4 : x ∈ mrg a (b.take j) := mem_mrg.2 (.inl hin)
            rw [e2] at hq1
            have HX := hide (And.intro e1 (And.intro hq1 (And.intro e4 e3)))
            obtain ⟨al, hal⟩ : ∃ al, mrg a (b.take j) = al := ⟨_, rfl⟩
            rw [hal] at M1 HX hml
            have m0 : ¬ (m : Int) < 0 := by omega
            have HLL := hide (And.intro hlq hml)
            clear hal e1 e2 e3 e4 hq1 hm hin hx htk hql hqj hjq hml
            go_wp2_with fail
            refine (place_yes _ al x m _ (show OwnS _ _ _ al from M1.out.a).str HLL.out.2 HX.out.2.2.1 HX.out.2.2.2).mono ?_
            rintro e w2 ⟨rfl, hw⟩
            obtain rfl := hw.symm
            clear hw
            have hoq := M1.out.q
            rw [hlq] at hoq
            go_wp2_with (at_builtin; refine wpList_append_own_at _ rfl _ _ _ rfl w.heap.size 3 i3 _ 1 8 Tryd.underlying28 hi3 hz30 hz31 hz32 rfl (by omega) u12 j (intW ql) rfl (hoq.alloc _) ⟨wr.heap.size, 0, none⟩ 1 1 [.int .i64 (m : Int)] rfl rfl (cell_one_new _ _ _) (intW_one [(m : Int)]) (by unfold maxLen; omega) (by omega) (by have := M1.out.D.size; simp; omega) ?_)
            intro qv' w4 ho hgr hnil hloc
            have M3 := hide (M1.out.nextQ (by rw [HLL.out.1]; exact ho) hgr (hloc.imp id (fun h => by first | exact h | (rw [h]; simp))))
            rw [← HX.out.1, ← HX.out.2.1] at M3
            clear ho hgr hnil hloc hoq M1
            go_wp2
            go_roundw
            case rel => exact ⟨j + 1, by omega, by go_num, M3⟩
            case measure => simp [intOf]; omega
          · have hxa := hin
            have hn : x ∉ mrg a (b.take j) := by
              rw [mem_mrg]
              rintro (h3 | h3)
              · exact hin h3
              · obtain ⟨i, hi, hie⟩ := List.getElem_of_mem h3
                rw [List.getElem_take, hx] at hie
                have hi' : i < j := by simp at hi; omega
                have := (List.getElem_inj HV.out.2.2.2).1 hie
                omega
            have e1 : mrg a (b.take (j + 1)) = mrg a (b.take j) ++ [x] := by rw [htk, mrg_snoc_new hin]
            have e2 : (mrg a b).idxOf x = (mrg a (b.take j)).length := by
              have := q_new hlb HV.out.2.2.2 (a := a) (by rw [← hx]; exact hin)
              rw [← hx] at this
              exact this
            rw [e2] at hq1
            have HX := hide (And.intro e1 (And.intro hq1 hn))
            obtain ⟨al, hal⟩ : ∃ al, mrg a (b.take j) = al := ⟨_, rfl⟩
            rw [hal] at M1 HX hml
            have HLL := hide (And.intro hlq hml)
            obtain ⟨u, cu, eu, _⟩ := (show OwnS _ _ _ al from M1.out.a).str
            subst eu
            clear hal e1 e2 hq1 hin hx htk hql hqj hjq hn hxa
            go_wp2_with fail
            refine (place_no _ al x _ (show OwnS _ _ _ al from M1.out.a).str HLL.out.2 HX.out.2.2).mono ?_
            rintro e w2 ⟨rfl, hw⟩
            obtain rfl := hw.symm
            clear hw
            have hoa := M1.out.a
            go_wp2_with (at_builtin; refine wpList_append_own_at _ rfl _ _ _ rfl w.heap.size 9 i9 _ 1 16 Tryd.underlying22 hi9 hz90 hz91 hz92 rfl (by omega) (.slice u al.length cu) al.length (strV al) rfl (hoa.alloc _) ⟨wr.heap.size, 0, none⟩ 1 1 [.string x] rfl rfl (cell_one_new _ _ _) (strV_one [x]) (by unfold maxLen; omega) (by omega) (by have := M1.out.D.size; simp; omega) ?_)
            intro av' w3 ho hgr hnil hloc
            have M2 := hide (M1.out.nextA ho hgr (hloc.imp id (fun h => by first | exact h | (rw [h]; simp))))
            clear ho hgr hnil hloc hoa M1
            have hoq := M2.out.q
            rw [hlq] at hoq
            go_wp2_with (at_builtin; refine wpList_append_own_at _ rfl _ _ _ rfl w.heap.size 3 i3 _ 1 8 Tryd.underlying28 hi3 hz30 hz31 hz32 rfl (by omega) u12 j (intW ql) rfl (hoq.alloc _) ⟨w3.heap.size, 0, none⟩ 1 1 [.int .i64 (al.length : Int)] rfl rfl (cell_one_new _ _ _) (intW_one [(al.length : Int)]) (by unfold maxLen; omega) (by omega) (by have := M2.out.D.size; simp; omega) ?_)
            intro qv' w4 ho hgr hnil hloc
            have M3 := hide (M2.out.nextQ (by rw [HLL.out.1]; exact ho) hgr (hloc.imp id (fun h => by first | exact h | (rw [h]; simp))))
            rw [← HX.out.1, ← HX.out.2.1] at M3
            clear ho hgr hnil hloc hoq M2
            go_wp2
            go_roundw
            case rel => exact ⟨j + 1, by omega, by go_num, M3⟩
            case measure => simp [intOf]; omega
        · have j2 : ¬ (j : Int) < (b.length : Int) := by omega
          have hje : j = b.length := by omega
          have F : Hid (OwnS wr w.heap.size u10 (mrg a b) ∧ OwnN wr w.heap.size u11 (List.range a.length) ∧ OwnN wr w.heap.size u12 (qOf a b) ∧ Below w.heap.size w wr) := by
            have hM := M1.out
            have ht : (qOf a b).take j = qOf a b := List.take_of_length_le (by rw [qOf_length]; omega)
            rw [ht, hje, List.take_length] at hM
            have hp := hM.p
            have hq := hM.q
            rw [ints_W, ints_length] at hp hq
            exact hide ⟨hM.a, hp, hq, hM.D⟩
          clear M1 hje
          go_wp2
          (try simp only [Exit.inBlock, Exit.then])
          refine bodyPost_ret (results_tmp4 rfl _ _ _) rfl ?_
          exact ⟨_, _, _, rfl, F.out⟩

end Go.Proofs.YtnfdifkcchciaaaDoor
