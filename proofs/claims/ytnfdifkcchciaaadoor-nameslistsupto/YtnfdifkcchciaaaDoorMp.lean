import Derived.Test.YtnfdifkcchciaaaDoorMok
namespace Go.Proofs.YtnfdifkcchciaaaDoor
open Go.RowKit Go.Maps

set_option maxRecDepth 100000 in
set_option maxHeartbeats 4000000 in
theorem merge_okp (va vb : Value) (a b : List ByteArray) (w : World) (ha : StrS w va a) (hb : StrS w vb b) (la : a.length ≤ 2097152) (lb : b.length ≤ 2097152) (sa : Sml a) (sb : Sml b)
    (h1 : a.all vld = true) (h2 : b.all vld = true) (n1 : a.Nodup) (n2 : b.Nodup) (hT : BytesAt w) (hw0 : 0 < w.heap.size) :
    Calls Tryd.prog 16 #[va, vb] w fun e w' => ∃ v p q, e = .returned (.tuple #[v, p, q, .int .i64 0]) ∧ OwnS w' w.heap.size v (mrg a b) ∧ OwnN w' w.heap.size p (List.range a.length) ∧ OwnN w' w.heap.size q (qOf a b) ∧ (∀ b, p.ownBlock = some b → q.ownBlock ≠ some b) ∧ Below w.heap.size w w' := by
  obtain ⟨i3, hi3, hz30, hz31, hz32⟩ := info_parts info3
  obtain ⟨i9, hi9, hz90, hz91, hz92⟩ := info_parts info9
  have HT := hide hT
  have NN := hide (And.intro n1 n2)
  have n1' : (!decide a.Nodup) = false := by simp [n1]
  have n2' : (!decide b.Nodup) = false := by simp [n2]
  have SS := hide (And.intro sa sb)
  have HA := hide (And.intro ha hb)
  obtain ⟨a1, c1, rfl, r1⟩ := ha
  obtain ⟨a2, c2, rfl, r2⟩ := hb
  have HR := hide r2
  clear hT n1 n2 sa sb r1 r2
  go_enter Tryd.func16, Tryd.ntmps16
  go_wp2_with fail
  refine (allValid_any _ a _ HA.out.1 (by omega) HT.out hw0).mono ?_
  rintro e w1 ⟨rfl, d⟩
  rw [h1]
  go_wp2_with fail
  refine (allValid_any _ b _ (HA.out.2.below d) (by omega) (HT.out.below d hw0) (Nat.lt_of_lt_of_le hw0 d.size)).mono ?_
  rintro e w2 ⟨rfl, d2⟩
  rw [h2]
  replace d := d.trans (d2.mono d.size)
  clear d2
  go_wp2_with fail
  refine (holdsTwice_any _ a _ (HA.out.1.below d) SS.out.1).mono ?_
  rintro e w3 ⟨rfl, d3⟩
  rw [n1']
  replace d := d.trans (d3.mono d.size)
  clear d3
  go_wp2_with fail
  refine (holdsTwice_any _ b _ (HA.out.2.below d) SS.out.2).mono ?_
  rintro e w4 ⟨rfl, d4⟩
  rw [n2']
  replace d := d.trans (d4.mono d.size)
  clear d4
  go_wp2_with fail
  refine (clone_any _ a _ (HA.out.1.below d) (by omega)).mono ?_
  rintro e w5 ⟨v, rfl, ov, d5⟩
  have ov' := ov.mono d.size
  have vlt : ∀ k, v.ownBlock = some k → k < w5.heap.size := fun k hk => (World.ownsRow.lt ov k hk).2
  replace d := d.trans (d5.mono d.size)
  clear d5 ov
  go_wp2_with fail
  refine (firstPlaces_any _ a _ (HA.out.1.below d) SS.out.1).mono ?_
  rintro e w6 ⟨rfl, pl, d6⟩
  have ov := ov'.below d6
  have hlt6 : w5.heap.size < w6.heap.size := by obtain ⟨D, o, _⟩ := pl; exact o.lt
  replace d := d.trans (d6.mono d.size)
  have HV := hide (And.intro ov (And.intro pl (And.intro vlt hlt6)))
  have HD := hide d
  clear d6 ov ov' pl vlt hlt6 d
  go_wp2_with (at_make; refine wpList_make_full _ rfl _ _ 28 rfl w6.heap.size 3 i3 (.int .i64 0) 1 Tryd.underlying28 hi3 hz30 hz31 _ _ _ _ a.length rfl rfl rfl rfl ?_ ?_ ?_ ?_)
  · rw [hz32]; omega
  · unfold maxLen; omega
  · exact Nat.le_refl _
  · intro w7 hp hg
    rw [toList_madeCells_one, ← List.length_range (n := a.length), ← fillTo_zero (List.range a.length), List.length_range] at hp
    have d7 : Below w6.heap.size w6 w7 := (Below.refl _ _).grown hg (Nat.le_refl _) (by intro k hk; cases hk)
    have HP := hide (And.intro hp d7)
    have hge7 : w6.heap.size < w7.heap.size := (hp.lt _ rfl).2
    clear hp hg d7
    go_wp2
    go_loopw [40] (fun i wr => ∃ k : Nat, k ≤ a.length ∧ i = .int .i64 k ∧ wr.ownsRow w6.heap.size 3 1 (.slice (some ⟨w6.heap.size, 0, none⟩) a.length a.length) a.length (intV (fillTo (List.range a.length) k)) ∧ Below w6.heap.size w6 wr) (fun i _ => a.length - (intOf i).toNat)
    case atStart => exact ⟨0, Nat.zero_le _, rfl, HP.out.1, HP.out.2⟩
    case round =>
      obtain ⟨k, hk, rfl, hp, dr⟩ := hrel
      clear HP
      by_cases hlt : k < a.length
      · have i0 : (0 : Int) ≤ (k : Int) := by omega
        have i2 : (k : Int) < (a.length : Int) := by omega
        obtain ⟨u, hu⟩ : ∃ u, wr.cell? ⟨w6.heap.size, k, none⟩ = some u := ⟨_, (hp.cellAt k (by omega)).trans (List.getElem?_eq_getElem (by rw [intV_length, fillTo_length _ _ (by simp; omega)]; simp; omega))⟩
        have hf : wr.frozen? ⟨w6.heap.size, k, none⟩ = false := hp.frozenAt _
        have HP := hide (And.intro hp dr)
        clear hp dr
        go_wp2
        go_roundw
        case rel =>
          refine ⟨k + 1, by omega, by go_num, ?_, HP.out.2.setCell (Nat.le_refl _) _⟩
          have := (HP.out.1.stored k (.int .i64 (k : Int))).1
          rwa [fillTo_set _ k (by simp; omega) _ (by simp)] at this
        case measure => simp [intOf]; omega
      · have i2 : ¬ (k : Int) < (a.length : Int) := by omega
        have hke : k = a.length := by omega
        have hp' : wr.ownsRow w6.heap.size 3 1 (.slice (some ⟨w6.heap.size, 0, none⟩) a.length a.length) a.length (intV (List.range a.length)) := by
          have e := fillTo_full (List.range a.length)
          rw [List.length_range] at e
          rw [hke, e] at hp
          exact hp
        have hpl : Pls wr w5.heap.size a.length a := HV.out.2.1.below dr
        have hov : OwnS wr w.heap.size v a := HV.out.1.below dr
        have dd : Below w.heap.size w wr := HD.out.trans (dr.mono HD.out.size)
        have hgp : w6.heap.size < wr.heap.size := (hp'.lt _ rfl).2
        have HP := hide (And.intro hp' (And.intro hpl (And.intro hov dd)))
        clear hp hp' hpl hov dd dr hke
        go_wp2_with (at_make; refine wpList_make_full _ rfl _ _ 28 rfl wr.heap.size 3 i3 (.int .i64 0) 1 Tryd.underlying28 hi3 hz30 hz31 _ _ _ _ b.length rfl rfl rfl rfl (by rw [hz32]; omega) (by unfold maxLen; omega) (Nat.le_refl _) ?_)
        · intro w8 hq hg
          rw [toList_madeCells_one, ← qOf_length a b, ← fillTo_zero (qOf a b), qOf_length] at hq
          have d8 : Below wr.heap.size wr w8 := (Below.refl _ _).grown hg (Nat.le_refl _) (by intro k hk; cases hk)
          have hge8 : wr.heap.size < w8.heap.size := (hq.lt _ rfl).2
          have MG : Mg w a b w5.heap.size w6.heap.size wr.heap.size a.length b.length 0 v w8 := by
            obtain ⟨p1, p2, p3, p4⟩ := HP.out
            obtain ⟨v1, v2, v3, v4⟩ := HV.out
            have hd := HD.out.size
            have vne : ∀ g, w5.heap.size ≤ g → v.ownBlock ≠ some g := fun g hg e => by have := v3 g e; omega
            refine ⟨?_, vne _ (by omega), vne _ (by omega), vne _ (by omega), row_mono (row_below p1 d8) hd, row_mono hq (by have := p4.size; omega), p2.below d8, p4.trans (d8.mono p4.size), by omega, by omega, by omega, by omega, by omega⟩
            rw [List.take_zero, mrg_nil]; exact p3.below d8
          have HM := hide MG
          clear hq hg d8 MG HP HV hge8
          generalize wr.heap.size = gq at HM ⊢
          go_wp2
          go_loopw [8, 53] (fun vv i wr => ∃ k : Nat, k ≤ b.length ∧ i = .int .i64 k ∧ Hid (Mg w a b w5.heap.size w6.heap.size gq a.length b.length k vv wr)) (fun _ i _ => b.length - (intOf i).toNat)
          case atStart => exact ⟨0, Nat.zero_le _, rfl, HM⟩
          case round =>
            obtain ⟨k, hk, rfl, MG⟩ := hrel
            clear HM
            by_cases hlb : k < b.length
            · obtain ⟨g, o, rfl, q1⟩ := (HR.out.below MG.out.below) k hlb
              have j0 : (0 : Int) ≤ (k : Int) := by omega
              have j2 : (k : Int) < (b.length : Int) := by omega
              have hsz : (b[k]).size ≤ 1048576 := SS.out.2.2 _ (List.getElem_mem hlb)
              obtain ⟨s, hs⟩ : ∃ s, s = b[k] := ⟨_, rfl⟩
              rw [← hs] at q1 hsz
              have hkey := key_mk hsz
              obtain ⟨D, hown, hpl⟩ := MG.out.pl
              have hlq : (intV (fillTo (qOf a b) k)).length = b.length := by rw [intV_length, fillTo_length _ _ (by rw [qOf_length]; omega), qOf_length]
              by_cases hm : s ∈ a
              · have hh : Maps.has D (kOf s) = true := by rw [hpl.has]; exact mem_c.2 hm
                have hat' := hpl.at_ s hm (.lit (.int .i64 0))
                obtain ⟨u, hu⟩ : ∃ u, wr.cell? ⟨gq, k, none⟩ = some u := ⟨_, (MG.out.q.cellAt k (by omega)).trans (List.getElem?_eq_getElem (by omega))⟩
                have hf : wr.frozen? ⟨gq, k, none⟩ = false := MG.out.q.frozenAt _
                have HH := hide (And.intro hm (And.intro hs hat'))
                clear hm hs hat' hpl hlq
                go_wp2_with (at_lookup; refine wpList_lookup_own_ok_int _ rfl _ _ 71 rfl 9 3 .i64 law Tryd.underlying71 Tryd.underlying3 (zero3 _) w5.heap.size a.length D rfl hown _ _ rfl hkey ?_; intro c hat hwc; rw [hh])
                go_roundw
                case rel =>
                  obtain ⟨hm, hs, hat'⟩ := HH.out
                  refine ⟨k + 1, by omega, by go_num, hide (MG.out.old hlb rfl (hs ▸ hm) c ?_)⟩
                  rw [hat'] at hat
                  injection hat with e
                  injection e with _ e
                  rw [← hs]; exact e.symm
                case measure => simp [intOf]; omega
              · have hh : Maps.has D (kOf s) = false := by rw [hpl.has]; exact not_mem_c.2 hm
                have HH := hide (And.intro hm hs)
                have hL := mrg_len a (b.take k)
                have hL2 : (b.take k).length ≤ b.length := by simp; omega
                have hL3 : (mrg a (b.take k)).length ≤ 4194304 := by omega
                obtain ⟨ao, cp, rfl, _⟩ := MG.out.all.str
                obtain ⟨n, hn⟩ : ∃ n, n = (mrg a (b.take k)).length := ⟨_, rfl⟩
                have hov : wr.ownsRow w.heap.size 9 1 (.slice ao n cp) n (strV (mrg a (b.take k))) := by rw [hn]; exact MG.out.all
                have hn4 : n ≤ 4194304 := by omega
                rw [← hn] at MG
                rw [← hn]
                have HN := hide (And.intro hn hlq)
                clear hm hs hpl hL hL2 hL3 hlq hn
                have hws := MG.out.below.size
                go_wp2_with (first
                  | (at_lookup; refine wpList_lookup_own_ok_int _ rfl _ _ 71 rfl 9 3 .i64 law Tryd.underlying71 Tryd.underlying3 (zero3 _) w5.heap.size a.length D rfl hown _ _ rfl hkey ?_; intro c hat hwc; rw [hh])
                  | (at_builtin; refine wpList_append_own_at _ rfl _ _ _ rfl w.heap.size 9 i9 _ 1 16 Tryd.underlying22 hi9 hz90 hz91 hz92 rfl (by omega) (.slice ao n cp) n (strV (mrg a (b.take k))) rfl (hov.alloc _) ⟨wr.heap.size, 0, none⟩ 1 1 [.string s] rfl rfl (cell_one_new _ _ _) (strV_one [s]) (by unfold maxLen; omega) (by omega) (by simp; omega) ?_))
                intro v' w9 ho hgr hnil hloc
                obtain ⟨hm, hs⟩ := HH.out
                obtain ⟨hn, hlq⟩ := HN.out
                have hq9 : w9.ownsRow w.heap.size 3 1 (.slice (some ⟨gq, 0, none⟩) b.length b.length) b.length (intV (fillTo (qOf a b) k)) := World.ownsRow.kept (MG.out.q.alloc _) hgr (.inr (fun e => MG.out.nq (by simpa [Value.ownBlock] using e.symm)))
                obtain ⟨u, hu⟩ : ∃ u, w9.cell? ⟨gq, k, none⟩ = some u := ⟨_, (hq9.cellAt k (by omega)).trans (List.getElem?_eq_getElem (by omega))⟩
                have hf : w9.frozen? ⟨gq, k, none⟩ = false := hq9.frozenAt _
                have HO := hide (And.intro ho (And.intro hgr hloc))
                clear ho hgr hnil hloc hm hs hn hlq hq9 hov
                go_wp2
                go_roundw
                case rel =>
                  obtain ⟨hm, hs⟩ := HH.out
                  obtain ⟨hn, hlq⟩ := HN.out
                  obtain ⟨ho, hgr, hloc⟩ := HO.out
                  subst hs
                  refine ⟨k + 1, by omega, by go_num, hide (MG.out.new hlb rfl hm NN.out.2 _ v' w9 ?_ hgr (hloc.imp id (fun h => by rw [h]; simp)) _ ?_)⟩
                  · rw [← hn]; exact ho
                  · rw [hn]
                case measure => simp [intOf]; omega
            · have j2 : ¬ (k : Int) < (b.length : Int) := by omega
              have hke : k = b.length := by omega
              have HK := hide hke
              clear hke
              go_wp2
              (try simp only [Exit.inBlock, Exit.then])
              refine bodyPost_ret (results_tmp4 rfl _ _ _) rfl ?_
              have M := MG.out
              rw [HK.out] at M
              refine ⟨_, _, _, rfl, ?_, ?_, ?_, fun b h1 h2 => ?_, M.below⟩
              · have := M.all; rwa [List.take_length] at this
              · have := M.p
                show World.ownsRow _ _ _ _ _ (List.range a.length).length _
                rw [List.length_range]; exact this
              · have := M.q
                have e := fillTo_full (qOf a b)
                rw [qOf_length] at e
                rw [e] at this
                show World.ownsRow _ _ _ _ _ (qOf a b).length _
                rw [qOf_length]; exact this
              · have hpq := M.pq
                simp [Value.ownBlock] at h1 h2
                omega

end Go.Proofs.YtnfdifkcchciaaaDoor
