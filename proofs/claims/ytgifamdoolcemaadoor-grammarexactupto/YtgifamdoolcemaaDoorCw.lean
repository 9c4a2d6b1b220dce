import Derived.Test.YtgifamdoolcemaaDoorCm
namespace Go.Proofs.YtgifamdoolcemaaDoor
open Go.RowKit Go.Maps

theorem OwnB.cell {w : World} {B cp : Nat} {ao : Option Addr} {l : List Nat} (h : OwnB w B (.slice ao l.length cp) l) (k : Nat) (hk : k < l.length) : ∃ g, ao = some ⟨g, 0, none⟩ ∧ w.cell? ⟨g, k, none⟩ = some (.int .u8 (l[k] : Nat)) := by
  rcases h.2 with ⟨he, hn⟩ | ⟨g, cap, cur, he, hb, hg, hnc, hcm, hcs, htake⟩
  · omega
  · cases he
    refine ⟨g, rfl, ?_⟩
    have h' : w.ownsRow B 5 1 (.slice (some ⟨g, 0, none⟩) l.length cp) l.length (bytV l) := h
    rw [h'.cellAt k (by omega)]
    simp [bytV, List.getElem?_eq_getElem hk]
theorem spot_alloc (w : World) (x y : Nat) : SpotAt (w.alloc (.cells #[.int .u8 (x : Nat), .int .i64 (y : Nat)] 37)) w.heap.size (x, y) := (MapKept.heap_alloc _ _).1
theorem SpotAt.grown {w w' : World} {b : Nat} {s : Nat × Nat} {row : Option Nat} (h : SpotAt w b s) (hg : w.grownBy w' row) (hne : row ≠ some b) : SpotAt w' b s := (hg.block b h.lt (fun e => hne e.symm)).trans h

theorem rise {s : Nat × Nat} {fl : List Nat} {k c : Nat} (h : folF s = fl) (hk : k < fl.length) (hc : fl[k] = c) : ∀ x ∈ fl.take k, x < c := by
  subst h
  subst hc
  exact fol_lt s k hk

/-- What the inner loop holds. -/
structure Inn (w0 w1 w : World) (s0 : Nat × Nat) (v : Value) (M : List Mk) (i : Nat) (m : Mk) (fl : List Nat) (k : Nat) (v31 : Value) : Prop where
  s : Srch w0 w s0 v M i (fl.take k)
  at_ : M[i]? = some m
  own : OwnB w w1.heap.size v31 fl
  ne1 : ∀ x, v31.ownBlock = some x → v.ownBlock ≠ some x
  ne2 : ∀ x, v31.ownBlock = some x → x ≠ w0.heap.size + 1 + 1

set_option maxRecDepth 100000 in
set_option maxHeartbeats 2000000 in
theorem completion_any (s0 : Nat × Nat) (w : World) (hT : RowsAt w) (hw0 : 0 < w.heap.size) (hs : okS s0 = true) :
    Calls Tryd.prog 17 #[spV s0] w fun e w' => e = .returned (.string (strB (compF s0))) ∧ Below w.heap.size w w' := by
  obtain ⟨i53, hi53, hz530, hz531, hz532⟩ := info_parts info53
  have HT := hide hT
  have HS := hide hs
  have hmm := @run_makeMap Tryd.prog
  obtain ⟨p, r⟩ := s0
  have hmk := made_map w (p, r) hs (.cells #[.int .u8 (p : Nat), .int .i64 (r : Nat)] 37) (.cells #[.int .u8 (p : Nat), .int .i64 (r : Nat), .int .u8 0, .int .i64 0] 53)
  unfold spV at hmk ⊢
  simp only at hmk ⊢
  obtain ⟨wI, hins, hseen, hgI⟩ := hmk
  have HI := hide (And.intro hseen hgI)
  clear hT hs hseen hgI
  go_enter Tryd.func17, Tryd.ntmps17
  go_wp2
  go_loopw [3, 5] (fun v iv wr => ∃ (M : List Mk) (i g cap : Nat), v = .slice (some ⟨g, 0, none⟩) M.length cap ∧ iv = .int .i64 i ∧ i < M.length ∧ M.length ≤ 544 ∧ Hid (Srch w wr (p, r) v M i [])) (fun _ iv _ => 544 - (intOf iv).toNat)
  case atStart =>
    refine ⟨[⟨(p, r), 0, 0, []⟩], 0, w.heap.size + 1, 1, rfl, rfl, by simp, by simp, hide ⟨Bfs.start HS.out, ?_, HI.out.1, by simp [Value.ownBlock], ?_⟩⟩
    · refine ⟨by simp [mrkV, mk4], .inr ⟨w.heap.size + 1, 1, #[.int .u8 (p : Nat), .int .i64 (r : Nat), .int .u8 0, .int .i64 0], rfl, Nat.le_refl _, ?_, by simp, by simp [maxLen], by simp, by simp [mrkV, mk4]⟩⟩
      exact (HI.out.2.block (w.heap.size + 1) (by simp) (by simp)).trans (at_1 _ _ _ _)
    · exact (below3 w _ _ _).grown HI.out.2 (by simp; omega) (fun k hk => by cases hk; omega)
  case round =>
    obtain ⟨M, i, g, cap, rfl, rfl, hi, hM, HH⟩ := hrel
    clear hins HI hmm
    obtain ⟨m, hm⟩ : ∃ m, M[i]? = some m := ⟨_, List.getElem?_eq_getElem hi⟩
    obtain ⟨q1, q2, -, -⟩ := (OwnM.mrk HH.out.own) i m hm
    obtain ⟨a, b, hab⟩ : ∃ a b, m.sp = (a, b) := ⟨_, _, rfl⟩
    have hok : okS (a, b) = true := by rw [← hab]; exact HH.out.bfs.oks m (List.mem_of_getElem? hm)
    rw [hab] at q1 q2
    simp only at q1 q2
    have i1 : (0 : Int) ≤ (i : Int) := by omega
    have i2 : (i : Int) < (M.length : Int) := by omega
    have hgl : w.heap.size + 1 ≤ g ∧ g < wr.heap.size := World.ownsRow.lt HH.out.own g rfl
    have hT' := fun (w1 : World) (h : Below w.heap.size w w1) => HT.out.below h hw0
    obtain ⟨fl, hfl⟩ : ∃ fl, folF (a, b) = fl := ⟨_, rfl⟩
    have hfl256 : fl.length ≤ 256 := by rw [← hfl]; exact fol_len _
    have HFL := hide hfl
    have HM := hide (And.intro hm (And.intro hab hok))
    have hfile := fun W h1 h2 => isF_any (a, b) W h1 h2 hok
    have hfollow := fun W h1 h2 => fol_any (a, b) W h1 h2 hok
    rw [hfl] at hfollow
    clear hfl
    unfold spV at hfile hfollow
    simp only at hfile hfollow
    have HT' := hide hT'
    clear hm hab hok hT'
    cases hf : isF (a, b)
    · have HF := hide hf
      go_wp2_with fail
      refine (hfile _ (HT'.out _ HH.out.bel) (Nat.lt_of_lt_of_le hw0 HH.out.bel.size)).mono ?_
      rintro e w1 ⟨rfl, d⟩
      rw [hf]
      have H1 := hide (HH.out.below d)
      obtain ⟨q1', q2', -, -⟩ := (OwnM.mrk H1.out.own) i m HM.out.1
      rw [HM.out.2.1] at q1' q2'
      simp only at q1' q2'
      clear d q1 q2 hfile hf HH
      go_wp2_with fail
      refine (hfollow _ (HT'.out _ H1.out.bel) (Nat.lt_of_lt_of_le hw0 H1.out.bel.size)).mono ?_
      rintro e w2 ⟨v31, rfl, ho31, d2⟩
      have H2 := hide (H1.out.below d2)
      have hg31 : ∀ x, v31.ownBlock = some x → w1.heap.size ≤ x := fun x hx => (World.ownsRow.lt ho31 x hx).1
      obtain ⟨ao, cp, hv31, -⟩ := ho31.reads
      have HO := hide (And.intro ho31 hg31)
      subst hv31
      clear q1' q2' hfollow d2 ho31 hg31
      go_wp2
      go_loopw [3, 33] (fun v kv wr2 => ∃ (M' : List Mk) (k g' cap' : Nat), v = .slice (some ⟨g', 0, none⟩) M'.length cap' ∧ kv = .int .i64 k ∧ k ≤ fl.length ∧ i < M'.length ∧ M'.length ≤ 544 ∧ Hid (Inn w w1 wr2 (p, r) v M' i m fl k (.slice ao fl.length cp))) (fun _ kv _ => fl.length - (intOf kv).toNat)
      case atStart =>
        have hg1 : g < w1.heap.size := (World.ownsRow.lt H1.out.own g rfl).2
        have hb1 : w.heap.size + 1 + 1 < w1.heap.size := by obtain ⟨D, n, hm, _⟩ := H1.out.seen; exact hm.lt
        refine ⟨M, 0, g, cap, rfl, rfl, Nat.zero_le _, hi, hM, hide ⟨by simpa using H2.out, HM.out.1, HO.out.1, fun x hx e => ?_, fun x hx e => ?_⟩⟩
        · have := HO.out.2 x hx
          simp [Value.ownBlock] at e
          omega
        · have := HO.out.2 x hx
          omega
      case round =>
        obtain ⟨M', k, g', cap', rfl, rfl, hk, hi', hM', HH⟩ := hrel
        clear H2 HO
        by_cases hlt : k < fl.length
        · obtain ⟨g31, hao, q0⟩ := HH.out.own.cell k hlt
          obtain ⟨q1, q2, -, -⟩ := (OwnM.mrk HH.out.s.own) i m HH.out.at_
          rw [HM.out.2.1] at q1 q2
          simp only at q1 q2
          obtain ⟨c, hc⟩ : ∃ c, fl[k] = c := ⟨_, rfl⟩
          rw [hc] at q0
          subst hao
          have j1 : (0 : Int) ≤ (k : Int) := by omega
          have j2 : (k : Int) < (fl.length : Int) := by omega
          have j3 : (i : Int) < (M'.length : Int) := by omega
          have hcm : c ∈ fl := hc ▸ List.getElem_mem hlt
          have hcs : (stepF (a, b) c).1 ≠ 0 := by rw [← HFL.out] at hcm; exact mem_fol.1 hcm
          have hst := fun W h1 h2 => step_any (a, b) c W h1 h2 HM.out.2.2 (step_lt hcs)
          unfold spV at hst
          simp only at hst
          have hok2 : okS (stepF (a, b) c) = true := step_ok HM.out.2.2 hcs
          have HC := hide (And.intro hc (And.intro hcs hok2))
          clear hc hcm hcs hok2
          go_wp2_with fail
          refine (hst _ (HT'.out _ HH.out.s.bel) (Nat.lt_of_lt_of_le hw0 HH.out.s.bel.size)).mono ?_
          rintro e w3 ⟨rfl, d3⟩
          obtain ⟨x, y, hxy⟩ : ∃ x y, stepF (a, b) c = (x, y) := ⟨_, _, rfl⟩
          have HXY := hide hxy
          rw [hxy]
          simp only
          have hok2 : okS (x, y) = true := by rw [← hxy]; exact HC.out.2.2
          have hkey := key37 (x, y) hok2
          unfold spV at hkey
          simp only at hkey
          have d4 : Below wr.heap.size wr (w3.alloc (.cells #[.int .u8 (x : Nat), .int .i64 (y : Nat)] 37)) := d3.alloc d3.size _
          have hs4 := HH.out.s.below d4
          have ho4 := HH.out.own.below d4
          obtain ⟨D, n, hown, hn, hsn⟩ := hs4.seen
          have hh0 := hsn.has (x, y) hok2
          have HS4 := hide (And.intro hs4 (And.intro ho4 hsn))
          have H3 := hide d3.size
          clear hst hxy d3 d4 hs4 ho4 q0 q1 q2 hok2 hsn
          by_cases hin : (x, y) ∈ M'.map Mk.sp
          · have hh : Maps.has D (kS (x, y)) = true := by rw [hh0]; exact decide_eq_true hin
            have HIN := hide hin
            clear hin hh0
            go_wp2_with (at_lookup; refine wpList_lookup_own_ok_int _ rfl _ _ 55 rfl 37 3 .i64 law37 Tryd.underlying55 Tryd.underlying3 (zero3 _) (w.heap.size + 1 + 1) n D rfl hown _ _ rfl hkey ?_; intro cc hat hwc; rw [hh])
            go_roundw
            case rel =>
              obtain ⟨hs4, ho4, hsn⟩ := HS4.out
              have hc := HC.out.1
              refine ⟨M', k + 1, g', cap', rfl, by go_num, by omega, hi', hM', hide ⟨⟨?_, hs4.own, hs4.seen, hs4.apart, hs4.bel⟩, HH.out.at_, ho4, HH.out.ne1, HH.out.ne2⟩⟩
              rw [List.take_succ_eq_append_getElem hlt, hc]
              exact hs4.bfs.old HH.out.at_ (rise HFL.out hlt hc) (by rw [HM.out.2.1, HXY.out]; exact HIN.out)
            case measure => simp [intOf]; omega
          · have hh : Maps.has D (kS (x, y)) = false := by rw [hh0]; exact decide_eq_false hin
            have HIN := hide hin
            clear hin hh0
            have hu : ∀ w5 : World, (w3.alloc (.cells #[.int .u8 (x : Nat), .int .i64 (y : Nat)] 37)).grownBy w5 (some (w.heap.size + 1 + 1)) → (w5.cell? ⟨w3.heap.size, 0, none⟩ = some (.int .u8 (x : Nat)) ∧ w5.cell? ⟨w3.heap.size, 1, none⟩ = some (.int .i64 (y : Nat))) ∧ OwnM w5 (w.heap.size + 1) (.slice (some ⟨g', 0, none⟩) M'.length cap') M' ∧ w.heap.size + 1 ≤ w5.heap.size := fun w5 hg5 => by
              have hlt3 : w.heap.size + 1 + 1 < w3.heap.size := by
                obtain ⟨D1, n1, h1, _⟩ := HH.out.s.seen
                exact Nat.lt_of_lt_of_le h1.lt H3.out
              have hsp := (spot_alloc w3 x y).grown hg5 (by simp; omega)
              have hsz := hg5.size
              simp at hsz
              exact ⟨⟨hsp.facts.1, hsp.facts.2.1⟩, World.ownsRow.kept HS4.out.1.own hg5 (.inr HS4.out.1.apart), by omega⟩
            have HU := hide hu
            clear hu
            go_wp2_with (first
              | (at_lookup; refine wpList_lookup_own_ok_int _ rfl _ _ 55 rfl 37 3 .i64 law37 Tryd.underlying55 Tryd.underlying3 (zero3 _) (w.heap.size + 1 + 1) n D rfl hown _ _ rfl hkey ?_; intro cc hat hwc; rw [hh])
              | (at_mapUpdate; refine wpList_mapUpdate_own _ rfl _ _ _ 55 rfl 37 3 law37 Tryd.underlying55 _ (w.heap.size + 1 + 1) n D rfl hown (by unfold maxLen; omega) _ _ _ rfl rfl hkey _ [] (plainElem_int Tryd.underlying3 (WalkArith.wf_i64 (by omega))) ?_; intro w5 hm5 hg5; obtain ⟨⟨k0, k1⟩, ho5, hz5⟩ := HU.out w5 hg5)
              | (at_builtin; refine wpList_append_own_at _ rfl _ _ _ rfl (w.heap.size + 1) 53 i53 _ 4 32 Tryd.underlying54 hi53 hz530 hz531 hz532 rfl (by omega) (.slice (some ⟨g', 0, none⟩) M'.length cap') M'.length (mrkV M') rfl (World.ownsRow.alloc ho5 _) ⟨w5.heap.size, 0, none⟩ 1 1 (mk4 ⟨(x, y), c, i, m.way ++ [c]⟩) rfl rfl (cells4_new _ _ _ _ _) (mk4_one _) (by unfold maxLen; omega) (by omega) (by simp; omega) ?_; intro v' w6 ho6 hg6 hnil6 hloc6; obtain ⟨gv, cv, hv6, _, _⟩ := ho6.form (by omega); subst hv6))
            go_roundw
            case rel =>
              obtain ⟨hs4, ho4, hsn⟩ := HS4.out
              obtain ⟨hc, hcs, hok2⟩ := HC.out
              have hms := HM.out.2.1
              have hxy := HXY.out
              rw [hxy] at hok2
              have hbfs := hs4.bfs.new HH.out.at_ (rise HFL.out hlt hc) (by rw [hms]; exact hcs) (by rw [hms, hxy]; exact HIN.out)
              rw [hms, hxy] at hbfs
              have hbn := hbfs.size
              rw [List.length_append, List.length_singleton] at hbn
              have hg56 : w5.grownBy w6 (some g') := (World.grownBy_alloc _ _ _).trans hg6
              have hap : g' ≠ w.heap.size + 1 + 1 := fun e => hs4.apart (by simp [Value.ownBlock, e])
              have hg'l : w.heap.size + 1 ≤ g' := (World.ownsRow.lt hs4.own g' rfl).1
              have hlt3 : w.heap.size + 1 + 1 < w5.heap.size := hm5.lt
              have h31 : g31 < w5.heap.size := by
                have h1 := (World.ownsRow.lt ho4 g31 rfl).2
                have h2 := hg5.size
                omega
              have hn1 : g' ≠ g31 := fun e => HH.out.ne1 g31 rfl (by simp [Value.ownBlock, e])
              have hn2 : g31 ≠ w.heap.size + 1 + 1 := HH.out.ne2 g31 rfl
              have hgv : gv = g' ∨ gv = w5.heap.size + 1 := by
                rcases hloc6 with e | e
                · left; simpa [Value.ownBlock] using e
                · right; simpa [Value.ownBlock] using e
              refine ⟨M' ++ [⟨(x, y), c, i, m.way ++ [c]⟩], k + 1, gv, cv, by simp, by go_num, by omega, by simp; omega, by simp; omega, hide ⟨⟨?_, ?_, ?_, ?_, ?_⟩, get_snoc _ HH.out.at_, ?_, ?_, ?_⟩⟩
              · rw [List.take_succ_eq_append_getElem hlt, hc]
                exact hbfs
              · unfold OwnM
                rw [mrkV_snoc, List.length_append, List.length_singleton]
                exact ho6
              · exact ⟨_, n + 1, hm5.kept hg56 (by simp; omega), by simp; omega, hsn.new ⟨(x, y), c, i, m.way ++ [c]⟩ _ hok2⟩
              · simp [Value.ownBlock]; omega
              · exact (hs4.bel.grown hg5 hs4.bel.size (fun j hj => by cases hj; omega)).grown hg56 (by omega) (fun j hj => by cases hj; omega)
              · exact World.ownsRow.kept (World.ownsRow.kept ho4 hg5 (.inr (by simp [Value.ownBlock]; omega))) hg56 (.inr (by simp [Value.ownBlock]; omega))
              · intro j hj e
                simp [Value.ownBlock] at hj e
                omega
              · intro j hj e
                simp [Value.ownBlock] at hj
                omega
            case measure => simp [intOf]; omega
        · have j2 : ¬ (k : Int) < (fl.length : Int) := by omega
          have hke : k = fl.length := by omega
          have HK := hide hke
          clear hke
          go_wp2
          go_roundw
          case rel =>
            have hb := HH.out.s.bfs
            rw [HK.out, List.take_length] at hb
            obtain ⟨hb2, hlt2⟩ := hb.next HH.out.at_ (by rw [HM.out.2.1]; exact HF.out) (by rw [HM.out.2.1]; exact HFL.out.symm)
            exact ⟨M', i + 1, g', cap', rfl, by go_num, hlt2, hM', hide ⟨hb2, HH.out.s.own, HH.out.s.seen, HH.out.s.apart, HH.out.s.bel⟩⟩
          case measure => simp [intOf]; omega
    · have HF := hide hf
      go_wp2_with fail
      refine (hfile _ (HT'.out _ HH.out.bel) (Nat.lt_of_lt_of_le hw0 HH.out.bel.size)).mono ?_
      rintro e w1 ⟨rfl, d⟩
      rw [hf]
      have H1 := hide (HH.out.below d)
      clear d q1 q2 hfile hfollow hf HH
      go_wp2_with fail
      refine (wayTo_any g cap i M m _ (OwnM.mrk H1.out.own) (World.ownsRow.lt H1.out.own g rfl).2 H1.out.bfs.links HM.out.1 hM).mono ?_
      rintro e w2 ⟨rfl, d2⟩
      have HD := hide (H1.out.bel.trans (d2.mono H1.out.bel.size))
      clear d2
      go_wp2
      go_ret
      refine ⟨?_, HD.out⟩
      rw [← H1.out.bfs.ends HM.out.1 (by rw [HM.out.2.1]; exact HF.out)]
      rfl
end Go.Proofs.YtgifamdoolcemaaDoor
