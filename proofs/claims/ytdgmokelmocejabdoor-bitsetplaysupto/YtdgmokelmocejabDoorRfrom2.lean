import Derived.Test.YtdgmokelmocejabDoorRfrom
namespace Go.Proofs.YtdgmokelmocejabDoor
open Go.RowKit

theorem elems_one (j Y : Nat) : elems (j + 1) Y = elems j Y ++ if Y.testBit j then [j] else [] := by
  unfold elems
  rw [List.range_succ, List.filter_append]
  congr 1
  by_cases h : Y.testBit j = true <;> simp [h]

theorem byte_bit (Y j : Nat) : Y.testBit j = decide (Y / 2 ^ (8 * (j / 8)) % 256 / 2 ^ (j % 8) % 2 = 1) := by
  have e1 : (Y / 2 ^ (8 * (j / 8)) % 256).testBit (j % 8) = Y.testBit j := by
    rw [show (256 : Nat) = 2 ^ 8 from rfl, Nat.testBit_mod_two_pow, Nat.testBit_div_two_pow]
    have h1 : j % 8 < 8 := Nat.mod_lt _ (by decide)
    have h2 : j % 8 + 8 * (j / 8) = j := by omega
    simp [h1, h2]
  rw [← e1, Nat.testBit_eq_decide_div_mod_eq]

/-- What the loop of ref.FromKey holds: the numbers l gathered in the set's list. -/
structure RFL (w : World) (Bs : Nat) (n : Nat) (l : List Nat) (ao : Option Addr) (cap : Nat) (wx : World) : Prop where
  res : wx.heap[w.heap.size]? = some (.cells #[.int .i64 0, .slice none 0 0] 42 (0, 0))
  set : wx.heap[Bs]? = some (.cells #[.int .i64 n, .slice ao l.length cap] 42 (0, 0))
  own : wx.ownsRow w.heap.size 3 1 (.slice ao l.length cap) l.length (intV l)
  below : Below w.heap.size w wx

theorem own_ne {w : World} {base c : Nat} {v : Value} {n : Nat} {xs : List Value} {r : Array Value} (h : w.ownsRow base 3 1 v n xs) (hc : w.heap[c]? = some (.cells r 42 (0, 0))) : v.ownBlock ≠ some c := by
  rcases h.2 with ⟨rfl, _⟩ | ⟨g, cap, cur, rfl, _, hg, _⟩
  · simp [Value.ownBlock]
  · intro e
    simp [Value.ownBlock] at e
    subst e
    rw [hg] at hc
    simp at hc

theorem RFL.c0 {w wx : World} {Bs n : Nat} {l : List Nat} {ao : Option Addr} {cap : Nat} (h : RFL w Bs n l ao cap wx) : wx.cell? ⟨Bs, 0, none⟩ = some (.int .i64 n) := by rw [cell_of_row wx _ 0 _ 42 (0, 0) h.set]; rfl
theorem RFL.c1 {w wx : World} {Bs n : Nat} {l : List Nat} {ao : Option Addr} {cap : Nat} (h : RFL w Bs n l ao cap wx) : wx.cell? ⟨Bs, 1, none⟩ = some (.slice ao l.length cap) := by rw [cell_of_row wx _ 1 _ 42 (0, 0) h.set]; rfl
theorem RFL.fz {w wx : World} {Bs n : Nat} {l : List Nat} {ao : Option Addr} {cap : Nat} (h : RFL w Bs n l ao cap wx) (j : Nat) : wx.frozen? ⟨Bs, j, none⟩ = false := frozen_of_row wx _ j _ 42 h.set

theorem owns_reads2 {w : World} {base cap : Nat} {ao : Option Addr} {l : List Nat} (h : w.ownsRow base 3 1 (.slice ao l.length cap) l.length (intV l)) : Reads w ao l := by
  obtain ⟨ao', cap', e, hr⟩ := owns_reads h
  simp only [Value.slice.injEq] at e
  rw [e.1]; exact hr

theorem rfl_put {w w1 : World} {Bs n j g capn : Nat} {l : List Nat} (hBne : Bs ≠ w.heap.size) (hBle : w.heap.size ≤ Bs)
    (hres : w1.heap[w.heap.size]? = some (.cells #[.int .i64 0, .slice none 0 0] 42 (0, 0))) {v : Value} (hset : w1.heap[Bs]? = some (.cells #[.int .i64 n, v] 42 (0, 0)))
    (hown : w1.ownsRow w.heap.size 3 1 (.slice (some ⟨g, 0, none⟩) (l.length + 1) capn) (l.length + 1) (intV l ++ [.int .i64 j])) (hb : Below w.heap.size w w1) :
    RFL w Bs n (l ++ [j]) (some ⟨g, 0, none⟩) capn (w1.setCell ⟨Bs, 1, none⟩ (.slice (some ⟨g, 0, none⟩) (l.length + 1) capn)) := by
  have hL : (l ++ [j]).length = l.length + 1 := by simp
  have hV : intV (l ++ [j]) = intV l ++ [.int .i64 j] := by simp [intV]
  refine ⟨?_, ?_, ?_, hb.setCell hBle _⟩
  · rw [heap_setCell_other _ _ _ _ (by simp; omega)]; exact hres
  · rw [hL]; exact heap_setCell_same w1 Bs 1 _ 42 _ hset
  · rw [hL, hV]; exact ownsRow_setCell_other hown (own_ne hown hset) _

set_option maxRecDepth 100000 in
set_option maxHeartbeats 2000000 in
theorem rfrom_main (s : ByteArray) (n c0 c1 Y : Nat) (w : World) (h : 2 ≤ s.size) (hi0 : ∀ W : World, (Instr.index 9 (.string s) (.int .i64 0)).run Tryd.prog W = .ok (.int .u8 (c0 : Int)) W) (hi1 : ∀ W : World, (Instr.index 9 (.string s) (.int .i64 1)).run Tryd.prog W = .ok (.int .u8 (c1 : Int)) W)
    (HN : Hid (IntKind.i64.wrap (IntKind.i64.wrap (256 * IntKind.i64.wrap (c0 : Int)) + IntKind.i64.wrap (c1 : Int)) = (n : Int))) (hn : n ≤ 8192) (hY : ∀ k (hk : 2 + k < s.size), s[2 + k].toNat = Y / 2 ^ (8 * k) % 256) :
    Calls Tryd.prog 68 #[.string s] w fun e w' =>
      (∃ v, keyPre n (setOf (elems (min n (8 * (s.size - 2))) Y)) ((n + 7) / 8) = s.toList ∧ e = .returned (.tuple #[.agg #[.int .i64 n, v], .int .i64 0]) ∧ w'.ownsRow w.heap.size 3 1 v (elems (min n (8 * (s.size - 2))) Y).length (intV (elems (min n (8 * (s.size - 2))) Y)) ∧ Below w.heap.size w w') ∨
      (keyPre n (setOf (elems (min n (8 * (s.size - 2))) Y)) ((n + 7) / 8) ≠ s.toList ∧ e = .returned (.tuple #[.agg #[.int .i64 0, .slice none 0 0], .int .i64 11]) ∧ Below w.heap.size w w') := by
  obtain ⟨i0, hi, hz0, hz1, hz2⟩ := info_parts info3
  go_enter Tryd.func68, Tryd.ntmps68
  go_upto_region 3 with fail
  go_cut [4, 5] (fun s4 s5 wx => ∃ Bs, s4 = .pointer (some ⟨Bs, 0, none⟩) ∧ s5 = .int .i64 0 ∧ RFS w Bs n wx)
  case first =>
    go_region_held3 (fun w' => True) (first | go_keep | trivial) ((go_at_call 19; rw [HN.out]; refine (rnew_ok n _ (by omega) (by omega)).mono ?_; rintro e w2 ⟨rfl, hb2⟩; obtain ⟨hcB, hfB⟩ := bcell hb2))
    all_goals (go_wp2_with fail; go_meet)
    all_goals first
      | exact ⟨_, rfl, rfl, rfs_a hb2 ((Below.refl _ _).alloc (Nat.le_refl _) _).drew (by simp) (heap_alloc_new _ _)⟩
      | exact ⟨_, rfl, rfl, rfs_b hb2 ((((Below.refl _ _).alloc (Nat.le_refl _) _).alloc (by simp) _).drew) (by simp) ((Below.heap_alloc _ _ _ (by simp)).trans (heap_alloc_new _ _)) (two_new w _ _)⟩
  case rest =>
    obtain ⟨Bs, rfl, rfl, hr⟩ := hcut
    have hBle := hr.le
    have hBne := hr.ne
    clear hi0 hi1 HN
    go_wp2
    go_loopw [6] (fun i wr => ∃ (j cap : Nat) (ao : Option Addr), j ≤ min n (8 * (s.size - 2)) ∧ i = .int .i64 j ∧ RFL w Bs n (elems j Y) ao cap wr) (fun i _ => n - (intOf i).toNat)
    case atStart => exact ⟨0, 0, none, Nat.zero_le _, rfl, ⟨hr.res, hr.set, World.ownsRow_nil _ _ _ _, hr.below⟩⟩
    case round =>
      obtain ⟨j, cap, ao, hj, rfl, hl⟩ := hrel
      clear hr
      have b0 := hl.c0
      by_cases hc : j < n ∧ 2 + j / 8 < s.size
      · obtain ⟨hc1, hc2⟩ := hc
        have hc3 : (2 : Int) + (j : Int) / 8 < s.size := by omega
        obtain ⟨c, hcc⟩ : ∃ c : Nat, c = s[2 + j / 8].toNat := ⟨_, rfl⟩
        have hidx : ∀ W : World, (Instr.index 9 (.string s) (.int .i64 (2 + (j : Int) / 8))).run Tryd.prog W = .ok (.int .u8 (c : Int)) W := fun W => by
          rw [hcc]; exact idx_str s (j / 8) W hc2
        have hcb : c < 256 := by rw [hcc]; exact s[2 + j / 8].toNat_lt
        have HC := hide (hcc.trans (hY (j / 8) hc2))
        clear hcc hY
        go_wp2
        go_loop [7, 8] (fun vv tt => ∃ t : Nat, t ≤ j % 8 ∧ tt = .int .i64 t ∧ vv = .int .i64 ((c / 2 ^ t : Nat) : Int)) (fun _ tt => j % 8 - (intOf tt).toNat)
        case atStart => exact ⟨0, Nat.zero_le _, rfl, by simp⟩
        case round =>
          obtain ⟨t, ht, rfl, rfl⟩ := hrel
          have hq256 : c / 2 ^ t < 256 := Nat.lt_of_le_of_lt (Nat.div_le_self _ _) hcb
          by_cases ht2 : t < j % 8
          · have HP : Hid (c / 2 ^ (t + 1) = c / 2 ^ t / 2) := by show _ = _; rw [Nat.pow_succ, Nat.div_div_eq_div_mul]
            generalize c / 2 ^ t = q at *
            go_wp2
            go_round
            case rel => exact ⟨t + 1, by omega, by go_num, by rw [HP.out]; go_num⟩
            case measure => simp [intOf]; omega
          · have hte : t = j % 8 := by omega
            subst hte
            have hbit := byte_bit Y j
            rw [← HC.out] at hbit
            have HB := hide hbit
            clear hbit
            generalize c / 2 ^ (j % 8) = q at *
            by_cases hq : q % 2 = 1
            · have hqb : ((q : Int) % 2 == 1) = true := by rw [beq_iff_eq]; omega
              have HE : Hid (elems (j + 1) Y = elems j Y ++ [j]) := by show _ = _; rw [elems_one, HB.out, hq]; simp
              have hlen := cnt_le j Y
              unfold cnt at hlen
              have hl1 := hl.c1
              have hf1 := hl.fz 1
              have hBlt := cell_lt hl.set
              have hsz := hl.below.size
              clear hq
              go_wp2_with (at_builtin; refine wpList_append_lies _ rfl _ _ _ rfl w.heap.size 3 i0 _ 1 8 Tryd.underlying22 hi hz0 hz1 hz2 rfl (by omega) _ (elems j Y).length (intV (elems j Y)) rfl (hl.own.alloc _) ⟨wr.heap.size, 0, none⟩ 1 1 [.int .i64 j] rfl rfl (World.news_of_block (cs := #[.int .i64 j]) (t := 3) (fr := (0, 0)) (heap_alloc_new wr _)) (by simp [Value.oneCell']) (by omega) (by unfold maxLen; omega) (by omega) (by simp; omega) (wr.heap.size + 1) (by simp) ?_)
              intro g cap2 w1 hown1 hgr hat hlt
              have hn1 := own_ne hl.own hl.res
              have hn2 := own_ne hl.own hl.set
              have hres1 : w1.heap[w.heap.size]? = some (.cells #[.int .i64 0, .slice none 0 0] 42 (0, 0)) := by
                rw [hgr.block _ (by simp; omega) (Ne.symm hn1), Below.heap_alloc _ _ _ (by omega)]; exact hl.res
              have hset1 : w1.heap[Bs]? = some (.cells #[.int .i64 n, .slice ao (elems j Y).length cap] 42 (0, 0)) := by
                rw [hgr.block _ (by simp; omega) (Ne.symm hn2), Below.heap_alloc _ _ _ (by omega)]; exact hl.set
              have hb1 : Below w.heap.size w w1 := (hl.below.alloc (by omega) _).grown hgr (by simp; omega) (fun k hk => (hl.own.lt k hk).1)
              have hk1 : w1.cell? ⟨Bs, 1, none⟩ = some (.slice ao (elems j Y).length cap) := by rw [cell_of_row w1 _ 1 _ 42 (0, 0) hset1]; rfl
              have hf2 : w1.frozen? ⟨Bs, 1, none⟩ = false := frozen_of_row w1 _ 1 _ 42 hset1
              have R := rfl_put hBne hBle hres1 hset1 hown1 hb1
              rw [← HE.out] at R
              clear hown1 hgr hat hlt hn1 hn2 hres1 hset1 hb1 hl1 hf1 hl b0
              go_wp2
              go_roundw
              case rel => exact ⟨j + 1, cap2, some ⟨g, 0, none⟩, by omega, by go_num, R⟩
              case measure => simp [intOf]; omega
            · have hqb : ((q : Int) % 2 == 1) = false := by rw [beq_eq_false_iff_ne]; omega
              have HE : Hid (elems (j + 1) Y = elems j Y) := by show _ = _; rw [elems_one, HB.out]; simp [hq]
              clear hq
              go_wp2
              go_roundw
              case rel => exact ⟨j + 1, cap, ao, by omega, by go_num, by rw [HE.out]; exact hl⟩
              case measure => simp [intOf]; omega
      · have hje : j = min n (8 * (s.size - 2)) := by omega
        have hcb : ¬ (j : Int) < n ∨ (j : Int) < n ∧ ¬ (2 : Int) + (j : Int) / 8 < s.size := by omega
        have HJ := hide hje
        have hreads := owns_reads2 hl.own
        have hlen := cnt_le j Y
        unfold cnt at hlen
        have hl1 := hl.c1
        clear hc hje hY
        have hres := hl.res
        have hset := hl.set
        have hr1 := cell_lt hres
        have hr2 := cell_lt hset
        rcases hcb with hcb | ⟨hcb0, hcb⟩
        all_goals
          go_wp2_with fail
          refine (rkey_any ao cap n (elems j Y) _ hreads hn (by omega) (elems_sorted _ _) (fun e he => by have := (mem_elems.1 he).1; omega)).mono ?_
          rintro e w2 ⟨rfl, hb2⟩
          have hres2 : w2.heap[w.heap.size]? = some (.cells #[.int .i64 0, .slice none 0 0] 42 (0, 0)) := by rw [hb2.block _ hr1]; exact hres
          have hset2 : w2.heap[Bs]? = some (.cells #[.int .i64 n, .slice ao (elems j Y).length cap] 42 (0, 0)) := by rw [hb2.block _ hr2]; exact hset
          have e0 : w2.cell? ⟨w.heap.size, 0, none⟩ = some (.int .i64 0) := by rw [cell_of_row w2 _ 0 _ 42 (0, 0) hres2]; rfl
          have e1 : w2.cell? ⟨w.heap.size, 1, none⟩ = some (.slice none 0 0) := by rw [cell_of_row w2 _ 1 _ 42 (0, 0) hres2]; rfl
          have d0 : w2.cell? ⟨Bs, 0, none⟩ = some (.int .i64 n) := by rw [cell_of_row w2 _ 0 _ 42 (0, 0) hset2]; rfl
          have d1 : w2.cell? ⟨Bs, 1, none⟩ = some (.slice ao (elems j Y).length cap) := by rw [cell_of_row w2 _ 1 _ 42 (0, 0) hset2]; rfl
          have g0 : w2.frozen? ⟨w.heap.size, 0, none⟩ = false := frozen_of_row w2 _ 0 _ 42 hres2
          have g1 : w2.frozen? ⟨w.heap.size, 1, none⟩ = false := frozen_of_row w2 _ 1 _ 42 hres2
          have hown2 : w2.ownsRow w.heap.size 3 1 (.slice ao (elems j Y).length cap) (elems j Y).length (intV (elems j Y)) := hl.own.kept (row := none) ⟨hb2.os, hb2.tape, hb2.output, hb2.size, fun k hk _ => hb2.block k hk⟩ (by cases hv : (Value.slice ao (elems j Y).length cap).ownBlock <;> simp)
          have hbw : Below w.heap.size w w2 := hl.below.trans (hb2.mono hl.below.size)
          clear hb2 hl hl1 b0 hres hset hreads
          have hor := own_ne hown2 hres2
          cases hk : (keyPre n (setOf (elems j Y)) ((n + 7) / 8) == s.toList)
          · go_wp2
            refine bodyPost_ret (v := .tuple #[.agg #[.int .i64 0, .slice none 0 0], .int .i64 11]) (by simp [results, Tryd.results68, go_sem, e0, e1]) rfl (Or.inr ⟨?_, rfl, (hbw.setCell (by simp) _).setCell (by simp) _⟩)
            rw [← HJ.out]
            exact beq_eq_false_iff_ne.1 hk
          · go_wp2
            refine bodyPost_ret (v := .tuple #[.agg #[.int .i64 n, .slice ao (elems j Y).length cap], .int .i64 0]) (by simp [results, Tryd.results68, go_sem, e0, e1]) rfl (Or.inl ⟨.slice ao (elems j Y).length cap, ?_, rfl, ?_, (hbw.setCell (by simp) _).setCell (by simp) _⟩)
            · rw [← HJ.out]; exact beq_iff_eq.1 hk
            · rw [← HJ.out]
              exact ownsRow_setCell_other (ownsRow_setCell_other hown2 hor _) hor _
end Go.Proofs.YtdgmokelmocejabDoor
