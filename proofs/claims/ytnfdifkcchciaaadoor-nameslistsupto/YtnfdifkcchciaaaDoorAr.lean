import Derived.Test.YtnfdifkcchciaaaDoorGf
namespace Go.Proofs.YtnfdifkcchciaaaDoor
open Go.RowKit Go.Maps

def lbF (N T U i : Nat) : Nat := if i < N then T else U
def loF (N i : Nat) : Nat := if i < N then i else i - N
def tyF (N i : Nat) : Nat := if i < N then 9 else 3
def mvF (N i : Nat) : Value := if i < N then .string (mk i) else .int .i64 (-1 - ((i - N : Nat) : Int))
def atF (a : Nat) : Nat := if a = 0 then 22 else 28
theorem lb_t {N T U i : Nat} (h : i < N) : lbF N T U i = T := if_pos h
theorem lb_n {N T U j : Nat} : lbF N T U (N + j) = U := if_neg (by omega)
theorem lo_t {N i : Nat} (h : i < N) : loF N i = i := if_pos h
theorem lo_n {N j : Nat} : loF N (N + j) = j := by unfold loF; rw [if_neg (by omega)]; omega
theorem ty_t {N i : Nat} (h : i < N) : tyF N i = 9 := if_pos h
theorem ty_n {N j : Nat} : tyF N (N + j) = 3 := if_neg (by omega)
theorem mv_t {N i : Nat} (h : i < N) : mvF N i = .string (mk i) := if_pos h
theorem mv_n {N j : Nat} : mvF N (N + j) = .int .i64 (-1 - (j : Int)) := by
  unfold mvF
  rw [if_neg (by omega), show N + j - N = j by omega]
theorem info28 : (Tryd.prog.info? 28).map (fun i => (i.zero, i.size, i.bytes)) = some (some (.slice none 0 0), 1, 24) := by kernel_rfl
theorem map_up (ls : Nat → Value) (j : Nat) (x : Value) : (List.range (j + 1)).map (up ls j x) = (List.range j).map ls ++ [x] := by
  rw [List.range_succ, List.map_append]
  congr 1
  · apply List.map_congr_left
    intro t ht
    rw [up_other _ _ _ (by have := List.mem_range.1 ht; omega)]
  · simp [up_same]
theorem map_up_n (ls : Nat → Value) (N j : Nat) (x : Value) : (List.range (j + 1)).map (fun t => up ls (N + j) x (N + t)) = (List.range j).map (fun t => ls (N + t)) ++ [x] := by
  rw [List.range_succ, List.map_append]
  congr 1
  · apply List.map_congr_left
    intro t ht
    rw [up_other _ _ _ (by have := List.mem_range.1 ht; omega)]
  · simp [up_same]
theorem map_up_o (ls : Nat → Value) (N j : Nat) (x : Value) : (List.range N).map (up ls (N + j) x) = (List.range N).map ls := by
  apply List.map_congr_left
  intro t ht
  rw [up_other _ _ _ (by have := List.mem_range.1 ht; omega)]
/-- The two lists of lists: the long texts, the wide numbers. -/
structure Ac (N : Nat) (j m : Nat) (lv wv : Value) (av : Nat → Value) (an : Nat → Nat) (ax : Nat → List Value) (ls : Nat → Value) : Prop where
  a0 : av 0 = lv
  a1 : av 1 = wv
  n0 : an 0 = j
  n1 : an 1 = m
  x0 : ax 0 = (List.range j).map ls
  x1 : ax 1 = (List.range m).map (fun t => ls (N + t))

theorem rows_ac {w0 w : World} {N M T U : Nat} {vs : Nat → Value} {ln : Nat → Nat} {lv wv : Value} {av : Nat → Value} {an : Nat → Nat} {ax : Nat → List Value} {ls : Nat → Value} (h : Lq w0 (N + M) (lbF N T U) (loF N) (tyF N) vs ln (mvF N) atF (N + M) (N + M) av an ax ls w) (a : Ac N N M lv wv av an ax ls) :
    w.ownsRow 0 22 1 lv N ((List.range N).map ls) ∧ w.ownsRow 0 28 1 wv M ((List.range M).map (fun t => ls (N + t))) := by
  have h0 := h.acc 0 (by omega)
  have h1 := h.acc 1 (by omega)
  rw [a.a0, a.n0, a.x0] at h0
  rw [a.a1, a.n1, a.x1] at h1
  exact ⟨h0, h1⟩

set_option maxRecDepth 100000 in
set_option maxHeartbeats 8000000 in
theorem apart2_any (N M T U cT cU : Nat) (vs : Nat → Value) (ln : Nat → Nat) (ct : Nat → List Value) (w : World) (hN : N ≤ 26) (hM : M ≤ 26) (hln : ∀ i, i < N + M → ln i ≤ 2097152) (F : Hid (Gm w (N + M) (lbF N T U) (loF N) (tyF N) vs ln ct w)) (hTw : T < w.heap.size) (hUw : U < w.heap.size) :
    Calls Tryd.prog 50 #[.slice (some ⟨T, 0, none⟩) N cT, .slice (some ⟨U, 0, none⟩) M cU] w fun e w' => e = .returned (.bool true) ∧ Only w w' (fun b => ∃ i, i < N + M ∧ (vs i).ownBlock = some b) := by
  have HLN := hide hln
  have hvl : ∀ p, p < N + M → ∀ b, (vs p).ownBlock = some b → b < w.heap.size := fun p hp b hb => ((F.out.own p hp).lt b hb).2
  have HVL := hide hvl
  have HTU : Hid (∀ p, p < N + M → lbF N T U p < w.heap.size) := fun p hp => by unfold lbF; split <;> omega
  obtain ⟨i22, hi22, hz220, hz221, hz222⟩ := info_parts info22
  obtain ⟨i28, hi28, hz280, hz281, hz282⟩ := info_parts info28
  clear hln hvl
  go_enter Tryd.func50, Tryd.ntmps50
  go_wp2
  go_loopw [23] (fun ii wr => ∃ (i : Nat) (ct : Nat → List Value), i ≤ N ∧ ii = .int .i64 i ∧ Hid (Gm w (N + M) (lbF N T U) (loF N) (tyF N) vs ln ct wr) ∧ Hid (Gk (N + M) (mvF N) ct i 0)) (fun i _ => N - (intOf i).toNat)
  case atStart => exact ⟨0, ct, Nat.zero_le _, rfl, F, Gk.start _ _ _⟩
  case round =>
    obtain ⟨i, ct1, hi, rfl, F1, M1⟩ := hrel
    clear F
    by_cases hlt : i < N
    · have r0 := F1.out.row i (by omega)
      rw [lb_t hlt, lo_t hlt] at r0
      obtain ⟨ao, cp, hvi⟩ := F1.out.form (i := i) (by omega)
      have HVI := hide hvi
      rw [hvi] at r0
      have hli := HLN.out i (by omega)
      have i0 : (0 : Int) ≤ (i : Int) := by omega
      have i2 : (i : Int) < (N : Int) := by omega
      clear hvi
      go_wp2
      go_loopw [31] (fun kk wr => ∃ (k : Nat) (ct : Nat → List Value), k ≤ ln i ∧ kk = .int .i64 k ∧ Hid (Gm w (N + M) (lbF N T U) (loF N) (tyF N) vs ln ct wr) ∧ Hid (Gk (N + M) (mvF N) ct i k)) (fun i2 _ => ln i - (intOf i2).toNat)
      case atStart => exact ⟨0, ct1, Nat.zero_le _, rfl, F1, M1⟩
      case round =>
        obtain ⟨k, ct2, hk, rfl, F2, M2⟩ := hrel
        clear F1 M1 r0
        by_cases hkl : k < ln i
        · obtain ⟨g, cp2, he, ho⟩ := F2.out.form1 (i := i) (by omega) (by omega)
          have r1 := F2.out.row i (by omega)
          rw [he, lb_t hlt, lo_t hlt] at r1
          have hcell : ∃ u, wr.cell? ⟨g, k, none⟩ = some u := ⟨_, (ho.cellAt k (by omega)).trans (List.getElem?_eq_getElem (by rw [F2.out.lens (i := i) (by omega)]; omega))⟩
          obtain ⟨u, hu⟩ := hcell
          have hfz : wr.frozen? ⟨g, k, none⟩ = false := ho.frozenAt _
          have hglt : g < wr.heap.size := (ho.lt g rfl).2
          have hTg : T ≠ g := fun e => F2.out.nT i i (by omega) (by omega) (by rw [he, lb_t hlt, e]; rfl)
          have hTlt : T < wr.heap.size := World.block_lt_of_cell? wr _ r1
          have HE := hide he
          have j0 : (0 : Int) ≤ (k : Int) := by omega
          have j2 : (k : Int) < (ln i : Int) := by omega
          clear he ho
          go_wp2_with fail
          go_region_held3 (fun W => W.cell? ⟨T, i, none⟩ = some (.slice (some ⟨g, 0, none⟩) (ln i) cp2))
            (first | exact r1 | exact (d.cell (p := ⟨T, i, none⟩) hTlt).trans r1 | exact (World.cell?_of_block (Below.heap_setCell _ _ _ T hTg)).trans ((d.cell (p := ⟨T, i, none⟩) hTlt).trans r1) | go_keep)
            ((go_at_call 55; refine (mark_any i (by omega) _).mono ?_; rintro e wm ⟨rfl, d⟩; have hu2 := (d.cell (p := ⟨g, k, none⟩) hglt).trans hu; have hf2 := (froz_below (k := k) d hglt).trans hfz))
          have D : Below wr.heap.size wr wm := ⟨d.os, d.tape, d.output, d.size, d.block⟩
          have F3 := hide ((F2.out.below D).stored (i := i) (k := k) (by omega) HE.out (.string (mk i)))
          have M3 := hide M2.out.step
          rw [mv_t hlt] at M3
          clear d D hu2 hf2 F2 M2
          go_wp2
          go_roundw
          case rel => exact ⟨k + 1, _, by omega, by go_num, F3, M3⟩
          case measure => simp [intOf]; omega
        · have j2 : ¬ (k : Int) < (ln i : Int) := by omega
          have hke : k = ln i := by omega
          have M3 : Hid (Gk (N + M) (mvF N) ct2 (i + 1) 0) := by
            have := M2.out
            rw [hke, ← F2.out.lens (i := i) (by omega)] at this
            exact this.done
          clear hke M2
          go_wp2
          go_roundw
          case rel => exact ⟨i + 1, ct2, by omega, by go_num, F2, M3⟩
          case measure => simp [intOf]; omega
    · have i2 : ¬ (i : Int) < (N : Int) := by omega
      have hiN : i = N := by omega
      rw [hiN] at M1
      clear hiN hlt hi
      go_wp2
      clear i2
      go_loopw [46] (fun ii wr => ∃ (i : Nat) (ct : Nat → List Value), i ≤ M ∧ ii = .int .i64 i ∧ Hid (Gm w (N + M) (lbF N T U) (loF N) (tyF N) vs ln ct wr) ∧ Hid (Gk (N + M) (mvF N) ct (N + i) 0)) (fun i _ => M - (intOf i).toNat)
      case atStart => exact ⟨0, ct1, Nat.zero_le _, rfl, F1, M1⟩
      case round =>
        clear F1 M1 ct1
        obtain ⟨m, ct1, hm, rfl, F1, M1⟩ := hrel
        by_cases hlt : m < M
        · have r0 := F1.out.row (N + m) (by omega)
          rw [lb_n, lo_n] at r0
          obtain ⟨ao, cp, hvi⟩ := F1.out.form (i := N + m) (by omega)
          rw [hvi] at r0
          have hli := HLN.out (N + m) (by omega)
          have i0 : (0 : Int) ≤ (m : Int) := by omega
          have i2 : (m : Int) < (M : Int) := by omega
          clear hvi
          go_wp2
          go_loopw [54] (fun kk wr => ∃ (k : Nat) (ct : Nat → List Value), k ≤ ln (N + m) ∧ kk = .int .i64 k ∧ Hid (Gm w (N + M) (lbF N T U) (loF N) (tyF N) vs ln ct wr) ∧ Hid (Gk (N + M) (mvF N) ct (N + m) k)) (fun i2 _ => ln (N + m) - (intOf i2).toNat)
          case atStart => exact ⟨0, ct1, Nat.zero_le _, rfl, F1, M1⟩
          case round =>
            obtain ⟨k, ct2, hk, rfl, F2, M2⟩ := hrel
            clear F1 M1 r0
            by_cases hkl : k < ln (N + m)
            · obtain ⟨g, cp2, he, ho⟩ := F2.out.form1 (i := N + m) (by omega) (by omega)
              have r1 := F2.out.row (N + m) (by omega)
              rw [he, lb_n, lo_n] at r1
              have hcell : ∃ u, wr.cell? ⟨g, k, none⟩ = some u := ⟨_, (ho.cellAt k (by omega)).trans (List.getElem?_eq_getElem (by rw [F2.out.lens (i := N + m) (by omega)]; omega))⟩
              obtain ⟨u, hu⟩ := hcell
              have hfz : wr.frozen? ⟨g, k, none⟩ = false := ho.frozenAt _
              have j0 : (0 : Int) ≤ (k : Int) := by omega
              have j2 : (k : Int) < (ln (N + m) : Int) := by omega
              have F3 := hide (F2.out.stored (i := N + m) (k := k) (by omega) he (.int .i64 (-1 - (m : Int))))
              have M3 := hide M2.out.step
              rw [mv_n] at M3
              clear he ho F2 M2
              go_wp2
              go_roundw
              case rel => exact ⟨k + 1, _, by omega, by go_num, F3, M3⟩
              case measure => simp [intOf]; omega
            · have j2 : ¬ (k : Int) < (ln (N + m) : Int) := by omega
              have hke : k = ln (N + m) := by omega
              have M3 : Hid (Gk (N + M) (mvF N) ct2 (N + (m + 1)) 0) := by
                have := M2.out
                rw [hke, ← F2.out.lens (i := N + m) (by omega)] at this
                exact this.done
              clear hke M2
              go_wp2
              go_roundw
              case rel => exact ⟨m + 1, ct2, by omega, by go_num, F2, M3⟩
              case measure => simp [intOf]; omega
        · have i2 : ¬ (m : Int) < (M : Int) := by omega
          have hmM : m = M := by omega
          rw [hmM] at M1
          have L0 := hide (And.intro (lq_start (aty := atF) F1.out M1.out HVL.out HTU.out) (Ac.mk rfl rfl rfl rfl rfl rfl : Ac N 0 0 (.slice none 0 0) (.slice none 0 0) (fun _ => .slice none 0 0) (fun _ => 0) (fun _ => []) (fun _ => undef)))
          clear F1 M1 hmM hlt hm
          go_wp2
          clear i2
          go_loopw [9, 69] (fun lv ii wz => ∃ (j : Nat) (av : Nat → Value) (an : Nat → Nat) (ax : Nat → List Value) (ls : Nat → Value), j ≤ N ∧ ii = .int .i64 j ∧ Hid (Lq w (N + M) (lbF N T U) (loF N) (tyF N) vs ln (mvF N) atF j j av an ax ls wz ∧ Ac N j 0 lv (.slice none 0 0) av an ax ls)) (fun _ ii _ => N - (intOf ii).toNat)
          case atStart => exact ⟨0, _, _, _, _, Nat.zero_le _, rfl, L0⟩
          case round =>
            clear L0
            obtain ⟨j, av, an, ax, ls, hj, rfl, L1⟩ := hrel
            by_cases hlt : j < N
            · have r0 := L1.out.1.row j (by omega)
              rw [lb_t hlt, lo_t hlt] at r0
              have I0 := hide (iq_start L1.out.1 (i := j) (by omega))
              have HA := hide L1.out.2
              have hlj := HLN.out j (by omega)
              have i0 : (0 : Int) ≤ (j : Int) := by omega
              have i3 : (j : Int) < (N : Int) := by omega
              clear L1
              go_wp2
              go_loopw [11, 12] (fun mo kk wz => ∃ k : Nat, k ≤ 90 ∧ kk = .int .i64 k ∧ Hid (Iq w (N + M) (lbF N T U) (loF N) (tyF N) vs ln (mvF N) atF j av an ax ls mo k wz)) (fun _ kk _ => 90 - (intOf kk).toNat)
              case atStart => exact ⟨0, Nat.zero_le _, rfl, I0⟩
              case round =>
                clear I0 r0
                obtain ⟨k, hk, rfl, I1⟩ := hrel
                by_cases hk90 : k < 90
                · have k2 : (k : Int) < 90 := by omega
                  go_wp2_with fail
                  refine (mark_any j (by omega) _).mono ?_
                  rintro e wm ⟨rfl, d⟩
                  have I2 := hide (iq_below I1.out d)
                  have hown := I2.out.own
                  rw [ty_t hlt, mv_t hlt] at hown
                  have hown2 : OwnS wm 0 u11 (List.replicate (ln j + k) (mk j)) := by
                    unfold OwnS
                    rw [List.length_replicate]
                    simpa [strV] using hown
                  clear d I1 hown
                  go_wp2_with (at_builtin; refine wpList_app1 _ rfl _ _ rfl u11 (List.replicate (ln j + k) (mk j)) (mk j) rfl (World.ownsRow.alloc hown2 _) ⟨wm.heap.size, 0, none⟩ rfl (cell_one_new _ _ _) (by simp; omega) ?_)
                  intro gv cv w3 ho hl
                  have ho2 : w3.ownsRow 0 (tyF N j) 1 (.slice (some ⟨gv, 0, none⟩) (ln j + k + 1) cv) (ln j + k + 1) (List.replicate (ln j + k) (mvF N j) ++ [mvF N j]) := by
                    rw [ty_t hlt, mv_t hlt]
                    have := ho
                    unfold OwnS at this
                    simpa [strV] using this
                  have I3 := hide (iq_next (iq_below I2.out (below_new wm (.cells #[.string (mk j)] 9))) (by omega) ho2 (hl.imp id (fun x => ⟨by rw [x.1]; simp, x.2⟩)))
                  clear ho hl I2 hown2 ho2
                  go_wp2
                  go_roundw
                  case rel => exact ⟨k + 1, by omega, by go_num, I3⟩
                  case measure => simp [intOf]; omega
                · have k2 : ¬ (k : Int) < 90 := by omega
                  have hk9 : k = 90 := by omega
                  rw [hk9] at I1
                  obtain ⟨ao, cp, hmo⟩ := form_row I1.out.own
                  subst hmo
                  have hrow := I1.out.L.acc 0 (by omega)
                  rw [HA.out.a0, HA.out.n0, HA.out.x0] at hrow
                  change wr.ownsRow 0 22 1 u9 j ((List.range j).map ls) at hrow
                  clear hk9
                  go_wp2_with (at_builtin; refine wpList_append_own_at _ rfl _ _ _ rfl 0 22 i22 _ 1 24 Tryd.underlying82 hi22 hz220 hz221 hz222 rfl (by omega) u9 j ((List.range j).map ls) rfl (hrow.alloc _) ⟨wr.heap.size, 0, none⟩ 1 1 [.slice ao (ln j + 90) cp] rfl rfl (cell_one_new _ _ _) (by intro u hu; simp at hu; rw [hu]; rfl) (by unfold maxLen; omega) (by omega) (Nat.zero_le _) ?_)
                  intro lv' w3 ho hgr hnil hloc
                  have L2 := lq_next (a := 0) (by omega) I1.out (by omega) (lv' := lv') (by rw [HA.out.n0, HA.out.x0]; exact ho) (by rw [HA.out.a0]; exact hgr) (by rw [HA.out.a0]; exact hloc.imp id (fun x => by first | exact x | (rw [x]; simp)))
                  have A2 : Ac N (j + 1) 0 lv' (.slice none 0 0) (up av 0 lv') (up an 0 (an 0 + 1)) (up ax 0 (ax 0 ++ [.slice ao (ln j + 90) cp])) (up ls j (.slice ao (ln j + 90) cp)) :=
                    ⟨up_same _ _ _, by rw [up_other _ _ _ (by omega)]; exact HA.out.a1, by rw [up_same, HA.out.n0], by rw [up_other _ _ _ (by omega)]; exact HA.out.n1, by rw [up_same, HA.out.x0, map_up], by rw [up_other _ _ _ (by omega)]; exact HA.out.x1⟩
                  have L3 := hide (And.intro L2 A2)
                  clear ho hgr hnil hloc hrow I1 L2 A2 HA
                  go_wp2
                  go_roundw
                  case rel => exact ⟨j + 1, _, _, _, _, by omega, by go_num, L3⟩
                  case measure => simp [intOf]; omega
            · have i3 : ¬ (j : Int) < (N : Int) := by omega
              have hjN : j = N := by omega
              rw [hjN] at L1
              clear hjN hlt hj
              have L1' := hide L1.out
              go_wp2
              clear i3
              go_loopw [13, 92] (fun wv ii wz => ∃ (m : Nat) (av : Nat → Value) (an : Nat → Nat) (ax : Nat → List Value) (ls : Nat → Value), m ≤ M ∧ ii = .int .i64 m ∧ Hid (Lq w (N + M) (lbF N T U) (loF N) (tyF N) vs ln (mvF N) atF (N + m) (N + m) av an ax ls wz ∧ Ac N N m u9 wv av an ax ls)) (fun _ ii _ => M - (intOf ii).toNat)
              case atStart => exact ⟨0, _, _, _, _, Nat.zero_le _, rfl, L1⟩
              case round =>
                clear L1 L1' av an ax ls
                obtain ⟨m, av, an, ax, ls, hm, rfl, L1⟩ := hrel
                by_cases hlt : m < M
                · have r0 := L1.out.1.row (N + m) (by omega)
                  rw [lb_n, lo_n] at r0
                  have I0 := hide (iq_start L1.out.1 (i := N + m) (by omega))
                  have HA := hide L1.out.2
                  have hlj := HLN.out (N + m) (by omega)
                  have i0 : (0 : Int) ≤ (m : Int) := by omega
                  have i3 : (m : Int) < (M : Int) := by omega
                  clear L1
                  go_wp2
                  go_loopw [15, 16] (fun mo kk wz => ∃ k : Nat, k ≤ 90 ∧ kk = .int .i64 k ∧ Hid (Iq w (N + M) (lbF N T U) (loF N) (tyF N) vs ln (mvF N) atF (N + m) av an ax ls mo k wz)) (fun _ kk _ => 90 - (intOf kk).toNat)
                  case atStart => exact ⟨0, Nat.zero_le _, rfl, I0⟩
                  case round =>
                    clear I0 r0
                    obtain ⟨k, hk, rfl, I1⟩ := hrel
                    by_cases hk90 : k < 90
                    · have k2 : (k : Int) < 90 := by omega
                      have hown := I1.out.own
                      rw [ty_n, mv_n] at hown
                      go_wp2_with (at_builtin; refine wpList_app1I _ rfl _ _ rfl u15 (ln (N + m) + k) _ (-1 - (m : Int)) rfl (World.ownsRow.alloc hown _) ⟨wr.heap.size, 0, none⟩ rfl (cell_one_new _ _ _) (by omega) ?_)
                      intro gv cv w3 ho hl
                      have ho2 : w3.ownsRow 0 (tyF N (N + m)) 1 (.slice (some ⟨gv, 0, none⟩) (ln (N + m) + k + 1) cv) (ln (N + m) + k + 1) (List.replicate (ln (N + m) + k) (mvF N (N + m)) ++ [mvF N (N + m)]) := by
                        rw [ty_n, mv_n]
                        exact ho
                      have I3 := hide (iq_next (iq_below I1.out (below_new wr (.cells #[.int .i64 (-1 - (m : Int))] 3))) (by omega) ho2 (hl.imp id (fun x => ⟨by rw [x.1]; simp, x.2⟩)))
                      clear ho hl I1 hown ho2
                      go_wp2
                      go_roundw
                      case rel => exact ⟨k + 1, by omega, by go_num, I3⟩
                      case measure => simp [intOf]; omega
                    · have k2 : ¬ (k : Int) < 90 := by omega
                      have hk9 : k = 90 := by omega
                      rw [hk9] at I1
                      obtain ⟨ao, cp, hmo⟩ := form_row I1.out.own
                      subst hmo
                      have hrow := I1.out.L.acc 1 (by omega)
                      rw [HA.out.a1, HA.out.n1, HA.out.x1] at hrow
                      change wr.ownsRow 0 28 1 u13 m ((List.range m).map (fun t => ls (N + t))) at hrow
                      clear hk9
                      go_wp2_with (at_builtin; refine wpList_append_own_at _ rfl _ _ _ rfl 0 28 i28 _ 1 24 Tryd.underlying84 hi28 hz280 hz281 hz282 rfl (by omega) u13 m ((List.range m).map (fun t => ls (N + t))) rfl (hrow.alloc _) ⟨wr.heap.size, 0, none⟩ 1 1 [.slice ao (ln (N + m) + 90) cp] rfl rfl (cell_one_new _ _ _) (by intro u hu; simp at hu; rw [hu]; rfl) (by unfold maxLen; omega) (by omega) (Nat.zero_le _) ?_)
                      intro lv' w3 ho hgr hnil hloc
                      have L2 := lq_next (a := 1) (by omega) I1.out (by omega) (lv' := lv') (by rw [HA.out.n1, HA.out.x1]; exact ho) (by rw [HA.out.a1]; exact hgr) (by rw [HA.out.a1]; exact hloc.imp id (fun x => by first | exact x | (rw [x]; simp)))
                      have A2 : Ac N N (m + 1) u9 lv' (up av 1 lv') (up an 1 (an 1 + 1)) (up ax 1 (ax 1 ++ [.slice ao (ln (N + m) + 90) cp])) (up ls (N + m) (.slice ao (ln (N + m) + 90) cp)) :=
                        ⟨by rw [up_other _ _ _ (by omega)]; exact HA.out.a0, up_same _ _ _, by rw [up_other _ _ _ (by omega)]; exact HA.out.n0, by rw [up_same, HA.out.n1], by rw [up_other _ _ _ (by omega), map_up_o]; exact HA.out.x0, by rw [up_same, HA.out.x1, map_up_n]⟩
                      have L3 := hide (And.intro L2 A2)
                      clear ho hgr hnil hloc hrow I1 L2 A2 HA
                      go_wp2
                      go_roundw
                      case rel => exact ⟨m + 1, _, _, _, _, by omega, by go_num, L3⟩
                      case measure => simp [intOf]; omega
                · have i3 : ¬ (m : Int) < (M : Int) := by omega
                  have hmM : m = M := by omega
                  rw [hmM] at L1
                  clear hmM hlt hm
                  obtain ⟨r22, r28⟩ := rows_ac L1.out.1 L1.out.2
                  obtain ⟨al, cl, hlv⟩ := form_row r22
                  obtain ⟨aw, cw, hwv⟩ := form_row r28
                  subst hlv
                  subst hwv
                  have HAc := hide L1.out.2
                  have L5 := hide L1.out.1
                  clear L1 r22 r28
                  go_wp2
                  clear i3
                  go_loopw [115] (fun ii wz => ∃ q : Nat, q ≤ N ∧ ii = .int .i64 q ∧ Hid (Lq w (N + M) (lbF N T U) (loF N) (tyF N) vs ln (mvF N) atF (N + M) (N + M) av an ax ls wz)) (fun ii _ => N - (intOf ii).toNat)
                  case atStart => exact ⟨0, Nat.zero_le _, rfl, L5⟩
                  case round =>
                    clear L5
                    obtain ⟨q, hq, rfl, L2⟩ := hrel
                    by_cases hql : q < N
                    · obtain ⟨hlrow, _⟩ := rows_ac L2.out HAc.out
                      obtain ⟨gl, cl2, el, _, _⟩ := hlrow.form (by omega)
                      simp only [Value.slice.injEq, true_and] at el
                      obtain ⟨rfl, rfl⟩ := el
                      have c0 : wr.cell? ⟨gl, q, none⟩ = some (ls q) := by
                        rw [hlrow.cellAt q (by omega)]
                        simp [hql]
                      have hol := L2.out.lng q (by omega)
                      obtain ⟨gq, cq, eq1, _, _⟩ := hol.form (by omega)
                      have hlq := HLN.out q (by omega)
                      rw [eq1] at c0
                      have HE := hide eq1
                      have j0 : (0 : Int) ≤ (q : Int) := by omega
                      have j2 : (q : Int) < (N : Int) := by omega
                      clear hlrow hol eq1
                      go_wp2
                      go_loopw [123] (fun kk wz => ∃ k : Nat, k ≤ ln q + 90 ∧ kk = .int .i64 k ∧ Hid (Lq w (N + M) (lbF N T U) (loF N) (tyF N) vs ln (mvF N) atF (N + M) (N + M) av an ax ls wz)) (fun kk _ => ln q + 90 - (intOf kk).toNat)
                      case atStart => exact ⟨0, Nat.zero_le _, rfl, L2⟩
                      case round =>
                        clear L2 c0
                        obtain ⟨k, hk, rfl, L3⟩ := hrel
                        by_cases hkl : k < ln q + 90
                        · obtain ⟨hlrow, _⟩ := rows_ac L3.out HAc.out
                          have c0 : wr.cell? ⟨gl, q, none⟩ = some (ls q) := by
                            rw [hlrow.cellAt q (by omega)]
                            simp [hql]
                          have hol := L3.out.lng q (by omega)
                          rw [ty_t hql, mv_t hql] at hol
                          rw [HE.out] at c0 hol
                          have c1 : wr.cell? ⟨gq, k, none⟩ = some (.string (mk q)) := by
                            rw [hol.cellAt k (by omega), List.getElem?_replicate, if_pos (by omega)]
                          have c2 := L3.out.row q (by omega)
                          rw [lb_t hql, lo_t hql] at c2
                          obtain ⟨⟨ao, cp, ev⟩, rt⟩ := L3.out.txt q (by omega)
                          rw [ev] at c2
                          have k0 : (0 : Int) ≤ (k : Int) := by omega
                          have k2 : (k : Int) < (ln q : Int) + 90 := by omega
                          clear hlrow hol
                          by_cases hkn : k < ln q
                          · obtain ⟨gt, ct', ea, c3⟩ := rt k hkn
                            rw [ev] at ea
                            simp only [Value.slice.injEq, true_and] at ea
                            obtain ⟨rfl, rfl⟩ := ea
                            rw [mv_t hql] at c3
                            have k3 : (k : Int) < (ln q : Int) := by omega
                            clear rt ev
                            go_wp2_with fail
                            go_region_held3 (fun W => W.cell? ⟨gl, q, none⟩ = some (.slice (some ⟨gq, 0, none⟩) (ln q + 90) cq) ∧ W.cell? ⟨gq, k, none⟩ = some (.string (mk q)) ∧ W.cell? ⟨T, q, none⟩ = some (.slice (some ⟨gt, 0, none⟩) (ln q) cp) ∧ W.cell? ⟨gt, k, none⟩ = some (.string (mk q)) ∧ Hid (Below wr.heap.size wr W))
                              (first | exact ⟨c0, c1, c2, c3, below_drew wr⟩ | exact keepE (by assumption) (by assumption) | go_keep)
                              ((go_at_call 55; refine (mark_any q (by omega) _).mono ?_; rintro e wm ⟨rfl, d⟩))
                            have D := outE (w := wr) (by assumption)
                            have L4 := hide (lq_below L3.out D)
                            clear D L3 c0 c1 c2 c3
                            go_wp2
                            go_roundw
                            case rel => exact ⟨k + 1, by omega, by go_num, L4⟩
                            case measure => simp [intOf]; omega
                          · have k3 : ¬ (k : Int) < (ln q : Int) := by omega
                            have k4 : decide ((k : Int) < (ln q : Int)) = false := by rw [decide_eq_false_iff_not]; omega
                            have k5 : decide (k < ln q) = false := by rw [decide_eq_false_iff_not]; omega
                            clear rt ev
                            go_wp2_with fail
                            refine wp_region_held_drew (S := (fun W => W.cell? ⟨gl, q, none⟩ = some (.slice (some ⟨gq, 0, none⟩) (ln q + 90) cq) ∧ W.cell? ⟨gq, k, none⟩ = some (.string (mk q)) ∧ W.cell? ⟨T, q, none⟩ = some (.slice ao (ln q) cp) ∧ W.cell? ⟨T, q, none⟩ = some (.slice ao (ln q) cp) ∧ Hid (Below wr.heap.size wr W))) (by kernel_rfl) ⟨c0, c1, c2, c2, below_drew wr⟩ (fun hHeld => ?_)
                            refine wpAnyH_take (i := 0) (oi := { dst := some 126, op := Op.move (Operand.tmp 9), type := 82, pos := "law.go:112", after := #[], guard := none }) (v := ?vv0) rfl (by kernel_rfl) (by kernel_rfl) (by kernel_rfl) (fun _ _ _ h => h) (Or.inl ⟨by rfl, ?hy0⟩) hHeld ?rs0
                            case hy0 => (intro w hSw; (try dsimp only at hSw); go_simp; try with_reducible rfl)
                            simp only [Act.put, List.setIfInBounds_toArray, List.set_cons_zero, List.set_cons_succ]
                            refine wpAnyH_take (i := 1) (oi := { dst := some 127, op := Op.move (Operand.tmp 17), type := 3, pos := "law.go:112", after := #[], guard := none }) (v := ?vv1) rfl (by kernel_rfl) (by kernel_rfl) (by kernel_rfl) (fun _ _ _ h => h) (Or.inl ⟨by rfl, ?hy1⟩) hHeld ?rs1
                            case hy1 => (intro w hSw; (try dsimp only at hSw); go_simp; try with_reducible rfl)
                            simp only [Act.put, List.setIfInBounds_toArray, List.set_cons_zero, List.set_cons_succ]
                            refine wpAnyH_take (i := 2) (oi := { dst := some 128, op := Op.indexAddr 82 (Operand.tmp 126) (Operand.tmp 127), type := 0, pos := "law.go:112", after := #[{ on := 0, ground := Ground.data }, { on := 1, ground := Ground.data }], guard := none }) (v := ?vv2) rfl (by kernel_rfl) (by kernel_rfl) (by kernel_rfl) (fun _ _ _ h => h) (Or.inl ⟨by rfl, ?hy2⟩) hHeld ?rs2
                            case hy2 => (intro w hSw; (try dsimp only at hSw); go_simp; try with_reducible rfl)
                            simp only [Act.put, List.setIfInBounds_toArray, List.set_cons_zero, List.set_cons_succ]
                            refine wpAnyH_take (i := 3) (oi := { dst := some 129, op := Op.load 22 (Operand.tmp 128), type := 22, pos := "law.go:112", after := #[{ on := 2, ground := Ground.data }], guard := none }) (v := ?vv3) rfl (by kernel_rfl) (by kernel_rfl) (by kernel_rfl) (fun _ _ _ h => h) (Or.inl ⟨by rfl, ?hy3⟩) hHeld ?rs3
                            case hy3 => (intro w hSw; (try dsimp only at hSw); go_simp; try with_reducible rfl)
                            simp only [Act.put, List.setIfInBounds_toArray, List.set_cons_zero, List.set_cons_succ]
                            refine wpAnyH_take (i := 4) (oi := { dst := some 130, op := Op.move (Operand.tmp 18), type := 3, pos := "law.go:112", after := #[], guard := none }) (v := ?vv4) rfl (by kernel_rfl) (by kernel_rfl) (by kernel_rfl) (fun _ _ _ h => h) (Or.inl ⟨by rfl, ?hy4⟩) hHeld ?rs4
                            case hy4 => (intro w hSw; (try dsimp only at hSw); go_simp; try with_reducible rfl)
                            simp only [Act.put, List.setIfInBounds_toArray, List.set_cons_zero, List.set_cons_succ]
                            refine wpAnyH_take (i := 5) (oi := { dst := some 131, op := Op.indexAddr 22 (Operand.tmp 129) (Operand.tmp 130), type := 0, pos := "law.go:112", after := #[{ on := 3, ground := Ground.data }, { on := 4, ground := Ground.data }], guard := none }) (v := ?vv5) rfl (by kernel_rfl) (by kernel_rfl) (by kernel_rfl) (fun _ _ _ h => h) (Or.inl ⟨by rfl, ?hy5⟩) hHeld ?rs5
                            case hy5 => (intro w hSw; (try dsimp only at hSw); go_simp; try with_reducible rfl)
                            simp only [Act.put, List.setIfInBounds_toArray, List.set_cons_zero, List.set_cons_succ]
                            refine wpAnyH_take (i := 6) (oi := { dst := some 132, op := Op.load 9 (Operand.tmp 131), type := 9, pos := "law.go:112", after := #[{ on := 5, ground := Ground.data }], guard := none }) (v := ?vv6) rfl (by kernel_rfl) (by kernel_rfl) (by kernel_rfl) (fun _ _ _ h => h) (Or.inl ⟨by rfl, ?hy6⟩) hHeld ?rs6
                            case hy6 => (intro w hSw; (try dsimp only at hSw); go_simp; try with_reducible rfl)
                            simp only [Act.put, List.setIfInBounds_toArray, List.set_cons_zero, List.set_cons_succ]
                            refine wpAnyH_take (i := 7) (oi := { dst := some 133, op := Op.move (Operand.tmp 17), type := 3, pos := "law.go:112", after := #[], guard := none }) (v := ?vv7) rfl (by kernel_rfl) (by kernel_rfl) (by kernel_rfl) (fun _ _ _ h => h) (Or.inl ⟨by rfl, ?hy7⟩) hHeld ?rs7
                            case hy7 => (intro w hSw; (try dsimp only at hSw); go_simp; try with_reducible rfl)
                            simp only [Act.put, List.setIfInBounds_toArray, List.set_cons_zero, List.set_cons_succ]
                            refine wpAnyH_ready (rs := [8]) (by kernel_rfl) (by simp) ?_
                            refine AllReadyH.cons (o := { dst := some 134, op := Op.call { callee := Callee.value (Operand.func 55), args := #[Operand.tmp 133], argTypes := #[3] }, type := 9, pos := "law.go:112", after := #[{ on := 7, ground := Ground.data }], guard := none }) rfl (fun K hK => ?_) AllReadyH.nil
                            go_simp
                            refine (mark_any q (by omega) _).mono ?_
                            rintro e wm ⟨rfl, d⟩
                            have hH2 := keepE hHeld d
                            clear hHeld
                            refine hK.out _ _ hH2 (fun hHeld => ?_)
                            clear hK K hH2
                            try simp only [Act.put, List.setIfInBounds_toArray, List.set_cons_zero, List.set_cons_succ]
                            refine wpAnyH_take (i := 9) (oi := { dst := some 135, op := Op.binOp BinOp.neq 9 (Operand.tmp 132) (Operand.tmp 134) 9, type := 4, pos := "law.go:112", after := #[{ on := 6, ground := Ground.data }, { on := 8, ground := Ground.data }], guard := none }) (v := ?vv9) rfl (by kernel_rfl) (by kernel_rfl) (by kernel_rfl) (fun _ _ _ h => h) (Or.inl ⟨by rfl, ?hy9⟩) hHeld ?rs9
                            case hy9 => (intro w hSw; (try dsimp only at hSw); go_simp; try with_reducible rfl)
                            simp only [Act.put, List.setIfInBounds_toArray, List.set_cons_zero, List.set_cons_succ]
                            refine wpAnyH_take (i := 10) (oi := { dst := some 136, op := Op.move (Operand.tmp 135), type := 4, pos := "law.go:112", after := #[{ on := 9, ground := Ground.data }, { on := 8, ground := Ground.chain }], guard := none }) (v := ?vv10) rfl (by kernel_rfl) (by kernel_rfl) (by kernel_rfl) (fun _ _ _ h => h) (Or.inl ⟨by rfl, ?hy10⟩) hHeld ?rs10
                            case hy10 => (intro w hSw; (try dsimp only at hSw); go_simp; try with_reducible rfl)
                            simp only [Act.put, List.setIfInBounds_toArray, List.set_cons_zero, List.set_cons_succ]
                            refine wpAnyH_take (i := 11) (oi := { dst := some 137, op := Op.move (Operand.tmp 18), type := 3, pos := "law.go:112", after := #[{ on := 10, ground := Ground.guard }], guard := some (10, false) }) (v := ?vv11) rfl (by kernel_rfl) (by kernel_rfl) (by kernel_rfl) (fun _ _ _ h => h) (Or.inl ⟨by rfl, ?hy11⟩) hHeld ?rs11
                            case hy11 => (intro w hSw; (try dsimp only at hSw); go_simp; try with_reducible rfl)
                            simp only [Act.put, List.setIfInBounds_toArray, List.set_cons_zero, List.set_cons_succ]
                            refine wpAnyH_take (i := 12) (oi := { dst := some 138, op := Op.move (Operand.tmp 0), type := 82, pos := "law.go:112", after := #[{ on := 10, ground := Ground.guard }], guard := some (10, false) }) (v := ?vv12) rfl (by kernel_rfl) (by kernel_rfl) (by kernel_rfl) (fun _ _ _ h => h) (Or.inl ⟨by rfl, ?hy12⟩) hHeld ?rs12
                            case hy12 => (intro w hSw; (try dsimp only at hSw); go_simp; try with_reducible rfl)
                            simp only [Act.put, List.setIfInBounds_toArray, List.set_cons_zero, List.set_cons_succ]
                            refine wpAnyH_take (i := 13) (oi := { dst := some 139, op := Op.move (Operand.tmp 17), type := 3, pos := "law.go:112", after := #[{ on := 10, ground := Ground.guard }], guard := some (10, false) }) (v := ?vv13) rfl (by kernel_rfl) (by kernel_rfl) (by kernel_rfl) (fun _ _ _ h => h) (Or.inl ⟨by rfl, ?hy13⟩) hHeld ?rs13
                            case hy13 => (intro w hSw; (try dsimp only at hSw); go_simp; try with_reducible rfl)
                            simp only [Act.put, List.setIfInBounds_toArray, List.set_cons_zero, List.set_cons_succ]
                            refine wpAnyH_take (i := 14) (oi := { dst := some 140, op := Op.indexAddr 82 (Operand.tmp 138) (Operand.tmp 139), type := 0, pos := "law.go:112", after := #[{ on := 12, ground := Ground.data }, { on := 13, ground := Ground.data }, { on := 10, ground := Ground.guard }], guard := some (10, false) }) (v := ?vv14) rfl (by kernel_rfl) (by kernel_rfl) (by kernel_rfl) (fun _ _ _ h => h) (Or.inl ⟨by rfl, ?hy14⟩) hHeld ?rs14
                            case hy14 => (intro w hSw; (try dsimp only at hSw); go_simp; try with_reducible rfl)
                            simp only [Act.put, List.setIfInBounds_toArray, List.set_cons_zero, List.set_cons_succ]
                            refine wpAnyH_take (i := 15) (oi := { dst := some 141, op := Op.load 22 (Operand.tmp 140), type := 22, pos := "law.go:112", after := #[{ on := 14, ground := Ground.data }, { on := 10, ground := Ground.guard }], guard := some (10, false) }) (v := ?vv15) rfl (by kernel_rfl) (by kernel_rfl) (by kernel_rfl) (fun _ _ _ h => h) (Or.inl ⟨by rfl, ?hy15⟩) hHeld ?rs15
                            case hy15 => (intro w hSw; (try dsimp only at hSw); go_simp; try with_reducible rfl)
                            simp only [Act.put, List.setIfInBounds_toArray, List.set_cons_zero, List.set_cons_succ]
                            refine wpAnyH_take (i := 16) (oi := { dst := some 142, op := Op.call { callee := Callee.builtin Builtin.len, args := #[Operand.tmp 141], argTypes := #[22] }, type := 3, pos := "law.go:112", after := #[{ on := 15, ground := Ground.data }, { on := 10, ground := Ground.guard }], guard := some (10, false) }) (v := ?vv16) rfl (by kernel_rfl) (by kernel_rfl) (by kernel_rfl) (fun _ _ _ h => h) (Or.inl ⟨by rfl, ?hy16⟩) hHeld ?rs16
                            case hy16 => (intro w hSw; (try dsimp only at hSw); go_simp; try with_reducible rfl)
                            simp only [Act.put, List.setIfInBounds_toArray, List.set_cons_zero, List.set_cons_succ]
                            refine wpAnyH_take (i := 17) (oi := { dst := some 143, op := Op.binOp BinOp.lss 3 (Operand.tmp 137) (Operand.tmp 142) 3, type := 4, pos := "law.go:112", after := #[{ on := 11, ground := Ground.data }, { on := 16, ground := Ground.data }, { on := 10, ground := Ground.guard }], guard := some (10, false) }) (v := ?vv17) rfl (by kernel_rfl) (by kernel_rfl) (by kernel_rfl) (fun _ _ _ h => h) (Or.inl ⟨by rfl, ?hy17⟩) hHeld ?rs17
                            case hy17 => (intro w hSw; (try dsimp only at hSw); go_simp; try with_reducible rfl)
                            simp only [Act.put, List.setIfInBounds_toArray, List.set_cons_zero, List.set_cons_succ]
                            refine wpAnyH_take (i := 18) (oi := { dst := some 144, op := Op.move (Operand.tmp 143), type := 4, pos := "law.go:112", after := #[{ on := 17, ground := Ground.data }, { on := 10, ground := Ground.chain }, { on := 10, ground := Ground.guard }], guard := some (10, false) }) (v := ?vv18) rfl (by kernel_rfl) (by kernel_rfl) (by kernel_rfl) (fun _ _ _ h => h) (Or.inl ⟨by rfl, ?hy18⟩) hHeld ?rs18
                            case hy18 => (intro w hSw; (try dsimp only at hSw); go_simp; try with_reducible rfl)
                            simp only [Act.put, List.setIfInBounds_toArray, List.set_cons_zero, List.set_cons_succ]
                            refine wpAnyH_take (i := 19) (oi := { dst := some 145, op := Op.move (Operand.tmp 0), type := 82, pos := "law.go:112", after := #[{ on := 18, ground := Ground.guard }], guard := some (18, true) }) (v := undef) rfl (by kernel_rfl) (by kernel_rfl) (by kernel_rfl) (fun _ _ _ h => h) (Or.inr ⟨by rfl, rfl⟩) hHeld ?_
                            simp only [Act.put, List.setIfInBounds_toArray, List.set_cons_zero, List.set_cons_succ]
                            refine wpAnyH_take (i := 20) (oi := { dst := some 146, op := Op.move (Operand.tmp 17), type := 3, pos := "law.go:112", after := #[{ on := 18, ground := Ground.guard }], guard := some (18, true) }) (v := undef) rfl (by kernel_rfl) (by kernel_rfl) (by kernel_rfl) (fun _ _ _ h => h) (Or.inr ⟨by rfl, rfl⟩) hHeld ?_
                            simp only [Act.put, List.setIfInBounds_toArray, List.set_cons_zero, List.set_cons_succ]
                            refine wpAnyH_take (i := 21) (oi := { dst := some 147, op := Op.indexAddr 82 (Operand.tmp 145) (Operand.tmp 146), type := 0, pos := "law.go:112", after := #[{ on := 19, ground := Ground.data }, { on := 20, ground := Ground.data }, { on := 18, ground := Ground.guard }], guard := some (18, true) }) (v := undef) rfl (by kernel_rfl) (by kernel_rfl) (by kernel_rfl) (fun _ _ _ h => h) (Or.inr ⟨by rfl, rfl⟩) hHeld ?_
                            simp only [Act.put, List.setIfInBounds_toArray, List.set_cons_zero, List.set_cons_succ]
                            refine wpAnyH_take (i := 22) (oi := { dst := some 148, op := Op.load 22 (Operand.tmp 147), type := 22, pos := "law.go:112", after := #[{ on := 21, ground := Ground.data }, { on := 18, ground := Ground.guard }], guard := some (18, true) }) (v := undef) rfl (by kernel_rfl) (by kernel_rfl) (by kernel_rfl) (fun _ _ _ h => h) (Or.inr ⟨by rfl, rfl⟩) hHeld ?_
                            simp only [Act.put, List.setIfInBounds_toArray, List.set_cons_zero, List.set_cons_succ]
                            refine wpAnyH_take (i := 23) (oi := { dst := some 149, op := Op.move (Operand.tmp 18), type := 3, pos := "law.go:112", after := #[{ on := 18, ground := Ground.guard }], guard := some (18, true) }) (v := undef) rfl (by kernel_rfl) (by kernel_rfl) (by kernel_rfl) (fun _ _ _ h => h) (Or.inr ⟨by rfl, rfl⟩) hHeld ?_
                            simp only [Act.put, List.setIfInBounds_toArray, List.set_cons_zero, List.set_cons_succ]
                            refine wpAnyH_take (i := 24) (oi := { dst := some 150, op := Op.indexAddr 22 (Operand.tmp 148) (Operand.tmp 149), type := 0, pos := "law.go:112", after := #[{ on := 22, ground := Ground.data }, { on := 23, ground := Ground.data }, { on := 18, ground := Ground.guard }], guard := some (18, true) }) (v := undef) rfl (by kernel_rfl) (by kernel_rfl) (by kernel_rfl) (fun _ _ _ h => h) (Or.inr ⟨by rfl, rfl⟩) hHeld ?_
                            simp only [Act.put, List.setIfInBounds_toArray, List.set_cons_zero, List.set_cons_succ]
                            refine wpAnyH_take (i := 25) (oi := { dst := some 151, op := Op.load 9 (Operand.tmp 150), type := 9, pos := "law.go:112", after := #[{ on := 24, ground := Ground.data }, { on := 18, ground := Ground.guard }], guard := some (18, true) }) (v := undef) rfl (by kernel_rfl) (by kernel_rfl) (by kernel_rfl) (fun _ _ _ h => h) (Or.inr ⟨by rfl, rfl⟩) hHeld ?_
                            simp only [Act.put, List.setIfInBounds_toArray, List.set_cons_zero, List.set_cons_succ]
                            refine wpAnyH_take (i := 26) (oi := { dst := some 152, op := Op.move (Operand.tmp 17), type := 3, pos := "law.go:112", after := #[{ on := 18, ground := Ground.guard }], guard := some (18, true) }) (v := undef) rfl (by kernel_rfl) (by kernel_rfl) (by kernel_rfl) (fun _ _ _ h => h) (Or.inr ⟨by rfl, rfl⟩) hHeld ?_
                            simp only [Act.put, List.setIfInBounds_toArray, List.set_cons_zero, List.set_cons_succ]
                            refine wpAnyH_take (i := 27) (oi := { dst := some 153, op := Op.call { callee := Callee.value (Operand.func 55), args := #[Operand.tmp 152], argTypes := #[3] }, type := 9, pos := "law.go:112", after := #[{ on := 26, ground := Ground.data }, { on := 18, ground := Ground.chain }, { on := 18, ground := Ground.guard }], guard := some (18, true) }) (v := undef) rfl (by kernel_rfl) (by kernel_rfl) (by kernel_rfl) (fun _ _ _ h => h) (Or.inr ⟨by rfl, rfl⟩) hHeld ?_
                            simp only [Act.put, List.setIfInBounds_toArray, List.set_cons_zero, List.set_cons_succ]
                            refine wpAnyH_take (i := 28) (oi := { dst := some 154, op := Op.binOp BinOp.neq 9 (Operand.tmp 151) (Operand.tmp 153) 9, type := 4, pos := "law.go:112", after := #[{ on := 25, ground := Ground.data }, { on := 27, ground := Ground.data }, { on := 18, ground := Ground.guard }], guard := some (18, true) }) (v := undef) rfl (by kernel_rfl) (by kernel_rfl) (by kernel_rfl) (fun _ _ _ h => h) (Or.inr ⟨by rfl, rfl⟩) hHeld ?_
                            simp only [Act.put, List.setIfInBounds_toArray, List.set_cons_zero, List.set_cons_succ]
                            refine wpAnyH_take (i := 29) (oi := { dst := some 155, op := Op.pick (Operand.tmp 144) (Operand.tmp 154) (Operand.const (Value.bool false)), type := 4, pos := "law.go:112", after := #[{ on := 18, ground := Ground.data }, { on := 28, ground := Ground.data }, { on := 10, ground := Ground.guard }], guard := some (10, false) }) (v := ?vv29) rfl (by kernel_rfl) (by kernel_rfl) (by kernel_rfl) (fun _ _ _ h => h) (Or.inl ⟨by rfl, ?hy29⟩) hHeld ?rs29
                            case hy29 => (intro w hSw; (try dsimp only at hSw); go_simp; try with_reducible rfl)
                            simp only [Act.put, List.setIfInBounds_toArray, List.set_cons_zero, List.set_cons_succ]
                            refine wpAnyH_take (i := 30) (oi := { dst := some 156, op := Op.pick (Operand.tmp 136) (Operand.const (Value.bool true)) (Operand.tmp 155), type := 4, pos := "law.go:112", after := #[{ on := 10, ground := Ground.data }, { on := 29, ground := Ground.data }], guard := none }) (v := ?vv30) rfl (by kernel_rfl) (by kernel_rfl) (by kernel_rfl) (fun _ _ _ h => h) (Or.inl ⟨by rfl, ?hy30⟩) hHeld ?rs30
                            case hy30 => (intro w hSw; (try dsimp only at hSw); go_simp; try with_reducible rfl)
                            simp only [Act.put, List.setIfInBounds_toArray, List.set_cons_zero, List.set_cons_succ]
                            refine wpAnyH_done (by kernel_rfl) ?_ _
                            have D := outE hHeld
                            have L4 := hide (lq_below L3.out D)
                            clear D L3 c0 c1 c2 hHeld d
                            go_wp2
                            go_roundw
                            case rel => exact ⟨k + 1, by omega, by go_num, L4⟩
                            case measure => simp [intOf]; omega
                        · have k2 : ¬ (k : Int) < (ln q : Int) + 90 := by omega
                          go_wp2
                          go_roundw
                          case rel => exact ⟨q + 1, by omega, by go_num, L3⟩
                          case measure => simp [intOf]; omega
                    · have j2 : ¬ (q : Int) < (N : Int) := by omega
                      clear hql hq
                      go_wp2
                      clear j2
                      go_loopw [161] (fun ii wz => ∃ p : Nat, p ≤ M ∧ ii = .int .i64 p ∧ Hid (Lq w (N + M) (lbF N T U) (loF N) (tyF N) vs ln (mvF N) atF (N + M) (N + M) av an ax ls wz)) (fun ii _ => M - (intOf ii).toNat)
                      case atStart => exact ⟨0, Nat.zero_le _, rfl, L2⟩
                      case round =>
                        clear L2
                        obtain ⟨p, hp, rfl, L2⟩ := hrel
                        by_cases hpl : p < M
                        · obtain ⟨_, hlrow⟩ := rows_ac L2.out HAc.out
                          obtain ⟨gl, cl2, el, _, _⟩ := hlrow.form (by omega)
                          simp only [Value.slice.injEq, true_and] at el
                          obtain ⟨rfl, rfl⟩ := el
                          have c0 : wr.cell? ⟨gl, p, none⟩ = some (ls (N + p)) := by
                            rw [hlrow.cellAt p (by omega)]
                            simp [hpl]
                          have hol := L2.out.lng (N + p) (by omega)
                          obtain ⟨gq, cq, eq1, _, _⟩ := hol.form (by omega)
                          have hlq := HLN.out (N + p) (by omega)
                          rw [eq1] at c0
                          have HE := hide eq1
                          have j0 : (0 : Int) ≤ (p : Int) := by omega
                          have j2 : (p : Int) < (M : Int) := by omega
                          clear hlrow hol eq1
                          go_wp2
                          go_loopw [169] (fun kk wz => ∃ k : Nat, k ≤ ln (N + p) + 90 ∧ kk = .int .i64 k ∧ Hid (Lq w (N + M) (lbF N T U) (loF N) (tyF N) vs ln (mvF N) atF (N + M) (N + M) av an ax ls wz)) (fun kk _ => ln (N + p) + 90 - (intOf kk).toNat)
                          case atStart => exact ⟨0, Nat.zero_le _, rfl, L2⟩
                          case round =>
                            clear L2 c0
                            obtain ⟨k, hk, rfl, L3⟩ := hrel
                            by_cases hkl : k < ln (N + p) + 90
                            · obtain ⟨_, hlrow⟩ := rows_ac L3.out HAc.out
                              have c0 : wr.cell? ⟨gl, p, none⟩ = some (ls (N + p)) := by
                                rw [hlrow.cellAt p (by omega)]
                                simp [hpl]
                              have hol := L3.out.lng (N + p) (by omega)
                              rw [ty_n, mv_n] at hol
                              rw [HE.out] at c0 hol
                              have c1 : wr.cell? ⟨gq, k, none⟩ = some (.int .i64 (-1 - (p : Int))) := by
                                rw [hol.cellAt k (by omega), List.getElem?_replicate, if_pos (by omega)]
                              have c2 := L3.out.row (N + p) (by omega)
                              rw [lb_n, lo_n] at c2
                              obtain ⟨⟨ao, cp, ev⟩, rt⟩ := L3.out.txt (N + p) (by omega)
                              rw [ev] at c2
                              have k0 : (0 : Int) ≤ (k : Int) := by omega
                              have k2 : (k : Int) < (ln (N + p) : Int) + 90 := by omega
                              clear hlrow hol
                              by_cases hkn : k < ln (N + p)
                              · obtain ⟨gt, ct', ea, c3⟩ := rt k hkn
                                rw [ev] at ea
                                simp only [Value.slice.injEq, true_and] at ea
                                obtain ⟨rfl, rfl⟩ := ea
                                rw [mv_n] at c3
                                have k3 : (k : Int) < (ln (N + p) : Int) := by omega
                                clear rt ev
                                go_wp2
                                go_roundw
                                case rel => exact ⟨k + 1, by omega, by go_num, L3⟩
                                case measure => simp [intOf]; omega
                              · have k3 : ¬ (k : Int) < (ln (N + p) : Int) := by omega
                                have k4 : decide ((k : Int) < (ln (N + p) : Int)) = false := by rw [decide_eq_false_iff_not]; omega
                                have k5 : decide (k < ln (N + p)) = false := by rw [decide_eq_false_iff_not]; omega
                                clear rt ev
                                go_wp2
                                go_roundw
                                case rel => exact ⟨k + 1, by omega, by go_num, L3⟩
                                case measure => simp [intOf]; omega
                            · have k2 : ¬ (k : Int) < (ln (N + p) : Int) + 90 := by omega
                              go_wp2
                              go_roundw
                              case rel => exact ⟨p + 1, by omega, by go_num, L3⟩
                              case measure => simp [intOf]; omega
                        · have j2 : ¬ (p : Int) < (M : Int) := by omega
                          have O := L2.out.O
                          clear L2
                          go_wp2
                          go_ret
                          exact ⟨rfl, O⟩
end Go.Proofs.YtnfdifkcchciaaaDoor
