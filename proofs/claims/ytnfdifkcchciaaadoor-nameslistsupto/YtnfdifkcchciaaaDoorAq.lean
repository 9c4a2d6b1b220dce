import Derived.Test.YtnfdifkcchciaaaDoorLg
namespace Go.Proofs.YtnfdifkcchciaaaDoor
open Go.RowKit Go.Maps

theorem info22 : (Tryd.prog.info? 22).map (fun i => (i.zero, i.size, i.bytes)) = some (some (.slice none 0 0), 1, 24) := by kernel_rfl

theorem flat_own {w : World} {v : Value} {l : List ByteArray} (h : OwnS w 0 v l) : ∀ g o pp n c, v = .slice (some ⟨g, o, pp⟩) n c → o = 0 ∧ pp = none := by
  intro g o pp n c hv
  rcases h.2 with ⟨e, _⟩ | ⟨g', cap, cur, e, _⟩
  · rw [e] at hv; simp at hv
  · rw [e] at hv
    simp at hv
    exact ⟨hv.1.2.1.symm, hv.1.2.2.symm⟩

theorem lg_start {w0 w : World} {N T : Nat} {vs : Nat → Value} {ln : Nat → Nat} {ct : Nat → List ByteArray} (F : Fm w0 N T vs ln ct w) (M : Mkd N ct N 0) (hv : ∀ p, p < N → ∀ b, (vs p).ownBlock = some b → b < w0.heap.size) (hT : T < w0.heap.size) :
    Lg w0 N T vs ln 0 0 (.slice none 0 0) (fun _ => undef) w := by
  have e : ∀ j, j < N → ct j = List.replicate (ln j) (mk j) := fun j hj => by
    rw [List.eq_replicate_iff]
    exact ⟨F.lens j hj, fun s hs => M.1 j hj hj s hs⟩
  exact ⟨F.row, fun j hj => by rw [← e j hj]; exact (F.own j hj).str, fun j _ hj => by rw [← e j hj]; exact F.own j hj, fun j hj => absurd hj (Nat.not_lt_zero _), World.ownsRow_nil _ _ _ _, F.sep, F.nT, fun p hp => flat_own (F.own p hp), hv,
    fun j q hj => absurd hj (Nat.not_lt_zero _), fun b hb => by simp [Value.ownBlock] at hb, hT, F.O⟩

theorem cell_below {w w' : World} {a : Addr} {v : Value} (h : w.cell? a = some v) (d : Below w.heap.size w w') : w'.cell? a = some v := (d.cell (World.block_lt_of_cell? w _ h)).trans h

theorem of_drew {w wm : World} (d : Below w.drew.heap.size w.drew wm) : Below w.heap.size w wm := (below_drew w).trans d
theorem cell_drew {w wm : World} {a : Addr} {v : Value} (h : w.cell? a = some v) (d : Below w.drew.heap.size w.drew wm) : wm.cell? a = some v := cell_below h (of_drew d)
theorem keepE {w W W' : World} {a b c d : Addr} {u v x y : Value} (h : W.cell? a = some u ∧ W.cell? b = some v ∧ W.cell? c = some x ∧ W.cell? d = some y ∧ Hid (Below w.heap.size w W)) (e : Below W.heap.size W W') :
    W'.cell? a = some u ∧ W'.cell? b = some v ∧ W'.cell? c = some x ∧ W'.cell? d = some y ∧ Hid (Below w.heap.size w W') :=
  ⟨cell_below h.1 e, cell_below h.2.1 e, cell_below h.2.2.1 e, cell_below h.2.2.2.1 e, hide (h.2.2.2.2.out.trans (e.mono h.2.2.2.2.out.size))⟩

theorem outE {w W : World} {a b c d : Addr} {u v x y : Value} (h : W.cell? a = some u ∧ W.cell? b = some v ∧ W.cell? c = some x ∧ W.cell? d = some y ∧ Hid (Below w.heap.size w W)) : Below w.heap.size w W := h.2.2.2.2.out

set_option maxRecDepth 100000 in
set_option maxHeartbeats 4000000 in
theorem apart_any (N T : Nat) (vs : Nat → Value) (ln : Nat → Nat) (ct : Nat → List ByteArray) (w : World) (hN : N ≤ 26) (hln : ∀ i, i < N → ln i ≤ 2097152) (F : Hid (Fm w N T vs ln ct w)) (hTw : T < w.heap.size) :
    Calls Tryd.prog 50 #[.slice (some ⟨T, 0, none⟩) N N, .slice none 0 0] w fun e w' => e = .returned (.bool true) ∧ Only w w' (fun b => ∃ i, i < N ∧ (vs i).ownBlock = some b) := by
  have HLN := hide hln
  have hvl : ∀ p, p < N → ∀ b, (vs p).ownBlock = some b → b < w.heap.size := fun p hp b hb => (World.ownsRow.lt (F.out.own p hp) b hb).2
  have HVL := hide hvl
  obtain ⟨i22, hi22, hz220, hz221, hz222⟩ := info_parts info22
  clear hln hvl
  go_enter Tryd.func50, Tryd.ntmps50
  go_wp2
  go_loopw [23] (fun ii wr => ∃ (i : Nat) (ct : Nat → List ByteArray), i ≤ N ∧ ii = .int .i64 i ∧ Hid (Fm w N T vs ln ct wr) ∧ Hid (Mkd N ct i 0)) (fun i _ => N - (intOf i).toNat)
  case atStart => exact ⟨0, ct, Nat.zero_le _, rfl, F, hide ⟨fun j hj => absurd hj (Nat.not_lt_zero _), fun q _ hq => absurd hq (Nat.not_lt_zero _)⟩⟩
  case round =>
    obtain ⟨i, ct1, hi, rfl, F1, M1⟩ := hrel
    clear F
    by_cases hlt : i < N
    · have r0 := F1.out.row i hlt
      obtain ⟨ao, cp, hvi⟩ := F1.out.form hlt
      have HVI := hide hvi
      rw [hvi] at r0
      have hli := HLN.out i hlt
      have i0 : (0 : Int) ≤ (i : Int) := by omega
      have i2 : (i : Int) < (N : Int) := by omega
      clear hvi
      go_wp2
      go_loopw [31] (fun kk wr => ∃ (k : Nat) (ct : Nat → List ByteArray), k ≤ ln i ∧ kk = .int .i64 k ∧ Hid (Fm w N T vs ln ct wr) ∧ Hid (Mkd N ct i k)) (fun i2 _ => ln i - (intOf i2).toNat)
      case atStart => exact ⟨0, ct1, Nat.zero_le _, rfl, F1, M1⟩
      case round =>
        obtain ⟨k, ct2, hk, rfl, F2, M2⟩ := hrel
        clear F1 M1 r0
        by_cases hkl : k < ln i
        · obtain ⟨g, cp2, he, ho⟩ := F2.out.form1 hlt (by omega)
          have r1 := F2.out.row i hlt
          rw [he] at r1
          have hcell : ∃ u, wr.cell? ⟨g, k, none⟩ = some u := ⟨_, (ho.cellAt k (by omega)).trans (List.getElem?_eq_getElem (by rw [strV_length, F2.out.lens i hlt]; omega))⟩
          obtain ⟨u, hu⟩ := hcell
          have hfz : wr.frozen? ⟨g, k, none⟩ = false := ho.frozenAt _
          have hglt : g < wr.heap.size := (ho.lt g rfl).2
          have hTg : T ≠ g := fun e => F2.out.nT i hlt (by rw [he, e]; rfl)
          have hTlt : T < wr.heap.size := World.block_lt_of_cell? wr _ r1
          have HE := hide he
          have j0 : (0 : Int) ≤ (k : Int) := by omega
          have j2 : (k : Int) < (ln i : Int) := by omega
          clear he ho
          go_wp2_with fail
          go_region_held3 (fun W => W.cell? ⟨T, i, none⟩ = some (.slice (some ⟨g, 0, none⟩) (ln i) cp2))
            (first | exact r1 | exact (d.cell (p := ⟨T, i, none⟩) hTlt).trans r1 | exact (World.cell?_of_block (Below.heap_setCell _ _ _ T hTg)).trans ((d.cell (p := ⟨T, i, none⟩) hTlt).trans r1) | go_keep)
            ((go_at_call 55; refine (mark_any i (by omega) _).mono ?_; rintro e wm ⟨rfl, d⟩; have hu2 := (d.cell (p := ⟨g, k, none⟩) hglt).trans hu; have hf2 := (froz_below (k := k) d hglt).trans hfz))
          have D : Below wr.heap.size wr wm := ⟨d.os, d.tape, d.output, d.size, d.block⟩
          have F3 := hide ((F2.out.below D).stored (k := k) hlt HE.out (mk i))
          have M3 := hide M2.out.step
          clear d D hu2 hf2 F2 M2
          go_wp2
          go_roundw
          case rel => exact ⟨k + 1, _, by omega, by go_num, F3, M3⟩
          case measure => simp [intOf]; omega
        · have j2 : ¬ (k : Int) < (ln i : Int) := by omega
          have hke : k = ln i := by omega
          have M3 : Hid (Mkd N ct2 (i + 1) 0) := by
            have := M2.out
            rw [hke, ← F2.out.lens i hlt] at this
            exact this.done
          clear hke M2
          go_wp2
          go_roundw
          case rel => exact ⟨i + 1, ct2, by omega, by go_num, F2, M3⟩
          case measure => simp [intOf]; omega
    · have i2 : ¬ (i : Int) < (N : Int) := by omega
      have hiN : i = N := by omega
      subst hiN
      have L0 := hide (lg_start F1.out M1.out HVL.out hTw)
      clear F1 M1
      go_wp2
      go_loopw [46] (fun ii wz => ii = .int .i64 0 ∧ wz = wr) (fun _ _ => 0)
      case atStart => exact ⟨rfl, rfl⟩
      case round =>
        obtain ⟨rfl, rfl⟩ := hrel
        go_wp2
        go_loopw [9, 69] (fun lv ii wz => ∃ (j : Nat) (ls : Nat → Value), j ≤ i ∧ ii = .int .i64 j ∧ Hid (Lg w i T vs ln j j lv ls wz)) (fun _ ii _ => i - (intOf ii).toNat)
        case atStart => exact ⟨0, _, Nat.zero_le _, rfl, L0⟩
        case round =>
          obtain ⟨j, ls, hj, rfl, L1⟩ := hrel
          clear L0
          by_cases hlt : j < i
          · have r0 := L1.out.row j hlt
            have I0 := hide (inn_start L1.out hlt)
            have hlj := HLN.out j hlt
            have i0 : (0 : Int) ≤ (j : Int) := by omega
            have i3 : (j : Int) < (i : Int) := by omega
            clear L1
            go_wp2
            go_loopw [11, 12] (fun mv kk wz => ∃ k : Nat, k ≤ 90 ∧ kk = .int .i64 k ∧ Hid (Inn w i T vs ln j u9 ls mv k wz)) (fun _ kk _ => 90 - (intOf kk).toNat)
            case atStart => exact ⟨0, Nat.zero_le _, rfl, I0⟩
            case round =>
              obtain ⟨k, hk, rfl, I1⟩ := hrel
              clear I0 r0
              by_cases hk90 : k < 90
              · have k2 : (k : Int) < 90 := by omega
                go_wp2_with fail
                refine (mark_any j (by omega) _).mono ?_
                rintro e wm ⟨rfl, d⟩
                have I2 := hide (inn_below I1.out d)
                have hown : OwnS wm 0 u11 (List.replicate (ln j + k) (mk j)) := I2.out.own
                clear d I1
                go_wp2_with (at_builtin; refine wpList_app1 _ rfl _ _ rfl u11 (List.replicate (ln j + k) (mk j)) (mk j) rfl (World.ownsRow.alloc hown _) ⟨wm.heap.size, 0, none⟩ rfl (cell_one_new _ _ _) (by simp; omega) ?_)
                intro gv cv w3 ho hl
                have I3 := hide (inn_next (inn_below I2.out (below_new wm (.cells #[.string (mk j)] 9))) hlt ho (hl.imp id (fun x => ⟨by rw [x.1]; simp, x.2⟩)))
                clear ho hl I2 hown
                go_wp2
                go_roundw
                case rel => exact ⟨k + 1, by omega, by go_num, I3⟩
                case measure => simp [intOf]; omega
              · have k2 : ¬ (k : Int) < 90 := by omega
                have hk9 : k = 90 := by omega
                have I2 : Hid (Inn w i T vs ln j u9 ls u11 90 wr) := hk9 ▸ I1
                obtain ⟨ao, cp, hm, _⟩ := I2.out.own.str
                rw [List.length_replicate] at hm
                subst hm
                have hrow := I2.out.L.lrow
                clear hk9 I1
                go_wp2_with (at_builtin; refine wpList_append_own_at _ rfl _ _ _ rfl 0 22 i22 _ 1 24 Tryd.underlying82 hi22 hz220 hz221 hz222 rfl (by omega) u9 j ((List.range j).map ls) rfl (hrow.alloc _) ⟨wr.heap.size, 0, none⟩ 1 1 [.slice ao (ln j + 90) cp] rfl rfl (cell_one_new _ _ _) (by intro u hu; simp at hu; rw [hu]; rfl) (by unfold maxLen; omega) (by omega) (Nat.zero_le _) ?_)
                intro lv' w3 ho hgr hnil hloc
                have L2 := hide (lg_next I2.out hlt ho hgr (hloc.imp id (fun x => by first | exact x | (rw [x]; simp))))
                clear ho hgr hnil hloc hrow I2
                go_wp2
                go_roundw
                case rel => exact ⟨j + 1, _, by omega, by go_num, L2⟩
                case measure => simp [intOf]; omega
          · have i3 : ¬ (j : Int) < (i : Int) := by omega
            have hji : j = i := by omega
            subst hji
            go_wp2
            go_loopw [13, 92] (fun wv ii wz => wv = .slice none 0 0 ∧ ii = .int .i64 0 ∧ wz = wr) (fun _ _ _ => 0)
            case atStart => exact ⟨rfl, rfl, rfl⟩
            case round =>
              obtain ⟨rfl, rfl, rfl⟩ := hrel
              have hlr := L1.out.lrow
              obtain ⟨al, cl, hlv⟩ : ∃ al cl, u9 = .slice al j cl := by
                rcases hlr.2 with ⟨e, e2⟩ | ⟨g, cap, cur, e, _⟩
                · exact ⟨none, 0, by rw [e, e2]⟩
                · exact ⟨_, _, e⟩
              subst hlv
              go_wp2
              go_loopw [115] (fun ii wz => ∃ q : Nat, q ≤ j ∧ ii = .int .i64 q ∧ Hid (Lg w j T vs ln j j (.slice al j cl) ls wz)) (fun ii _ => j - (intOf ii).toNat)
              case atStart => exact ⟨0, Nat.zero_le _, rfl, L1⟩
              case round =>
                obtain ⟨q, hq, rfl, L2⟩ := hrel
                clear L1 hlr
                by_cases hql : q < j
                · obtain ⟨gl, cl2, el, _, _⟩ := L2.out.lrow.form (by omega)
                  have hlrow := L2.out.lrow
                  simp only [Value.slice.injEq] at el
                  obtain ⟨rfl, _, rfl⟩ := el
                  have c0 : wr.cell? ⟨gl, q, none⟩ = some (ls q) := by
                    rw [hlrow.cellAt q (by omega)]
                    simp [hql]
                  have hol : wr.ownsRow 0 9 1 (ls q) (ln q + 90) (strV (List.replicate (ln q + 90) (mk q))) := by
                    have := L2.out.lng q hql
                    unfold OwnS at this
                    rwa [List.length_replicate] at this
                  obtain ⟨gq, cq, eq1, _, _⟩ := hol.form (by omega)
                  have hlq := HLN.out q hql
                  rw [eq1] at c0
                  have HE := hide eq1
                  have j0 : (0 : Int) ≤ (q : Int) := by omega
                  have j2 : (q : Int) < (j : Int) := by omega
                  clear hlrow hol eq1
                  go_wp2
                  go_loopw [123] (fun kk wz => ∃ k : Nat, k ≤ ln q + 90 ∧ kk = .int .i64 k ∧ Hid (Lg w j T vs ln j j (.slice (some ⟨gl, 0, none⟩) j cl) ls wz)) (fun kk _ => ln q + 90 - (intOf kk).toNat)
                  case atStart => exact ⟨0, Nat.zero_le _, rfl, L2⟩
                  case round =>
                    obtain ⟨k, hk, rfl, L3⟩ := hrel
                    clear L2 c0
                    by_cases hkl : k < ln q + 90
                    · have hlrow := L3.out.lrow
                      have c0 : wr.cell? ⟨gl, q, none⟩ = some (ls q) := by
                        rw [hlrow.cellAt q (by omega)]
                        simp [hql]
                      have hol : wr.ownsRow 0 9 1 (ls q) (ln q + 90) (strV (List.replicate (ln q + 90) (mk q))) := by
                        have := L3.out.lng q hql
                        unfold OwnS at this
                        rwa [List.length_replicate] at this
                      rw [HE.out] at c0 hol
                      have c1 : wr.cell? ⟨gq, k, none⟩ = some (.string (mk q)) := by
                        rw [hol.cellAt k (by omega)]
                        simp only [strV, List.getElem?_map, List.getElem?_replicate]
                        rw [if_pos (by omega)]
                        rfl
                      have c2 := L3.out.row q hql
                      obtain ⟨ao, cp, ev, rt⟩ := L3.out.txt q hql
                      rw [List.length_replicate] at ev
                      rw [ev] at c2
                      have k0 : (0 : Int) ≤ (k : Int) := by omega
                      have k2 : (k : Int) < (ln q : Int) + 90 := by omega
                      clear hlrow hol ev
                      by_cases hkn : k < ln q
                      · obtain ⟨gt, ot, ea, c3⟩ := rt k (by simpa using hkn)
                        subst ea
                        rw [List.getElem_replicate] at c3
                        have k3 : (k : Int) < (ln q : Int) := by omega
                        clear rt
                        go_wp2_with fail
                        go_region_held3 (fun W => W.cell? ⟨gl, q, none⟩ = some (.slice (some ⟨gq, 0, none⟩) (ln q + 90) cq) ∧ W.cell? ⟨gq, k, none⟩ = some (.string (mk q)) ∧ W.cell? ⟨T, q, none⟩ = some (.slice (some ⟨gt, ot, none⟩) (ln q) cp) ∧ W.cell? ⟨gt, ot + k, none⟩ = some (.string (mk q)) ∧ Hid (Below wr.heap.size wr W))
                          (first | exact ⟨c0, c1, c2, c3, below_drew wr⟩ | exact keepE (by assumption) (by assumption) | go_keep)
                          ((go_at_call 55; refine (mark_any q (by omega) _).mono ?_; rintro e wm ⟨rfl, d⟩))
                        have D := outE (w := wr) (by assumption)
                        have L4 := hide (lg_below L3.out D)
                        clear D L3 c0 c1 c2 c3
                        go_wp2
                        go_roundw
                        case rel => exact ⟨k + 1, by omega, by go_num, L4⟩
                        case measure => simp [intOf]; omega
                      · have k3 : ¬ (k : Int) < (ln q : Int) := by omega
                        have k4 : decide ((k : Int) < (ln q : Int)) = false := by rw [decide_eq_false_iff_not]; omega
                        have k5 : decide (k < ln q) = false := by rw [decide_eq_false_iff_not]; omega
                        clear rt
                        go_wp2_with fail
                        refine wp_region_held_drew (S := (fun W => W.cell? ⟨gl, q, none⟩ = some (.slice (some ⟨gq, 0, none⟩) (ln q + 90) cq) ∧ W.cell? ⟨gq, k, none⟩ = some (.string (mk q)) ∧ W.cell? ⟨T, q, none⟩ = some (.slice ao (ln q) cp) ∧ W.cell? ⟨T, q, none⟩ = some (.slice ao (ln q) cp) ∧ Hid (Below wr.heap.size wr W))) (by kernel_rfl) ⟨c0, c1, c2, c2, below_drew wr⟩ (fun hHeld => ?_)
                        refine wpAnyH_take (i := 0) (oi := { dst := some 126, op := Op.move (Operand.tmp 9), type := 82, pos := "law.go:112", after := #[], guard := none }) (v := ?vv0) rfl (by kernel_rfl) (by kernel_rfl) (by kernel_rfl) (fun _ _ _ h => h) (Or.inl ⟨by rfl, ?hy0⟩) hHeld ?rs0
                        case hy0 => (intro w hSw; (try dsimp only at hSw); go_simp; try with_reducible rfl)
                        simp only [Act.put, List.setIfInBounds_toArray, List.set_cons_zero, List.set_cons_succ]
                        refine wpAnyH_take (i := 1) (oi := { dst := some 127, op := Op.move (Operand.tmp 17), type := 3, pos := "law.go:112", after := #[], guard := none }) (v := ?vv1) rfl (by kernel_rfl) (by kernel_rfl) (by kernel_rfl) (fun _ _ _ h => h) (Or.inl ⟨by rfl, ?hy1⟩) hHeld ?rs1
                        case hy1 => (intro w hSw; (try dsimp only at hSw); go_simp; try with_reducible rfl)
                        simp only [Act.put, List.setIfInBounds_toArray, List.set_cons_zero, List.set_cons_succ]
                        refine wpAnyH_take (i := 2) (oi := { dst := some 128, op := Op.indexAddr 82 (Operand.tmp 126) (Operand.tmp 127), type := 0, pos := "law.go:112", after := #[{ on := 0, ground := Ground.data }, { on := 1, ground := Ground.data }], guard := none }) (v := ?vv2) rfl (by kernel_rfl) (by kernel_rfl) (by kernel_rfl) (fun _ _ _ h => h) (Or.inl ⟨by rfl, ?hy2⟩) hHeld ?rs2
                        case hy2 => (intro w hSw; (try dsimp only at hSw); go_simp; try with_reducible rfl)
                        simp only [Act.put, List.setIfInBounds_toArray, List.set_cons_zero, List.set_cons_succ]
                        refine wpAnyH_take (i := 3) (oi := { dst := some 129, op := Op.load 22 (Operand.tmp 128), type := 22, pos := "law.go:112", after := #[{ on := 2, ground := Ground.data }], guard := none }) (v := ?vv3) rfl (by kernel_rfl) (by kernel_rfl) (by kernel_rfl) (fun _ _ _ h => h) (Or.inl ⟨by rfl, ?hy3⟩) hHeld ?rs3
                        case hy3 => (intro w hSw; (try dsimp only at hSw); go_simp; try with_reducible rfl)
                        simp only [Act.put, List.setIfInBounds_toArray, List.set_cons_zero, List.set_cons_succ]
                        refine wpAnyH_take (i := 4) (oi := { dst := some 130, op := Op.move (Operand.tmp 18), type := 3, pos := "law.go:112", after := #[], guard := none }) (v := ?vv4) rfl (by kernel_rfl) (by kernel_rfl) (by kernel_rfl) (fun _ _ _ h => h) (Or.inl ⟨by rfl, ?hy4⟩) hHeld ?rs4
                        case hy4 => (intro w hSw; (try dsimp only at hSw); go_simp; try with_reducible rfl)
                        simp only [Act.put, List.setIfInBounds_toArray, List.set_cons_zero, List.set_cons_succ]
                        refine wpAnyH_take (i := 5) (oi := { dst := some 131, op := Op.indexAddr 22 (Operand.tmp 129) (Operand.tmp 130), type := 0, pos := "law.go:112", after := #[{ on := 3, ground := Ground.data }, { on := 4, ground := Ground.data }], guard := none }) (v := ?vv5) rfl (by kernel_rfl) (by kernel_rfl) (by kernel_rfl) (fun _ _ _ h => h) (Or.inl ⟨by rfl, ?hy5⟩) hHeld ?rs5
                        case hy5 => (intro w hSw; (try dsimp only at hSw); go_simp; try with_reducible rfl)
                        simp only [Act.put, List.setIfInBounds_toArray, List.set_cons_zero, List.set_cons_succ]
                        refine wpAnyH_take (i := 6) (oi := { dst := some 132, op := Op.load 9 (Operand.tmp 131), type := 9, pos := "law.go:112", after := #[{ on := 5, ground := Ground.data }], guard := none }) (v := ?vv6) rfl (by kernel_rfl) (by kernel_rfl) (by kernel_rfl) (fun _ _ _ h => h) (Or.inl ⟨by rfl, ?hy6⟩) hHeld ?rs6
                        case hy6 => (intro w hSw; (try dsimp only at hSw); go_simp; try with_reducible rfl)
                        simp only [Act.put, List.setIfInBounds_toArray, List.set_cons_zero, List.set_cons_succ]
                        refine wpAnyH_take (i := 7) (oi := { dst := some 133, op := Op.move (Operand.tmp 17), type := 3, pos := "law.go:112", after := #[], guard := none }) (v := ?vv7) rfl (by kernel_rfl) (by kernel_rfl) (by kernel_rfl) (fun _ _ _ h => h) (Or.inl ⟨by rfl, ?hy7⟩) hHeld ?rs7
                        case hy7 => (intro w hSw; (try dsimp only at hSw); go_simp; try with_reducible rfl)
                        simp only [Act.put, List.setIfInBounds_toArray, List.set_cons_zero, List.set_cons_succ]
                        refine wpAnyH_ready (rs := [8]) (by kernel_rfl) (by simp) ?_
                        refine AllReadyH.cons (o := { dst := some 134, op := Op.call { callee := Callee.value (Operand.func 55), args := #[Operand.tmp 133], argTypes := #[3] }, type := 9, pos := "law.go:112", after := #[{ on := 7, ground := Ground.data }], guard := none }) rfl (fun K hK => ?_) AllReadyH.nil
                        go_simp
                        refine (mark_any q (by omega) _).mono ?_
                        rintro e wm ⟨rfl, d⟩
                        have hH2 := keepE hHeld d
                        clear hHeld
                        refine hK.out _ _ hH2 (fun hHeld => ?_)
                        clear hK K hH2
                        try simp only [Act.put, List.setIfInBounds_toArray, List.set_cons_zero, List.set_cons_succ]
                        refine wpAnyH_take (i := 9) (oi := { dst := some 135, op := Op.binOp BinOp.neq 9 (Operand.tmp 132) (Operand.tmp 134) 9, type := 4, pos := "law.go:112", after := #[{ on := 6, ground := Ground.data }, { on := 8, ground := Ground.data }], guard := none }) (v := ?vv9) rfl (by kernel_rfl) (by kernel_rfl) (by kernel_rfl) (fun _ _ _ h => h) (Or.inl ⟨by rfl, ?hy9⟩) hHeld ?rs9
                        case hy9 => (intro w hSw; (try dsimp only at hSw); go_simp; try with_reducible rfl)
                        simp only [Act.put, List.setIfInBounds_toArray, List.set_cons_zero, List.set_cons_succ]
                        refine wpAnyH_take (i := 10) (oi := { dst := some 136, op := Op.move (Operand.tmp 135), type := 4, pos := "law.go:112", after := #[{ on := 9, ground := Ground.data }, { on := 8, ground := Ground.chain }], guard := none }) (v := ?vv10) rfl (by kernel_rfl) (by kernel_rfl) (by kernel_rfl) (fun _ _ _ h => h) (Or.inl ⟨by rfl, ?hy10⟩) hHeld ?rs10
                        case hy10 => (intro w hSw; (try dsimp only at hSw); go_simp; try with_reducible rfl)
                        simp only [Act.put, List.setIfInBounds_toArray, List.set_cons_zero, List.set_cons_succ]
                        refine wpAnyH_take (i := 11) (oi := { dst := some 137, op := Op.move (Operand.tmp 18), type := 3, pos := "law.go:112", after := #[{ on := 10, ground := Ground.guard }], guard := some (10, false) }) (v := ?vv11) rfl (by kernel_rfl) (by kernel_rfl) (by kernel_rfl) (fun _ _ _ h => h) (Or.inl ⟨by rfl, ?hy11⟩) hHeld ?rs11
                        case hy11 => (intro w hSw; (try dsimp only at hSw); go_simp; try with_reducible rfl)
                        simp only [Act.put, List.setIfInBounds_toArray, List.set_cons_zero, List.set_cons_succ]
                        refine wpAnyH_take (i := 12) (oi := { dst := some 138, op := Op.move (Operand.tmp 0), type := 82, pos := "law.go:112", after := #[{ on := 10, ground := Ground.guard }], guard := some (10, false) }) (v := ?vv12) rfl (by kernel_rfl) (by kernel_rfl) (by kernel_rfl) (fun _ _ _ h => h) (Or.inl ⟨by rfl, ?hy12⟩) hHeld ?rs12
                        case hy12 => (intro w hSw; (try dsimp only at hSw); go_simp; try with_reducible rfl)
                        simp only [Act.put, List.setIfInBounds_toArray, List.set_cons_zero, List.set_cons_succ]
                        refine wpAnyH_take (i := 13) (oi := { dst := some 139, op := Op.move (Operand.tmp 17), type := 3, pos := "law.go:112", after := #[{ on := 10, ground := Ground.guard }], guard := some (10, false) }) (v := ?vv13) rfl (by kernel_rfl) (by kernel_rfl) (by kernel_rfl) (fun _ _ _ h => h) (Or.inl ⟨by rfl, ?hy13⟩) hHeld ?rs13
                        case hy13 => (intro w hSw; (try dsimp only at hSw); go_simp; try with_reducible rfl)
                        simp only [Act.put, List.setIfInBounds_toArray, List.set_cons_zero, List.set_cons_succ]
                        refine wpAnyH_take (i := 14) (oi := { dst := some 140, op := Op.indexAddr 82 (Operand.tmp 138) (Operand.tmp 139), type := 0, pos := "law.go:112", after := #[{ on := 12, ground := Ground.data }, { on := 13, ground := Ground.data }, { on := 10, ground := Ground.guard }], guard := some (10, false) }) (v := ?vv14) rfl (by kernel_rfl) (by kernel_rfl) (by kernel_rfl) (fun _ _ _ h => h) (Or.inl ⟨by rfl, ?hy14⟩) hHeld ?rs14
                        case hy14 => (intro w hSw; (try dsimp only at hSw); go_simp; try with_reducible rfl)
                        simp only [Act.put, List.setIfInBounds_toArray, List.set_cons_zero, List.set_cons_succ]
                        refine wpAnyH_take (i := 15) (oi := { dst := some 141, op := Op.load 22 (Operand.tmp 140), type := 22, pos := "law.go:112", after := #[{ on := 14, ground := Ground.data }, { on := 10, ground := Ground.guard }], guard := some (10, false) }) (v := ?vv15) rfl (by kernel_rfl) (by kernel_rfl) (by kernel_rfl) (fun _ _ _ h => h) (Or.inl ⟨by rfl, ?hy15⟩) hHeld ?rs15
                        case hy15 => (intro w hSw; (try dsimp only at hSw); go_simp; try with_reducible rfl)
                        simp only [Act.put, List.setIfInBounds_toArray, List.set_cons_zero, List.set_cons_succ]
                        refine wpAnyH_take (i := 16) (oi := { dst := some 142, op := Op.call { callee := Callee.builtin Builtin.len, args := #[Operand.tmp 141], argTypes := #[22] }, type := 3, pos := "law.go:112", after := #[{ on := 15, ground := Ground.data }, { on := 10, ground := Ground.guard }], guard := some (10, false) }) (v := ?vv16) rfl (by kernel_rfl) (by kernel_rfl) (by kernel_rfl) (fun _ _ _ h => h) (Or.inl ⟨by rfl, ?hy16⟩) hHeld ?rs16
                        case hy16 => (intro w hSw; (try dsimp only at hSw); go_simp; try with_reducible rfl)
                        simp only [Act.put, List.setIfInBounds_toArray, List.set_cons_zero, List.set_cons_succ]
                        refine wpAnyH_take (i := 17) (oi := { dst := some 143, op := Op.binOp BinOp.lss 3 (Operand.tmp 137) (Operand.tmp 142) 3, type := 4, pos := "law.go:112", after := #[{ on := 11, ground := Ground.data }, { on := 16, ground := Ground.data }, { on := 10, ground := Ground.guard }], guard := some (10, false) }) (v := ?vv17) rfl (by kernel_rfl) (by kernel_rfl) (by kernel_rfl) (fun _ _ _ h => h) (Or.inl ⟨by rfl, ?hy17⟩) hHeld ?rs17
                        case hy17 => (intro w hSw; (try dsimp only at hSw); go_simp; try with_reducible rfl)
                        simp only [Act.put, List.setIfInBounds_toArray, List.set_cons_zero, List.set_cons_succ]
                        refine wpAnyH_take (i := 18) (oi := { dst := some 144, op := Op.move (Operand.tmp 143), type := 4, pos := "law.go:112", after := #[{ on := 17, ground := Ground.data }, { on := 10, ground := Ground.chain }, { on := 10, ground := Ground.guard }], guard := some (10, false) }) (v := ?vv18) rfl (by kernel_rfl) (by kernel_rfl) (by kernel_rfl) (fun _ _ _ h => h) (Or.inl ⟨by rfl, ?hy18⟩) hHeld ?rs18
                        case hy18 => (intro w hSw; (try dsimp only at hSw); go_simp; try with_reducible rfl)
                        simp only [Act.put, List.setIfInBounds_toArray, List.set_cons_zero, List.set_cons_succ]
                        refine wpAnyH_take (i := 19) (oi := { dst := some 145, op := Op.move (Operand.tmp 0), type := 82, pos := "law.go:112", after := #[{ on := 18, ground := Ground.guard }], guard := some (18, true) }) (v := undef) rfl (by kernel_rfl) (by kernel_rfl) (by kernel_rfl) (fun _ _ _ h => h) (Or.inr ⟨by rfl, rfl⟩) hHeld ?_
                        simp only [Act.put, List.setIfInBounds_toArray, List.set_cons_zero, List.set_cons_succ]
                        refine wpAnyH_take (i := 20) (oi := { dst := some 146, op := Op.move (Operand.tmp 17), type := 3, pos := "law.go:112", after := #[{ on := 18, ground := Ground.guard }], guard := some (18, true) }) (v := undef) rfl (by kernel_rfl) (by kernel_rfl) (by kernel_rfl) (fun _ _ _ h => h) (Or.inr ⟨by rfl, rfl⟩) hHeld ?_
                        simp only [Act.put, List.setIfInBounds_toArray, List.set_cons_zero, List.set_cons_succ]
                        refine wpAnyH_take (i := 21) (oi := { dst := some 147, op := Op.indexAddr 82 (Operand.tmp 145) (Operand.tmp 146), type := 0, pos := "law.go:112", after := #[{ on := 19, ground := Ground.data }, { on := 20, ground := Ground.data }, { on := 18, ground := Ground.guard }], guard := some (18, true) }) (v := undef) rfl (by kernel_rfl) (by kernel_rfl) (by kernel_rfl) (fun _ _ _ h => h) (Or.inr ⟨by rfl, rfl⟩) hHeld ?_
                        simp only [Act.put, List.setIfInBounds_toArray, List.set_cons_zero, List.set_cons_succ]
                        refine wpAnyH_take (i := 22) (oi := { dst := some 148, op := Op.load 22 (Operand.tmp 147), type := 22, pos := "law.go:112", after := #[{ on := 21, ground := Ground.data }, { on := 18, ground := Ground.guard }], guard := some (18, true) }) (v := undef) rfl (by kernel_rfl) (by kernel_rfl) (by kernel_rfl) (fun _ _ _ h => h) (Or.inr ⟨by rfl, rfl⟩) hHeld ?_
                        simp only [Act.put, List.setIfInBounds_toArray, List.set_cons_zero, List.set_cons_succ]
                        refine wpAnyH_take (i := 23) (oi := { dst := some 149, op := Op.move (Operand.tmp 18), type := 3, pos := "law.go:112", after := #[{ on := 18, ground := Ground.guard }], guard := some (18, true) }) (v := undef) rfl (by kernel_rfl) (by kernel_rfl) (by kernel_rfl) (fun _ _ _ h => h) (Or.inr ⟨by rfl, rfl⟩) hHeld ?_
                        simp only [Act.put, List.setIfInBounds_toArray, List.set_cons_zero, List.set_cons_succ]
                        refine wpAnyH_take (i := 24) (oi := { dst := some 150, op := Op.indexAddr 22 (Operand.tmp 148) (Operand.tmp 149), type := 0, pos := "law.go:112", after := #[{ on := 22, ground := Ground.data }, { on := 23, ground := Ground.data }, { on := 18, ground := Ground.guard }], guard := some (18, true) }) (v := undef) rfl (by kernel_rfl) (by kernel_rfl) (by kernel_rfl) (fun _ _ _ h => h) (Or.inr ⟨by rfl, rfl⟩) hHeld ?_
                        simp only [Act.put, List.setIfInBounds_toArray, List.set_cons_zero, List.set_cons_succ]
                        refine wpAnyH_take (i := 25) (oi := { dst := some 151, op := Op.load 9 (Operand.tmp 150), type := 9, pos := "law.go:112", after := #[{ on := 24, ground := Ground.data }, { on := 18, ground := Ground.guard }], guard := some (18, true) }) (v := undef) rfl (by kernel_rfl) (by kernel_rfl) (by kernel_rfl) (fun _ _ _ h => h) (Or.inr ⟨by rfl, rfl⟩) hHeld ?_
                        simp only [Act.put, List.setIfInBounds_toArray, List.set_cons_zero, List.set_cons_succ]
                        refine wpAnyH_take (i := 26) (oi := { dst := some 152, op := Op.move (Operand.tmp 17), type := 3, pos := "law.go:112", after := #[{ on := 18, ground := Ground.guard }], guard := some (18, true) }) (v := undef) rfl (by kernel_rfl) (by kernel_rfl) (by kernel_rfl) (fun _ _ _ h => h) (Or.inr ⟨by rfl, rfl⟩) hHeld ?_
                        simp only [Act.put, List.setIfInBounds_toArray, List.set_cons_zero, List.set_cons_succ]
                        refine wpAnyH_take (i := 27) (oi := { dst := some 153, op := Op.call { callee := Callee.value (Operand.func 55), args := #[Operand.tmp 152], argTypes := #[3] }, type := 9, pos := "law.go:112", after := #[{ on := 26, ground := Ground.data }, { on := 18, ground := Ground.chain }, { on := 18, ground := Ground.guard }], guard := some (18, true) }) (v := undef) rfl (by kernel_rfl) (by kernel_rfl) (by kernel_rfl) (fun _ _ _ h => h) (Or.inr ⟨by rfl, rfl⟩) hHeld ?_
                        simp only [Act.put, List.setIfInBounds_toArray, List.set_cons_zero, List.set_cons_succ]
                        refine wpAnyH_take (i := 28) (oi := { dst := some 154, op := Op.binOp BinOp.neq 9 (Operand.tmp 151) (Operand.tmp 153) 9, type := 4, pos := "law.go:112", after := #[{ on := 25, ground := Ground.data }, { on := 27, ground := Ground.data }, { on := 18, ground := Ground.guard }], guard := some (18, true) }) (v := undef) rfl (by kernel_rfl) (by kernel_rfl) (by kernel_rfl) (fun _ _ _ h => h) (Or.inr ⟨by rfl, rfl⟩) hHeld ?_
                        simp only [Act.put, List.setIfInBounds_toArray, List.set_cons_zero, List.set_cons_succ]
                        refine wpAnyH_take (i := 29) (oi := { dst := some 155, op := Op.pick (Operand.tmp 144) (Operand.tmp 154) (Operand.const (Value.bool false)), type := 4, pos := "law.go:112", after := #[{ on := 18, ground := Ground.data }, { on := 28, ground := Ground.data }, { on := 10, ground := Ground.guard }], guard := some (10, false) }) (v := ?vv29) rfl (by kernel_rfl) (by kernel_rfl) (by kernel_rfl) (fun _ _ _ h => h) (Or.inl ⟨by rfl, ?hy29⟩) hHeld ?rs29
                        case hy29 => (intro w hSw; (try dsimp only at hSw); go_simp; try with_reducible rfl)
                        simp only [Act.put, List.setIfInBounds_toArray, List.set_cons_zero, List.set_cons_succ]
                        refine wpAnyH_take (i := 30) (oi := { dst := some 156, op := Op.pick (Operand.tmp 136) (Operand.const (Value.bool true)) (Operand.tmp 155), type := 4, pos := "law.go:112", after := #[{ on := 10, ground := Ground.data }, { on := 29, ground := Ground.data }], guard := none }) (v := ?vv30) rfl (by kernel_rfl) (by kernel_rfl) (by kernel_rfl) (fun _ _ _ h => h) (Or.inl ⟨by rfl, ?hy30⟩) hHeld ?rs30
                        case hy30 => (intro w hSw; (try dsimp only at hSw); go_simp; try with_reducible rfl)
                        simp only [Act.put, List.setIfInBounds_toArray, List.set_cons_zero, List.set_cons_succ]
                        refine wpAnyH_done (by kernel_rfl) ?_ _
                        have D := outE hHeld
                        have L4 := hide (lg_below L3.out D)
                        clear D L3 c0 c1 c2 hHeld d
                        go_wp2
                        go_roundw
                        case rel => exact ⟨k + 1, by omega, by go_num, L4⟩
                        case measure => simp [intOf]; omega
                    · have k2 : ¬ (k : Int) < (ln q : Int) + 90 := by omega
                      go_wp2
                      go_roundw
                      case rel => exact ⟨q + 1, by omega, by go_num, L3⟩
                      case measure => simp [intOf]; omega
                · have j2 : ¬ (q : Int) < (j : Int) := by omega
                  have O := L2.out.O
                  clear L2
                  go_wp2
                  go_loopw [161] (fun ii wz => ii = .int .i64 0 ∧ wz = wr) (fun _ _ => 0)
                  case atStart => exact ⟨rfl, rfl⟩
                  case round =>
                    obtain ⟨rfl, rfl⟩ := hrel
                    go_wp2
                    go_ret
                    exact ⟨rfl, O⟩

theorem apartSpec : ApartSpec := fun N T vs ln ct w hN hln F hT => apart_any N T vs ln ct w hN hln (hide F) hT

end Go.Proofs.YtnfdifkcchciaaaDoor
