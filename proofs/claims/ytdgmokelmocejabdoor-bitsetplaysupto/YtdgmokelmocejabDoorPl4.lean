import Derived.Test.YtdgmokelmocejabDoorPlA
namespace Go.Proofs.YtdgmokelmocejabDoor
open Go.RowKit

/-- All numbers of a list are below the bound. -/
def okI (n : Nat) (l : List Int) : Bool := l.all fun i => decide (0 ≤ i ∧ i < (n : Int))
theorem okI_false {n : Nat} {l : List Int} {k : Nat} {x : Int} (hlt : k < l.length) (hx : l.getD k 0 = x) (hin : ¬ (0 ≤ x ∧ x < (n : Int))) : okI n l = false := by
  unfold okI
  rw [List.all_eq_false]
  refine ⟨x, ?_, by simpa using hin⟩
  rw [← hx, List.getD_eq_getElem?_getD, List.getElem?_eq_getElem hlt]
  exact List.getElem_mem hlt
theorem okI_take_one {n : Nat} {l : List Int} {k : Nat} {x : Int} (ht : l.take (k + 1) = l.take k ++ [x]) (h : okI n (l.take k) = true) (hin : 0 ≤ x ∧ x < (n : Int)) : okI n (l.take (k + 1)) = true := by
  unfold okI at h ⊢
  rw [ht, List.all_append, h]
  simpa using hin

set_option maxRecDepth 100000 in
set_option maxHeartbeats 1000000 in
theorem of81_any (ao : Option Addr) (cp n : Nat) (l : List Int) (w : World) (hn : n ≤ 8192) (hr : ReadsI w ao l) (hlen : l.length ≤ 9223372036854775807) :
    Calls Tryd.prog 81 #[.int .i64 n, .slice ao l.length cp] w fun e w' => (okI n l = true ∧ ∃ b g cap, e = .returned (.tuple #[.pointer (some ⟨b, 0, none⟩), .int .i64 0]) ∧ IsSet w' b g cap n (setI n l) ∧ w.heap.size ≤ b ∧ w.heap.size ≤ g ∧ b ≠ g ∧ Below w.heap.size w w') ∨ (okI n l = false ∧ e = .returned (.tuple #[.pointer none, .int .i64 10]) ∧ Below w.heap.size w w') := by
  go_enter Tryd.func81, Tryd.ntmps81
  go_wp2_with fail
  refine (new_ok n _ hn).mono ?_
  rintro e w1 ⟨b, g, cap, rfl, hs1, hb, hg, hbg, hb1⟩
  go_wp2
  go_loopw [21] (fun i wr => ∃ k : Nat, k ≤ l.length ∧ i = .int .i64 k ∧ IsSet wr b g cap n (setI n (l.take k)) ∧ Hid (okI n (l.take k) = true) ∧ Below w.heap.size w wr) (fun i _ => l.length - (intOf i).toNat)
  case atStart => exact ⟨0, Nat.zero_le _, rfl, hs1, rfl, hb1⟩
  case round =>
    obtain ⟨k, hk, rfl, hsr, HO, hbr⟩ := hrel
    clear hs1 hb1
    by_cases hlt : k < l.length
    · obtain ⟨ga, oa, rfl, hc⟩ := hr k hlt
      have hgl : ga < w.heap.size := World.block_lt_of_cell? w ⟨ga, oa + k, none⟩ hc
      have hc2 := (hbr.cell (p := ⟨ga, oa + k, none⟩) hgl).trans hc
      have ht := take_one l k hlt
      obtain ⟨x, hx⟩ : ∃ x, l.getD k 0 = x := ⟨_, rfl⟩
      rw [hx] at hc2 ht
      have HT := hide ht
      have HW := hide hr
      have HX := hide hx
      clear ht hx hr hc
      by_cases hin : 0 ≤ x ∧ x < (n : Int)
      · obtain ⟨j, rfl⟩ := Int.eq_ofNat_of_zero_le hin.1
        have hj : j < n := by omega
        go_wp2_with fail
        refine (add_in b g cap n _ j w.heap.size _ hsr hbg hj hg).mono ?_
        rintro e w2 ⟨rfl, hs2, hb2⟩
        have hc3 := (hb2.cell (p := ⟨ga, oa + k, none⟩) hgl).trans hc2
        have hb3 := hbr.trans hb2
        have HO2 := hide (okI_take_one HT.out HO.out hin)
        clear hsr hbr hb2 hc2
        go_wp2
        go_roundw
        case rel => exact ⟨k + 1, by omega, by go_num, by rw [HT.out, setI_snoc, if_pos hin]; exact hs2, HO2, hb3⟩
        case measure => simp [intOf]; omega
      · have HF := hide (okI_false hlt HX.out hin)
        have HB := hide hbr
        go_wp2_with fail
        refine (add_out b g cap n _ x _ hsr hin).mono ?_
        rintro e w2 ⟨rfl, rfl⟩
        clear hin hbr hsr
        go_wp2
        go_ret2
        exact .inr ⟨HF.out, rfl, HB.out⟩
    · obtain rfl : k = l.length := by omega
      have HS := hide hsr
      have HB := hide hbr
      have HN := hide (And.intro hb (And.intro hg hbg))
      rw [List.take_length] at HO HS
      clear hsr hbr hr hb hg hbg
      go_wp2
      go_ret2
      exact .inl ⟨HO.out, _, _, _, rfl, HS.out, HN.out.1, HN.out.2.1, HN.out.2.2, HB.out⟩
theorem of81_bad (n : Int) (v : Value) (w : World) (h : n < 0 ∨ 8192 < n) :
    Calls Tryd.prog 81 #[.int .i64 n, v] w fun e w' => e = .returned (.tuple #[.pointer none, .int .i64 1]) ∧ w' = w := by
  go_enter Tryd.func81, Tryd.ntmps81
  go_wp2_with fail
  refine (new_bad n _ h).mono ?_
  rintro e w1 ⟨rfl, rfl⟩
  clear h
  go_wp2
  go_ret2
  exact ⟨rfl, rfl⟩
theorem rnew_bad2 (n : Int) (w : World) (h : n < 0 ∨ 8192 < n) :
    Calls Tryd.prog 19 #[.int .i64 n] w fun e w' => e = .returned (.tuple #[.agg #[.int .i64 0, .slice none 0 0], .int .i64 1]) ∧ Below w.heap.size w w' := by
  by_cases h0 : n < 0
  · clear h
    go_enter Tryd.func19, Tryd.ntmps19
    go_wp2
    exact bodyPost_ret (v := .tuple #[.agg #[.int .i64 0, .slice none 0 0], .int .i64 1]) (by simp [results, Tryd.results19, go_sem]) rfl ⟨rfl, (Below.refl _ _).alloc (Nat.le_refl _) _⟩
  · exact rnew_bad n w (by omega)
theorem cell_al {w : World} {P k : Nat} {v : Value} (h : P < w.heap.size) (hc : w.cell? ⟨P, k, none⟩ = some v) (o : Obj) : (w.alloc o).cell? ⟨P, k, none⟩ = some v := (bw1.cell (p := ⟨P, k, none⟩) h).trans hc
set_option maxHeartbeats 400000 in
theorem of66_bad (n : Int) (v : Value) (w : World) (h : n < 0 ∨ 8192 < n) :
    Calls Tryd.prog 66 #[.int .i64 n, v] w fun e w' => e = .returned (.tuple #[.agg #[.int .i64 0, .slice none 0 0], .int .i64 1]) ∧ Below w.heap.size w w' := by
  go_enter Tryd.func66, Tryd.ntmps66
  go_wp2_with fail
  refine (rnew_bad2 n _ h).mono ?_
  rintro e w1 ⟨rfl, hb⟩
  have q0 : w1.heap[w.heap.size]? = some (.cells #[.int .i64 0, .slice none 0 0] 42 (0, 0)) := by rw [hb.block _ (by simp)]; exact heap_alloc_new w _
  have qb : Below w.heap.size w w1 := bw1.trans (hb.mono (by simp))
  have hlt := cell_lt q0
  obtain ⟨⟨f0, f1, d0, d1⟩, c0, c1, kb, _⟩ := res_set 0 (.slice none 0 0) q0
  have HB := hide (kb _ _ (Nat.le_refl _) qb)
  have HC := hide (And.intro c0 c1)
  have hl2 : w.heap.size < ((w1.setCell ⟨w.heap.size, 0, none⟩ (.int .i64 0)).setCell ⟨w.heap.size, 1, none⟩ (.slice none 0 0)).heap.size := by simpa [World.setCell] using hlt
  clear h hb q0 qb c0 c1 kb
  go_wp2
  have e0 := (cell_al hl2 HC.out.1 (Obj.cells #[Value.int IntKind.i64 0, Value.slice none 0 0] 42))
  have e1 := (cell_al hl2 HC.out.2 (Obj.cells #[Value.int IntKind.i64 0, Value.slice none 0 0] 42))
  exact bodyPost_ret (v := .tuple #[.agg #[.int .i64 0, .slice none 0 0], .int .i64 1]) (by simp [results, Tryd.results66, go_sem, e0, e1]) rfl ⟨rfl, HB.out.alloc HB.out.size _⟩

structure ROf (w : World) (P n : Nat) (ao : Option Addr) (cap : Nat) (X : Nat) (wr : World) : Prop where
  lt : w.heap.size < P
  set : wr.heap[P]? = some (.cells #[.int .i64 n, .slice ao (elems n X).length cap] 42 (0, 0))
  res : wr.heap[w.heap.size]? = some (.cells #[.int .i64 0, .slice none 0 0] 42 (0, 0))
  row : Row3 wr ao (elems n X)
  below : Below w.heap.size w wr
theorem rof_keep {w0 w1 w2 : World} {a b c : Addr} {x y z : Value} (h : w1.cell? a = some x ∧ w1.cell? b = some y ∧ w1.cell? c = some z ∧ Below w0.heap.size w0 w1) (hb : Below w1.heap.size w1 w2) : w2.cell? a = some x ∧ w2.cell? b = some y ∧ w2.cell? c = some z ∧ Below w0.heap.size w0 w2 :=
  ⟨(hb.cell (World.block_lt_of_cell? _ _ h.1)).trans h.1, (hb.cell (World.block_lt_of_cell? _ _ h.2.1)).trans h.2.1, (hb.cell (World.block_lt_of_cell? _ _ h.2.2.1)).trans h.2.2.1, h.2.2.2.trans (hb.mono h.2.2.2.size)⟩
theorem cell_set2 {w1 : World} {a : Addr} {Q : Nat} {x : Option Value} (h : w1.cell? a = x) (hq : a.block ≠ Q) (u v : Value) : ((w1.setCell ⟨Q, 0, none⟩ u).setCell ⟨Q, 1, none⟩ v).cell? a = x := by
  rw [World.cell?_of_block (w := w1) (a := a)]
  · exact h
  · rw [heap_setCell_other _ _ _ _ hq, heap_setCell_other _ _ _ _ hq]
theorem rof_set2 {w0 w1 : World} {a b c : Addr} {x y z : Value} (h : w1.cell? a = some x ∧ w1.cell? b = some y ∧ w1.cell? c = some z ∧ Below w0.heap.size w0 w1) (ha : a.block < w0.heap.size) (hb : b.block < w0.heap.size) (hc : c.block < w0.heap.size) (u v : Value) :
    ((w1.setCell ⟨w0.heap.size, 0, none⟩ u).setCell ⟨w0.heap.size, 1, none⟩ v).cell? a = some x ∧ ((w1.setCell ⟨w0.heap.size, 0, none⟩ u).setCell ⟨w0.heap.size, 1, none⟩ v).cell? b = some y ∧ ((w1.setCell ⟨w0.heap.size, 0, none⟩ u).setCell ⟨w0.heap.size, 1, none⟩ v).cell? c = some z ∧ Below w0.heap.size w0 ((w1.setCell ⟨w0.heap.size, 0, none⟩ u).setCell ⟨w0.heap.size, 1, none⟩ v) :=
  ⟨cell_set2 h.1 (by omega) _ _, cell_set2 h.2.1 (by omega) _ _, cell_set2 h.2.2.1 (by omega) _ _, (h.2.2.2.setCell (Nat.le_refl _) _).setCell (Nat.le_refl _) _⟩
theorem box_al {w wd w1 : World} (hd : wd.heap = (w.alloc (.cells #[.int .i64 0, .slice none 0 0] 42)).heap) (hb : Below wd.heap.size wd w1) : w1.heap[w.heap.size]? = some (.cells #[.int .i64 0, .slice none 0 0] 42 (0, 0)) := by
  rw [hb.block _ (by rw [hd]; simp), hd]; exact heap_alloc_new w _
theorem rof_s {w0 w1 : World} {a b c : Addr} {x y z : Option Value} (h : w1.cell? a = x ∧ w1.cell? b = y ∧ w1.cell? c = z ∧ Below w0.heap.size w0 w1) : Below w0.heap.size w0 w1 := h.2.2.2
theorem rof_next {w wr wc : World} {P n cap cap3 X Y : Nat} {ao ao3 : Option Addr} (R : ROf w P n ao cap X wr) (hb : Below wr.heap.size wr wc) (hP : wc.heap[P]? = some (.cells #[.int .i64 n, .slice ao (elems n X).length cap] 42 (0, 0))) (hr : Row3 wc ao3 (elems n Y)) :
    ROf w P n ao3 cap3 Y ((wc.setCell ⟨P, 0, none⟩ (.int .i64 n)).setCell ⟨P, 1, none⟩ (.slice ao3 (elems n Y).length cap3)) := by
  have h1 := heap_setCell_same wc P 0 _ 42 (.int .i64 n) hP
  have h2 := heap_setCell_same _ P 1 _ 42 (.slice ao3 (elems n Y).length cap3) h1
  have hlt := R.lt
  refine ⟨R.lt, h2, ?_, (hr.set hP (by decide) _).set h1 (by decide) _, ((R.below.trans (hb.mono R.below.size)).setCell (Nat.le_of_lt hlt) _).setCell (Nat.le_of_lt hlt) _⟩
  rw [heap_setCell_other _ _ _ _ (by simp; omega), heap_setCell_other _ _ _ _ (by simp; omega)]
  exact radd_res R.res hb
set_option maxRecDepth 100000 in
set_option maxHeartbeats 4000000 in
theorem of66_any (ao : Option Addr) (cp n : Nat) (l : List Int) (w : World) (hn : n ≤ 8192) (hr : ReadsI w ao l) (hlen : l.length ≤ 9223372036854775807) :
    Calls Tryd.prog 66 #[.int .i64 n, .slice ao l.length cp] w fun e w' => (okI n l = true ∧ ∃ ao2 cap, e = .returned (.tuple #[.agg #[.int .i64 n, .slice ao2 (elems n (setI n l)).length cap], .int .i64 0]) ∧ Row3 w' ao2 (elems n (setI n l)) ∧ Below w.heap.size w w') ∨ (okI n l = false ∧ e = .returned (.tuple #[.agg #[.int .i64 0, .slice none 0 0], .int .i64 10]) ∧ Below w.heap.size w w') := by
  go_enter Tryd.func66, Tryd.ntmps66
  go_wp2_with fail
  refine (rnew_ok n _ (by omega) (by omega)).mono ?_
  rintro e w1 ⟨rfl, hb⟩
  have q0 : w1.heap[w.heap.size]? = some (.cells #[.int .i64 0, .slice none 0 0] 42 (0, 0)) := by rw [hb.block _ (by simp)]; exact heap_alloc_new w _
  have qb : Below w.heap.size w w1 := bw1.trans (hb.mono (by simp))
  have hlt := cell_lt q0
  have S0 : ROf w w1.heap.size n none 0 0 (w1.alloc (.cells #[.int .i64 n, .slice none 0 0] 42)) :=
    ⟨hlt, by rw [elems_nil]; exact heap_alloc_new _ _, by rw [Below.heap_alloc _ _ _ hlt]; exact q0, by rw [elems_nil]; exact row3_nil _ _, qb.alloc qb.size _⟩
  have HS0 := hide S0
  clear hb q0 qb S0
  go_wp2
  generalize w1.heap.size = P at *
  go_loopw [8] (fun i wr => ∃ (k cap : Nat) (ao2 : Option Addr), k ≤ l.length ∧ i = .int .i64 k ∧ Hid (ROf w P n ao2 cap (setI n (l.take k)) wr) ∧ Hid (okI n (l.take k) = true)) (fun i _ => l.length - (intOf i).toNat)
  case atStart => exact ⟨0, 0, none, Nat.zero_le _, rfl, HS0, rfl⟩
  case round =>
    obtain ⟨k, cap, ao2, hk, rfl, R, HO⟩ := hrel
    clear HS0
    by_cases hlt2 : k < l.length
    · obtain ⟨ga, oa, rfl, hc⟩ := hr k hlt2
      have hgl : ga < w.heap.size := World.block_lt_of_cell? w ⟨ga, oa + k, none⟩ hc
      have hc2 := (R.out.below.cell (p := ⟨ga, oa + k, none⟩) hgl).trans hc
      have ht := take_one l k hlt2
      obtain ⟨x, hx⟩ : ∃ x, l.getD k 0 = x := ⟨_, rfl⟩
      rw [hx] at hc2 ht
      have HT := hide ht
      have HW := hide hr
      have HX := hide hx
      have p0 : wr.cell? ⟨P, 0, none⟩ = some (.int .i64 n) := by rw [cell_of_row _ _ 0 _ 42 (0, 0) R.out.set]; rfl
      have p1 : wr.cell? ⟨P, 1, none⟩ = some (.slice ao2 (elems n (setI n (l.take k))).length cap) := by rw [cell_of_row _ _ 1 _ 42 (0, 0) R.out.set]; rfl
      have i0 : (0 : Int) ≤ (k : Int) := by omega
      have i1 : (k : Int) < (l.length : Int) := by omega
      have hPl : P < wr.heap.size := cell_lt R.out.set
      have hgl2 : ga < wr.heap.size := Nat.lt_of_lt_of_le hgl R.out.below.size
      clear ht hx hr hc
      by_cases hin : 0 ≤ x ∧ x < (n : Int)
      · obtain ⟨j, rfl⟩ := Int.eq_ofNat_of_zero_le hin.1
        have hj : j < n := by omega
        go_wp2_with fail
        go_cut [9, 10] (fun t9 e10 wx => ∃ (Q : Nat) (ao3 : Option Addr) (cap3 : Nat), t9 = .pointer (some ⟨Q, 0, none⟩) ∧ e10 = .int .i64 0 ∧ wx.heap[Q]? = some (.cells #[.int .i64 n, .slice ao3 (elems n (setI n (l.take k) ||| 2 ^ j)).length cap3] 42 (0, 0)) ∧ Row3 wx ao3 (elems n (setI n (l.take k) ||| 2 ^ j)) ∧ Below wr.heap.size wr wx)
        case first =>
          go_region_held3 (fun w' => w'.cell? ⟨P, 0, none⟩ = some (.int .i64 n) ∧ w'.cell? ⟨P, 1, none⟩ = some (.slice ao2 (elems n (setI n (l.take k))).length cap) ∧ w'.cell? ⟨ga, oa + k, none⟩ = some (.int .i64 j) ∧ Below wr.heap.size wr w')
            (first | exact ⟨p0, p1, hc2, (Below.refl _ _).drew⟩ | exact rof_keep (by assumption) hbX | exact rof_keep (by assumption) bw1 | exact rof_keep hS1 bw1 | exact rof_set2 hS1 hPl hPl hgl2 _ _ | go_keep)
            ((go_at_call 74; refine (radd_in n (setI n (l.take k)) j ao2 cap _ hn hj (by exact R.out.row.below (rof_s (by assumption)))).mono ?_; rintro e wX ⟨ao3, cap3, rfl, hr3, hbX⟩; have hS1 := rof_keep (by assumption) hbX; first | (have hb0 := box_al (w := wr) (by rfl) hbX; have hq := res_set (j : Int) (.slice none 0 0) hb0; obtain ⟨⟨hq0, hq1, hq2, hq3⟩, _⟩ := hq) | skip))
          all_goals rename_i hS2
          all_goals (go_wp2_with fail; go_meet)
          case' rel => skip
          all_goals first
            | exact ⟨_, ao3, cap3, rfl, rfl, heap_alloc_new _ _, hr3.below bw1, hS2.2.2.2⟩
            | exact ⟨_, ao3, cap3, rfl, rfl, heap_setCell_same _ _ 1 _ 42 _ (heap_setCell_same _ _ 0 _ 42 _ hb0), (hr3.set hb0 (by decide) _).set (heap_setCell_same _ _ 0 _ 42 _ hb0) (by decide) _, hS2.2.2.2⟩
        case rest =>
          obtain ⟨Q, ao3, cap3, rfl, rfl, hQ, hr3, hbc⟩ := hcut
          have hPc := radd_res R.out.set hbc
          have hRc := radd_res R.out.res hbc
          have m0 : wc.cell? ⟨Q, 0, none⟩ = some (.int .i64 n) := by rw [cell_of_row _ _ 0 _ 42 (0, 0) hQ]; rfl
          have m1 : wc.cell? ⟨Q, 1, none⟩ = some (.slice ao3 (elems n (setI n (l.take k) ||| 2 ^ j)).length cap3) := by rw [cell_of_row _ _ 1 _ 42 (0, 0) hQ]; rfl
          have n0 : wc.cell? ⟨P, 0, none⟩ = some (.int .i64 n) := by rw [cell_of_row _ _ 0 _ 42 (0, 0) hPc]; rfl
          have n1 : wc.cell? ⟨P, 1, none⟩ = some (.slice ao2 (elems n (setI n (l.take k))).length cap) := by rw [cell_of_row _ _ 1 _ 42 (0, 0) hPc]; rfl
          have f0 := frozen_of_row wc P 0 _ 42 hPc
          have f1 := frozen_of_row wc P 1 _ 42 hPc
          have S2 := hide (rof_next (cap3 := cap3) R.out hbc hPc hr3)
          have HO2 := hide (okI_take_one HT.out HO.out hin)
          clear hPc hRc hQ hr3 hbc p0 p1 R
          go_wp2
          go_roundw
          case rel => exact ⟨k + 1, cap3, ao3, by omega, by go_num, by rw [HT.out, setI_snoc, if_pos hin]; exact S2, HO2⟩
          case measure => simp [intOf]; omega
      · have HF := hide (okI_false hlt2 HX.out hin)
        go_wp2_with fail
        go_cut [9, 10] (fun t9 e10 wx => ∃ Q : Nat, t9 = .pointer (some ⟨Q, 0, none⟩) ∧ e10 = .int .i64 10 ∧ Below wr.heap.size wr wx)
        case first =>
          go_region_held3 (fun w' => w'.cell? ⟨P, 0, none⟩ = some (.int .i64 n) ∧ w'.cell? ⟨P, 1, none⟩ = some (.slice ao2 (elems n (setI n (l.take k))).length cap) ∧ w'.cell? ⟨ga, oa + k, none⟩ = some (.int .i64 x) ∧ Below wr.heap.size wr w')
            (first | exact ⟨p0, p1, hc2, (Below.refl _ _).drew⟩ | exact rof_keep (by assumption) hbX | exact rof_keep (by assumption) bw1 | exact rof_keep hS1 bw1 | exact rof_set2 hS1 hPl hPl hgl2 _ _ | go_keep)
            ((go_at_call 74; refine (radd_out n x ao2 (elems n (setI n (l.take k))).length cap _ hin).mono ?_; rintro e wX ⟨rfl, hbX⟩; have hS1 := rof_keep (by assumption) hbX; first | (have hb0 := box_al (w := wr) (by rfl) hbX; have hq := res_set x (.slice none 0 0) hb0; obtain ⟨⟨hq0, hq1, hq2, hq3⟩, _⟩ := hq) | skip))
          all_goals rename_i hS2
          all_goals (go_wp2_with fail; go_meet)
          all_goals exact ⟨_, rfl, rfl, hS2.2.2.2⟩
        case rest =>
          obtain ⟨Q, rfl, rfl, hbc⟩ := hcut
          have hRc := radd_res R.out.res hbc
          obtain ⟨⟨f0, f1, d0, d1⟩, c0, c1, kb, _⟩ := res_set 0 (.slice none 0 0) hRc
          have HC := hide (And.intro c0 c1)
          have HB := hide (kb w.heap.size w (Nat.le_refl _) (R.out.below.trans (hbc.mono R.out.below.size)))
          clear hRc c0 c1 kb hbc R p0 p1 hin
          go_wp2
          obtain ⟨c0, c1⟩ := HC.out
          exact bodyPost_ret (v := .tuple #[.agg #[.int .i64 0, .slice none 0 0], .int .i64 10]) (by simp [results, Tryd.results66, go_sem, c0, c1]) rfl (.inr ⟨HF.out, rfl, HB.out⟩)
    · obtain rfl : k = l.length := by omega
      rw [List.take_length] at HO R
      have p0 : wr.cell? ⟨P, 0, none⟩ = some (.int .i64 n) := by rw [cell_of_row _ _ 0 _ 42 (0, 0) R.out.set]; rfl
      have p1 : wr.cell? ⟨P, 1, none⟩ = some (.slice ao2 (elems n (setI n l)).length cap) := by rw [cell_of_row _ _ 1 _ 42 (0, 0) R.out.set]; rfl
      obtain ⟨⟨f0, f1, d0, d1⟩, c0, c1, kb, kr⟩ := res_set (n : Int) (.slice ao2 (elems n (setI n l)).length cap) R.out.res
      have HC := hide (And.intro c0 c1)
      have HB := hide (And.intro (kr _ _ R.out.row) (kb w.heap.size w (Nat.le_refl _) R.out.below))
      clear c0 c1 kb kr R hr
      go_wp2
      obtain ⟨c0, c1⟩ := HC.out
      exact bodyPost_ret (v := .tuple #[.agg #[.int .i64 n, .slice ao2 (elems n (setI n l)).length cap], .int .i64 0]) (by simp [results, Tryd.results66, go_sem, c0, c1]) rfl (.inl ⟨HO.out, _, _, rfl, HB.out⟩)
end Go.Proofs.YtdgmokelmocejabDoor
