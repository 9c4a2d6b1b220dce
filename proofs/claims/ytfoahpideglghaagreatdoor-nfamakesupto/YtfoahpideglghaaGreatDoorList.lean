import Derived.Test.YtfoahpideglghaaGreatDoorNext
import Derived.Deep.AppendLies
namespace Go.Proofs.YtfoahpideglghaaGreatDoor
open Go.RowKit

theorem hide {p : Prop} (h : p) : Hid p := h
theorem IsSet.drew {w : World} {b g cap n X : Nat} (h : IsSet w b g cap n X) : IsSet w.drew b g cap n X := ⟨h.hn, h.hX, h.blk, h.own.drew⟩
theorem IsSet.store {w : World} {b g cap n X X' j : Nat} {v : Int} (h : IsSet w b g cap n X) (hbg : b ≠ g) (hj : j < nw n) (hX' : X' < 2 ^ n)
    (ho : ∀ i, i < nw n → i ≠ j → wordAt X' i = wordAt X i) (hv : v = (wordAt X' j : Int)) : IsSet (w.setCell ⟨g, j, none⟩ (.int .u64 v)) b g cap n X' := by
  refine ⟨h.hn, hX', ?_, ?_⟩
  · rw [heap_setCell_other w ⟨g, j, none⟩ b _ hbg]; exact h.blk
  · have := (h.own.stored j (.int .u64 v)).1
    have e : (wordVals n X).set j (.int .u64 v) = wordVals n X' := by
      apply List.ext_getElem?
      intro i
      rw [List.getElem?_set]
      by_cases hij : j = i
      · subst hij
        rw [if_pos rfl, if_pos (by rw [wordVals_length]; exact hj), wordVals_get n X' j hj, hv]
      · rw [if_neg hij]
        by_cases hi : i < nw n
        · rw [wordVals_get n X i hi, wordVals_get n X' i hi, ho i hi (fun h => hij h.symm)]
        · rw [List.getElem?_eq_none (by rw [wordVals_length]; omega), List.getElem?_eq_none (by rw [wordVals_length]; omega)]
    rwa [e] at this
theorem below_drewN' {B : Nat} {w w' : World} (h : Below B w w') (q : Nat) : Below B w (w'.drewN q) := ⟨h.os, h.tape, h.output, h.size, h.block⟩
theorem info_parts {P : Program} {t : TypeId} {z : Option Value} {s b : Nat} (h : (P.info? t).map (fun i => (i.zero, i.size, i.bytes)) = some (z, s, b)) : ∃ i, P.info? t = some i ∧ i.zero = z ∧ i.size = s ∧ i.bytes = b := by
  cases hi : P.info? t with
  | none => simp [hi] at h
  | some i =>
    rw [hi] at h
    simp only [Option.map_some, Option.some.injEq, Prod.mk.injEq] at h
    exact ⟨i, rfl, h.1, h.2.1, h.2.2⟩
theorem info3 : (Tryz.prog.info? 3).map (fun i => (i.zero, i.size, i.bytes)) = some (some (.int .i64 0), 1, 8) := by kernel_rfl
/-- The numbers as the program holds them. -/
def intV (l : List Nat) : List Value := l.map fun (i : Nat) => .int .i64 (i : Int)
/-- A variable (block c) that holds a slice of the call's own with these numbers; below B nothing has turned since w. -/
structure LSt (w : World) (B base c : Nat) (l : List Nat) (wr : World) : Prop where
  ex : ∃ g cap, wr.heap[c]? = some (.cells #[.slice (some ⟨g, 0, none⟩) l.length cap] 22 (0, 0)) ∧ wr.ownsRow base 3 1 (.slice (some ⟨g, 0, none⟩) l.length cap) l.length (intV l) ∧ g ≠ c
  below : Below B w wr
  base_le : base ≤ wr.heap.size
set_option maxRecDepth 100000 in
set_option maxHeartbeats 400000 in
theorem put_any (w0 : World) (c base B j : Nat) (i : Int) (hij : i = (j : Int)) (l : List Nat) (w : World) (hst : LSt w0 B base c l w) (hBc : B ≤ c) (hBb : B ≤ base) (hn : l.length ≤ 100000) :
    Calls Tryz.prog 98 #[.int .i64 i, .pointer (some ⟨c, 0, none⟩)] w fun e w' => e = .returned (.bool true) ∧ LSt w0 B base c (l ++ [j]) w' := by
  obtain ⟨⟨gv, capv, hc, hown, hne⟩, hbw, hbase⟩ := hst
  obtain ⟨i0, hi, hz0, hz1, hz2⟩ := info_parts info3
  have hcell := cell_of_one hc
  have hclt := cell_lt hc
  have HIJ := hide hij
  clear hij
  go_enter Tryz.func98, Tryz.ntmps98
  go_wp2_with (at_builtin; refine wpList_append_lies _ rfl _ _ _ rfl base 3 i0 _ 1 8 Tryz.underlying22 hi hz0 hz1 hz2 rfl (by omega) _ l.length (intV l) rfl (hown.alloc _) ⟨w.heap.size, 0, none⟩ 1 1 [.int .i64 i] rfl rfl (World.news_of_block (cs := #[.int .i64 i]) (t := 3) (fr := (0, 0)) (heap_alloc_new w _)) (by simp [Value.oneCell']) (by omega) (by unfold maxLen; omega) (by omega) (by simp; omega) (w.heap.size + 1) (by simp) ?_)
  intro g cap w1 hown1 hgr hat hlt
  have hc1 : w1.heap[c]? = some (.cells #[.slice (some ⟨gv, 0, none⟩) l.length capv] 22 (0, 0)) := by
    rw [hgr.block c (by simp; omega) (by simp [Value.ownBlock]; omega), heap_alloc_old _ _ hclt]; exact hc
  have hgc : g ≠ c := by
    rcases hat with h | h
    · simp [Value.ownBlock] at h; omega
    · omega
  have hcell1 := cell_of_one hc1
  have hfree1 := free_of_one hc1
  have hgv := (hown.lt gv rfl).1
  have hb1 : Below B w0 w1 := (hbw.alloc (by omega) _).grown hgr (by simp; omega) (by intro k hk; simp [Value.ownBlock] at hk; omega)
  have hsz := hgr.size
  clear hat hgr hcell hc hown
  go_wp2
  go_ret
  have hV : intV l ++ [.int .i64 i] = intV (l ++ [j]) := by simp [intV, HIJ.out]
  have hL : (l ++ [j]).length = l.length + 1 := by simp
  rw [hV] at hown1
  refine ⟨rfl, ⟨g, cap, ?_, ?_, hgc⟩, hb1.setCell hBc _, ?_⟩
  · rw [hL]; exact one_setCell hc1
  · rw [hL]; exact ownsRow_setCell_other hown1 (by simp [Value.ownBlock]; omega) _
  · simp at hsz ⊢; omega
set_option maxRecDepth 100000 in
theorem TabAt.below {w w' : World} {B : Nat} (h : TabAt w) (hb : Below B w w') (h0 : 0 < B) : TabAt w' := fun j hj => (hb.cell (p := ⟨0, j, none⟩) h0).trans (h j hj)
set_option maxRecDepth 100000 in
theorem and_pred_u64 (y : Nat) (h0 : y ≠ 0) (hy : y < 18446744073709551616) : bits BinOp.and IntKind.u64 (y : Int) ((y : Int) - 1) = ((y &&& (y - 1) : Nat) : Int) := by
  rw [show ((y : Int) - 1) = ((y - 1 : Nat) : Int) by omega, bits_and_u64_nat _ _ hy (by omega)]
set_option maxRecDepth 100000 in
set_option maxHeartbeats 1000000 in
theorem walk_list (w : World) (g cap m X c base B : Nat) (hword : ∀ k, k < m → w.cell? ⟨g, k, none⟩ = some (.int .u64 (wordAt X k))) (hm : m ≤ 128) (hT : TabAt w) (hgB : g < B) (hB0 : 0 < B)
    (hst : LSt w B base c [] w) (hBc : B ≤ c) (hBb : B ≤ base) :
    Calls Tryz.prog 97 #[.slice (some ⟨g, 0, none⟩) m cap, .func (.func 98) #[] #[.pointer (some ⟨c, 0, none⟩)]] w fun e w' => e = .returned (.tuple #[]) ∧ LSt w B base c (elems (64 * m) X) w' := by
  go_enter Tryz.func97, Tryz.ntmps97
  go_wp2
  go_loopw [8] (fun i wr => ∃ k : Nat, k ≤ m ∧ i = .int .i64 k ∧ LSt w B base c (elems (64 * k) X) wr) (fun i _ => m - (intOf i).toNat)
  case atStart => exact ⟨0, Nat.zero_le _, rfl, by simpa [elems] using hst⟩
  case round =>
    obtain ⟨k, hk, rfl, hsr⟩ := hrel
    clear hst
    by_cases hlt : k < m
    · have hcw : wr.cell? ⟨g, k, none⟩ = some (.int .u64 (wordAt X k)) := (hsr.below.cell hgB).trans (hword k hlt)
      have hwl := wordAt_lt X k
      clear hword
      go_wp2
      go_loopw [5] (fun yy wi => ∃ (y : Nat) (acc : List Nat), yy = .int .u64 y ∧ y < 18446744073709551616 ∧ LSt w B base c acc wi ∧ acc ++ (elems 64 y).map (64 * k + ·) = elems (64 * (k + 1)) X) (fun yy _ => (intOf yy).toNat)
      case atStart => exact ⟨_, _, rfl, hwl, hsr, (elems_succ X k).symm⟩
      case round =>
        obtain ⟨y, acc, rfl, hy, hsi, hacc⟩ := hrel
        have HA := hide hacc
        clear hacc hcw hsr
        by_cases h0 : y = 0
        · have hyb : ((y : Int) != 0) = false := by simp [h0]
          have HY := hide h0
          clear h0
          go_wp2
          go_roundw
          case rel =>
            have e := HA.out
            rw [HY.out, elems_zero] at e
            simp at e
            subst e
            exact ⟨k + 1, by omega, by go_num, hsi⟩
          case measure => simp [intOf]; omega
        · have hyb : ((y : Int) != 0) = true := by simp [h0]
          have hT2 : TabAt wr := hT.below hsi.below hB0
          have hc64 : Lib.ctz 64 y < 64 := by obtain ⟨_, _, h⟩ := ctz_spec y h0 hy; exact h
          have hstep : Hid (acc ++ [64 * k + Lib.ctz 64 y] ++ (elems 64 (y &&& (y - 1))).map (64 * k + ·) = elems (64 * (k + 1)) X) := by
            rw [← HA.out, elems_step y h0 hy]
            show _ = _
            simp
          have hacl : acc.length ≤ 100000 := by
            have h1 := congrArg List.length HA.out
            have h2 := cnt_le (64 * (k + 1)) X
            unfold cnt at h2
            simp at h1
            omega
          have hyp := and_pred_u64 y h0 hy
          have hlt2 := and_pred_lt y h0
          go_wp2_with (first | (go_at_call 109; refine (tz_any y hy h0 _ hT2).mono ?_; rintro e w' ⟨rfl, hw⟩; obtain rfl := hw.symm; clear hw) | (go_at_call 98; refine (put_any w c base B (64 * k + Lib.ctz 64 y) _ (by omega) acc _ hsi hBc hBb hacl).mono ?_; rintro e w2 ⟨rfl, hsi2⟩))
          go_roundw
          case rel => exact ⟨y &&& (y - 1), _, rfl, by omega, hsi2, hstep.out⟩
          case measure => simp [intOf]; omega
    · clear hword
      go_wp2
      go_end0
      have hke : k = m := by omega
      subst hke
      exact ⟨rfl, hsr⟩
set_option maxRecDepth 100000 in
set_option maxHeartbeats 400000 in
theorem list_any (b g cap n X : Nat) (w : World) (hs : IsSet w b g cap n X) (hT : TabAt w) :
    Calls Tryz.prog 61 #[.pointer (some ⟨b, 0, none⟩)] w fun e w' => ∃ gl capl, e = .returned (.slice (some ⟨gl, 0, none⟩) (elems n X).length capl) ∧ w'.ownsRow w.heap.size 3 1 (.slice (some ⟨gl, 0, none⟩) (elems n X).length capl) (elems n X).length (intV (elems n X)) ∧ Below w.heap.size w w' := by
  have h1 := hs.c1
  have hblt := hs.blt
  have hglt := hs.glt
  have hcl := cnt_le n X
  have hn := hs.hn
  have hw0 : 0 < w.heap.size := by omega
  obtain ⟨i0, hi, hz0, hz1, hz2⟩ := info_parts info3
  go_enter Tryz.func61, Tryz.ntmps61
  go_wp2_with (first | (go_at_call 70; refine (count_any b g cap n X _ hs).mono ?_; rintro e w' ⟨rfl, hw⟩; obtain rfl := hw.symm; clear hw) | (at_make; refine wpList_make_own _ rfl _ _ 22 rfl w.heap.size 3 i0 (.int .i64 0) 1 Tryz.underlying22 hi hz0 hz1 _ _ _ (cnt n X) rfl rfl rfl ?_ ?_ ?_ ?_))
  · rw [hz2]; omega
  · unfold maxLen; omega
  · exact Nat.le_refl _
  · intro w1 hown hgrow
    have hb1 : Below w.heap.size w w1 := (Below.refl _ _).grown hgrow (Nat.le_refl _) (by intro k hk; cases hk)
    have hs1 := hs.below hb1
    have h11 := hs1.c1
    have hlt1 : w.heap.size < w1.heap.size := (hown.lt _ rfl).2
    have hT1 := hT.below hb1 hw0
    have hblt1 : b < w1.heap.size := hs1.blt
    clear hs h1
    go_wp2_with fail
    have hA := fun o => (Below.refl w.heap.size w1).alloc (by omega) o
    refine (walk_list _ g cap (nw n) X w1.heap.size w.heap.size w.heap.size (fun k hk => by rw [(hA _).cell (p := ⟨g, k, none⟩) hglt]; exact hs1.word k hk) (nw_le hn) (hT1.below (hA _) hw0) hglt hw0 ⟨⟨w.heap.size, cnt n X, heap_alloc_new _ _, hown.alloc _, by omega⟩, Below.refl _ _, by simp; omega⟩ (by omega) (Nat.le_refl _)).mono ?_
    rintro e w2 ⟨rfl, hst⟩
    obtain ⟨⟨gl, capl, hc, hownl, hne⟩, hbl, hbase⟩ := hst
    have hfull := elems_full n (64 * nw n) X hs1.hX (by unfold nw; omega)
    rw [hfull] at hc hownl
    have hcell := cell_of_one hc
    have hb2 : Below w.heap.size w w2 := (hb1.alloc (by omega) _).trans hbl
    clear hc hbl hs1 hA hfull hown hgrow
    go_wp2
    go_ret
    exact ⟨gl, capl, rfl, hownl, hb2⟩
end Go.Proofs.YtfoahpideglghaaGreatDoor
