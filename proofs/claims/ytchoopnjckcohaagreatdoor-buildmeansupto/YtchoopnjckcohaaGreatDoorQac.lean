import Derived.Test.YtchoopnjckcohaaGreatDoorQab
import Derived.Deep.AppendLies
import Derived.Deep.RegionWith
import Derived.BigRegion
import Derived.Deep.RegionHeld3
import Derived.RangeFuncRecord
import Derived.Deep.CutBlock
import Derived.Deep.CutRange
import Derived.Deep.DeepCutAuto
set_option maxRecDepth 100000
set_option maxHeartbeats 40000000
namespace Go.Proofs.YtchoopnjckcohaaGreatDoor
def nw (n : Nat) : Nat := (n + 63) / 64
def wordAt (X k : Nat) : Nat := X / 2 ^ (64 * k) % 18446744073709551616
theorem wordAt_lt (X k : Nat) : wordAt X k < 18446744073709551616 := Nat.mod_lt _ (by decide)
theorem elems_mod (a X : Nat) : elems a (X % 2 ^ a) = elems a X := by
 unfold elems
 apply List.filter_congr
 intro i hi
 rw [testBit_mod_lt _ _ _ (List.mem_range.1 hi)]
theorem elems_word (X k : Nat) : elems 64 (wordAt X k) = elems 64 (X / 2 ^ (64 * k)) := by
 have := elems_mod 64 (X / 2 ^ (64 * k))
 exact this
theorem elems_succ (X k : Nat) : elems (64 * (k + 1)) X = elems (64 * k) X ++ (elems 64 (wordAt X k)).map (64 * k + ·) := by
 rw [show 64 * (k + 1) = 64 * k + 64 by omega, elems_add, elems_mod, elems_word]
theorem cnt_succ (X k : Nat) : cnt (64 * (k + 1)) X = cnt (64 * k) X + cnt 64 (wordAt X k) := by
 simp [cnt, elems_succ]
theorem elems_zero (n : Nat) : elems n 0 = [] := by simp [elems]
theorem elems_full (n m X : Nat) (hX : X < 2 ^ n) (h : n ≤ m) : elems m X = elems n X := by
 obtain ⟨d, rfl⟩ : ∃ d, m = n + d := ⟨m - n, by omega⟩
 rw [elems_add, elems_mod, Nat.div_eq_of_lt hX, elems_zero]
 simp
theorem cnt_full (n X : Nat) (hX : X < 2 ^ n) : cnt (64 * nw n) X = cnt n X := by
 unfold cnt
 rw [elems_full n _ X hX (by unfold nw; omega)]
theorem mem_elems {n X i : Nat} : i ∈ elems n X ↔ i < n ∧ X.testBit i = true := by
 simp [elems]
theorem ctz_spec (x : Nat) (h0 : x ≠ 0) (hx : x < 18446744073709551616) : ∃ m, x = 2 ^ Lib.ctz 64 x * (2 * m + 1) ∧ Lib.ctz 64 x < 64 := by
 unfold Lib.ctz
 rw [if_neg h0]
 exact Lib.ctzFrom_spec 64 x (by omega) hx
theorem testBit_odd (c m i : Nat) : (2 ^ c * (2 * m + 1)).testBit i = (decide (i = c) || (decide (c < i) && m.testBit (i - c - 1))) := by
 rw [Nat.mul_comm, Nat.testBit_mul_two_pow]
 by_cases h : i = c
 · subst h; simp [Nat.testBit_zero]
 · by_cases h2 : c < i
   · obtain ⟨j, rfl⟩ : ∃ j, i = c + (j + 1) := ⟨i - c - 1, by omega⟩
     have e1 : c + (j + 1) - c = j + 1 := by omega
     have e2 : c + (j + 1) - c - 1 = j := by omega
     rw [e2, e1, Nat.testBit_succ, show (2 * m + 1) / 2 = m by omega]
     simp
   · have : ¬ c ≤ i := by omega
     simp [h, h2, this]
theorem and_pred (c m : Nat) : (2 ^ c * (2 * m + 1)) &&& (2 ^ c * (2 * m + 1) - 1) = 2 ^ (c + 1) * m := by
 apply Nat.eq_of_testBit_eq
 intro i
 have hp : 0 < 2 ^ c := Nat.two_pow_pos c
 have e : 2 ^ c * (2 * m + 1) - 1 = 2 ^ c * (2 * m) + (2 ^ c - 1) := by
  rw [Nat.mul_add]; omega
 rw [Nat.testBit_and, testBit_odd, e, Nat.testBit_two_pow_mul_add _ (by omega), Nat.mul_comm (2 ^ (c + 1)), Nat.testBit_mul_two_pow]
 by_cases h : i < c
 · have h1 : ¬ i = c := by omega
   have h2 : ¬ c < i := by omega
   have h3 : ¬ c + 1 ≤ i := by omega
   simp [h1, h2, h3]
 · rw [if_neg h]
   by_cases h1 : i = c
   · subst h1
     have : ¬ (i + 1 ≤ i) := by omega
     simp [Nat.testBit_zero, this]
   · obtain ⟨j, rfl⟩ : ∃ j, i = c + (j + 1) := ⟨i - c - 1, by omega⟩
     have e1 : c + (j + 1) - c = j + 1 := by omega
     have e2 : c + (j + 1) - c - 1 = j := by omega
     have e3 : c + (j + 1) - (c + 1) = j := by omega
     have e4 : c + 1 ≤ c + (j + 1) := by omega
     rw [e2, e1, e3, Nat.testBit_succ, show (2 * m) / 2 = m by omega]
     simp [e4]
theorem elems_step (x : Nat) (h0 : x ≠ 0) (hx : x < 18446744073709551616) : elems 64 x = Lib.ctz 64 x :: elems 64 (x &&& (x - 1)) := by
 obtain ⟨m, hm, hc⟩ := ctz_spec x h0 hx
 generalize Lib.ctz 64 x = c at *
 subst hm
 rw [and_pred]
 have hr : List.range 64 = List.range c ++ (c :: (List.range (63 - c)).map (c + 1 + ·)) := by
  rw [show (64 : Nat) = c + (1 + (63 - c)) by omega, List.range_add]
  congr 1
  rw [List.range_add]
  have e : c + (1 + (63 - c)) - (1 + (63 - c)) = c := by omega
  simp [Function.comp_def, Nat.add_assoc]
 have p1 : (List.range c).filter (fun i => (2 ^ c * (2 * m + 1)).testBit i) = [] := by
  rw [List.filter_eq_nil_iff]
  intro i hi
  have := List.mem_range.1 hi
  rw [testBit_odd]
  simp; omega
 have p2 : (List.range c).filter (fun i => (2 ^ (c + 1) * m).testBit i) = [] := by
  rw [List.filter_eq_nil_iff]
  intro i hi
  have := List.mem_range.1 hi
  rw [Nat.mul_comm, Nat.testBit_mul_two_pow]
  simp; omega
 unfold elems
 rw [hr, List.filter_append, List.filter_append, p1, p2, List.filter_cons, List.filter_cons]
 have b1 : (2 ^ c * (2 * m + 1)).testBit c = true := by rw [testBit_odd]; simp
 have b2 : (2 ^ (c + 1) * m).testBit c = false := by rw [Nat.mul_comm, Nat.testBit_mul_two_pow]; simp; omega
 rw [b1, b2]
 simp only [List.nil_append, if_true, Bool.false_eq_true, if_false]
 congr 1
 apply List.filter_congr
 intro i hi
 obtain ⟨j, _, rfl⟩ := List.mem_map.1 hi
 rw [testBit_odd, Nat.mul_comm, Nat.testBit_mul_two_pow]
 have e3 : c + 1 + j - c - 1 = j := by omega
 have e4 : c + 1 + j - (c + 1) = j := by omega
 rw [e3, e4]
 have h5 : ¬ (c + 1 + j = c) := by omega
 have h6 : c < c + 1 + j := by omega
 have h7 : c + 1 ≤ c + 1 + j := by omega
 simp [h5, h6, h7]
theorem and_pred_lt (x : Nat) (h0 : x ≠ 0) : x &&& (x - 1) < x := Nat.lt_of_le_of_lt Nat.and_le_right (by omega)
open Go.RowKit
def wordVals (n X : Nat) : List Value := (List.range (nw n)).map fun k => .int .u64 (wordAt X k)
theorem wordVals_length (n X : Nat) : (wordVals n X).length = nw n := by simp [wordVals]
theorem wordVals_get (n X k : Nat) (h : k < nw n) : (wordVals n X)[k]? = some (.int .u64 (wordAt X k)) := by
 simp [wordVals, h]
structure IsSet (w : World) (b g cap n X : Nat) : Prop where
 hn : n ≤ 8192
 hX : X < 2 ^ n
 blk : w.heap[b]? = some (.cells #[.int .i64 n, .slice (some ⟨g, 0, none⟩) (nw n) cap] 120 (0, 0))
 own : w.ownsRow 0 143 1 (.slice (some ⟨g, 0, none⟩) (nw n) cap) (nw n) (wordVals n X)
theorem IsSet.c0 {w : World} {b g cap n X : Nat} (h : IsSet w b g cap n X) : w.cell? ⟨b, 0, none⟩ = some (.int .i64 n) := by
 rw [cell_of_row w b 0 _ 120 (0, 0) h.blk]; rfl
theorem IsSet.c1 {w : World} {b g cap n X : Nat} (h : IsSet w b g cap n X) : w.cell? ⟨b, 1, none⟩ = some (.slice (some ⟨g, 0, none⟩) (nw n) cap) := by
 rw [cell_of_row w b 1 _ 120 (0, 0) h.blk]; rfl
theorem IsSet.word {w : World} {b g cap n X : Nat} (h : IsSet w b g cap n X) (k : Nat) (hk : k < nw n) : w.cell? ⟨g, k, none⟩ = some (.int .u64 (wordAt X k)) := by
 have := h.own.cells (g := g) rfl k _ (wordVals_get n X k hk)
 rw [Addr.add_lit] at this
 simpa using this
theorem nw_le {n : Nat} (h : n ≤ 8192) : nw n ≤ 128 := by unfold nw; omega
theorem cell_lt {w : World} {k : Nat} {o : Obj} (h : w.heap[k]? = some o) : k < w.heap.size := (Array.getElem?_eq_some_iff.1 h).1
theorem IsSet.blt {w : World} {b g cap n X : Nat} (h : IsSet w b g cap n X) : b < w.heap.size := cell_lt h.blk
theorem IsSet.glt {w : World} {b g cap n X : Nat} (h : IsSet w b g cap n X) : g < w.heap.size := (h.own.lt g rfl).2
theorem IsSet.below {w w' : World} {b g cap n X : Nat} (h : IsSet w b g cap n X) (hb : Below w.heap.size w w') : IsSet w' b g cap n X := by
 refine ⟨h.hn, h.hX, ?_, ?_⟩
 · rw [hb.block b h.blt]; exact h.blk
 · exact h.own.kept (row := none) ⟨hb.os, hb.tape, hb.output, hb.size, fun k hk _ => hb.block k hk⟩ (.inr (by simp [Value.ownBlock]))
theorem count_any (b g cap n X : Nat) (w : World) (hs : IsSet w b g cap n X) :
 Calls Tryz.prog 116 #[.pointer (some ⟨b, 0, none⟩)] w fun e w' => e = .returned (.int .i64 (cnt n X)) ∧ w' = w := by
 have h1 := hs.c1
 have hnw := nw_le hs.hn
 have hfull := cnt_full n X hs.hX
 have HF : Hid (cnt (64 * nw n) X = cnt n X) := hfull
 have hword := hs.word
 clear hfull hs
 generalize nw n = m at *
 go_enter Tryz.func116, Tryz.ntmps116
 go_wp2
 go_loop [3, 11] (fun c i => ∃ k : Nat, k ≤ m ∧ i = .int .i64 k ∧ c = .int .i64 (cnt (64 * k) X)) (fun _ i => m - (intOf i).toNat)
 case atStart => exact ⟨0, Nat.zero_le _, rfl, rfl⟩
 case round =>
  obtain ⟨k, hk, rfl, rfl⟩ := hrel
  by_cases hlt : k < m
  · have hw := hword k hlt
    have hc1 := cnt_le (64 * k) X
    have hc2 := cnt_le 64 (wordAt X k)
    have HS : Hid (cnt (64 * (k + 1)) X = cnt (64 * k) X + cnt 64 (wordAt X k)) := cnt_succ X k
    have hlw := wordAt_lt X k
    clear hword
    go_wp2_with (go_at_call 142; refine (ones_any _ _ hlw).mono ?_; rintro e w' ⟨rfl, rfl⟩)
    go_round
    case rel => exact ⟨k + 1, by omega, by go_num, by rw [HS.out]; go_num⟩
    case measure => simp [intOf]; omega
  · clear hword
    go_wp2
    go_ret
    have : k = m := by omega
    subst this
    exact ⟨ret_int (by rw [← HF.out]), rfl⟩
theorem inRange_no (b : Nat) (i n : Int) (w : World) (hc : w.cell? ⟨b, 0, none⟩ = some (.int .i64 n)) (hi : ¬ (0 ≤ i ∧ i < n)) :
 Calls Tryz.prog 153 #[.pointer (some ⟨b, 0, none⟩), .int .i64 i] w fun e w' => e = .returned (.bool false) ∧ w' = w := by
 have := inRange_any b i n w hc
 rwa [decide_eq_false hi] at this
theorem inRange_yes (b : Nat) (i n : Int) (w : World) (hc : w.cell? ⟨b, 0, none⟩ = some (.int .i64 n)) (hi : 0 ≤ i ∧ i < n) :
 Calls Tryz.prog 153 #[.pointer (some ⟨b, 0, none⟩), .int .i64 i] w fun e w' => e = .returned (.bool true) ∧ w' = w := by
 have := inRange_any b i n w hc
 rwa [decide_eq_true hi] at this
def hasB (X : Nat) (i : Int) : Bool := decide (0 ≤ i) && X.testBit i.toNat
theorem ownsRow_base {w : World} {base base' : Nat} {e : TypeId} {size : Nat} {v : Value} {n : Nat} {xs : List Value} (h : w.ownsRow base e size v n xs) (hb : base' ≤ base) : w.ownsRow base' e size v n xs := by
 refine ⟨h.1, ?_⟩
 rcases h.2 with h2 | ⟨g, cap, cur, hv, hg, r⟩
 · exact .inl h2
 · exact .inr ⟨g, cap, cur, hv, by omega, r⟩
theorem wordVals_zero (n : Nat) : wordVals n 0 = List.replicate (nw n) (.int .u64 0) := by
 unfold wordVals wordAt
 apply List.ext_getElem?
 intro i
 by_cases h : i < nw n <;> simp [h]
theorem info67 : (Tryz.prog.info? 143).map (fun i => (i.zero, i.size, i.bytes)) = some (some (.int .u64 0), 1, 8) := by kernel_rfl
theorem new_ok (n : Nat) (w : World) (h : n ≤ 8192) :
 Calls Tryz.prog 137 #[.int .i64 n] w fun e w' => ∃ b g cap, e = .returned (.tuple #[.pointer (some ⟨b, 0, none⟩), .int .i64 0]) ∧ IsSet w' b g cap n 0 ∧ w.heap.size ≤ b ∧ w.heap.size ≤ g ∧ b ≠ g ∧ Below w.heap.size w w' := by
 obtain ⟨i0, hi, hz0, hz1, hz2⟩ := info_parts info67
 go_enter Tryz.func137, Tryz.ntmps137
 go_wp2_with (at_make; refine wpList_make_full _ rfl _ _ 118 rfl w.heap.size 143 i0 (.int .u64 0) 1 Tryz.underlying118 hi hz0 hz1 _ _ _ _ (nw n) rfl rfl ?_ ?_ ?_ ?_ ?_ ?_)
 · unfold nw; omega
 · unfold nw; omega
 · rw [hz2]; unfold nw; omega
 · unfold nw maxLen; omega
 · exact Nat.le_refl _
 · intro w1 hown hgrow
   go_wp2
   go_ret2
   have hg : w.heap.size < w1.heap.size := (hown.lt _ rfl).2
   rw [toList_madeCells_one, ← wordVals_zero] at hown
   have hA := hown.alloc (.cells #[.int .i64 n, .slice (some ⟨w.heap.size, 0, none⟩) (nw n) (nw n)] 120)
   refine ⟨w1.heap.size, w.heap.size, nw n, rfl, ⟨h, Nat.two_pow_pos n, heap_alloc_new _ _, ownsRow_base hA (Nat.zero_le _)⟩, by omega, Nat.le_refl _, by omega, ?_⟩
   exact ((Below.refl _ _).grown hgrow (Nat.le_refl _) (by intro k hk; cases hk)).alloc (by omega) _
theorem elems_sorted (n X : Nat) : (elems n X).Pairwise (· < ·) := List.Pairwise.filter _ List.pairwise_lt_range
theorem wordAt_testBit (X k t : Nat) : (wordAt X k).testBit t = (decide (t < 64) && X.testBit (64 * k + t)) := by
 have e : wordAt X k = X / 2 ^ (64 * k) % 2 ^ 64 := rfl
 rw [e, Nat.testBit_mod_two_pow, Nat.testBit_div_two_pow, Nat.add_comm]
theorem hide {p : Prop} (h : p) : Hid p := h
theorem IsSet.drew {w : World} {b g cap n X : Nat} (h : IsSet w b g cap n X) : IsSet w.drew b g cap n X := ⟨h.hn, h.hX, h.blk, h.own.drew⟩
theorem IsSet.store {w : World} {b g cap n X X' j : Nat} {v : Int} (h : IsSet w b g cap n X) (hbg : b ≠ g) (hj : j < nw n) (hX' : X' < 2 ^ n)
 (ho : ∀ i, i < nw n → i ≠ j → wordAt X' i = wordAt X i) (hv : v = (wordAt X' j : Int)) : IsSet (w.setCell ⟨g, j, none⟩ (.int .u64 v)) b g cap n X' := by
 refine ⟨h.hn, hX', ?_, ?_⟩
 · rw [heap_setCell_other w ⟨g, j, none⟩ b _ hbg]; exact h.blk
 · have := (h.own.stored j (.int .u64 v)).1
   have e : (wordVals n X).set j (.int .u64 v) = wordVals n X' := by
    apply List.ext_getElem?
    intro i
    rw [List.getElem?_set]
    by_cases hij : j = i
    · subst hij
      rw [if_pos rfl, if_pos (by rw [wordVals_length]; exact hj), wordVals_get n X' j hj, hv]
    · rw [if_neg hij]
      by_cases hi : i < nw n
      · rw [wordVals_get n X i hi, wordVals_get n X' i hi, ho i hi (fun h => hij h.symm)]
      · rw [List.getElem?_eq_none (by rw [wordVals_length]; omega), List.getElem?_eq_none (by rw [wordVals_length]; omega)]
   rwa [e] at this
theorem below_drewN' {B : Nat} {w w' : World} (h : Below B w w') (q : Nat) : Below B w (w'.drewN q) := ⟨h.os, h.tape, h.output, h.size, h.block⟩
theorem info_parts {P : Program} {t : TypeId} {z : Option Value} {s b : Nat} (h : (P.info? t).map (fun i => (i.zero, i.size, i.bytes)) = some (z, s, b)) : ∃ i, P.info? t = some i ∧ i.zero = z ∧ i.size = s ∧ i.bytes = b := by
 cases hi : P.info? t with
 | none => simp [hi] at h
 | some i =>
  rw [hi] at h
  simp only [Option.map_some, Option.some.injEq, Prod.mk.injEq] at h
  exact ⟨i, rfl, h.1, h.2.1, h.2.2⟩
theorem info3 : (Tryz.prog.info? 3).map (fun i => (i.zero, i.size, i.bytes)) = some (some (.int .i64 0), 1, 8) := by kernel_rfl
def intV (l : List Nat) : List Value := l.map fun (i : Nat) => .int .i64 (i : Int)
structure LSt (w : World) (B base c : Nat) (l : List Nat) (wr : World) : Prop where
 ex : ∃ g cap, wr.heap[c]? = some (.cells #[.slice (some ⟨g, 0, none⟩) l.length cap] 22 (0, 0)) ∧ wr.ownsRow base 3 1 (.slice (some ⟨g, 0, none⟩) l.length cap) l.length (intV l) ∧ g ≠ c
 below : Below B w wr
 base_le : base ≤ wr.heap.size
theorem put_any (w0 : World) (c base B j : Nat) (i : Int) (hij : i = (j : Int)) (l : List Nat) (w : World) (hst : LSt w0 B base c l w) (hBc : B ≤ c) (hBb : B ≤ base) (hn : l.length ≤ 100000) :
 Calls Tryz.prog 118 #[.int .i64 i, .pointer (some ⟨c, 0, none⟩)] w fun e w' => e = .returned (.bool true) ∧ LSt w0 B base c (l ++ [j]) w' := by
 obtain ⟨⟨gv, capv, hc, hown, hne⟩, hbw, hbase⟩ := hst
 obtain ⟨i0, hi, hz0, hz1, hz2⟩ := info_parts info3
 have hcell := cell_of_one hc
 have hclt := cell_lt hc
 have HIJ := hide hij
 clear hij
 go_enter Tryz.func118, Tryz.ntmps118
 go_wp2_with (at_builtin; refine wpList_append_lies _ rfl _ _ _ rfl base 3 i0 _ 1 8 Tryz.underlying22 hi hz0 hz1 hz2 rfl (by omega) _ l.length (intV l) rfl (hown.alloc _) ⟨w.heap.size, 0, none⟩ 1 1 [.int .i64 i] rfl rfl (World.news_of_block (cs := #[.int .i64 i]) (t := 3) (fr := (0, 0)) (heap_alloc_new w _)) (by simp [Value.oneCell']) (by omega) (by unfold maxLen; omega) (by omega) (by simp; omega) (w.heap.size + 1) (by simp) ?_)
 intro g cap w1 hown1 hgr hat hlt
 have hc1 : w1.heap[c]? = some (.cells #[.slice (some ⟨gv, 0, none⟩) l.length capv] 22 (0, 0)) := by
  rw [hgr.block c (by simp; omega) (by simp [Value.ownBlock]; omega), heap_alloc_old _ _ hclt]; exact hc
 have hgc : g ≠ c := by
  rcases hat with h | h
  · simp [Value.ownBlock] at h; omega
  · omega
 have hcell1 := cell_of_one hc1
 have hfree1 := free_of_one hc1
 have hgv := (hown.lt gv rfl).1
 have hb1 : Below B w0 w1 := (hbw.alloc (by omega) _).grown hgr (by simp; omega) (by intro k hk; simp [Value.ownBlock] at hk; omega)
 have hsz := hgr.size
 clear hat hgr hcell hc hown
 go_wp2
 go_ret
 have hV : intV l ++ [.int .i64 i] = intV (l ++ [j]) := by simp [intV, HIJ.out]
 have hL : (l ++ [j]).length = l.length + 1 := by simp
 rw [hV] at hown1
 refine ⟨rfl, ⟨g, cap, ?_, ?_, hgc⟩, hb1.setCell hBc _, ?_⟩
 · rw [hL]; exact one_setCell hc1
 · rw [hL]; exact ownsRow_setCell_other hown1 (by simp [Value.ownBlock]; omega) _
 · simp at hsz ⊢; omega
theorem TabAt.below {w w' : World} {B : Nat} (h : TabAt w) (hb : Below B w w') (h0 : 0 < B) : TabAt w' := fun j hj => (hb.cell (p := ⟨0, j, none⟩) h0).trans (h j hj)
theorem and_pred_u64 (y : Nat) (h0 : y ≠ 0) (hy : y < 18446744073709551616) : bits BinOp.and IntKind.u64 (y : Int) ((y : Int) - 1) = ((y &&& (y - 1) : Nat) : Int) := by
 rw [show ((y : Int) - 1) = ((y - 1 : Nat) : Int) by omega, bits_and_u64_nat _ _ hy (by omega)]
theorem walk_list (w : World) (g cap m X c base B : Nat) (hword : ∀ k, k < m → w.cell? ⟨g, k, none⟩ = some (.int .u64 (wordAt X k))) (hm : m ≤ 128) (hT : TabAt w) (hgB : g < B) (hB0 : 0 < B)
 (hst : LSt w B base c [] w) (hBc : B ≤ c) (hBb : B ≤ base) :
 Calls Tryz.prog 117 #[.slice (some ⟨g, 0, none⟩) m cap, .func (.func 118) #[] #[.pointer (some ⟨c, 0, none⟩)]] w fun e w' => e = .returned (.tuple #[]) ∧ LSt w B base c (elems (64 * m) X) w' := by
 go_enter Tryz.func117, Tryz.ntmps117
 go_wp2
 go_loopw [8] (fun i wr => ∃ k : Nat, k ≤ m ∧ i = .int .i64 k ∧ LSt w B base c (elems (64 * k) X) wr) (fun i _ => m - (intOf i).toNat)
 case atStart => exact ⟨0, Nat.zero_le _, rfl, by simpa [elems] using hst⟩
 case round =>
  obtain ⟨k, hk, rfl, hsr⟩ := hrel
  clear hst
  by_cases hlt : k < m
  · have hcw : wr.cell? ⟨g, k, none⟩ = some (.int .u64 (wordAt X k)) := (hsr.below.cell hgB).trans (hword k hlt)
    have hwl := wordAt_lt X k
    clear hword
    go_wp2
    go_loopw [5] (fun yy wi => ∃ (y : Nat) (acc : List Nat), yy = .int .u64 y ∧ y < 18446744073709551616 ∧ LSt w B base c acc wi ∧ acc ++ (elems 64 y).map (64 * k + ·) = elems (64 * (k + 1)) X) (fun yy _ => (intOf yy).toNat)
    case atStart => exact ⟨_, _, rfl, hwl, hsr, (elems_succ X k).symm⟩
    case round =>
     obtain ⟨y, acc, rfl, hy, hsi, hacc⟩ := hrel
     have HA := hide hacc
     clear hacc hcw hsr
     by_cases h0 : y = 0
     · have hyb : ((y : Int) != 0) = false := by simp [h0]
       have HY := hide h0
       clear h0
       go_wp2
       go_roundw
       case rel =>
        have e := HA.out
        rw [HY.out, elems_zero] at e
        simp at e
        subst e
        exact ⟨k + 1, by omega, by go_num, hsi⟩
       case measure => simp [intOf]; omega
     · have hyb : ((y : Int) != 0) = true := by simp [h0]
       have hT2 : TabAt wr := hT.below hsi.below hB0
       have hc64 : Lib.ctz 64 y < 64 := by obtain ⟨_, _, h⟩ := ctz_spec y h0 hy; exact h
       have hstep : Hid (acc ++ [64 * k + Lib.ctz 64 y] ++ (elems 64 (y &&& (y - 1))).map (64 * k + ·) = elems (64 * (k + 1)) X) := by
        rw [← HA.out, elems_step y h0 hy]
        show _ = _
        simp
       have hacl : acc.length ≤ 100000 := by
        have h1 := congrArg List.length HA.out
        have h2 := cnt_le (64 * (k + 1)) X
        unfold cnt at h2
        simp at h1
        omega
       have hyp := and_pred_u64 y h0 hy
       have hlt2 := and_pred_lt y h0
       go_wp2_with (first | (go_at_call 143; refine (tz_any y hy h0 _ hT2).mono ?_; rintro e w' ⟨rfl, hw⟩; obtain rfl := hw.symm; clear hw) | (go_at_call 118; refine (put_any w c base B (64 * k + Lib.ctz 64 y) _ (by omega) acc _ hsi hBc hBb hacl).mono ?_; rintro e w2 ⟨rfl, hsi2⟩))
       go_roundw
       case rel => exact ⟨y &&& (y - 1), _, rfl, by omega, hsi2, hstep.out⟩
       case measure => simp [intOf]; omega
  · clear hword
    go_wp2
    go_end0
    have hke : k = m := by omega
    subst hke
    exact ⟨rfl, hsr⟩
theorem list_any (b g cap n X : Nat) (w : World) (hs : IsSet w b g cap n X) (hT : TabAt w) :
 Calls Tryz.prog 77 #[.pointer (some ⟨b, 0, none⟩)] w fun e w' => ∃ gl capl, e = .returned (.slice (some ⟨gl, 0, none⟩) (elems n X).length capl) ∧ w'.ownsRow w.heap.size 3 1 (.slice (some ⟨gl, 0, none⟩) (elems n X).length capl) (elems n X).length (intV (elems n X)) ∧ Below w.heap.size w w' := by
 have h1 := hs.c1
 have hblt := hs.blt
 have hglt := hs.glt
 have hcl := cnt_le n X
 have hn := hs.hn
 have hw0 : 0 < w.heap.size := by omega
 obtain ⟨i0, hi, hz0, hz1, hz2⟩ := info_parts info3
 go_enter Tryz.func77, Tryz.ntmps77
 go_wp2_with (first | (go_at_call 116; refine (count_any b g cap n X _ hs).mono ?_; rintro e w' ⟨rfl, hw⟩; obtain rfl := hw.symm; clear hw) | (at_make; refine wpList_make_own _ rfl _ _ 22 rfl w.heap.size 3 i0 (.int .i64 0) 1 Tryz.underlying22 hi hz0 hz1 _ _ _ (cnt n X) rfl rfl rfl ?_ ?_ ?_ ?_))
 · rw [hz2]; omega
 · unfold maxLen; omega
 · exact Nat.le_refl _
 · intro w1 hown hgrow
   have hb1 : Below w.heap.size w w1 := (Below.refl _ _).grown hgrow (Nat.le_refl _) (by intro k hk; cases hk)
   have hs1 := hs.below hb1
   have h11 := hs1.c1
   have hlt1 : w.heap.size < w1.heap.size := (hown.lt _ rfl).2
   have hT1 := hT.below hb1 hw0
   have hblt1 : b < w1.heap.size := hs1.blt
   clear hs h1
   go_wp2_with fail
   have hA := fun o => (Below.refl w.heap.size w1).alloc (by omega) o
   refine (walk_list _ g cap (nw n) X w1.heap.size w.heap.size w.heap.size (fun k hk => by rw [(hA _).cell (p := ⟨g, k, none⟩) hglt]; exact hs1.word k hk) (nw_le hn) (hT1.below (hA _) hw0) hglt hw0 ⟨⟨w.heap.size, cnt n X, heap_alloc_new _ _, hown.alloc _, by omega⟩, Below.refl _ _, by simp; omega⟩ (by omega) (Nat.le_refl _)).mono ?_
   rintro e w2 ⟨rfl, hst⟩
   obtain ⟨⟨gl, capl, hc, hownl, hne⟩, hbl, hbase⟩ := hst
   have hfull := elems_full n (64 * nw n) X hs1.hX (by unfold nw; omega)
   rw [hfull] at hc hownl
   have hcell := cell_of_one hc
   have hb2 : Below w.heap.size w w2 := (hb1.alloc (by omega) _).trans hbl
   clear hc hbl hs1 hA hfull hown hgrow
   go_wp2
   go_ret
   exact ⟨gl, capl, rfl, hownl, hb2⟩
theorem or_bit (X j : Nat) : bits BinOp.or IntKind.u64 (wordAt X (j / 64) : Int) ((2 ^ (j % 64) : Nat) : Int) = (wordAt (X ||| 2 ^ j) (j / 64) : Int) := by
 have hl : (2:Nat) ^ (j % 64) < 18446744073709551616 := Nat.lt_of_lt_of_le (Nat.pow_lt_pow_right (by decide) (Nat.mod_lt j (by decide))) (Nat.le_refl (2 ^ 64))
 rw [bits_or_u64_nat _ _ (wordAt_lt _ _) hl]
 congr 1
 apply Nat.eq_of_testBit_eq
 intro t
 rw [Nat.testBit_or, wordAt_testBit, wordAt_testBit, Nat.testBit_or, Nat.testBit_two_pow, Nat.testBit_two_pow]
 by_cases ht : t < 64
 · have : (j % 64 = t) ↔ (j = 64 * (j / 64) + t) := by omega
   simp [ht, this]
 · have : ¬ (j % 64 = t) := by omega
   simp [ht, this]
theorem or_other (X j i : Nat) (hne : i ≠ j / 64) : wordAt (X ||| 2 ^ j) i = wordAt X i := by
 apply Nat.eq_of_testBit_eq
 intro t
 rw [wordAt_testBit, wordAt_testBit, Nat.testBit_or, Nat.testBit_two_pow]
 by_cases ht : t < 64
 · have : ¬ (j = 64 * i + t) := by omega
   simp [this]
 · simp [ht]
theorem or_lt (n X j : Nat) (hX : X < 2 ^ n) (hj : j < n) : X ||| 2 ^ j < 2 ^ n := Nat.or_lt_two_pow hX (Nat.pow_lt_pow_right (by decide) hj)
theorem add_out (b g cap n X : Nat) (i : Int) (w : World) (hs : IsSet w b g cap n X) (hi : ¬ (0 ≤ i ∧ i < (n : Int))) :
 Calls Tryz.prog 138 #[.pointer (some ⟨b, 0, none⟩), .int .i64 i] w fun e w' => e = .returned (.int .i64 10) ∧ w' = w := by
 have h0 := hs.c0
 have HI := hide hi
 clear hs hi
 go_enter Tryz.func138, Tryz.ntmps138
 go_wp2_with (go_at_call 153; refine (inRange_no b i n _ h0 HI.out).mono ?_; rintro e w' ⟨rfl, hw⟩; obtain rfl := hw.symm; clear hw)
 go_ret
 exact ⟨rfl, rfl⟩
theorem add_in (b g cap n X j B : Nat) (w : World) (hs : IsSet w b g cap n X) (hbg : b ≠ g) (hj : j < n) (hB : B ≤ g) :
 Calls Tryz.prog 138 #[.pointer (some ⟨b, 0, none⟩), .int .i64 j] w fun e w' => e = .returned (.int .i64 0) ∧ IsSet w' b g cap n (X ||| 2 ^ j) ∧ Below B w w' := by
 have h0 := hs.c0
 have h1 := hs.c1
 have hn := hs.hn
 have hix : j / 64 < nw n := by unfold nw; omega
 have hw := hs.word (j / 64) hix
 have hfz : w.frozen? ⟨g, j / 64, none⟩ = false := hs.own.frozenAt _
 have HS := hide hs
 obtain ⟨q, hq⟩ : ∃ q, j / 64 = q := ⟨_, rfl⟩
 have hi2 : IntKind.i64.wrap ((j : Int) / 64) = (q : Int) := by rw [IntKind.wrap_i64]; omega
 rw [hq] at hix hw hfz
 have hi0 : (0 : Int) ≤ (q : Int) := by omega
 have hi1 : (q : Int) < (nw n : Int) := by omega
 have HQ := hide hq
 clear hs hq
 go_enter Tryz.func138, Tryz.ntmps138
 go_wp2_with (go_at_call 153; refine (inRange_yes b j n _ h0 (by omega)).mono ?_; rintro e w' ⟨rfl, hw⟩; obtain rfl := hw.symm; clear hw)
 go_region_with (go_at_call 154; refine (bit_any j _ (by omega) (by omega)).mono ?_; rintro e w' ⟨rfl, rfl⟩)
 all_goals go_wp2
 all_goals go_ret
 all_goals
  refine ⟨rfl, IsSet.drew (HS.out.store hbg hix (or_lt n X j HS.out.hX hj) (fun i _ hne => or_other X j i (by rw [HQ.out]; exact hne)) ?_), (Below.setCell (Below.refl _ _) hB _).drew⟩
  rw [← HQ.out]
  have hm : (((j : Int) % 64).toNat) = j % 64 := by omega
  have := or_bit X j
  first
   | exact this
   | (simp only [hm]; exact this)
   | (simp only [hm]; simpa using this)
def setI (n : Nat) (l : List Int) : Nat := l.foldl (fun X i => if 0 ≤ i ∧ i < (n : Int) then X ||| 2 ^ i.toNat else X) 0
theorem setI_snoc (n : Nat) (l : List Int) (i : Int) : setI n (l ++ [i]) = if 0 ≤ i ∧ i < (n : Int) then setI n l ||| 2 ^ i.toNat else setI n l := by
 simp [setI]
def ReadsI (w : World) (ao : Option Addr) (l : List Int) : Prop := ∀ k, k < l.length → ∃ g o, ao = some ⟨g, o, none⟩ ∧ w.cell? ⟨g, o + k, none⟩ = some (.int .i64 (l.getD k 0))
theorem take_one (l : List Int) (k : Nat) (h : k < l.length) : l.take (k + 1) = l.take k ++ [l.getD k 0] := by
 rw [List.take_succ_eq_append_getElem h]; simp [List.getD, h]
def okI (n : Nat) (l : List Int) : Bool := l.all fun i => decide (0 ≤ i ∧ i < (n : Int))
theorem okI_false {n : Nat} {l : List Int} {k : Nat} {x : Int} (hlt : k < l.length) (hx : l.getD k 0 = x) (hin : ¬ (0 ≤ x ∧ x < (n : Int))) : okI n l = false := by
 unfold okI
 rw [List.all_eq_false]
 refine ⟨x, ?_, by simpa using hin⟩
 rw [← hx, List.getD_eq_getElem?_getD, List.getElem?_eq_getElem hlt]
 exact List.getElem_mem hlt
theorem okI_take_one {n : Nat} {l : List Int} {k : Nat} {x : Int} (ht : l.take (k + 1) = l.take k ++ [x]) (h : okI n (l.take k) = true) (hin : 0 ≤ x ∧ x < (n : Int)) : okI n (l.take (k + 1)) = true := by
 unfold okI at h ⊢
 rw [ht, List.all_append, h]
 simpa using hin
theorem of81_any (ao : Option Addr) (cp n : Nat) (l : List Int) (w : World) (hn : n ≤ 8192) (hr : ReadsI w ao l) (hlen : l.length ≤ 9223372036854775807) :
 Calls Tryz.prog 150 #[.int .i64 n, .slice ao l.length cp] w fun e w' => (okI n l = true ∧ ∃ b g cap, e = .returned (.tuple #[.pointer (some ⟨b, 0, none⟩), .int .i64 0]) ∧ IsSet w' b g cap n (setI n l) ∧ w.heap.size ≤ b ∧ w.heap.size ≤ g ∧ b ≠ g ∧ Below w.heap.size w w') ∨ (okI n l = false ∧ e = .returned (.tuple #[.pointer none, .int .i64 10]) ∧ Below w.heap.size w w') := by
 go_enter Tryz.func150, Tryz.ntmps150
 go_wp2_with fail
 refine (new_ok n _ hn).mono ?_
 rintro e w1 ⟨b, g, cap, rfl, hs1, hb, hg, hbg, hb1⟩
 go_wp2
 go_loopw [21] (fun i wr => ∃ k : Nat, k ≤ l.length ∧ i = .int .i64 k ∧ IsSet wr b g cap n (setI n (l.take k)) ∧ Hid (okI n (l.take k) = true) ∧ Below w.heap.size w wr) (fun i _ => l.length - (intOf i).toNat)
 case atStart => exact ⟨0, Nat.zero_le _, rfl, hs1, rfl, hb1⟩
 case round =>
  obtain ⟨k, hk, rfl, hsr, HO, hbr⟩ := hrel
  clear hs1 hb1
  by_cases hlt : k < l.length
  · obtain ⟨ga, oa, rfl, hc⟩ := hr k hlt
    have hgl : ga < w.heap.size := World.block_lt_of_cell? w ⟨ga, oa + k, none⟩ hc
    have hc2 := (hbr.cell (p := ⟨ga, oa + k, none⟩) hgl).trans hc
    have ht := take_one l k hlt
    obtain ⟨x, hx⟩ : ∃ x, l.getD k 0 = x := ⟨_, rfl⟩
    rw [hx] at hc2 ht
    have HT := hide ht
    have HW := hide hr
    have HX := hide hx
    clear ht hx hr hc
    by_cases hin : 0 ≤ x ∧ x < (n : Int)
    · obtain ⟨j, rfl⟩ := Int.eq_ofNat_of_zero_le hin.1
      have hj : j < n := by omega
      go_wp2_with fail
      refine (add_in b g cap n _ j w.heap.size _ hsr hbg hj hg).mono ?_
      rintro e w2 ⟨rfl, hs2, hb2⟩
      have hc3 := (hb2.cell (p := ⟨ga, oa + k, none⟩) hgl).trans hc2
      have hb3 := hbr.trans hb2
      have HO2 := hide (okI_take_one HT.out HO.out hin)
      clear hsr hbr hb2 hc2
      go_wp2
      go_roundw
      case rel => exact ⟨k + 1, by omega, by go_num, by rw [HT.out, setI_snoc, if_pos hin]; exact hs2, HO2, hb3⟩
      case measure => simp [intOf]; omega
    · have HF := hide (okI_false hlt HX.out hin)
      have HB := hide hbr
      go_wp2_with fail
      refine (add_out b g cap n _ x _ hsr hin).mono ?_
      rintro e w2 ⟨rfl, rfl⟩
      clear hin hbr hsr
      go_wp2
      go_ret2
      exact .inr ⟨HF.out, rfl, HB.out⟩
  · obtain rfl : k = l.length := by omega
    have HS := hide hsr
    have HB := hide hbr
    have HN := hide (And.intro hb (And.intro hg hbg))
    rw [List.take_length] at HO HS
    clear hsr hbr hr hb hg hbg
    go_wp2
    go_ret2
    exact .inl ⟨HO.out, _, _, _, rfl, HS.out, HN.out.1, HN.out.2.1, HN.out.2.2, HB.out⟩
end Go.Proofs.YtchoopnjckcohaaGreatDoor
namespace Go.Proofs.YtchoopnjckcohaaGreatDoor
open Go.RowKit
attribute [local go_sem] Oper.semAt_some
abbrev EdT := Int × Int × Int
def RdN (W : World) (ao : Option Addr) (L : List Int) : Prop := ∀ (j : Nat) (h : j < L.length), ∃ g o, ao = some ⟨g, o, none⟩ ∧ W.cell? ⟨g, o + j, none⟩ = some (.int .i64 L[j])
def RdE (W : World) (ao : Option Addr) (L : List EdT) : Prop := ∀ (j : Nat) (h : j < L.length), ∃ g o, ao = some ⟨g, o, none⟩ ∧ W.cell? ⟨g, o + j * 3, none⟩ = some (.int .i64 L[j].1) ∧ W.cell? ⟨g, o + j * 3 + 1, none⟩ = some (.int .i64 L[j].2.1) ∧ W.cell? ⟨g, o + j * 3 + 2, none⟩ = some (.int .i64 L[j].2.2)
theorem RdN.on {W W' : World} {ao : Option Addr} {L : List Int} (h : RdN W ao L) (d : Below W.heap.size W W') : RdN W' ao L := fun j hj => by
 obtain ⟨g, o, rfl, c⟩ := h j hj
 exact ⟨g, o, rfl, (d.cell (p := ⟨g, o + j, none⟩) (World.block_lt_of_cell? W _ c)).trans c⟩
theorem RdE.on {W W' : World} {ao : Option Addr} {L : List EdT} (h : RdE W ao L) (d : Below W.heap.size W W') : RdE W' ao L := fun j hj => by
 obtain ⟨g, o, rfl, c1, c2, c3⟩ := h j hj
 have hg : g < W.heap.size := World.block_lt_of_cell? W ⟨g, o + j * 3, none⟩ c1
 exact ⟨g, o, rfl, (d.cell (p := ⟨g, o + j * 3, none⟩) hg).trans c1, (d.cell (p := ⟨g, o + j * 3 + 1, none⟩) hg).trans c2, (d.cell (p := ⟨g, o + j * 3 + 2, none⟩) hg).trans c3⟩
theorem cell_of {w : World} {b j : Nat} {cs : Array Value} {t : TypeId} {fr : Nat × Nat} {v : Value} (h : w.heap[b]? = some (.cells cs t fr)) (hv : cs[j]? = some v) : w.cell? ⟨b, j, none⟩ = some v := by simp [World.cell?, h, hv]
theorem fz_of {W : World} {b j : Nat} {c : Array Value} {t : TypeId} (h : W.heap[b]? = some (.cells c t (0, 0))) : W.frozen? ⟨b, j, none⟩ = false := by simp [World.frozen?, h]
theorem blk_on {W W' : World} {g : Nat} {o : Obj} (h : W.heap[g]? = some o) (d : Below W.heap.size W W') : W'.heap[g]? = some o := (d.block _ (Array.getElem?_eq_some_iff.1 h).1).trans h
def inB (n x : Int) : Bool := decide (0 ≤ x ∧ x < n)
theorem inB_iff {n x : Int} : inB n x = true ↔ 0 ≤ x ∧ x < n := by simp [inB]
theorem inB_not {n x : Int} : inB n x = false ↔ ¬ (0 ≤ x ∧ x < n) := by simp [inB]
theorem within_any (x n : Int) (w : World) : Calls Tryz.prog 111 #[.int .i64 x, .int .i64 n] w fun e w' => e = .returned (.bool (inB n x)) ∧ w' = w := by
 by_cases h : 0 ≤ x
 · go_enter Tryz.func111, Tryz.ntmps111
   go_wp2
   go_ret
   exact ⟨by simp [inB, h], rfl⟩
 · go_enter Tryz.func111, Tryz.ntmps111
   go_wp2
   go_ret
   exact ⟨by simp [inB]; omega, rfl⟩
theorem allWithin_any (ao : Option Addr) (cp : Nat) (L : List Int) (n : Int) (w : World) (hr : Hid (RdN w ao L)) (hl : L.length ≤ 4194304) : Calls Tryz.prog 112 #[.slice ao L.length cp, .int .i64 n] w fun e w' => e = .returned (.bool (L.all (inB n))) ∧ w' = w := by
 obtain ⟨m, hm⟩ : ∃ m, m = L.length := ⟨_, rfl⟩
 have HL := hide hm
 rw [← hm]
 rw [← hm] at hl
 clear hm
 go_enter Tryz.func112, Tryz.ntmps112
 go_wp2
 go_loopw [9] (fun iv wr => ∃ i : Nat, i ≤ m ∧ iv = .int .i64 i ∧ wr = w ∧ Hid ((L.take i).all (inB n) = true)) (fun iv _ => m - (intOf iv).toNat)
 case atStart => exact ⟨0, Nat.zero_le _, rfl, rfl, hide (by simp)⟩
 case round =>
  obtain ⟨i, hi, rfl, hw, HY⟩ := hrel
  obtain rfl := hw
  by_cases hil : i < m
  · have i0 : (0 : Int) ≤ (i : Int) := by omega
    have i1 : (i : Int) < (m : Int) := by omega
    have hi2 : i < L.length := by rw [← HL.out]; exact hil
    obtain ⟨g, o, rfl, c⟩ := hr.out i hi2
    have HT := hide (show L.take (i + 1) = L.take i ++ [L[i]] by rw [List.take_add_one, List.getElem?_eq_getElem hi2]; rfl)
    have HM := hide (List.getElem_mem hi2)
    obtain ⟨x, hx⟩ : ∃ x, L[i] = x := ⟨_, rfl⟩
    rw [hx] at c HT HM
    clear hx
    cases hb : inB n x
    · go_wp2_with (go_at_call 111; refine (within_any x n wr).mono ?_; rintro e w2 ⟨rfl, rfl⟩)
      go_wp2
      go_ret
      refine ⟨?_, rfl⟩
      have : L.all (inB n) = false := List.all_eq_false.2 ⟨x, HM.out, by rw [hb]; simp⟩
      rw [this]
      rfl
    · go_wp2_with (go_at_call 111; refine (within_any x n wr).mono ?_; rintro e w2 ⟨rfl, rfl⟩)
      go_wp2
      go_roundw
      case rel => exact ⟨i + 1, by omega, by go_num, trivial, hide (by rw [HT.out, List.all_append, HY.out]; simp [hb])⟩
      case measure => simp [intOf]; omega
  · obtain rfl : m = i := by omega
    have i1 : ¬ (m : Int) < (m : Int) := by omega
    go_wp2
    go_ret
    refine ⟨?_, rfl⟩
    have q := HY.out
    rw [HL.out, List.take_length] at q
    rw [q]
    rfl
def edOk (n m : Int) (e : EdT) : Bool := inB n e.1 && inB m e.2.1 && inB n e.2.2
def mayA (n m : Int) (St Fi : List Int) (Ed : List EdT) : Bool := inB 4097 n && inB 129 m && decide (Ed.length ≤ 65536) && St.all (inB n) && Fi.all (inB n) && Ed.all (edOk n m)
structure RdA (W : World) (a1 a2 a3 : Option Addr) (St Fi : List Int) (Ed : List EdT) : Prop where
 s : RdN W a1 St
 f : RdN W a2 Fi
 e : RdE W a3 Ed
theorem RdA.on {W W' : World} {a1 a2 a3 : Option Addr} {St Fi : List Int} {Ed : List EdT} (h : RdA W a1 a2 a3 St Fi Ed) (d : Below W.heap.size W W') : RdA W' a1 a2 a3 St Fi Ed := ⟨h.s.on d, h.f.on d, h.e.on d⟩
theorem valid_any (w : World) (n m : Int) (a1 a2 a3 : Option Addr) (c1 c2 c3 : Nat) (St Fi : List Int) (Ed : List EdT) (hA : Hid (RdA w a1 a2 a3 St Fi Ed)) (h1 : St.length ≤ 4194304) (h2 : Fi.length ≤ 4194304) (h3 : Ed.length ≤ 4194304) :
 Calls Tryz.prog 75 #[.agg #[.int .i64 n, .int .i64 m, .slice a1 St.length c1, .slice a2 Fi.length c2, .slice a3 Ed.length c3]] w fun e w' => e = .returned (.int .i64 (if mayA n m St Fi Ed then 0 else 2)) ∧ Below w.heap.size w w' := by
 obtain ⟨W0, hW0⟩ : ∃ W0, w.alloc (.cells #[.int .i64 n, .int .i64 m, .slice a1 St.length c1, .slice a2 Fi.length c2, .slice a3 Ed.length c3] 25) = W0 := ⟨_, rfl⟩
 have d0 : Below w.heap.size w W0 := by rw [← hW0]; exact (Below.refl _ _).alloc (Nat.le_refl _) _
 have B0 : W0.heap[w.heap.size]? = some (.cells #[.int .i64 n, .int .i64 m, .slice a1 St.length c1, .slice a2 Fi.length c2, .slice a3 Ed.length c3] 25 (0, 0)) := by rw [← hW0]; exact World.alloc_heap_new _ _
 have HD := hide (And.intro d0 B0)
 have k0 : W0.cell? ⟨w.heap.size, 0, none⟩ = some (.int .i64 n) := cell_of B0 rfl
 have k1 : W0.cell? ⟨w.heap.size, 1, none⟩ = some (.int .i64 m) := cell_of B0 rfl
 have k2 : W0.cell? ⟨w.heap.size, 2, none⟩ = some (.slice a1 St.length c1) := cell_of B0 rfl
 have k3 : W0.cell? ⟨w.heap.size, 3, none⟩ = some (.slice a2 Fi.length c2) := cell_of B0 rfl
 have k4 : W0.cell? ⟨w.heap.size, 4, none⟩ = some (.slice a3 Ed.length c3) := cell_of B0 rfl
 have HA := hide (hA.out.on d0)
 clear d0 B0 hA
 have T1 := allWithin_any a1 c1 St n W0 (hide HA.out.s) h1
 have T2 := allWithin_any a2 c2 Fi n W0 (hide HA.out.f) h2
 obtain ⟨r, hr⟩ : ∃ r : Int, (if mayA n m St Fi Ed then (0 : Int) else 2) = r := ⟨_, rfl⟩
 rw [hr]
 have HR := hide hr
 have HB : Hid (mayA n m St Fi Ed = false → Ending.returned (.int .i64 2) = Ending.returned (.int .i64 r)) := hide (fun h => by rw [← HR.out, h]; rfl)
 clear hr
 go_enter Tryz.func75, Tryz.ntmps75
 cases e1 : inB 4097 n
 · go_wp2_with (go_at_call 111; refine (within_any _ _ _).mono ?_; rintro e w2 ⟨rfl, hw⟩; obtain rfl := hw.symm)
   go_ret
   exact ⟨HB.out (by simp [mayA, e1]), HD.out.1⟩
 cases e2 : inB 129 m
 · go_wp2_with (go_at_call 111; refine (within_any _ _ _).mono ?_; rintro e w2 ⟨rfl, hw⟩; obtain rfl := hw.symm)
   go_ret
   exact ⟨HB.out (by simp [mayA, e2]), HD.out.1⟩
 by_cases e3 : Ed.length ≤ 65536
 case neg =>
  have i3 : (65536 : Int) < (Ed.length : Int) := by omega
  go_wp2_with (go_at_call 111; refine (within_any _ _ _).mono ?_; rintro e w2 ⟨rfl, hw⟩; obtain rfl := hw.symm)
  go_ret
  exact ⟨HB.out (by simp [mayA, e3]), HD.out.1⟩
 have i3 : ¬ (65536 : Int) < (Ed.length : Int) := by omega
 cases e4 : St.all (inB n)
 · rw [e4] at T1
   go_wp2_with (first
    | (go_at_call 111; refine (within_any _ _ _).mono ?_; rintro e w2 ⟨rfl, hw⟩; obtain rfl := hw.symm)
    | (go_at_call 112; refine T1.mono ?_; rintro e w2 ⟨rfl, hw⟩; obtain rfl := hw.symm))
   go_ret
   exact ⟨HB.out (by simp [mayA, e4]), HD.out.1⟩
 rw [e4] at T1
 cases e5 : Fi.all (inB n)
 · rw [e5] at T2
   go_wp2_with (first
    | (go_at_call 111; refine (within_any _ _ _).mono ?_; rintro e w2 ⟨rfl, hw⟩; obtain rfl := hw.symm)
    | (go_at_call_of 112 a1; refine T1.mono ?_; rintro e w2 ⟨rfl, hw⟩; obtain rfl := hw.symm)
    | (go_at_call_of 112 a2; refine T2.mono ?_; rintro e w2 ⟨rfl, hw⟩; obtain rfl := hw.symm))
   go_ret
   exact ⟨HB.out (by simp [mayA, e5]), HD.out.1⟩
 rw [e5] at T2
 have HM : Hid (Ed.all (edOk n m) = true → mayA n m St Fi Ed = true) := hide (fun h => by simp [mayA, e1, e2, e3, e4, e5, h])
 obtain ⟨L, hL⟩ : ∃ L, Ed.length = L := ⟨_, rfl⟩
 have HL := hide hL
 rw [hL] at k4 h3 e3 i3 hW0
 rw [hL]
 clear hL
 go_upto_region 5 with (first
  | (go_at_call 111; refine (within_any _ _ _).mono ?_; rintro e w2 ⟨rfl, hw⟩; obtain rfl := hw.symm)
  | (go_at_call_of 112 a1; refine T1.mono ?_; rintro e w2 ⟨rfl, hw⟩; obtain rfl := hw.symm)
   | (go_at_call_of 112 a2; refine T2.mono ?_; rintro e w2 ⟨rfl, hw⟩; obtain rfl := hw.symm))
 clear T1 T2 e1 e2 e4 e5
 go_wp2
 go_loopw [38] (fun iv wr => ∃ i : Nat, i ≤ L ∧ iv = .int .i64 i ∧ Hid (Below W0.heap.size W0 wr ∧ (Ed.take i).all (edOk n m) = true)) (fun iv _ => L - (intOf iv).toNat)
 case atStart => exact ⟨0, Nat.zero_le _, rfl, hide ⟨Below.refl _ _, by simp⟩⟩
 case round =>
  obtain ⟨i, hi, rfl, HY⟩ := hrel
  by_cases hil : i < L
  · have i0 : (0 : Int) ≤ (i : Int) := by omega
    have i1 : (i : Int) < (L : Int) := by omega
    have hi2 : i < Ed.length := by rw [HL.out]; exact hil
    obtain ⟨g, o, rfl, q1, q2, q3⟩ := (HA.out.e.on HY.out.1) i hi2
    have HT := hide (show Ed.take (i + 1) = Ed.take i ++ [Ed[i]] by rw [List.take_add_one, List.getElem?_eq_getElem hi2]; rfl)
    have HN := hide (List.getElem_mem hi2)
    obtain ⟨x, hx⟩ : ∃ x, Ed[i] = x := ⟨_, rfl⟩
    rw [hx] at q1 q2 q3 HT HN
    clear hx
    obtain ⟨x1, x2, x3⟩ := x
    obtain ⟨W1, hW1⟩ : ∃ W1, wr.alloc (.cells #[.int .i64 x1, .int .i64 x2, .int .i64 x3] 61) = W1 := ⟨_, rfl⟩
    have HW : Hid (W1.heap[wr.heap.size]? = some (.cells #[.int .i64 x1, .int .i64 x2, .int .i64 x3] 61 (0, 0)) ∧ Below W0.heap.size W0 W1) := hide (by rw [← hW1]; exact ⟨World.alloc_heap_new _ _, HY.out.1.alloc HY.out.1.size _⟩)
    have HBx := hide (blk_on HD.out.2 HW.out.2)
    have y0 : W1.cell? ⟨wr.heap.size, 0, none⟩ = some (.int .i64 x1) := cell_of HW.out.1 rfl
    have y1 : W1.cell? ⟨wr.heap.size, 1, none⟩ = some (.int .i64 x2) := cell_of HW.out.1 rfl
    have y2 : W1.cell? ⟨wr.heap.size, 2, none⟩ = some (.int .i64 x3) := cell_of HW.out.1 rfl
    have z0 : W1.cell? ⟨w.heap.size, 0, none⟩ = some (.int .i64 n) := cell_of HBx.out rfl
    have z1 : W1.cell? ⟨w.heap.size, 1, none⟩ = some (.int .i64 m) := cell_of HBx.out rfl
    have HBd : Hid (edOk n m (x1, x2, x3) = false → mayA n m St Fi Ed = false) := hide (fun h => by
     have : Ed.all (edOk n m) = false := List.all_eq_false.2 ⟨_, HN.out, by rw [h]; simp⟩
     simp [mayA, this])
    cases f1 : inB n x1
    · go_wp2_with (go_at_call 111; refine (within_any _ _ _).mono ?_; rintro e w2 ⟨rfl, hw⟩; obtain rfl := hw.symm)
      go_ret
      exact ⟨HB.out (HBd.out (by simp [edOk, f1])), HD.out.1.trans (HW.out.2.mono HD.out.1.size)⟩
    cases f2 : inB m x2
    · go_wp2_with (go_at_call 111; refine (within_any _ _ _).mono ?_; rintro e w2 ⟨rfl, hw⟩; obtain rfl := hw.symm)
      go_ret
      exact ⟨HB.out (HBd.out (by simp [edOk, f2])), HD.out.1.trans (HW.out.2.mono HD.out.1.size)⟩
    cases f3 : inB n x3
    · go_wp2_with (go_at_call 111; refine (within_any _ _ _).mono ?_; rintro e w2 ⟨rfl, hw⟩; obtain rfl := hw.symm)
      go_ret
      exact ⟨HB.out (HBd.out (by simp [edOk, f3])), HD.out.1.trans (HW.out.2.mono HD.out.1.size)⟩
    go_wp2_with (go_at_call 111; refine (within_any _ _ _).mono ?_; rintro e w2 ⟨rfl, hw⟩; obtain rfl := hw.symm)
    go_roundw
    case rel => exact ⟨i + 1, by omega, by go_num, hide ⟨HW.out.2, by rw [HT.out, List.all_append, HY.out.2]; simp [edOk, f1, f2, f3]⟩⟩
    case measure => simp [intOf]; omega
  · obtain rfl : L = i := by omega
    have i1 : ¬ (L : Int) < (L : Int) := by omega
    go_wp2
    go_ret
    have q := HY.out.2
    rw [← HL.out, List.take_length] at q
    exact ⟨by rw [← HR.out, HM.out q]; rfl, HD.out.1.trans (HY.out.1.mono HD.out.1.size)⟩
end Go.Proofs.YtchoopnjckcohaaGreatDoor
