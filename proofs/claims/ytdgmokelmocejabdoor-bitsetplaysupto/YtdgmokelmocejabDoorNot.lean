import Derived.Test.YtdgmokelmocejabDoorCopy
import Derived.Laws.DeepNot64
namespace Go.Proofs.YtdgmokelmocejabDoor
open Go.RowKit

theorem wordAt_zero (k : Nat) : wordAt 0 k = 0 := by simp [wordAt]

set_option maxHeartbeats 1000000 in
theorem leaves_minus (b1 g1 c1 n X b2 g2 c2 Y : Nat) (w : World) (h1 : IsSet w b1 g1 c1 n X) (h2 : IsSet w b2 g2 c2 n Y) :
    Calls Tryd.prog 78 #[.pointer (some ⟨b1, 0, none⟩), .pointer (some ⟨b2, 0, none⟩), .func (.func 33) #[] #[]] w fun e w' => e = .returned (.bool (!decide (minusN X Y = 0))) ∧ w' = w := by
  have hn := h1.hn
  have hnw := nw_le hn
  have p1 := h1.c1
  have q1 := h2.c1
  have W1 := hide h1.word
  have W2 := hide h2.word
  have HX := hide (And.intro h1.hX h2.hX)
  clear h1 h2
  go_enter Tryd.func78, Tryd.ntmps78
  go_wp2
  go_loop [14] (fun i => ∃ k : Nat, k ≤ nw n ∧ i = .int .i64 k ∧ ∀ j, j < k → wordAt (minusN X Y) j = 0) (fun i => nw n - (intOf i).toNat)
  case atStart => exact ⟨0, Nat.zero_le _, rfl, fun j hj => by omega⟩
  case round =>
    obtain ⟨k, hk, rfl, hj⟩ := hrel
    have HJ := hide hj
    clear hj
    by_cases hlt : k < nw n
    · have x1 := W1.out k hlt
      have x2 := W2.out k hlt
      have l1 := wordAt_lt X k
      have l2 := wordAt_lt Y k
      have hw := op_minus.word X Y k
      by_cases hz : minusN (wordAt X k) (wordAt Y k) = 0
      · have hb : (((minusN (wordAt X k) (wordAt Y k) : Nat) : Int) != 0) = false := by rw [hz]; rfl
        have HZ := hide (hw.trans hz)
        clear hz hw
        go_wp2_with (go_at_call 33; refine (first_any (wordAt X k) (wordAt Y k) _ l1 l2).mono ?_; rintro e w' ⟨rfl, hw⟩; obtain rfl := hw.symm; clear hw)
        go_round
        case rel =>
          refine ⟨k + 1, by omega, by go_num, fun j hj => ?_⟩
          by_cases hjk : j = k
          · subst hjk; exact HZ.out
          · exact HJ.out j (by omega)
        case measure => simp [intOf]; omega
      · have hb : (((minusN (wordAt X k) (wordAt Y k) : Nat) : Int) != 0) = true := by rw [bne_iff_ne]; omega
        have HZ := hide (And.intro hw hz)
        clear hz hw
        go_wp2_with (go_at_call 33; refine (first_any (wordAt X k) (wordAt Y k) _ l1 l2).mono ?_; rintro e w' ⟨rfl, hw⟩; obtain rfl := hw.symm; clear hw)
        go_ret
        refine ⟨ret_bool ?_, rfl⟩
        rw [decide_eq_false (fun h0 => HZ.out.2 (by rw [← HZ.out.1, h0, wordAt_zero]))]
        rfl
    · go_wp2
      go_ret
      refine ⟨ret_bool ?_, rfl⟩
      rw [decide_eq_true (words_eq n _ 0 (op_minus.lt HX.out.1 HX.out.2) (Nat.two_pow_pos n) (fun i hi => by rw [HJ.out i (by omega), wordAt_zero]))]
      rfl

set_option maxHeartbeats 400000 in
theorem subset_any (b1 g1 c1 n X b2 g2 c2 Y : Nat) (w : World) (h1 : IsSet w b1 g1 c1 n X) (h2 : IsSet w b2 g2 c2 n Y) :
    Calls Tryd.prog 46 #[.pointer (some ⟨b1, 0, none⟩), .pointer (some ⟨b2, 0, none⟩)] w fun e w' => e = .returned (.bool (decide (minusN X Y = 0))) ∧ Below w.heap.size w w' := by
  go_enter Tryd.func46, Tryd.ntmps46
  go_wp2_with fail
  refine (alike_yes b1 b2 n _ h1.c0 h2.c0).mono ?_
  rintro e w1 ⟨rfl, q, rfl⟩
  have d1 : Below w.heap.size w (w.drewN q) := below_drewN' (Below.refl _ _) q
  have s1 := h1.below d1
  have s2 := h2.below d1
  clear h1 h2
  go_wp2_with fail
  refine (leaves_minus b1 g1 c1 n X b2 g2 c2 Y _ s1 s2).mono ?_
  rintro e w2 ⟨rfl, rfl⟩
  clear s1 s2
  go_wp2
  go_ret
  exact ⟨by simp, d1⟩

set_option maxHeartbeats 1000000 in
theorem leaves_and (b1 g1 c1 n X b2 g2 c2 Y : Nat) (w : World) (h1 : IsSet w b1 g1 c1 n X) (h2 : IsSet w b2 g2 c2 n Y) :
    Calls Tryd.prog 78 #[.pointer (some ⟨b1, 0, none⟩), .pointer (some ⟨b2, 0, none⟩), .func (.func 32) #[] #[]] w fun e w' => e = .returned (.bool (!decide (X &&& Y = 0))) ∧ w' = w := by
  have hn := h1.hn
  have hnw := nw_le hn
  have p1 := h1.c1
  have q1 := h2.c1
  have W1 := hide h1.word
  have W2 := hide h2.word
  have HX := hide (And.intro h1.hX h2.hX)
  clear h1 h2
  go_enter Tryd.func78, Tryd.ntmps78
  go_wp2
  go_loop [14] (fun i => ∃ k : Nat, k ≤ nw n ∧ i = .int .i64 k ∧ ∀ j, j < k → wordAt (X &&& Y) j = 0) (fun i => nw n - (intOf i).toNat)
  case atStart => exact ⟨0, Nat.zero_le _, rfl, fun j hj => by omega⟩
  case round =>
    obtain ⟨k, hk, rfl, hj⟩ := hrel
    have HJ := hide hj
    clear hj
    by_cases hlt : k < nw n
    · have x1 := W1.out k hlt
      have x2 := W2.out k hlt
      have l1 := wordAt_lt X k
      have l2 := wordAt_lt Y k
      have hw := op_and.word X Y k
      by_cases hz : (wordAt X k &&& wordAt Y k) = 0
      · have hb : ((((wordAt X k &&& wordAt Y k) : Nat) : Int) != 0) = false := by rw [hz]; rfl
        have HZ := hide (hw.trans hz)
        clear hz hw
        go_wp2_with (go_at_call 32; refine (both_any (wordAt X k) (wordAt Y k) _ l1 l2).mono ?_; rintro e w' ⟨rfl, hw⟩; obtain rfl := hw.symm; clear hw)
        go_round
        case rel =>
          refine ⟨k + 1, by omega, by go_num, fun j hj => ?_⟩
          by_cases hjk : j = k
          · subst hjk; exact HZ.out
          · exact HJ.out j (by omega)
        case measure => simp [intOf]; omega
      · have hb : ((((wordAt X k &&& wordAt Y k) : Nat) : Int) != 0) = true := by rw [bne_iff_ne]; omega
        have HZ := hide (And.intro hw hz)
        clear hz hw
        go_wp2_with (go_at_call 32; refine (both_any (wordAt X k) (wordAt Y k) _ l1 l2).mono ?_; rintro e w' ⟨rfl, hw⟩; obtain rfl := hw.symm; clear hw)
        go_ret
        refine ⟨ret_bool ?_, rfl⟩
        rw [decide_eq_false (fun h0 => HZ.out.2 (by rw [← HZ.out.1, h0, wordAt_zero]))]
        rfl
    · go_wp2
      go_ret
      refine ⟨ret_bool ?_, rfl⟩
      rw [decide_eq_true (words_eq n _ 0 (op_and.lt HX.out.1 HX.out.2) (Nat.two_pow_pos n) (fun i hi => by rw [HJ.out i (by omega), wordAt_zero]))]
      rfl

set_option maxHeartbeats 400000 in
theorem meets_any (b1 g1 c1 n X b2 g2 c2 Y : Nat) (w : World) (h1 : IsSet w b1 g1 c1 n X) (h2 : IsSet w b2 g2 c2 n Y) :
    Calls Tryd.prog 49 #[.pointer (some ⟨b1, 0, none⟩), .pointer (some ⟨b2, 0, none⟩)] w fun e w' => e = .returned (.bool (!decide (X &&& Y = 0))) ∧ Below w.heap.size w w' := by
  go_enter Tryd.func49, Tryd.ntmps49
  go_wp2_with fail
  refine (alike_yes b1 b2 n _ h1.c0 h2.c0).mono ?_
  rintro e w1 ⟨rfl, q, rfl⟩
  have d1 : Below w.heap.size w (w.drewN q) := below_drewN' (Below.refl _ _) q
  have s1 := h1.below d1
  have s2 := h2.below d1
  clear h1 h2
  go_wp2_with fail
  refine (leaves_and b1 g1 c1 n X b2 g2 c2 Y _ s1 s2).mono ?_
  rintro e w2 ⟨rfl, rfl⟩
  clear s1 s2
  go_wp2
  go_ret
  exact ⟨by simp, d1⟩

/-- The numbers below n that are not in X. -/
def notN (n X : Nat) : Nat := (2 ^ n - 1) ^^^ X
theorem notN_testBit (n X i : Nat) (hX : X < 2 ^ n) : (notN n X).testBit i = (decide (i < n) && !X.testBit i) := by
  unfold notN
  rw [Nat.testBit_xor, Nat.testBit_two_pow_sub_one]
  by_cases h : i < n
  · simp [h]
  · rw [Nat.testBit_lt_two_pow (Nat.lt_of_lt_of_le hX (Nat.pow_le_pow_right (by decide) (by omega)))]; simp [h]
theorem notN_lt (n X : Nat) (hX : X < 2 ^ n) : notN n X < 2 ^ n := by
  apply lt_of_bits
  intro i hi
  rw [notN_testBit n X i hX]
  simp; omega

/-- A set's memory, whatever its words are. -/
structure Raw (w : World) (b g cap n : Nat) (f : Nat → Nat) : Prop where
  blk : w.heap[b]? = some (.cells #[.int .i64 n, .slice (some ⟨g, 0, none⟩) (nw n) cap] 62 (0, 0))
  own : w.ownsRow 0 65 1 (.slice (some ⟨g, 0, none⟩) (nw n) cap) (nw n) ((List.range (nw n)).map fun k => .int .u64 (f k : Int))

theorem IsSet.raw {w : World} {b g cap n X : Nat} (h : IsSet w b g cap n X) : Raw w b g cap n (wordAt X) := ⟨h.blk, h.own⟩
theorem Raw.c0 {w : World} {b g cap n : Nat} {f : Nat → Nat} (h : Raw w b g cap n f) : w.cell? ⟨b, 0, none⟩ = some (.int .i64 n) := by
  rw [cell_of_row w b 0 _ 62 (0, 0) h.blk]; rfl
theorem Raw.c1 {w : World} {b g cap n : Nat} {f : Nat → Nat} (h : Raw w b g cap n f) : w.cell? ⟨b, 1, none⟩ = some (.slice (some ⟨g, 0, none⟩) (nw n) cap) := by
  rw [cell_of_row w b 1 _ 62 (0, 0) h.blk]; rfl
theorem Raw.word {w : World} {b g cap n : Nat} {f : Nat → Nat} (h : Raw w b g cap n f) (k : Nat) (hk : k < nw n) : w.cell? ⟨g, k, none⟩ = some (.int .u64 (f k : Int)) := by
  have := h.own.cells (g := g) rfl k (.int .u64 (f k : Int)) (by simp [hk])
  rw [Addr.add_lit] at this
  simpa using this
theorem Raw.drew {w : World} {b g cap n : Nat} {f : Nat → Nat} (h : Raw w b g cap n f) : Raw w.drew b g cap n f := ⟨h.blk, h.own.drew⟩
theorem Raw.drewN {w : World} {b g cap n : Nat} {f : Nat → Nat} (h : Raw w b g cap n f) (q : Nat) : Raw (w.drewN q) b g cap n f := ⟨h.blk, h.own⟩
theorem Raw.store {w : World} {b g cap n j v : Nat} {f f' : Nat → Nat} (h : Raw w b g cap n f) (hbg : b ≠ g) (ho : ∀ i, i < nw n → i ≠ j → f' i = f i) (hv : f' j = v) : Raw (w.setCell ⟨g, j, none⟩ (.int .u64 (v : Int))) b g cap n f' := by
  refine ⟨?_, ?_⟩
  · rw [heap_setCell_other w ⟨g, j, none⟩ b _ hbg]; exact h.blk
  · have := (h.own.stored j (.int .u64 (v : Int))).1
    have e : ((List.range (nw n)).map fun k => Value.int .u64 (f k : Int)).set j (.int .u64 (v : Int)) = (List.range (nw n)).map fun k => .int .u64 (f' k : Int) := by
      apply List.ext_getElem?
      intro i
      rw [List.getElem?_set]
      by_cases hi : i < nw n
      · by_cases hij : j = i
        · subst hij; simp [hi, hv]
        · simp [hij, hi, ho i hi (fun h => hij h.symm)]
      · by_cases hij : j = i
        · subst hij; simp [hi]
        · simp [hij, hi]
    rwa [e] at this
theorem Raw.isSet {w : World} {b g cap n X : Nat} {f : Nat → Nat} (h : Raw w b g cap n f) (hn : n ≤ 8192) (hX : X < 2 ^ n) (hf : ∀ i, i < nw n → f i = wordAt X i) : IsSet w b g cap n X := by
  refine ⟨hn, hX, h.blk, ?_⟩
  have e : (List.range (nw n)).map (fun k => Value.int .u64 (f k : Int)) = wordVals n X := by
    unfold wordVals
    apply List.map_congr_left
    intro i hi
    rw [hf i (List.mem_range.1 hi)]
  rw [← e]
  exact h.own

theorem compl_testBit (x i : Nat) (hx : x < 18446744073709551616) : (18446744073709551615 - x).testBit i = (decide (i < 64) && !x.testBit i) := by
  have := Nat.testBit_two_pow_sub_succ (n := 64) (x := x) hx i
  rw [← this]
  congr 1
  omega

theorem not_word (x : Nat) (hx : x < 18446744073709551616) : bits BinOp.xor IntKind.u64 (if IntKind.u64.signed = true then -1 else IntKind.u64.max) (x : Int) = ((18446744073709551615 - x : Nat) : Int) := by
  have e : (if IntKind.u64.signed = true then (-1 : Int) else IntKind.u64.max) = ((18446744073709551615 : Nat) : Int) := by decide
  rw [e, bits_xor_u64_nat _ _ (by decide) hx]
  congr 1
  apply Nat.eq_of_testBit_eq
  intro i
  rw [compl_testBit x i hx, Nat.testBit_xor, show (18446744073709551615 : Nat) = 2 ^ 64 - 1 from rfl, Nat.testBit_two_pow_sub_one]
  by_cases h : i < 64
  · simp [h]
  · rw [Nat.testBit_lt_two_pow (Nat.lt_of_lt_of_le hx (show 2 ^ 64 ≤ 2 ^ i from Nat.pow_le_pow_right (by decide) (by omega)))]; simp [h]

theorem mask_word (x sp : Nat) (hx : x < 18446744073709551616) : bits BinOp.and IntKind.u64 (x : Int) (18446744073709551615 / 2 ^ sp) = ((x &&& (18446744073709551615 / 2 ^ sp) : Nat) : Int) := by
  have e : (18446744073709551615 : Int) / 2 ^ sp = ((18446744073709551615 / 2 ^ sp : Nat) : Int) := by simp
  have hl : 18446744073709551615 / 2 ^ sp < 18446744073709551616 := Nat.lt_of_le_of_lt (Nat.div_le_self _ _) (by decide)
  rw [e, bits_and_u64_nat _ _ hx hl]

theorem not_words (n X j : Nat) (hX : X < 2 ^ n) (h : 64 * (j + 1) ≤ n) : 18446744073709551615 - wordAt X j = wordAt (notN n X) j := by
  apply Nat.eq_of_testBit_eq
  intro t
  rw [compl_testBit _ _ (wordAt_lt _ _), wordAt_testBit, wordAt_testBit, notN_testBit n X _ hX]
  by_cases ht : t < 64
  · have : 64 * j + t < n := by omega
    simp [ht, this]
  · simp [ht]

theorem not_last (n X j sp : Nat) (hX : X < 2 ^ n) (hj : 64 * (j + 1) = n + sp) (_hsp : sp < 64) : (18446744073709551615 - wordAt X j) &&& (18446744073709551615 / 2 ^ sp) = wordAt (notN n X) j := by
  apply Nat.eq_of_testBit_eq
  intro t
  rw [Nat.testBit_and, compl_testBit _ _ (wordAt_lt _ _), wordAt_testBit, wordAt_testBit, notN_testBit n X _ hX, Nat.testBit_div_two_pow, show (18446744073709551615 : Nat) = 2 ^ 64 - 1 from rfl, Nat.testBit_two_pow_sub_one]
  by_cases ht : t < 64
  · have : (t + sp < 64) ↔ (64 * j + t < n) := by omega
    simp only [ht, this, decide_true, Bool.true_and]
    cases X.testBit (64 * j + t) <;> simp
  · simp [ht]

set_option maxRecDepth 100000 in
set_option maxHeartbeats 1000000 in
theorem not_any (b g cap n X : Nat) (w : World) (hs : IsSet w b g cap n X) :
    Calls Tryd.prog 72 #[.pointer (some ⟨b, 0, none⟩)] w fun e w' => ∃ b' g' cap', e = .returned (.pointer (some ⟨b', 0, none⟩)) ∧ IsSet w' b' g' cap' n (notN n X) ∧ w.heap.size ≤ b' ∧ w.heap.size ≤ g' ∧ b' ≠ g' ∧ Below w.heap.size w w' := by
  have hn := hs.hn
  have hnw := nw_le hn
  have HX := hide hs.hX
  go_enter Tryd.func72, Tryd.ntmps72
  go_wp2_with fail
  refine (copy_any b g cap n X _ hs).mono ?_
  rintro e w1 ⟨b', g', cap', rfl, s1, m1, m2, m3, d1⟩
  have r1 := s1.raw
  have u1 := r1.c1
  clear hs s1
  go_wp2
  go_loopw [16] (fun i wr => ∃ k : Nat, k ≤ nw n ∧ i = .int .i64 k ∧ Raw wr b' g' cap' n (fun j => if j < k then 18446744073709551615 - wordAt X j else wordAt X j) ∧ Below w.heap.size w wr) (fun i _ => nw n - (intOf i).toNat)
  case atStart => exact ⟨0, Nat.zero_le _, rfl, by simpa using r1, d1⟩
  case round =>
    obtain ⟨k, hk, rfl, rr, dr⟩ := hrel
    clear r1 u1 d1
    have y1 := rr.c1
    by_cases hlt : k < nw n
    · have x0 := rr.word k hlt
      rw [if_neg (by omega)] at x0
      have hf : wr.frozen? ⟨g', k, none⟩ = false := rr.own.frozenAt _
      have lx := wordAt_lt X k
      have HR := hide rr
      clear rr
      go_wp2
      go_roundw
      case rel =>
        refine ⟨k + 1, by omega, by go_num, ?_, dr.setCell m2 _⟩
        rw [not_word _ lx]
        refine HR.out.store m3 (fun i _ hne => ?_) ?_
        · by_cases h : i < k <;> by_cases h' : i < k + 1 <;> simp [h, h'] <;> omega
        · simp
      case measure => simp [intOf]; omega
    · have hke : k = nw n := by omega
      subst hke
      have z0 := rr.c0
      have hw0 : (nw n : Int) * 64 ≤ 8255 := by unfold nw; omega
      have HR := hide rr
      clear rr
      obtain ⟨sp, hsp⟩ : ∃ sp : Nat, (nw n : Int) * 64 - (n : Int) = (sp : Int) := ⟨nw n * 64 - n, by unfold nw; omega⟩
      have hspl : sp < 64 := by unfold nw at hsp; omega
      have HSP := hide hsp
      by_cases hs0 : sp = 0
      · subst hs0
        go_wp2_with fail
        go_quiet (fail)
        go_wp2
        go_ret
        refine ⟨b', g', cap', rfl, ?_, m1, m2, m3, below_drewN' dr _⟩
        have := HSP.out
        refine (HR.out.drewN _).isSet hn (notN_lt n X HX.out) (fun i hi => ?_)
        simp only [hi, if_true]
        exact not_words n X i HX.out (by omega)
      · have hpos : 0 < sp := by omega
        obtain ⟨q, hq⟩ : ∃ q, nw n = q + 1 := ⟨nw n - 1, by unfold nw; omega⟩
        have hql : q < nw n := by omega
        have x0 := HR.out.word q hql
        rw [if_pos hql] at x0
        have hf : wr.frozen? ⟨g', q, none⟩ = false := HR.out.own.frozenAt _
        have i2 : IntKind.i64.wrap ((nw n : Int) - 1) = (q : Int) := by rw [IntKind.wrap_i64]; omega
        have i0 : (0 : Int) ≤ (q : Int) := by omega
        have i1 : (q : Int) < (nw n : Int) := by omega
        have HQ := hide hq
        clear hq hs0
        go_wp2_with fail
        go_quiet (fail)
        go_wp2_with fail
        go_region
        all_goals go_wp2
        all_goals go_ret
        refine ⟨b', g', cap', rfl, ?_, m1, m2, m3, ?_⟩
        · have hsp2 := HSP.out
          have hq2 := HQ.out
          rw [mask_word (18446744073709551615 - wordAt X q) sp (by omega), not_last n X q sp HX.out (by omega) hspl]
          refine Raw.isSet (f := wordAt (notN n X)) ?_ hn (notN_lt n X HX.out) (fun _ _ => rfl)
          refine (HR.out.drewN _).store m3 (fun i hi hne => ?_) rfl
          simp only [hi, if_true]
          exact (not_words n X i HX.out (by omega)).symm
        · exact (below_drewN' dr _).setCell m2 _
end Go.Proofs.YtdgmokelmocejabDoor
