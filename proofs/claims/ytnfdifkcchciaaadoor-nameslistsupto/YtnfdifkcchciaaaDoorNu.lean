import Derived.Test.YtnfdifkcchciaaaDoorIto
namespace Go.Proofs.YtnfdifkcchciaaaDoor
open Go.RowKit Go.Maps

/-- The i-th name of a head. -/
def numN (head : ByteArray) (i : Nat) : ByteArray := head ++ decT i
def numL (head : ByteArray) (n : Nat) : List ByteArray := (List.range n).map (numN head)
theorem numL_len (head : ByteArray) (n : Nat) : (numL head n).length = n := by simp [numL]
theorem numL_succ (head : ByteArray) (n : Nat) : numL head (n + 1) = numL head n ++ [numN head n] := by simp [numL, List.range_succ]

set_option maxRecDepth 100000 in
set_option maxHeartbeats 1000000 in
theorem num_bad (head : ByteArray) (n : Int) (w : World) (h : n < 0 ∨ 4096 < n) :
    Calls Tryd.prog 31 #[.string head, .int .i64 n] w fun e w' => e = .returned (.tuple #[.slice none 0 0, .int .i64 1]) ∧ w' = w := by
  have HI := hide h
  by_cases h0 : n < 0
  · have d0 : decide (n < 0) = true := decide_eq_true h0
    go_enter Tryd.func31, Tryd.ntmps31
    go_wp2
    go_ret2
    exact ⟨rfl, rfl⟩
  · have d0 : decide (n < 0) = false := decide_eq_false h0
    have d1 : decide (4096 < n) = true := decide_eq_true (by have := HI.out; omega)
    go_enter Tryd.func31, Tryd.ntmps31
    go_wp2
    go_ret2
    exact ⟨rfl, rfl⟩
set_option maxRecDepth 100000 in
set_option maxHeartbeats 1000000 in
theorem rnum_bad (head : ByteArray) (n : Int) (w : World) (h : n < 0 ∨ 4096 < n) :
    Calls Tryd.prog 30 #[.string head, .int .i64 n] w fun e w' => e = .returned (.tuple #[.slice none 0 0, .int .i64 1]) ∧ w' = w := by
  have HI := hide h
  by_cases h0 : n < 0
  · have d0 : decide (n < 0) = true := decide_eq_true h0
    go_enter Tryd.func30, Tryd.ntmps30
    go_wp2
    go_ret2
    exact ⟨rfl, rfl⟩
  · have d0 : decide (n < 0) = false := decide_eq_false h0
    have d1 : decide (4096 < n) = true := decide_eq_true (by have := HI.out; omega)
    go_enter Tryd.func30, Tryd.ntmps30
    go_wp2
    go_ret2
    exact ⟨rfl, rfl⟩

theorem row_zero {w : World} {base e size n : Nat} {v : Value} {xs : List Value} (h : w.ownsRow base e size v n xs) : w.ownsRow 0 e size v n xs := by
  refine ⟨h.1, ?_⟩
  rcases h.2 with h1 | ⟨g, cap, cur, rfl, _, r⟩
  · exact .inl h1
  · exact .inr ⟨g, cap, cur, rfl, Nat.zero_le _, r⟩
/-- What Numbered answers: its error's number; the new list, or none. -/
def numC (R : List ByteArray) : Int := if R.all vld = true then 0 else 20
def NOut (R : List ByteArray) (c : Int) (v : Value) (w w' : World) : Prop := c = numC R ∧ ((numC R = 0 ∧ OwnS w' 0 v R ∧ ∀ b, v.ownBlock = some b → w.heap.size ≤ b) ∨ (numC R ≠ 0 ∧ v = .slice none 0 0))
/-- The list as far as it is filled. -/
def filL (head : ByteArray) (n k : Nat) : List ByteArray := numL head k ++ List.replicate (n - k) ByteArray.empty
theorem filL_len (head : ByteArray) (n k : Nat) (h : k ≤ n) : (filL head n k).length = n := by simp [filL, numL_len]; omega
theorem filL_set (head : ByteArray) (n k : Nat) (h : k < n) : (strV (filL head n k)).set k (.string (numN head k)) = strV (filL head n (k + 1)) := by
  unfold filL strV
  rw [numL_succ, show n - k = (n - (k + 1)) + 1 by omega, List.replicate_succ, List.map_append, List.set_append_right _ _ (by simp [numL_len])]
  simp [numL_len]
theorem filL_at (head : ByteArray) (n k : Nat) (h : k < n) : (strV (filL head n k))[k]? = some (.string ByteArray.empty) := by
  unfold filL strV
  rw [show n - k = (n - (k + 1)) + 1 by omega, List.replicate_succ, List.map_append, List.getElem?_append_right (by simp [numL_len])]
  simp [numL_len]
theorem numL_no {head : ByteArray} {n k : Nat} (hk : k < n) (h : vld (numN head k) = false) : numC (numL head n) = 20 := by
  unfold numC
  rw [if_neg]
  intro e
  have := List.all_eq_true.1 e (numN head k) (List.mem_map.2 ⟨k, List.mem_range.2 hk, rfl⟩)
  rw [h] at this
  cases this
theorem numL_yes {head : ByteArray} {n : Nat} (h : ∀ j, j < n → vld (numN head j) = true) : numC (numL head n) = 0 := by
  unfold numC
  rw [if_pos]
  rw [List.all_eq_true]
  intro x hx
  obtain ⟨j, hj, rfl⟩ := List.mem_map.1 hx
  exact h j (List.mem_range.1 hj)

set_option maxRecDepth 100000 in
set_option maxHeartbeats 1000000 in
theorem num_in (head : ByteArray) (n : Nat) (w : World) (hn : n ≤ 4096) (hh : head.size ≤ 1048576) (hT : BytesAt w) (hP : PowAt w) (hw0 : 1 < w.heap.size) :
    Calls Tryd.prog 31 #[.string head, .int .i64 n] w fun e w' => (∃ v c, e = .returned (.tuple #[v, .int .i64 c]) ∧ NOut (numL head n) c v w w') ∧ Below w.heap.size w w' := by
  have d0 : decide ((n : Int) < 0) = false := decide_eq_false (by omega)
  have d1 : decide (4096 < (n : Int)) = false := decide_eq_false (by omega)
  obtain ⟨i9, hi9, hz90, hz91, hz92⟩ := info_parts info9
  go_enter Tryd.func31, Tryd.ntmps31
  go_wp2_with (at_make; refine wpList_make_full _ rfl _ _ 22 rfl w.heap.size 9 i9 (.string ByteArray.empty) 1 Tryd.underlying22 hi9 hz90 hz91 _ _ _ _ n rfl rfl rfl rfl (by rw [hz92]; omega) (by unfold maxLen; omega) (Nat.le_refl _) ?_)
  intro w1 ho hg
  have D1 : Below w.heap.size w w1 := (Below.refl _ _).grown hg (Nat.le_refl _) (by intro k hk; cases hk)
  rw [toList_madeCells_one, show List.replicate n (Value.string ByteArray.empty) = strV (filL head n 0) by simp [filL, numL, strV]] at ho
  clear hg
  go_wp2
  go_loopw [19] (fun i wr => ∃ k : Nat, k ≤ n ∧ i = .int .i64 k ∧ wr.ownsRow w.heap.size 9 1 (.slice (some ⟨w.heap.size, 0, none⟩) n n) n (strV (filL head n k)) ∧ Below w.heap.size w wr ∧ Hid (∀ j, j < k → vld (numN head j) = true)) (fun i _ => n - (intOf i).toNat)
  case atStart => exact ⟨0, Nat.zero_le _, rfl, ho, D1, fun j hj => by omega⟩
  case round =>
    obtain ⟨k, hk, rfl, hrow, dr, HV⟩ := hrel
    clear ho D1
    by_cases hlt : k < n
    · have hsz := decT_size k (by omega)
      have hPr := hP.below dr hw0
      have hTr := hT.below dr (by omega)
      have hsr := dr.size
      have i0 : (0 : Int) ≤ (k : Int) := by omega
      have i2 : (k : Int) < (n : Int) := by omega
      go_wp2_with fail
      refine (itoa_any k (by omega) _ hPr).mono ?_
      rintro e w2 ⟨rfl, d2⟩
      have hs2 := d2.size
      have hTr2 := hTr.below d2 (by omega)
      have hrow2 := row_below hrow d2
      have dr2 := dr.trans (d2.mono hsr)
      clear hPr hTr hrow d2 dr
      go_wp2_with fail
      refine (valid_any _ _ hTr2 (by omega)).mono ?_
      rintro e w3 ⟨rfl, d3⟩
      have hrow3 := row_below hrow2 d3
      have dr3 := dr2.trans (d3.mono (by omega))
      have hc3 := hrow3.cellAt k (by omega)
      have hf3 : w3.frozen? ⟨w.heap.size, k, none⟩ = false := hrow3.frozenAt _
      have he : (strV (filL head n k))[k]? = some (.string ByteArray.empty) := filL_at head n k hlt
      rw [he] at hc3
      clear hrow2 dr2 d3 he hTr2
      cases hvk : vld (numN head k) with
      | false =>
        have hvk' : vld (head ++ decT k) = false := hvk
        have HVK := hide hvk
        clear hvk
        go_wp2
        go_ret2
        refine ⟨⟨_, _, rfl, (numL_no hlt HVK.out).symm, .inr ⟨by rw [numL_no hlt HVK.out]; decide, rfl⟩⟩, dr3⟩
      | true =>
        have hvk' : vld (head ++ decT k) = true := hvk
        have HVK := hide hvk
        clear hvk
        go_wp2
        go_roundw
        case rel =>
          refine ⟨k + 1, by omega, by go_num, ?_, dr3.setCell (by simp) _, fun j hj => ?_⟩
          · have := (hrow3.stored k (.string (numN head k))).1
            rw [filL_set head n k hlt] at this
            exact this
          · by_cases hjk : j < k
            · exact HV.out j hjk
            · obtain rfl : j = k := by omega
              exact HVK.out
        case measure => simp [intOf]; omega
    · obtain rfl : k = n := by omega
      go_wp2
      go_ret2
      have e0 := numL_yes HV.out
      refine ⟨⟨_, _, rfl, e0.symm, .inl ⟨e0, ?_, fun b hb => by simp [Value.ownBlock] at hb; omega⟩⟩, dr⟩
      unfold OwnS
      rw [numL_len]
      have : filL head k k = numL head k := by simp [filL]
      rw [← this]
      exact row_zero hrow

set_option maxRecDepth 100000 in
set_option maxHeartbeats 1000000 in
theorem rnum_in (head : ByteArray) (n : Nat) (w : World) (hn : n ≤ 4096) (hh : head.size ≤ 1048576) (hP : PowAt w) (hw0 : 1 < w.heap.size) :
    Calls Tryd.prog 30 #[.string head, .int .i64 n] w fun e w' => (∃ v c, e = .returned (.tuple #[v, .int .i64 c]) ∧ NOut (numL head n) c v w w') ∧ Below w.heap.size w w' := by
  have d0 : decide ((n : Int) < 0) = false := decide_eq_false (by omega)
  have d1 : decide (4096 < (n : Int)) = false := decide_eq_false (by omega)
  have X0 := hide (Ox.start w)
  go_enter Tryd.func30, Tryd.ntmps30
  go_wp2
  go_loopw [6, 7] (fun ov i wr => ∃ k : Nat, k ≤ n ∧ i = .int .i64 k ∧ Hid (Ox w ov (numL head k) wr) ∧ Hid (∀ j, j < k → vld (numN head j) = true)) (fun _ i _ => n - (intOf i).toNat)
  case atStart => exact ⟨0, Nat.zero_le _, rfl, X0, fun j hj => by omega⟩
  case round =>
    obtain ⟨k, hk, rfl, X1, HV⟩ := hrel
    clear X0
    by_cases hlt : k < n
    · have hsz := decT_size k (by omega)
      have hPr := hP.below X1.out.D hw0
      have hsr := X1.out.D.size
      have i2 : (k : Int) < (n : Int) := by omega
      go_wp2_with fail
      refine (itoa_any k (by omega) _ hPr).mono ?_
      rintro e w2 ⟨rfl, d2⟩
      have X2 := hide (X1.out.below d2)
      clear hPr d2 X1
      go_wp2_with fail
      refine (rvalid_any _ _).mono ?_
      rintro e w3 ⟨rfl, hw⟩
      obtain rfl := hw.symm
      clear hw
      cases hvk : vld (numN head k) with
      | false =>
        have hvk' : vld (head ++ decT k) = false := hvk
        have HVK := hide hvk
        clear hvk
        go_wp2
        go_ret2
        exact ⟨⟨_, _, rfl, (numL_no hlt HVK.out).symm, .inr ⟨by rw [numL_no hlt HVK.out]; decide, rfl⟩⟩, X2.out.D⟩
      | true =>
        have hvk' : vld (head ++ decT k) = true := hvk
        have HVK := hide hvk
        have hown : OwnS w2 0 u6 (numL head k) := X2.out.own
        have hnl := numL_len head k
        have HNL := hide hnl
        clear hvk hnl
        go_wp2_with (at_builtin; refine wpList_app1 _ rfl _ _ rfl u6 (numL head k) (head ++ decT k) rfl (World.ownsRow.alloc hown _) ⟨w2.heap.size, 0, none⟩ rfl (cell_one_new _ _ _) (by rw [HNL.out]; omega) ?_)
        intro gv cv w3 ho hl
        have X3 := hide (X2.out.next ho (hl.imp id (fun x => ⟨by rw [x.1]; simp, x.2⟩)))
        clear ho hl hown X2
        go_wp2
        go_roundw
        case rel =>
          refine ⟨k + 1, by omega, by go_num, ?_, fun j hj => ?_⟩
          · rw [numL_succ]
            exact X3
          · by_cases hjk : j < k
            · exact HV.out j hjk
            · obtain rfl : j = k := by omega
              exact HVK.out
        case measure => simp [intOf]; omega
    · obtain rfl : k = n := by omega
      go_wp2
      go_ret2
      have e0 := numL_yes HV.out
      exact ⟨⟨_, _, rfl, e0.symm, .inl ⟨e0, X1.out.own, X1.out.new⟩⟩, X1.out.D⟩
end Go.Proofs.YtnfdifkcchciaaaDoor
