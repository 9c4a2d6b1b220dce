import Derived.Test.YtnfdifkcchciaaaDoorMk
namespace Go.Proofs.YtnfdifkcchciaaaDoor
open Go.RowKit Go.Maps

/-- A table and the document's table with the same names, apart from one another. -/
structure Two (t bm r : Nat) (most : Int) (v vr : Value) (l : List ByteArray) (w : World) : Prop where
  tb : Tbl w t most v bm l
  rb : RTb w r most vr l
  sep : ∀ k, TB t v bm k → ¬ RB r vr k
/-- The blocks of both. -/
def WB (t bm r : Nat) (v vr : Value) (k : Nat) : Prop := TB t v bm k ∨ RB r vr k

theorem Two.only {t bm r : Nat} {most : Int} {v vr : Value} {l : List ByteArray} {w w' : World} {R : Nat → Prop} (h : Two t bm r most v vr l w) (ho : Only w w' R) (hn : ∀ k, WB t bm r v vr k → ¬ R k) : Two t bm r most v vr l w' :=
  ⟨h.tb.only ho (fun k hk => hn k (.inl hk)), h.rb.only ho (fun k hk => hn k (.inr hk)), h.sep⟩
theorem Two.below {t bm r : Nat} {most : Int} {v vr : Value} {l : List ByteArray} {w w' : World} (h : Two t bm r most v vr l w) (d : Below w.heap.size w w') : Two t bm r most v vr l w' :=
  ⟨h.tb.below d, h.rb.below d, h.sep⟩
theorem Two.lt {t bm r : Nat} {most : Int} {v vr : Value} {l : List ByteArray} {w : World} (h : Two t bm r most v vr l w) : ∀ k, WB t bm r v vr k → k < w.heap.size := by
  rintro k (hk | hk)
  · exact h.tb.lt k hk
  · exact h.rb.lt k hk

/-- What a call with both leaves: the two have the same names again, nothing else has turned. -/
def Aft (t bm r : Nat) (most : Int) (v vr : Value) (l : List ByteArray) (w w' : World) : Prop :=
  ∃ v' vr' l', Two t bm r most v' vr' l' w' ∧ Only w w' (WB t bm r v vr) ∧ (∀ k, WB t bm r v' vr' k → WB t bm r v vr k ∨ w.heap.size ≤ k) ∧ l'.length ≤ l.length + 1

theorem aft_below {t bm r : Nat} {most : Int} {v vr : Value} {l : List ByteArray} {w w' : World} (h : Two t bm r most v vr l w) (d : Below w.heap.size w w') : Aft t bm r most v vr l w w' :=
  ⟨v, vr, l, h.below d, Only.ofBelow d, fun _ hk => .inl hk, Nat.le_succ _⟩

theorem aft_new {t bm r : Nat} {most : Int} {v vr v' vr' : Value} {l : List ByteArray} {s : ByteArray} {w w1 w2 w3 : World} (h : Two t bm r most v vr l w) (d : Below w.heap.size w w1)
    (T : Tbl w2 t most v' bm (l ++ [s])) (O : Only w1 w2 (TB t v bm)) (L : v'.ownBlock = v.ownBlock ∨ ∃ k, v'.ownBlock = some k ∧ w1.heap.size ≤ k)
    (T' : RTb w3 r most vr' (l ++ [s])) (O' : Only w2 w3 (RB r vr)) (L' : vr'.ownBlock = vr.ownBlock ∨ ∃ k, vr'.ownBlock = some k ∧ w2.heap.size ≤ k) : Aft t bm r most v vr l w w3 := by
  have h1 := h.below d
  have lt1 := h1.lt
  have sz := O.size
  have sz0 := d.size
  have wk : ∀ {R R' : Nat → Prop} {a b : World}, Only a b R → (∀ k, R k → R' k) → Only a b R' := fun o f => ⟨o.os, o.tape, o.output, o.size, fun k hk hn => o.block k hk (fun hr => hn (f k hr))⟩
  have o1 : Only w w1 (WB t bm r v vr) := Only.ofBelow d
  have o2 : Only w1 w2 (WB t bm r v vr) := wk O (fun k hk => .inl hk)
  have o3 : Only w2 w3 (WB t bm r v vr) := wk O' (fun k hk => .inr hk)
  have lt2 := T.lt
  have new1 : ∀ k, TB t v' bm k → TB t v bm k ∨ w1.heap.size ≤ k := by
    rintro k (e | e | e)
    · exact .inl (.inl e)
    · rcases L with e2 | ⟨j, e2, hj⟩
      · exact .inl (.inr (.inl (by rw [← e2]; exact e)))
      · rw [e2] at e; simp at e; exact .inr (by omega)
    · exact .inl (.inr (.inr e))
  have new2 : ∀ k, RB r vr' k → RB r vr k ∨ w2.heap.size ≤ k := by
    rintro k (e | e)
    · exact .inl (.inl e)
    · rcases L' with e2 | ⟨j, e2, hj⟩
      · exact .inl (.inr (by rw [← e2]; exact e))
      · rw [e2] at e; simp at e; exact .inr (by omega)
  have sep1 : ∀ k, TB t v' bm k → ¬ RB r vr k := by
    intro k hk hr
    rcases new1 k hk with h3 | h3
    · exact h.sep k h3 hr
    · have := lt1 k (.inr hr); omega
  refine ⟨v', vr', l ++ [s], ⟨T.only O' sep1, T', ?_⟩, (o1.trans o2).trans o3, ?_, by simp⟩
  · intro k hk hr
    rcases new2 k hr with h3 | h3
    · exact sep1 k hk h3
    · have := lt2 k hk; omega
  · rintro k (hk | hk)
    · rcases new1 k hk with h3 | h3
      · exact .inl (.inl h3)
      · exact .inr (by omega)
    · rcases new2 k hk with h3 | h3
      · exact .inl (.inr h3)
      · exact .inr (by omega)

set_option maxRecDepth 100000 in
set_option maxHeartbeats 1000000 in
theorem told_add_bad (t bm r : Nat) (most : Int) (v vr : Value) (l : List ByteArray) (s : ByteArray) (n : Int) (sec : Bool) (w : World) (h : Hid (Two t bm r most v vr l w)) (hT : Hid (BytesAt w ∧ 0 < w.heap.size)) (hv : vld s = false) :
    Calls Tryd.prog 21 #[.pointer (some ⟨t, 0, none⟩), .pointer (some ⟨r, 0, none⟩), .agg #[.int .i64 1, .bool sec, .string s, .int .i64 n]] w fun e w' => e = .returned (.bool true) ∧ Aft t bm r most v vr l w w' := by
  have d0 := below_new w (.cells #[.int .i64 1, .bool sec, .string s, .int .i64 n] 54)
  have H0 := hide (h.out.below d0)
  have HT0 := hide (And.intro (hT.out.1.below d0 hT.out.2) (Nat.lt_of_lt_of_le hT.out.2 d0.size))
  have HD := hide d0
  clear d0
  go_enter Tryd.func21, Tryd.ntmps21
  go_wp2_with fail
  refine (add_bad t s _ HT0.out.1 HT0.out.2 hv).mono ?_
  rintro e w1 ⟨rfl, d1⟩
  have bx : w1.cell? ⟨w.heap.size, 2, none⟩ = some (.string s) := (d1.cell (p := ⟨w.heap.size, 2, none⟩) (by simp)).trans (by rw [World.cell?_alloc_at _ _ _ _ rfl]; rfl)
  have bn : w1.cell? ⟨w.heap.size, 3, none⟩ = some (.int .i64 n) := (d1.cell (p := ⟨w.heap.size, 3, none⟩) (by simp)).trans (by rw [World.cell?_alloc_at _ _ _ _ rfl]; rfl)
  have A := hide (aft_below h.out (HD.out.trans (d1.mono HD.out.size)))
  clear d1
  go_wp2_with fail
  refine (radd_bad r s _ hv).mono ?_
  rintro e w2 ⟨rfl, hw⟩
  obtain rfl := hw.symm
  clear hw
  go_wp2
  go_ret
  exact ⟨rfl, A.out⟩

set_option maxRecDepth 100000 in
set_option maxHeartbeats 1000000 in
theorem told_add_old (t bm r : Nat) (most : Int) (v vr : Value) (l : List ByteArray) (s : ByteArray) (m : Nat) (n : Int) (sec : Bool) (w : World) (h : Hid (Two t bm r most v vr l w)) (hT : Hid (BytesAt w ∧ 0 < w.heap.size)) (hv : vld s = true) (hs : Hid (s ∈ l ∧ l.idxOf s = m)) :
    Calls Tryd.prog 21 #[.pointer (some ⟨t, 0, none⟩), .pointer (some ⟨r, 0, none⟩), .agg #[.int .i64 1, .bool sec, .string s, .int .i64 n]] w fun e w' => e = .returned (.bool true) ∧ Aft t bm r most v vr l w w' := by
  have d0 := below_new w (.cells #[.int .i64 1, .bool sec, .string s, .int .i64 n] 54)
  have H0 := hide (h.out.below d0)
  have HT0 := hide (And.intro (hT.out.1.below d0 hT.out.2) (Nat.lt_of_lt_of_le hT.out.2 d0.size))
  have HD := hide d0
  clear d0
  go_enter Tryd.func21, Tryd.ntmps21
  go_wp2_with fail
  refine (add_old t bm most v l s m _ (hide H0.out.tb) hs HT0.out.1 HT0.out.2).mono ?_
  rintro e w1 ⟨rfl, d1⟩
  have bx : w1.cell? ⟨w.heap.size, 2, none⟩ = some (.string s) := (d1.cell (p := ⟨w.heap.size, 2, none⟩) (by simp)).trans (by rw [World.cell?_alloc_at _ _ _ _ rfl]; rfl)
  have bn : w1.cell? ⟨w.heap.size, 3, none⟩ = some (.int .i64 n) := (d1.cell (p := ⟨w.heap.size, 3, none⟩) (by simp)).trans (by rw [World.cell?_alloc_at _ _ _ _ rfl]; rfl)
  have H1 := hide (H0.out.below d1)
  have A := hide (aft_below h.out (HD.out.trans (d1.mono HD.out.size)))
  clear d1
  go_wp2_with fail
  refine (radd_old r most vr l s m _ (hide H1.out.rb) hv hs).mono ?_
  rintro e w2 ⟨rfl, hw⟩
  obtain rfl := hw.symm
  clear hw
  go_wp2
  go_ret
  exact ⟨rfl, A.out⟩

set_option maxRecDepth 100000 in
set_option maxHeartbeats 1000000 in
theorem told_add_full (t bm r : Nat) (most : Int) (v vr : Value) (l : List ByteArray) (s : ByteArray) (n : Int) (sec : Bool) (w : World) (h : Hid (Two t bm r most v vr l w)) (hT : Hid (BytesAt w ∧ 0 < w.heap.size)) (hv : vld s = true) (hs : Hid (s ∉ l)) (hf : (l.length : Int) ≥ most) :
    Calls Tryd.prog 21 #[.pointer (some ⟨t, 0, none⟩), .pointer (some ⟨r, 0, none⟩), .agg #[.int .i64 1, .bool sec, .string s, .int .i64 n]] w fun e w' => e = .returned (.bool true) ∧ Aft t bm r most v vr l w w' := by
  have d0 := below_new w (.cells #[.int .i64 1, .bool sec, .string s, .int .i64 n] 54)
  have H0 := hide (h.out.below d0)
  have HT0 := hide (And.intro (hT.out.1.below d0 hT.out.2) (Nat.lt_of_lt_of_le hT.out.2 d0.size))
  have HD := hide d0
  clear d0
  go_enter Tryd.func21, Tryd.ntmps21
  go_wp2_with fail
  refine (add_full t bm most v l s _ (hide H0.out.tb) hv hs (by omega) HT0.out.1 HT0.out.2).mono ?_
  rintro e w1 ⟨rfl, d1⟩
  have bx : w1.cell? ⟨w.heap.size, 2, none⟩ = some (.string s) := (d1.cell (p := ⟨w.heap.size, 2, none⟩) (by simp)).trans (by rw [World.cell?_alloc_at _ _ _ _ rfl]; rfl)
  have bn : w1.cell? ⟨w.heap.size, 3, none⟩ = some (.int .i64 n) := (d1.cell (p := ⟨w.heap.size, 3, none⟩) (by simp)).trans (by rw [World.cell?_alloc_at _ _ _ _ rfl]; rfl)
  have H1 := hide (H0.out.below d1)
  have D1 := hide (HD.out.trans (d1.mono HD.out.size))
  clear d1
  go_wp2_with fail
  refine (radd_full r most vr l s _ (hide H1.out.rb) hv hs (by omega)).mono ?_
  rintro e w2 ⟨rfl, d2⟩
  have A := hide (aft_below h.out (D1.out.trans (d2.mono D1.out.size)))
  clear d2
  go_wp2
  go_ret
  exact ⟨rfl, A.out⟩

set_option maxRecDepth 100000 in
set_option maxHeartbeats 1000000 in
theorem told_add_new (t bm r : Nat) (most : Int) (v vr : Value) (l : List ByteArray) (s : ByteArray) (n : Int) (sec : Bool) (w : World) (h : Hid (Two t bm r most v vr l w)) (hT : Hid (BytesAt w ∧ 0 < w.heap.size)) (hv : vld s = true) (hs : Hid (s ∉ l)) (hf : (l.length : Int) < most) (hl : l.length < 2097152) :
    Calls Tryd.prog 21 #[.pointer (some ⟨t, 0, none⟩), .pointer (some ⟨r, 0, none⟩), .agg #[.int .i64 1, .bool sec, .string s, .int .i64 n]] w fun e w' => e = .returned (.bool true) ∧ Aft t bm r most v vr l w w' := by
  have d0 := below_new w (.cells #[.int .i64 1, .bool sec, .string s, .int .i64 n] 54)
  have H0 := hide (h.out.below d0)
  have HT0 := hide (And.intro (hT.out.1.below d0 hT.out.2) (Nat.lt_of_lt_of_le hT.out.2 d0.size))
  have HD := hide d0
  clear d0
  go_enter Tryd.func21, Tryd.ntmps21
  go_wp2_with fail
  refine (add_new t bm most v l s _ (hide H0.out.tb) hv hs (by omega) hl HT0.out.1 HT0.out.2).mono ?_
  rintro e w1 ⟨v1, rfl, T1, O1, L1⟩
  have hbx : ¬ TB t v bm w.heap.size := fun hk => by have := h.out.tb.lt _ hk; omega
  have bx : w1.cell? ⟨w.heap.size, 2, none⟩ = some (.string s) := (World.cell?_of_block (O1.block w.heap.size (by simp) hbx)).trans (by rw [World.cell?_alloc_at _ _ _ _ rfl]; rfl)
  have R1 := hide (H0.out.rb.only O1 (fun k hk ht => h.out.sep k ht hk))
  have HX := hide (And.intro T1 (And.intro O1 L1))
  clear T1 O1 L1 hbx
  go_wp2_with fail
  refine (radd_new r most vr l s _ R1 hv hs (by omega) hl).mono ?_
  rintro e w2 ⟨v2, rfl, T2, O2, L2⟩
  have A := hide (aft_new h.out HD.out HX.out.1 HX.out.2.1 HX.out.2.2 T2 O2 L2)
  clear T2 O2 L2
  go_wp2
  go_ret
  exact ⟨rfl, A.out⟩

set_option maxRecDepth 100000 in
set_option maxHeartbeats 1000000 in
theorem told_find_in (t bm r : Nat) (most : Int) (v vr : Value) (l : List ByteArray) (s : ByteArray) (m : Nat) (n : Int) (sec : Bool) (w : World) (h : Hid (Two t bm r most v vr l w)) (hT : Hid (BytesAt w ∧ 0 < w.heap.size)) (hs : Hid (s ∈ l ∧ l.idxOf s = m)) :
    Calls Tryd.prog 21 #[.pointer (some ⟨t, 0, none⟩), .pointer (some ⟨r, 0, none⟩), .agg #[.int .i64 2, .bool sec, .string s, .int .i64 n]] w fun e w' => e = .returned (.bool true) ∧ Aft t bm r most v vr l w w' := by
  have d0 := below_new w (.cells #[.int .i64 2, .bool sec, .string s, .int .i64 n] 54)
  have H0 := hide (h.out.below d0)
  have HT0 := hide (And.intro (hT.out.1.below d0 hT.out.2) (Nat.lt_of_lt_of_le hT.out.2 d0.size))
  have HD := hide d0
  clear d0
  go_enter Tryd.func21, Tryd.ntmps21
  go_wp2_with fail
  refine (find_tb t bm most v l s m _ (hide H0.out.tb) hs).mono ?_
  rintro e w1 ⟨rfl, hw⟩
  obtain rfl := hw.symm
  clear hw
  go_wp2_with fail
  refine (rfind_in r most vr l s m _ (hide H0.out.rb) hs).mono ?_
  rintro e w1 ⟨rfl, hw⟩
  obtain rfl := hw.symm
  clear hw
  go_wp2
  go_ret
  exact ⟨rfl, aft_below h.out HD.out⟩

set_option maxRecDepth 100000 in
set_option maxHeartbeats 1000000 in
theorem told_find_out (t bm r : Nat) (most : Int) (v vr : Value) (l : List ByteArray) (s : ByteArray) (n : Int) (sec : Bool) (w : World) (h : Hid (Two t bm r most v vr l w)) (hT : Hid (BytesAt w ∧ 0 < w.heap.size)) (hs : Hid (s ∉ l)) (hz : s.size ≤ 1048576) :
    Calls Tryd.prog 21 #[.pointer (some ⟨t, 0, none⟩), .pointer (some ⟨r, 0, none⟩), .agg #[.int .i64 2, .bool sec, .string s, .int .i64 n]] w fun e w' => e = .returned (.bool true) ∧ Aft t bm r most v vr l w w' := by
  have d0 := below_new w (.cells #[.int .i64 2, .bool sec, .string s, .int .i64 n] 54)
  have H0 := hide (h.out.below d0)
  have HT0 := hide (And.intro (hT.out.1.below d0 hT.out.2) (Nat.lt_of_lt_of_le hT.out.2 d0.size))
  have HD := hide d0
  clear d0
  go_enter Tryd.func21, Tryd.ntmps21
  go_wp2_with fail
  refine (find_out t bm most v l s _ (hide H0.out.tb) hs hz).mono ?_
  rintro e w1 ⟨rfl, hw⟩
  obtain rfl := hw.symm
  clear hw
  go_wp2_with fail
  refine (rfind_out r most vr l s _ (hide H0.out.rb) hs).mono ?_
  rintro e w1 ⟨rfl, hw⟩
  obtain rfl := hw.symm
  clear hw
  go_wp2
  go_ret
  exact ⟨rfl, aft_below h.out HD.out⟩

set_option maxRecDepth 100000 in
set_option maxHeartbeats 1000000 in
theorem told_name_in (t bm r : Nat) (most : Int) (v vr : Value) (l : List ByteArray) (s : ByteArray) (j : Nat) (sec : Bool) (w : World) (h : Hid (Two t bm r most v vr l w)) (hT : Hid (BytesAt w ∧ 0 < w.heap.size)) (hj : j < l.length) :
    Calls Tryd.prog 21 #[.pointer (some ⟨t, 0, none⟩), .pointer (some ⟨r, 0, none⟩), .agg #[.int .i64 3, .bool sec, .string s, .int .i64 (j : Nat)]] w fun e w' => e = .returned (.bool true) ∧ Aft t bm r most v vr l w w' := by
  have d0 := below_new w (.cells #[.int .i64 3, .bool sec, .string s, .int .i64 (j : Nat)] 54)
  have H0 := hide (h.out.below d0)
  have HT0 := hide (And.intro (hT.out.1.below d0 hT.out.2) (Nat.lt_of_lt_of_le hT.out.2 d0.size))
  have HD := hide d0
  clear d0
  go_enter Tryd.func21, Tryd.ntmps21
  go_wp2_with fail
  refine (name_tb t bm most v l j _ (hide H0.out.tb) hj).mono ?_
  rintro e w1 ⟨rfl, hw⟩
  obtain rfl := hw.symm
  clear hw
  go_wp2_with fail
  refine (rname_in r most vr l j _ (hide H0.out.rb) hj).mono ?_
  rintro e w1 ⟨rfl, hw⟩
  obtain rfl := hw.symm
  clear hw
  go_wp2
  go_ret
  exact ⟨rfl, aft_below h.out HD.out⟩

set_option maxRecDepth 100000 in
set_option maxHeartbeats 1000000 in
theorem told_name_out (t bm r : Nat) (most : Int) (v vr : Value) (l : List ByteArray) (s : ByteArray) (n : Int) (sec : Bool) (w : World) (h : Hid (Two t bm r most v vr l w)) (hT : Hid (BytesAt w ∧ 0 < w.heap.size)) (hn : n < 0 ∨ (l.length : Int) ≤ n) :
    Calls Tryd.prog 21 #[.pointer (some ⟨t, 0, none⟩), .pointer (some ⟨r, 0, none⟩), .agg #[.int .i64 3, .bool sec, .string s, .int .i64 n]] w fun e w' => e = .returned (.bool true) ∧ Aft t bm r most v vr l w w' := by
  have d0 := below_new w (.cells #[.int .i64 3, .bool sec, .string s, .int .i64 n] 54)
  have H0 := hide (h.out.below d0)
  have HT0 := hide (And.intro (hT.out.1.below d0 hT.out.2) (Nat.lt_of_lt_of_le hT.out.2 d0.size))
  have HD := hide d0
  clear d0
  go_enter Tryd.func21, Tryd.ntmps21
  go_wp2_with fail
  refine (name_out t bm most v l n _ (hide H0.out.tb) hn).mono ?_
  rintro e w1 ⟨rfl, hw⟩
  obtain rfl := hw.symm
  clear hw
  go_wp2_with fail
  refine (rname_out r most vr l n _ (hide H0.out.rb) hn).mono ?_
  rintro e w1 ⟨rfl, hw⟩
  obtain rfl := hw.symm
  clear hw
  go_wp2
  go_ret
  exact ⟨rfl, aft_below h.out HD.out⟩

end Go.Proofs.YtnfdifkcchciaaaDoor
