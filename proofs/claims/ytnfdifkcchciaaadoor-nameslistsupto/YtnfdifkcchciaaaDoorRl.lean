import Derived.Test.YtnfdifkcchciaaaDoorLg
import Derived.Test.YtnfdifkcchciaaaDoorRv
import Derived.Test.YtnfdifkcchciaaaDoorUnd
namespace Go.Proofs.YtnfdifkcchciaaaDoor
open Go.RowKit Go.Maps

set_option maxRecDepth 100000 in
set_option maxHeartbeats 1000000 in
/-- The reference's All of names. -/
theorem all_yes (v : Value) (l : List ByteArray) (w : World) (h : StrS w v l) (hs : l.length ≤ 4194304) (hv : Hid (∀ s ∈ l, vld s = true)) :
    Calls Tryd.prog 51 #[v] w fun e w' => e = .returned (.int .i64 0) ∧ w' = w := by
  obtain ⟨ao, cap, rfl, hr⟩ := h
  have HR := hide hr
  clear hr
  go_enter Tryd.func51, Tryd.ntmps51
  go_wp2
  go_loopw [3] (fun i wr => ∃ k : Nat, k ≤ l.length ∧ i = .int .i64 k ∧ wr = w) (fun i _ => l.length - (intOf i).toNat)
  case atStart => exact ⟨0, Nat.zero_le _, rfl, rfl⟩
  case round =>
    obtain ⟨k, hk, rfl, hw⟩ := hrel
    obtain rfl := hw.symm
    clear hw
    by_cases hlt : k < l.length
    · obtain ⟨g, o, rfl, q1⟩ := HR.out k hlt
      have i0 : (0 : Int) ≤ (k : Int) := by omega
      have i2 : (k : Int) < (l.length : Int) := by omega
      obtain ⟨x, hx⟩ : ∃ x, x = l[k] := ⟨_, rfl⟩
      have hvx : vld x = true := by rw [hx]; exact hv.out _ (List.getElem_mem hlt)
      rw [← hx] at q1
      clear hx
      go_wp2_with (go_at_call 25; refine (rvalid_any x _).mono ?_; rintro e w' ⟨rfl, hw⟩; obtain rfl := hw.symm; rw [hvx])
      go_roundw
      case rel => exact ⟨k + 1, by omega, by go_num, trivial⟩
      case measure => simp [intOf]; omega
    · have i2 : ¬ (k : Int) < (l.length : Int) := by omega
      go_wp2
      go_ret
      exact ⟨rfl, rfl⟩

set_option maxRecDepth 100000 in
set_option maxHeartbeats 1000000 in
/-- The reference's All of a list with one that is no name. -/
theorem all_no (v : Value) (l : List ByteArray) (w : World) (h : StrS w v l) (hs : l.length ≤ 4194304) (hv : Hid (∃ s ∈ l, vld s = false)) :
    Calls Tryd.prog 51 #[v] w fun e w' => e = .returned (.int .i64 20) ∧ w' = w := by
  obtain ⟨ao, cap, rfl, hr⟩ := h
  have HR := hide hr
  clear hr
  go_enter Tryd.func51, Tryd.ntmps51
  go_wp2
  go_loopw [3] (fun i wr => ∃ k : Nat, k ≤ l.length ∧ i = .int .i64 k ∧ Hid (∀ j (h : j < l.length), j < k → vld l[j] = true) ∧ wr = w) (fun i _ => l.length - (intOf i).toNat)
  case atStart => exact ⟨0, Nat.zero_le _, rfl, hide (fun j _ hj => absurd hj (Nat.not_lt_zero _)), rfl⟩
  case round =>
    obtain ⟨k, hk, rfl, hn, hw⟩ := hrel
    obtain rfl := hw.symm
    clear hw
    by_cases hlt : k < l.length
    · obtain ⟨g, o, rfl, q1⟩ := HR.out k hlt
      have i0 : (0 : Int) ≤ (k : Int) := by omega
      have i2 : (k : Int) < (l.length : Int) := by omega
      obtain ⟨x, hx⟩ : ∃ x, x = l[k] := ⟨_, rfl⟩
      rw [← hx] at q1
      have HX := hide hx
      clear hx
      cases hvx : vld x with
      | true =>
        go_wp2_with (go_at_call 25; refine (rvalid_any x _).mono ?_; rintro e w' ⟨rfl, hw⟩; obtain rfl := hw.symm; rw [hvx])
        go_roundw
        case rel => exact ⟨k + 1, by omega, by go_num, hide (fun j hj hjk => if e : j = k then by subst e; rw [← HX.out]; exact hvx else hn.out j hj (by omega)), trivial⟩
        case measure => simp [intOf]; omega
      | false =>
        go_wp2_with (go_at_call 25; refine (rvalid_any x _).mono ?_; rintro e w' ⟨rfl, hw⟩; obtain rfl := hw.symm; rw [hvx])
        go_ret
        exact ⟨rfl, rfl⟩
    · exfalso
      obtain ⟨s, hs1, hs2⟩ := hv.out
      obtain ⟨j, hj, rfl⟩ := List.getElem_of_mem hs1
      rw [hn.out j hj (by omega)] at hs2
      cases hs2

/-- A list that is being made in new memory. -/
structure Ox (w0 : World) (ov : Value) (l : List ByteArray) (wr : World) : Prop where
  own : OwnS wr 0 ov l
  new : ∀ b, ov.ownBlock = some b → w0.heap.size ≤ b
  D : Below w0.heap.size w0 wr
theorem Ox.start (w : World) : Ox w (.slice none 0 0) [] w := ⟨World.ownsRow_nil _ _ _ _, fun b hb => by simp [Value.ownBlock] at hb, Below.refl _ _⟩
theorem Ox.below {w0 : World} {ov : Value} {l : List ByteArray} {wr wr' : World} (h : Ox w0 ov l wr) (d : Below wr.heap.size wr wr') : Ox w0 ov l wr' :=
  ⟨OwnS.below h.own d, h.new, h.D.trans (d.mono h.D.size)⟩
theorem Ox.next {w0 : World} {ov : Value} {l : List ByteArray} {wr w3 : World} {t : ByteArray} {ty : TypeId} {gv cv : Nat} (h : Ox w0 ov l wr) (ho : OwnS w3 0 (.slice (some ⟨gv, 0, none⟩) (l.length + 1) cv) (l ++ [t]))
    (hl : (ov.ownBlock = some gv ∧ (wr.alloc (.cells #[.string t] ty)).grownBy w3 (some gv)) ∨ (gv = (wr.alloc (.cells #[.string t] ty)).heap.size ∧ (wr.alloc (.cells #[.string t] ty)).grownBy w3 none)) :
    Ox w0 (.slice (some ⟨gv, 0, none⟩) (l.length + 1) cv) (l ++ [t]) w3 := by
  have d1 := h.D.trans ((below_new wr (.cells #[.string t] ty)).mono h.D.size)
  have s0 := h.D.size
  rcases hl with ⟨e, g⟩ | ⟨e, g⟩
  · have hb := h.new gv e
    refine ⟨ho, fun b hb2 => ?_, d1.trans ((Only.grown (R := fun k => k = gv) g (fun k hk => by simpa using hk.symm)).toBelow d1.size (fun k hk => by omega))⟩
    simp [Value.ownBlock] at hb2
    omega
  · refine ⟨ho, fun b hb2 => ?_, d1.trans ((Only.grown (R := fun _ => False) g (fun k hk => by cases hk)).toBelow d1.size (fun k hk => hk.elim))⟩
    simp [Value.ownBlock] at hb2
    simp at e
    omega

/-- What a renaming answers: its error's number. -/
def renC (R : List ByteArray) : Int := if R.all vld = true then (if R.Nodup then 0 else 21) else 20

/-- What it answers besides: the new list, or none. -/
def ROut (R : List ByteArray) (c : Int) (v : Value) (w w' : World) : Prop := c = renC R ∧ ((renC R = 0 ∧ OwnS w' 0 v R ∧ ∀ b, v.ownBlock = some b → w.heap.size ≤ b) ∨ (renC R ≠ 0 ∧ v = .slice none 0 0))

theorem out_all {w0 wr : World} {ov : Value} {l : List ByteArray} (h : Ox w0 ov l wr) : StrS wr ov l := h.own.str

set_option maxRecDepth 100000 in
set_option maxHeartbeats 1000000 in
/-- The reference's Rename of lists that are not equally long. -/
theorem rrename_len (vl vf vt : Value) (f t : List ByteArray) (w : World) (hf : StrS w vf f) (ht : StrS w vt t) (h : f.length ≠ t.length) :
    Calls Tryd.prog 34 #[vl, vf, vt] w fun e w' => e = .returned (.tuple #[.slice none 0 0, .int .i64 1]) ∧ w' = w := by
  obtain ⟨a2, c2, rfl, _⟩ := hf
  obtain ⟨a3, c3, rfl, _⟩ := ht
  have hne : ((f.length : Int) != (t.length : Int)) = true := by rw [bne_iff_ne]; omega
  go_enter Tryd.func34, Tryd.ntmps34
  go_wp2
  go_ret2
  exact ⟨rfl, rfl⟩

set_option maxRecDepth 100000 in
set_option maxHeartbeats 2000000 in
/-- The reference's Rename of lists equally long. -/
theorem rrename_eq (vl vf vt : Value) (l f t R : List ByteArray) (w : World) (hl : StrS w vl l) (hf : StrS w vf f) (ht : StrS w vt t) (h : f.length = t.length) (ll : l.length ≤ 2097152) (lf : f.length ≤ 2097152) (HE : Hid (R = renL l f t)) :
    Calls Tryd.prog 34 #[vl, vf, vt] w fun e w' => (∃ v c, e = .returned (.tuple #[v, .int .i64 c]) ∧ ROut R c v w w') ∧ Below w.heap.size w w' := by
  have HF := hide hf
  have hRl : R.length = l.length := by rw [HE.out, renL_length]
  obtain ⟨a1, c1, rfl, r1⟩ := hl
  obtain ⟨a2, c2, rfl, r2⟩ := hf
  obtain ⟨a3, c3, rfl, r3⟩ := ht
  have HR := hide (And.intro r1 r3)
  have X0 := hide (Ox.start w)
  have hne : ((f.length : Int) != (t.length : Int)) = false := by rw [bne_eq_false_iff_eq]; omega
  have HH := hide h
  have HRl := hide hRl
  clear r1 r2 r3 h hRl
  go_enter Tryd.func34, Tryd.ntmps34
  go_wp2
  go_loopw [8, 9] (fun ov i wr => ∃ k : Nat, k ≤ l.length ∧ i = .int .i64 k ∧ Hid (Ox w ov (R.take k) wr)) (fun _ i _ => l.length - (intOf i).toNat)
  case atStart => exact ⟨0, Nat.zero_le _, rfl, X0⟩
  case round =>
    obtain ⟨k, hk, rfl, X1⟩ := hrel
    clear X0
    by_cases hlt : k < l.length
    · obtain ⟨g, o, rfl, q1⟩ := (HR.out.1.below X1.out.D) k hlt
      obtain ⟨x, hx⟩ : ∃ x, x = l[k] := ⟨_, rfl⟩
      rw [← hx] at q1
      have hkR : k < R.length := by rw [HRl.out]; exact hlt
      have htk : (R.take k).length = k := by rw [List.length_take]; omega
      have HRK : Hid (R.take (k + 1) = R.take k ++ [ren1 f t x]) := hide (by rw [List.take_succ_eq_append_getElem hkR, ren_at HE.out k hkR hlt, hx])
      obtain ⟨Rk, hRk⟩ : ∃ Rk, R.take k = Rk := ⟨_, rfl⟩
      rw [hRk] at X1 HRK htk
      have HTK := hide htk
      clear hkR htk hRk
      have i0 : (0 : Int) ≤ (k : Int) := by omega
      have i2 : (k : Int) < (l.length : Int) := by omega
      have hown : OwnS wr 0 u8 Rk := X1.out.own
      clear hx
      by_cases hin : x ∈ f
      · obtain ⟨m, hm⟩ : ∃ m, f.idxOf x = m := ⟨_, rfl⟩
        obtain ⟨hi, he⟩ := ren1_in hin HH.out
        simp only [hm] at hi he
        obtain ⟨g3, o3, rfl, q3⟩ := (HR.out.2.below X1.out.D) m hi
        rw [← he] at q3
        have m0 : (0 : Int) ≤ (m : Int) := by omega
        have m2 : (m : Int) < (t.length : Int) := by omega
        have HIN := hide (And.intro hin hm)
        obtain ⟨y, hy⟩ : ∃ y, ren1 f t x = y := ⟨_, rfl⟩
        rw [hy] at q3 HRK
        clear he hin hm hy
        go_wp2_with fail
        refine (place_yes _ f x m _ (HF.out.below X1.out.D) (by omega) HIN.out.1 HIN.out.2).mono ?_
        rintro e w2 ⟨rfl, hw⟩
        obtain rfl := hw.symm
        clear hw
        go_wp2_with (at_builtin; refine wpList_app1 _ rfl _ _ rfl u8 Rk y rfl (World.ownsRow.alloc hown _) ⟨wr.heap.size, 0, none⟩ rfl (cell_one_new _ _ _) (by rw [HTK.out]; omega) ?_)
        intro gv cv w3 ho hl
        have X2 := hide (X1.out.next ho (hl.imp id (fun x => ⟨by rw [x.1]; simp, x.2⟩)))
        rw [← HRK.out] at X2
        clear ho hl hown X1
        go_wp2
        go_roundw
        case rel => exact ⟨k + 1, by omega, by go_num, X2⟩
        case measure => simp [intOf]; omega
      · have hy : ren1 f t x = x := by unfold ren1; rw [if_neg (fun e => hin (mem_c.1 e))]
        rw [hy] at HRK
        have HIN := hide hin
        clear hin hy
        go_wp2_with fail
        refine (place_no _ f x _ (HF.out.below X1.out.D) (by omega) HIN.out).mono ?_
        rintro e w2 ⟨rfl, hw⟩
        obtain rfl := hw.symm
        clear hw
        go_wp2_with (at_builtin; refine wpList_app1 _ rfl _ _ rfl u8 Rk x rfl (World.ownsRow.alloc hown _) ⟨wr.heap.size, 0, none⟩ rfl (cell_one_new _ _ _) (by rw [HTK.out]; omega) ?_)
        intro gv cv w3 ho hl
        have X2 := hide (X1.out.next ho (hl.imp id (fun x => ⟨by rw [x.1]; simp, x.2⟩)))
        rw [← HRK.out] at X2
        clear ho hl hown X1
        go_wp2
        go_roundw
        case rel => exact ⟨k + 1, by omega, by go_num, X2⟩
        case measure => simp [intOf]; omega
    · have i2 : ¬ (k : Int) < (l.length : Int) := by omega
      have hkR : R.take k = R := List.take_of_length_le (by rw [HRl.out]; omega)
      have X2 := X1
      rw [hkR] at X2
      clear X1 hkR
      have lR : R.length ≤ 4194304 := by rw [HRl.out]; omega
      by_cases hv : R.all vld = true
      · have hv2 : ∀ s ∈ R, vld s = true := List.all_eq_true.1 hv
        by_cases hn : R.Nodup
        · have hc : renC R = 0 := by unfold renC; rw [if_pos hv, if_pos hn]
          have HV := hide (And.intro hv2 hn)
          have HC := hide hc
          clear hv hv2 hn hc
          go_wp2_with fail
          refine (all_yes _ R _ X2.out.own.str lR (hide HV.out.1)).mono ?_
          rintro e w2 ⟨rfl, hw⟩
          obtain rfl := hw.symm
          clear hw
          go_wp2_with fail
          refine (once_yes _ R _ X2.out.own.str lR HV.out.2).mono ?_
          rintro e w2 ⟨rfl, hw⟩
          obtain rfl := hw.symm
          clear hw
          go_wp2
          go_ret2
          exact ⟨⟨_, _, rfl, HC.out.symm, .inl ⟨HC.out, X2.out.own, X2.out.new⟩⟩, X2.out.D⟩
        · have hc : renC R = 21 := by unfold renC; rw [if_pos hv, if_neg hn]
          have HV := hide (And.intro hv2 hn)
          have HC := hide hc
          clear hv hv2 hn hc
          go_wp2_with fail
          refine (all_yes _ R _ X2.out.own.str lR (hide HV.out.1)).mono ?_
          rintro e w2 ⟨rfl, hw⟩
          obtain rfl := hw.symm
          clear hw
          go_wp2_with fail
          refine (once_no _ R _ X2.out.own.str lR HV.out.2).mono ?_
          rintro e w2 ⟨rfl, hw⟩
          obtain rfl := hw.symm
          clear hw
          go_wp2
          go_ret2
          exact ⟨⟨_, _, rfl, HC.out.symm, .inr ⟨by rw [HC.out]; decide, rfl⟩⟩, X2.out.D⟩
      · have hc : renC R = 20 := by unfold renC; rw [if_neg hv]
        have HV : Hid (∃ s ∈ R, vld s = false) := hide (by simpa using hv)
        have HC := hide hc
        clear hv hc
        go_wp2_with fail
        refine (all_no _ R _ X2.out.own.str lR HV).mono ?_
        rintro e w2 ⟨rfl, hw⟩
        obtain rfl := hw.symm
        clear hw
        go_wp2
        go_ret2
        exact ⟨⟨_, _, rfl, HC.out.symm, .inr ⟨by rw [HC.out]; decide, rfl⟩⟩, X2.out.D⟩

end Go.Proofs.YtnfdifkcchciaaaDoor
