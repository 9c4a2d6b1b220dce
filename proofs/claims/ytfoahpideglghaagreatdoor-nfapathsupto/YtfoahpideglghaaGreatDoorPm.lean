import Derived.Test.YtfoahpideglghaaGreatDoorNr
namespace Go.Proofs.YtfoahpideglghaaGreatDoor
open Go.RowKit Go.Maps Go.Shelf
attribute [local go_sem] Oper.semAt_some

/-! ### The first edge into a set -/
set_option maxRecDepth 100000 in
set_option maxHeartbeats 1000000 in
theorem into_any (w : World) (x1 x2 x3 : Int) (cx b g c N X : Nat) (hc : w.cell? ⟨cx, 0, none⟩ = some (.pointer (some ⟨b, 0, none⟩))) (hs : Hid (IsSet w b g c N X)) :
    Calls Tryz.prog 111 #[.agg #[.int .i64 x1, .int .i64 x2, .int .i64 x3], .pointer (some ⟨cx, 0, none⟩)] w fun e w' => e = .returned (.bool (hasB X x3)) ∧ Below w.heap.size w w' := by
  obtain ⟨W0, hW0⟩ : ∃ W0, w.alloc (.cells #[.int .i64 x1, .int .i64 x2, .int .i64 x3] 59) = W0 := ⟨_, rfl⟩
  have HD : Hid (Below w.heap.size w W0) := hide (by rw [← hW0]; exact (Below.refl _ _).alloc (Nat.le_refl _) _)
  have b0 : W0.heap[w.heap.size]? = some (.cells #[.int .i64 x1, .int .i64 x2, .int .i64 x3] 59 (0, 0)) := by rw [← hW0]; exact World.alloc_heap_new _ _
  have y2 : W0.cell? ⟨w.heap.size, 2, none⟩ = some (.int .i64 x3) := cell_of b0 rfl
  have y1 : W0.cell? ⟨cx, 0, none⟩ = some (.pointer (some ⟨b, 0, none⟩)) := (HD.out.cell (p := ⟨cx, 0, none⟩) (World.block_lt_of_cell? w _ hc)).trans hc
  have T := has_any b g c N X x3 W0 (hs.out.below HD.out)
  clear b0 hc
  go_enter Tryz.func111, Tryz.ntmps111
  go_wp2_with (go_at_call 95; refine T.mono ?_; rintro e w1 ⟨rfl, q, rfl⟩)
  refine bodyPost_ret (results_tmp rfl _ _ _) rfl ?_
  exact ⟨rfl, below_drewN2 HD.out q⟩
set_option maxRecDepth 100000 in
set_option maxHeartbeats 1000000 in
theorem first_any (w : World) (ao : Option Addr) (L : List EdT) (cl cx b g c N X k : Nat) (hr : Hid (RdE w ao L)) (hl : L.length ≤ 4194304) (hc : Hid (w.cell? ⟨cx, 0, none⟩ = some (.pointer (some ⟨b, 0, none⟩)))) (hs : Hid (IsSet w b g c N X)) (hk : k < L.length) (hin : Hid (hasB X L[k].2.2 = true)) (hmin : Hid (∀ t (h : t < L.length), t < k → hasB X L[t].2.2 = false)) :
    Calls Tryz.prog 110 #[.slice ao L.length cl, .func (.func 111) #[] #[.pointer (some ⟨cx, 0, none⟩)]] w fun e w' => e = .returned (.int .i64 (k : Int)) ∧ Below w.heap.size w w' := by
  go_enter Tryz.func110, Tryz.ntmps110
  go_wp2
  go_loopw [8] (fun iv wr => ∃ i : Nat, i ≤ k ∧ iv = .int .i64 i ∧ Hid (Below w.heap.size w wr)) (fun iv _ => L.length - (intOf iv).toNat)
  case atStart => exact ⟨0, Nat.zero_le _, rfl, hide (Below.refl _ _)⟩
  case round =>
    obtain ⟨i, hi, rfl, HB⟩ := hrel
    have hil : i < L.length := by omega
    have l0 : (i : Int) < (L.length : Int) := by omega
    have l1 : (0 : Int) ≤ (i : Int) := by omega
    obtain ⟨ge, o, rfl, q0, q1, q2⟩ := (hr.out.on HB.out) i hil
    have hcw : wr.cell? ⟨cx, 0, none⟩ = some (.pointer (some ⟨b, 0, none⟩)) := (HB.out.cell (p := ⟨cx, 0, none⟩) (World.block_lt_of_cell? w _ hc.out)).trans hc.out
    by_cases e : i = k
    · subst e
      have hv := hin.out
      obtain ⟨x, hx⟩ : ∃ x, L[i] = x := ⟨_, rfl⟩
      rw [hx] at q0 q1 q2 hv
      obtain ⟨x1, x2, x3⟩ := x
      have T := into_any wr x1 x2 x3 cx b g c N X hcw (hide (hs.out.below HB.out))
      have hv : hasB X x3 = true := hv
      rw [hv] at T
      clear hx hv hcw
      simp only at q0 q1 q2
      go_wp2_with (go_at_call 111; refine T.mono ?_; rintro e w2 ⟨rfl, d2⟩)
      refine bodyPost_ret (results_tmp rfl _ _ _) rfl ?_
      exact ⟨rfl, HB.out.trans (d2.mono HB.out.size)⟩
    · have hv := hmin.out i hil (by omega)
      obtain ⟨x, hx⟩ : ∃ x, L[i] = x := ⟨_, rfl⟩
      rw [hx] at q0 q1 q2 hv
      obtain ⟨x1, x2, x3⟩ := x
      have T := into_any wr x1 x2 x3 cx b g c N X hcw (hide (hs.out.below HB.out))
      have hv : hasB X x3 = false := hv
      rw [hv] at T
      clear hx hv hcw
      simp only at q0 q1 q2
      go_wp2_with (go_at_call 111; refine T.mono ?_; rintro e w2 ⟨rfl, d2⟩)
      go_roundw
      case rel => exact ⟨i + 1, by omega, by go_num, hide (HB.out.trans (d2.mono HB.out.size))⟩
      case measure => simp [intOf]; omega
set_option maxRecDepth 100000 in
set_option maxHeartbeats 1000000 in
theorem leastNext_any (w : World) (ao : Option Addr) (L : List EdT) (cl b g c N X k : Nat) (hr : Hid (RdE w ao L)) (hl : L.length ≤ 4194304) (hs : Hid (IsSet w b g c N X)) (hk : k < L.length) (hin : Hid (hasB X L[k].2.2 = true)) (hmin : Hid (∀ t (h : t < L.length), t < k → hasB X L[t].2.2 = false)) :
    Calls Tryz.prog 91 #[.slice ao L.length cl, .pointer (some ⟨b, 0, none⟩)] w fun e w' => e = .returned (.int .i64 L[k].2.2) ∧ Below w.heap.size w w' := by
  obtain ⟨W0, hW0⟩ : ∃ W0, w.alloc (.cells #[.pointer (some ⟨b, 0, none⟩)] 56) = W0 := ⟨_, rfl⟩
  have HD : Hid (Below w.heap.size w W0) := hide (by rw [← hW0]; exact (Below.refl _ _).alloc (Nat.le_refl _) _)
  have b0 : W0.heap[w.heap.size]? = some (.cells #[.pointer (some ⟨b, 0, none⟩)] 56 (0, 0)) := by rw [← hW0]; exact World.alloc_heap_new _ _
  have T := first_any W0 ao L cl w.heap.size b g c N X k (hide (hr.out.on HD.out)) hl (hide (cell_of b0 rfl)) (hide (hs.out.below HD.out)) hk hin hmin
  clear b0
  obtain ⟨ge, o, rfl, q0, q1, q2⟩ := hr.out k hk
  generalize L[k].2.2 = x3 at q2 ⊢
  have HQ := hide q2
  have k0 : (0 : Int) ≤ (k : Int) := by omega
  have k1 : (k : Int) < (L.length : Int) := by omega
  clear q0 q1 q2 hin hmin
  go_enter Tryz.func91, Tryz.ntmps91
  go_wp2_with (go_at_call 110; refine T.mono ?_; rintro e w1 ⟨rfl, d1⟩; have D1 := HD.out.trans (d1.mono HD.out.size); have z2 : w1.cell? ⟨ge, o + k * 3 + 2, none⟩ = some (.int .i64 x3) := (D1.cell (p := ⟨ge, o + k * 3 + 2, none⟩) (World.block_lt_of_cell? w _ HQ.out)).trans HQ.out)
  refine bodyPost_ret (results_tmp rfl _ _ _) rfl ?_
  exact ⟨rfl, D1⟩
end Go.Proofs.YtfoahpideglghaaGreatDoor
namespace Go.Proofs.YtfoahpideglghaaGreatDoor
open Go.RowKit Go.Maps Go.Shelf

/-! ### The least path, as states place by place -/
/-- Where the first edge into a set stands. -/
def frstE (X : Nat) (L : List EdT) : Nat := L.findIdx fun e => hasB X e.2.2
def nxtP (Es : List EdT) (X p : Nat) (y : Int) : Nat := ((fromL Es p y).getD (frstE X (fromL Es p y)) (0, 0, 0)).2.2.toNat
def stP (Es : List EdT) (F : Nat → Nat) (Wd : List Int) (p0 : Nat) : Nat → Nat
  | 0 => p0
  | i + 1 => nxtP Es (F (i + 1)) (stP Es F Wd p0 i) (Wd.getD i 0)
theorem frst_in {X : Nat} {L : List EdT} (h : ∃ e ∈ L, hasB X e.2.2 = true) : ∃ hk : frstE X L < L.length, hasB X L[frstE X L].2.2 = true ∧ ∀ t (h : t < L.length), t < frstE X L → hasB X L[t].2.2 = false := by
  have hk : frstE X L < L.length := List.findIdx_lt_length_of_exists (by obtain ⟨e, he, hv⟩ := h; exact ⟨e, he, hv⟩)
  refine ⟨hk, List.findIdx_getElem (p := fun e : EdT => hasB X e.2.2) (w := hk), fun t ht hlt => ?_⟩
  have := List.not_of_lt_findIdx (p := fun e : EdT => hasB X e.2.2) hlt
  simpa using this
theorem hasB_nat {X : Nat} {i : Int} (h : hasB X i = true) : 0 ≤ i ∧ X.testBit i.toNat = true := by
  unfold hasB at h
  simpa using h
/-- A place's set and the next one's hang together. -/
def Links (Es : List EdT) (F : Nat → Nat) (Wd : List Int) : Prop := ∀ j (_ : j < Wd.length) p, (F j).testBit p = true → ∃ e ∈ Es, e.1 = (p : Int) ∧ e.2.1 = Wd[j] ∧ hasB (F (j + 1)) e.2.2 = true
theorem Links.step {Es : List EdT} {F : Nat → Nat} {Wd : List Int} (h : Links Es F Wd) {p0 i : Nat} (hi : i < Wd.length) (hp : (F i).testBit (stP Es F Wd p0 i) = true) :
    ∃ hk : frstE (F (i + 1)) (fromL Es (stP Es F Wd p0 i) Wd[i]) < (fromL Es (stP Es F Wd p0 i) Wd[i]).length, hasB (F (i + 1)) (fromL Es (stP Es F Wd p0 i) Wd[i])[frstE (F (i + 1)) (fromL Es (stP Es F Wd p0 i) Wd[i])].2.2 = true ∧ (∀ t (h : t < (fromL Es (stP Es F Wd p0 i) Wd[i]).length), t < frstE (F (i + 1)) (fromL Es (stP Es F Wd p0 i) Wd[i]) → hasB (F (i + 1)) (fromL Es (stP Es F Wd p0 i) Wd[i])[t].2.2 = false) ∧ (fromL Es (stP Es F Wd p0 i) Wd[i])[frstE (F (i + 1)) (fromL Es (stP Es F Wd p0 i) Wd[i])].2.2 = ((stP Es F Wd p0 (i + 1) : Nat) : Int) ∧ (F (i + 1)).testBit (stP Es F Wd p0 (i + 1)) = true := by
  obtain ⟨e, he, h1, h2, h3⟩ := h i hi _ hp
  obtain ⟨hk, q1, q2⟩ := frst_in (X := F (i + 1)) (L := fromL Es (stP Es F Wd p0 i) Wd[i]) ⟨e, fromL_iff.2 ⟨he, h1, h2⟩, h3⟩
  have q3 := hasB_nat q1
  have e1 : Wd.getD i 0 = Wd[i] := by simp [List.getD, hi]
  have q4 : stP Es F Wd p0 (i + 1) = ((fromL Es (stP Es F Wd p0 i) Wd[i])[frstE (F (i + 1)) (fromL Es (stP Es F Wd p0 i) Wd[i])]).2.2.toNat := by
    show nxtP Es (F (i + 1)) (stP Es F Wd p0 i) (Wd.getD i 0) = _
    rw [e1]
    unfold nxtP
    rw [List.getD_eq_getElem?_getD, List.getElem?_eq_getElem hk]
    rfl
  refine ⟨hk, q1, q2, ?_, ?_⟩
  · rw [q4]; omega
  · rw [q4]; exact q3.2
theorem Links.all {Es : List EdT} {F : Nat → Nat} {Wd : List Int} (h : Links Es F Wd) {p0 : Nat} (h0 : (F 0).testBit p0 = true) : ∀ i, i ≤ Wd.length → (F i).testBit (stP Es F Wd p0 i) = true
  | 0, _ => h0
  | i + 1, hi => by
    have := h.step (p0 := p0) (i := i) (by omega) (Links.all h h0 i (by omega))
    obtain ⟨_, _, _, _, q⟩ := this
    exact q
theorem rest_links {Ed : List EdT} {N : Nat} (hi : ∀ x ∈ Ed, (0 ≤ x.1 ∧ x.1 < (N : Int)) ∧ 0 ≤ x.2.2 ∧ x.2.2 < (N : Int)) (F0 : Nat) (Wd : List Int) : Links (riseE Ed) (restF Ed F0 Wd) Wd := fun j hj p hp => by
  rw [restF_step Ed F0 Wd j hj, imgF_test] at hp
  obtain ⟨e, he, h1, h2, h3⟩ := hp
  refine ⟨e, (riseE_iff Ed e).2 he, ?_, h1, by simpa [ends] using h2⟩
  have h3 : e.1.toNat = p := by simpa [ends] using h3
  have := (hi e he).1.1
  omega
theorem imgF_lt {N X : Nat} {back : Bool} {y : Int} {L : List EdT} (hi : ∀ x ∈ L, (0 ≤ x.1 ∧ x.1 < (N : Int)) ∧ 0 ≤ x.2.2 ∧ x.2.2 < (N : Int)) {p : Nat} (h : (imgF back X y L).testBit p = true) : p < N := by
  rw [imgF_test] at h
  obtain ⟨e, he, _, _, h3⟩ := h
  have := hi e he
  cases back
  · have h3 : e.2.2.toNat = p := by simpa [ends] using h3
    omega
  · have h3 : e.1.toNat = p := by simpa [ends] using h3
    omega
theorem next_zero {N Z : Nat} (hZ : Z < 2 ^ N) (h : Z ≠ 0) : ∃ p : Nat, nextL (elems N Z) 0 = (p : Int) ∧ p < N ∧ Z.testBit p = true ∧ ∀ q, Z.testBit q = true → p ≤ q := by
  cases he : elems N Z with
  | nil =>
    exfalso
    apply h
    apply Nat.eq_of_testBit_eq
    intro q
    rw [Nat.zero_testBit]
    cases hq : Z.testBit q
    · rfl
    · have hqN : q < N := Nat.lt_of_not_le fun hle => by
        have := Nat.testBit_lt_two_pow (Nat.lt_of_lt_of_le hZ (Nat.pow_le_pow_right (by omega) hle))
        rw [this] at hq; cases hq
      have : q ∈ elems N Z := mem_elems.2 ⟨hqN, hq⟩
      rw [he] at this
      cases this
  | cons p l =>
    have hs := elems_sorted N Z
    have hp : p ∈ elems N Z := by rw [he]; simp
    rw [he] at hs
    refine ⟨p, by simp [nextL], (mem_elems.1 hp).1, (mem_elems.1 hp).2, fun q hq => ?_⟩
    have hqN : q < N := Nat.lt_of_not_le fun hle => by
      have := Nat.testBit_lt_two_pow (Nat.lt_of_lt_of_le hZ (Nat.pow_le_pow_right (by omega) hle))
      rw [this] at hq; cases hq
    have : q ∈ elems N Z := mem_elems.2 ⟨hqN, hq⟩
    rw [he] at this
    rcases List.mem_cons.1 this with rfl | h2
    · exact Nat.le_refl _
    · exact Nat.le_of_lt ((List.pairwise_cons.1 hs).1 q h2)
theorem elems_none (N : Nat) : nextL (elems N 0) 0 = -1 := nextL_none _ _ fun e he => by
  have := (mem_elems.1 he).2
  rw [Nat.zero_testBit] at this
  cases this
/-- The path as a list. -/
def pathF (Es : List EdT) (F : Nat → Nat) (Wd : List Int) (p0 k : Nat) : List Nat := (List.range k).map (stP Es F Wd p0)
theorem pathF_succ (Es : List EdT) (F : Nat → Nat) (Wd : List Int) (p0 k : Nat) : pathF Es F Wd p0 (k + 1) = pathF Es F Wd p0 k ++ [stP Es F Wd p0 k] := by
  unfold pathF; rw [List.range_succ, List.map_append]; rfl
theorem pathF_len (Es : List EdT) (F : Nat → Nat) (Wd : List Int) (p0 k : Nat) : (pathF Es F Wd p0 k).length = k := by simp [pathF]
theorem Wk.only {w w' : World} {N g3 k3 gf : Nat} {Es : List EdT} {R : Nat → Prop} (h : Wk w N g3 k3 gf Es) (o : Only w w' R) (h3 : ¬ R g3) (hf : ¬ R gf) : Wk w' N g3 k3 gf Es :=
  ⟨rdE_only h.e o (fun g o' e => by cases e; exact h3), h.k, h.f.only o hf, h.s, h.i, h.l, h.n⟩
/-- The rests stay where only a row of numbers is turned. -/
theorem RsA.row {w0 w w' : World} {R : Rp} {F : Nat → Nat} {rb blk gs pr : Nat} (h : RsA w0 R F rb blk gs w) (o : Only w w' (fun q => q = pr)) {cs : Array Value} {fr : Nat × Nat} (hp : w.heap[pr]? = some (.cells cs 3 fr)) (h0 : w0.heap.size ≤ pr) : RsA w0 R F rb blk gs w' := by
  have kd : ∀ q, q = pr → ∀ cs t fr, w.heap[q]? = some (.cells cs t fr) → t ≠ 97 ∧ t ≠ 99 := fun q hq cs t fr he => by
    subst hq
    rw [hp] at he
    cases he
    decide
  obtain ⟨lc, l1, l2⟩ := h.rs.lr
  obtain ⟨gc, hg⟩ := h.gr
  have n1 : rb ≠ pr := fun e => by rw [← e, h.rs.bx] at hp; cases hp
  have n2 : R.gl ≠ pr := fun e => by rw [← e, l1] at hp; cases hp
  have n3 : gs ≠ pr := fun e => by rw [← e, hg] at hp; cases hp
  have z1 := (Array.getElem?_eq_some_iff.1 h.rs.bx).1
  have z3 := (Array.getElem?_eq_some_iff.1 hg).1
  exact ⟨⟨(o.block _ z1 n1).trans h.rs.bx, h.rs.le, h.rs.be.trans (o.toBelow h.rs.be.size (fun q hq => by rw [hq]; exact h0)), lc, (o.block _ h.rs.glt n2).trans l1, l2⟩, h.bk, fun j h1 h2 => (h.pt j h1 h2).other o kd (cell_only o z3 n3), fun k hk => (h.la k hk).other o kd (cell_only o h.rs.glt n2), gc, (o.block _ z3 n3).trans hg⟩
end Go.Proofs.YtfoahpideglghaaGreatDoor
