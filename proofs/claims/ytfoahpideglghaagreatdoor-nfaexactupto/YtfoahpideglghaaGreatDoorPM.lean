import Derived.Test.YtfoahpideglghaaGreatDoorNr
namespace Go.Proofs.YtfoahpideglghaaGreatDoor
open Go.RowKit Go.Maps Go.Shelf
attribute [local go_sem] Oper.semAt_some

/-! ### The first edge into a set -/
set_option maxRecDepth 100000 in
set_option maxHeartbeats 1000000 in
theorem into_any (w : World) (x1 x2 x3 : Int) (cx b g c N X : Nat) (hc : w.cell? ⟨cx, 0, none⟩ = some (.pointer (some ⟨b, 0, none⟩))) (hs : Hid (IsSet w b g c N X)) :
    Calls Tryz.prog 111 #[.agg #[.int .i64 x1, .int .i64 x2, .int .i64 x3], .pointer (some ⟨cx, 0, none⟩)] w fun e w' => e = .returned (.bool (hasB X x3)) ∧ Below w.heap.size w w' := by
  obtain ⟨W0, hW0⟩ : ∃ W0, w.alloc (.cells #[.int .i64 x1, .int .i64 x2, .int .i64 x3] 59) = W0 := ⟨_, rfl⟩
  have HD : Hid (Below w.heap.size w W0) := hide (by rw [← hW0]; exact (Below.refl _ _).alloc (Nat.le_refl _) _)
  have b0 : W0.heap[w.heap.size]? = some (.cells #[.int .i64 x1, .int .i64 x2, .int .i64 x3] 59 (0, 0)) := by rw [← hW0]; exact World.alloc_heap_new _ _
  have y2 : W0.cell? ⟨w.heap.size, 2, none⟩ = some (.int .i64 x3) := cell_of b0 rfl
  have y1 : W0.cell? ⟨cx, 0, none⟩ = some (.pointer (some ⟨b, 0, none⟩)) := (HD.out.cell (p := ⟨cx, 0, none⟩) (World.block_lt_of_cell? w _ hc)).trans hc
  have T := has_any b g c N X x3 W0 (hs.out.below HD.out)
  clear b0 hc
  go_enter Tryz.func111, Tryz.ntmps111
  go_wp2_with (go_at_call 95; refine T.mono ?_; rintro e w1 ⟨rfl, q, rfl⟩)
  refine bodyPost_ret (results_tmp rfl _ _ _) rfl ?_
  exact ⟨rfl, below_drewN2 HD.out q⟩
set_option maxRecDepth 100000 in
set_option maxHeartbeats 1000000 in
theorem first_any (w : World) (ao : Option Addr) (L : List EdT) (cl cx b g c N X k : Nat) (hr : Hid (RdE w ao L)) (hl : L.length ≤ 4194304) (hc : Hid (w.cell? ⟨cx, 0, none⟩ = some (.pointer (some ⟨b, 0, none⟩)))) (hs : Hid (IsSet w b g c N X)) (hk : k < L.length) (hin : Hid (hasB X L[k].2.2 = true)) (hmin : Hid (∀ t (h : t < L.length), t < k → hasB X L[t].2.2 = false)) :
    Calls Tryz.prog 110 #[.slice ao L.length cl, .func (.func 111) #[] #[.pointer (some ⟨cx, 0, none⟩)]] w fun e w' => e = .returned (.int .i64 (k : Int)) ∧ Below w.heap.size w w' := by
  go_enter Tryz.func110, Tryz.ntmps110
  go_wp2
  go_loopw [8] (fun iv wr => ∃ i : Nat, i ≤ k ∧ iv = .int .i64 i ∧ Hid (Below w.heap.size w wr)) (fun iv _ => L.length - (intOf iv).toNat)
  case atStart => exact ⟨0, Nat.zero_le _, rfl, hide (Below.refl _ _)⟩
  case round =>
    obtain ⟨i, hi, rfl, HB⟩ := hrel
    have hil : i < L.length := by omega
    have l0 : (i : Int) < (L.length : Int) := by omega
    have l1 : (0 : Int) ≤ (i : Int) := by omega
    obtain ⟨ge, o, rfl, q0, q1, q2⟩ := (hr.out.on HB.out) i hil
    have hcw : wr.cell? ⟨cx, 0, none⟩ = some (.pointer (some ⟨b, 0, none⟩)) := (HB.out.cell (p := ⟨cx, 0, none⟩) (World.block_lt_of_cell? w _ hc.out)).trans hc.out
    by_cases e : i = k
    · subst e
      have hv := hin.out
      obtain ⟨x, hx⟩ : ∃ x, L[i] = x := ⟨_, rfl⟩
      rw [hx] at q0 q1 q2 hv
      obtain ⟨x1, x2, x3⟩ := x
      have T := into_any wr x1 x2 x3 cx b g c N X hcw (hide (hs.out.below HB.out))
      have hv : hasB X x3 = true := hv
      rw [hv] at T
      clear hx hv hcw
      simp only at q0 q1 q2
      go_wp2_with (go_at_call 111; refine T.mono ?_; rintro e w2 ⟨rfl, d2⟩)
      refine bodyPost_ret (results_tmp rfl _ _ _) rfl ?_
      exact ⟨rfl, HB.out.trans (d2.mono HB.out.size)⟩
    · have hv := hmin.out i hil (by omega)
      obtain ⟨x, hx⟩ : ∃ x, L[i] = x := ⟨_, rfl⟩
      rw [hx] at q0 q1 q2 hv
      obtain ⟨x1, x2, x3⟩ := x
      have T := into_any wr x1 x2 x3 cx b g c N X hcw (hide (hs.out.below HB.out))
      have hv : hasB X x3 = false := hv
      rw [hv] at T
      clear hx hv hcw
      simp only at q0 q1 q2
      go_wp2_with (go_at_call 111; refine T.mono ?_; rintro e w2 ⟨rfl, d2⟩)
      go_roundw
      case rel => exact ⟨i + 1, by omega, by go_num, hide (HB.out.trans (d2.mono HB.out.size))⟩
      case measure => simp [intOf]; omega
set_option maxRecDepth 100000 in
set_option maxHeartbeats 1000000 in
theorem leastNext_any (w : World) (ao : Option Addr) (L : List EdT) (cl b g c N X k : Nat) (hr : Hid (RdE w ao L)) (hl : L.length ≤ 4194304) (hs : Hid (IsSet w b g c N X)) (hk : k < L.length) (hin : Hid (hasB X L[k].2.2 = true)) (hmin : Hid (∀ t (h : t < L.length), t < k → hasB X L[t].2.2 = false)) :
    Calls Tryz.prog 91 #[.slice ao L.length cl, .pointer (some ⟨b, 0, none⟩)] w fun e w' => e = .returned (.int .i64 L[k].2.2) ∧ Below w.heap.size w w' := by
  obtain ⟨W0, hW0⟩ : ∃ W0, w.alloc (.cells #[.pointer (some ⟨b, 0, none⟩)] 56) = W0 := ⟨_, rfl⟩
  have HD : Hid (Below w.heap.size w W0) := hide (by rw [← hW0]; exact (Below.refl _ _).alloc (Nat.le_refl _) _)
  have b0 : W0.heap[w.heap.size]? = some (.cells #[.pointer (some ⟨b, 0, none⟩)] 56 (0, 0)) := by rw [← hW0]; exact World.alloc_heap_new _ _
  have T := first_any W0 ao L cl w.heap.size b g c N X k (hide (hr.out.on HD.out)) hl (hide (cell_of b0 rfl)) (hide (hs.out.below HD.out)) hk hin hmin
  clear b0
  obtain ⟨ge, o, rfl, q0, q1, q2⟩ := hr.out k hk
  generalize L[k].2.2 = x3 at q2 ⊢
  have HQ := hide q2
  have k0 : (0 : Int) ≤ (k : Int) := by omega
  have k1 : (k : Int) < (L.length : Int) := by omega
  clear q0 q1 q2 hin hmin
  go_enter Tryz.func91, Tryz.ntmps91
  go_wp2_with (go_at_call 110; refine T.mono ?_; rintro e w1 ⟨rfl, d1⟩; have D1 := HD.out.trans (d1.mono HD.out.size); have z2 : w1.cell? ⟨ge, o + k * 3 + 2, none⟩ = some (.int .i64 x3) := (D1.cell (p := ⟨ge, o + k * 3 + 2, none⟩) (World.block_lt_of_cell? w _ HQ.out)).trans HQ.out)
  refine bodyPost_ret (results_tmp rfl _ _ _) rfl ?_
  exact ⟨rfl, D1⟩
end Go.Proofs.YtfoahpideglghaaGreatDoor
namespace Go.Proofs.YtfoahpideglghaaGreatDoor
open Go.RowKit Go.Maps Go.Shelf

/-! ### The least path, as states place by place -/
/-- Where the first edge into a set stands. -/
def frstE (X : Nat) (L : List EdT) : Nat := L.findIdx fun e => hasB X e.2.2
def nxtP (Es : List EdT) (X p : Nat) (y : Int) : Nat := ((fromL Es p y).getD (frstE X (fromL Es p y)) (0, 0, 0)).2.2.toNat
def stP (Es : List EdT) (F : Nat → Nat) (Wd : List Int) (p0 : Nat) : Nat → Nat
  | 0 => p0
  | i + 1 => nxtP Es (F (i + 1)) (stP Es F Wd p0 i) (Wd.getD i 0)
theorem frst_in {X : Nat} {L : List EdT} (h : ∃ e ∈ L, hasB X e.2.2 = true) : ∃ hk : frstE X L < L.length, hasB X L[frstE X L].2.2 = true ∧ ∀ t (h : t < L.length), t < frstE X L → hasB X L[t].2.2 = false := by
  have hk : frstE X L < L.length := List.findIdx_lt_length_of_exists (by obtain ⟨e, he, hv⟩ := h; exact ⟨e, he, hv⟩)
  refine ⟨hk, List.findIdx_getElem (p := fun e : EdT => hasB X e.2.2) (w := hk), fun t ht hlt => ?_⟩
  have := List.not_of_lt_findIdx (p := fun e : EdT => hasB X e.2.2) hlt
  simpa using this
theorem hasB_nat {X : Nat} {i : Int} (h : hasB X i = true) : 0 ≤ i ∧ X.testBit i.toNat = true := by
  unfold hasB at h
  simpa using h
/-- A place's set and the next one's hang together. -/
def Links (Es : List EdT) (F : Nat → Nat) (Wd : List Int) : Prop := ∀ j (_ : j < Wd.length) p, (F j).testBit p = true → ∃ e ∈ Es, e.1 = (p : Int) ∧ e.2.1 = Wd[j] ∧ hasB (F (j + 1)) e.2.2 = true
theorem Links.step {Es : List EdT} {F : Nat → Nat} {Wd : List Int} (h : Links Es F Wd) {p0 i : Nat} (hi : i < Wd.length) (hp : (F i).testBit (stP Es F Wd p0 i) = true) :
    ∃ hk : frstE (F (i + 1)) (fromL Es (stP Es F Wd p0 i) Wd[i]) < (fromL Es (stP Es F Wd p0 i) Wd[i]).length, hasB (F (i + 1)) (fromL Es (stP Es F Wd p0 i) Wd[i])[frstE (F (i + 1)) (fromL Es (stP Es F Wd p0 i) Wd[i])].2.2 = true ∧ (∀ t (h : t < (fromL Es (stP Es F Wd p0 i) Wd[i]).length), t < frstE (F (i + 1)) (fromL Es (stP Es F Wd p0 i) Wd[i]) → hasB (F (i + 1)) (fromL Es (stP Es F Wd p0 i) Wd[i])[t].2.2 = false) ∧ (fromL Es (stP Es F Wd p0 i) Wd[i])[frstE (F (i + 1)) (fromL Es (stP Es F Wd p0 i) Wd[i])].2.2 = ((stP Es F Wd p0 (i + 1) : Nat) : Int) ∧ (F (i + 1)).testBit (stP Es F Wd p0 (i + 1)) = true := by
  obtain ⟨e, he, h1, h2, h3⟩ := h i hi _ hp
  obtain ⟨hk, q1, q2⟩ := frst_in (X := F (i + 1)) (L := fromL Es (stP Es F Wd p0 i) Wd[i]) ⟨e, fromL_iff.2 ⟨he, h1, h2⟩, h3⟩
  have q3 := hasB_nat q1
  have e1 : Wd.getD i 0 = Wd[i] := by simp [List.getD, hi]
  have q4 : stP Es F Wd p0 (i + 1) = ((fromL Es (stP Es F Wd p0 i) Wd[i])[frstE (F (i + 1)) (fromL Es (stP Es F Wd p0 i) Wd[i])]).2.2.toNat := by
    show nxtP Es (F (i + 1)) (stP Es F Wd p0 i) (Wd.getD i 0) = _
    rw [e1]
    unfold nxtP
    rw [List.getD_eq_getElem?_getD, List.getElem?_eq_getElem hk]
    rfl
  refine ⟨hk, q1, q2, ?_, ?_⟩
  · rw [q4]; omega
  · rw [q4]; exact q3.2
theorem Links.all {Es : List EdT} {F : Nat → Nat} {Wd : List Int} (h : Links Es F Wd) {p0 : Nat} (h0 : (F 0).testBit p0 = true) : ∀ i, i ≤ Wd.length → (F i).testBit (stP Es F Wd p0 i) = true
  | 0, _ => h0
  | i + 1, hi => by
    have := h.step (p0 := p0) (i := i) (by omega) (Links.all h h0 i (by omega))
    obtain ⟨_, _, _, _, q⟩ := this
    exact q
theorem rest_links {Ed : List EdT} {N : Nat} (hi : ∀ x ∈ Ed, (0 ≤ x.1 ∧ x.1 < (N : Int)) ∧ 0 ≤ x.2.2 ∧ x.2.2 < (N : Int)) (F0 : Nat) (Wd : List Int) : Links (riseE Ed) (restF Ed F0 Wd) Wd := fun j hj p hp => by
  rw [restF_step Ed F0 Wd j hj, imgF_test] at hp
  obtain ⟨e, he, h1, h2, h3⟩ := hp
  refine ⟨e, (riseE_iff Ed e).2 he, ?_, h1, by simpa [ends] using h2⟩
  have h3 : e.1.toNat = p := by simpa [ends] using h3
  have := (hi e he).1.1
  omega
theorem next_zero {N Z : Nat} (hZ : Z < 2 ^ N) (h : Z ≠ 0) : ∃ p : Nat, nextL (elems N Z) 0 = (p : Int) ∧ p < N ∧ Z.testBit p = true ∧ ∀ q, Z.testBit q = true → p ≤ q := by
  cases he : elems N Z with
  | nil =>
    exfalso
    apply h
    apply Nat.eq_of_testBit_eq
    intro q
    rw [Nat.zero_testBit]
    cases hq : Z.testBit q
    · rfl
    · have hqN : q < N := Nat.lt_of_not_le fun hle => by
        have := Nat.testBit_lt_two_pow (Nat.lt_of_lt_of_le hZ (Nat.pow_le_pow_right (by omega) hle))
        rw [this] at hq; cases hq
      have : q ∈ elems N Z := mem_elems.2 ⟨hqN, hq⟩
      rw [he] at this
      cases this
  | cons p l =>
    have hs := elems_sorted N Z
    have hp : p ∈ elems N Z := by rw [he]; simp
    rw [he] at hs
    refine ⟨p, by simp [nextL], (mem_elems.1 hp).1, (mem_elems.1 hp).2, fun q hq => ?_⟩
    have hqN : q < N := Nat.lt_of_not_le fun hle => by
      have := Nat.testBit_lt_two_pow (Nat.lt_of_lt_of_le hZ (Nat.pow_le_pow_right (by omega) hle))
      rw [this] at hq; cases hq
    have : q ∈ elems N Z := mem_elems.2 ⟨hqN, hq⟩
    rw [he] at this
    rcases List.mem_cons.1 this with rfl | h2
    · exact Nat.le_refl _
    · exact Nat.le_of_lt ((List.pairwise_cons.1 hs).1 q h2)
theorem elems_none (N : Nat) : nextL (elems N 0) 0 = -1 := nextL_none _ _ fun e he => by
  have := (mem_elems.1 he).2
  rw [Nat.zero_testBit] at this
  cases this
/-- The path as a list. -/
def pathF (Es : List EdT) (F : Nat → Nat) (Wd : List Int) (p0 k : Nat) : List Nat := (List.range k).map (stP Es F Wd p0)
theorem pathF_succ (Es : List EdT) (F : Nat → Nat) (Wd : List Int) (p0 k : Nat) : pathF Es F Wd p0 (k + 1) = pathF Es F Wd p0 k ++ [stP Es F Wd p0 k] := by
  unfold pathF; rw [List.range_succ, List.map_append]; rfl
theorem pathF_len (Es : List EdT) (F : Nat → Nat) (Wd : List Int) (p0 k : Nat) : (pathF Es F Wd p0 k).length = k := by simp [pathF]
theorem Wk.only {w w' : World} {N g3 k3 gf : Nat} {Es : List EdT} {R : Nat → Prop} (h : Wk w N g3 k3 gf Es) (o : Only w w' R) (h3 : ¬ R g3) (hf : ¬ R gf) : Wk w' N g3 k3 gf Es :=
  ⟨rdE_only h.e o (fun g o' e => by cases e; exact h3), h.k, h.f.only o hf, h.s, h.i, h.l, h.n⟩
/-- The rests stay where only a row of numbers is turned. -/
theorem RsA.row {w0 w w' : World} {R : Rp} {F : Nat → Nat} {rb blk gs pr : Nat} (h : RsA w0 R F rb blk gs w) (o : Only w w' (fun q => q = pr)) {cs : Array Value} {fr : Nat × Nat} (hp : w.heap[pr]? = some (.cells cs 3 fr)) (h0 : w0.heap.size ≤ pr) : RsA w0 R F rb blk gs w' := by
  have kd : ∀ q, q = pr → ∀ cs t fr, w.heap[q]? = some (.cells cs t fr) → t ≠ 97 ∧ t ≠ 99 := fun q hq cs t fr he => by
    subst hq
    rw [hp] at he
    cases he
    decide
  obtain ⟨lc, l1, l2⟩ := h.rs.lr
  obtain ⟨gc, hg⟩ := h.gr
  have n1 : rb ≠ pr := fun e => by rw [← e, h.rs.bx] at hp; cases hp
  have n2 : R.gl ≠ pr := fun e => by rw [← e, l1] at hp; cases hp
  have n3 : gs ≠ pr := fun e => by rw [← e, hg] at hp; cases hp
  have z1 := (Array.getElem?_eq_some_iff.1 h.rs.bx).1
  have z3 := (Array.getElem?_eq_some_iff.1 hg).1
  exact ⟨⟨(o.block _ z1 n1).trans h.rs.bx, h.rs.le, h.rs.be.trans (o.toBelow h.rs.be.size (fun q hq => by rw [hq]; exact h0)), lc, (o.block _ h.rs.glt n2).trans l1, l2⟩, h.bk, fun j h1 h2 => (h.pt j h1 h2).other o kd (cell_only o z3 n3), fun k hk => (h.la k hk).other o kd (cell_only o h.rs.glt n2), gc, (o.block _ z3 n3).trans hg⟩
end Go.Proofs.YtfoahpideglghaaGreatDoor
namespace Go.Proofs.YtfoahpideglghaaGreatDoor
open Go.RowKit Go.Maps Go.Shelf
attribute [local go_sem] Oper.semAt_some

/-! ### The least path -/
theorem below_eqN {w w' : World} {q : Nat} (h : w' = w.drewN q) : Below w.heap.size w w' := by rw [h]; exact below_drewN2 (Below.refl _ _) q
set_option maxRecDepth 100000 in
set_option maxHeartbeats 2000000 in
theorem leastPath_none (w : World) (N : Nat) (m : Int) (a1 a2 a3 aw : Option Addr) (c1 c2 c3 cw : Nat) (St Fi : List Int) (Ed : List EdT) (Wd : List Int) (hA : Hid (RdA w a1 a2 a3 St Fi Ed)) (hWd : Hid (RdN w aw Wd)) (hT : Hid (TabAt w ∧ 0 < w.heap.size)) (h1 : St.length ≤ 4194304) (h2 : Fi.length ≤ 4194304) (h3 : Ed.length ≤ 4194304) (hw : Wd.length ≤ 4194304) (em : Hid (mayA N m St Fi Ed = true)) (hz : setI N St &&& restF Ed (setI N Fi) Wd 0 = 0) :
    Calls Tryz.prog 55 #[.agg #[.int .i64 (N : Int), .int .i64 m, .slice a1 St.length c1, .slice a2 Fi.length c2, .slice a3 Ed.length c3], .slice aw Wd.length cw] w fun e w' => e = .returned (.slice none 0 0) ∧ Below w.heap.size w w' := by
  have hN : N ≤ 4096 := by have := (may_parts em.out).1; omega
  obtain ⟨W0, hW0⟩ : ∃ W0, w.alloc (.cells #[.int .i64 (N : Int), .int .i64 m, .slice a1 St.length c1, .slice a2 Fi.length c2, .slice a3 Ed.length c3] 25) = W0 := ⟨_, rfl⟩
  have d0 : Below w.heap.size w W0 := by rw [← hW0]; exact (Below.refl _ _).alloc (Nat.le_refl _) _
  have B0 : W0.heap[w.heap.size]? = some (.cells #[.int .i64 (N : Int), .int .i64 m, .slice a1 St.length c1, .slice a2 Fi.length c2, .slice a3 Ed.length c3] 25 (0, 0)) := by rw [← hW0]; exact World.alloc_heap_new _ _
  have y0 : W0.cell? ⟨w.heap.size, 0, none⟩ = some (.int .i64 (N : Int)) := cell_of B0 rfl
  have y1 : W0.cell? ⟨w.heap.size, 1, none⟩ = some (.int .i64 m) := cell_of B0 rfl
  have y2 : W0.cell? ⟨w.heap.size, 2, none⟩ = some (.slice a1 St.length c1) := cell_of B0 rfl
  have y3 : W0.cell? ⟨w.heap.size, 3, none⟩ = some (.slice a2 Fi.length c2) := cell_of B0 rfl
  have y4 : W0.cell? ⟨w.heap.size, 4, none⟩ = some (.slice a3 Ed.length c3) := cell_of B0 rfl
  have HD := hide (And.intro d0 B0)
  have TR := newRests_any W0 N m a1 a2 a3 aw c1 c2 c3 cw St Fi Ed Wd (hide (hA.out.on d0)) (hide (hWd.out.on d0)) (hide ⟨hT.out.1.below d0 hT.out.2, Nat.lt_of_lt_of_le hT.out.2 d0.size⟩) h1 h2 h3 hw em
  obtain ⟨F, hF⟩ : ∃ F, restF Ed (setI N Fi) Wd = F := ⟨_, rfl⟩
  rw [hF] at TR
  obtain ⟨X0, hX0⟩ : ∃ X0, setI N St = X0 := ⟨_, rfl⟩
  have HF := hide hF
  have HX0 := hide hX0
  clear d0 B0 hF hX0
  go_enter Tryz.func55, Tryz.ntmps55
  go_upto_region 2 with (go_at_call 87; refine TR.mono ?_; rintro e w1 ⟨rb, R, w0, gs, rfl, hR, d1⟩)
  have D1 : Hid (Below w.heap.size w w1) := hide (HD.out.1.trans (d1.mono HD.out.1.size))
  have B1 := blk_on HD.out.2 d1
  have HB1 := hide B1
  clear y0 y1 y2 y3 y4 TR d1
  have y0 : w1.cell? ⟨w.heap.size, 0, none⟩ = some (.int .i64 (N : Int)) := cell_of B1 rfl
  have y1 : w1.cell? ⟨w.heap.size, 1, none⟩ = some (.int .i64 m) := cell_of B1 rfl
  have y2 : w1.cell? ⟨w.heap.size, 2, none⟩ = some (.slice a1 St.length c1) := cell_of B1 rfl
  have y3 : w1.cell? ⟨w.heap.size, 3, none⟩ = some (.slice a2 Fi.length c2) := cell_of B1 rfl
  have y4 : w1.cell? ⟨w.heap.size, 4, none⟩ = some (.slice a3 Ed.length c3) := cell_of B1 rfl
  clear B1
  have T54 := setOf_any w1 N m a1 a2 a3 a1 St.length Fi.length Ed.length c1 c2 c3 c1 St (hide (hA.out.s.on D1.out)) h1 hN (hide (may_parts em.out).2.2.2.1)
  rw [HX0.out] at T54
  go_upto_region 3 with (go_at_call 54; refine T54.mono ?_; rintro e w2 ⟨b1, g1, k1, rfl, hs2, hb2, hg2, hbg2, d2⟩)
  obtain ⟨b2, g2, k2, hc2, hs3, hbg3⟩ := hR.out.2.1.pt 0 (by simp) (Nat.zero_le _)
  have hc2 : w1.cell? ⟨gs, 0, none⟩ = some (.pointer (some ⟨b2, 0, none⟩)) := by simpa using hc2
  rw [hR.out.2.2.1] at hs3
  have T89 := at_here w0 w2 R rb gs b2 (endB R 0 - 0 * R.wd) (hide (hR.out.2.1.rs.on d2)) hR.out.1.w1 hR.out.1.w2 ((d2.cell (p := ⟨gs, 0, none⟩) (World.block_lt_of_cell? w1 _ hc2)).trans hc2)
  have H2 := hide (And.intro hs2 (And.intro (hs3.below d2) (And.intro hbg2 (And.intro (show b2 ≠ g1 by have := hs3.blt; omega) (And.intro (show g2 ≠ g1 by have := hs3.glt; omega) (And.intro d2 hg2))))))
  clear y0 y1 y2 y3 y4 T54 hs2 hb2 hg2 hbg2 d2 hc2 hs3 hbg3
  go_upto_region 4 with (first
    | (go_at_call 89; refine T89.mono ?_; rintro e w3 ⟨rfl, q3, hw3⟩; have d3 := below_eqN hw3; clear hw3)
    | (go_at_call 88; refine (cut_g b1 g1 k1 N X0 b2 g2 k2 (F 0) w3 (H2.out.1.below d3) (H2.out.2.1.below d3) H2.out.2.2.1 H2.out.2.2.2.1 H2.out.2.2.2.2.1).mono ?_; rintro e w4 ⟨rfl, hs4, hg4⟩))
  have D4 : Hid (Below w1.heap.size w1 w4) := hide (by
    have dd := H2.out.2.2.2.2.2.1.trans (d3.mono H2.out.2.2.2.2.2.1.size)
    exact dd.grown hg4 dd.size (fun k hk => by cases hk; exact H2.out.2.2.2.2.2.2))
  have HT4 : Hid (TabAt w4) := hide (hT.out.1.below (D1.out.trans (D4.out.mono D1.out.size)) hT.out.2)
  have TN := next_any b1 g1 k1 N (X0 &&& F 0) 0 w4 hs4 HT4.out
  have HZ := hide hs4.hX
  clear T89 H2 d3 hs4 hg4
  rw [HF.out, HX0.out] at hz
  rw [hz, elems_none] at TN
  go_wp2_with (go_at_call 90; refine TN.mono ?_; rintro e w5 ⟨rfl, q5, hw5⟩)
  refine bodyPost_ret (results_tmp rfl _ _ _) rfl ?_
  exact ⟨rfl, below_drewN2 (D1.out.trans (D4.out.mono D1.out.size)) q5⟩
/-- What leastPath holds in its loop. -/
structure LpI (w w0 : World) (R : Rp) (F : Nat → Nat) (N rb wb f3 j3 ff : Nat) (Es : List EdT) (bc : Array Value) (B : Nat) (P : List Nat) (pg pc : Nat) (wr : World) : Prop where
  ra : ∃ blk gs, RsA w0 R F rb blk gs wr
  wk : Wk wr N f3 j3 ff Es
  bx : wr.heap[wb]? = some (.cells bc 80 (0, 0))
  rw : wr.ownsRow B 3 1 (.slice (some ⟨pg, 0, none⟩) P.length pc) P.length (intV P)
  be : Below w.heap.size w wr
theorem own_three {W : World} {B g c n : Nat} {xs : List Value} (h : W.ownsRow B 3 1 (.slice (some ⟨g, 0, none⟩) n c) n xs) : ∃ cur, W.heap[g]? = some (.cells cur 3 (0, 0)) := by
  rcases h.2 with ⟨hv, _⟩ | ⟨g', cap', cur, hv, _, hg, _⟩
  · cases hv
  · cases hv; exact ⟨cur, hg⟩
theorem LpI.on {w w0 : World} {R : Rp} {F : Nat → Nat} {N rb wb f3 j3 ff : Nat} {Es : List EdT} {bc : Array Value} {B : Nat} {P : List Nat} {pg pc : Nat} {W W' : World} (h : LpI w w0 R F N rb wb f3 j3 ff Es bc B P pg pc W) (d : Below W.heap.size W W') : LpI w w0 R F N rb wb f3 j3 ff Es bc B P pg pc W' := by
  obtain ⟨blk, gs, hr⟩ := h.ra
  exact ⟨⟨blk, gs, hr.on d⟩, h.wk.on d, blk_on h.bx d, own_on h.rw d (own_at h.rw).2, h.be.trans (d.mono h.be.size)⟩
theorem LpI.app {w w0 : World} {R : Rp} {F : Nat → Nat} {N rb wb f3 j3 ff : Nat} {Es : List EdT} {bc : Array Value} {B : Nat} {P : List Nat} {pg pc g c p : Nat} {W W1 w' : World} (h : LpI w w0 R F N rb wb f3 j3 ff Es bc B P pg pc W) (hB : f3 < B ∧ ff < B ∧ wb < B ∧ w0.heap.size ≤ B ∧ w.heap.size ≤ B) (d : Below W.heap.size W W1) (hg : W1.grownBy w' (some pg)) (ho : w'.ownsRow B 3 1 (.slice (some ⟨g, 0, none⟩) (P.length + 1) c) (P.length + 1) (intV P ++ [.int .i64 (p : Int)])) : LpI w w0 R F N rb wb f3 j3 ff Es bc B (P ++ [p]) g c w' := by
  have h1 := h.on d
  have o : Only W1 w' (fun q => q = pg) := ⟨hg.os, hg.tape, hg.output, hg.size, fun k hk hne => hg.block k hk (fun e => hne (by cases e; rfl))⟩
  obtain ⟨cur, hc⟩ := own_three h1.rw
  obtain ⟨blk, gs, hr⟩ := h1.ra
  have hp := (own_at h1.rw).1
  refine ⟨⟨blk, gs, hr.row o hc (by omega)⟩, h1.wk.only o (by omega) (by omega), (o.block _ (Array.getElem?_eq_some_iff.1 h1.bx).1 (by omega)).trans h1.bx, ?_, h1.be.trans (o.toBelow h1.be.size (fun q hq => by omega))⟩
  have e1 : (P ++ [p]).length = P.length + 1 := by simp
  have e2 : intV P ++ [.int .i64 (p : Int)] = intV (P ++ [p]) := by simp [intV]
  rw [e1, ← e2]
  exact ho
theorem LpI.at {w w0 : World} {R : Rp} {F : Nat → Nat} {N rb wb f3 j3 ff : Nat} {Es : List EdT} {bc : Array Value} {B : Nat} {P : List Nat} {pg pc : Nat} {W W' : World} (h : LpI w w0 R F N rb wb f3 j3 ff Es bc B P pg pc W) (hB : rb ≠ f3 ∧ rb ≠ ff ∧ rb ≠ wb ∧ rb < B ∧ w.heap.size ≤ rb) (o : Only W W' (fun q => q = rb)) (hr : ∃ blk gs, RsA w0 R F rb blk gs W') : LpI w w0 R F N rb wb f3 j3 ff Es bc B P pg pc W' := by
  have hp := (own_at h.rw).1
  exact ⟨hr, h.wk.only o (fun e => hB.1 e.symm) (fun e => hB.2.1 e.symm), (o.block _ (Array.getElem?_eq_some_iff.1 h.bx).1 (fun e => hB.2.2.1 e.symm)).trans h.bx, own_only h.rw o (by omega), h.be.trans (o.toBelow h.be.size (fun q hq => by omega))⟩
set_option maxRecDepth 100000 in
set_option maxHeartbeats 4000000 in
theorem leastPath_some (w : World) (N : Nat) (m : Int) (a1 a2 a3 aw : Option Addr) (c1 c2 c3 cw : Nat) (St Fi : List Int) (Ed : List EdT) (Wd : List Int) (hA : Hid (RdA w a1 a2 a3 St Fi Ed)) (hWd : Hid (RdN w aw Wd)) (hT : Hid (TabAt w ∧ 0 < w.heap.size)) (h1 : St.length ≤ 4194304) (h2 : Fi.length ≤ 4194304) (h3 : Ed.length ≤ 4194304) (hw : Wd.length ≤ 4194304) (em : Hid (mayA N m St Fi Ed = true)) (p0 : Nat) (hz : Hid (setI N St &&& restF Ed (setI N Fi) Wd 0 ≠ 0)) (hp0 : nextL (elems N (setI N St &&& restF Ed (setI N Fi) Wd 0)) 0 = (p0 : Int)) :
    Calls Tryz.prog 55 #[.agg #[.int .i64 (N : Int), .int .i64 m, .slice a1 St.length c1, .slice a2 Fi.length c2, .slice a3 Ed.length c3], .slice aw Wd.length cw] w fun e w' => ∃ g c, e = .returned (.slice (some ⟨g, 0, none⟩) (Wd.length + 1) c) ∧ Hid (w'.ownsRow w.heap.size 3 1 (.slice (some ⟨g, 0, none⟩) (Wd.length + 1) c) (Wd.length + 1) (intV (pathF (riseE Ed) (restF Ed (setI N Fi) Wd) Wd p0 (Wd.length + 1)))) ∧ Below w.heap.size w w' := by
  have HIN := hide (may_in em.out)
  have HLK := hide (rest_links HIN.out (setI N Fi) Wd)
  have hN : N ≤ 4096 := by have := (may_parts em.out).1; omega
  obtain ⟨W0, hW0⟩ : ∃ W0, w.alloc (.cells #[.int .i64 (N : Int), .int .i64 m, .slice a1 St.length c1, .slice a2 Fi.length c2, .slice a3 Ed.length c3] 25) = W0 := ⟨_, rfl⟩
  have d0 : Below w.heap.size w W0 := by rw [← hW0]; exact (Below.refl _ _).alloc (Nat.le_refl _) _
  have B0 : W0.heap[w.heap.size]? = some (.cells #[.int .i64 (N : Int), .int .i64 m, .slice a1 St.length c1, .slice a2 Fi.length c2, .slice a3 Ed.length c3] 25 (0, 0)) := by rw [← hW0]; exact World.alloc_heap_new _ _
  have y0 : W0.cell? ⟨w.heap.size, 0, none⟩ = some (.int .i64 (N : Int)) := cell_of B0 rfl
  have y1 : W0.cell? ⟨w.heap.size, 1, none⟩ = some (.int .i64 m) := cell_of B0 rfl
  have y2 : W0.cell? ⟨w.heap.size, 2, none⟩ = some (.slice a1 St.length c1) := cell_of B0 rfl
  have y3 : W0.cell? ⟨w.heap.size, 3, none⟩ = some (.slice a2 Fi.length c2) := cell_of B0 rfl
  have y4 : W0.cell? ⟨w.heap.size, 4, none⟩ = some (.slice a3 Ed.length c3) := cell_of B0 rfl
  have HD := hide (And.intro d0 B0)
  have TR := newRests_any W0 N m a1 a2 a3 aw c1 c2 c3 cw St Fi Ed Wd (hide (hA.out.on d0)) (hide (hWd.out.on d0)) (hide ⟨hT.out.1.below d0 hT.out.2, Nat.lt_of_lt_of_le hT.out.2 d0.size⟩) h1 h2 h3 hw em
  obtain ⟨F, hF⟩ : ∃ F, restF Ed (setI N Fi) Wd = F := ⟨_, rfl⟩
  rw [hF] at TR
  obtain ⟨X0, hX0⟩ : ∃ X0, setI N St = X0 := ⟨_, rfl⟩
  have HF := hide hF
  have HX0 := hide hX0
  clear d0 B0 hF hX0
  go_enter Tryz.func55, Tryz.ntmps55
  go_upto_region 2 with (go_at_call 87; refine TR.mono ?_; rintro e w1 ⟨rb, R, w0, gs, rfl, hR, d1⟩)
  have D1 : Hid (Below w.heap.size w w1) := hide (HD.out.1.trans (d1.mono HD.out.1.size))
  have B1 := blk_on HD.out.2 d1
  have HB1 := hide B1
  clear y0 y1 y2 y3 y4 TR d1
  have y0 : w1.cell? ⟨w.heap.size, 0, none⟩ = some (.int .i64 (N : Int)) := cell_of B1 rfl
  have y1 : w1.cell? ⟨w.heap.size, 1, none⟩ = some (.int .i64 m) := cell_of B1 rfl
  have y2 : w1.cell? ⟨w.heap.size, 2, none⟩ = some (.slice a1 St.length c1) := cell_of B1 rfl
  have y3 : w1.cell? ⟨w.heap.size, 3, none⟩ = some (.slice a2 Fi.length c2) := cell_of B1 rfl
  have y4 : w1.cell? ⟨w.heap.size, 4, none⟩ = some (.slice a3 Ed.length c3) := cell_of B1 rfl
  clear B1
  have T54 := setOf_any w1 N m a1 a2 a3 a1 St.length Fi.length Ed.length c1 c2 c3 c1 St (hide (hA.out.s.on D1.out)) h1 hN (hide (may_parts em.out).2.2.2.1)
  rw [HX0.out] at T54
  go_upto_region 3 with (go_at_call 54; refine T54.mono ?_; rintro e w2 ⟨b1, g1, k1, rfl, hs2, hb2, hg2, hbg2, d2⟩)
  obtain ⟨b2, g2, k2, hc2, hs3, hbg3⟩ := hR.out.2.1.pt 0 (by simp) (Nat.zero_le _)
  have hc2 : w1.cell? ⟨gs, 0, none⟩ = some (.pointer (some ⟨b2, 0, none⟩)) := by simpa using hc2
  rw [hR.out.2.2.1] at hs3
  have T89 := at_here w0 w2 R rb gs b2 (endB R 0 - 0 * R.wd) (hide (hR.out.2.1.rs.on d2)) hR.out.1.w1 hR.out.1.w2 ((d2.cell (p := ⟨gs, 0, none⟩) (World.block_lt_of_cell? w1 _ hc2)).trans hc2)
  have H2 := hide (And.intro hs2 (And.intro (hs3.below d2) (And.intro hbg2 (And.intro (show b2 ≠ g1 by have := hs3.blt; omega) (And.intro (show g2 ≠ g1 by have := hs3.glt; omega) (And.intro d2 hg2))))))
  clear y0 y1 y2 y3 y4 T54 hs2 hb2 hg2 hbg2 d2 hc2 hs3 hbg3
  go_upto_region 4 with (first
    | (go_at_call 89; refine T89.mono ?_; rintro e w3 ⟨rfl, q3, hw3⟩; have d3 := below_eqN hw3; clear hw3)
    | (go_at_call 88; refine (cut_g b1 g1 k1 N X0 b2 g2 k2 (F 0) w3 (H2.out.1.below d3) (H2.out.2.1.below d3) H2.out.2.2.1 H2.out.2.2.2.1 H2.out.2.2.2.2.1).mono ?_; rintro e w4 ⟨rfl, hs4, hg4⟩))
  have D4 : Hid (Below w1.heap.size w1 w4) := hide (by
    have dd := H2.out.2.2.2.2.2.1.trans (d3.mono H2.out.2.2.2.2.2.1.size)
    exact dd.grown hg4 dd.size (fun k hk => by cases hk; exact H2.out.2.2.2.2.2.2))
  have HT4 : Hid (TabAt w4) := hide (hT.out.1.below (D1.out.trans (D4.out.mono D1.out.size)) hT.out.2)
  have TN := next_any b1 g1 k1 N (X0 &&& F 0) 0 w4 hs4 HT4.out
  have HZ := hide hs4.hX
  clear T89 H2 d3 hs4 hg4
  rw [HF.out, HX0.out] at hp0
  rw [hp0] at TN
  have hp1 : ¬ (p0 : Int) < 0 := by omega
  rw [HF.out] at HLK
  have HP0 : Hid ((F 0).testBit p0 = true) := hide (by
    have hz2 := hz.out
    rw [HF.out, HX0.out] at hz2
    obtain ⟨p, e1, _, e2, _⟩ := next_zero HZ.out hz2
    have : p = p0 := by rw [e1] at hp0; omega
    subst this
    rw [Nat.testBit_and] at e2
    simp only [Bool.and_eq_true] at e2
    exact e2.2)
  have HALL := hide (HLK.out.all HP0.out)
  clear hp0 HP0 hz
  go_upto_region 7 with (go_at_call 90; refine TN.mono ?_; rintro e w5 ⟨rfl, q5, hw5⟩; have d5 := below_eqN hw5; clear hw5)
  have D5 : Hid (Below w1.heap.size w1 w5) := hide (D4.out.trans (d5.mono D4.out.size))
  clear TN HT4 D4 d5 HZ
  have B5 := blk_on HB1.out D5.out
  have y0 : w5.cell? ⟨w.heap.size, 0, none⟩ = some (.int .i64 (N : Int)) := cell_of B5 rfl
  have y1 : w5.cell? ⟨w.heap.size, 1, none⟩ = some (.int .i64 m) := cell_of B5 rfl
  have y2 : w5.cell? ⟨w.heap.size, 2, none⟩ = some (.slice a1 St.length c1) := cell_of B5 rfl
  have y3 : w5.cell? ⟨w.heap.size, 3, none⟩ = some (.slice a2 Fi.length c2) := cell_of B5 rfl
  have y4 : w5.cell? ⟨w.heap.size, 4, none⟩ = some (.slice a3 Ed.length c3) := cell_of B5 rfl
  clear B5
  have DW : Hid (Below w.heap.size w w5) := hide (D1.out.trans (D5.out.mono D1.out.size))
  have TO := inOrder_any w5 N m a1 a2 a3 c1 c2 c3 St Fi Ed (hide (hA.out.on DW.out)) h1 h2 h3
  have HFr : Hid (∀ e ∈ riseE Ed, 0 ≤ e.1 ∧ e.1 < (N : Int)) := hide (fun e he => (HIN.out e ((riseE_iff Ed e).1 he)).1)
  have hl3 : (riseE Ed).length ≤ 4194304 := Nat.le_trans (riseE_len Ed) h3
  have WK := hide (fun (w1 w2 : World) (g1 k1 g2 k2 g3 k3 gf B : Nat) (S F : List Int) => wk_of (N := N) (w := w1) (w' := w2) (g1 := g1) (k1 := k1) (g2 := g2) (k2 := k2) (g3 := g3) (k3 := k3) (gf := gf) (B := B) (S := S) (F := F) (Ed := Ed))
  obtain ⟨Es, hEs⟩ : ∃ Es, riseE Ed = Es := ⟨_, rfl⟩
  rw [hEs] at TO HFr hl3 WK HLK HALL
  have HES := hide hEs
  clear hEs
  go_upto_region 8 with (first
    | (go_at_call 62; refine TO.mono ?_; rintro e w6 ⟨f1, j1, f2, j2, f3, j3, rfl, hO, d6⟩; have TW := newWalk_any w6 N m (some ⟨f1, 0, none⟩) (some ⟨f2, 0, none⟩) (some ⟨f3, 0, none⟩) (riseL St).length (riseL Fi).length j1 j2 j3 Es hN (hide (rdE_own hO.e)) hl3 HFr)
    | (go_at_call 85; refine TW.mono ?_; rintro e w7 ⟨ff, rfl, hM, hff, d7⟩))
  obtain ⟨w8, hw8⟩ : ∃ w8, w7.alloc (.cells #[.int .i64 (N : Int), .int .i64 m, .slice (some ⟨f1, 0, none⟩) (riseL St).length j1, .slice (some ⟨f2, 0, none⟩) (riseL Fi).length j2, .slice (some ⟨f3, 0, none⟩) Es.length j3, .slice (some ⟨ff, 0, none⟩) (N + 1) (N + 1)] 80) = w8 := ⟨_, rfl⟩
  rw [hw8]
  have d8 : Below w7.heap.size w7 w8 := by rw [← hw8]; exact (Below.refl _ _).alloc (Nat.le_refl _) _
  have b8 : w8.heap[w7.heap.size]? = some (.cells #[.int .i64 (N : Int), .int .i64 m, .slice (some ⟨f1, 0, none⟩) (riseL St).length j1, .slice (some ⟨f2, 0, none⟩) (riseL Fi).length j2, .slice (some ⟨f3, 0, none⟩) Es.length j3, .slice (some ⟨ff, 0, none⟩) (N + 1) (N + 1)] 80 (0, 0)) := by rw [← hw8]; exact World.alloc_heap_new _ _
  have D58 : Below w5.heap.size w5 w8 := (d6.trans (d7.mono d6.size)).trans (d8.mono (Nat.le_trans d6.size d7.size))
  have hf3 : w1.heap.size ≤ f3 := Nat.le_trans D5.out.size (own_at hO.e).1
  have hff2 : w1.heap.size ≤ ff := Nat.le_trans D5.out.size (Nat.le_trans d6.size hff)
  have hwb : w1.heap.size ≤ w7.heap.size := Nat.le_trans D5.out.size (Nat.le_trans d6.size d7.size)
  have H8 := hide (And.intro ((WK.out w6 w7 f1 j1 f2 j2 f3 j3 ff _ _ _ hO d7 hM HIN.out h3 hN).on d8) (And.intro b8 (D5.out.trans (D58.mono D5.out.size))))
  have H8f : f3 < w8.heap.size ∧ ff < w8.heap.size ∧ w7.heap.size < w8.heap.size := ⟨Nat.lt_of_lt_of_le (own_at hO.e).2 (Nat.le_trans d7.size d8.size), Nat.lt_of_lt_of_le hM.lt d8.size, (Array.getElem?_eq_some_iff.1 b8).1⟩
  clear y0 y1 y2 y3 y4 TO TW hO d6 hM hff d7 hw8 d8 b8 D58 WK HFr hl3
  generalize w7.heap.size = wb at *
  obtain ⟨i3, hi3, hz30, hz31, hz32⟩ := info_parts info3
  have hrb1 : rb < w1.heap.size := (Array.getElem?_eq_some_iff.1 hR.out.2.1.rs.bx).1
  have hrbw : w.heap.size ≤ rb := by
    have q1 := hR.out.2.1.rs.le
    have q2 := hR.out.2.2.2.2.2
    have q3 := HD.out.1.size
    omega
  have hl8 : f3 < w8.heap.size ∧ ff < w8.heap.size ∧ wb < w8.heap.size := H8f
  go_wp2_with (at_make; refine wpList_make_own _ rfl _ _ 22 rfl w8.heap.size 3 i3 (.int .i64 0) 1 Tryz.underlying22 hi3 hz30 hz31 _ _ _ (Wd.length + 1) rfl rfl rfl ?_ ?_ ?_ ?_)
  · rw [hz32]; omega
  · unfold maxLen; omega
  · exact Nat.le_refl _
  intro w9 ho9 hg9
  have d9 : Below w8.heap.size w8 w9 := (Below.refl _ _).grown hg9 (Nat.le_refl _) (by intro k hk; cases hk)
  have H9 : Hid (LpI w w0 R F N rb wb f3 j3 ff Es #[.int .i64 (N : Int), .int .i64 m, .slice (some ⟨f1, 0, none⟩) (riseL St).length j1, .slice (some ⟨f2, 0, none⟩) (riseL Fi).length j2, .slice (some ⟨f3, 0, none⟩) Es.length j3, .slice (some ⟨ff, 0, none⟩) (N + 1) (N + 1)] w8.heap.size [] w8.heap.size (Wd.length + 1) w9) := hide ⟨⟨0, gs, (hR.out.2.1.on H8.out.2.2).on d9⟩, H8.out.1.on d9, blk_on H8.out.2.1 d9, ho9, (D1.out.trans (H8.out.2.2.mono D1.out.size)).trans (d9.mono (Nat.le_trans D1.out.size H8.out.2.2.size))⟩
  have hb8 : w1.heap.size ≤ w8.heap.size := H8.out.2.2.size
  have hw01 : w0.heap.size ≤ w8.heap.size := Nat.le_trans (Nat.le_of_lt (Nat.lt_of_le_of_lt hR.out.2.1.rs.le hrb1)) hb8
  have hww8 : w.heap.size ≤ w8.heap.size := Nat.le_trans D1.out.size hb8
  have hlt9 : w8.heap.size < w9.heap.size := (own_at ho9).2
  clear ho9 hg9 d9 H8
  generalize w8.heap.size = B at *
  have d10 := (Below.refl w9.heap.size w9).alloc (Nat.le_refl _) (.cells #[.int .i64 (p0 : Int)] 3)
  go_wp2_with (at_builtin; refine wpList_append_lies _ rfl _ _ _ rfl B 3 i3 _ 1 8 Tryz.underlying22 hi3 hz30 hz31 hz32 rfl (by omega) _ 0 (intV []) rfl (own_on H9.out.rw d10 (own_at H9.out.rw).2) ⟨w9.heap.size, 0, none⟩ 1 1 [.int .i64 (p0 : Int)] rfl rfl (World.news_of_block (cs := #[.int .i64 (p0 : Int)]) (t := 3) (fr := (0, 0)) (heap_alloc_new w9 _)) (by simp [Value.oneCell']) (by omega) (by unfold maxLen; omega) (by omega) (by simp; omega) (w9.heap.size + 1) (by simp) ?_)
  intro pg pc wA hoA hgA _ _
  have HA : Hid (LpI w w0 R F N rb wb f3 j3 ff Es #[.int .i64 (N : Int), .int .i64 m, .slice (some ⟨f1, 0, none⟩) (riseL St).length j1, .slice (some ⟨f2, 0, none⟩) (riseL Fi).length j2, .slice (some ⟨f3, 0, none⟩) Es.length j3, .slice (some ⟨ff, 0, none⟩) (N + 1) (N + 1)] B (pathF Es F Wd p0 1) pg pc wA) := hide (H9.out.app ⟨hl8.1, hl8.2.1, hl8.2.2, hw01, hww8⟩ d10 hgA hoA)
  clear hoA hgA d10 H9
  go_wp2
  go_loopw [7, 9, 40] (fun pv sv iv wr => ∃ i pg pc : Nat, i ≤ Wd.length ∧ pv = .int .i64 ((stP Es F Wd p0 i : Nat) : Int) ∧ sv = .slice (some ⟨pg, 0, none⟩) (i + 1) pc ∧ iv = .int .i64 i ∧ Hid (LpI w w0 R F N rb wb f3 j3 ff Es #[.int .i64 (N : Int), .int .i64 m, .slice (some ⟨f1, 0, none⟩) (riseL St).length j1, .slice (some ⟨f2, 0, none⟩) (riseL Fi).length j2, .slice (some ⟨f3, 0, none⟩) Es.length j3, .slice (some ⟨ff, 0, none⟩) (N + 1) (N + 1)] B (pathF Es F Wd p0 (i + 1)) pg pc wr)) (fun _ _ iv _ => Wd.length - (intOf iv).toNat)
  case atStart => exact ⟨0, pg, pc, Nat.zero_le _, rfl, rfl, rfl, HA⟩
  case round =>
    obtain ⟨i, pg2, pc2, hi, rfl, rfl, rfl, HY⟩ := hrel
    clear HA
    by_cases hlt : i < Wd.length
    · have i0 : (0 : Int) ≤ (i : Int) := by omega
      have i1 : (i : Int) < (Wd.length : Int) := by omega
      obtain ⟨gw, ow, haw, qw⟩ := (hWd.out.on HY.out.be) i hlt
      subst haw
      have HPi := hide (HALL.out i (by omega))
      obtain ⟨hk, ha1, ha2, ha3, ha4⟩ := HLK.out.step (p0 := p0) hlt HPi.out
      have hpN : stP Es F Wd p0 i < N := by
        obtain ⟨e, he, q1, _⟩ := HLK.out i hlt _ HPi.out
        have := (HY.out.wk.i e he).1
        omega
      have HPS := hide (pathF_succ Es F Wd p0 (i + 1))
      obtain ⟨p', hp'⟩ : ∃ p', stP Es F Wd p0 (i + 1) = p' := ⟨_, rfl⟩
      rw [hp'] at ha3 ha4 HPS
      have HP' := hide hp'
      clear hp'
      generalize stP Es F Wd p0 i = p at hk ha1 ha2 ha3 hpN
      generalize Wd[i] = sy at qw hk ha1 ha2 ha3
      have TF := from_any wr N p m sy (some ⟨f1, 0, none⟩) (some ⟨f2, 0, none⟩) (riseL St).length (riseL Fi).length j1 j2 f3 j3 ff Es (hide HY.out.wk.e) HY.out.wk.k (hide HY.out.wk.f) hpN hN (hide HY.out.wk.s) HY.out.wk.l
      have hLl : (fromL Es p sy).length ≤ 4194304 := Nat.le_trans (List.length_filter_le _ _) HY.out.wk.l
      generalize fromL Es p sy = L at hk ha1 ha2 ha3 TF hLl
      have HM := hide (And.intro ha1 ha2)
      have HV := hide ha3
      clear ha1 ha2 ha3 ha4
      generalize frstE (F (i + 1)) L = kk at hk HM HV
      have v0 : wr.cell? ⟨wb, 0, none⟩ = some (.int .i64 (N : Int)) := cell_of HY.out.bx rfl
      have v1 : wr.cell? ⟨wb, 1, none⟩ = some (.int .i64 m) := cell_of HY.out.bx rfl
      have v2 : wr.cell? ⟨wb, 2, none⟩ = some (.slice (some ⟨f1, 0, none⟩) (riseL St).length j1) := cell_of HY.out.bx rfl
      have v3 : wr.cell? ⟨wb, 3, none⟩ = some (.slice (some ⟨f2, 0, none⟩) (riseL Fi).length j2) := cell_of HY.out.bx rfl
      have v4 : wr.cell? ⟨wb, 4, none⟩ = some (.slice (some ⟨f3, 0, none⟩) Es.length j3) := cell_of HY.out.bx rfl
      have v5 : wr.cell? ⟨wb, 5, none⟩ = some (.slice (some ⟨ff, 0, none⟩) (N + 1) (N + 1)) := cell_of HY.out.bx rfl
      have A89 := hide (fun (W : World) (h : ∃ blk gs, RsA w0 R F rb blk gs W) => show Calls Tryz.prog 89 #[.pointer (some ⟨rb, 0, none⟩), .int .i64 ((i : Int) + 1)] W fun e w' => ∃ b g c, e = .returned (.pointer (some ⟨b, 0, none⟩)) ∧ Hid (IsSet w' b g c N (F (i + 1)) ∧ b ≠ g ∧ (∃ blk gs, RsA w0 R F rb blk gs w') ∧ Only W w' (fun q => q = rb)) from by
        obtain ⟨blk, gs, h⟩ := h
        have t := at_any w0 W R F rb blk gs (i + 1) (hide hR.out.1) hR.out.2.2.2.2.1 (hide h) (by rw [hR.out.2.2.2.1]; omega)
        rw [hR.out.2.2.1] at t
        exact t)
      go_upto_region 14 with (first
        | (go_at_call 92; refine TF.mono ?_; rintro e wa ⟨o, c, rfl, hrL, da⟩; have HYa := hide (HY.out.on da); have hrLa := hide (hrL.out.on da); clear da)
        | (go_at_call 89; refine (A89.out wa HYa.out.ra).mono ?_; rintro e wb2 ⟨b5, g5, k5, rfl, hs5⟩; have HYb := hide (HYa.out.at ⟨by omega, by omega, by omega, by omega, hrbw⟩ hs5.out.2.2.2 hs5.out.2.2.1); have hrLb := hide (rdE_only hrLa.out hs5.out.2.2.2 (fun g o e => by cases e; omega)); have T91 := leastNext_any wb2 (some ⟨f3, o, none⟩) L c b5 g5 k5 N (F (i + 1)) kk hrLb hLl (hide hs5.out.1) hk (hide HM.out.1) (hide HM.out.2); have T91 := HV.out ▸ T91)
        | (go_at_call 91; refine T91.mono ?_; rintro e wc ⟨rfl, dc⟩; have HYc := hide (HYb.out.on dc); have hBc := Nat.lt_of_le_of_lt (own_at HYc.out.rw).1 (own_at HYc.out.rw).2; clear dc))
      have hrw : wc.ownsRow B 3 1 (.slice (some ⟨pg2, 0, none⟩) (i + 1) pc2) (i + 1) (intV (pathF Es F Wd p0 (i + 1))) := by
        have := HYc.out.rw
        rwa [pathF_len] at this
      have HRW := hide hrw
      clear hrw
      have d10 := (Below.refl wc.heap.size wc).alloc (Nat.le_refl _) (.cells #[.int .i64 (p' : Int)] 3)
      go_wp2_with (at_builtin; refine wpList_append_lies _ rfl _ _ _ rfl B 3 i3 _ 1 8 Tryz.underlying22 hi3 hz30 hz31 hz32 rfl (by omega) _ (i + 1) (intV (pathF Es F Wd p0 (i + 1))) rfl (own_on HRW.out d10 (own_at HRW.out).2) ⟨wc.heap.size, 0, none⟩ 1 1 [.int .i64 (p' : Int)] rfl rfl (World.news_of_block (cs := #[.int .i64 (p' : Int)]) (t := 3) (fr := (0, 0)) (heap_alloc_new wc _)) (by simp [Value.oneCell']) (by omega) (by unfold maxLen; omega) (by omega) (by simp; omega) (wc.heap.size + 1) (by simp) ?_)
      intro pg3 pc3 wD hoD hgD _ _
      have HZ : Hid (LpI w w0 R F N rb wb f3 j3 ff Es #[.int .i64 (N : Int), .int .i64 m, .slice (some ⟨f1, 0, none⟩) (riseL St).length j1, .slice (some ⟨f2, 0, none⟩) (riseL Fi).length j2, .slice (some ⟨f3, 0, none⟩) Es.length j3, .slice (some ⟨ff, 0, none⟩) (N + 1) (N + 1)] B (pathF Es F Wd p0 (i + 1 + 1)) pg3 pc3 wD) := hide (by
        rw [HPS.out]
        exact HYc.out.app ⟨hl8.1, hl8.2.1, hl8.2.2, hw01, hww8⟩ d10 hgD (by rw [pathF_len]; exact hoD))
      clear hoD hgD d10
      go_wp2_with fail
      go_roundw
      case rel => exact ⟨i + 1, pg3, pc3, by omega, by rw [HP'.out], rfl, by go_num, HZ⟩
      case measure => simp [intOf]; omega
    · obtain rfl : Wd.length = i := by omega
      have i1 : ¬ (Wd.length : Int) < (Wd.length : Int) := by omega
      go_wp2
      refine bodyPost_ret (results_tmp rfl _ _ _) rfl ?_
      have hrw := HY.out.rw
      rw [pathF_len] at hrw
      rw [HES.out, HF.out]
      exact ⟨pg2, pc2, rfl, hide (owns_down hrw hww8), HY.out.be⟩
end Go.Proofs.YtfoahpideglghaaGreatDoor
namespace Go.Proofs.YtfoahpideglghaaGreatDoor
open Go.RowKit Go.Maps Go.Shelf
attribute [local go_sem] Oper.semAt_some

/-! ### Path -/
theorem eql_nil (W : World) (ao : Option Addr) (n c : Nat) : (binOp .eql 22 (.slice ao n c) (.slice none 0 0)).run Tryz.prog W = .ok (.bool ao.isNone) W := by
  have := Lib.run_eql_slice_nil (P := Tryz.prog) W 22 3 ao n c 0 0 Tryz.underlying22
  simpa using this
set_option maxRecDepth 100000 in
set_option maxHeartbeats 1000000 in
theorem Path_bad (w : World) (n : Int) (m : Int) (a1 a2 a3 aw : Option Addr) (c1 c2 c3 cw : Nat) (St Fi : List Int) (Ed : List EdT) (Wd : List Int) (hA : Hid (RdA w a1 a2 a3 St Fi Ed)) (hWd : Hid (RdN w aw Wd)) (h1 : St.length ≤ 4194304) (h2 : Fi.length ≤ 4194304) (h3 : Ed.length ≤ 4194304) (hw : Wd.length ≤ 4194304) (hbad : wordErr n m St Fi Ed Wd ≠ 0) :
    Calls Tryz.prog 12 #[.agg #[.int .i64 n, .int .i64 m, .slice a1 St.length c1, .slice a2 Fi.length c2, .slice a3 Ed.length c3], .slice aw Wd.length cw] w fun e w' => e = .returned (.tuple #[.slice none 0 0, .int .i64 (wordErr n m St Fi Ed Wd)]) ∧ Below w.heap.size w w' := by
  obtain ⟨W0, hW0⟩ : ∃ W0, w.alloc (.cells #[.int .i64 n, .int .i64 m, .slice a1 St.length c1, .slice a2 Fi.length c2, .slice a3 Ed.length c3] 25) = W0 := ⟨_, rfl⟩
  have d0 : Below w.heap.size w W0 := by rw [← hW0]; exact (Below.refl _ _).alloc (Nat.le_refl _) _
  have B0 : W0.heap[w.heap.size]? = some (.cells #[.int .i64 n, .int .i64 m, .slice a1 St.length c1, .slice a2 Fi.length c2, .slice a3 Ed.length c3] 25 (0, 0)) := by rw [← hW0]; exact World.alloc_heap_new _ _
  have y0 : W0.cell? ⟨w.heap.size, 0, none⟩ = some (.int .i64 n) := cell_of B0 rfl
  have y1 : W0.cell? ⟨w.heap.size, 1, none⟩ = some (.int .i64 m) := cell_of B0 rfl
  have y2 : W0.cell? ⟨w.heap.size, 2, none⟩ = some (.slice a1 St.length c1) := cell_of B0 rfl
  have y3 : W0.cell? ⟨w.heap.size, 3, none⟩ = some (.slice a2 Fi.length c2) := cell_of B0 rfl
  have y4 : W0.cell? ⟨w.heap.size, 4, none⟩ = some (.slice a3 Ed.length c3) := cell_of B0 rfl
  have T1 := checkWord_any W0 n m a1 a2 a3 c1 c2 c3 St Fi Ed (hide (hA.out.on d0)) h1 h2 h3 aw cw Wd (hide (hWd.out.on d0)) hw
  have HD := hide (And.intro d0 B0)
  clear d0 B0
  obtain ⟨r, hr⟩ : ∃ r, wordErr n m St Fi Ed Wd = r := ⟨_, rfl⟩
  rw [hr] at T1 hbad
  rw [hr]
  clear hr
  go_enter Tryz.func12, Tryz.ntmps12
  go_wp2_with (go_at_call 51; refine T1.mono ?_; rintro e w1 ⟨rfl, d1⟩; have H1 := hide d1; clear d1)
  go_ret2
  exact ⟨rfl, HD.out.1.trans (H1.out.mono HD.out.1.size)⟩
set_option maxRecDepth 100000 in
set_option maxHeartbeats 1000000 in
theorem Path_none (w : World) (N : Nat) (m : Int) (a1 a2 a3 aw : Option Addr) (c1 c2 c3 cw : Nat) (St Fi : List Int) (Ed : List EdT) (Wd : List Int) (hA : Hid (RdA w a1 a2 a3 St Fi Ed)) (hWd : Hid (RdN w aw Wd)) (hT : Hid (TabAt w ∧ 0 < w.heap.size)) (h1 : St.length ≤ 4194304) (h2 : Fi.length ≤ 4194304) (h3 : Ed.length ≤ 4194304) (hw : Wd.length ≤ 4194304) (hok : wordErr N m St Fi Ed Wd = 0) (hz : setI N St &&& restF Ed (setI N Fi) Wd 0 = 0) :
    Calls Tryz.prog 12 #[.agg #[.int .i64 (N : Int), .int .i64 m, .slice a1 St.length c1, .slice a2 Fi.length c2, .slice a3 Ed.length c3], .slice aw Wd.length cw] w fun e w' => e = .returned (.tuple #[.slice none 0 0, .int .i64 60]) ∧ Below w.heap.size w w' := by
  obtain ⟨W0, hW0⟩ : ∃ W0, w.alloc (.cells #[.int .i64 (N : Int), .int .i64 m, .slice a1 St.length c1, .slice a2 Fi.length c2, .slice a3 Ed.length c3] 25) = W0 := ⟨_, rfl⟩
  have d0 : Below w.heap.size w W0 := by rw [← hW0]; exact (Below.refl _ _).alloc (Nat.le_refl _) _
  have B0 : W0.heap[w.heap.size]? = some (.cells #[.int .i64 (N : Int), .int .i64 m, .slice a1 St.length c1, .slice a2 Fi.length c2, .slice a3 Ed.length c3] 25 (0, 0)) := by rw [← hW0]; exact World.alloc_heap_new _ _
  have y0 : W0.cell? ⟨w.heap.size, 0, none⟩ = some (.int .i64 (N : Int)) := cell_of B0 rfl
  have y1 : W0.cell? ⟨w.heap.size, 1, none⟩ = some (.int .i64 m) := cell_of B0 rfl
  have y2 : W0.cell? ⟨w.heap.size, 2, none⟩ = some (.slice a1 St.length c1) := cell_of B0 rfl
  have y3 : W0.cell? ⟨w.heap.size, 3, none⟩ = some (.slice a2 Fi.length c2) := cell_of B0 rfl
  have y4 : W0.cell? ⟨w.heap.size, 4, none⟩ = some (.slice a3 Ed.length c3) := cell_of B0 rfl
  have T1 := checkWord_any W0 (N : Int) m a1 a2 a3 c1 c2 c3 St Fi Ed (hide (hA.out.on d0)) h1 h2 h3 aw cw Wd (hide (hWd.out.on d0)) hw
  have HD := hide (And.intro d0 B0)
  clear d0 B0
  have HE := hide (wordErr_zero hok)
  rw [hok] at T1
  clear hok
  go_enter Tryz.func12, Tryz.ntmps12
  go_upto_region 4 with (go_at_call 51; refine T1.mono ?_; rintro e w1 ⟨rfl, d1⟩; have H1 := hide (And.intro d1 (blk_on HD.out.2 d1)); clear d1)
  clear y0 y1 y2 y3 y4 T1
  have D1 : Hid (Below w.heap.size w w1) := hide (HD.out.1.trans (H1.out.1.mono HD.out.1.size))
  have B1 := H1.out.2
  have y0 : w1.cell? ⟨w.heap.size, 0, none⟩ = some (.int .i64 (N : Int)) := cell_of B1 rfl
  have y1 : w1.cell? ⟨w.heap.size, 1, none⟩ = some (.int .i64 m) := cell_of B1 rfl
  have y2 : w1.cell? ⟨w.heap.size, 2, none⟩ = some (.slice a1 St.length c1) := cell_of B1 rfl
  have y3 : w1.cell? ⟨w.heap.size, 3, none⟩ = some (.slice a2 Fi.length c2) := cell_of B1 rfl
  have y4 : w1.cell? ⟨w.heap.size, 4, none⟩ = some (.slice a3 Ed.length c3) := cell_of B1 rfl
  clear B1
  have TL := leastPath_none w1 N m a1 a2 a3 aw c1 c2 c3 cw St Fi Ed Wd (hide (hA.out.on D1.out)) (hide (hWd.out.on D1.out)) (hide ⟨hT.out.1.below D1.out hT.out.2, Nat.lt_of_lt_of_le hT.out.2 D1.out.size⟩) h1 h2 h3 hw (hide HE.out.1) hz
  have EQ := eql_nil
  go_wp2_with (go_at_call 55; refine TL.mono ?_; rintro e w2 ⟨rfl, d2⟩; have D2 : Hid (Below w.heap.size w w2) := hide (D1.out.trans (d2.mono D1.out.size)); clear d2)
  go_ret2
  exact ⟨rfl, D2.out⟩
set_option maxRecDepth 100000 in
set_option maxHeartbeats 1000000 in
theorem Path_ok (w : World) (N : Nat) (m : Int) (a1 a2 a3 aw : Option Addr) (c1 c2 c3 cw : Nat) (St Fi : List Int) (Ed : List EdT) (Wd : List Int) (hA : Hid (RdA w a1 a2 a3 St Fi Ed)) (hWd : Hid (RdN w aw Wd)) (hT : Hid (TabAt w ∧ 0 < w.heap.size)) (h1 : St.length ≤ 4194304) (h2 : Fi.length ≤ 4194304) (h3 : Ed.length ≤ 4194304) (hw : Wd.length ≤ 4194304) (hok : wordErr N m St Fi Ed Wd = 0) (p0 : Nat) (hz : Hid (setI N St &&& restF Ed (setI N Fi) Wd 0 ≠ 0)) (hp0 : nextL (elems N (setI N St &&& restF Ed (setI N Fi) Wd 0)) 0 = (p0 : Int)) :
    Calls Tryz.prog 12 #[.agg #[.int .i64 (N : Int), .int .i64 m, .slice a1 St.length c1, .slice a2 Fi.length c2, .slice a3 Ed.length c3], .slice aw Wd.length cw] w fun e w' => ∃ g c, e = .returned (.tuple #[.slice (some ⟨g, 0, none⟩) (Wd.length + 1) c, .int .i64 0]) ∧ Hid (w'.ownsRow w.heap.size 3 1 (.slice (some ⟨g, 0, none⟩) (Wd.length + 1) c) (Wd.length + 1) (intV (pathF (riseE Ed) (restF Ed (setI N Fi) Wd) Wd p0 (Wd.length + 1)))) ∧ Below w.heap.size w w' := by
  obtain ⟨W0, hW0⟩ : ∃ W0, w.alloc (.cells #[.int .i64 (N : Int), .int .i64 m, .slice a1 St.length c1, .slice a2 Fi.length c2, .slice a3 Ed.length c3] 25) = W0 := ⟨_, rfl⟩
  have d0 : Below w.heap.size w W0 := by rw [← hW0]; exact (Below.refl _ _).alloc (Nat.le_refl _) _
  have B0 : W0.heap[w.heap.size]? = some (.cells #[.int .i64 (N : Int), .int .i64 m, .slice a1 St.length c1, .slice a2 Fi.length c2, .slice a3 Ed.length c3] 25 (0, 0)) := by rw [← hW0]; exact World.alloc_heap_new _ _
  have y0 : W0.cell? ⟨w.heap.size, 0, none⟩ = some (.int .i64 (N : Int)) := cell_of B0 rfl
  have y1 : W0.cell? ⟨w.heap.size, 1, none⟩ = some (.int .i64 m) := cell_of B0 rfl
  have y2 : W0.cell? ⟨w.heap.size, 2, none⟩ = some (.slice a1 St.length c1) := cell_of B0 rfl
  have y3 : W0.cell? ⟨w.heap.size, 3, none⟩ = some (.slice a2 Fi.length c2) := cell_of B0 rfl
  have y4 : W0.cell? ⟨w.heap.size, 4, none⟩ = some (.slice a3 Ed.length c3) := cell_of B0 rfl
  have T1 := checkWord_any W0 (N : Int) m a1 a2 a3 c1 c2 c3 St Fi Ed (hide (hA.out.on d0)) h1 h2 h3 aw cw Wd (hide (hWd.out.on d0)) hw
  have HD := hide (And.intro d0 B0)
  clear d0 B0
  have HE := hide (wordErr_zero hok)
  rw [hok] at T1
  clear hok
  go_enter Tryz.func12, Tryz.ntmps12
  go_upto_region 4 with (go_at_call 51; refine T1.mono ?_; rintro e w1 ⟨rfl, d1⟩; have H1 := hide (And.intro d1 (blk_on HD.out.2 d1)); clear d1)
  clear y0 y1 y2 y3 y4 T1
  have D1 : Hid (Below w.heap.size w w1) := hide (HD.out.1.trans (H1.out.1.mono HD.out.1.size))
  have B1 := H1.out.2
  have y0 : w1.cell? ⟨w.heap.size, 0, none⟩ = some (.int .i64 (N : Int)) := cell_of B1 rfl
  have y1 : w1.cell? ⟨w.heap.size, 1, none⟩ = some (.int .i64 m) := cell_of B1 rfl
  have y2 : w1.cell? ⟨w.heap.size, 2, none⟩ = some (.slice a1 St.length c1) := cell_of B1 rfl
  have y3 : w1.cell? ⟨w.heap.size, 3, none⟩ = some (.slice a2 Fi.length c2) := cell_of B1 rfl
  have y4 : w1.cell? ⟨w.heap.size, 4, none⟩ = some (.slice a3 Ed.length c3) := cell_of B1 rfl
  clear B1
  have TL := leastPath_some w1 N m a1 a2 a3 aw c1 c2 c3 cw St Fi Ed Wd (hide (hA.out.on D1.out)) (hide (hWd.out.on D1.out)) (hide ⟨hT.out.1.below D1.out hT.out.2, Nat.lt_of_lt_of_le hT.out.2 D1.out.size⟩) h1 h2 h3 hw (hide HE.out.1) p0 hz hp0
  clear hz hp0
  have EQ : ∀ (W : World) (g n c : Nat), (binOp .eql 22 (.slice (some ⟨g, 0, none⟩) n c) (.slice none 0 0)).run Tryz.prog W = .ok (.bool false) W := fun W g n c => eql_nil W _ _ _
  go_wp2_with (go_at_call 55; refine TL.mono ?_; rintro e w2 ⟨gp, cp, rfl, hr2, d2⟩; have D2 : Hid (Below w.heap.size w w2) := hide (D1.out.trans (d2.mono D1.out.size)); clear d2)
  go_ret2
  exact ⟨gp, cp, rfl, hide (owns_down hr2.out D1.out.size), D2.out⟩
end Go.Proofs.YtfoahpideglghaaGreatDoor
