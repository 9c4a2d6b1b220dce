import Derived.Test.YtojnlpicgemlaabGreatDoorTA
namespace Go.Proofs.YtojnlpicgemlaabGreatDoor
open Go.RowKit Go.Maps
attribute [local go_sem] Oper.semAt_some

/-! ### All that can be come to, as the document says it -/
def GrwA (B : Nat) (w : World) (g N : Nat) (S : Nat → Prop) (E : Nat → Nat → Prop) : Prop := ∃ M, MaskG B w g N M ∧ ∀ q, q < N → (M q = true ↔ ∃ k, Wlk S E k q)
def uns (N : Nat) (M : Nat → Bool) : Nat := (List.range N).countP fun q => !M q
def isF (v : Option Value) : Bool := match v with | some (.bool false) => true | _ => false
def unsW (w : World) (g N : Nat) : Nat := (List.range N).countP fun q => isF (w.cell? ⟨g, q, none⟩)
theorem unsW_at {w : World} {g N : Nat} {M : Nat → Bool} (h : Mrw w g 4 N (fun q => .bool (M q)) N) : unsW w g N = uns N M := by
  unfold unsW uns
  apply List.countP_congr
  intro q hq
  rw [h.at q (by simpa using hq)]
  cases M q <;> simp [isF]
theorem uns_set {N r : Nat} {M : Nat → Bool} (hr : r < N) (h : M r = false) : uns N (fun q => decide (q = r) || M q) + 1 = uns N M := by
  unfold uns
  rw [← countP_upd (r := r) (p := fun q => !M q) (List.range N) List.nodup_range (by simp [hr]) (by simp [h])]
  congr 1
  apply List.countP_congr
  intro q _
  simp
def GrwI (W0 w : World) (g N : Nat) (S : Nat → Prop) (E : Nat → Nat → Prop) (ok : Bool) : Prop :=
  ∃ M, MaskG W0.heap.size w g N M ∧ (∀ q, S q → M q = true) ∧ (∀ q, q < N → M q = true → ∃ k, Wlk S E k q) ∧ (ok = false → ∀ p r, E p r → M p = true → M r = true) ∧ Below W0.heap.size W0 w
def GrwJ (W0 w : World) (g N : Nat) (S : Nat → Prop) (E : Nat → Nat → Prop) (bk : Bool) (Ed : List EdT) (u0 i : Nat) (ok : Bool) : Prop :=
  ∃ M, MaskG W0.heap.size w g N M ∧ (∀ q, S q → M q = true) ∧ (∀ q, q < N → M q = true → ∃ k, Wlk S E k q) ∧ Below W0.heap.size W0 w ∧
    (ok = false → uns N M = u0 ∧ ∀ e ∈ Ed.take i, ∀ p r : Nat, ends bk e = ((p : Int), (r : Int)) → M p = true → M r = true) ∧ (ok = true → uns N M < u0)
theorem grw_iff {N : Nat} {S : Nat → Prop} {E : Nat → Nat → Prop} {M : Nat → Bool} (hs : ∀ q, S q → M q = true) (hw : ∀ q, q < N → M q = true → ∃ k, Wlk S E k q) (hc : ∀ p r, E p r → M p = true → M r = true) : ∀ q, q < N → (M q = true ↔ ∃ k, Wlk S E k q) := fun q hq => by
  have key : ∀ k q, Wlk S E k q → M q = true := fun k => by
    induction k with
    | zero => exact fun q h => hs q h
    | succ k ih =>
      rintro q ⟨p, h1, h2⟩
      exact hc p q h2 (ih p h1)
  exact ⟨hw q hq, fun ⟨k, h⟩ => key k q h⟩
theorem grw_keep {W0 w : World} {g N : Nat} {S : Nat → Prop} {E : Nat → Nat → Prop} {bk : Bool} {Ed : List EdT} {u0 i n f : Nat} {ok : Bool} {M : Nat → Bool} (hm : MaskG W0.heap.size w g N M) (hs : ∀ q, S q → M q = true) (hw : ∀ q, q < N → M q = true → ∃ k, Wlk S E k q) (hd : Below W0.heap.size W0 w)
    (hf0 : ok = false → uns N M = u0 ∧ ∀ e ∈ Ed.take i, ∀ p r : Nat, ends bk e = ((p : Int), (r : Int)) → M p = true → M r = true) (hf1 : ok = true → uns N M < u0) (hi : i < Ed.length) (he : ends bk Ed[i] = ((n : Int), (f : Int))) (hx : M n = true → M f = true) : GrwJ W0 w g N S E bk Ed u0 (i + 1) ok := by
  refine ⟨M, hm, hs, hw, hd, fun h => ⟨(hf0 h).1, fun e h1 p r e2 hp => ?_⟩, hf1⟩
  rw [List.take_succ_eq_append_getElem hi] at h1
  rcases List.mem_append.1 h1 with h1 | h1
  · exact (hf0 h).2 e h1 p r e2 hp
  · rw [List.mem_singleton] at h1
    subst h1
    rw [he] at e2
    have a := congrArg Prod.fst e2
    have b := congrArg Prod.snd e2
    simp only at a b
    obtain rfl : n = p := by omega
    obtain rfl : f = r := by omega
    exact hx hp
theorem grw_set {W0 w : World} {g N : Nat} {S : Nat → Prop} {bk : Bool} {Ed : List EdT} {u0 i n f : Nat} {ok : Bool} {M : Nat → Bool} (hm : MaskG W0.heap.size w g N M) (hs : ∀ q, S q → M q = true) (hw : ∀ q, q < N → M q = true → ∃ k, Wlk S (stepE bk Ed) k q) (hd : Below W0.heap.size W0 w)
    (hf0 : ok = false → uns N M = u0 ∧ ∀ e ∈ Ed.take i, ∀ p r : Nat, ends bk e = ((p : Int), (r : Int)) → M p = true → M r = true) (hf1 : ok = true → uns N M < u0) (hi : i < Ed.length) (he : ends bk Ed[i] = ((n : Int), (f : Int))) (hn : M n = true) (hf : M f = false) (hfN : f < N) (hnN : n < N) :
    GrwJ W0 (w.setCell ⟨g, f, none⟩ (.bool true)) g N S (stepE bk Ed) bk Ed u0 (i + 1) true := by
  have hu := uns_set hfN hf
  have hle : uns N M ≤ u0 := by
    cases ok
    · exact Nat.le_of_eq (hf0 rfl).1
    · exact Nat.le_of_lt (hf1 rfl)
  refine ⟨fun q => decide (q = f) || M q, hm.set f, fun q hq => by simp [hs q hq], fun q hq h => ?_, hd.setCell hm.1 _, fun h => (by cases h), fun _ => by omega⟩
  by_cases e : q = f
  · subst e
    obtain ⟨k, hk⟩ := hw n hnN hn
    exact ⟨k + 1, n, hk, Ed[i], List.getElem_mem hi, he⟩
  · exact hw q hq (by simpa [e] using h)
set_option maxRecDepth 100000 in
set_option maxHeartbeats 2000000 in
theorem grow_fwd (w : World) (N : Nat) (mv : Int) (a1 a2 a3 af : Option Addr) (n1 n2 c1 c2 c3 cf : Nat) (Ed : List EdT) (Fr : List Int) (hN : N ≤ 100000) (hr : RdE w a3 Ed) (hf : RdN w af Fr) (hE : Ed.length ≤ 1000000) (hF : Fr.length ≤ 4194304)
    (h1 : ∀ e ∈ Ed, ∃ p r : Nat, p < N ∧ r < N ∧ e.1 = (p : Int) ∧ e.2.2 = (r : Int)) (h2 : ∀ x ∈ Fr, ∃ q : Nat, q < N ∧ x = (q : Int)) :
    Calls Tryz.prog 46 #[.agg #[.int .i64 (N : Int), .int .i64 mv, .slice a1 n1 c1, .slice a2 n2 c2, .slice a3 Ed.length c3], .slice af Fr.length cf, .bool false] w fun e w' => ∃ g, e = .returned (.slice (some ⟨g, 0, none⟩) N N) ∧ GrwA w.heap.size w' g N (fun q => (q : Int) ∈ Fr) (stepE false Ed) ∧ Below w.heap.size w w' := by
  obtain ⟨L, eL⟩ : ∃ L, Ed.length = L := ⟨_, rfl⟩
  rw [eL] at hE
  rw [eL]
  obtain ⟨W0, hW0⟩ : ∃ W0, w.alloc (.cells #[.int .i64 (N : Int), .int .i64 mv, .slice a1 n1 c1, .slice a2 n2 c2, .slice a3 L c3] 25) = W0 := ⟨_, rfl⟩
  have d0 : Below w.heap.size w W0 := by rw [← hW0]; exact (Below.refl _ _).alloc (Nat.le_refl _) _
  have B0 : W0.heap[w.heap.size]? = some (.cells #[.int .i64 (N : Int), .int .i64 mv, .slice a1 n1 c1, .slice a2 n2 c2, .slice a3 L c3] 25 (0, 0)) := by rw [← hW0]; exact World.alloc_heap_new _ _
  have k0 : W0.cell? ⟨w.heap.size, 0, none⟩ = some (.int .i64 (N : Int)) := cell_of B0 rfl
  have TM := mask_any W0 af cf N Fr (hf.on d0) h2 hF hN
  have HQ := hide (And.intro (hr.on d0) (And.intro h1 (And.intro eL (And.intro d0 B0))))
  clear hr h1 eL d0 B0
  go_enter Tryz.func46, Tryz.ntmps46
  go_wp2_with (go_at_call 40; refine TM.mono ?_; rintro e w1 ⟨g, rfl, hM, dM⟩; have H1 := hide (And.intro hM dM); clear hM dM)
  clear hW0 k0 TM
  go_loopw [8] (fun ov wr => Hid (∃ ok : Bool, ov = .bool ok ∧ GrwI W0 wr g N (fun q => (q : Int) ∈ Fr) (stepE false Ed) ok)) (fun ov wr => 2 * unsW wr g N + okOf ov)
  case atStart => exact hide ⟨true, rfl, inL Fr, H1.out.1, fun q hq => by simpa [inL] using hq, fun q _ hq => ⟨0, show (q : Int) ∈ Fr by simpa [inL] using hq⟩, fun h => (by cases h), H1.out.2⟩
  case round =>
    rename World => wo
    obtain ⟨ok, rfl, M0, hm0, hs0, hw0, hc0, hd0⟩ := hrel.out
    cases ok
    · have HE := hide (And.intro hm0 (And.intro hs0 (And.intro hw0 (And.intro (hc0 rfl) hd0))))
      clear hrel hm0 hs0 hw0 hc0 hd0
      go_wp2_with fail
      go_ret
      exact ⟨g, rfl, ⟨M0, HE.out.1.lower HQ.out.2.2.2.1.size, grw_iff HE.out.2.1 HE.out.2.2.1 HE.out.2.2.2.1⟩, HQ.out.2.2.2.1.trans (HE.out.2.2.2.2.mono HQ.out.2.2.2.1.size)⟩
    · have HU := hide (unsW_at hm0.2)
      obtain ⟨u0, hu0⟩ : ∃ u0, uns N M0 = u0 := ⟨_, rfl⟩
      have HJ0 : Hid (GrwJ W0 wo g N (fun q => (q : Int) ∈ Fr) (stepE false Ed) false Ed u0 0 false) := hide ⟨M0, hm0, hs0, hw0, hd0, fun _ => ⟨hu0, fun e he => by simp at he⟩, fun h => by cases h⟩
      rw [hu0] at HU
      clear hm0 hs0 hw0 hc0 hd0 hu0 hrel
      go_wp2_with fail
      go_loopw [8, 9] (fun ov iv wr => ∃ (ok : Bool) (i : Nat), i ≤ L ∧ ov = .bool ok ∧ iv = .int .i64 (i : Int) ∧ Hid (GrwJ W0 wr g N (fun q => (q : Int) ∈ Fr) (stepE false Ed) false Ed u0 i ok)) (fun _ iv _ => L - (intOf iv).toNat)
      case atStart => exact ⟨false, 0, Nat.zero_le _, rfl, rfl, HJ0⟩
      case round =>
        obtain ⟨ok, i, hi, rfl, rfl, HY⟩ := hrel
        obtain ⟨M, hm, hs, hw, hd, hf0, hf1⟩ := HY.out
        have hqs : w.heap.size < W0.heap.size := (Array.getElem?_eq_some_iff.1 HQ.out.2.2.2.2).1
        have B1 := (hd.block _ hqs).trans HQ.out.2.2.2.2
        have k4 : wr.cell? ⟨w.heap.size, 4, none⟩ = some (.slice a3 L c3) := cell_of B1 rfl
        clear B1
        by_cases hlt : i < L
        · have l0 : (i : Int) < (L : Int) := by omega
          have i0 : (0 : Int) ≤ (i : Int) := by omega
          have hir : i < Ed.length := by have := HQ.out.2.2.1; omega
          obtain ⟨g', o, rfl, r1, r2, r3⟩ := (HQ.out.1.on hd) i hir
          obtain ⟨p, r, hp, hrN, e1, e2⟩ := HQ.out.2.1 Ed[i] (List.getElem_mem hir)
          have he : ends false Ed[i] = ((p : Int), (r : Int)) := Prod.ext e1 e2
          rw [e1] at r1
          rw [e2] at r3
          have p0 : (0 : Int) ≤ (p : Int) := by omega
          have p1 : (p : Int) < (N : Int) := by omega
          have q0 : (0 : Int) ≤ (r : Int) := by omega
          have q1 : (r : Int) < (N : Int) := by omega
          have cn : wr.cell? ⟨g, p, none⟩ = some (.bool (M p)) := hm.2.at p hp
          have cf' : wr.cell? ⟨g, r, none⟩ = some (.bool (M r)) := hm.2.at r hrN
          have zf : wr.frozen? ⟨g, r, none⟩ = false := hm.2.fz r
          have hfN : r < N := hrN
          by_cases hn : M p = true
          · rw [hn] at cn
            by_cases hff : M r = true
            · rw [hff] at cf'
              have J := hide (grw_keep hm hs hw hd hf0 hf1 hir he (fun _ => hff))
              clear HY hm hs hw hd hf0 hf1
              go_wp2_with fail
              go_roundw
              case rel => exact ⟨_, i + 1, by omega, rfl, by go_num, J⟩
              case measure => simp [intOf]; omega
            · have hfx : M r = false := by simpa using hff
              rw [hfx] at cf'
              have J := hide (grw_set (S := fun q => (q : Int) ∈ Fr) hm hs hw hd hf0 hf1 hir he hn hfx hfN hp)
              clear HY hm hs hw hd hf0 hf1
              go_wp2_with fail
              go_roundw
              case rel => exact ⟨true, i + 1, by omega, rfl, by go_num, J⟩
              case measure => simp [intOf]; omega
          · have hnx : M p = false := by simpa using hn
            rw [hnx] at cn
            have J := hide (grw_keep hm hs hw hd hf0 hf1 hir he (fun h => absurd h hn))
            clear HY hm hs hw hd hf0 hf1
            go_wp2_with fail
            go_roundw
            case rel => exact ⟨_, i + 1, by omega, rfl, by go_num, J⟩
            case measure => simp [intOf]; omega
        · have l0 : ¬ (i : Int) < (L : Int) := by omega
          have e : Ed.take i = Ed := List.take_of_length_le (by have := HQ.out.2.2.1; omega)
          rw [e] at hf0
          have HV := hide (unsW_at hm.2)
          have HW := hide (And.intro hf0 hf1)
          have J : Hid (GrwI W0 wr g N (fun q => (q : Int) ∈ Fr) (stepE false Ed) ok) := hide ⟨M, hm, hs, hw, fun h p r ⟨e, he, ee⟩ hp => (hf0 h).2 e he p r ee hp, hd⟩
          clear HY hm hs hw hd hf0 hf1
          go_wp2_with fail
          go_roundw
          case rel => exact hide ⟨ok, rfl, J.out⟩
          case measure =>
            have a1 := HU.out
            have a2 := HV.out
            have a3 := HW.out
            cases ok
            · have := (a3.1 rfl).1
              simp [okOf]
              omega
            · have := a3.2 rfl
              simp [okOf]
              omega
set_option maxRecDepth 100000 in
set_option maxHeartbeats 2000000 in
theorem grow_bwd (w : World) (N : Nat) (mv : Int) (a1 a2 a3 af : Option Addr) (n1 n2 c1 c2 c3 cf : Nat) (Ed : List EdT) (Fr : List Int) (hN : N ≤ 100000) (hr : RdE w a3 Ed) (hf : RdN w af Fr) (hE : Ed.length ≤ 1000000) (hF : Fr.length ≤ 4194304)
    (h1 : ∀ e ∈ Ed, ∃ p r : Nat, p < N ∧ r < N ∧ e.1 = (p : Int) ∧ e.2.2 = (r : Int)) (h2 : ∀ x ∈ Fr, ∃ q : Nat, q < N ∧ x = (q : Int)) :
    Calls Tryz.prog 46 #[.agg #[.int .i64 (N : Int), .int .i64 mv, .slice a1 n1 c1, .slice a2 n2 c2, .slice a3 Ed.length c3], .slice af Fr.length cf, .bool true] w fun e w' => ∃ g, e = .returned (.slice (some ⟨g, 0, none⟩) N N) ∧ GrwA w.heap.size w' g N (fun q => (q : Int) ∈ Fr) (stepE true Ed) ∧ Below w.heap.size w w' := by
  obtain ⟨L, eL⟩ : ∃ L, Ed.length = L := ⟨_, rfl⟩
  rw [eL] at hE
  rw [eL]
  obtain ⟨W0, hW0⟩ : ∃ W0, w.alloc (.cells #[.int .i64 (N : Int), .int .i64 mv, .slice a1 n1 c1, .slice a2 n2 c2, .slice a3 L c3] 25) = W0 := ⟨_, rfl⟩
  have d0 : Below w.heap.size w W0 := by rw [← hW0]; exact (Below.refl _ _).alloc (Nat.le_refl _) _
  have B0 : W0.heap[w.heap.size]? = some (.cells #[.int .i64 (N : Int), .int .i64 mv, .slice a1 n1 c1, .slice a2 n2 c2, .slice a3 L c3] 25 (0, 0)) := by rw [← hW0]; exact World.alloc_heap_new _ _
  have k0 : W0.cell? ⟨w.heap.size, 0, none⟩ = some (.int .i64 (N : Int)) := cell_of B0 rfl
  have TM := mask_any W0 af cf N Fr (hf.on d0) h2 hF hN
  have HQ := hide (And.intro (hr.on d0) (And.intro h1 (And.intro eL (And.intro d0 B0))))
  clear hr h1 eL d0 B0
  go_enter Tryz.func46, Tryz.ntmps46
  go_wp2_with (go_at_call 40; refine TM.mono ?_; rintro e w1 ⟨g, rfl, hM, dM⟩; have H1 := hide (And.intro hM dM); clear hM dM)
  clear hW0 k0 TM
  go_loopw [8] (fun ov wr => Hid (∃ ok : Bool, ov = .bool ok ∧ GrwI W0 wr g N (fun q => (q : Int) ∈ Fr) (stepE true Ed) ok)) (fun ov wr => 2 * unsW wr g N + okOf ov)
  case atStart => exact hide ⟨true, rfl, inL Fr, H1.out.1, fun q hq => by simpa [inL] using hq, fun q _ hq => ⟨0, show (q : Int) ∈ Fr by simpa [inL] using hq⟩, fun h => (by cases h), H1.out.2⟩
  case round =>
    rename World => wo
    obtain ⟨ok, rfl, M0, hm0, hs0, hw0, hc0, hd0⟩ := hrel.out
    cases ok
    · have HE := hide (And.intro hm0 (And.intro hs0 (And.intro hw0 (And.intro (hc0 rfl) hd0))))
      clear hrel hm0 hs0 hw0 hc0 hd0
      go_wp2_with fail
      go_ret
      exact ⟨g, rfl, ⟨M0, HE.out.1.lower HQ.out.2.2.2.1.size, grw_iff HE.out.2.1 HE.out.2.2.1 HE.out.2.2.2.1⟩, HQ.out.2.2.2.1.trans (HE.out.2.2.2.2.mono HQ.out.2.2.2.1.size)⟩
    · have HU := hide (unsW_at hm0.2)
      obtain ⟨u0, hu0⟩ : ∃ u0, uns N M0 = u0 := ⟨_, rfl⟩
      have HJ0 : Hid (GrwJ W0 wo g N (fun q => (q : Int) ∈ Fr) (stepE true Ed) true Ed u0 0 false) := hide ⟨M0, hm0, hs0, hw0, hd0, fun _ => ⟨hu0, fun e he => by simp at he⟩, fun h => by cases h⟩
      rw [hu0] at HU
      clear hm0 hs0 hw0 hc0 hd0 hu0 hrel
      go_wp2_with fail
      go_loopw [8, 9] (fun ov iv wr => ∃ (ok : Bool) (i : Nat), i ≤ L ∧ ov = .bool ok ∧ iv = .int .i64 (i : Int) ∧ Hid (GrwJ W0 wr g N (fun q => (q : Int) ∈ Fr) (stepE true Ed) true Ed u0 i ok)) (fun _ iv _ => L - (intOf iv).toNat)
      case atStart => exact ⟨false, 0, Nat.zero_le _, rfl, rfl, HJ0⟩
      case round =>
        obtain ⟨ok, i, hi, rfl, rfl, HY⟩ := hrel
        obtain ⟨M, hm, hs, hw, hd, hf0, hf1⟩ := HY.out
        have hqs : w.heap.size < W0.heap.size := (Array.getElem?_eq_some_iff.1 HQ.out.2.2.2.2).1
        have B1 := (hd.block _ hqs).trans HQ.out.2.2.2.2
        have k4 : wr.cell? ⟨w.heap.size, 4, none⟩ = some (.slice a3 L c3) := cell_of B1 rfl
        clear B1
        by_cases hlt : i < L
        · have l0 : (i : Int) < (L : Int) := by omega
          have i0 : (0 : Int) ≤ (i : Int) := by omega
          have hir : i < Ed.length := by have := HQ.out.2.2.1; omega
          obtain ⟨g', o, rfl, r1, r2, r3⟩ := (HQ.out.1.on hd) i hir
          obtain ⟨p, r, hp, hrN, e1, e2⟩ := HQ.out.2.1 Ed[i] (List.getElem_mem hir)
          have he : ends true Ed[i] = ((r : Int), (p : Int)) := Prod.ext e2 e1
          rw [e1] at r1
          rw [e2] at r3
          have p0 : (0 : Int) ≤ (p : Int) := by omega
          have p1 : (p : Int) < (N : Int) := by omega
          have q0 : (0 : Int) ≤ (r : Int) := by omega
          have q1 : (r : Int) < (N : Int) := by omega
          have cn : wr.cell? ⟨g, r, none⟩ = some (.bool (M r)) := hm.2.at r hrN
          have cf' : wr.cell? ⟨g, p, none⟩ = some (.bool (M p)) := hm.2.at p hp
          have zf : wr.frozen? ⟨g, p, none⟩ = false := hm.2.fz p
          have hfN : p < N := hp
          by_cases hn : M r = true
          · rw [hn] at cn
            by_cases hff : M p = true
            · rw [hff] at cf'
              have J := hide (grw_keep hm hs hw hd hf0 hf1 hir he (fun _ => hff))
              clear HY hm hs hw hd hf0 hf1
              go_wp2_with fail
              go_roundw
              case rel => exact ⟨_, i + 1, by omega, rfl, by go_num, J⟩
              case measure => simp [intOf]; omega
            · have hfx : M p = false := by simpa using hff
              rw [hfx] at cf'
              have J := hide (grw_set (S := fun q => (q : Int) ∈ Fr) hm hs hw hd hf0 hf1 hir he hn hfx hfN hrN)
              clear HY hm hs hw hd hf0 hf1
              go_wp2_with fail
              go_roundw
              case rel => exact ⟨true, i + 1, by omega, rfl, by go_num, J⟩
              case measure => simp [intOf]; omega
          · have hnx : M r = false := by simpa using hn
            rw [hnx] at cn
            have J := hide (grw_keep hm hs hw hd hf0 hf1 hir he (fun h => absurd h hn))
            clear HY hm hs hw hd hf0 hf1
            go_wp2_with fail
            go_roundw
            case rel => exact ⟨_, i + 1, by omega, rfl, by go_num, J⟩
            case measure => simp [intOf]; omega
        · have l0 : ¬ (i : Int) < (L : Int) := by omega
          have e : Ed.take i = Ed := List.take_of_length_le (by have := HQ.out.2.2.1; omega)
          rw [e] at hf0
          have HV := hide (unsW_at hm.2)
          have HW := hide (And.intro hf0 hf1)
          have J : Hid (GrwI W0 wr g N (fun q => (q : Int) ∈ Fr) (stepE true Ed) ok) := hide ⟨M, hm, hs, hw, fun h p r ⟨e, he, ee⟩ hp => (hf0 h).2 e he p r ee hp, hd⟩
          clear HY hm hs hw hd hf0 hf1
          go_wp2_with fail
          go_roundw
          case rel => exact hide ⟨ok, rfl, J.out⟩
          case measure =>
            have a1 := HU.out
            have a2 := HV.out
            have a3 := HW.out
            cases ok
            · have := (a3.1 rfl).1
              simp [okOf]
              omega
            · have := a3.2 rfl
              simp [okOf]
              omega
end Go.Proofs.YtojnlpicgemlaabGreatDoor
