import Derived.Test.YtmagchclmmphaabGreatDoorVF
import Derived.Deep.QuietTactic
import Derived.BigQuiet
namespace Go.Proofs.YtmagchclmmphaabGreatDoor
open Go.RowKit Go.Maps
attribute [local go_sem] Oper.semAt_some

/-! ### A region whose operations read, and whose callees make memory of their own -/
/-- How far a world is from another one: draws, and blocks behind it. -/
structure GB where
  d : Nat
  os : Array Obj
  deriving Inhabited
/-- That world. -/
def gw (w : World) (d : Nat) (os : Array Obj) : World := { w with heap := w.heap ++ os, drawn := d }
theorem gw_below (w : World) (d : Nat) (os : Array Obj) : Below w.heap.size w (gw w d os) :=
  ⟨rfl, rfl, rfl, by simp [gw], fun k hk => by simp [gw, Array.getElem?_append_left hk]⟩
theorem below_gw {w w' : World} (h : Below w.heap.size w w') : ∃ p : GB, w' = gw w p.d p.os := by
  refine ⟨⟨w'.drawn, w'.heap.extract w.heap.size w'.heap.size⟩, ?_⟩
  have e : w'.heap = w.heap ++ w'.heap.extract w.heap.size w'.heap.size := by
    apply Array.ext_getElem?
    intro i
    by_cases hi : i < w.heap.size
    · rw [Array.getElem?_append_left hi, h.block i hi]
    · rw [Array.getElem?_append_right (by omega), Array.getElem?_extract]
      by_cases h2 : i < w'.heap.size
      · rw [if_pos (by omega), show w.heap.size + (i - w.heap.size) = i by omega]
      · rw [if_neg (by omega), Array.getElem?_eq_none (by omega)]
  have h1 := h.os
  have h2 := h.tape
  have h3 := h.output
  cases w'
  simp only at h1 h2 h3 e
  subst h1 h2 h3
  unfold gw
  simp only
  rw [← e]
theorem gw_cell {w : World} {a : Addr} {v : Value} (h : w.cell? a = some v) (d : Nat) (os : Array Obj) : (gw w d os).cell? a = some v :=
  ((gw_below w d os).cell (World.block_lt_of_cell? w a h)).trans h
theorem wp_region_gw {id : Nat} {Q : Exit → Act → World → Prop} {a : Act} {w : World} {l : List Oper} (hB : Region.lexB .any l.toArray = true)
    (h : wpQuiet Tryz.prog l.toArray (fun w' => ∃ p : GB, w' = gw w p.d p.os) (fun a' => ∀ w', (∃ p : GB, w' = gw w p.d p.os) → Q .normal a' w') l a) : (Code.region id l.toArray true).wp Tryz.prog Q a w :=
  wp_region_quiet (C := fun w' => ∃ p : GB, w' = gw w p.d p.os) (by kernel_rfl) hB ⟨⟨w.drawn + 1, #[]⟩, by simp [gw]⟩ (by simpa using h)
/-- A callee's contract there. -/
theorem calls_gw {f : FuncId} {args : Array Value} {w : World} {d : Nat} {os : Array Obj} {v : Value}
    (h : Calls Tryz.prog f args (gw w d os) fun e w' => e = .returned v ∧ Below (gw w d os).heap.size (gw w d os) w') : Calls Tryz.prog f args (gw w d os) fun e w'' => e = .returned v ∧ ∃ p : GB, w'' = gw w p.d p.os :=
  h.mono fun _ _ ⟨he, hb⟩ => ⟨he, below_gw ((gw_below w d os).trans (hb.mono (gw_below w d os).size))⟩
theorem calls_gws {f : FuncId} {args : Array Value} {w : World} {d : Nat} {os : Array Obj} {v : Value}
    (h : Calls Tryz.prog f args (gw w d os) fun e w' => e = .returned v ∧ w' = gw w d os) : Calls Tryz.prog f args (gw w d os) fun e w'' => e = .returned v ∧ ∃ p : GB, w'' = gw w p.d p.os :=
  h.mono fun _ _ ⟨he, hb⟩ => ⟨he, ⟨d, os⟩, hb⟩
end Go.Proofs.YtmagchclmmphaabGreatDoor
namespace Go.Proofs.YtmagchclmmphaabGreatDoor
open Go.RowKit Go.Maps
attribute [local go_sem] Oper.semAt_some

theorem opOk_parts {x : OpI} (h1 : vld x.1 = true) (h2 : ¬ x.2 < 0) (h3 : ¬ 1 < x.2) : opOk x = true := by
  unfold opOk
  rw [h1, decide_eq_true (show 0 ≤ x.2 by omega), decide_eq_true (show x.2 ≤ 1 by omega)]; rfl
theorem rdO_take {W : World} {ao : Option Addr} {O : List OpI} {k : Nat} (h : RdO W ao O) (hk : k ≤ O.length) : RdO W ao (O.take k) := fun j hj => by
  have hj' : j < O.length := by rw [List.length_take] at hj; omega
  obtain ⟨g, o, e, c0, c1⟩ := h j hj'
  exact ⟨g, o, e, by rw [List.getElem_take]; exact c0, by rw [List.getElem_take]; exact c1⟩

set_option maxRecDepth 100000 in
set_option maxHeartbeats 4000000 in
/-- The document's Valid. -/
theorem rvalid_any (w : World) (ti : ByteArray) (ao asx af ar : Option Addr) (co cs cf cr : Nat) (O : List OpI) (S F : List ByteArray) (R : List RuT) (hO : Hid (RdO w ao O)) (hS : Hid (ReadsS w asx S)) (hF : Hid (ReadsS w af F)) (hR : Hid (RdRu w ar R))
    (hlo : O.length ≤ 4194304) (hls : S.length ≤ 4194304) (hlf : F.length ≤ 4194304) (hlr : R.length ≤ 4194304) (hco : Hid (O.length ≤ co)) (hcs : Hid (S.length ≤ cs)) :
    Calls Tryz.prog 52 #[.agg #[.string ti, .slice ao O.length co, .slice asx S.length cs, .slice af F.length cf, .slice ar R.length cr]] w fun e w' => e = .returned (.bool (rvalF ti O S F R)) ∧ Below w.heap.size w w' := by
  obtain ⟨W0, hW0⟩ : ∃ W0, w.alloc (.cells #[.string ti, .slice ao O.length co, .slice asx S.length cs, .slice af F.length cf, .slice ar R.length cr] 32) = W0 := ⟨_, rfl⟩
  have d0 : Below w.heap.size w W0 := by rw [← hW0]; exact (Below.refl _ _).alloc (Nat.le_refl _) _
  have b0 : W0.heap[w.heap.size]? = some (.cells #[.string ti, .slice ao O.length co, .slice asx S.length cs, .slice af F.length cf, .slice ar R.length cr] 32 (0, 0)) := by rw [← hW0]; exact World.alloc_heap_new _ _
  have HBX : Hid (Bx5 W0 w.heap.size (.string ti) (.slice ao O.length co) (.slice asx S.length cs) (.slice af F.length cf) (.slice ar R.length cr)) := hide ⟨cell_of b0 rfl, cell_of b0 rfl, cell_of b0 rfl, cell_of b0 rfl, cell_of b0 rfl⟩
  obtain ⟨c0, c1, c2, c3, c4⟩ := HBX.out
  have HD := hide d0
  have HO := hide (hO.out.on d0)
  have HS := hide (hS.out.below d0)
  have HF := hide (hF.out.below d0)
  have HR := hide (hR.out.on d0)
  clear hO hS hF hR d0 b0
  have T1 := rf.name_any ti W0
  rw [nmF_vld] at T1
  have T2 := ronce_any W0 asx cs S HS hls hcs
  have HV := hide (show rvalF ti O S F R = (vld ti && (S.all vld && decide S.Nodup) && (O.all opOk && decide O.Nodup) && riseR S (-1) F && (R.all (ruleOkI O S) && decide R.Nodup)) from rfl)
  cases h1 : vld ti with
  | false =>
    rw [h1] at T1 HV
    have HE := hide (show rvalF ti O S F R = false by rw [HV.out]; simp)
    go_enter Tryz.func52, Tryz.ntmps52
    go_wp2_with (first
      | (go_at_call 87; refine T1.mono ?_; rintro e w1 ⟨rfl, hw1⟩; obtain rfl := hw1.symm; clear hw1)
      | (go_at_call 88; refine T2.mono ?_; rintro e w2 ⟨rfl, d2⟩))
    go_ret
    exact ⟨by rw [HE.out]; rfl, HD.out.trans (d2.mono HD.out.size)⟩
  | true =>
  rw [h1] at T1 HV
  cases h2 : (S.all vld && decide S.Nodup) with
  | false =>
    rw [h2] at T2 HV
    have HE := hide (show rvalF ti O S F R = false by rw [HV.out]; simp)
    go_enter Tryz.func52, Tryz.ntmps52
    go_wp2_with (first
      | (go_at_call 87; refine T1.mono ?_; rintro e w1 ⟨rfl, hw1⟩; obtain rfl := hw1.symm; clear hw1)
      | (go_at_call 88; refine T2.mono ?_; rintro e w2 ⟨rfl, d2⟩))
    go_ret
    exact ⟨by rw [HE.out]; rfl, HD.out.trans (d2.mono HD.out.size)⟩
  | true =>
  rw [h2] at T2 HV
  go_enter Tryz.func52, Tryz.ntmps52
  go_wp2_with (first
    | (go_at_call 87; refine T1.mono ?_; rintro e w1 ⟨rfl, hw1⟩; obtain rfl := hw1.symm; clear hw1)
    | (go_at_call 88; refine T2.mono ?_; rintro e w2 ⟨rfl, d2⟩; have D2 := hide d2; clear d2 c0 c1 c2 c3 c4))
  clear T1 T2
  go_loopw [5] (fun i wr => ∃ k : Nat, k ≤ O.length ∧ i = .int .i64 k ∧ Hid (Below W0.heap.size W0 wr ∧ (O.take k).all opOk = true ∧ (O.take k).Nodup)) (fun i _ => O.length - (intOf i).toNat)
  case atStart => exact ⟨0, Nat.zero_le _, rfl, hide ⟨D2.out, by simp, by simp⟩⟩
  case round =>
    obtain ⟨k, hk, rfl, HN⟩ := hrel
    obtain ⟨c0, c1, c2, c3, c4⟩ := HBX.out.on HN.out.1
    by_cases hlt : k < O.length
    · clear c0 c2 c3 c4
      obtain ⟨g1, o1, rfl, q0, q1⟩ := (HO.out.on HN.out.1) k hlt
      have i2 : (k : Int) < (O.length : Int) := by omega
      have i3 : (0 : Int) ≤ (k : Int) := by omega
      have i4 : (k : Int) ≤ (co : Int) := by have := hco.out; omega
      obtain ⟨x, hx⟩ : ∃ x, O[k] = x := ⟨_, rfl⟩
      rw [hx] at q0 q1
      have HX := hide hx
      clear hx
      obtain ⟨s, z⟩ := x
      simp only at q0 q1
      have T3 := rf.name_any s wr
      rw [nmF_vld] at T3
      have e1 := gw_cell c1
      have e2 := gw_cell q0
      have e3 := gw_cell q1
      have HP := hide (fun W (d : Below wr.heap.size wr W) => show Calls Tryz.prog 89 #[.slice (some ⟨g1, o1, none⟩) k co, .agg #[.string s, .int .i64 z]] W _ by
        have q := ropPlace_any W (some ⟨g1, o1, none⟩) co (O.take k) (s, z) (hide (rdO_take (HO.out.on (HN.out.1.trans (d.mono HN.out.1.size))) hk)) (by rw [List.length_take]; omega)
        rw [show (O.take k).length = k by rw [List.length_take]; omega] at q
        exact q)
      cases h3 : vld s with
      | false =>
        rw [h3] at T3
        have HE := hide (show rvalF ti O S F R = false by rw [HV.out, all_not hlt (by rw [HX.out]; unfold opOk; rw [h3]; rfl)]; simp)
        go_wp2_with (go_at_call 87; refine T3.mono ?_; rintro e w1 ⟨rfl, hw1⟩; obtain rfl := hw1.symm; clear hw1)
        refine wp_region_gw (by kernel_rfl) ?_
        repeat (go_big_quiet_step (fail))
        refine wpQuiet_nil ?_
        intro _ hw'
        obtain ⟨⟨dq, osq⟩, hw''⟩ := hw'
        subst hw''
        go_wp2_with fail
        go_ret
        exact ⟨by rw [HE.out]; rfl, HD.out.trans ((HN.out.1.trans ((gw_below _ _ _).mono HN.out.1.size)).mono HD.out.size)⟩
      | true =>
        rw [h3] at T3
        by_cases h4 : z < 0
        · have h4' : decide (z < 0) = true := decide_eq_true h4
          have HE := hide (show rvalF ti O S F R = false by rw [HV.out, all_not hlt (by rw [HX.out]; exact opOk_neg (a := z) rfl h4)]; simp)
          go_wp2_with (go_at_call 87; refine T3.mono ?_; rintro e w1 ⟨rfl, hw1⟩; obtain rfl := hw1.symm; clear hw1)
          refine wp_region_gw (by kernel_rfl) ?_
          repeat (go_big_quiet_step (fail))
          refine wpQuiet_nil ?_
          intro _ hw'
          obtain ⟨⟨dq, osq⟩, hw''⟩ := hw'
          subst hw''
          go_wp2_with fail
          go_ret
          exact ⟨by rw [HE.out]; rfl, HD.out.trans ((HN.out.1.trans ((gw_below _ _ _).mono HN.out.1.size)).mono HD.out.size)⟩
        have h4' : decide (z < 0) = false := decide_eq_false h4
        by_cases h5 : 1 < z
        · have h5' : decide (1 < z) = true := decide_eq_true h5
          have HE := hide (show rvalF ti O S F R = false by rw [HV.out, all_not hlt (by rw [HX.out]; exact opOk_big (a := z) rfl h5)]; simp)
          go_wp2_with (go_at_call 87; refine T3.mono ?_; rintro e w1 ⟨rfl, hw1⟩; obtain rfl := hw1.symm; clear hw1)
          refine wp_region_gw (by kernel_rfl) ?_
          repeat (go_big_quiet_step (fail))
          refine wpQuiet_nil ?_
          intro _ hw'
          obtain ⟨⟨dq, osq⟩, hw''⟩ := hw'
          subst hw''
          go_wp2_with fail
          go_ret
          exact ⟨by rw [HE.out]; rfl, HD.out.trans ((HN.out.1.trans ((gw_below _ _ _).mono HN.out.1.size)).mono HD.out.size)⟩
        have h5' : decide (1 < z) = false := decide_eq_false h5
        obtain ⟨y, hy⟩ : ∃ y, plcF (O.take k) (s, z) = y := ⟨_, rfl⟩
        rw [hy] at HP
        have HY := hide hy
        clear hy
        by_cases h6 : 0 ≤ y
        · have h6' : decide (0 ≤ y) = true := decide_eq_true h6
          have HE := hide (show rvalF ti O S F R = false by rw [HV.out, decide_eq_false (dup_take hlt (by rw [HX.out]; rw [← HY.out, plcF_neg] at h6; exact h6))]; simp)
          go_wp2_with (go_at_call 87; refine T3.mono ?_; rintro e w1 ⟨rfl, hw1⟩; obtain rfl := hw1.symm; clear hw1)
          refine wp_region_gw (by kernel_rfl) ?_
          repeat (go_big_quiet_step ((go_at_call 89; refine calls_gw (HP.out _ ?_); exact gw_below _ _ _)))
          refine wpQuiet_nil ?_
          intro _ hw'
          obtain ⟨⟨dq, osq⟩, hw''⟩ := hw'
          subst hw''
          go_wp2_with fail
          go_ret
          exact ⟨by rw [HE.out]; rfl, HD.out.trans ((HN.out.1.trans ((gw_below _ _ _).mono HN.out.1.size)).mono HD.out.size)⟩
        have h6' : decide (0 ≤ y) = false := decide_eq_false h6
        have HM : Hid ((s, z) ∉ O.take k) := hide fun q => by have := plcF_neg.2 q; rw [HY.out] at this; omega
        go_wp2_with (go_at_call 87; refine T3.mono ?_; rintro e w1 ⟨rfl, hw1⟩; obtain rfl := hw1.symm; clear hw1)
        refine wp_region_gw (by kernel_rfl) ?_
        repeat (go_big_quiet_step ((go_at_call 89; refine calls_gw (HP.out _ ?_); exact gw_below _ _ _)))
        refine wpQuiet_nil ?_
        intro _ hw'
        obtain ⟨⟨dq, osq⟩, hw''⟩ := hw'
        subst hw''
        go_wp2_with fail
        exact ⟨⟨k + 1, by omega, by go_num, hide ⟨HN.out.1.trans ((gw_below _ _ _).mono HN.out.1.size), all_next hlt HN.out.2.1 (by rw [HX.out]; exact opOk_parts h3 (Int.not_lt.2 h4) (Int.not_lt.2 h5)), nodup_take hlt HN.out.2.2 (by rw [HX.out]; exact HM.out)⟩⟩, by simp [intOf]; omega⟩
    · obtain rfl : k = O.length := by omega
      have i2 : ¬ (O.length : Int) < (O.length : Int) := by omega
      have HOk : Hid (O.all opOk = true ∧ O.Nodup) := hide (by obtain ⟨_, a, b⟩ := HN.out; rw [List.take_length] at a b; exact ⟨a, b⟩)
      have D3 := hide HN.out.1
      have HV2 := hide (show rvalF ti O S F R = (riseR S (-1) F && (R.all (ruleOkI O S) && decide R.Nodup)) by rw [HV.out, HOk.out.1, decide_eq_true HOk.out.2]; rfl)
      clear HV HN
      go_wp2_with fail
      go_loopw [8, 7] (fun i l wr => ∃ (k : Nat) (z : Int), k ≤ F.length ∧ i = .int .i64 k ∧ l = .int .i64 z ∧ Hid (-1 ≤ z ∧ z ≤ 4194304) ∧ Hid (riseR S (-1) F = riseR S z (F.drop k)) ∧ Hid (Below W0.heap.size W0 wr)) (fun i _ _ => F.length - (intOf i).toNat)
      case atStart => exact ⟨0, -1, Nat.zero_le _, rfl, rfl, hide ⟨by omega, by omega⟩, hide rfl, D3⟩
      case round =>
        clear c0 c1 c2 c3 c4
        obtain ⟨k, z, hk, rfl, rfl, HZ, HRi, HN⟩ := hrel
        obtain ⟨c0, c1, c2, c3, c4⟩ := HBX.out.on HN.out
        by_cases hlt : k < F.length
        · clear c0 c1 c4
          obtain ⟨g1, o1, rfl, q0⟩ := (HF.out.below HN.out) k hlt
          have i2 : (k : Int) < (F.length : Int) := by omega
          have i3 : (0 : Int) ≤ (k : Int) := by omega
          have hd := riseR_drop (S := S) hlt z
          obtain ⟨x, hx⟩ : ∃ x, F[k] = x := ⟨_, rfl⟩
          rw [hx] at q0 hd
          have e2 := gw_cell c2
          have e3 := gw_cell c3
          have e4 := gw_cell q0
          have HP := hide (fun W (d : Below wr.heap.size wr W) => rplace_any W asx cs S x (hide (HS.out.below (HN.out.trans (d.mono HN.out.size)))) hls)
          have HYb := hide (And.intro (plcF_ge S x) (plcF_lt S x))
          obtain ⟨y, hy⟩ : ∃ y, plcF S x = y := ⟨_, rfl⟩
          rw [hy] at HP hd HYb
          have HDr := hide hd
          clear hd hy hx
          by_cases h6 : y ≤ z
          · have h6' : decide (y ≤ z) = true := decide_eq_true h6
            have HE := hide (show rvalF ti O S F R = false by rw [HV2.out, HRi.out, HDr.out, decide_eq_false (show ¬ z < y by omega)]; simp)
            go_wp2_with fail
            refine wp_region_gw (by kernel_rfl) ?_
            repeat (go_big_quiet_step ((go_at_call 53; refine calls_gws (HP.out _ ?_); exact gw_below _ _ _)))
            refine wpQuiet_nil ?_
            intro _ hw'
            obtain ⟨⟨dq, osq⟩, hw''⟩ := hw'
            subst hw''
            go_wp2_with fail
            go_ret
            exact ⟨by rw [HE.out]; rfl, HD.out.trans ((HN.out.trans ((gw_below _ _ _).mono HN.out.size)).mono HD.out.size)⟩
          · have h6' : decide (y ≤ z) = false := decide_eq_false h6
            have HE := hide (show riseR S (-1) F = riseR S y (F.drop (k + 1)) by rw [HRi.out, HDr.out, decide_eq_true (show z < y by omega)]; rfl)
            go_wp2_with fail
            refine wp_region_gw (by kernel_rfl) ?_
            repeat (go_big_quiet_step ((go_at_call 53; refine calls_gws (HP.out _ ?_); exact gw_below _ _ _)))
            refine wpQuiet_nil ?_
            intro _ hw'
            obtain ⟨⟨dq, osq⟩, hw''⟩ := hw'
            subst hw''
            go_wp2_with fail
            exact ⟨⟨k + 1, y, by omega, by go_num, rfl, hide ⟨HYb.out.1, by rcases HYb.out.2 with q | q <;> omega⟩, HE, hide (HN.out.trans ((gw_below _ _ _).mono HN.out.size))⟩, by simp [intOf]; omega⟩
        · obtain rfl : k = F.length := by omega
          have i2 : ¬ (F.length : Int) < (F.length : Int) := by omega
          have HV3 := hide (show rvalF ti O S F R = (R.all (ruleOkI O S) && decide R.Nodup) by rw [HV2.out, HRi.out, List.drop_length]; rfl)
          have D4 := hide HN.out
          clear HV2 HRi HN HZ D3
          go_wp2_with fail
          go_loopw [10] (fun i wr => ∃ k : Nat, k ≤ R.length ∧ i = .int .i64 k ∧ Hid (Below W0.heap.size W0 wr ∧ (R.take k).all (ruleOkI O S) = true ∧ (R.take k).Nodup)) (fun i _ => R.length - (intOf i).toNat)
          case atStart => exact ⟨0, Nat.zero_le _, rfl, hide ⟨D4.out, by simp, by simp⟩⟩
          case round =>
            clear c0 c1 c2 c3 c4
            obtain ⟨k, hk, rfl, HN⟩ := hrel
            obtain ⟨wo, hwo⟩ : ∃ X, X = wr := ⟨_, rfl⟩
            subst hwo
            obtain ⟨c0, c1, c2, c3, c4⟩ := HBX.out.on HN.out.1
            by_cases hlt : k < R.length
            · obtain ⟨g1, o1, rfl, q0, q1, q2⟩ := (HR.out.on HN.out.1) k hlt
              have i2 : (k : Int) < (R.length : Int) := by omega
              have i3 : (0 : Int) ≤ (k : Int) := by omega
              obtain ⟨x, hx⟩ : ∃ x, R[k] = x := ⟨_, rfl⟩
              rw [hx] at q0 q1 q2
              have HX := hide hx
              clear hx
              obtain ⟨x1, x2, x3⟩ := x
              simp only at q0 q1 q2
              obtain ⟨WB, hWB⟩ : ∃ WB, wo.alloc (.cells #[.string x1, .string x2, .string x3] 68) = WB := ⟨_, rfl⟩
              have hb1 : WB.heap[wo.heap.size]? = some (.cells #[.string x1, .string x2, .string x3] 68 (0, 0)) := by rw [← hWB]; exact World.alloc_heap_new _ _
              have HB : Hid (Below W0.heap.size W0 WB) := hide (by rw [← hWB]; exact HN.out.1.alloc HN.out.1.size _)
              have Hb1 := hide hb1
              have m0 : WB.cell? ⟨wo.heap.size, 0, none⟩ = some (.string x1) := cell_of hb1 rfl
              have m1 : WB.cell? ⟨wo.heap.size, 1, none⟩ = some (.string x2) := cell_of hb1 rfl
              have m2 : WB.cell? ⟨wo.heap.size, 2, none⟩ = some (.string x3) := cell_of hb1 rfl
              clear hb1
              obtain ⟨n0, n1, n2, n3, n4⟩ := HBX.out.on HB.out
              have em0 := gw_cell m0
              have em1 := gw_cell m1
              have em2 := gw_cell m2
              have en1 := gw_cell n1
              have en2 := gw_cell n2
              clear m0 m1 m2 n0 n1 n2 n3 n4
              have HP1 := hide (fun W (d : Below WB.heap.size WB W) => ropPlace_any W ao co O (opRI (x1, x2, x3)) (hide (HO.out.on (HB.out.trans (d.mono HB.out.size)))) hlo)
              have HP2 := hide (fun W (d : Below WB.heap.size WB W) => rplace_any W asx cs S x2 (hide (HS.out.below (HB.out.trans (d.mono HB.out.size)))) hls)
              have HP3 := hide (fun W (d : Below WB.heap.size WB W) => rplace_any W asx cs S x3 (hide (HS.out.below (HB.out.trans (d.mono HB.out.size)))) hls)
              obtain ⟨y1, hy1⟩ : ∃ y, plcF O (opRI (x1, x2, x3)) = y := ⟨_, rfl⟩
              obtain ⟨y2, hy2⟩ : ∃ y, plcF S x2 = y := ⟨_, rfl⟩
              obtain ⟨y3, hy3⟩ : ∃ y, plcF S x3 = y := ⟨_, rfl⟩
              rw [hy1] at HP1
              rw [hy2] at HP2
              rw [hy3] at HP3
              have HG := hide (show ruleOkI O S (x1, x2, x3) = (decide (0 ≤ y1) && decide (0 ≤ y3) && (decide (x2 = ⟨#[]⟩) || decide (0 ≤ y2))) by
                unfold ruleOkI
                have e1 : memI O (opRI (x1, x2, x3)) = decide (0 ≤ y1) := by rw [Bool.eq_iff_iff, memI_iff, decide_eq_true_iff, ← hy1, plcF_neg]
                have e2 : memS S x2 = decide (0 ≤ y2) := by rw [Bool.eq_iff_iff, memS_iff, decide_eq_true_iff, ← hy2, plcF_neg]
                have e3 : memS S x3 = decide (0 ≤ y3) := by rw [Bool.eq_iff_iff, memS_iff, decide_eq_true_iff, ← hy3, plcF_neg]
                rw [e1, e2, e3])
              clear hy1 hy2 hy3
              by_cases h1 : y1 < 0
              · have h1' : decide (y1 < 0) = true := decide_eq_true h1
                have HE := hide (show rvalF ti O S F R = false by rw [HV3.out, all_not hlt (by rw [HX.out, HG.out, decide_eq_false (show ¬ 0 ≤ y1 by omega)]; simp)]; simp)
                go_wp2_with fail
                refine wp_region_gw (by kernel_rfl) ?_
                repeat (go_big_quiet_step (first | (go_at_call 90; refine calls_gw (ropOf_any _ (x1, x2, x3))) | (go_at_call 89; refine calls_gw (HP1.out _ ?_); exact gw_below _ _ _) | (go_at_call_of 53 x3; refine calls_gws (HP3.out _ ?_); exact gw_below _ _ _) | (go_at_call_of 53 x2; refine calls_gws (HP2.out _ ?_); exact gw_below _ _ _)))
                refine wpQuiet_nil ?_
                intro _ hw'
                obtain ⟨⟨dq, osq⟩, hw''⟩ := hw'
                subst hw''
                go_wp2_with fail
                go_ret
                exact ⟨by rw [HE.out]; rfl, HD.out.trans ((HB.out.trans ((gw_below _ _ _).mono HB.out.size)).mono HD.out.size)⟩
              have h1' : decide (y1 < 0) = false := decide_eq_false h1
              by_cases h3 : y3 < 0
              · have h3' : decide (y3 < 0) = true := decide_eq_true h3
                have HE := hide (show rvalF ti O S F R = false by rw [HV3.out, all_not hlt (by rw [HX.out, HG.out, decide_eq_false (show ¬ 0 ≤ y3 by omega)]; simp)]; simp)
                go_wp2_with fail
                refine wp_region_gw (by kernel_rfl) ?_
                repeat (go_big_quiet_step (first | (go_at_call 90; refine calls_gw (ropOf_any _ (x1, x2, x3))) | (go_at_call 89; refine calls_gw (HP1.out _ ?_); exact gw_below _ _ _) | (go_at_call_of 53 x3; refine calls_gws (HP3.out _ ?_); exact gw_below _ _ _) | (go_at_call_of 53 x2; refine calls_gws (HP2.out _ ?_); exact gw_below _ _ _)))
                refine wpQuiet_nil ?_
                intro _ hw'
                obtain ⟨⟨dq, osq⟩, hw''⟩ := hw'
                subst hw''
                go_wp2_with fail
                go_ret
                exact ⟨by rw [HE.out]; rfl, HD.out.trans ((HB.out.trans ((gw_below _ _ _).mono HB.out.size)).mono HD.out.size)⟩
              have h3' : decide (y3 < 0) = false := decide_eq_false h3
              by_cases h4 : x2 = ⟨#[]⟩
              · have e4 : (x2.toList == []) = true := by rw [str_empty]; exact decide_eq_true h4
                have HRk : Hid (ruleOkI O S (x1, x2, x3) = true) := hide (by rw [HG.out, decide_eq_true (show 0 ≤ y1 by omega), decide_eq_true (show 0 ≤ y3 by omega), decide_eq_true h4]; rfl)
                clear h4
                go_wp2_with fail
                refine wp_region_gw (by kernel_rfl) ?_
                repeat (go_big_quiet_step (first | (go_at_call 90; refine calls_gw (ropOf_any _ (x1, x2, x3))) | (go_at_call 89; refine calls_gw (HP1.out _ ?_); exact gw_below _ _ _) | (go_at_call_of 53 x3; refine calls_gws (HP3.out _ ?_); exact gw_below _ _ _) | (go_at_call_of 53 x2; refine calls_gws (HP2.out _ ?_); exact gw_below _ _ _)))
                refine wpQuiet_nil ?_
                intro _ hw'
                obtain ⟨⟨dq, osq⟩, hw''⟩ := hw'
                subst hw''
                obtain ⟨WC, hWC⟩ : ∃ WC, gw WB dq osq = WC := ⟨_, rfl⟩
                have HBC : Hid (Below WB.heap.size WB WC) := hide (by rw [← hWC]; exact gw_below _ _ _)
                rw [hWC]
                clear hWC em0 em1 em2 en1 en2 HP1 HP2 HP3 hWB c0 c1 c2 c3 c4 q0 q1 q2
                go_wp2_with fail
                go_loopw [12] (fun j wr => ∃ m : Nat, m ≤ k ∧ j = .int .i64 m ∧ Hid (Below WB.heap.size WB wr ∧ ∀ y ∈ (R.take k).take m, y ≠ (x1, x2, x3))) (fun j _ => k - (intOf j).toNat)
                case atStart => exact ⟨0, Nat.zero_le _, rfl, hide ⟨HBC.out, fun y hy => by simp at hy⟩⟩
                case round =>
                  obtain ⟨m, hm, rfl, HM⟩ := hrel
                  have HBM := hide (HB.out.trans (HM.out.1.mono HB.out.size))
                  by_cases hmk : m < k
                  · have im : (m : Int) < (k : Int) := by omega
                    have im2 : (m : Int) < (R.length : Int) := by omega
                    have im3 : (0 : Int) ≤ (m : Int) := by omega
                    obtain ⟨n0, n1, n2, n3, n4⟩ := HBX.out.on HBM.out
                    have hb1 := (HM.out.1.block _ (Array.getElem?_eq_some_iff.1 Hb1.out).1).trans Hb1.out
                    have m0 : wr.cell? ⟨wo.heap.size, 0, none⟩ = some (.string x1) := cell_of hb1 rfl
                    have m1 : wr.cell? ⟨wo.heap.size, 1, none⟩ = some (.string x2) := cell_of hb1 rfl
                    have m2 : wr.cell? ⟨wo.heap.size, 2, none⟩ = some (.string x3) := cell_of hb1 rfl
                    clear hb1 n0 n1 n2 n3
                    obtain ⟨g2, o2, eg, p0, p1, p2⟩ := (HR.out.on HBM.out) m (by omega)
                    cases eg
                    obtain ⟨y, hy⟩ : ∃ y, R[m]'(by omega) = y := ⟨_, rfl⟩
                    rw [hy] at p0 p1 p2
                    have HYm : Hid (((R.take k)[m]'(by rw [List.length_take]; omega)) = y) := hide (by rw [List.getElem_take]; exact hy)
                    clear hy
                    obtain ⟨a, b, c⟩ := y
                    simp only at p0 p1 p2
                    have hkl : m < (R.take k).length := by rw [List.length_take]; omega
                    by_cases ha : a = x1
                    · by_cases hb : b = x2
                      · by_cases hc : c = x3
                        · subst ha hb hc
                          have HE := hide (show rvalF ti O S F R = false by
                            rw [HV3.out, decide_eq_false (dup_take hlt (by rw [HX.out, ← HYm.out]; exact List.getElem_mem _))]; simp)
                          go_wp2_with fail
                          go_quiet (fail)
                          go_wp2_with fail
                          go_ret
                          exact ⟨by rw [HE.out]; rfl, HD.out.trans ((rf.below_drewN' HBM.out _).mono HD.out.size)⟩
                        · have e3 : (c.toList == x3.toList) = false := by rw [str_beq]; exact decide_eq_false hc
                          subst ha hb
                          go_wp2_with fail
                          go_quiet (fail)
                          go_wp2_with fail
                          exact ⟨⟨m + 1, by omega, by go_num, hide ⟨rf.below_drewN' HM.out.1 _, take_ne hkl HM.out.2 (by rw [HYm.out]; intro q; exact hc (Prod.mk.inj (Prod.mk.inj q).2).2)⟩⟩, by simp [intOf]; omega⟩
                      · have e2 : (b.toList == x2.toList) = false := by rw [str_beq]; exact decide_eq_false hb
                        subst ha
                        go_wp2_with fail
                        go_quiet (fail)
                        go_wp2_with fail
                        exact ⟨⟨m + 1, by omega, by go_num, hide ⟨rf.below_drewN' HM.out.1 _, take_ne hkl HM.out.2 (by rw [HYm.out]; intro q; exact hb (Prod.mk.inj (Prod.mk.inj q).2).1)⟩⟩, by simp [intOf]; omega⟩
                    · have e1 : (a.toList == x1.toList) = false := by rw [str_beq]; exact decide_eq_false ha
                      go_wp2_with fail
                      go_quiet (fail)
                      go_wp2_with fail
                      exact ⟨⟨m + 1, by omega, by go_num, hide ⟨rf.below_drewN' HM.out.1 _, take_ne hkl HM.out.2 (by rw [HYm.out]; intro q; exact ha (Prod.mk.inj q).1)⟩⟩, by simp [intOf]; omega⟩
                  · obtain rfl : m = k := by omega
                    have im : ¬ (m : Int) < (m : Int) := by omega
                    go_wp2
                    exact ⟨⟨m + 1, by omega, by go_num, hide ⟨HBM.out, all_next hlt HN.out.2.1 (by rw [HX.out]; exact HRk.out), nodup_take hlt HN.out.2.2 (by
                      rw [HX.out]
                      intro q
                      have := HM.out.2 (x1, x2, x3) (by rw [List.take_take, Nat.min_self]; exact q)
                      exact this rfl)⟩⟩, by simp [intOf]; omega⟩
              · have e4 : (x2.toList == []) = false := by rw [str_empty]; exact decide_eq_false h4
                by_cases h2 : y2 < 0
                · have h2' : decide (y2 < 0) = true := decide_eq_true h2
                  have HE := hide (show rvalF ti O S F R = false by rw [HV3.out, all_not hlt (by rw [HX.out, HG.out, decide_eq_false h4, decide_eq_false (show ¬ 0 ≤ y2 by omega)]; simp)]; simp)
                  go_wp2_with fail
                  refine wp_region_gw (by kernel_rfl) ?_
                  repeat (go_big_quiet_step (first | (go_at_call 90; refine calls_gw (ropOf_any _ (x1, x2, x3))) | (go_at_call 89; refine calls_gw (HP1.out _ ?_); exact gw_below _ _ _) | (go_at_call_of 53 x3; refine calls_gws (HP3.out _ ?_); exact gw_below _ _ _) | (go_at_call_of 53 x2; refine calls_gws (HP2.out _ ?_); exact gw_below _ _ _)))
                  refine wpQuiet_nil ?_
                  intro _ hw'
                  obtain ⟨⟨dq, osq⟩, hw''⟩ := hw'
                  subst hw''
                  go_wp2_with fail
                  go_ret
                  exact ⟨by rw [HE.out]; rfl, HD.out.trans ((HB.out.trans ((gw_below _ _ _).mono HB.out.size)).mono HD.out.size)⟩
                have h2' : decide (y2 < 0) = false := decide_eq_false h2
                have HRk : Hid (ruleOkI O S (x1, x2, x3) = true) := hide (by rw [HG.out, decide_eq_true (show 0 ≤ y1 by omega), decide_eq_true (show 0 ≤ y3 by omega), decide_eq_true (show 0 ≤ y2 by omega)]; simp)
                clear h4
                go_wp2_with fail
                refine wp_region_gw (by kernel_rfl) ?_
                repeat (go_big_quiet_step (first | (go_at_call 90; refine calls_gw (ropOf_any _ (x1, x2, x3))) | (go_at_call 89; refine calls_gw (HP1.out _ ?_); exact gw_below _ _ _) | (go_at_call_of 53 x3; refine calls_gws (HP3.out _ ?_); exact gw_below _ _ _) | (go_at_call_of 53 x2; refine calls_gws (HP2.out _ ?_); exact gw_below _ _ _)))
                refine wpQuiet_nil ?_
                intro _ hw'
                obtain ⟨⟨dq, osq⟩, hw''⟩ := hw'
                subst hw''
                obtain ⟨WC, hWC⟩ : ∃ WC, gw WB dq osq = WC := ⟨_, rfl⟩
                have HBC : Hid (Below WB.heap.size WB WC) := hide (by rw [← hWC]; exact gw_below _ _ _)
                rw [hWC]
                clear hWC em0 em1 em2 en1 en2 HP1 HP2 HP3 hWB c0 c1 c2 c3 c4 q0 q1 q2
                go_wp2_with fail
                go_loopw [12] (fun j wr => ∃ m : Nat, m ≤ k ∧ j = .int .i64 m ∧ Hid (Below WB.heap.size WB wr ∧ ∀ y ∈ (R.take k).take m, y ≠ (x1, x2, x3))) (fun j _ => k - (intOf j).toNat)
                case atStart => exact ⟨0, Nat.zero_le _, rfl, hide ⟨HBC.out, fun y hy => by simp at hy⟩⟩
                case round =>
                  obtain ⟨m, hm, rfl, HM⟩ := hrel
                  have HBM := hide (HB.out.trans (HM.out.1.mono HB.out.size))
                  by_cases hmk : m < k
                  · have im : (m : Int) < (k : Int) := by omega
                    have im2 : (m : Int) < (R.length : Int) := by omega
                    have im3 : (0 : Int) ≤ (m : Int) := by omega
                    obtain ⟨n0, n1, n2, n3, n4⟩ := HBX.out.on HBM.out
                    have hb1 := (HM.out.1.block _ (Array.getElem?_eq_some_iff.1 Hb1.out).1).trans Hb1.out
                    have m0 : wr.cell? ⟨wo.heap.size, 0, none⟩ = some (.string x1) := cell_of hb1 rfl
                    have m1 : wr.cell? ⟨wo.heap.size, 1, none⟩ = some (.string x2) := cell_of hb1 rfl
                    have m2 : wr.cell? ⟨wo.heap.size, 2, none⟩ = some (.string x3) := cell_of hb1 rfl
                    clear hb1 n0 n1 n2 n3
                    obtain ⟨g2, o2, eg, p0, p1, p2⟩ := (HR.out.on HBM.out) m (by omega)
                    cases eg
                    obtain ⟨y, hy⟩ : ∃ y, R[m]'(by omega) = y := ⟨_, rfl⟩
                    rw [hy] at p0 p1 p2
                    have HYm : Hid (((R.take k)[m]'(by rw [List.length_take]; omega)) = y) := hide (by rw [List.getElem_take]; exact hy)
                    clear hy
                    obtain ⟨a, b, c⟩ := y
                    simp only at p0 p1 p2
                    have hkl : m < (R.take k).length := by rw [List.length_take]; omega
                    by_cases ha : a = x1
                    · by_cases hb : b = x2
                      · by_cases hc : c = x3
                        · subst ha hb hc
                          have HE := hide (show rvalF ti O S F R = false by
                            rw [HV3.out, decide_eq_false (dup_take hlt (by rw [HX.out, ← HYm.out]; exact List.getElem_mem _))]; simp)
                          go_wp2_with fail
                          go_quiet (fail)
                          go_wp2_with fail
                          go_ret
                          exact ⟨by rw [HE.out]; rfl, HD.out.trans ((rf.below_drewN' HBM.out _).mono HD.out.size)⟩
                        · have e3 : (c.toList == x3.toList) = false := by rw [str_beq]; exact decide_eq_false hc
                          subst ha hb
                          go_wp2_with fail
                          go_quiet (fail)
                          go_wp2_with fail
                          exact ⟨⟨m + 1, by omega, by go_num, hide ⟨rf.below_drewN' HM.out.1 _, take_ne hkl HM.out.2 (by rw [HYm.out]; intro q; exact hc (Prod.mk.inj (Prod.mk.inj q).2).2)⟩⟩, by simp [intOf]; omega⟩
                      · have e2 : (b.toList == x2.toList) = false := by rw [str_beq]; exact decide_eq_false hb
                        subst ha
                        go_wp2_with fail
                        go_quiet (fail)
                        go_wp2_with fail
                        exact ⟨⟨m + 1, by omega, by go_num, hide ⟨rf.below_drewN' HM.out.1 _, take_ne hkl HM.out.2 (by rw [HYm.out]; intro q; exact hb (Prod.mk.inj (Prod.mk.inj q).2).1)⟩⟩, by simp [intOf]; omega⟩
                    · have e1 : (a.toList == x1.toList) = false := by rw [str_beq]; exact decide_eq_false ha
                      go_wp2_with fail
                      go_quiet (fail)
                      go_wp2_with fail
                      exact ⟨⟨m + 1, by omega, by go_num, hide ⟨rf.below_drewN' HM.out.1 _, take_ne hkl HM.out.2 (by rw [HYm.out]; intro q; exact ha (Prod.mk.inj q).1)⟩⟩, by simp [intOf]; omega⟩
                  · obtain rfl : m = k := by omega
                    have im : ¬ (m : Int) < (m : Int) := by omega
                    go_wp2
                    exact ⟨⟨m + 1, by omega, by go_num, hide ⟨HBM.out, all_next hlt HN.out.2.1 (by rw [HX.out]; exact HRk.out), nodup_take hlt HN.out.2.2 (by
                      rw [HX.out]
                      intro q
                      have := HM.out.2 (x1, x2, x3) (by rw [List.take_take, Nat.min_self]; exact q)
                      exact this rfl)⟩⟩, by simp [intOf]; omega⟩
            · obtain rfl : k = R.length := by omega
              have i2 : ¬ (R.length : Int) < (R.length : Int) := by omega
              go_wp2
              go_ret
              obtain ⟨a, b, c⟩ := HN.out
              rw [List.take_length] at b c
              exact ⟨by rw [HV3.out, b, decide_eq_true c]; rfl, HD.out.trans (a.mono HD.out.size)⟩
end Go.Proofs.YtmagchclmmphaabGreatDoor
