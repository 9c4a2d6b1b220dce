import Derived.Test.YtchoopnjckcohaaGreatDoorQbi
set_option maxRecDepth 100000
set_option maxHeartbeats 40000000
namespace Go.Proofs.YtchoopnjckcohaaGreatDoor
open Go.RowKit Go.Maps Go.Shelf
attribute [local go_sem] Oper.semAt_some
open Classical in
noncomputable def staB (L : List Int → Bool) (W : List Int) (k : Nat) : Bool := decide (Stk (fun U => L U = true) (W.take k))
open Classical in
noncomputable def stpB (L : List Int → Bool) (W : List Int) (t f : Nat) : Bool := decide (∃ j, j < f ∧ staB L W j = true ∧ L ((W.take t).drop j) = true)
noncomputable def gB (L : List Int → Bool) (W : List Int) (t f c : Nat) : Bool := if c < t then staB L W c else if c = t then stpB L W t f else false
theorem staB_iff {L : List Int → Bool} {W : List Int} {k : Nat} : staB L W k = true ↔ Stk (fun U => L U = true) (W.take k) := by
 unfold staB
 simp only [decide_eq_true_eq]
theorem stpB_iff {L : List Int → Bool} {W : List Int} {t f : Nat} : stpB L W t f = true ↔ ∃ j, j < f ∧ staB L W j = true ∧ L ((W.take t).drop j) = true := by
 unfold stpB
 simp only [decide_eq_true_eq]
theorem stp_zero {L : List Int → Bool} {W : List Int} {t : Nat} : stpB L W t 0 = false := by
 rw [Bool.eq_false_iff, Ne, stpB_iff]
 rintro ⟨j, hj, _⟩
 omega
theorem stp_next {L : List Int → Bool} {W : List Int} {t f : Nat} : stpB L W t (f + 1) = (stpB L W t f || (staB L W f && L ((W.take t).drop f))) := by
 rw [Bool.eq_iff_iff, Bool.or_eq_true, Bool.and_eq_true, stpB_iff, stpB_iff]
 constructor
 · rintro ⟨j, hj, h⟩
   by_cases e : j = f
   · subst e; exact .inr h
   · exact .inl ⟨j, by omega, h⟩
 · rintro (⟨j, hj, h⟩ | h)
   · exact ⟨j, by omega, h⟩
   · exact ⟨f, by omega, h⟩
theorem stp_full {L : List Int → Bool} {W : List Int} {t : Nat} (h0 : 0 < t) (ht : t ≤ W.length) : stpB L W t t = staB L W t := by
 rw [Bool.eq_iff_iff, stpB_iff, staB_iff]
 constructor
 · rintro ⟨j, hj, h1, h2⟩
   have e : W.take j ++ (W.take t).drop j = W.take t := by
    have := List.take_append_drop j (W.take t)
    rw [List.take_take, Nat.min_eq_left (by omega)] at this
    exact this
   rw [← e]
   refine (staB_iff.1 h1).snoc (fun e2 => ?_) h2
   have := congrArg List.length e2
   rw [List.length_drop, List.length_take, List.length_nil] at this
   omega
 · intro h
   rcases h.last with e | ⟨A, U, e, u1, u2, u3⟩
   · have := congrArg List.length e
     rw [List.length_take, List.length_nil] at this
     omega
   · have hl := congrArg List.length e
     rw [List.length_take, List.length_append] at hl
     have hu : 0 < U.length := List.length_pos_iff.2 u1
     refine ⟨A.length, by omega, staB_iff.2 ?_, ?_⟩
     · have : (W.take t).take A.length = A := by rw [e, List.take_left]
       rw [List.take_take, Nat.min_eq_left (by omega)] at this
       rw [this]
       exact u3
     · rw [e, List.drop_left]
       exact u2
theorem gB_start {L : List Int → Bool} {W : List Int} (c : Nat) : gB L W 1 0 c = if c = 0 then true else false := by
 unfold gB
 by_cases e : c = 0
 · subst e
   rw [if_pos (by omega), if_pos rfl, staB_iff]
   exact .nil
 · rw [if_neg (by omega), if_neg e]
   split
   · subst_vars; exact stp_zero
   · rfl
theorem gB_turn {L : List Int → Bool} {W : List Int} {t : Nat} (h0 : 0 < t) (ht : t ≤ W.length) (c : Nat) : gB L W t t c = gB L W (t + 1) 0 c := by
 unfold gB
 by_cases e : c < t
 · rw [if_pos e, if_pos (by omega)]
 · rw [if_neg e]
   by_cases e2 : c = t
   · subst e2
     rw [if_pos rfl, if_pos (by omega), stp_full h0 ht]
   · rw [if_neg e2, if_neg (by omega)]
     split
     · exact stp_zero.symm
     · rfl
theorem gB_same {L : List Int → Bool} {W : List Int} {t f : Nat} (h : (staB L W f && L ((W.take t).drop f)) = false) (c : Nat) : gB L W t f c = gB L W t (f + 1) c := by
 unfold gB
 rw [stp_next, h, Bool.or_false]
theorem gB_set {L : List Int → Bool} {W : List Int} {t f : Nat} (h : (staB L W f && L ((W.take t).drop f)) = true) (c : Nat) : (if c = t then true else gB L W t f c) = gB L W t (f + 1) c := by
 unfold gB
 rw [stp_next, h, Bool.or_true]
 by_cases e : c = t
 · rw [if_pos e, if_neg (by omega), if_pos e]
 · rw [if_neg e, if_neg e, if_neg e]
theorem starred_any (w : World) (n m : Int) (a1 a2 a3 : Option Addr) (c1 c2 c3 n1 n2 n3 : Nat) (Sa Fa : List Int) (Ea : List EdT) (en : Hid (Sa.length = n1 ∧ Fa.length = n2 ∧ Ea.length = n3)) (hA : Hid (RdA w a1 a2 a3 Sa Fa Ea)) (h1 : n1 ≤ 4194304) (h2 : n2 ≤ 4194304) (h3 : n3 ≤ 4194304) (aw : Option Addr) (nw cw : Nat) (Wd : List Int) (HNW : Hid (Wd.length = nw)) (hU : Hid (RdN w aw Wd)) (hcw : nw ≤ cw) (hnw : nw ≤ 4194304) :
 Calls Tryz.prog 27 #[.agg #[.int .i64 n, .int .i64 m, .slice a1 n1 c1, .slice a2 n2 c2, .slice a3 n3 c3], .slice aw nw cw] w fun e w' => e = .returned (.bool (staB (tkF n m Sa Fa Ea) Wd nw)) ∧ Below w.heap.size w w' := by
 obtain ⟨W0, hW0⟩ : ∃ W0, w.alloc (.cells #[.int .i64 n, .int .i64 m, .slice a1 n1 c1, .slice a2 n2 c2, .slice a3 n3 c3] 25) = W0 := ⟨_, rfl⟩
 have HD : Hid (Below w.heap.size w W0 ∧ W0.heap[w.heap.size]? = some (.cells #[.int .i64 n, .int .i64 m, .slice a1 n1 c1, .slice a2 n2 c2, .slice a3 n3 c3] 25 (0, 0))) := hide (by rw [← hW0]; exact ⟨(Below.refl _ _).alloc (Nat.le_refl _) _, World.alloc_heap_new _ _⟩)
 obtain ⟨i4, hi4, hz40, hz41, hz42⟩ := info_parts info4
 go_enter Tryz.func27, Tryz.ntmps27
 go_upto_region 2 with (at_make; refine wpList_make_full _ rfl _ _ 77 rfl W0.heap.size 4 i4 (.bool false) 1 Tryz.underlying77 hi4 hz40 hz41 _ _ _ _ (nw + 1) rfl rfl (by go_num) (by go_num) (by rw [hz42]; omega) (by unfold maxLen; omega) (Nat.le_refl _) ?_; intro w6 ho hg)
 have H6 : Hid (Mrw w6 W0.heap.size 4 (nw + 1) (fun _ => .bool false) (nw + 1) ∧ Below W0.heap.size W0 w6) := hide (by
  have t := ho
  rw [Nat.mul_one] at t
  exact ⟨(mask_made t).2, (Below.refl _ _).grown hg (Nat.le_refl _) (by intro k hk; cases hk)⟩)
 clear ho hg hW0
 have j0 : (0 : Int) < (nw : Int) + 1 := by omega
 have cu := H6.out.1.at 0 (by omega)
 have zu : w6.frozen? ⟨W0.heap.size, 0, none⟩ = false := H6.out.1.fz 0
 have H7 : Hid (Mrw (w6.setCell ⟨W0.heap.size, 0, none⟩ (.bool true)) W0.heap.size 4 (nw + 1) (fun c => .bool (gB (tkF n m Sa Fa Ea) Wd 1 0 c)) (nw + 1) ∧ Below W0.heap.size W0 (w6.setCell ⟨W0.heap.size, 0, none⟩ (.bool true))) := hide ⟨(H6.out.1.upd 0 (.bool true)).congr (fun c _ => by rw [gB_start]; by_cases e : c = 0 <;> simp [e]), H6.out.2.setCell (Nat.le_refl _) _⟩
 go_wp2_with fail
 go_loopw [6] (fun tv wr => ∃ t : Nat, 0 < t ∧ t ≤ nw + 1 ∧ tv = .int .i64 (t : Int) ∧ Hid (Mrw wr W0.heap.size 4 (nw + 1) (fun c => .bool (gB (tkF n m Sa Fa Ea) Wd t 0 c)) (nw + 1) ∧ Below W0.heap.size W0 wr)) (fun tv _ => nw + 1 - (intOf tv).toNat)
 case atStart => exact ⟨1, by omega, by omega, rfl, H7⟩
 case round =>
  rename World => wo
  obtain ⟨t, ht0, ht1, rfl, HY⟩ := hrel
  clear H6 H7 cu zu
  by_cases hle : t ≤ nw
  · have i1 : (t : Int) ≤ (nw : Int) := by omega
    go_wp2_with fail
    go_loopw [7] (fun fv wr => ∃ f : Nat, f ≤ t ∧ fv = .int .i64 (f : Int) ∧ Hid (Mrw wr W0.heap.size 4 (nw + 1) (fun c => .bool (gB (tkF n m Sa Fa Ea) Wd t f c)) (nw + 1) ∧ Below W0.heap.size W0 wr)) (fun fv _ => t - (intOf fv).toNat)
    case atStart => exact ⟨0, Nat.zero_le _, rfl, HY⟩
    case round =>
     obtain ⟨f, hf, rfl, HZ⟩ := hrel
     clear HY
     by_cases hft : f < t
     · have i2 : (f : Int) < (t : Int) := by omega
       have i3 : (0 : Int) ≤ (f : Int) := by omega
       have i4' : (f : Int) < (nw : Int) + 1 := by omega
       have i5 : (0 : Int) ≤ (t : Int) := by omega
       have i6 : (t : Int) < (nw : Int) + 1 := by omega
       have HW := hide HZ.out.2
       have HM0 := hide HZ.out.1
       have TA : Hid (∀ W, Below wr.heap.size wr W → ∀ (ad : Option Addr) (c : Nat), RdN W ad ((Wd.take t).drop f) → Calls Tryz.prog 11 #[.agg #[.int .i64 n, .int .i64 m, .slice a1 n1 c1, .slice a2 n2 c2, .slice a3 n3 c3], .slice ad (t - f) c] W fun e w' => e = .returned (.bool ((tkF n m Sa Fa Ea) ((Wd.take t).drop f))) ∧ Below W.heap.size W w') := hide (fun W d ad c hr => by
        have q := ltakes_any W n m a1 a2 a3 c1 c2 c3 Sa Fa Ea ad c ((Wd.take t).drop f) (hide (hA.out.on (HD.out.1.trans ((HW.out.trans (d.mono HW.out.size)).mono HD.out.1.size)))) (hide hr) (by have := en.out; omega) (by have := en.out; omega) (by have := en.out; omega) (by rw [List.length_drop, List.length_take]; omega)
        rw [en.out.1, en.out.2.1, en.out.2.2, List.length_drop, List.length_take, HNW.out, Nat.min_eq_left hle] at q
        exact q)
       obtain ⟨vb, hvb⟩ : ∃ v, (tkF n m Sa Fa Ea) ((Wd.take t).drop f) = v := ⟨_, rfl⟩
       rw [hvb] at TA
       obtain ⟨va, hva⟩ : ∃ v, staB (tkF n m Sa Fa Ea) Wd f = v := ⟨_, rfl⟩
       have HSF : Hid (gB (tkF n m Sa Fa Ea) Wd t f f = va) := hide (by unfold gB; rw [if_pos hft, hva])
       have HV := hide (And.intro hva hvb)
       clear hva hvb
       go_upto_region 9 with fail
       go_cut [36] (fun v W => v = .bool (va && vb) ∧ Hid (Below wr.heap.size wr W))
       case first =>
        cases va with
        | false =>
         have hmo : MonIL 0 [vI 0 (.slice (some ⟨W0.heap.size, 0, none⟩) (nw + 1) (nw + 1)), vI 1 (.int .i64 (f : Int)), vI 2 (.pointer (some ⟨W0.heap.size, f, none⟩)), vI 3 (.bool false), vI 4 (.bool false), vI 5 (undef), vI 6 (undef), vI 7 (undef), vI 8 (undef), vI 9 (undef), vI 10 (undef), vI 11 (.bool false)] := ⟨vI_mono _ _, vI_mono _ _, vI_mono _ _, vI_mono _ _, vI_mono _ _, vI_mono _ _, vI_mono _ _, vI_mono _ _, vI_mono _ _, vI_mono _ _, vI_mono _ _, vI_mono _ _, trivial⟩
         refine wp_region_sl _ (by kernel_rfl) (by kernel_rfl) (by kernel_rfl) (by kernel_rfl) hmo ⟨?o0, ?o1, ?o2, ?o3, ?o4, ?o5, ?o6, ?o7, ?o8, ?o9, ?o10, ?o11, trivial⟩ ?fin
         case o0 =>
          intro At yy W hy hb d hd K hK
          obtain ⟨s5, s5'⟩ := zsb (hb 5 rfl : _ = .slice (some ⟨W0.heap.size, 0, none⟩) (nw + 1) (nw + 1))
          clear hd hy hb
          go_simp
          exact zkq hK hmo d (if_pos rfl)
         case o1 =>
          intro At yy W hy hb d hd K hK
          obtain ⟨s7, s7'⟩ := zsb (hb 7 rfl : _ = .int .i64 (f : Int))
          clear hd hy hb
          go_simp
          exact zkq hK hmo d (if_pos rfl)
         case o2 =>
          intro At yy W hy hb d hd K hK
          obtain ⟨s25, s25'⟩ := zsg 0 25 .data hy hd rfl
          obtain ⟨s26, s26'⟩ := zsg 1 26 .data hy hd rfl
          clear hd hy hb
          go_simp
          exact zkq hK hmo d (if_pos rfl)
         case o3 =>
          intro At yy W hy hb d hd K hK
          obtain ⟨s27, s27'⟩ := zsg 2 27 .data hy hd rfl
          clear hd hy hb
          have ce : W.cell? ⟨W0.heap.size, f, none⟩ = some (.bool false) := by have := (HM0.out.below d HM0.out.lt).at f (by omega); rw [this, HSF.out]
          go_simp
          exact zkq hK hmo d (if_pos rfl)
         case o4 =>
          intro At yy W hy hb d hd K hK
          obtain ⟨s28, s28'⟩ := zsg 3 28 .data hy hd rfl
          clear hd hy hb
          go_simp
          exact zkq hK hmo d (if_pos rfl)
         case o5 =>
          intro At yy W hy hb d hd K hK
          have g29 := zgd 4 29 hy hd rfl
          clear hd hy hb
          go_simp
          exact zkq hK hmo d (if_pos rfl)
         case o6 =>
          intro At yy W hy hb d hd K hK
          have g29 := zgd 4 29 hy hd rfl
          clear hd hy hb
          go_simp
          exact zkq hK hmo d (if_pos rfl)
         case o7 =>
          intro At yy W hy hb d hd K hK
          have g29 := zgd 4 29 hy hd rfl
          clear hd hy hb
          go_simp
          exact zkq hK hmo d (if_pos rfl)
         case o8 =>
          intro At yy W hy hb d hd K hK
          have g29 := zgd 4 29 hy hd rfl
          clear hd hy hb
          go_simp
          exact zkq hK hmo d (if_pos rfl)
         case o9 =>
          intro At yy W hy hb d hd K hK
          have e6 := zev (hd ⟨6, .data⟩ (by simp) rfl rfl) rfl
          have e7 := zev (hd ⟨7, .data⟩ (by simp) rfl rfl) rfl
          have e8 := zev (hd ⟨8, .data⟩ (by simp) rfl rfl) rfl
          have g29 := zgd 4 29 hy hd rfl
          clear hd hy hb
          go_simp
          exact zkq hK hmo d (if_pos rfl)
         case o10 =>
          intro At yy W hy hb d hd K hK
          have e5 := zev (hd ⟨5, .data⟩ (by simp) rfl rfl) rfl
          have e9 := zev (hd ⟨9, .data⟩ (by simp) rfl rfl) rfl
          have g29 := zgd 4 29 hy hd rfl
          clear hd hy hb
          go_simp
          exact zkq hK hmo d (if_pos rfl)
         case o11 =>
          intro At yy W hy hb d hd K hK
          obtain ⟨s29, s29'⟩ := zsg 4 29 .data hy hd rfl
          obtain ⟨s35, s35'⟩ := zsg 10 35 .data hy hd rfl
          clear hd hy hb
          go_simp
          exact zkq hK hmo d (if_pos rfl)
         case fin =>
          intro yy lo hi W hM
          show wpList _ _ _ [] _ _
          have e0 := hM.v 0 (by simp) rfl rfl rfl
          have e1 := hM.v 1 (by simp) rfl rfl rfl
          have e2 := hM.v 2 (by simp) rfl rfl rfl
          have e3 := hM.v 3 (by simp) rfl rfl rfl
          have e4 := hM.v 4 (by simp) rfl rfl rfl
          have e5 := hM.v 5 (by simp) rfl rfl rfl
          have e6 := hM.v 6 (by simp) rfl rfl rfl
          have e7 := hM.v 7 (by simp) rfl rfl rfl
          have e8 := hM.v 8 (by simp) rfl rfl rfl
          have e9 := hM.v 9 (by simp) rfl rfl rfl
          have e10 := hM.v 10 (by simp) rfl rfl rfl
          have e11 := hM.v 11 (by simp) rfl rfl rfl
          have DW := hide hM.d
          simp only [fills, Act.put, List.take, List.length, List.setIfInBounds_toArray, List.set_cons_zero, List.set_cons_succ, e0, e1, e2, e3, e4, e5, e6, e7, e8, e9, e10, e11]
          clear hM hmo e0 e1 e2 e3 e4 e5 e6 e7 e8 e9 e10 e11
          go_wp2_with fail
          go_meet
          exact ⟨rfl, DW⟩
        | true =>
         have hmo : MonIL 0 [vI 0 (.slice (some ⟨W0.heap.size, 0, none⟩) (nw + 1) (nw + 1)), vI 1 (.int .i64 (f : Int)), vI 2 (.pointer (some ⟨W0.heap.size, f, none⟩)), vI 3 (.bool true), vI 4 (.bool true), vI 5 (.agg #[.int .i64 n, .int .i64 m, .slice a1 n1 c1, .slice a2 n2 c2, .slice a3 n3 c3]), vI 6 (.slice aw nw cw), vI 7 (.int .i64 (f : Int)), vI 8 (.int .i64 (t : Int)), pI 9 (wdP (t - f) ((Wd.take t).drop f)), vI 10 (.bool vb), vI 11 (.bool vb)] := ⟨vI_mono _ _, vI_mono _ _, vI_mono _ _, vI_mono _ _, vI_mono _ _, vI_mono _ _, vI_mono _ _, vI_mono _ _, vI_mono _ _, pI_mono wdP_mono, vI_mono _ _, vI_mono _ _, trivial⟩
         refine wp_region_sl _ (by kernel_rfl) (by kernel_rfl) (by kernel_rfl) (by kernel_rfl) hmo ⟨?o0, ?o1, ?o2, ?o3, ?o4, ?o5, ?o6, ?o7, ?o8, ?o9, ?o10, ?o11, trivial⟩ ?fin
         case o0 =>
          intro At yy W hy hb d hd K hK
          obtain ⟨s5, s5'⟩ := zsb (hb 5 rfl : _ = .slice (some ⟨W0.heap.size, 0, none⟩) (nw + 1) (nw + 1))
          clear hd hy hb
          go_simp
          exact zkq hK hmo d (if_pos rfl)
         case o1 =>
          intro At yy W hy hb d hd K hK
          obtain ⟨s7, s7'⟩ := zsb (hb 7 rfl : _ = .int .i64 (f : Int))
          clear hd hy hb
          go_simp
          exact zkq hK hmo d (if_pos rfl)
         case o2 =>
          intro At yy W hy hb d hd K hK
          obtain ⟨s25, s25'⟩ := zsg 0 25 .data hy hd rfl
          obtain ⟨s26, s26'⟩ := zsg 1 26 .data hy hd rfl
          clear hd hy hb
          go_simp
          exact zkq hK hmo d (if_pos rfl)
         case o3 =>
          intro At yy W hy hb d hd K hK
          obtain ⟨s27, s27'⟩ := zsg 2 27 .data hy hd rfl
          clear hd hy hb
          have ce : W.cell? ⟨W0.heap.size, f, none⟩ = some (.bool true) := by have := (HM0.out.below d HM0.out.lt).at f (by omega); rw [this, HSF.out]
          go_simp
          exact zkq hK hmo d (if_pos rfl)
         case o4 =>
          intro At yy W hy hb d hd K hK
          obtain ⟨s28, s28'⟩ := zsg 3 28 .data hy hd rfl
          clear hd hy hb
          go_simp
          exact zkq hK hmo d (if_pos rfl)
         case o5 =>
          intro At yy W hy hb d hd K hK
          obtain ⟨s2, s2'⟩ := zsb (hb 2 rfl : _ = .pointer (some ⟨w.heap.size, 0, none⟩))
          have g29 := zgd 4 29 hy hd rfl
          clear hd hy hb
          have bx1 := blk_on HD.out.2 (HW.out.trans (d.mono HW.out.size))
          obtain ⟨y0, y1, y2, y3, y4⟩ := zd5 bx1 rfl rfl rfl rfl rfl
          clear bx1
          go_simp
          exact zkq hK hmo d (if_pos rfl)
         case o6 =>
          intro At yy W hy hb d hd K hK
          obtain ⟨s1, s1'⟩ := zsb (hb 1 rfl : _ = .slice aw nw cw)
          have g29 := zgd 4 29 hy hd rfl
          clear hd hy hb
          go_simp
          exact zkq hK hmo d (if_pos rfl)
         case o7 =>
          intro At yy W hy hb d hd K hK
          obtain ⟨s7, s7'⟩ := zsb (hb 7 rfl : _ = .int .i64 (f : Int))
          have g29 := zgd 4 29 hy hd rfl
          clear hd hy hb
          go_simp
          exact zkq hK hmo d (if_pos rfl)
         case o8 =>
          intro At yy W hy hb d hd K hK
          obtain ⟨s6, s6'⟩ := zsb (hb 6 rfl : _ = .int .i64 (t : Int))
          have g29 := zgd 4 29 hy hd rfl
          clear hd hy hb
          go_simp
          exact zkq hK hmo d (if_pos rfl)
         case o9 =>
          intro At yy W hy hb d hd K hK
          have hkc : t ≤ cw := by omega
          obtain ⟨s31, s31'⟩ := zsg 6 31 .data hy hd rfl
          obtain ⟨s32, s32'⟩ := zsg 7 32 .data hy hd rfl
          obtain ⟨s33, s33'⟩ := zsg 8 33 .data hy hd rfl
          have g29 := zgd 4 29 hy hd rfl
          clear hd hy hb
          go_simp
          exact zkq hK hmo d ⟨_, _, if_pos rfl, rd_drop (rd_take (hU.out.on (HD.out.1.trans ((HW.out.trans (d.mono HW.out.size)).mono HD.out.1.size))) t) (by rw [List.length_take]; omega) (by rw [List.length_take, HNW.out]; omega)⟩
         case o10 =>
          intro At yy W hy hb d hd K hK
          have f9 := hd ⟨9, .data⟩ (by simp) rfl rfl
          obtain ⟨_, _, _, _, ad, c, e9, h9⟩ := f9
          obtain ⟨s30, s30'⟩ := zsg 5 30 .data hy hd rfl
          obtain ⟨s34, s34'⟩ := zsb ((hy 9 _ 34 rfl rfl).trans e9)
          have g29 := zgd 4 29 hy hd rfl
          clear hd hy hb
          go_simp
          go_wp2_with (go_at_call 11; refine (TA.out _ d ad c h9).mono ?_; rintro e wa ⟨rfl, dR⟩)
          exact hK.out _ wa (stp_of hmo d dR) (if_pos rfl)
         case o11 =>
          intro At yy W hy hb d hd K hK
          obtain ⟨s29, s29'⟩ := zsg 4 29 .data hy hd rfl
          obtain ⟨s35, s35'⟩ := zsg 10 35 .data hy hd rfl
          clear hd hy hb
          go_simp
          exact zkq hK hmo d (if_pos rfl)
         case fin =>
          intro yy lo hi W hM
          show wpList _ _ _ [] _ _
          have e0 := hM.v 0 (by simp) rfl rfl rfl
          have e1 := hM.v 1 (by simp) rfl rfl rfl
          have e2 := hM.v 2 (by simp) rfl rfl rfl
          have e3 := hM.v 3 (by simp) rfl rfl rfl
          have e4 := hM.v 4 (by simp) rfl rfl rfl
          have e5 := hM.v 5 (by simp) rfl rfl rfl
          have e6 := hM.v 6 (by simp) rfl rfl rfl
          have e7 := hM.v 7 (by simp) rfl rfl rfl
          have e8 := hM.v 8 (by simp) rfl rfl rfl
          have e10 := hM.v 10 (by simp) rfl rfl rfl
          have e11 := hM.v 11 (by simp) rfl rfl rfl
          have DW := hide hM.d
          obtain ⟨_, _, e9, _⟩ := hM.fact 9 (by simp) rfl (notR_all 9 rfl)
          simp only [fills, Act.put, List.take, List.length, List.setIfInBounds_toArray, List.set_cons_zero, List.set_cons_succ, e0, e1, e2, e3, e4, e5, e6, e7, e8, e10, e11, e9]
          clear hM hmo e0 e1 e2 e3 e4 e5 e6 e7 e8 e10 e11
          go_wp2_with fail
          go_meet
          exact ⟨rfl, DW⟩
       case rest =>
        rename World => wc
        obtain ⟨rfl, HC⟩ := hcut
        have HM := hide (HM0.out.below HC.out HM0.out.lt)
        have HBc : Hid (Below W0.heap.size W0 wc) := hide (HW.out.trans (HC.out.mono HW.out.size))
        cases hv : (va && vb) with
        | true =>
         have cu := HM.out.at t (by omega)
         have zu : wc.frozen? ⟨W0.heap.size, t, none⟩ = false := HM.out.fz t
         have J : Hid (Mrw (wc.setCell ⟨W0.heap.size, t, none⟩ (.bool true)) W0.heap.size 4 (nw + 1) (fun c => .bool (gB (tkF n m Sa Fa Ea) Wd t (f + 1) c)) (nw + 1) ∧ Below W0.heap.size W0 (wc.setCell ⟨W0.heap.size, t, none⟩ (.bool true))) := hide ⟨(HM.out.upd t (.bool true)).congr (fun c _ => by rw [← gB_set (by rw [HV.out.1, HV.out.2]; exact hv) c]; by_cases e : c = t <;> simp [e]), HBc.out.setCell (Nat.le_refl _) _⟩
         go_wp2_with fail
         exact ⟨⟨f + 1, by omega, by go_num, J⟩, by simp [intOf]; omega⟩
        | false =>
         have J : Hid (Mrw wc W0.heap.size 4 (nw + 1) (fun c => .bool (gB (tkF n m Sa Fa Ea) Wd t (f + 1) c)) (nw + 1) ∧ Below W0.heap.size W0 wc) := hide ⟨HM.out.congr (fun c _ => by rw [gB_same (by rw [HV.out.1, HV.out.2]; exact hv) c]), HBc.out⟩
         go_wp2_with fail
         exact ⟨⟨f + 1, by omega, by go_num, J⟩, by simp [intOf]; omega⟩
     · have i2 : ¬ (f : Int) < (t : Int) := by omega
       obtain rfl : f = t := by omega
       have J : Hid (Mrw wr W0.heap.size 4 (nw + 1) (fun c => .bool (gB (tkF n m Sa Fa Ea) Wd (f + 1) 0 c)) (nw + 1) ∧ Below W0.heap.size W0 wr) := hide ⟨HZ.out.1.congr (fun c _ => by rw [gB_turn ht0 (by rw [HNW.out]; exact hle) c]), HZ.out.2⟩
       go_wp2_with fail
       exact ⟨⟨f + 1, by omega, by omega, by go_num, J⟩, by simp [intOf]; omega⟩
  · have i1 : ¬ (t : Int) ≤ (nw : Int) := by omega
    obtain rfl : t = nw + 1 := by omega
    have cu := HY.out.1.at nw (by omega)
    have HE : Hid (gB (tkF n m Sa Fa Ea) Wd (nw + 1) 0 nw = staB (tkF n m Sa Fa Ea) Wd nw) := hide (by unfold gB; rw [if_pos (by omega)])
    rw [HE.out] at cu
    have i2 : (0 : Int) ≤ (nw : Int) := by omega
    have i3 : (nw : Int) < (nw : Int) + 1 := by omega
    go_wp2_with fail
    go_ret
    exact ⟨rfl, HD.out.1.trans (HY.out.2.mono HD.out.1.size)⟩
theorem joined_any (w : World) (a1 a2 : Option Addr) (c1 c2 n1 n2 : Nat) (U V : List Int) (en : Hid (U.length = n1 ∧ V.length = n2)) (hU : Hid (RdN w a1 U)) (hV : Hid (RdN w a2 V)) (z1 : Hid (a1 = none → c1 = 0)) (z2 : Hid (a2 = none → c2 = 0)) (h1 : n1 ≤ 4194304) (h2 : n2 ≤ 4194304) :
 Calls Tryz.prog 18 #[.slice a1 n1 c1, .slice a2 n2 c2] w fun e w' => ∃ b c, e = .returned (.slice b (n1 + n2) c) ∧ Hid (RdN w' b (U ++ V)) ∧ Below w.heap.size w w' := by
 obtain ⟨W6, hW6⟩ : ∃ W, w.alloc (.cells #[] 3) = W := ⟨_, rfl⟩
 have H6 : Hid (W6.heap[w.heap.size]? = some (.cells #[] 3 (0, 0)) ∧ Below w.heap.size w W6 ∧ W6.heap.size = w.heap.size + 1) := hide (by rw [← hW6]; exact ⟨World.alloc_heap_new _ _, (Below.refl _ _).alloc (Nat.le_refl _) _, by simp⟩)
 have O6 := hide (own_zero H6.out.1 (Nat.le_refl _))
 have R6 := hide (hU.out.on H6.out.2.1)
 go_enter Tryz.func18, Tryz.ntmps18
 go_wp2_with (first
  | (at_builtin; refine wpList_appL rfl _ _ rfl w.heap.size (.slice (some ⟨w.heap.size, 0, none⟩) 0 0) [] rfl O6.out a1 n1 c1 U en.out.1 z1.out rfl R6.out (by have := en.out; simp; omega) (by have := H6.out.2.2; omega) ?_; intro v7 w7 HO7 HG7; rw [List.nil_append, en.out.1] at HO7; obtain ⟨z7, d7, e7⟩ := own_slice HO7.out; subst e7; have D7 : Hid (Below w.heap.size w w7) := hide (H6.out.2.1.trans (HG7.out.toBelow H6.out.2.1.size (fun k hk => (O6.out.lt k hk).1))))
  | (at_builtin; refine wpList_appL rfl _ _ rfl w.heap.size (.slice z7 n1 d7) U rfl (by rw [en.out.1]; exact HO7.out) a2 n2 c2 V en.out.2 z2.out rfl (hV.out.on D7.out) (by have := en.out; omega) D7.out.size ?_; intro v8 w8 HO8 HG8; obtain ⟨z8, d8, e8⟩ := own_slice HO8.out; subst e8; have D8 : Hid (Below w.heap.size w w8) := hide (D7.out.trans (HG8.out.toBelow D7.out.size (fun k hk => (HO7.out.lt k hk).1))))
  | fail)
 go_ret
 exact ⟨z8, d8, by rw [← en.out.1, ← en.out.2]; rfl, hide (own_rdN HO8.out), D8.out⟩
def LnA (r : Ans) : Prop := r.s.length ≤ 4000000 ∧ r.f.length ≤ 4000000 ∧ r.e.length ≤ 1000000
theorem len_bad (er : Int) : LnA (badA er) := ⟨Nat.zero_le _, Nat.zero_le _, Nat.zero_le _⟩
theorem aft_len {b : Nat} {Ed : List EdT} {S Wd : List Int} (hs : S.length ≤ b) (h3 : Ed.length ≤ b) : (aftL Ed S Wd).length ≤ b := by
 rcases Wd.eq_nil_or_concat with rfl | ⟨l, y, rfl⟩
 · exact hs
 · unfold aftL
   rw [List.concat_eq_append, List.foldl_append]
   exact Nat.le_trans (riseL_len _) (Nat.le_trans (imgL_len _ _ _ _) h3)
theorem rch_len {n m : Int} {bk : Bool} {Sa Fa : List Int} {Ea : List EdT} (h : mayA n m Sa Fa Ea = true) : (rchL bk n m Sa Fa Ea).length ≤ 4096 := by
 unfold rchL
 rw [if_pos h]
 have := maskL_len n.toNat (fun q => @decide (∃ k, Wlk (fun q => (q : Int) ∈ if bk then Fa else Sa) (stepE bk Ea) k q) (Classical.propDecidable _))
 have := (may_parts h).1
 omega
theorem may_e {n m : Int} {Sa Fa : List Int} {Ea : List EdT} (h : mayA n m Sa Fa Ea = true) : (riseE Ea).length ≤ 65536 := Nat.le_trans (riseE_len _) (may_parts h).2.2.1
theorem mkA_len {k : Nat} {n m : Int} {Sa Fa : List Int} {Ea : List EdT} {n' m' : Int} {Sb Fb : List Int} {Eb : List EdT} {Wd : List Int} {s : Int} (h1 : Sa.length ≤ 2000000) (h2 : Fa.length ≤ 2000000) (h3 : Ea.length ≤ 2000000) (h4 : Sb.length ≤ 2000000) (h5 : Fb.length ≤ 2000000) : LnA (mkA k n m Sa Fa Ea n' m' Sb Fb Eb Wd s) := by
 have r1 := riseL_len Sa
 have r2 := riseL_len Fa
 have r4 := riseL_len Sb
 have r5 := riseL_len Fb
 unfold mkA
 split
 · by_cases h : unErr n m n' m' Sa Fa Ea Sb Fb Eb = 0
   · rcases un_cases n m n' m' Sa Fa Ea Sb Fb Eb with ⟨_, h'⟩ | ⟨_, _, h'⟩ | ⟨_, _, _, h'⟩ | ⟨_, _, _, _, h'⟩ | ⟨_, _, _, _, _, h'⟩ | ⟨_, _, _, _, e5, _⟩
     iterate 5 (rw [h] at h'; cases h')
     unfold uniAns
     rw [if_pos h]
     refine ⟨?_, ?_, ?_⟩
     · show (riseL Sa ++ shL n (riseL Sb)).length ≤ _
       simp only [List.length_append, shL, List.length_map]; omega
     · show (riseL Fa ++ shL n (riseL Fb)).length ≤ _
       simp only [List.length_append, shL, List.length_map]; omega
     · show (riseE Ea ++ shEs n (riseE Eb)).length ≤ _
       simp only [List.length_append, shEs, List.length_map]; omega
   · rw [uni_bad rfl h]; exact len_bad _
 split
 · unfold conA
   split
   · unfold behA
     split
     · exact len_bad _
     · refine ⟨?_, ?_, ?_⟩
       · show (if emptB (riseL Sa) (riseL Fa) then _ else _ : List Int).length ≤ _
         split
         · simp only [List.length_append, movN_len]; omega
         · omega
       · show (if emptB (movN (riseL Sb) n) (movN (riseL Fb) n) then _ else _ : List Int).length ≤ _
         split
         · simp only [List.length_append, movN_len]; omega
         · rw [movN_len]; omega
       · show (brL (riseE Ea) (riseL Fa) (movN (riseL Sb) n) m.toNat n.toNat ++ movE (riseE Eb) n).length ≤ _
         rw [List.length_append]; omega
   · exact len_bad _
 split
 · unfold staA
   split
   · split
     · unfold agaA
       split
       · exact len_bad _
       · refine ⟨?_, ?_, ?_⟩
         · show ([0] ++ movN (riseL Sa) 1).length ≤ _
           simp only [List.length_append, movN_len, List.length_singleton]; omega
         · show ([0] ++ movN (riseL Fa) 1).length ≤ _
           simp only [List.length_append, movN_len, List.length_singleton]; omega
         · show (brL (movE (riseE Ea) 1) (movN (riseL Fa) 1) (movN (riseL Sa) 1) m.toNat (n.toNat + 1)).length ≤ _
           omega
     · exact len_bad _
   · exact len_bad _
 split
 · unfold preA
   split
   · rename_i h; have q := rch_len (bk := true) h; have t := may_e h
     refine ⟨?_, ?_, ?_⟩
     · show (riseL Sa).length ≤ _; omega
     · show (rchL true n m Sa Fa Ea).length ≤ _; omega
     · show (riseE Ea).length ≤ _; omega
   · exact len_bad _
 split
 · unfold sufA
   split
   · rename_i h; have q := rch_len (bk := false) h; have t := may_e h
     refine ⟨?_, ?_, ?_⟩
     · show (rchL false n m Sa Fa Ea).length ≤ _; omega
     · show (riseL Fa).length ≤ _; omega
     · show (riseE Ea).length ≤ _; omega
   · exact len_bad _
 split
 · unfold lefA
   split
   · rename_i h; have t := may_e (wordErr_zero h).1
     have q := aft_len (b := 2000000) (Ed := Ea) (S := riseL Sa) (Wd := Wd) (by omega) h3
     refine ⟨?_, ?_, ?_⟩
     · show (aftL Ea (riseL Sa) Wd).length ≤ _; omega
     · show (riseL Fa).length ≤ _; omega
     · show (riseE Ea).length ≤ _; omega
   · exact len_bad _
 split
 · unfold rigA
   split
   · rename_i h; have t := may_e (wordErr_zero h).1
     have q := aft_len (b := 2000000) (Ed := riseE (turnE Ea)) (S := riseL Fa) (Wd := Wd.reverse) (by omega) (Nat.le_trans (riseE_len _) (by rw [turnE_len]; exact h3))
     refine ⟨?_, ?_, ?_⟩
     · show (riseL Sa).length ≤ _; omega
     · show (aftL (riseE (turnE Ea)) (riseL Fa) Wd.reverse).length ≤ _; omega
     · show (riseE Ea).length ≤ _; omega
   · exact len_bad _
 split
 · unfold onA
   split
   · exact len_bad _
   · split
     · split
       · refine ⟨?_, ?_, ?_⟩
         · show ([0] : List Int).length ≤ _; simp
         · show ([(Wd.length : Int)] : List Int).length ≤ _; simp
         · show (oneE Wd).length ≤ _; rw [oneE_len]; omega
       · exact len_bad _
     · exact len_bad _
 split
 · unfold alA
   split
   · rename_i h
     obtain ⟨q, rfl, hq⟩ := sym_nat h
     refine ⟨?_, ?_, ?_⟩
     · show ([0] : List Int).length ≤ _; simp
     · show ([0] : List Int).length ≤ _; simp
     · show (allE (q : Int).toNat).length ≤ _; rw [allE_len, Int.toNat_natCast]; omega
   · exact len_bad _
 · unfold noA
   split
   · exact ⟨Nat.zero_le _, Nat.zero_le _, Nat.zero_le _⟩
   · exact len_bad _
section
variable {w W W' : World} {B D1 D2 : Nat} {A C : Array Value} {g1 k1 g2 k2 g3 k3 p1 j1 p2 j2 p3 j3 gw cw : Nat} {St Fi : List Int} {Ed : List EdT} {St' Fi' : List Int} {Ed' : List EdT} {Wd : List Int}
end
end Go.Proofs.YtchoopnjckcohaaGreatDoor
namespace Go.Proofs.YtchoopnjckcohaaGreatDoor
open Go.RowKit
def dirB (ops : Array Oper) (n : Nat) : Bool := (List.range ops.size).all fun j => decide (j < n) || (List.range n).all fun i => match ops[j]? with
 | none => false
 | some o => o.after.any fun e => Region.binds .any e && e.on == i
theorem phasedB_dir {ops : Array Oper} {n : Nat} (h : dirB ops n = true) : phasedB .any ops n = true := by
 unfold dirB at h
 unfold phasedB
 rw [List.all_eq_true] at h ⊢
 intro j hj
 have q := h j hj
 rw [Bool.or_eq_true] at q ⊢
 rcases q with q | q
 · exact .inl q
 · right
   rw [List.all_eq_true] at q ⊢
   intro i hi
   have r := q i hi
   have hs : 0 < ops.size := by have := List.mem_range.1 hj; omega
   obtain ⟨f, hf⟩ : ∃ f, ops.size = f + 1 := ⟨ops.size - 1, by omega⟩
   rw [hf]
   unfold waitsL
   split at r
   · cases r
   · rename_i o ho
     rw [ho]
     simp only
     rw [Array.any_eq_true'] at r ⊢
     obtain ⟨e, he, hb⟩ := r
     rw [Bool.and_eq_true] at hb
     exact ⟨e, he, by rw [hb.1, hb.2]; rfl⟩
theorem stB_dir {ops : Array Oper} {n : Nat} {rs rd : List (List Nat)} (h : (Nat.ble n ops.size && dirB ops n && depsB ops n && lineB .any ops (ops.size - n) n (Array.ofFn (n := ops.size) fun i => decide (i.1 < n)) && retB ops n rs rd) = true) : stB ops n rs rd = true := by
 simp only [Bool.and_eq_true] at h
 unfold stB makeB
 simp only [Bool.and_eq_true]
 exact ⟨⟨⟨⟨h.1.1.1.1, phasedB_dir h.1.1.1.2⟩, h.1.1.2⟩, h.1.2⟩, h.2⟩
theorem zsh {A a : Act} {t : Nat} {v : Value} (h : A.tmps.getD t undef = a.tmps.getD t undef) (e : a.tmps.toList[t]? = some v) : A.tmps.getD t undef = v ∧ A.tmps[t]?.getD undef = v := zsb (h.trans (by rw [Array.getD_eq_getD_getElem?, ← Array.getElem?_toList, e]; rfl))
end Go.Proofs.YtchoopnjckcohaaGreatDoor
