import Derived.Test.YtgnpdhgphkocoaaGreatDoorSd
import Derived.Test.YtgnpdhgphkocoaaGreatDoorKc
import Derived.Deep.RegionLaw
namespace Go.Proofs.YtgnpdhgphkocoaaGreatDoor
open Go.RowKit Go.Maps
attribute [local go_sem] Oper.semAt_some
/-! ### follow -/
def addL (X : Nat) (l : List Nat) : Nat := l.foldl (fun R t => R ||| 2 ^ t) X
theorem addL_snoc (X : Nat) (l : List Nat) (t : Nat) : addL X (l ++ [t]) = addL X l ||| 2 ^ t := by unfold addL; rw [List.foldl_append]; rfl
/-- What follows a set by a symbol: over its states that the symbol leads on from. -/
def folR (N : Nat) (Ed : List EdT) (sym : Nat) (E : List Nat) : Nat := E.foldl (fun R p => addL R (tosF N Ed (sym * N + p))) 0
def folF (N : Nat) (Ed : List EdT) (X sym : Nat) : Nat := folR N Ed sym (elems N (X &&& leaF Ed sym))
theorem folR_take {N : Nat} {Ed : List EdT} {sym j : Nat} {E : List Nat} (h : j < E.length) : folR N Ed sym (E.take (j + 1)) = addL (folR N Ed sym (E.take j)) (tosF N Ed (sym * N + E[j])) := by
  unfold folR
  rw [List.take_add_one, List.getElem?_eq_getElem h, Option.toList_some, List.foldl_append]
  rfl
def eAt (E : List Nat) (j : Nat) : Int := match E[j]? with
  | some e => (e : Int)
  | none => -1
theorem eAt_in {E : List Nat} {j : Nat} (h : j < E.length) : eAt E j = (E[j] : Int) := by unfold eAt; rw [List.getElem?_eq_getElem h]
theorem eAt_out {E : List Nat} {j : Nat} (h : E.length ≤ j) : eAt E j = -1 := by unfold eAt; rw [List.getElem?_eq_none h]
theorem nextL_zero (E : List Nat) : nextL E 0 = eAt E 0 := by
  cases E with
  | nil => rfl
  | cons e l => show (if (0 : Int) ≤ (e : Int) then (e : Int) else nextL l 0) = _; rw [if_pos (by omega)]; rfl
theorem nextL_up {E : List Nat} (hs : E.Pairwise (· < ·)) {j : Nat} (h : j < E.length) : nextL E ((E[j] : Int) + 1) = eAt E (j + 1) := by
  by_cases h2 : j + 1 < E.length
  · rw [eAt_in h2]
    refine nextL_some E _ _ hs (List.getElem_mem h2) (by have := List.pairwise_iff_getElem.1 hs j (j + 1) h h2 (by omega); omega) (fun e he hi => ?_)
    obtain ⟨i, hi2, rfl⟩ := List.getElem_of_mem he
    rcases Nat.lt_trichotomy i (j + 1) with q | q | q
    · rcases Nat.lt_or_eq_of_le (Nat.le_of_lt_succ q) with q | q
      · have := List.pairwise_iff_getElem.1 hs i j hi2 h q; omega
      · subst q; omega
    · subst q; exact Nat.le_refl _
    · exact Nat.le_of_lt (List.pairwise_iff_getElem.1 hs (j + 1) i h2 hi2 q)
  · rw [eAt_out (by omega)]
    refine nextL_none E _ (fun e he hi => ?_)
    obtain ⟨i, hi2, rfl⟩ := List.getElem_of_mem he
    rcases Nat.lt_or_eq_of_le (show i ≤ j by omega) with q | q
    · have := List.pairwise_iff_getElem.1 hs i j hi2 h q; omega
    · subst q; omega
theorem lea_iff (Ed : List EdT) (s p : Nat) : (leaF Ed s).testBit p = true ↔ ∃ e ∈ Ed, e.2.1.toNat = s ∧ e.1.toNat = p := by
  unfold leaF
  suffices h : ∀ (L : List EdT) (X : Nat), (L.foldl (fun X e => if e.2.1.toNat = s then X ||| 2 ^ e.1.toNat else X) X).testBit p = true ↔ X.testBit p = true ∨ ∃ e ∈ L, e.2.1.toNat = s ∧ e.1.toNat = p by
    have := h Ed 0
    simpa using this
  intro L
  induction L with
  | nil => intro X; simp
  | cons e L ih =>
    intro X
    rw [List.foldl_cons, ih]
    by_cases h : e.2.1.toNat = s
    · rw [if_pos h, Nat.testBit_or, Nat.testBit_two_pow]
      simp [h, or_assoc]
    · rw [if_neg h]
      simp [h]
theorem tos_mem {N : Nat} {Ed : List EdT} {i t : Nat} : t ∈ tosF N Ed i ↔ ∃ e ∈ Ed, e.2.1.toNat * N + e.1.toNat = i ∧ e.2.2.toNat = t := by
  unfold tosF
  simp [and_assoc]
theorem only_drewN {w w' : World} {R : Nat → Prop} (h : Only w w' R) (q : Nat) : Only w (w'.drewN q) R := ⟨h.os, h.tape, h.output, h.size, h.block⟩
theorem elems_iff {n X e : Nat} : e ∈ elems n X ↔ e < n ∧ X.testBit e = true := by unfold elems; simp
set_option maxRecDepth 100000 in
set_option maxHeartbeats 8000000 in
theorem follow_any (B : Nat) (w : World) (gb M N b g c X sym : Nat) (bs gs cs hs : Nat → Nat) (nl : Nat → Bool) (V : Nat → Value) (Ed : List EdT) (hS : Hid (StP B w gb M N bs gs cs hs (leaF Ed) nl V (tosF N Ed))) (hX : IsSet w b g c N X) (hsy : sym < M) (hT : TabAt w) (h0 : 0 < w.heap.size) (hN : N ≤ 4096) (_hM : M ≤ 128) (hlE : Ed.length ≤ 65536) (hin : ∀ e ∈ Ed, e.2.2.toNat < N) :
    Calls Tryz.prog 50 #[.agg #[.int .i64 (N : Int), .slice (some ⟨gb, 0, none⟩) M M], .pointer (some ⟨b, 0, none⟩), .int .i64 (sym : Int)] w fun e w' => ∃ b' g' c', e = .returned (.pointer (some ⟨b', 0, none⟩)) ∧ SetN w w' b' g' c' N (folF N Ed X sym) := by
  obtain ⟨hL, hbg, -, -⟩ := hS.out.st sym hsy
  obtain ⟨ta, na, ka, hve⟩ : ∃ ta na ka, stV N bs hs nl (sym * 2 + 1) = .slice ta na ka := by
    unfold stV
    rw [if_neg (by omega)]
    cases nl ((sym * 2 + 1) / 2) with
    | true => exact ⟨_, _, _, rfl⟩
    | false => exact ⟨_, _, _, rfl⟩
  have hc0 : w.cell? ⟨gb, sym * 2, none⟩ = some (.pointer (some ⟨bs sym, 0, none⟩)) := by
    have y := hS.out.gr.at (sym * 2) (by omega)
    unfold stV at y
    rw [if_pos (by omega), show sym * 2 / 2 = sym from by omega] at y
    exact y
  have hc1 : w.cell? ⟨gb, sym * 2 + 1, none⟩ = some (.slice ta na ka) := by rw [← hve]; exact hS.out.gr.at (sym * 2 + 1) (by omega)
  have hgl : gb < w.heap.size := hS.out.gr.lt
  obtain ⟨E, hE⟩ : ∃ E, elems N (X &&& leaF Ed sym) = E := ⟨_, rfl⟩
  have HFo : Hid (folF N Ed X sym = folR N Ed sym E) := hide (by rw [← hE]; rfl)
  rw [HFo.out]
  have hEs : E.Pairwise (· < ·) := by rw [← hE]; exact elems_sorted _ _
  have HE : Hid (E.Pairwise (· < ·) ∧ (∀ p ∈ E, p < N ∧ nl sym = false)) := hide ⟨hEs, fun p hp => by
    rw [← hE] at hp
    obtain ⟨p1, p2⟩ := elems_iff.1 hp
    rw [Nat.testBit_and, Bool.and_eq_true] at p2
    refine ⟨p1, ?_⟩
    cases hn : nl sym with
    | false => rfl
    | true =>
      obtain ⟨e, he, e1, e2⟩ := (lea_iff Ed sym p).1 p2.2
      have z := (hS.out.un sym p hsy p1 hn).2
      have : e.2.2.toNat ∈ tosF N Ed (sym * N + p) := tos_mem.2 ⟨e, he, by rw [e1, e2], rfl⟩
      rw [z] at this
      cases this⟩
  obtain ⟨W0, hW0⟩ : ∃ W0, w.alloc (.cells #[.int .i64 (N : Int), .slice (some ⟨gb, 0, none⟩) M M] 85) = W0 := ⟨_, rfl⟩
  have d0 : Below w.heap.size w W0 := by rw [← hW0]; exact (Below.refl _ _).alloc (Nat.le_refl _) _
  have B0 : W0.heap[w.heap.size]? = some (.cells #[.int .i64 (N : Int), .slice (some ⟨gb, 0, none⟩) M M] 85 (0, 0)) := by rw [← hW0]; exact World.alloc_heap_new _ _
  have y0 : W0.cell? ⟨w.heap.size, 1, none⟩ = some (.slice (some ⟨gb, 0, none⟩) M M) := cell_of B0 rfl
  have yc0 := (d0.cell (p := ⟨gb, sym * 2, none⟩) hgl).trans hc0
  have yc1 := (d0.cell (p := ⟨gb, sym * 2 + 1, none⟩) hgl).trans hc1
  obtain ⟨p7, hp7⟩ : ∃ p, W0.heap.size = p := ⟨_, rfl⟩
  obtain ⟨W1, hW1⟩ : ∃ W1, W0.alloc (.cells #[.pointer (some ⟨bs sym, 0, none⟩), .slice ta na ka] 128) = W1 := ⟨_, rfl⟩
  have d1 : Below W0.heap.size W0 W1 := by rw [← hW1]; exact (Below.refl _ _).alloc (Nat.le_refl _) _
  have B7 : W1.heap[p7]? = some (.cells #[.pointer (some ⟨bs sym, 0, none⟩), .slice ta na ka] 128 (0, 0)) := by rw [← hW1, ← hp7]; exact World.alloc_heap_new _ _
  have y7 : W1.cell? ⟨p7, 0, none⟩ = some (.pointer (some ⟨bs sym, 0, none⟩)) := cell_of B7 rfl
  have dw := d0.trans (d1.mono d0.size)
  have HW := hide (And.intro (blk_on B0 d1) (And.intro B7 (And.intro dw (show p7 < W1.heap.size ∧ w.heap.size < p7 from ⟨(Array.getElem?_eq_some_iff.1 B7).1, by rw [← hp7, ← hW0]; simp⟩))))
  have TM := meet_any b g c N X (bs sym) (gs sym) (cs sym) (leaF Ed sym) W1 (hX.below dw) (hL.below dw)
  have HQ := hide (And.intro hsy (And.intro hT (And.intro h0 (And.intro hlE hin))))
  have HV := hide hve
  clear d0 d1 B0 B7 dw hX hL hbg hEs hve hc0 hc1 hgl hT h0 hlE hin
  go_enter Tryz.func50, Tryz.ntmps50
  go_upto_region 2 with fail
  clear y0 yc0 yc1
  go_upto_region 3 with (go_at_call 94; refine TM.mono ?_; rintro e w2 ⟨b1, g1, c1, rfl, hn, hb1, hg1, hbg1, d2⟩; have HN := hide (And.intro hn d2); clear hn hb1 hg1 hbg1 d2)
  have y8 : w2.cell? ⟨w.heap.size, 0, none⟩ = some (.int .i64 (N : Int)) := cell_of (blk_on HW.out.1 HN.out.2) rfl
  have hE' := hE
  clear hE y7
  go_upto_region 4 with (go_at_call 47; refine (setNil_any w2 N hN).mono ?_; rintro e w3 ⟨b2, g2, c2, rfl, h3⟩; have H3 := hide h3; clear h3)
  clear y8
  have HT3 : Hid (TabAt w3 ∧ IsSet w3 b1 g1 c1 N (X &&& leaF Ed sym) ∧ Below w.heap.size w w3) := hide ⟨HQ.out.2.1.below (HW.out.2.2.1.trans ((HN.out.2.trans (H3.out.2.2.2.2.mono HN.out.2.size)).mono HW.out.2.2.1.size)) HQ.out.2.2.1, HN.out.1.below H3.out.2.2.2.2, HW.out.2.2.1.trans ((HN.out.2.trans (H3.out.2.2.2.2.mono HN.out.2.size)).mono HW.out.2.2.1.size)⟩
  have HG : Hid (b1 ≠ g2 ∧ g1 ≠ g2 ∧ p7 ≠ g2 ∧ w.heap.size ≤ g2 ∧ b2 ≠ g2) := hide ⟨by have := HN.out.1.blt; have := H3.out.2.2.1; omega, by have := HN.out.1.glt; have := H3.out.2.2.1; omega, by have := HW.out.2.2.2.1; have := HN.out.2.size; have := H3.out.2.2.1; omega, by have := HW.out.2.2.1.size; have := HN.out.2.size; have := H3.out.2.2.1; omega, H3.out.2.2.2.1⟩
  have TX := next_any b1 g1 c1 N (X &&& leaF Ed sym) 0 w3 HT3.out.2.1 HT3.out.1
  rw [hE', nextL_zero] at TX
  go_wp2_with (go_at_call 95; refine TX.mono ?_; rintro e w4 ⟨rfl, q0, rfl⟩)
  clear TX
  go_loopw [11] (fun iv wr => ∃ j : Nat, j ≤ E.length ∧ iv = .int .i64 (eAt E j) ∧ Hid (IsSet wr b2 g2 c2 N (folR N Ed sym (E.take j)) ∧ Only w3 wr (fun k => k = g2))) (fun iv _ => if intOf iv < 0 then 0 else N + 1 - (intOf iv).toNat)
  case atStart => exact ⟨0, Nat.zero_le _, rfl, hide ⟨H3.out.1.keep rfl rfl, only_drewN (Only.ofBelow (Below.refl _ _)) q0⟩⟩
  case round =>
    obtain ⟨j, hj, rfl, HR⟩ := hrel
    by_cases hjE : j < E.length
    · obtain ⟨p, hp⟩ : ∃ p, E[j] = p := ⟨_, rfl⟩
      have HPE := HE.out.2 E[j] (List.getElem_mem hjE)
      rw [hp] at HPE
      have HP := hide HPE
      clear HPE
      have hpN : p < N := HP.out.1
      rw [eAt_in hjE, hp]
      have p0 : (0 : Int) ≤ (p : Int) := by omega
      have p1 : (p : Int) < (N : Int) := by omega
      have HS2 : Hid ((.slice ta na ka : Value) = .slice (some ⟨hs sym, 0, none⟩) N N) := hide (by
        rw [← HV.out]
        unfold stV
        rw [if_neg (by omega), show (sym * 2 + 1) / 2 = sym from by omega, HP.out.2]
        rfl)
      obtain ⟨X1, hX1⟩ : ∃ X, tosF N Ed (sym * N + p) = X := ⟨_, rfl⟩
      have hO := hS.out.fm (sym * N + p) (idx_lt HQ.out.1 hpN)
      rw [hX1] at hO
      obtain ⟨t1, k1, hv⟩ := own_slice hO
      obtain ⟨nX, hnX⟩ : ∃ l, (natI X1).length = l := ⟨_, rfl⟩
      have hnX2 : nX = X1.length := by rw [← hnX, natI_len]
      have hX1l : nX ≤ 65536 := by rw [hnX2, ← hX1]; exact Nat.le_trans (tosF_len N Ed _) HQ.out.2.2.2.1
      have HDr : Hid (Below w.heap.size w wr) := hide (HT3.out.2.2.trans (HR.out.2.toBelow HT3.out.2.2.size (fun k hk => by rw [hk]; exact HG.out.2.2.2.1)))
      have yp : wr.cell? ⟨p7, 1, none⟩ = some (.slice (some ⟨hs sym, 0, none⟩) N N) := by
        rw [cell_only HR.out.2 (by have := HW.out.2.2.2.1; have := HN.out.2.size; have := H3.out.2.2.2.2.size; omega) HG.out.2.2.1, ← HS2.out]
        exact cell_of (blk_on (blk_on HW.out.2.1 HN.out.2) H3.out.2.2.2.2) rfl
      have hrow := (hS.out.rw sym HQ.out.1 HP.out.2).1
      have yr : wr.cell? ⟨hs sym, p, none⟩ = some (.slice t1 nX k1) := (HDr.out.cell (p := ⟨hs sym, p, none⟩) hrow.lt).trans (by have := hrow.at p hpN; rw [hv, hnX] at this; exact this)
      rw [hv] at hO
      have HO := hide (And.intro hnX2 (And.intro hX1 (And.intro (own_rdN hO) hp)))
      clear hO hv hrow hnX hX1 hnX2 hp
      go_wp2_with fail
      clear yp yr
      obtain ⟨wx, hwx⟩ : ∃ X, X = wr := ⟨_, rfl⟩
      rw [← hwx]
      rw [← hwx] at HR HDr
      clear hwx
      go_loopw [43] (fun iv wr => ∃ k : Nat, k ≤ nX ∧ iv = .int .i64 (k : Int) ∧ Hid (IsSet wr b2 g2 c2 N (addL (folR N Ed sym (E.take j)) (X1.take k)) ∧ Only w3 wr (fun q => q = g2))) (fun iv _ => nX - (intOf iv).toNat)
      case atStart => exact ⟨0, Nat.zero_le _, rfl, hide ⟨HR.out.1, HR.out.2⟩⟩
      case round =>
        obtain ⟨k, hk, rfl, HK⟩ := hrel
        by_cases hkn : k < nX
        · have hkX : k < X1.length := by rw [← HO.out.1]; exact hkn
          obtain ⟨x, hx⟩ : ∃ x, X1[k] = x := ⟨_, rfl⟩
          obtain ⟨ga, oa, ea, hr0⟩ := HO.out.2.2.1 k (by rw [natI_len]; exact hkX)
          have hxi : (natI X1)[k]'(by rw [natI_len]; exact hkX) = (x : Int) := by rw [← hx]; simp [natI]
          rw [hxi] at hr0
          have hxN : x < N := by
            have z : x ∈ tosF N Ed (sym * N + p) := by rw [HO.out.2.1, ← hx]; exact List.getElem_mem _
            obtain ⟨e, he, -, e2⟩ := tos_mem.1 z
            rw [← e2]
            exact HQ.out.2.2.2.2 e he
          have yx : wr.cell? ⟨ga, oa + k, none⟩ = some (.int .i64 (x : Int)) := ((HT3.out.2.2.trans (HK.out.2.toBelow HT3.out.2.2.size (fun q hq => by rw [hq]; exact HG.out.2.2.2.1))).cell (p := ⟨ga, oa + k, none⟩) (World.block_lt_of_cell? w ⟨ga, oa + k, none⟩ hr0)).trans hr0
          have HX : Hid (X1.take (k + 1) = X1.take k ++ [x]) := hide (by rw [← hx, List.take_add_one, List.getElem?_eq_getElem hkX]; rfl)
          have TA := add_only b2 g2 c2 N (addL (folR N Ed sym (E.take j)) (X1.take k)) x wr HK.out.1 HG.out.2.2.2.2 hxN
          subst ea
          clear hr0 hxi hx hkX
          go_wp2_with (go_at_call 93; refine TA.mono ?_; rintro e w5 ⟨rfl, hs5, o5⟩; have H5 := hide (And.intro hs5 (HK.out.2.trans o5)); clear hs5 o5)
          go_roundw
          case rel => exact ⟨k + 1, by omega, by go_num, hide ⟨by rw [HX.out, addL_snoc]; exact H5.out.1, H5.out.2⟩⟩
          case measure => simp [intOf]; omega
        · have hkk : k = nX := by omega
          have HK2 : Hid (IsSet wr b2 g2 c2 N (folR N Ed sym (E.take (j + 1))) ∧ Only w3 wr (fun q => q = g2)) := hide ⟨by
            rw [folR_take hjE, HO.out.2.2.2, HO.out.2.1]
            have z := HK.out.1
            rwa [hkk, HO.out.1, List.take_length] at z, HK.out.2⟩
          have HNr : Hid (IsSet wr b1 g1 c1 N (X &&& leaF Ed sym) ∧ TabAt wr) := hide ⟨HT3.out.2.1.keep (HK.out.2.block _ HT3.out.2.1.blt HG.out.1) (HK.out.2.block _ HT3.out.2.1.glt HG.out.2.1), HQ.out.2.1.below (HT3.out.2.2.trans (HK.out.2.toBelow HT3.out.2.2.size (fun q hq => by rw [hq]; exact HG.out.2.2.2.1))) HQ.out.2.2.1⟩
          have TX := next_any b1 g1 c1 N (X &&& leaF Ed sym) ((p : Int) + 1) wr HNr.out.1 HNr.out.2
          have hnu := nextL_up HE.out.1 hjE
          rw [HO.out.2.2.2] at hnu
          rw [hE', hnu] at TX
          clear HK hnu
          go_wp2_with (go_at_call 95; refine TX.mono ?_; rintro e w5 ⟨rfl, q5, rfl⟩)
          go_roundw
          case rel => exact ⟨j + 1, by omega, rfl, hide ⟨HK2.out.1.keep rfl rfl, only_drewN HK2.out.2 _⟩⟩
          case measure =>
            have q1 : ¬ (p : Int) < 0 := by omega
            simp only [intOf, q1, if_false]
            by_cases h1 : j + 1 < E.length
            · have z := List.pairwise_iff_getElem.1 HE.out.1 j (j + 1) hjE h1 (by omega)
              rw [HO.out.2.2.2] at z
              rw [eAt_in h1]
              have q2 : ¬ (E[j + 1] : Int) < 0 := by omega
              simp only [q2, if_false]
              omega
            · rw [eAt_out (show E.length ≤ j + 1 by omega)]
              simp
              omega
    · have hjj : j = E.length := by omega
      rw [eAt_out (show E.length ≤ j by omega)]
      have HR2 : Hid (SetN w wr b2 g2 c2 N (folR N Ed sym E)) := hide ⟨by have z := HR.out.1; rwa [hjj, List.take_length] at z, by have := H3.out.2.1; have := HT3.out.2.2.size; have := HW.out.2.2.1.size; have := HN.out.2.size; omega, HG.out.2.2.2.1, HG.out.2.2.2.2, HT3.out.2.2.trans (HR.out.2.toBelow HT3.out.2.2.size (fun q hq => by rw [hq]; exact HG.out.2.2.2.1))⟩
      clear HR
      go_wp2_with fail
      go_ret
      exact ⟨b2, g2, c2, rfl, HR2.out⟩
/-- A kind of items: a type whose values may be keys, and how a value lies in memory. -/
structure Kd (α : Type) where
  ty : Nat
  sz : Nat
  val : α → Value
  cs : α → List Value
  key : α → Lit
  ok : α → Prop
  kmk : ∀ a, ok a → keyOf Tryz.prog ty (val a) = some (key a)
  inj : ∀ a b, ok a → ok b → key a = key b → a = b
  lit : ∀ a, WideAt.IsKeyLit (key a)
  len : ∀ a, (cs a).length = sz
  one : ∀ a, ∀ u ∈ cs a, u.oneCell' = true
  law : Keyed Tryz.prog ty
section
variable {α : Type} (K : Kd α)
/-- A map says at which place each item stands. -/
structure IsPl (D : DataW Unit) (l : List α) : Prop where
  tidy : Tidy D
  has : ∀ s, K.ok s → (Maps.has D (K.key s) = true ↔ s ∈ l)
  at_ : ∀ i (h : i < l.length) z, D.atKey (K.key l[i]) z = .lit (.int .i64 (i : Nat))
theorem isPl_nil : IsPl K (.map []) [] := ⟨tidy_empty, fun s _ => (by constructor <;> intro h <;> cases h), fun i h => (by simp at h)⟩
variable {K}
theorem IsPl.new {D : DataW Unit} {l : List α} {s : α} (h : IsPl K D l) (hok : ∀ x ∈ l, K.ok x) (hs : s ∉ l) (ho : K.ok s) : IsPl K (D.put (K.key s) (.lit (.int .i64 (l.length : Nat)))) (l ++ [s]) := by
  refine ⟨h.tidy.put (K.lit s) _, fun t ht => ?_, fun i hi z => ?_⟩
  · by_cases e : t = s
    · subst e; rw [has_put_same h.tidy.isMap (K.lit _)]; simp
    · rw [has_put_other (fun h => e (K.inj _ _ ht ho h)), h.has t ht]; simp [e]
  · by_cases e : i < l.length
    · rw [List.getElem_append_left e]
      have hm : l[i] ∈ l := List.getElem_mem e
      rw [atKey_put_other (fun h => hs (by rw [← K.inj _ _ (hok _ hm) ho h]; exact hm)), h.at_ i e z]
    · have : i = l.length := by simp at hi; omega
      subst this
      rw [List.getElem_append_right (Nat.le_refl _)]
      simp only [Nat.sub_self, List.getElem_cons_zero]
      rw [atKey_put_same h.tidy.isMap (K.lit _)]
variable (K)
/-- A series: its list v and its map m. -/
structure Ser (n0 : Nat) (W : World) (v m : Value) (l : List α) : Prop where
  own : W.ownsRow n0 K.ty K.sz v l.length (l.flatMap K.cs)
  map : (m = .map none ∧ l = []) ∨ ∃ bm D, m = .map (some bm) ∧ n0 ≤ bm ∧ W.ownsMap Tryz.prog K.ty (plainElem Tryz.prog 3) bm l.length D ∧ IsPl K D l
  ok : ∀ x ∈ l, K.ok x
  nod : l.Nodup
variable {K}
/-- The blocks of a series. -/
def SB (v m : Value) (k : Nat) : Prop := v.ownBlock = some k ∨ m = .map (some k)
theorem Ser.only {n0 : Nat} {W W' : World} {v m : Value} {l : List α} {R : Nat → Prop} (h : Ser K n0 W v m l) (ho : Only W W' R) (hn : ∀ k, SB v m k → ¬ R k) : Ser K n0 W' v m l := by
  refine ⟨row_only h.own ho (fun k hk => hn k (.inl hk)), ?_, h.ok, h.nod⟩
  rcases h.map with h1 | ⟨bm, D, rfl, hb, o, hp⟩
  · exact .inl h1
  · have hlt := o.lt
    obtain ⟨es, ck, h1, h2⟩ := o
    exact .inr ⟨bm, D, rfl, hb, ⟨es, ck, (ho.block bm hlt (hn bm (.inr rfl))).trans h1, h2⟩, hp⟩
theorem Ser.below {n0 : Nat} {W W' : World} {v m : Value} {l : List α} (h : Ser K n0 W v m l) (d : Below W.heap.size W W') : Ser K n0 W' v m l :=
  h.only (Only.ofBelow (R := fun _ => False) d) (fun _ _ h => h)
theorem Ser.lt {n0 : Nat} {W : World} {v m : Value} {l : List α} (h : Ser K n0 W v m l) : ∀ k, SB v m k → n0 ≤ k ∧ k < W.heap.size := by
  rintro k (hk | hk)
  · exact World.ownsRow.lt h.own k hk
  · rcases h.map with ⟨rfl, _⟩ | ⟨bm, D, rfl, hb, o, hp⟩
    · simp at hk
    · simp at hk; subst hk; exact ⟨hb, o.lt⟩
theorem Ser.nil (n0 : Nat) (W : World) : Ser K n0 W (.slice none 0 0) (.map none) [] := ⟨World.ownsRow_nil _ _ _ _, .inl ⟨rfl, rfl⟩, by simp, List.nodup_nil⟩
theorem lookup_at (w : World) {ops : Array Oper} {rest : List Oper} {o : Oper} {a : Act} {Q : Exit → Act → World → Prop} (hg : o.guard = none) (m x : Operand) (mt : TypeId) (hop : o.op = Op.lookup mt m x true)
    (ht : Tryz.prog.underlying mt = some (.map K.ty 3)) (b : Nat) (l : List α) (i : Nat) (hi : i < l.length) (D : DataW Unit) (hown : w.ownsMap Tryz.prog K.ty (plainElem Tryz.prog 3) b l.length D) (hp : IsPl K D l) (ho : K.ok l[i]) (hm : a.eval m = .map (some b)) (hx : a.eval x = K.val l[i])
    (hK : wpList Tryz.prog ops Q rest (a.put o.dst (.tuple #[.int .i64 (i : Int), .bool true])) w) : wpList Tryz.prog ops Q (o :: rest) a w := by
  refine wpList_lookup_own_ok_int _ hg m x mt hop K.ty 3 .i64 K.law ht Tryz.underlying3 (by kernel_rfl) b l.length D hm hown _ _ hx (K.kmk _ ho) ?_
  intro c hat hwc
  rw [hp.at_ i hi] at hat
  injection hat with e
  injection e with _ e
  rw [(hp.has _ ho).2 (List.getElem_mem hi), ← e]
  exact hK
theorem lookup_not (w : World) {ops : Array Oper} {rest : List Oper} {o : Oper} {a : Act} {Q : Exit → Act → World → Prop} (hg : o.guard = none) (m x : Operand) (mt : TypeId) (hop : o.op = Op.lookup mt m x true)
    (ht : Tryz.prog.underlying mt = some (.map K.ty 3)) (b : Nat) (l : List α) (s : α) (hs : s ∉ l) (D : DataW Unit) (hown : w.ownsMap Tryz.prog K.ty (plainElem Tryz.prog 3) b l.length D) (hp : IsPl K D l) (ho : K.ok s) (hm : a.eval m = .map (some b)) (hx : a.eval x = K.val s)
    (hK : ∀ c : Int, wpList Tryz.prog ops Q rest (a.put o.dst (.tuple #[.int .i64 c, .bool false])) w) : wpList Tryz.prog ops Q (o :: rest) a w := by
  refine wpList_lookup_own_ok_int _ hg m x mt hop K.ty 3 .i64 K.law ht Tryz.underlying3 (by kernel_rfl) b l.length D hm hown _ _ hx (K.kmk _ ho) ?_
  intro c hat hwc
  have : Maps.has D (K.key s) = false := by
    rw [Bool.eq_false_iff]; intro e; exact hs ((hp.has s ho).1 e)
  rw [this]
  exact hK c
end
theorem look_in_run {α : Type} (K : Kd α) (w : World) (mt : TypeId) (ht : Tryz.prog.underlying mt = some (.map K.ty 3)) (b : Nat) (l : List α) (i : Nat) (hi : i < l.length) (D : DataW Unit) (hown : w.ownsMap Tryz.prog K.ty (plainElem Tryz.prog 3) b l.length D) (hp : IsPl K D l) (ho : K.ok l[i]) :
    (Instr.lookup mt (.map (some b)) (K.val l[i]) true).run Tryz.prog w = .ok (.tuple #[.int .i64 (i : Nat), .bool true]) w := by
  obtain ⟨v, ps, hrun, hv⟩ := hown.look_ok K.law ht (z := .int .i64 0) (by kernel_rfl) (plainElem_int Tryz.underlying3 (by decide)) (K.kmk _ ho)
  obtain ⟨c, rfl, hc, _⟩ := plainElem_int_inv Tryz.underlying3 hv
  have e : D.atKey (K.key l[i]) (.lit (.int .i64 0)) = .lit (.int .i64 c) := congrArg Prod.fst hc
  rw [hp.at_ i hi] at e
  simp only [DataW.lit.injEq, Lit.int.injEq, true_and] at e
  rw [hrun, (hp.has _ ho).2 (List.getElem_mem hi), ← e]
theorem look_out_run {α : Type} (K : Kd α) (w : World) (mt : TypeId) (ht : Tryz.prog.underlying mt = some (.map K.ty 3)) (b : Nat) (l : List α) (s : α) (hs : s ∉ l) (D : DataW Unit) (hown : w.ownsMap Tryz.prog K.ty (plainElem Tryz.prog 3) b l.length D) (hp : IsPl K D l) (ho : K.ok s) :
    ∃ c : Int, (Instr.lookup mt (.map (some b)) (K.val s) true).run Tryz.prog w = .ok (.tuple #[.int .i64 c, .bool false]) w := by
  obtain ⟨v, ps, hrun, hv⟩ := hown.look_ok K.law ht (z := .int .i64 0) (by kernel_rfl) (plainElem_int Tryz.underlying3 (by decide)) (K.kmk _ ho)
  obtain ⟨c, rfl, hc, _⟩ := plainElem_int_inv Tryz.underlying3 hv
  have : Maps.has D (K.key s) = false := by
    rw [Bool.eq_false_iff]; intro e; exact hs ((hp.has s ho).1 e)
  rw [this] at hrun
  exact ⟨c, hrun⟩
theorem map_only {W W' : World} {k e : TypeId} {b n : Nat} {Dm : DataW Unit} {R : Nat → Prop} (o : W.ownsMap Tryz.prog k (plainElem Tryz.prog e) b n Dm) (h : Only W W' R) (hn : ¬ R b) : W'.ownsMap Tryz.prog k (plainElem Tryz.prog e) b n Dm := by
  have hlt := o.lt
  obtain ⟨es, ck, h1, h2⟩ := o
  exact ⟨es, ck, (h.block b hlt hn).trans h1, h2⟩
theorem row_map {W : World} {B n m sz : Nat} {e k x : TypeId} {v : Value} {xs : List Value} {bm : Nat} {Dm : DataW Unit} (h : W.ownsRow B e sz v n xs) (hm : W.ownsMap Tryz.prog k (plainElem Tryz.prog x) bm m Dm) : v.ownBlock ≠ some bm := by
  intro hk
  obtain ⟨es, ck, q1, _⟩ := hm
  rcases h.2 with ⟨e, _⟩ | ⟨g, cap, cur, e, _, hg, _⟩
  · rw [e] at hk; cases hk
  · rw [e] at hk
    obtain rfl : g = bm := by simpa [Value.ownBlock] using hk
    rw [hg] at q1; cases q1
/-! ### What the search holds -/
def kOf (s : ByteArray) : Lit := .string s.data.toList
theorem kOf_inj {s t : ByteArray} (h : kOf s = kOf t) : s = t := by
  cases s; cases t
  simp only [kOf, Lit.string.injEq] at h
  congr 1
  exact Array.toList_inj.1 h
/-- A set's key. -/
def kStr (N X : Nat) : ByteArray := ⟨(keyPre N X ((N + 7) / 8)).toArray⟩
theorem kStr_size (N X : Nat) : (kStr N X).size = 2 + (N + 7) / 8 := by
  show (keyPre N X ((N + 7) / 8)).toArray.size = _
  rw [List.size_toArray, keyPre_length]
theorem kStr_inj {N X Y : Nat} (hX : X < 2 ^ N) (hY : Y < 2 ^ N) (h : kStr N X = kStr N Y) : X = Y := by
  have e : keyPre N X ((N + 7) / 8) = keyPre N Y ((N + 7) / 8) := by
    have h1 : (keyPre N X ((N + 7) / 8)).toArray = (keyPre N Y ((N + 7) / 8)).toArray := congrArg ByteArray.data h
    exact List.toArray_inj h1
  unfold keyPre at e
  injection e with _ e
  injection e with _ e
  apply Nat.eq_of_testBit_eq
  intro j
  by_cases hj : j < N
  · have hi : j / 8 < (N + 7) / 8 := by omega
    have q := congrArg (fun l => l[j / 8]?) e
    simp only [List.getElem?_map, List.getElem?_range hi, Option.map_some] at q
    injection q with q
    have q2 := congrArg UInt8.toNat q
    simp only [UInt8.toNat_ofNat'] at q2
    have q3 := congrArg (fun z => z.testBit (j % 8)) q2
    simp only [Nat.testBit_mod_two_pow, Nat.testBit_div_two_pow] at q3
    have h8 : j % 8 < 8 := Nat.mod_lt _ (by decide)
    rw [show j % 8 + 8 * (j / 8) = j from by omega] at q3
    simpa [h8] using q3
  · rw [Nat.testBit_lt_two_pow (Nat.lt_of_lt_of_le hX (Nat.pow_le_pow_right (by decide) (by omega))), Nat.testBit_lt_two_pow (Nat.lt_of_lt_of_le hY (Nat.pow_le_pow_right (by decide) (by omega)))]
def kSet (N : Nat) : Kd Nat where
  ty := 9
  sz := 1
  val := fun X => .string (kStr N X)
  cs := fun X => [.string (kStr N X)]
  key := fun X => kOf (kStr N X)
  ok := fun X => X < 2 ^ N ∧ N ≤ 8192
  kmk := fun X h => WideMaps.keyOf_string_mk Tryz.underlying9 (by rw [kStr_size]; unfold maxLen; have := h.2; omega)
  inj := fun X Y hX hY h => kStr_inj hX.1 hY.1 (kOf_inj h)
  lit := fun _ => trivial
  len := fun _ => rfl
  one := fun s u hu => by obtain rfl := List.mem_singleton.1 hu; rfl
  law := string_keyed Tryz.underlying9
/-- The search as a function: what is met, and where each symbol leads; or the error. -/
def suF (φ : Nat → Nat → Nat) (M : Nat) (bud : Int) : Nat → List Nat → List Nat → Int × List Nat × List Nat
  | 0, T, K => (0, T, K)
  | f + 1, T, K =>
    if K.length < T.length * M then
      if φ (T.getD (K.length / M) 0) (K.length % M) ∈ T then suF φ M bud f T (K ++ [T.idxOf (φ (T.getD (K.length / M) 0) (K.length % M))])
      else if moreE T.length bud = 0 then suF φ M bud f (T ++ [φ (T.getD (K.length / M) 0) (K.length % M)]) (K ++ [T.length])
      else (moreE T.length bud, [], [])
    else (0, T, K)
def ptrs (bs : Nat → Nat) (n : Nat) : List Value := (List.range n).map fun i => .pointer (some ⟨bs i, 0, none⟩)
theorem ptrs_len (bs : Nat → Nat) (n : Nat) : (ptrs bs n).length = n := by simp [ptrs]
theorem ptrs_snoc (bs : Nat → Nat) (n b : Nat) : ptrs (updF bs n b) (n + 1) = ptrs bs n ++ [.pointer (some ⟨b, 0, none⟩)] := by
  unfold ptrs
  rw [List.range_succ, List.map_append]
  congr 1
  · refine List.map_congr_left (fun i hi => ?_)
    rw [updF_ne _ _ (by have := List.mem_range.1 hi; omega)]
  · simp [updF_same]
theorem ptrs_one (bs : Nat → Nat) (n : Nat) : ∀ u ∈ ptrs bs n, u.oneCell' = true := fun u hu => by
  obtain ⟨i, _, rfl⟩ := List.mem_map.1 hu; rfl
theorem rows_ne {W : World} {B C n m sz sy : Nat} {e t : TypeId} {v u : Value} {xs ys : List Value} (h : W.ownsRow B e sz v n xs) (h2 : W.ownsRow C t sy u m ys) (hne : t ≠ e) {k : Nat} (hk : v.ownBlock = some k) (hk2 : u.ownBlock = some k) : False := by
  rcases h2.2 with ⟨hv, _⟩ | ⟨g', cap', cur', hv, _, hgc, _⟩
  · subst hv
    cases hk2
  · subst hv
    have e2 : g' = k := by simpa [Value.ownBlock] using hk2
    subst e2
    exact row_tag h hgc hne hk
/-- What the search holds. -/
structure SeQ (B N : Nat) (w : World) (v13 : Value) (bm : Nat) (v15 : Value) (bs : Nat → Nat) (T K : List Nat) : Prop where
  pt : w.ownsRow B 78 1 v13 T.length (ptrs bs T.length)
  st : ∀ i (h : i < T.length), ∃ g c, IsSet w (bs i) g c N T[i]
  mp : ∃ D, w.ownsMap Tryz.prog 9 (plainElem Tryz.prog 3) bm T.length D ∧ IsPl (kSet N) D T
  nx : OwI w B v15 (natI K)
  ge : B ≤ bm
  nod : T.Nodup
  ok : ∀ X ∈ T, X < 2 ^ N
theorem SeQ.on {B N bm : Nat} {w w' : World} {v13 v15 : Value} {bs : Nat → Nat} {T K : List Nat} (h : SeQ B N w v13 bm v15 bs T K) (d : Below w.heap.size w w') : SeQ B N w' v13 bm v15 bs T K :=
  ⟨own_below h.pt d, fun i hi => by obtain ⟨g, c, z⟩ := h.st i hi; exact ⟨g, c, z.below d⟩, by obtain ⟨D, m, p⟩ := h.mp; exact ⟨D, map_only m (Only.ofBelow (R := fun _ => False) d) id, p⟩, own_below h.nx d, h.ge, h.nod, h.ok⟩
theorem map_kind {w : World} {k e : TypeId} {b n : Nat} {Dm : DataW Unit} (o : w.ownsMap Tryz.prog k (plainElem Tryz.prog e) b n Dm) {cs : Array Value} {t : TypeId} {fr : Nat × Nat} : w.heap[b]? ≠ some (.cells cs t fr) := fun h => by
  obtain ⟨es, ck, q1, _⟩ := o
  rw [h] at q1; cases q1
/-- One thing more is met: the map is written, the list has grown. -/
theorem SeQ.put {B N bm b g c X : Nat} {w w5 w6 : World} {v13 v15 v' : Value} {bs : Nat → Nat} {T K : List Nat} {D : DataW Unit} (h : SeQ B N w v13 bm v15 bs T K) (hp : IsPl (kSet N) D T) (hX : IsSet w b g c N X) (hn : X ∉ T) (hN : N ≤ 8192)
    (m5 : w5.ownsMap Tryz.prog 9 (plainElem Tryz.prog 3) bm (T.length + 1) (D.put ((kSet N).key X) (.lit (.int .i64 (T.length : Nat))))) (g5 : w.grownBy w5 (some bm)) (g6 : w5.grownBy w6 v13.ownBlock) (o6 : w6.ownsRow B 78 1 v' (T.length + 1) (ptrs bs T.length ++ [.pointer (some ⟨b, 0, none⟩)])) :
    SeQ B N w6 v' bm v15 (updF bs T.length b) (T ++ [X]) K ∧ Only w w6 (fun k => k = bm ∨ v13.ownBlock = some k) := by
  have ob5 : Only w w5 (fun k => k = bm) := ⟨g5.os, g5.tape, g5.output, g5.size, fun k hk hn => g5.block k hk (fun e => hn (by injection e with e))⟩
  have ob6 : Only w5 w6 (fun k => v13.ownBlock = some k) := grown_only g6
  have o : Only w w6 (fun k => k = bm ∨ v13.ownBlock = some k) := (ob5.mono (fun k _ e => .inl e)).trans (ob6.mono (fun k _ e => .inr e))
  obtain ⟨D0, m0, -⟩ := h.mp
  have kd : ∀ q, (q = bm ∨ v13.ownBlock = some q) → ∀ cs t fr, w.heap[q]? = some (.cells cs t fr) → t = 78 := fun q hq cs t fr z => by
    rcases hq with hq | hq
    · subst hq; exact absurd z (map_kind m0)
    · by_cases e : t = 78
      · exact e
      · exact (row_tag h.pt z e hq).elim
  have set : ∀ {b g c X : Nat}, IsSet w b g c N X → IsSet w6 b g c N X := fun z => set_other z o (fun q hq cs t fr y => by rw [kd q hq cs t fr y]; exact ⟨by decide, by decide⟩)
  refine ⟨⟨by rw [List.length_append, List.length_singleton, ptrs_snoc]; exact o6, fun i hi => ?_, ⟨_, ?_, hp.new (fun x hx => ⟨h.ok x hx, hN⟩) hn ⟨hX.hX, hN⟩⟩, ?_, h.ge, ?_, ?_⟩, o⟩
  · by_cases e : i < T.length
    · rw [updF_ne _ _ (by omega)]
      obtain ⟨g', c', z⟩ := h.st i e
      rw [List.getElem_append_left e]
      exact ⟨g', c', set z⟩
    · have e2 : i = T.length := by rw [List.length_append, List.length_singleton] at hi; omega
      subst e2
      rw [updF_same, List.getElem_append_right (Nat.le_refl _)]
      simp only [Nat.sub_self, List.getElem_cons_zero]
      exact ⟨g, c, set hX⟩
  · rw [List.length_append, List.length_singleton]
    refine map_only m5 ob6 (fun e => ?_)
    exact row_map h.pt m0 e
  · refine row_only h.nx o (fun k hk e => ?_)
    rcases e with e | e
    · subst e; exact row_map h.nx m0 hk
    · exact rows_ne h.pt h.nx (by decide) e hk
  · rw [List.nodup_append]
    exact ⟨h.nod, by simp, fun a ha b' hb e => by simp at hb; subst hb; subst e; exact hn ha⟩
  · intro x hx
    rcases List.mem_append.1 hx with hx | hx
    · exact h.ok x hx
    · rw [List.mem_singleton.1 hx]; exact hX.hX
/-- A number more. -/
theorem SeQ.nxt {B N bm : Nat} {w w' : World} {v13 v15 v' : Value} {bs : Nat → Nat} {T K K' : List Nat} (h : SeQ B N w v13 bm v15 bs T K) (o : Only w w' (fun k => v15.ownBlock = some k)) (q : OwI w' B v' (natI K')) : SeQ B N w' v13 bm v' bs T K' := by
  obtain ⟨D0, m0, p0⟩ := h.mp
  have kd : ∀ q, v15.ownBlock = some q → ∀ cs t fr, w.heap[q]? = some (.cells cs t fr) → t = 3 := fun q hq cs t fr z => by
    by_cases e : t = 3
    · exact e
    · exact (row_tag h.nx z e hq).elim
  exact ⟨row_only h.pt o (fun k hk e => rows_ne h.pt h.nx (by decide) hk e), fun i hi => by
    obtain ⟨g, c, z⟩ := h.st i hi
    exact ⟨g, c, set_other z o (fun q hq cs t fr y => by rw [kd q hq cs t fr y]; exact ⟨by decide, by decide⟩)⟩, ⟨D0, map_only m0 o (fun e => row_map h.nx m0 e), p0⟩, q, h.ge, h.nod, h.ok⟩
/-! ### search -/
/-- What the search answers. -/
def SrA (w : World) (N : Nat) (r : Int × List Nat × List Nat) (e : Ending) (w' : World) : Prop :=
  Below w.heap.size w w' ∧ ((r.1 ≠ 0 ∧ e = .returned (.tuple #[.slice none 0 0, .slice none 0 0, .int .i64 r.1])) ∨ (r.1 = 0 ∧ ∃ v13 bm v15 bsT, e = .returned (.tuple #[v13, v15, .int .i64 0]) ∧ SeQ w.heap.size N w' v13 bm v15 bsT r.2.1 r.2.2))
theorem row_cell {W : World} {B n c g : Nat} {e : TypeId} {xs : List Value} (h : W.ownsRow B e 1 (.slice (some ⟨g, 0, none⟩) n c) n xs) {j : Nat} {u : Value} (hu : xs[j]? = some u) : W.cell? ⟨g, j, none⟩ = some u := by
  have z := h.cells (g := g) rfl j u hu
  rw [Addr.add_lit] at z
  simpa using z
theorem info78 : (Tryz.prog.info? 78).map (fun i => (i.zero, i.size, i.bytes)) = some (some (.pointer none), 1, 8) := by kernel_rfl
theorem row_form {W : World} {B n sz : Nat} {e : TypeId} {v : Value} {xs : List Value} (h : W.ownsRow B e sz v n xs) (hn : 0 < n) : ∃ g c, v = .slice (some ⟨g, 0, none⟩) n c := by
  rcases h.2 with ⟨_, e2⟩ | ⟨g, cap, cur, e, _⟩
  · omega
  · exact ⟨g, cap, e⟩
theorem suF_div {n M a : Nat} (ha : a < M) : (n * M + a) / M = n ∧ (n * M + a) % M = a := by
  have hM : 0 < M := by omega
  exact ⟨by rw [Nat.mul_comm, Nat.mul_add_div hM, Nat.div_eq_of_lt ha]; rfl, by rw [Nat.mul_comm, Nat.mul_add_mod, Nat.mod_eq_of_lt ha]⟩
theorem len_lt {n M a : Nat} {T K : List Nat} (h : K.length = n * M + a) (hn : n < T.length) (ha : a < M) (hT : T.length ≤ 4096) (hM : M ≤ 128) : K.length < T.length * M ∧ K.length ≤ 524288 := by
  have h1 : (n + 1) * M ≤ T.length * M := Nat.mul_le_mul_right M hn
  have h2 : T.length * M ≤ 4096 * 128 := Nat.mul_le_mul hT hM
  have h3 : (n + 1) * M = n * M + M := Nat.succ_mul n M
  omega
theorem suF_done {φ : Nat → Nat → Nat} {M : Nat} {bud : Int} {T K : List Nat} (f : Nat) (h : ¬ K.length < T.length * M) : suF φ M bud f T K = (0, T, K) := by
  cases f with
  | zero => rfl
  | succ f => unfold suF; rw [if_neg h]
theorem suF_old {φ : Nat → Nat → Nat} {M n a : Nat} {bud : Int} {T K : List Nat} (h : K.length = n * M + a) (hn : n < T.length) (ha : a < M) (hM : M ≤ 128) (hT : T.length ≤ 4096) (hY : φ (T.getD n 0) a ∈ T) :
    suF φ M bud (600000 - K.length) T K = suF φ M bud (600000 - (K ++ [T.idxOf (φ (T.getD n 0) a)]).length) T (K ++ [T.idxOf (φ (T.getD n 0) a)]) := by
  obtain ⟨l1, l2⟩ := len_lt h hn ha hT hM
  obtain ⟨e1, e2⟩ := suF_div (n := n) ha
  obtain ⟨f, hf⟩ : ∃ f, 600000 - K.length = f + 1 := ⟨600000 - K.length - 1, by omega⟩
  rw [hf, suF, if_pos l1, h, e1, e2, if_pos hY, List.length_append, List.length_singleton, show 600000 - (K.length + 1) = f from by omega]
theorem suF_new {φ : Nat → Nat → Nat} {M n a : Nat} {bud : Int} {T K : List Nat} (h : K.length = n * M + a) (hn : n < T.length) (ha : a < M) (hM : M ≤ 128) (hT : T.length ≤ 4096) (hY : φ (T.getD n 0) a ∉ T) (hE : moreE T.length bud = 0) :
    suF φ M bud (600000 - K.length) T K = suF φ M bud (600000 - (K ++ [T.length]).length) (T ++ [φ (T.getD n 0) a]) (K ++ [T.length]) := by
  obtain ⟨l1, l2⟩ := len_lt h hn ha hT hM
  obtain ⟨e1, e2⟩ := suF_div (n := n) ha
  obtain ⟨f, hf⟩ : ∃ f, 600000 - K.length = f + 1 := ⟨600000 - K.length - 1, by omega⟩
  rw [hf, suF, if_pos l1, h, e1, e2, if_neg hY, if_pos hE, List.length_append, List.length_singleton, show 600000 - (K.length + 1) = f from by omega]
theorem suF_err {φ : Nat → Nat → Nat} {M n a : Nat} {bud : Int} {T K : List Nat} (h : K.length = n * M + a) (hn : n < T.length) (ha : a < M) (hM : M ≤ 128) (hT : T.length ≤ 4096) (hY : φ (T.getD n 0) a ∉ T) (hE : ¬ moreE T.length bud = 0) :
    suF φ M bud (600000 - K.length) T K = (moreE T.length bud, [], []) := by
  obtain ⟨l1, l2⟩ := len_lt h hn ha hT hM
  obtain ⟨e1, e2⟩ := suF_div (n := n) ha
  obtain ⟨f, hf⟩ : ∃ f, 600000 - K.length = f + 1 := ⟨600000 - K.length - 1, by omega⟩
  rw [hf, suF, if_pos l1, h, e1, e2, if_neg hY, if_neg hE]
set_option maxRecDepth 100000 in
set_option maxHeartbeats 16000000 in
theorem search_any (B1 : Nat) (w : World) (gb M N b0 g0 c0 X0 : Nat) (bud : Int) (bs gs cs hs : Nat → Nat) (nl : Nat → Bool) (V : Nat → Value) (Ed : List EdT) (hS : Hid (StP B1 w gb M N bs gs cs hs (leaF Ed) nl V (tosF N Ed))) (hX : IsSet w b0 g0 c0 N X0) (hT : TabAt w) (h0 : 0 < w.heap.size) (hN : N ≤ 4096) (hM : M ≤ 128) (hlE : Ed.length ≤ 65536) (hin : ∀ e ∈ Ed, e.2.2.toNat < N) :
    Calls Tryz.prog 46 #[.pointer (some ⟨b0, 0, none⟩), .int .i64 (M : Int), .int .i64 bud, .func (.func 48) #[] #[], .func (.func 50) #[.agg #[.int .i64 (N : Int), .slice (some ⟨gb, 0, none⟩) M M]] #[]] w fun e w' => SrA w N (suF (folF N Ed) M bud 600000 [X0] []) e w' := by
  obtain ⟨r, hr⟩ : ∃ r, suF (folF N Ed) M bud 600000 [X0] [] = r := ⟨_, rfl⟩
  rw [hr]
  obtain ⟨W1, hW1⟩ : ∃ W, w.alloc (.cells #[.pointer (some ⟨b0, 0, none⟩)] 78) = W := ⟨_, rfl⟩
  obtain ⟨W2, hW2⟩ : ∃ W, W1.alloc (.map #[] 0) = W := ⟨_, rfl⟩
  have d1 : Below w.heap.size w W1 := by rw [← hW1]; exact (Below.refl _ _).alloc (Nat.le_refl _) _
  have hz1 : W1.heap.size = w.heap.size + 1 := by rw [← hW1]; simp
  have d2 : Below W1.heap.size W1 W2 := by rw [← hW2]; exact (Below.refl _ _).alloc (Nat.le_refl _) _
  have r1 : W1.ownsRow w.heap.size 78 1 (.slice (some ⟨w.heap.size, 0, none⟩) 1 1) 1 (ptrs (fun _ => b0) 1) := ⟨rfl, .inr ⟨_, 1, _, rfl, Nat.le_refl _, by rw [← hW1]; exact World.alloc_heap_new _ _, Nat.le_refl _, by unfold maxLen; omega, rfl, rfl⟩⟩
  have m2 : W2.ownsMap Tryz.prog 9 (plainElem (H := Unit) Tryz.prog 3) W1.heap.size 0 (.map []) := by rw [← hW2]; exact World.ownsMap_made W1 Tryz.prog 9 (plainElem (H := Unit) Tryz.prog 3)
  have dw := d1.trans (d2.mono d1.size)
  have HI := hide (And.intro (own_below r1 d2) (And.intro m2 (And.intro dw hz1)))
  have HQ := hide (And.intro hT (And.intro h0 (And.intro hlE (And.intro hin (hX.below dw)))))
  obtain ⟨bm, hbm⟩ : ∃ x, W1.heap.size = x := ⟨_, rfl⟩
  have TK := key_any b0 g0 c0 N X0 W2 (hX.below dw)
  rw [hbm] at HI
  clear d1 d2 r1 m2 dw hX hT h0 hlE hin hz1
  have hmm := @run_makeMap Tryz.prog
  go_enter Tryz.func46, Tryz.ntmps46
  go_upto_region 3 with (go_at_call 48; refine TK.mono ?_; rintro e w3 ⟨rfl, d3⟩; have hm3 := map_only HI.out.2.1 (Only.ofBelow (R := fun _ => False) d3) id; obtain ⟨w4, hrun4, hm4, hg4⟩ := World.ownsMap.update (w := w3) (t := 116) (e := 3) hm3 (string_keyed Tryz.underlying9) Tryz.underlying116 (by unfold maxLen; omega) (val := .int .i64 0) ((kSet N).kmk X0 ⟨HQ.out.2.2.2.2.hX, by omega⟩) (plainElem_int Tryz.underlying3 (WalkArith.wf_i64 (by omega))); have hrun4' : (Instr.mapUpdate 116 (.map (some bm)) (.string ⟨(keyPre N X0 ((N + 7) / 8)).toArray⟩) (.int .i64 0)).run Tryz.prog w3 = .ok () w4 := hrun4; have H4 := hide (And.intro d3 (And.intro hm4 hg4)); clear hrun4 hm3 hm4 hg4)
  clear hrun4'
  have og4 : Only w3 w4 (fun k => k = bm) := ⟨H4.out.2.2.os, H4.out.2.2.tape, H4.out.2.2.output, H4.out.2.2.size, fun k hk hn => H4.out.2.2.block k hk (fun e => hn (by injection e with e))⟩
  have kb4 : ∀ q, q = bm → ∀ cs t fr, w3.heap[q]? = some (.cells cs t fr) → t ≠ 123 ∧ t ≠ 126 := fun q hq cs t fr z => by
    subst hq
    exact absurd z (map_kind (map_only HI.out.2.1 (Only.ofBelow (R := fun _ => False) H4.out.1) id))
  have hbmw : w.heap.size ≤ bm := by rw [← hbm, ← hW1]; simp
  have Q4 : SeQ w.heap.size N w4 (.slice (some ⟨w.heap.size, 0, none⟩) 1 1) bm (.slice none 0 0) (fun _ => b0) [X0] [] := ⟨row_only (own_below HI.out.1 H4.out.1) og4 (fun k hk e => by
      subst e
      exact row_map (own_below HI.out.1 H4.out.1) (map_only HI.out.2.1 (Only.ofBelow (R := fun _ => False) H4.out.1) id) hk), fun i hi => by
      obtain rfl : i = 0 := by simp at hi; omega
      exact ⟨g0, c0, set_other (HQ.out.2.2.2.2.below H4.out.1) og4 kb4⟩, ⟨_, H4.out.2.1, (isPl_nil (kSet N)).new (fun x hx => by cases hx) (by simp) ⟨HQ.out.2.2.2.2.hX, by omega⟩⟩, owI_nil _ _, hbmw, by simp, fun X hX => by rw [List.mem_singleton.1 hX]; exact HQ.out.2.2.2.2.hX⟩
  have D4 : Below w.heap.size w w4 := HI.out.2.2.1.trans ((H4.out.1.mono HI.out.2.2.1.size).trans (og4.toBelow (Nat.le_trans HI.out.2.2.1.size H4.out.1.size) (fun k hk => by omega)))
  have HQ4 := hide (And.intro Q4 (And.intro D4 hr))
  clear Q4 D4 og4 kb4 hbmw HI H4 TK hW1 hW2 hbm hr
  go_wp2_with fail
  go_loopw [13, 15, 16] (fun v13 v15 iv wr => ∃ (n : Nat) (T K : List Nat) (bsT : Nat → Nat), iv = .int .i64 (n : Int) ∧ n ≤ T.length ∧ Hid (SeQ w.heap.size N wr v13 bm v15 bsT T K ∧ Below w.heap.size w wr ∧ K.length = n * M ∧ T.length ≤ 4096 ∧ suF (folF N Ed) M bud (600000 - K.length) T K = r)) (fun _ _ iv _ => 4097 - (intOf iv).toNat)
  case atStart => exact ⟨0, [X0], [], fun _ => b0, rfl, Nat.zero_le _, hide ⟨HQ4.out.1, HQ4.out.2.1, by simp, by simp, HQ4.out.2.2⟩⟩
  case round =>
    rename Value => u13
    obtain ⟨n, T, K, bsT, rfl, hnT, HR⟩ := hrel
    obtain ⟨t13, k13, hv13⟩ := own_slice HR.out.1.pt
    obtain rfl := hv13
    have hT4 : T.length ≤ 4096 := HR.out.2.2.2.1
    by_cases hn : n < T.length
    · go_wp2_with fail
      have HR1 : Hid (n < T.length ∧ SeQ w.heap.size N wr (.slice t13 T.length k13) bm u15 bsT T K ∧ Below w.heap.size w wr ∧ K.length = n * M + 0 ∧ T.length ≤ 4096 ∧ suF (folF N Ed) M bud (600000 - K.length) T K = r) := hide ⟨hn, HR.out⟩
      clear HR hnT hn hT4
      rename World => wo
      go_loopw [13, 15, 37] (fun v13 v15 iv wx => ∃ (a : Nat) (T K : List Nat) (bsT : Nat → Nat), iv = .int .i64 (a : Int) ∧ a ≤ M ∧ Hid (n < T.length ∧ SeQ w.heap.size N wx v13 bm v15 bsT T K ∧ Below w.heap.size w wx ∧ K.length = n * M + a ∧ T.length ≤ 4096 ∧ suF (folF N Ed) M bud (600000 - K.length) T K = r)) (fun _ _ iv _ => M - (intOf iv).toNat)
      case atStart => exact ⟨0, T, K, bsT, rfl, Nat.zero_le _, HR1⟩
      case round =>
        clear HR1
        obtain ⟨a, T, K, bsT, rfl, haM, HR⟩ := hrel
        obtain ⟨g13, k13, hv13⟩ := row_form HR.out.2.1.pt (by have := HR.out.1; omega)
        obtain rfl := hv13
        have hnT : n < T.length := HR.out.1
        have hT4 : T.length ≤ 4096 := HR.out.2.2.2.2.1
        by_cases ha : a < M
        · obtain ⟨gX, cX, hXs⟩ := HR.out.2.1.st n hnT
          have yX : wr.cell? ⟨g13, n, none⟩ = some (.pointer (some ⟨bsT n, 0, none⟩)) := row_cell HR.out.2.1.pt (by unfold ptrs; rw [List.getElem?_map, List.getElem?_range hnT]; rfl)
          have HTB : Hid (TabAt wr ∧ 0 < wr.heap.size) := hide ⟨HQ.out.1.below HR.out.2.2.1 HQ.out.2.1, Nat.lt_of_lt_of_le HQ.out.2.1 HR.out.2.2.1.size⟩
          have TF := follow_any B1 wr gb M N (bsT n) gX cX T[n] a bs gs cs hs nl V Ed (hide (hS.out.on HR.out.2.2.1)) hXs ha HTB.out.1 HTB.out.2 hN hM HQ.out.2.2.1 HQ.out.2.2.2.1
          obtain ⟨Y, hY⟩ : ∃ Y, folF N Ed T[n] a = Y := ⟨_, rfl⟩
          rw [hY] at TF
          have HY : Hid (folF N Ed (T.getD n 0) a = Y) := hide (by rw [← hY, List.getD_eq_getElem?_getD, List.getElem?_eq_getElem hnT]; rfl)
          clear hXs hY
          go_upto_region 11 with (go_at_call 50; refine TF.mono ?_; rintro e w5 ⟨b5, g5, c5, rfl, h5⟩; have H5 := hide h5; clear h5)
          clear yX TF
          have HR5 := hide (And.intro (HR.out.2.1.on H5.out.2.2.2.2) (And.intro (HR.out.2.2.1.trans (H5.out.2.2.2.2.mono HR.out.2.2.1.size)) HR.out.2.2.2))
          clear HR
          go_upto_region 12 with (go_at_call 48; refine (key_any b5 g5 c5 N Y w5 H5.out.1).mono ?_; rintro e w6 ⟨rfl, d6⟩; have D6 := hide d6; clear d6)
          have HS6 := hide (And.intro (HR5.out.1.on D6.out) (And.intro (HR5.out.2.1.trans (D6.out.mono HR5.out.2.1.size)) (H5.out.1.below D6.out)))
          have HL5 := hide HR5.out.2.2
          have HNX0 := hide hnT
          have hYN : Y < 2 ^ N := H5.out.1.hX
          clear HR5 H5 D6 HTB
          obtain ⟨Dm, hm6, hp6⟩ := HS6.out.1.mp
          have HMP := hide (And.intro hm6 hp6)
          clear hm6 hp6
          by_cases hYT : Y ∈ T
          · obtain ⟨i, hi⟩ : ∃ i, T.idxOf Y = i := ⟨_, rfl⟩
            have hil : i < T.length := by rw [← hi]; exact List.idxOf_lt_length_iff.2 hYT
            have HIY : Hid (T[i] = Y) := hide (by simp only [← hi]; exact List.getElem_idxOf (by rw [hi]; exact hil))
            have HL : Hid (K.length ≤ 524288 ∧ K.length = n * M + a ∧ T.length ≤ 4096 ∧ suF (folF N Ed) M bud (600000 - (K ++ [i]).length) T (K ++ [i]) = r) := hide (by
              have z1 := HL5.out.1
              have z2 := len_lt z1 hnT ha hT4 hM
              refine ⟨z2.2, z1, hT4, ?_⟩
              rw [← HL5.out.2.2, suF_old z1 hnT ha hM hT4 (by rw [HY.out]; exact hYT), HY.out, hi])
            have HNX := HNX0
            have HSQ := hide (And.intro HS6.out.1 HS6.out.2.1)
            have HOK : Hid ((kSet N).ok T[i]) := hide ⟨by rw [HIY.out]; exact hYN, by omega⟩
            clear HL5 HNX0
            go_upto_region 20 with (at_lookup; refine lookup_at (K := kSet N) _ rfl _ _ 116 rfl Tryz.underlying116 bm T i hil Dm HMP.out.1 HMP.out.2 HOK.out rfl (by rw [HIY.out]; rfl) ?_)
            have HK16 : Hid ((natI K).length ≤ 16777216 ∧ w.heap.size ≤ w6.heap.size) := hide ⟨by rw [natI_len]; have := HL.out.1; omega, HSQ.out.2.size⟩
            go_wp2_with (at_builtin; refine dwpList_appI rfl _ _ rfl w.heap.size u15 (natI K) rfl (own_below HSQ.out.1.nx ((Below.refl _ _).alloc (Nat.le_refl _) _)) w6.heap.size (i : Int) rfl (World.alloc_heap_new _ _) HK16.out.1 (Nat.le_trans HK16.out.2 (by simp)) ?_; intro b8 n8 c8 w8 ho8 hn8 hg8 hl8)
            have o8 : Only w6 w8 (fun q => u15.ownBlock = some q) := (Only.ofBelow ((Below.refl _ _).alloc (Nat.le_refl _) _)).trans hg8.out
            have HS8 := hide (HSQ.out.1.nxt (K' := K ++ [i]) o8 (by have z := ho8.out; rwa [show natI K ++ [((i : Nat) : Int)] = natI (K ++ [i]) from by simp [natI]] at z))
            have HD8 := hide (HSQ.out.2.trans (o8.toBelow HK16.out.2 (fun q hq => (HSQ.out.1.nx.lt q hq).1)))
            clear ho8 hn8 hg8 hl8 o8 HSQ
            go_roundw
            case rel => exact ⟨a + 1, T, K ++ [i], bsT, by go_num, by omega, hide ⟨HNX.out, HS8.out, HD8.out, by rw [List.length_append, List.length_singleton, HL.out.2.1]; omega, HL.out.2.2.1, HL.out.2.2.2⟩⟩
            case measure => simp [intOf]; omega
          · have HNX1 := HNX0
            have TE := oneMore_any w6 (T.length : Int) bud
            clear HNX0
            by_cases hE : moreE T.length bud = 0
            · rw [hE] at TE
              have HL : Hid (K.length ≤ 524288 ∧ K.length = n * M + a ∧ (T ++ [Y]).length ≤ 4096 ∧ suF (folF N Ed) M bud (600000 - (K ++ [T.length]).length) (T ++ [Y]) (K ++ [T.length]) = r) := hide (by
                have z1 := HL5.out.1
                have z2 := len_lt z1 hnT ha hT4 hM
                refine ⟨z2.2, z1, ?_, ?_⟩
                · rw [List.length_append, List.length_singleton]
                  unfold moreE at hE
                  by_cases q1 : 0 < bud ∧ bud ≤ (T.length : Int)
                  · rw [if_pos q1] at hE; cases hE
                  · rw [if_neg q1] at hE
                    by_cases q2 : (4096 : Int) ≤ (T.length : Int)
                    · rw [if_pos q2] at hE; cases hE
                    · omega
                · have z3 := suF_new (φ := folF N Ed) (bud := bud) z1 hnT ha hM hT4 (by rw [HY.out]; exact hYT) hE
                  rw [HY.out] at z3
                  rw [← z3]
                  exact HL5.out.2.2)
              have HNX : Hid (n < (T ++ [Y]).length) := hide (by rw [List.length_append]; omega)
              obtain ⟨i78, hi78, hz78, hy78, hx78⟩ := info_parts info78
              have H78 := hide (And.intro hi78 (And.intro hz78 (And.intro hy78 hx78)))
              have HKM := hide ((kSet N).kmk Y ⟨hYN, by omega⟩)
              clear hi78 hz78 hy78 hx78 HL5 HNX1 hE
              go_upto_region 18 with (first
                | (at_lookup; refine lookup_not (K := kSet N) _ rfl _ _ 116 rfl Tryz.underlying116 bm T Y hYT Dm HMP.out.1 HMP.out.2 ⟨hYN, by omega⟩ rfl rfl ?_; intro c)
                | (go_at_call 90; refine TE.mono ?_; rintro e w7 ⟨rfl, rfl⟩))
              clear TE
              go_upto_region 20 with (first
                | (at_mapUpdate; refine wpList_mapUpdate_own _ rfl _ _ _ 116 rfl 9 3 (string_keyed Tryz.underlying9) Tryz.underlying116 _ bm T.length Dm rfl HMP.out.1 (by unfold maxLen; omega) _ _ _ rfl rfl HKM.out _ [] (plainElem_int Tryz.underlying3 (WalkArith.wf_i64 (by omega))) ?_; intro w8 hm8 hg8; have H8 := hide (And.intro hm8 (And.intro hg8 (show w8.ownsRow w.heap.size 78 1 (.slice (some ⟨g13, 0, none⟩) T.length k13) T.length (ptrs bsT T.length) ∧ w.heap.size ≤ w8.heap.size from ⟨row_only (R := fun k => k = bm) HS6.out.1.pt ⟨hg8.os, hg8.tape, hg8.output, hg8.size, fun k hk hn => hg8.block k hk (fun e => hn (by injection e with e))⟩ (fun k hk e => by subst e; exact row_map HS6.out.1.pt HMP.out.1 hk), Nat.le_trans HS6.out.2.1.size hg8.size⟩))); clear hm8 hg8)
                | (at_builtin; refine wpList_append_own_at _ rfl _ _ 75 rfl w.heap.size 78 i78 _ 1 8 Tryz.underlying75 H78.out.1 H78.out.2.1 H78.out.2.2.1 H78.out.2.2.2 rfl (by omega) (.slice (some ⟨g13, 0, none⟩) T.length k13) T.length (ptrs bsT T.length) rfl (own_below H8.out.2.2.1 ((Below.refl _ _).alloc (Nat.le_refl _) _)) ⟨w8.heap.size, 0, none⟩ 1 1 [.pointer (some ⟨b5, 0, none⟩)] rfl rfl (one_cells (World.alloc_heap_new _ _)) (by simp [Value.oneCell']) (by unfold maxLen; omega) (by omega) (Nat.le_trans H8.out.2.2.2 (by simp)) ?_; intro v9 w9 ho9 hg9 hnil9 hloc9; have H9 := hide (And.intro ho9 (And.intro ((World.grownBy_alloc _ _ _).trans hg9) hnil9)); clear ho9 hg9 hnil9 hloc9))
              have HPU := HS6.out.1.put HMP.out.2 HS6.out.2.2 hYT (by omega) H8.out.1 H8.out.2.1 H9.out.2.1 H9.out.1
              have HSQ := hide (And.intro HPU.1 (HS6.out.2.1.trans (HPU.2.toBelow HS6.out.2.1.size (fun k hk => by
                rcases hk with hk | hk
                · rw [hk]; exact HS6.out.1.ge
                · exact (HS6.out.1.pt.lt k hk).1))))
              clear HPU H8 H9 HS6 HMP HKM H78
              have HK16 : Hid ((natI K).length ≤ 16777216 ∧ w.heap.size ≤ w9.heap.size) := hide ⟨by rw [natI_len]; have := HL.out.1; omega, HSQ.out.2.size⟩
              go_wp2_with (at_builtin; refine dwpList_appI rfl _ _ rfl w.heap.size u15 (natI K) rfl (own_below HSQ.out.1.nx ((Below.refl _ _).alloc (Nat.le_refl _) _)) w9.heap.size (T.length : Int) rfl (World.alloc_heap_new _ _) HK16.out.1 (Nat.le_trans HK16.out.2 (by simp)) ?_; intro b8 n8 c8 w8 ho8 hn8 hg8 hl8)
              have o8 : Only w9 w8 (fun q => u15.ownBlock = some q) := (Only.ofBelow ((Below.refl _ _).alloc (Nat.le_refl _) _)).trans hg8.out
              have HS8 := hide (HSQ.out.1.nxt (K' := K ++ [T.length]) o8 (by have z := ho8.out; rwa [show natI K ++ [((T.length : Nat) : Int)] = natI (K ++ [T.length]) from by simp [natI]] at z))
              have HD8 := hide (HSQ.out.2.trans (o8.toBelow HK16.out.2 (fun q hq => (HSQ.out.1.nx.lt q hq).1)))
              clear ho8 hn8 hg8 hl8 o8 HSQ
              go_roundw
              case rel => exact ⟨a + 1, (T ++ [Y]), K ++ [T.length], (updF bsT T.length b5), by go_num, by omega, hide ⟨HNX.out, HS8.out, HD8.out, by rw [List.length_append, List.length_singleton, HL.out.2.1]; omega, HL.out.2.2.1, HL.out.2.2.2⟩⟩
              case measure => simp [intOf]; omega
            · have hr2 : Hid (r = (moreE T.length bud, [], [])) := hide (by
                have z3 := suF_err (φ := folF N Ed) (bud := bud) HL5.out.1 hnT ha hM hT4 (by rw [HY.out]; exact hYT) hE
                rw [← z3]
                exact HL5.out.2.2.symm)
              obtain ⟨er, her⟩ : ∃ x, moreE T.length bud = x := ⟨_, rfl⟩
              rw [her] at TE hE
              have HER := hide her
              clear her HL5 HNX1
              go_wp2_with (first
                | (at_lookup; refine lookup_not (K := kSet N) _ rfl _ _ 116 rfl Tryz.underlying116 bm T Y hYT Dm HMP.out.1 HMP.out.2 ⟨hYN, by omega⟩ rfl rfl ?_; intro c)
                | (go_at_call 90; refine TE.mono ?_; rintro e w7 ⟨rfl, rfl⟩))
              refine bodyPost_ret (by simp [results, go_sem]; try rfl) rfl ?_
              exact ⟨HS6.out.2.1, .inl (by rw [hr2.out, HER.out]; exact ⟨hE, rfl⟩)⟩
        · have haa : a = M := by omega
          have HE : Hid (SeQ w.heap.size N wr (.slice (some ⟨g13, 0, none⟩) T.length k13) bm u15 bsT T K ∧ Below w.heap.size w wr ∧ K.length = (n + 1) * M ∧ T.length ≤ 4096 ∧ suF (folF N Ed) M bud (600000 - K.length) T K = r) := hide ⟨HR.out.2.1, HR.out.2.2.1, by rw [HR.out.2.2.2.1, haa, Nat.succ_mul], HR.out.2.2.2.2⟩
          clear HR
          go_wp2_with fail
          go_roundw
          case rel => exact ⟨n + 1, T, K, bsT, by go_num, by omega, HE⟩
          case measure => simp [intOf]; omega
    · have hnn : n = T.length := by omega
      have HF : Hid (r = (0, T, K)) := hide (by
        rw [← HR.out.2.2.2.2]
        exact suF_done _ (by rw [HR.out.2.2.1, hnn]; omega))
      have HS9 := hide (And.intro HR.out.1 HR.out.2.1)
      clear HR
      go_wp2_with fail
      refine bodyPost_ret (by simp [results, go_sem]; try rfl) rfl ?_
      exact ⟨HS9.out.2, .inr (by rw [HF.out]; exact ⟨rfl, _, bm, _, bsT, rfl, HS9.out.1⟩)⟩
/-! ### Which sets are taken; their lists -/
/-- The sets that the search met, as they lie. -/
structure PtS (B N : Nat) (w : World) (v13 : Value) (bs : Nat → Nat) (T : List Nat) : Prop where
  pt : w.ownsRow B 78 1 v13 T.length (ptrs bs T.length)
  st : ∀ i (h : i < T.length), ∃ g c, IsSet w (bs i) g c N T[i]
theorem PtS.on {B N : Nat} {w w' : World} {v13 : Value} {bs : Nat → Nat} {T : List Nat} (h : PtS B N w v13 bs T) (d : Below w.heap.size w w') : PtS B N w' v13 bs T :=
  ⟨own_below h.pt d, fun i hi => by obtain ⟨g, c, z⟩ := h.st i hi; exact ⟨g, c, z.below d⟩⟩
theorem SeQ.pts {B N bm : Nat} {w : World} {v13 v15 : Value} {bs : Nat → Nat} {T K : List Nat} (h : SeQ B N w v13 bm v15 bs T K) : PtS B N w v13 bs T := ⟨h.pt, h.st⟩
theorem PtS.ptr {B N g c : Nat} {w : World} {bs : Nat → Nat} {T : List Nat} (h : PtS B N w (.slice (some ⟨g, 0, none⟩) T.length c) bs T) {i : Nat} (hi : i < T.length) : w.cell? ⟨g, i, none⟩ = some (.pointer (some ⟨bs i, 0, none⟩)) :=
  row_cell h.pt (by unfold ptrs; rw [List.getElem?_map, List.getElem?_range hi]; rfl)
/-- The numbers of those sets that meet another one. -/
def nwL (T : List Nat) (F i : Nat) : List Nat := (List.range i).filter fun j => !decide (T.getD j 0 &&& F = 0)
theorem nwL_succ (T : List Nat) (F i : Nat) : nwL T F (i + 1) = if T.getD i 0 &&& F = 0 then nwL T F i else nwL T F i ++ [i] := by
  unfold nwL
  rw [List.range_succ, List.filter_append]
  by_cases h : T.getD i 0 &&& F = 0
  · rw [if_pos h, List.filter_cons_of_neg (by rw [h]; simp), List.filter_nil, List.append_nil]
  · rw [if_neg h, List.filter_cons_of_pos (by simp only [h, decide_false, Bool.not_false]), List.filter_nil]
theorem nwL_len (T : List Nat) (F i : Nat) : (nwL T F i).length ≤ i := by
  unfold nwL
  exact Nat.le_trans (List.length_filter_le _ _) (by simp)
set_option maxRecDepth 100000 in
set_option maxHeartbeats 4000000 in
theorem taken_any (w : World) (N b1 g1 c1 X bF bq gq cq F : Nat) (hX : IsSet w b1 g1 c1 N X) (hF : IsSet w bq gq cq N F) (hb : w.heap[bF]? = some (.cells #[.pointer (some ⟨bq, 0, none⟩)] 78 (0, 0))) :
    Calls Tryz.prog 52 #[.pointer (some ⟨b1, 0, none⟩), .pointer (some ⟨bF, 0, none⟩)] w fun e w' => e = .returned (.bool (!decide (X &&& F = 0))) ∧ Below w.heap.size w w' := by
  have y : w.cell? ⟨bF, 0, none⟩ = some (.pointer (some ⟨bq, 0, none⟩)) := cell_of hb rfl
  have TM := meets_any b1 g1 c1 N X bq gq cq F w hX hF
  clear hX hF hb
  go_enter Tryz.func52, Tryz.ntmps52
  go_wp2_with (go_at_call 53; refine TM.mono ?_; rintro e w1 ⟨rfl, d1⟩)
  go_ret
  exact ⟨rfl, d1⟩
set_option maxRecDepth 100000 in
set_option maxHeartbeats 8000000 in
theorem where_any (B : Nat) (w : World) (N bF bq gq cq F : Nat) (v13 : Value) (bs : Nat → Nat) (T : List Nat) (hP : Hid (PtS B N w v13 bs T)) (hF : IsSet w bq gq cq N F) (hb : w.heap[bF]? = some (.cells #[.pointer (some ⟨bq, 0, none⟩)] 78 (0, 0))) (hT : T.length ≤ 4096) :
    Calls Tryz.prog 51 #[v13, .func (.func 52) #[] #[.pointer (some ⟨bF, 0, none⟩)]] w fun e w' => ∃ v', e = .returned v' ∧ OwI w' w.heap.size v' (natI (nwL T F T.length)) ∧ Below w.heap.size w w' := by
  obtain ⟨t13, k13, hv⟩ := own_slice hP.out.pt
  obtain rfl := hv
  have HFB := hide (And.intro hF hb)
  clear hF hb
  go_enter Tryz.func51, Tryz.ntmps51
  go_wp2_with fail
  go_loopw [5, 10] (fun v iv wr => ∃ i : Nat, i ≤ T.length ∧ iv = .int .i64 (i : Int) ∧ Hid (OwI wr w.heap.size v (natI (nwL T F i)) ∧ Below w.heap.size w wr)) (fun _ iv _ => T.length - (intOf iv).toNat)
  case atStart => exact ⟨0, Nat.zero_le _, rfl, hide ⟨owI_nil _ _, Below.refl _ _⟩⟩
  case round =>
    obtain ⟨i, hi, rfl, HR⟩ := hrel
    by_cases hlt : i < T.length
    · obtain ⟨g13, c13, hvv⟩ := row_form hP.out.pt (by omega)
      injection hvv with h1 h2 h3
      subst h1 h3
      obtain ⟨gi, ci, hs⟩ := hP.out.st i hlt
      have yp : wr.cell? ⟨g13, i, none⟩ = some (.pointer (some ⟨bs i, 0, none⟩)) := (hP.out.on HR.out.2).ptr hlt
      have TT := taken_any wr N (bs i) gi ci T[i] bF bq gq cq F (hs.below HR.out.2) (HFB.out.1.below HR.out.2) (blk_on HFB.out.2 HR.out.2)
      have hl := nwL_len T F i
      have HL16 : Hid ((natI (nwL T F i)).length ≤ 16777216) := hide (by rw [natI_len]; omega)
      clear hs
      by_cases hm : T[i] &&& F = 0
      · rw [hm] at TT
        have HN : Hid (nwL T F (i + 1) = nwL T F i) := hide (by rw [nwL_succ, if_pos]; rw [List.getD_eq_getElem?_getD, List.getElem?_eq_getElem hlt]; exact hm)
        go_wp2_with (go_at_call 52; refine TT.mono ?_; rintro e w5 ⟨rfl, d5⟩; have D5 := hide d5; clear d5)
        go_roundw
        case rel => exact ⟨i + 1, by omega, by go_num, hide ⟨by rw [HN.out]; exact own_below HR.out.1 D5.out, HR.out.2.trans (D5.out.mono HR.out.2.size)⟩⟩
        case measure => simp [intOf]; omega
      · rw [show (!decide (T[i] &&& F = 0)) = true from by simp [hm]] at TT
        have HN : Hid (nwL T F (i + 1) = nwL T F i ++ [i]) := hide (by rw [nwL_succ, if_neg]; rw [List.getD_eq_getElem?_getD, List.getElem?_eq_getElem hlt]; exact hm)
        clear hm
        go_wp2_with (first
          | (go_at_call 52; refine TT.mono ?_; rintro e w5 ⟨rfl, d5⟩; have D5 := hide d5; clear d5)
          | (at_builtin; refine dwpList_appI rfl _ _ rfl w.heap.size u5 (natI (nwL T F i)) rfl (own_below (own_below HR.out.1 D5.out) ((Below.refl _ _).alloc (Nat.le_refl _) _)) w5.heap.size (i : Int) rfl (World.alloc_heap_new _ _) HL16.out (Nat.le_trans HR.out.2.size (Nat.le_trans D5.out.size (by simp))) ?_; intro b8 n8 c8 w8 ho8 hn8 hg8 hl8))
        have o8 : Only w5 w8 (fun q => u5.ownBlock = some q) := (Only.ofBelow ((Below.refl _ _).alloc (Nat.le_refl _) _)).trans hg8.out
        have HO8 : Hid (OwI w8 w.heap.size (.slice b8 n8 c8) (natI (nwL T F (i + 1)))) := hide (by
          have z := ho8.out
          rw [HN.out]
          rwa [show natI (nwL T F i) ++ [((i : Nat) : Int)] = natI (nwL T F i ++ [i]) from by simp [natI]] at z)
        have HD8 := hide ((HR.out.2.trans (D5.out.mono HR.out.2.size)).trans (o8.toBelow (Nat.le_trans HR.out.2.size D5.out.size) (fun q hq => (HR.out.1.lt q hq).1)))
        clear ho8 hn8 hg8 hl8 o8
        go_roundw
        case rel => exact ⟨i + 1, by omega, by go_num, hide ⟨HO8.out, HD8.out⟩⟩
        case measure => simp [intOf]; omega
    · have hii : i = T.length := by omega
      rw [hii] at HR
      go_wp2_with fail
      go_ret
      exact ⟨u5, rfl, HR.out⟩
/-- Lists of sets, apart, in new memory. -/
def LiA (w0 w : World) (v : Value) (LL : List (List Nat)) : Prop :=
  ∃ (gl : Nat) (rv : Nat → Value), v = .slice (some ⟨gl, 0, none⟩) LL.length LL.length ∧ w0.heap.size ≤ gl ∧ Mrw w gl 22 LL.length rv LL.length ∧ (∀ i (h : i < LL.length), OwI w w0.heap.size (rv i) (natI LL[i])) ∧ ∀ i j, i < LL.length → j < LL.length → i ≠ j → ∀ k, (rv i).ownBlock = some k → (rv j).ownBlock ≠ some k
theorem natI_intV (L : List Nat) : (natI L).map (Value.int .i64) = intV L := by simp [natI, intV]
theorem own_low {W : World} {B B' n sz : Nat} {e : TypeId} {v : Value} {xs : List Value} (h : W.ownsRow B e sz v n xs) (hB : B' ≤ B) : W.ownsRow B' e sz v n xs := by
  refine ⟨h.1, ?_⟩
  rcases h.2 with h2 | ⟨g, cap, cur, h1, h2, h3⟩
  · exact .inl h2
  · exact .inr ⟨g, cap, cur, h1, Nat.le_trans hB h2, h3⟩
set_option maxRecDepth 100000 in
set_option maxHeartbeats 8000000 in
theorem listed_any (B : Nat) (w : World) (N : Nat) (v13 : Value) (bs : Nat → Nat) (T : List Nat) (hP : Hid (PtS B N w v13 bs T)) (hT : TabAt w) (h0 : 0 < w.heap.size) (hl : T.length ≤ 4096) :
    Calls Tryz.prog 54 #[v13] w fun e w' => ∃ v', e = .returned v' ∧ LiA w w' v' (T.map (elems N)) ∧ Below w.heap.size w w' := by
  obtain ⟨t13, k13, hv⟩ := own_slice hP.out.pt
  obtain rfl := hv
  obtain ⟨n, hn⟩ : ∃ n, T.length = n := ⟨_, rfl⟩
  obtain ⟨C22, hC22⟩ : ∃ C, madeCells (Value.slice none 0 0).cells (n * 1) = C := ⟨_, rfl⟩
  have hmk2 : ∀ W : World, (Instr.makeSlice 31 (.int .i64 (n : Int)) (.int .i64 (n : Int))).run Tryz.prog W = .ok (.slice (some ⟨W.heap.size, 0, none⟩) n n) (W.alloc (.cells C22 22)) := fun W => by
    obtain ⟨i22, hi22, hz220, hz221, hz222⟩ := info_parts info22'
    have h := run_make (P := Tryz.prog) W 31 22 i22 (.slice none 0 0) Tryz.underlying31 hi22 hz220 .i64 .i64 (n : Int) (n : Int) (by omega) (by omega) (by rw [hz222]; omega) (by omega)
    rw [hz221, Int.toNat_natCast, hC22] at h
    exact h
  obtain ⟨W1, hW1⟩ : ∃ W, w.alloc (.cells C22 22) = W := ⟨_, rfl⟩
  have d1 : Below w.heap.size w W1 := by rw [← hW1]; exact (Below.refl _ _).alloc (Nat.le_refl _) _
  have m1 : Mrw W1 w.heap.size 22 n (fun _ => .slice none 0 0) n := mrw_make rfl (by rw [hC22, ← hW1]; exact World.alloc_heap_new _ _)
  have H1 := hide (And.intro d1 (And.intro m1 (show w.heap.size < W1.heap.size by rw [← hW1]; simp)))
  have HT := hide (And.intro hT (And.intro h0 hn))
  rw [hn] at hP
  clear d1 m1 hT h0
  rw [hn]
  go_enter Tryz.func54, Tryz.ntmps54
  go_wp2_with fail
  obtain ⟨gl, hgl⟩ : ∃ x, w.heap.size = x := ⟨_, rfl⟩
  have HG := hide hgl
  rw [hgl]
  rw [hgl] at H1
  clear hgl hmk2 hC22 hW1
  go_loopw [11] (fun iv wr => ∃ i : Nat, i ≤ n ∧ iv = .int .i64 (i : Int) ∧ Hid (∃ rv : Nat → Value, Mrw wr gl 22 n rv i ∧ (∀ j (h : j < T.length), j < i → OwI wr (gl + 1) (rv j) (natI (elems N T[j]))) ∧ (∀ a b, a < i → b < i → a ≠ b → ∀ k, (rv a).ownBlock = some k → (rv b).ownBlock ≠ some k) ∧ Below gl w wr)) (fun iv _ => n - (intOf iv).toNat)
  case atStart =>
    obtain ⟨cur, h1, h2, h3⟩ := H1.out.2.1
    exact ⟨0, Nat.zero_le _, rfl, hide ⟨fun _ => .slice none 0 0, ⟨cur, h1, h2, fun j hj => absurd hj (Nat.not_lt_zero _)⟩, fun j _ hj => absurd hj (Nat.not_lt_zero _), fun a b ha => absurd ha (Nat.not_lt_zero _), H1.out.1⟩⟩
  case round =>
    obtain ⟨i, hi, rfl, HR⟩ := hrel
    obtain ⟨rv, HR⟩ : ∃ rv : Nat → Value, Hid (Mrw wr gl 22 n rv i ∧ (∀ j (h : j < T.length), j < i → OwI wr (gl + 1) (rv j) (natI (elems N T[j]))) ∧ (∀ a b, a < i → b < i → a ≠ b → ∀ k, (rv a).ownBlock = some k → (rv b).ownBlock ≠ some k) ∧ Below gl w wr) := by
      obtain ⟨rv, h⟩ := HR.out
      exact ⟨rv, hide h⟩
    by_cases hlt : i < n
    · have hTn : i < T.length := by rw [HT.out.2.2]; exact hlt
      obtain ⟨g13, c13, hvv⟩ := row_form hP.out.pt (by omega)
      injection hvv with h1 h2 h3
      subst h1 h3
      have yp : wr.cell? ⟨g13, i, none⟩ = some (.pointer (some ⟨bs i, 0, none⟩)) := by
        have z := (hP.out.on (by rw [HG.out]; exact HR.out.2.2.2))
        have z2 : PtS B N wr (.slice (some ⟨g13, 0, none⟩) T.length k13) bs T := by rw [HT.out.2.2]; exact z
        exact z2.ptr hTn
      obtain ⟨gi, ci, hs⟩ := hP.out.st i hTn
      have HSI : Hid (IsSet wr (bs i) gi ci N T[i] ∧ TabAt wr ∧ gl < wr.heap.size) := hide ⟨hs.below (by rw [HG.out]; exact HR.out.2.2.2), HT.out.1.below (by rw [HG.out]; exact HR.out.2.2.2) HT.out.2.1, HR.out.1.lt⟩
      clear hs
      have p1 : (i : Int) < (n : Int) := by omega
      have p2 : n ≤ 4096 := by omega
      have TL := list_any (bs i) gi ci N T[i] wr HSI.out.1 HSI.out.2.1
      clear h2
      go_wp2_with (go_at_call 59; refine TL.mono ?_; rintro e w5 ⟨g5, c5, rfl, ho5, d5⟩; have H5 := hide (And.intro ho5 d5); clear ho5 d5; obtain ⟨x5, y5⟩ := (HR.out.1.below H5.out.2 HSI.out.2.2).cell i hlt; have f5 := (HR.out.1.below H5.out.2 HSI.out.2.2).fz i)
      obtain ⟨v5, hv5⟩ : ∃ v, Value.slice (some ⟨g5, 0, none⟩) (elems N T[i]).length c5 = v := ⟨_, rfl⟩
      have HM : Hid (∃ rv : Nat → Value, Mrw (w5.setCell ⟨gl, i, none⟩ v5) gl 22 n rv (i + 1) ∧ (∀ j (h : j < T.length), j < i + 1 → OwI (w5.setCell ⟨gl, i, none⟩ v5) (gl + 1) (rv j) (natI (elems N T[j]))) ∧ (∀ a b, a < i + 1 → b < i + 1 → a ≠ b → ∀ k, (rv a).ownBlock = some k → (rv b).ownBlock ≠ some k) ∧ Below gl w (w5.setCell ⟨gl, i, none⟩ v5)) := hide (by
        have o := only_set w5 gl i v5
        have hw5 : OwI w5 wr.heap.size v5 (natI (elems N T[i])) := by
          unfold OwI
          rw [natI_len, natI_intV, ← hv5]
          exact H5.out.1
        have m1 : Mrw w5 gl 22 n (updF rv i v5) i := by
          obtain ⟨cur, h1, h2, h3⟩ := HR.out.1.below H5.out.2 HSI.out.2.2
          exact ⟨cur, h1, h2, fun j hj => by rw [updF_ne rv v5 (by omega)]; exact h3 j hj⟩
        refine ⟨updF rv i v5, m1.put hlt v5 (updF_same rv i v5), fun j hj hji => ?_, fun a b ha hb hab k hka => ?_, ?_⟩
        · by_cases e : j = i
          · subst e
            rw [updF_same]
            exact row_only (own_low hw5 (Nat.succ_le_of_lt HSI.out.2.2)) o (fun k hk e => by have := (hw5.lt k hk).1; have := HSI.out.2.2; omega)
          · rw [updF_ne rv v5 e]
            have z := HR.out.2.1 j hj (by omega)
            exact row_only (own_below z H5.out.2) o (fun k hk e => by have := (z.lt k hk).1; omega)
        · by_cases ea : a = i
          · subst ea
            rw [updF_same] at hka
            rw [updF_ne rv v5 (show b ≠ a from fun e => hab e.symm)]
            intro hkb
            have z := HR.out.2.1 b (by have := HT.out.2.2; omega) (by omega)
            have := (z.lt k hkb).2
            have := (hw5.lt k hka).1
            omega
          · rw [updF_ne rv v5 ea] at hka
            have z := HR.out.2.1 a (by have := HT.out.2.2; omega) (by omega)
            by_cases eb : b = i
            · subst eb
              rw [updF_same]
              intro hkb
              have := (z.lt k hka).2
              have := (hw5.lt k hkb).1
              omega
            · rw [updF_ne rv v5 eb]
              exact HR.out.2.2.1 a b (by omega) (by omega) hab k hka
        · exact HR.out.2.2.2.trans ((H5.out.2.mono (Nat.le_of_lt HSI.out.2.2)).trans (o.toBelow (Nat.le_trans (Nat.le_of_lt HSI.out.2.2) H5.out.2.size) (fun k e => by omega))))
      rw [hv5]
      go_roundw
      case rel => exact ⟨i + 1, by omega, by go_num, HM⟩
      case measure => simp [intOf]; omega
    · obtain rfl : i = n := by omega
      go_wp2_with fail
      go_ret
      refine ⟨_, rfl, ⟨gl, rv, ?_, Nat.le_of_eq HG.out, ?_, ?_, ?_⟩, by rw [HG.out]; exact HR.out.2.2.2⟩
      · show (Value.slice (some ⟨gl, 0, none⟩) i i) = _
        rw [List.length_map, HT.out.2.2]
      · rw [List.length_map, HT.out.2.2]
        exact HR.out.1
      · intro j hj
        rw [List.length_map] at hj
        have z := HR.out.2.1 j hj (by rw [← HT.out.2.2]; exact hj)
        rw [List.getElem_map, HG.out]
        exact own_low z (Nat.le_succ _)
      · intro a b ha hb
        rw [List.length_map, HT.out.2.2] at ha hb
        exact HR.out.2.2.1 a b ha hb
/-! ### Make -/
theorem results_c2 {P : Program} {fn : Func} {p q r : Tmp} {ty : TypeId} (h : fn.results = #[.cell p ty, .tmp q, .tmp r]) (tmps : Array Value) (w : World) (g : Nat) (t : TypeId) (cs : Array Value) (fr : Nat × Nat) (d : TypeDesc) (x y : Value)
    (hp : tmps.getD p undef = .pointer (some ⟨g, 0, none⟩)) (hq : tmps.getD q undef = x) (hr : tmps.getD r undef = y) (hg : w.heap[g]? = some (.cells cs t fr))
    (hu : P.underlying ty = some d) (hd : (match d with | .struct _ | .array _ _ => true | _ => false) = true) (hi : (P.info? ty).map (·.size) = some cs.size) :
    (results fn tmps).run P w = .ok (.tuple #[.agg cs, x, y]) w := by
  have hp' : tmps[p]?.getD undef = .pointer (some ⟨g, 0, none⟩) := by simpa using hp
  have hq' : tmps[q]?.getD undef = x := by simpa using hq
  have hr' : tmps[r]?.getD undef = y := by simpa using hr
  simp [results, h, hp', hq', hr', asAddr, run_loadVar_row w g t ty cs fr d hg hu hd hi]
theorem box2t (w : World) (A Z : Array Value) (t u : TypeId) : Below w.heap.size w ((w.alloc (.cells A t)).alloc (.cells Z u)) ∧ ((w.alloc (.cells A t)).alloc (.cells Z u)).heap[w.heap.size]? = some (.cells A t (0, 0)) ∧ ((w.alloc (.cells A t)).alloc (.cells Z u)).heap[w.heap.size + 1]? = some (.cells Z u (0, 0)) ∧ ((w.alloc (.cells A t)).alloc (.cells Z u)).heap.size = w.heap.size + 2 := by
  refine ⟨((Below.refl _ _).alloc (Nat.le_refl _) _).alloc (by simp) _, (Below.heap_alloc _ _ _ (by simp)).trans (World.alloc_heap_new _ _), ?_, by simp⟩
  have := World.alloc_heap_new (w.alloc (.cells A t)) (.cells Z u)
  simpa using this
set_option maxRecDepth 100000 in
set_option maxHeartbeats 4000000 in
theorem make_bad (w : World) (n m bud : Int) (a1 a2 a3 : Option Addr) (c1 c2 c3 : Nat) (St Fi : List Int) (Ed : List EdT) (hA : Hid (RdA w a1 a2 a3 St Fi Ed)) (h1 : St.length ≤ 4194304) (h2 : Fi.length ≤ 4194304) (h3 : Ed.length ≤ 4194304) (em : mayA n m St Fi Ed = false) :
    Calls Tryz.prog 8 #[.agg #[.int .i64 n, .int .i64 m, .slice a1 St.length c1, .slice a2 Fi.length c2, .slice a3 Ed.length c3], .int .i64 bud] w fun e w' => e = .returned (.tuple #[.agg #[.int .i64 0, .int .i64 0, .int .i64 0, .slice none 0 0, .slice none 0 0], .slice none 0 0, .int .i64 2]) ∧ Below w.heap.size w w' := by
  obtain ⟨W0, hW0⟩ : ∃ W0, (w.alloc (.cells #[.int .i64 n, .int .i64 m, .slice a1 St.length c1, .slice a2 Fi.length c2, .slice a3 Ed.length c3] 25)).alloc (.cells #[.int .i64 0, .int .i64 0, .int .i64 0, .slice none 0 0, .slice none 0 0] 27) = W0 := ⟨_, rfl⟩
  have HD := hide (box2t w #[.int .i64 n, .int .i64 m, .slice a1 St.length c1, .slice a2 Fi.length c2, .slice a3 Ed.length c3] #[.int .i64 0, .int .i64 0, .int .i64 0, .slice none 0 0, .slice none 0 0] 25 27)
  rw [hW0] at HD
  have B0 := HD.out.2.1
  have T1 := normal_bad W0 n m a1 a2 a3 c1 c2 c3 St Fi Ed (hide (hA.out.on HD.out.1)) h1 h2 h3 em
  have k0 : W0.cell? ⟨w.heap.size, 0, none⟩ = some (.int .i64 n) := cell_of B0 rfl
  have k1 : W0.cell? ⟨w.heap.size, 1, none⟩ = some (.int .i64 m) := cell_of B0 rfl
  have k2 : W0.cell? ⟨w.heap.size, 2, none⟩ = some (.slice a1 St.length c1) := cell_of B0 rfl
  have k3 : W0.cell? ⟨w.heap.size, 3, none⟩ = some (.slice a2 Fi.length c2) := cell_of B0 rfl
  have k4 : W0.cell? ⟨w.heap.size, 4, none⟩ = some (.slice a3 Ed.length c3) := cell_of B0 rfl
  clear B0
  go_enter Tryz.func8, Tryz.ntmps8
  go_upto_region 2 with (go_at_call 45; refine T1.mono ?_; rintro e w1 ⟨rfl, d1⟩)
  obtain ⟨W2, hW2⟩ : ∃ W, w1.alloc (.cells #[.int .i64 0, .int .i64 0, .slice none 0 0, .slice none 0 0, .slice none 0 0] 25) = W := ⟨_, rfl⟩
  have D2 := hide (show Below w1.heap.size w1 W2 by rw [← hW2]; exact (Below.refl _ _).alloc (Nat.le_refl _) _)
  have F3 := blk_on (blk_on HD.out.2.2.1 d1) D2.out
  have o0 : W2.cell? ⟨w.heap.size + 1, 0, none⟩ = some (.int .i64 0) := cell_of F3 rfl
  have f0 : W2.frozen? ⟨w.heap.size + 1, 0, none⟩ = false := fz_of F3
  have o1 : W2.cell? ⟨w.heap.size + 1, 1, none⟩ = some (.int .i64 0) := cell_of F3 rfl
  have f1 : W2.frozen? ⟨w.heap.size + 1, 1, none⟩ = false := fz_of F3
  have o2 : W2.cell? ⟨w.heap.size + 1, 2, none⟩ = some (.int .i64 0) := cell_of F3 rfl
  have f2 : W2.frozen? ⟨w.heap.size + 1, 2, none⟩ = false := fz_of F3
  have o3 : W2.cell? ⟨w.heap.size + 1, 3, none⟩ = some (.slice none 0 0) := cell_of F3 rfl
  have f3 : W2.frozen? ⟨w.heap.size + 1, 3, none⟩ = false := fz_of F3
  have o4 : W2.cell? ⟨w.heap.size + 1, 4, none⟩ = some (.slice none 0 0) := cell_of F3 rfl
  have f4 : W2.frozen? ⟨w.heap.size + 1, 4, none⟩ = false := fz_of F3
  have O6 := hide (And.intro (set5 W2 (w.heap.size + 1) _ _ _ _ _ (.int .i64 0) (.int .i64 0) (.int .i64 0) (.slice none 0 0) (.slice none 0 0) 27 F3) (only5 W2 (w.heap.size + 1) (.int .i64 0) (.int .i64 0) (.int .i64 0) (.slice none 0 0) (.slice none 0 0)))
  clear F3
  rw [hW2]
  go_wp2_with fail
  refine bodyPost_ret (results_c2 (p := 4) (q := 5) (r := 6) (ty := 27) rfl _ _ (w.heap.size + 1) 27 _ (0, 0) _ _ _ rfl rfl rfl O6.out.1 Tryz.underlying27 rfl (by kernel_rfl)) rfl ?_
  have z0 := HD.out.2.2.2
  have z1 := d1.size
  have z2 := D2.out.size
  exact ⟨rfl, ((HD.out.1.trans (d1.mono (by omega))).trans (D2.out.mono (by omega))).trans (O6.out.2.toBelow (by omega) (fun k hk => by omega))⟩
/-! ### Make -/
theorem suF_ind {φ : Nat → Nat → Nat} {M : Nat} {bud : Int} {P : List Nat → List Nat → Prop} (hM : M ≤ 128) (hold : ∀ T K, P T K → K.length < T.length * M → φ (T.getD (K.length / M) 0) (K.length % M) ∈ T → P T (K ++ [T.idxOf (φ (T.getD (K.length / M) 0) (K.length % M))])) (hnew : ∀ T K, P T K → K.length < T.length * M → φ (T.getD (K.length / M) 0) (K.length % M) ∉ T → P (T ++ [φ (T.getD (K.length / M) 0) (K.length % M)]) (K ++ [T.length])) :
    ∀ (f : Nat) (T K : List Nat), P T K → T.length ≤ 4096 → K.length ≤ T.length * M → 600000 ≤ f + K.length → (suF φ M bud f T K).1 = 0 → P (suF φ M bud f T K).2.1 (suF φ M bud f T K).2.2 ∧ (suF φ M bud f T K).2.2.length = (suF φ M bud f T K).2.1.length * M ∧ (suF φ M bud f T K).2.1.length ≤ 4096 := by
  intro f
  induction f with
  | zero =>
    intro T K _ hT hK hf _
    have h2 : T.length * M ≤ 4096 * 128 := Nat.mul_le_mul hT hM
    omega
  | succ f ih =>
    intro T K hP hT hK hf h0
    unfold suF at h0 ⊢
    by_cases hl : K.length < T.length * M
    · rw [if_pos hl] at h0 ⊢
      by_cases hm : φ (T.getD (K.length / M) 0) (K.length % M) ∈ T
      · rw [if_pos hm] at h0 ⊢
        exact ih _ _ (hold T K hP hl hm) hT (by rw [List.length_append, List.length_singleton]; omega) (by rw [List.length_append, List.length_singleton]; omega) h0
      · rw [if_neg hm] at h0 ⊢
        by_cases he : moreE T.length bud = 0
        · rw [if_pos he] at h0 ⊢
          have hT2 : T.length + 1 ≤ 4096 := by
            unfold moreE at he
            by_cases q1 : 0 < bud ∧ bud ≤ (T.length : Int)
            · rw [if_pos q1] at he; cases he
            · rw [if_neg q1] at he
              by_cases q2 : (4096 : Int) ≤ (T.length : Int)
              · rw [if_pos q2] at he; cases he
              · omega
          exact ih _ _ (hnew T K hP hl hm) (by rw [List.length_append, List.length_singleton]; omega) (by rw [List.length_append, List.length_append, List.length_singleton, List.length_singleton, Nat.succ_mul]; omega) (by rw [List.length_append, List.length_singleton]; omega) h0
        · rw [if_neg he] at h0
          exact absurd h0 he
    · rw [if_neg hl]
      exact ⟨hP, by show K.length = T.length * M; omega, hT⟩
def setXP (_B N X : Nat) : MkP := fun x _ _ W => ∃ b g c, x = .pointer (some ⟨b, 0, none⟩) ∧ IsSet W b g c N X
theorem setXP_mono {B N X : Nat} : MonoP (setXP B N X) := fun _ _ _ _ _ _ d ⟨b, g, c, e, h⟩ => ⟨b, g, c, e, h.below d⟩
def stpP (N M : Nat) (Ed : List EdT) : MkP := fun x _ _ W => ∃ gb B1 bs gs cs hs nl V, x = .agg #[.int .i64 (N : Int), .slice (some ⟨gb, 0, none⟩) M M] ∧ StP B1 W gb M N bs gs cs hs (leaF Ed) nl V (tosF N Ed)
theorem stpP_mono {N M : Nat} {Ed : List EdT} : MonoP (stpP N M Ed) := fun _ _ _ _ _ _ d ⟨gb, B1, bs, gs, cs, hs, nl, V, e, h⟩ => ⟨gb, B1, bs, gs, cs, hs, nl, V, e, h.on d⟩
def fcP (N M : Nat) (Ed : List EdT) : MkP := fun x _ _ W => ∃ gb B1 bs gs cs hs nl V, x = .func (.func 50) #[.agg #[.int .i64 (N : Int), .slice (some ⟨gb, 0, none⟩) M M]] #[] ∧ StP B1 W gb M N bs gs cs hs (leaF Ed) nl V (tosF N Ed)
theorem fcP_mono {N M : Nat} {Ed : List EdT} : MonoP (fcP N M Ed) := fun _ _ _ _ _ _ d ⟨gb, B1, bs, gs, cs, hs, nl, V, e, h⟩ => ⟨gb, B1, bs, gs, cs, hs, nl, V, e, h.on d⟩
def srP (B N : Nat) (r : Int × List Nat × List Nat) : MkP := fun v _ _ W => ∃ x y z, v = .tuple #[x, y, z] ∧ ((r.1 ≠ 0 ∧ x = .slice none 0 0 ∧ y = .slice none 0 0 ∧ z = .int .i64 r.1) ∨ (r.1 = 0 ∧ z = .int .i64 0 ∧ ∃ bm bsT, SeQ B N W x bm y bsT r.2.1 r.2.2))
theorem srP_mono {B N : Nat} {r : Int × List Nat × List Nat} : MonoP (srP B N r) := fun _ _ _ _ _ _ d ⟨x, y, z, e, h⟩ => ⟨x, y, z, e, h.imp id (fun ⟨h0, hz, bm, bsT, q⟩ => ⟨h0, hz, bm, bsT, q.on d⟩)⟩
def tg (i : Nat) : Value → Value
  | .tuple a => a.getD i undef
  | _ => undef
theorem SeQ.low {B B' N bm : Nat} {w : World} {v13 v15 : Value} {bs : Nat → Nat} {T K : List Nat} (h : SeQ B N w v13 bm v15 bs T K) (hB : B' ≤ B) : SeQ B' N w v13 bm v15 bs T K :=
  ⟨own_low h.pt hB, h.st, h.mp, own_low h.nx hB, Nat.le_trans hB h.ge, h.nod, h.ok⟩
theorem srP_low {B B' N : Nat} {r : Int × List Nat × List Nat} {x : Value} {lo hi : Nat} {W : World} (h : srP B N r x lo hi W) (hB : B' ≤ B) : srP B' N r x lo hi W := by
  obtain ⟨x, y, z, e, h⟩ := h
  exact ⟨x, y, z, e, h.imp id (fun ⟨h0, hz, bm, bsT, q⟩ => ⟨h0, hz, bm, bsT, q.low hB⟩)⟩
theorem srP_up {B N : Nat} {r : Int × List Nat × List Nat} {x y : Value} {lo hi lo' hi' : Nat} {W : World} (e : x = y) (h : srP B N r y lo hi W) : srP B N r x lo' hi' W := by rw [e]; exact h
theorem srA_val {w w' : World} {N : Nat} {r r' : Int × List Nat × List Nat} {e : Ending} (h : SrA w N r' e w') (hr : r' = r) : ∃ v, e = .returned v ∧ srP w.heap.size N r v 0 0 w' := by
  subst hr
  rcases h.2 with ⟨h1, h2⟩ | ⟨h1, v13, bm, v15, bsT, h2, h3⟩
  · exact ⟨_, h2, _, _, _, rfl, .inl ⟨h1, rfl, rfl, rfl⟩⟩
  · exact ⟨_, h2, _, _, _, rfl, .inr ⟨h1, rfl, bm, bsT, h3⟩⟩
theorem LiA.on {w0 w w' : World} {v : Value} {LL : List (List Nat)} (h : LiA w0 w v LL) (d : Below w.heap.size w w') : LiA w0 w' v LL := by
  obtain ⟨gl, rv, e, hg, hm, ho, ha⟩ := h
  exact ⟨gl, rv, e, hg, hm.below d hm.lt, fun i hi => own_below (ho i hi) d, ha⟩
theorem LiA.low {w0 w1 w : World} {v : Value} {LL : List (List Nat)} (h : LiA w1 w v LL) (hs : w0.heap.size ≤ w1.heap.size) : LiA w0 w v LL := by
  obtain ⟨gl, rv, e, hg, hm, ho, ha⟩ := h
  exact ⟨gl, rv, e, Nat.le_trans hs hg, hm, fun i hi => own_low (ho i hi) hs, ha⟩
theorem LiA.only {w0 w w' : World} {R : Nat → Prop} {v : Value} {LL : List (List Nat)} (h : LiA w0 w v LL) (o : Only w w' R) (hR : ∀ k, R k → k < w0.heap.size) : LiA w0 w' v LL := by
  obtain ⟨gl, rv, e, hg, hm, ho, ha⟩ := h
  refine ⟨gl, rv, e, hg, ?_, fun i hi => row_only (ho i hi) o (fun k hk hk2 => ?_), ha⟩
  · have hl := hm.lt
    obtain ⟨cur, q1, q2, q3⟩ := hm
    exact ⟨cur, (o.block _ hl (fun e => by have := hR _ e; omega)).trans q1, q2, q3⟩
  · have := ((ho i hi).lt k hk).1
    have := hR k hk2
    omega
def liP (w0 : World) (LL : List (List Nat)) : MkP := fun x _ _ W => ∃ v, x = v ∧ LiA w0 W v LL
theorem liP_mono {w0 : World} {LL : List (List Nat)} : MonoP (liP w0 LL) := fun _ _ _ _ _ _ d ⟨v, e, h⟩ => ⟨v, e, h.on d⟩
theorem setof_len {φ : Nat → Nat → Nat} {M X : Nat} {bud : Int} {r : Int × List Nat × List Nat} (h : suF φ M bud 600000 [X] [] = r) (h0 : r.1 = 0) (hM : M ≤ 128) : r.2.1.length ≤ 4096 := by
  subst h
  exact (suF_ind (P := fun _ _ => True) hM (fun _ _ _ _ _ => trivial) (fun _ _ _ _ _ => trivial) 600000 [X] [] trivial (by simp) (by simp) (by simp) h0).2.2
theorem listed8 {k : Option Addr} {n l c : Nat} {W : World} {Q : Ending → World → Prop} (e : l = n) (h : Calls Tryz.prog 54 #[.slice k l c] W Q) : Calls Tryz.prog 54 #[.slice k n c] W Q := by rw [← e]; exact h
theorem sq_pt {B N bm : Nat} {w : World} {b : Option Addr} {l n c : Nat} {v15 : Value} {bs : Nat → Nat} {T K : List Nat} (e : l = n) (h : SeQ B N w (.slice b n c) bm v15 bs T K) : SeQ B N w (.slice b l c) bm v15 bs T K := by rw [e]; exact h
/-- What Make answers. -/
def MkA (w0 : World) (N M : Nat) (r : Int × List Nat × List Nat) (F : Nat) (e : Ending) (w' : World) : Prop :=
  Below w0.heap.size w0 w' ∧ ((r.1 ≠ 0 ∧ e = .returned (.tuple #[.agg #[.int .i64 0, .int .i64 0, .int .i64 0, .slice none 0 0, .slice none 0 0], .slice none 0 0, .int .i64 r.1])) ∨ (r.1 = 0 ∧ ∃ vF vN vL, e = .returned (.tuple #[.agg #[.int .i64 (r.2.1.length : Int), .int .i64 (M : Int), .int .i64 0, vF, vN], vL, .int .i64 0]) ∧ OwI w' w0.heap.size vF (natI (nwL r.2.1 F r.2.1.length)) ∧ OwI w' w0.heap.size vN (natI r.2.2) ∧ LiA w0 w' vL (r.2.1.map (elems N)) ∧ r.2.1.Nodup ∧ (∀ X ∈ r.2.1, X < 2 ^ N)))
set_option maxRecDepth 100000 in
set_option maxHeartbeats 16000000 in
theorem make_ok (w : World) (N M : Nat) (bud : Int) (a1 a2 a3 : Option Addr) (c1 c2 c3 : Nat) (St Fi : List Int) (Ed : List EdT) (hA : Hid (RdA w a1 a2 a3 St Fi Ed)) (h1 : St.length ≤ 4194304) (h2 : Fi.length ≤ 4194304) (h3 : Ed.length ≤ 4194304) (em : mayA N M St Fi Ed = true) (hT : TabAt w) (h0 : 0 < w.heap.size) :
    Calls Tryz.prog 8 #[.agg #[.int .i64 (N : Int), .int .i64 (M : Int), .slice a1 St.length c1, .slice a2 Fi.length c2, .slice a3 Ed.length c3], .int .i64 bud] w fun e w' => MkA w N M (suF (folF N (riseE Ed)) M bud 600000 [setI N (riseL St)] []) (setI N (riseL Fi)) e w' := by
  obtain ⟨W0, hW0⟩ : ∃ W0, (w.alloc (.cells #[.int .i64 (N : Int), .int .i64 (M : Int), .slice a1 St.length c1, .slice a2 Fi.length c2, .slice a3 Ed.length c3] 25)).alloc (.cells #[.int .i64 0, .int .i64 0, .int .i64 0, .slice none 0 0, .slice none 0 0] 27) = W0 := ⟨_, rfl⟩
  have HD := hide (box2t w #[.int .i64 (N : Int), .int .i64 (M : Int), .slice a1 St.length c1, .slice a2 Fi.length c2, .slice a3 Ed.length c3] #[.int .i64 0, .int .i64 0, .int .i64 0, .slice none 0 0, .slice none 0 0] 25 27)
  rw [hW0] at HD
  have B0 := HD.out.2.1
  have T1 := normal_ok W0 N M a1 a2 a3 c1 c2 c3 St Fi Ed (hide (hA.out.on HD.out.1)) h1 h2 h3 em
  have y0 : W0.cell? ⟨w.heap.size, 0, none⟩ = some (.int .i64 (N : Int)) := cell_of B0 rfl
  have y1 : W0.cell? ⟨w.heap.size, 1, none⟩ = some (.int .i64 (M : Int)) := cell_of B0 rfl
  have y2 : W0.cell? ⟨w.heap.size, 2, none⟩ = some (.slice a1 St.length c1) := cell_of B0 rfl
  have y3 : W0.cell? ⟨w.heap.size, 3, none⟩ = some (.slice a2 Fi.length c2) := cell_of B0 rfl
  have y4 : W0.cell? ⟨w.heap.size, 4, none⟩ = some (.slice a3 Ed.length c3) := cell_of B0 rfl
  clear B0
  have HL : Hid ((riseL St).length ≤ 4194304 ∧ (riseL Fi).length ≤ 4194304 ∧ (riseE Ed).length ≤ 65536 ∧ N ≤ 4096 ∧ M ≤ 128 ∧ (riseL St).all (inB N) = true ∧ (riseL Fi).all (inB N) = true ∧ ∀ e ∈ riseE Ed, (0 ≤ e.1 ∧ e.1 < (N : Int)) ∧ (0 ≤ e.2.1 ∧ e.2.1 < (M : Int)) ∧ 0 ≤ e.2.2 ∧ e.2.2 < (N : Int)) := hide (by
    unfold mayA at em
    simp only [Bool.and_eq_true, decide_eq_true_eq] at em
    obtain ⟨⟨⟨⟨⟨e1, e2⟩, e3⟩, e4⟩, e5⟩, e6⟩ := em
    have e1 := inB_iff.1 e1
    have e2 := inB_iff.1 e2
    rw [List.all_eq_true] at e4 e5 e6
    refine ⟨Nat.le_trans (riseL_len _) h1, Nat.le_trans (riseL_len _) h2, Nat.le_trans (riseE_len _) e3, by omega, by omega, ?_, ?_, fun e he => ?_⟩
    · rw [List.all_eq_true]
      exact fun x hx => e4 x ((riseL_iff _ _).1 hx)
    · rw [List.all_eq_true]
      exact fun x hx => e5 x ((riseL_iff _ _).1 hx)
    · have z := e6 e ((riseE_iff _ _).1 he)
      unfold edOk at z
      simp only [Bool.and_eq_true] at z
      exact ⟨inB_iff.1 z.1.1, inB_iff.1 z.1.2, inB_iff.1 z.2⟩)
  obtain ⟨r, hr⟩ : ∃ r, suF (folF N (riseE Ed)) M bud 600000 [setI N (riseL St)] [] = r := ⟨_, rfl⟩
  rw [hr]
  generalize riseL St = S1 at T1 HL hr ⊢
  generalize riseL Fi = F1 at T1 HL ⊢
  generalize riseE Ed = E1 at T1 HL hr ⊢
  have HR := hide hr
  have HT0 := hide (And.intro hT h0)
  clear hr em hA h1 h2 h3 hT h0
  go_enter Tryz.func8, Tryz.ntmps8
  go_upto_region 4 with (go_at_call 45; refine T1.mono ?_; rintro e w1 ⟨g1, k1, g2, k2, g3, k3, rfl, hO, d1⟩; have H1 := hide (And.intro hO d1); clear hO d1 y0 y1 y2 y3 y4 T1; obtain ⟨p7, hp7⟩ : ∃ p, w1.heap.size = p := ⟨_, rfl⟩)
  obtain ⟨W2, hW2⟩ : ∃ W, w1.alloc (.cells #[.int .i64 (N : Int), .int .i64 (M : Int), .slice (some ⟨g1, 0, none⟩) S1.length k1, .slice (some ⟨g2, 0, none⟩) F1.length k2, .slice (some ⟨g3, 0, none⟩) E1.length k3] 25) = W := ⟨_, rfl⟩
  try rw [hp7]
  rw [hW2]
  have D2 := hide (show Below w1.heap.size w1 W2 by rw [← hW2]; exact (Below.refl _ _).alloc (Nat.le_refl _) _)
  have HB7 : Hid (W2.heap[p7]? = some (.cells #[.int .i64 (N : Int), .int .i64 (M : Int), .slice (some ⟨g1, 0, none⟩) S1.length k1, .slice (some ⟨g2, 0, none⟩) F1.length k2, .slice (some ⟨g3, 0, none⟩) E1.length k3] 25 (0, 0))) := hide (by rw [← hW2, ← hp7]; exact World.alloc_heap_new _ _)
  have HZ := hide (blk_on (blk_on HD.out.2.2.1 H1.out.2) D2.out)
  have HO := hide ((H1.out.1.rd).on D2.out)
  have z0 := HD.out.2.2.2
  have HD2 : Hid (Below w.heap.size w W2) := hide ((HD.out.1.trans (H1.out.2.mono (by omega))).trans (D2.out.mono (by have := H1.out.2.size; omega)))
  have HSZ : Hid (w.heap.size + 2 ≤ W2.heap.size) := hide (by have := H1.out.2.size; have := D2.out.size; omega)
  have HT : Hid (TabAt W2 ∧ 0 < W2.heap.size) := hide ⟨HT0.out.1.below HD2.out HT0.out.2, by have := HSZ.out; omega⟩
  clear D2 HD H1 hW0 hW2 hp7 z0 HT0
  have hmo : MonIL 0 [vI 0 (.pointer (some ⟨p7, 0, none⟩)), vI 1 (.int .i64 (N : Int)), vI 2 (.pointer (some ⟨p7, 2, none⟩)), vI 3 (.slice (some ⟨g1, 0, none⟩) S1.length k1), pI 4 (setXP W2.heap.size N (setI N S1)), vI 5 (.pointer (some ⟨p7, 1, none⟩)), vI 6 (.int .i64 (M : Int)), vI 7 (.int .i64 bud), vI 8 (.agg #[.int .i64 (N : Int), .int .i64 (M : Int), .slice (some ⟨g1, 0, none⟩) S1.length k1, .slice (some ⟨g2, 0, none⟩) F1.length k2, .slice (some ⟨g3, 0, none⟩) E1.length k3]), pI 9 (stpP N M E1), pI 10 (fcP N M E1), pI 11 (srP W2.heap.size N r), pI 12 (srP W2.heap.size N r), ⟨[12], [], fun y _ _ _ => y 13 = tg 0 (y 12)⟩, ⟨[12], [], fun y _ _ _ => y 14 = tg 1 (y 12)⟩, ⟨[12], [], fun y _ _ _ => y 15 = tg 2 (y 12)⟩, ⟨[12], [], fun y _ _ _ => y 16 = tg 0 (y 12)⟩, ⟨[12], [], fun y _ _ _ => y 17 = tg 1 (y 12)⟩, ⟨[12], [], fun y _ _ _ => y 18 = tg 2 (y 12)⟩] := ⟨vI_mono _ _, vI_mono _ _, vI_mono _ _, vI_mono _ _, pI_mono setXP_mono, vI_mono _ _, vI_mono _ _, vI_mono _ _, vI_mono _ _, pI_mono stpP_mono, pI_mono fcP_mono, pI_mono srP_mono, pI_mono srP_mono, (fun _ _ _ _ _ _ _ _ hy h => by dsimp only at hy h ⊢; rw [hy 13 (Or.inl rfl), hy 12 (Or.inr (by simp))]; exact h), (fun _ _ _ _ _ _ _ _ hy h => by dsimp only at hy h ⊢; rw [hy 14 (Or.inl rfl), hy 12 (Or.inr (by simp))]; exact h), (fun _ _ _ _ _ _ _ _ hy h => by dsimp only at hy h ⊢; rw [hy 15 (Or.inl rfl), hy 12 (Or.inr (by simp))]; exact h), (fun _ _ _ _ _ _ _ _ hy h => by dsimp only at hy h ⊢; rw [hy 16 (Or.inl rfl), hy 12 (Or.inr (by simp))]; exact h), (fun _ _ _ _ _ _ _ _ hy h => by dsimp only at hy h ⊢; rw [hy 17 (Or.inl rfl), hy 12 (Or.inr (by simp))]; exact h), (fun _ _ _ _ _ _ _ _ hy h => by dsimp only at hy h ⊢; rw [hy 18 (Or.inl rfl), hy 12 (Or.inr (by simp))]; exact h), trivial⟩
  refine wp_region_sl [vI 0 (.pointer (some ⟨p7, 0, none⟩)), vI 1 (.int .i64 (N : Int)), vI 2 (.pointer (some ⟨p7, 2, none⟩)), vI 3 (.slice (some ⟨g1, 0, none⟩) S1.length k1), pI 4 (setXP W2.heap.size N (setI N S1)), vI 5 (.pointer (some ⟨p7, 1, none⟩)), vI 6 (.int .i64 (M : Int)), vI 7 (.int .i64 bud), vI 8 (.agg #[.int .i64 (N : Int), .int .i64 (M : Int), .slice (some ⟨g1, 0, none⟩) S1.length k1, .slice (some ⟨g2, 0, none⟩) F1.length k2, .slice (some ⟨g3, 0, none⟩) E1.length k3]), pI 9 (stpP N M E1), pI 10 (fcP N M E1), pI 11 (srP W2.heap.size N r), pI 12 (srP W2.heap.size N r), ⟨[12], [], fun y _ _ _ => y 13 = tg 0 (y 12)⟩, ⟨[12], [], fun y _ _ _ => y 14 = tg 1 (y 12)⟩, ⟨[12], [], fun y _ _ _ => y 15 = tg 2 (y 12)⟩, ⟨[12], [], fun y _ _ _ => y 16 = tg 0 (y 12)⟩, ⟨[12], [], fun y _ _ _ => y 17 = tg 1 (y 12)⟩, ⟨[12], [], fun y _ _ _ => y 18 = tg 2 (y 12)⟩] (by kernel_rfl) (by kernel_rfl) (by kernel_rfl) (by kernel_rfl) hmo ⟨?o0, ?o1, ?o2, ?o3, ?o4, ?o5, ?o6, ?o7, ?o8, ?o9, ?o10, ?o11, ?o12, ?o13, ?o14, ?o15, ?o16, ?o17, ?o18, trivial⟩ ?fin
  case o0 =>
    intro At yy W hy hb d hd K hK
    have s7 : At.tmps.getD 7 undef = .pointer (some ⟨p7, 0, none⟩) := hb 7 rfl
    have s7' := s7
    rw [Array.getD_eq_getD_getElem?] at s7'
    clear hd hy hb
    go_simp
    exact hK.out _ W (stp_of hmo d (Below.refl _ _)) (if_pos rfl)
  case o1 =>
    intro At yy W hy hb d hd K hK
    have e0 : yy 0 = .pointer (some ⟨p7, 0, none⟩) := by obtain ⟨_, _, _, _, e⟩ := hd ⟨0, .data⟩ (by simp) rfl rfl; exact e
    have s23 := (hy 0 _ 23 rfl rfl).trans e0
    have s23' := s23
    rw [Array.getD_eq_getD_getElem?] at s23'
    clear hd hy hb
    have z0 : W.cell? ⟨p7, 0, none⟩ = some (.int .i64 (N : Int)) := cell_of (blk_on HB7.out d) rfl
    go_simp
    exact hK.out _ W (stp_of hmo d (Below.refl _ _)) (if_pos rfl)
  case o2 =>
    intro At yy W hy hb d hd K hK
    have s7 : At.tmps.getD 7 undef = .pointer (some ⟨p7, 0, none⟩) := hb 7 rfl
    have s7' := s7
    rw [Array.getD_eq_getD_getElem?] at s7'
    clear hd hy hb
    go_simp
    exact hK.out _ W (stp_of hmo d (Below.refl _ _)) (if_pos rfl)
  case o3 =>
    intro At yy W hy hb d hd K hK
    have e2 : yy 2 = .pointer (some ⟨p7, 2, none⟩) := by obtain ⟨_, _, _, _, e⟩ := hd ⟨2, .data⟩ (by simp) rfl rfl; exact e
    have s25 := (hy 2 _ 25 rfl rfl).trans e2
    have s25' := s25
    rw [Array.getD_eq_getD_getElem?] at s25'
    clear hd hy hb
    have z2 : W.cell? ⟨p7, 2, none⟩ = some (.slice (some ⟨g1, 0, none⟩) S1.length k1) := cell_of (blk_on HB7.out d) rfl
    go_simp
    exact hK.out _ W (stp_of hmo d (Below.refl _ _)) (if_pos rfl)
  case o4 =>
    intro At yy W hy hb d hd K hK
    have e1 : yy 1 = .int .i64 (N : Int) := by obtain ⟨_, _, _, _, e⟩ := hd ⟨1, .data⟩ (by simp) rfl rfl; exact e
    have e3 : yy 3 = .slice (some ⟨g1, 0, none⟩) S1.length k1 := by obtain ⟨_, _, _, _, e⟩ := hd ⟨3, .data⟩ (by simp) rfl rfl; exact e
    have s24 := (hy 1 _ 24 rfl rfl).trans e1
    have s24' := s24
    rw [Array.getD_eq_getD_getElem?] at s24'
    have s26 := (hy 3 _ 26 rfl rfl).trans e3
    have s26' := s26
    rw [Array.getD_eq_getD_getElem?] at s26'
    clear hd hy hb
    go_simp
    go_wp2_with (go_at_call 47; refine (setOf_any W N (some ⟨g1, 0, none⟩) k1 S1 (HO.out.s.on d) HL.out.1 HL.out.2.2.2.1 HL.out.2.2.2.2.2.1).mono ?_; rintro e wa ⟨b, g, c, rfl, hq⟩)
    exact hK.out _ wa (stp_of hmo d hq.2.2.2.2) ⟨b, g, c, if_pos rfl, hq.1⟩
  case o5 =>
    intro At yy W hy hb d hd K hK
    have s7 : At.tmps.getD 7 undef = .pointer (some ⟨p7, 0, none⟩) := hb 7 rfl
    have s7' := s7
    rw [Array.getD_eq_getD_getElem?] at s7'
    clear hd hy hb
    go_simp
    exact hK.out _ W (stp_of hmo d (Below.refl _ _)) (if_pos rfl)
  case o6 =>
    intro At yy W hy hb d hd K hK
    have e5 : yy 5 = .pointer (some ⟨p7, 1, none⟩) := by obtain ⟨_, _, _, _, e⟩ := hd ⟨5, .data⟩ (by simp) rfl rfl; exact e
    have s28 := (hy 5 _ 28 rfl rfl).trans e5
    have s28' := s28
    rw [Array.getD_eq_getD_getElem?] at s28'
    clear hd hy hb
    have z1 : W.cell? ⟨p7, 1, none⟩ = some (.int .i64 (M : Int)) := cell_of (blk_on HB7.out d) rfl
    go_simp
    exact hK.out _ W (stp_of hmo d (Below.refl _ _)) (if_pos rfl)
  case o7 =>
    intro At yy W hy hb d hd K hK
    have s1 : At.tmps.getD 1 undef = .int .i64 bud := hb 1 rfl
    have s1' := s1
    rw [Array.getD_eq_getD_getElem?] at s1'
    clear hd hy hb
    go_simp
    exact hK.out _ W (stp_of hmo d (Below.refl _ _)) (if_pos rfl)
  case o8 =>
    intro At yy W hy hb d hd K hK
    have s7 : At.tmps.getD 7 undef = .pointer (some ⟨p7, 0, none⟩) := hb 7 rfl
    have s7' := s7
    rw [Array.getD_eq_getD_getElem?] at s7'
    clear hd hy hb
    have z0 : W.cell? ⟨p7, 0, none⟩ = some (.int .i64 (N : Int)) := cell_of (blk_on HB7.out d) rfl
    have z1 : W.cell? ⟨p7, 1, none⟩ = some (.int .i64 (M : Int)) := cell_of (blk_on HB7.out d) rfl
    have z2 : W.cell? ⟨p7, 2, none⟩ = some (.slice (some ⟨g1, 0, none⟩) S1.length k1) := cell_of (blk_on HB7.out d) rfl
    have z3 : W.cell? ⟨p7, 3, none⟩ = some (.slice (some ⟨g2, 0, none⟩) F1.length k2) := cell_of (blk_on HB7.out d) rfl
    have z4 : W.cell? ⟨p7, 4, none⟩ = some (.slice (some ⟨g3, 0, none⟩) E1.length k3) := cell_of (blk_on HB7.out d) rfl
    go_simp
    exact hK.out _ W (stp_of hmo d (Below.refl _ _)) (if_pos rfl)
  case o9 =>
    intro At yy W hy hb d hd K hK
    have e8 : yy 8 = .agg #[.int .i64 (N : Int), .int .i64 (M : Int), .slice (some ⟨g1, 0, none⟩) S1.length k1, .slice (some ⟨g2, 0, none⟩) F1.length k2, .slice (some ⟨g3, 0, none⟩) E1.length k3] := by obtain ⟨_, _, _, _, e⟩ := hd ⟨8, .data⟩ (by simp) rfl rfl; exact e
    have s31 := (hy 8 _ 31 rfl rfl).trans e8
    have s31' := s31
    rw [Array.getD_eq_getD_getElem?] at s31'
    clear hd hy hb
    go_simp
    go_wp2_with (go_at_call 49; refine (newSteps_any W N M (some ⟨g1, 0, none⟩) (some ⟨g2, 0, none⟩) (some ⟨g3, 0, none⟩) S1.length F1.length k1 k2 E1.length k3 E1 (HO.out.e.on d) rfl HL.out.2.2.2.2.2.2.2 HL.out.2.2.2.1 HL.out.2.2.2.2.1 HL.out.2.2.1).mono ?_; rintro e wa ⟨gb, rfl, bs, gs, cs, hs, nl, V, hst, hd9⟩)
    exact hK.out _ wa (stp_of hmo d hd9) ⟨gb, _, bs, gs, cs, hs, nl, V, if_pos rfl, hst⟩
  case o10 =>
    intro At yy W hy hb d hd K hK
    have f9 := hd ⟨9, .data⟩ (by simp) rfl rfl
    obtain ⟨lo9, hi9, _, _, gb, B1, bs, gs, cs, hs, nl, V, e9, h9⟩ := f9
    have s32 := (hy 9 _ 32 rfl rfl).trans e9
    have s32' := s32
    rw [Array.getD_eq_getD_getElem?] at s32'
    clear hd hy hb
    go_simp
    exact hK.out _ W (stp_of hmo d (Below.refl _ _)) ⟨gb, B1, bs, gs, cs, hs, nl, V, if_pos rfl, h9⟩
  case o11 =>
    intro At yy W hy hb d hd K hK
    have f4 := hd ⟨4, .data⟩ (by simp) rfl rfl
    have e6 : yy 6 = .int .i64 (M : Int) := by obtain ⟨_, _, _, _, e⟩ := hd ⟨6, .data⟩ (by simp) rfl rfl; exact e
    have e7 : yy 7 = .int .i64 bud := by obtain ⟨_, _, _, _, e⟩ := hd ⟨7, .data⟩ (by simp) rfl rfl; exact e
    have f10 := hd ⟨10, .data⟩ (by simp) rfl rfl
    obtain ⟨lo4, hi4, _, _, b0, g0, c0, e4, h4⟩ := f4
    obtain ⟨lo10, hi10, _, _, gb, B1, bs, gs, cs, hs, nl, V, e10, h10⟩ := f10
    have s27 := (hy 4 _ 27 rfl rfl).trans e4
    have s27' := s27
    rw [Array.getD_eq_getD_getElem?] at s27'
    have s29 := (hy 6 _ 29 rfl rfl).trans e6
    have s29' := s29
    rw [Array.getD_eq_getD_getElem?] at s29'
    have s30 := (hy 7 _ 30 rfl rfl).trans e7
    have s30' := s30
    rw [Array.getD_eq_getD_getElem?] at s30'
    have s33 := (hy 10 _ 33 rfl rfl).trans e10
    have s33' := s33
    rw [Array.getD_eq_getD_getElem?] at s33'
    clear hd hy hb
    go_simp
    go_wp2_with (go_at_call 46; refine (search_any B1 W gb M N b0 g0 c0 (setI N S1) bud bs gs cs hs nl V E1 (hide h10) h4 (HT.out.1.below d HT.out.2) (Nat.lt_of_lt_of_le HT.out.2 d.size) HL.out.2.2.2.1 HL.out.2.2.2.2.1 HL.out.2.2.1 (fun e he => by have := (HL.out.2.2.2.2.2.2.2 e he).2.2; omega)).mono ?_; intro e wa hsr; obtain ⟨ve, hve, hsp⟩ := srA_val hsr HR.out; obtain rfl := hve; have hda := hsr.1)
    exact hK.out _ wa (stp_of hmo d hda) (srP_up (y := ve) (lo' := 0) (hi' := 0) (if_pos rfl) (srP_low hsp d.size))
  case o12 =>
    intro At yy W hy hb d hd K hK
    have f11 := hd ⟨11, .data⟩ (by simp) rfl rfl
    obtain ⟨lo11, hi11, _, _, x, y, z, e11, h11⟩ := f11
    have s34 := (hy 11 _ 34 rfl rfl).trans e11
    have s34' := s34
    rw [Array.getD_eq_getD_getElem?] at s34'
    clear hd hy hb
    go_simp
    exact hK.out _ W (stp_of hmo d (Below.refl _ _)) ⟨x, y, z, if_pos rfl, h11⟩
  case o13 =>
    intro At yy W hy hb d hd K hK
    have f12 := hd ⟨12, .data⟩ (by simp) rfl rfl
    obtain ⟨lo12, hi12, _, _, x, y, z, e12, h12⟩ := f12
    have s22 := (hy 12 _ 22 rfl rfl).trans e12
    have s22' := s22
    rw [Array.getD_eq_getD_getElem?] at s22'
    clear hd hy hb
    go_simp
    exact hK.out _ W (stp_of hmo d (Below.refl _ _)) (by show updV yy 13 _ 13 = tg 0 (updV yy 13 _ 12); rw [show ∀ x, updV yy 13 x 13 = x from fun x => if_pos rfl, show ∀ x, updV yy 13 x 12 = yy 12 from fun x => if_neg (by decide), e12]; rfl)
  case o14 =>
    intro At yy W hy hb d hd K hK
    have f12 := hd ⟨12, .data⟩ (by simp) rfl rfl
    obtain ⟨lo12, hi12, _, _, x, y, z, e12, h12⟩ := f12
    have s22 := (hy 12 _ 22 rfl rfl).trans e12
    have s22' := s22
    rw [Array.getD_eq_getD_getElem?] at s22'
    clear hd hy hb
    go_simp
    exact hK.out _ W (stp_of hmo d (Below.refl _ _)) (by show updV yy 14 _ 14 = tg 1 (updV yy 14 _ 12); rw [show ∀ x, updV yy 14 x 14 = x from fun x => if_pos rfl, show ∀ x, updV yy 14 x 12 = yy 12 from fun x => if_neg (by decide), e12]; rfl)
  case o15 =>
    intro At yy W hy hb d hd K hK
    have f12 := hd ⟨12, .data⟩ (by simp) rfl rfl
    obtain ⟨lo12, hi12, _, _, x, y, z, e12, h12⟩ := f12
    have s22 := (hy 12 _ 22 rfl rfl).trans e12
    have s22' := s22
    rw [Array.getD_eq_getD_getElem?] at s22'
    clear hd hy hb
    go_simp
    exact hK.out _ W (stp_of hmo d (Below.refl _ _)) (by show updV yy 15 _ 15 = tg 2 (updV yy 15 _ 12); rw [show ∀ x, updV yy 15 x 15 = x from fun x => if_pos rfl, show ∀ x, updV yy 15 x 12 = yy 12 from fun x => if_neg (by decide), e12]; rfl)
  case o16 =>
    intro At yy W hy hb d hd K hK
    have f13 := hd ⟨13, .data⟩ (by simp) rfl rfl
    obtain ⟨lo13, hi13, _, _, e13⟩ := f13
    have s35 := (hy 13 _ 35 rfl rfl).trans e13
    have s35' := s35
    rw [Array.getD_eq_getD_getElem?] at s35'
    clear hd hy hb
    go_simp
    exact hK.out _ W (stp_of hmo d (Below.refl _ _)) (by show updV yy 16 _ 16 = tg 0 (updV yy 16 _ 12); rw [show ∀ x, updV yy 16 x 16 = x from fun x => if_pos rfl, show ∀ x, updV yy 16 x 12 = yy 12 from fun x => if_neg (by decide)])
  case o17 =>
    intro At yy W hy hb d hd K hK
    have f14 := hd ⟨14, .data⟩ (by simp) rfl rfl
    obtain ⟨lo14, hi14, _, _, e14⟩ := f14
    have s36 := (hy 14 _ 36 rfl rfl).trans e14
    have s36' := s36
    rw [Array.getD_eq_getD_getElem?] at s36'
    clear hd hy hb
    go_simp
    exact hK.out _ W (stp_of hmo d (Below.refl _ _)) (by show updV yy 17 _ 17 = tg 1 (updV yy 17 _ 12); rw [show ∀ x, updV yy 17 x 17 = x from fun x => if_pos rfl, show ∀ x, updV yy 17 x 12 = yy 12 from fun x => if_neg (by decide)])
  case o18 =>
    intro At yy W hy hb d hd K hK
    have f15 := hd ⟨15, .data⟩ (by simp) rfl rfl
    obtain ⟨lo15, hi15, _, _, e15⟩ := f15
    have s37 := (hy 15 _ 37 rfl rfl).trans e15
    have s37' := s37
    rw [Array.getD_eq_getD_getElem?] at s37'
    clear hd hy hb
    go_simp
    exact hK.out _ W (stp_of hmo d (Below.refl _ _)) (by show updV yy 18 _ 18 = tg 2 (updV yy 18 _ 12); rw [show ∀ x, updV yy 18 x 18 = x from fun x => if_pos rfl, show ∀ x, updV yy 18 x 12 = yy 12 from fun x => if_neg (by decide)])
  case fin =>
    intro yy lo hi W hM
    show wpList _ _ _ [] _ _
    have e0 : yy 0 = .pointer (some ⟨p7, 0, none⟩) := hM.fact 0 (by simp) rfl (notR_all 0 rfl)
    have e1 : yy 1 = .int .i64 (N : Int) := hM.fact 1 (by simp) rfl (notR_all 1 rfl)
    have e2 : yy 2 = .pointer (some ⟨p7, 2, none⟩) := hM.fact 2 (by simp) rfl (notR_all 2 rfl)
    have e3 : yy 3 = .slice (some ⟨g1, 0, none⟩) S1.length k1 := hM.fact 3 (by simp) rfl (notR_all 3 rfl)
    have e5 : yy 5 = .pointer (some ⟨p7, 1, none⟩) := hM.fact 5 (by simp) rfl (notR_all 5 rfl)
    have e6 : yy 6 = .int .i64 (M : Int) := hM.fact 6 (by simp) rfl (notR_all 6 rfl)
    have e7 : yy 7 = .int .i64 bud := hM.fact 7 (by simp) rfl (notR_all 7 rfl)
    have e8 : yy 8 = .agg #[.int .i64 (N : Int), .int .i64 (M : Int), .slice (some ⟨g1, 0, none⟩) S1.length k1, .slice (some ⟨g2, 0, none⟩) F1.length k2, .slice (some ⟨g3, 0, none⟩) E1.length k3] := hM.fact 8 (by simp) rfl (notR_all 8 rfl)
    have F12 : srP W2.heap.size N r (yy 12) (lo 12) (hi 12) W := hM.fact 12 (by simp) rfl (notR_all 12 rfl)
    have F13 : yy 13 = tg 0 (yy 12) := hM.fact 13 (by simp) rfl (notR_all 13 rfl)
    have F14 : yy 14 = tg 1 (yy 12) := hM.fact 14 (by simp) rfl (notR_all 14 rfl)
    have F15 : yy 15 = tg 2 (yy 12) := hM.fact 15 (by simp) rfl (notR_all 15 rfl)
    have F16 : yy 16 = tg 0 (yy 12) := hM.fact 16 (by simp) rfl (notR_all 16 rfl)
    have F17 : yy 17 = tg 1 (yy 12) := hM.fact 17 (by simp) rfl (notR_all 17 rfl)
    have F18 : yy 18 = tg 2 (yy 12) := hM.fact 18 (by simp) rfl (notR_all 18 rfl)
    have dd := hM.d
    simp only [fills, Act.put, List.take, List.length, List.setIfInBounds_toArray, List.set_cons_zero, List.set_cons_succ, e0, e1, e2, e3, e5, e6, e7, e8]
    clear hM hmo e0 e1 e2 e3 e5 e6 e7 e8
    obtain ⟨x, y, z, e12, F11⟩ := F12
    rw [e12] at F13 F14 F15 F16 F17 F18
    rw [F13, F14, F15, F16, F17, F18, e12, show tg 0 (.tuple #[x, y, z]) = x from rfl, show tg 1 (.tuple #[x, y, z]) = y from rfl, show tg 2 (.tuple #[x, y, z]) = z from rfl]
    clear F13 F14 F15 F16 F17 F18 e12
    generalize yy 11 = v11
    generalize yy 10 = v10
    generalize yy 9 = v9
    generalize yy 4 = v4
    have H4 := hide (And.intro (blk_on HB7.out dd) (And.intro (blk_on HZ.out dd) (And.intro (HO.out.on dd) (HD2.out.trans (dd.mono HD2.out.size)))))
    have HT4 := hide (HT.out.1.below dd HT.out.2)
    have HS4 := hide dd.size
    clear dd
    rcases F11 with ⟨hne, rfl, rfl, rfl⟩ | ⟨h0, rfl, bm, bsT, hsq⟩
    · have F3 := H4.out.2.1
      have o0 : W.cell? ⟨w.heap.size + 1, 0, none⟩ = some (.int .i64 0) := cell_of F3 rfl
      have f0 : W.frozen? ⟨w.heap.size + 1, 0, none⟩ = false := fz_of F3
      have o1 : W.cell? ⟨w.heap.size + 1, 1, none⟩ = some (.int .i64 0) := cell_of F3 rfl
      have f1 : W.frozen? ⟨w.heap.size + 1, 1, none⟩ = false := fz_of F3
      have o2 : W.cell? ⟨w.heap.size + 1, 2, none⟩ = some (.int .i64 0) := cell_of F3 rfl
      have f2 : W.frozen? ⟨w.heap.size + 1, 2, none⟩ = false := fz_of F3
      have o3 : W.cell? ⟨w.heap.size + 1, 3, none⟩ = some (.slice none 0 0) := cell_of F3 rfl
      have f3 : W.frozen? ⟨w.heap.size + 1, 3, none⟩ = false := fz_of F3
      have o4 : W.cell? ⟨w.heap.size + 1, 4, none⟩ = some (.slice none 0 0) := cell_of F3 rfl
      have f4 : W.frozen? ⟨w.heap.size + 1, 4, none⟩ = false := fz_of F3
      have O6 := hide (And.intro (set5 W (w.heap.size + 1) _ _ _ _ _ (.int .i64 0) (.int .i64 0) (.int .i64 0) (.slice none 0 0) (.slice none 0 0) 27 F3) (only5 W (w.heap.size + 1) (.int .i64 0) (.int .i64 0) (.int .i64 0) (.slice none 0 0) (.slice none 0 0)))
      clear F3
      go_wp2_with fail
      refine bodyPost_ret (results_c2 (p := 4) (q := 5) (r := 6) (ty := 27) rfl _ _ (w.heap.size + 1) 27 _ (0, 0) _ _ _ rfl rfl rfl O6.out.1 Tryz.underlying27 rfl (by kernel_rfl)) rfl ?_
      exact ⟨H4.out.2.2.2.trans (O6.out.2.toBelow (Nat.le_trans HD2.out.size HS4.out) (fun k hk => by omega)), .inl ⟨hne, rfl⟩⟩
    · have F7 := H4.out.1
      have z0 : W.cell? ⟨p7, 0, none⟩ = some (.int .i64 (N : Int)) := cell_of F7 rfl
      have z3 : W.cell? ⟨p7, 3, none⟩ = some (.slice (some ⟨g2, 0, none⟩) F1.length k2) := cell_of F7 rfl
      clear F7
      have HSQ := hide hsq
      clear hsq
      have TS := setOf_any W N (some ⟨g2, 0, none⟩) k2 F1 H4.out.2.2.1.f HL.out.2.1 HL.out.2.2.2.1 HL.out.2.2.2.2.2.2.1
      go_upto_region 8 with (go_at_call 47; refine TS.mono ?_; rintro e w5 ⟨bq, gq, cq, rfl, h5⟩; have H5 := hide h5; clear h5 z0 z3 TS)
      have HT5 := hide (setof_len HR.out h0 HL.out.2.2.2.2.1)
      obtain ⟨W6, hW6⟩ : ∃ W, w5.alloc (.cells #[.pointer (some ⟨bq, 0, none⟩)] 78) = W := ⟨_, rfl⟩
      obtain ⟨bF, hbF⟩ : ∃ q, w5.heap.size = q := ⟨_, rfl⟩
      have d6 : Below w5.heap.size w5 W6 := by rw [← hW6]; exact (Below.refl _ _).alloc (Nat.le_refl _) _
      have b6 : W6.heap[bF]? = some (.cells #[.pointer (some ⟨bq, 0, none⟩)] 78 (0, 0)) := by rw [← hW6, ← hbF]; exact World.alloc_heap_new _ _
      rw [hbF, hW6]
      clear hW6 hbF
      have H6 := hide (And.intro (HSQ.out.on (H5.out.2.2.2.2.trans (d6.mono H5.out.2.2.2.2.size))) (And.intro (H5.out.1.below d6) (And.intro b6 (H5.out.2.2.2.2.trans (d6.mono H5.out.2.2.2.2.size)))))
      clear d6 b6 H5 HSQ
      obtain ⟨t13, k13, hx⟩ := own_slice H6.out.1.pt
      obtain rfl := hx
      obtain ⟨vy, ny, ky, hy, hny⟩ : ∃ b n c, y = .slice b n c ∧ (natI r.2.2).length = n := by
        obtain ⟨b, c, e⟩ := own_slice H6.out.1.nx
        exact ⟨b, _, c, e, rfl⟩
      obtain rfl := hy
      have HNY := hide hny
      clear hny
      have TW := where_any W2.heap.size W6 N bF bq gq cq (setI N F1) (.slice t13 r.2.1.length k13) bsT r.2.1 (hide H6.out.1.pts) H6.out.2.1 H6.out.2.2.1 HT5.out
      obtain ⟨n, hn⟩ : ∃ n, r.2.1.length = n := ⟨_, rfl⟩
      rw [hn] at TW
      rw [hn]
      obtain ⟨NW, hNW⟩ : ∃ L, nwL r.2.1 (setI N F1) n = L := ⟨_, rfl⟩
      rw [hNW] at TW
      have HN := hide (And.intro hn hNW)
      clear hn hNW
      go_upto_region 9 with (go_at_call 51; refine TW.mono ?_; rintro e w7 ⟨vF, rfl, ho7, d7⟩; obtain ⟨tF, nF, kF, hF, hnF⟩ : ∃ b n c, vF = .slice b n c ∧ (natI NW).length = n := (by obtain ⟨b, c, e⟩ := own_slice ho7; exact ⟨b, _, c, e, rfl⟩); obtain rfl := hF; have H7 := hide (And.intro ho7 (And.intro d7 hnF)); clear ho7 d7 hnF TW)
      have H8 := hide (And.intro (blk_on H4.out.1 (H6.out.2.2.2.trans (H7.out.2.1.mono H6.out.2.2.2.size))) (And.intro (blk_on H4.out.2.1 (H6.out.2.2.2.trans (H7.out.2.1.mono H6.out.2.2.2.size))) (And.intro (H4.out.2.2.2.trans ((H6.out.2.2.2.trans (H7.out.2.1.mono H6.out.2.2.2.size)).mono H4.out.2.2.2.size)) (show w.heap.size + 2 ≤ w7.heap.size by have := HSZ.out; have := HS4.out; have := H6.out.2.2.2.size; have := H7.out.2.1.size; omega))))
      have HT8 : Hid (TabAt w7 ∧ 0 < w7.heap.size) := hide ⟨HT4.out.below (B := W.heap.size) (H6.out.2.2.2.trans (H7.out.2.1.mono H6.out.2.2.2.size)) (by have := HT.out.2; have := HS4.out; omega), by have := H8.out.2.2.2; omega⟩
      have HQ8 := hide (H6.out.1.on H7.out.2.1)
      have hmo : MonIL 0 [vI 0 (.slice t13 n k13), vI 1 (.int .i64 (n : Int)), vI 2 (.pointer (some ⟨p7, 1, none⟩)), vI 3 (.int .i64 (M : Int)), vI 4 (.slice tF nF kF), vI 5 (.slice vy ny ky), vI 6 (.agg #[.int .i64 (n : Int), .int .i64 (M : Int), .int .i64 0, .slice tF nF kF, .slice vy ny ky]), vI 7 (.slice t13 n k13), pI 8 (liP w7 (r.2.1.map (elems N)))] := ⟨vI_mono _ _, vI_mono _ _, vI_mono _ _, vI_mono _ _, vI_mono _ _, vI_mono _ _, vI_mono _ _, vI_mono _ _, pI_mono liP_mono, trivial⟩
      refine wp_region_sl [vI 0 (.slice t13 n k13), vI 1 (.int .i64 (n : Int)), vI 2 (.pointer (some ⟨p7, 1, none⟩)), vI 3 (.int .i64 (M : Int)), vI 4 (.slice tF nF kF), vI 5 (.slice vy ny ky), vI 6 (.agg #[.int .i64 (n : Int), .int .i64 (M : Int), .int .i64 0, .slice tF nF kF, .slice vy ny ky]), vI 7 (.slice t13 n k13), pI 8 (liP w7 (r.2.1.map (elems N)))] (by kernel_rfl) (by kernel_rfl) (by kernel_rfl) (by kernel_rfl) hmo ⟨?o0, ?o1, ?o2, ?o3, ?o4, ?o5, ?o6, ?o7, ?o8, trivial⟩ ?fin
      case o0 =>
        intro At yy W hy hb d hd K hK
        have s9 : At.tmps.getD 9 undef = .slice t13 n k13 := hb 9 rfl
        have s9' := s9
        rw [Array.getD_eq_getD_getElem?] at s9'
        clear hd hy hb
        go_simp
        exact hK.out _ W (stp_of hmo d (Below.refl _ _)) (if_pos rfl)
      case o1 =>
        intro At yy W hy hb d hd K hK
        have e0 : yy 0 = .slice t13 n k13 := by obtain ⟨_, _, _, _, e⟩ := hd ⟨0, .data⟩ (by simp) rfl rfl; exact e
        have s50 := (hy 0 _ 50 rfl rfl).trans e0
        have s50' := s50
        rw [Array.getD_eq_getD_getElem?] at s50'
        clear hd hy hb
        go_simp
        exact hK.out _ W (stp_of hmo d (Below.refl _ _)) (if_pos rfl)
      case o2 =>
        intro At yy W hy hb d hd K hK
        have s7 : At.tmps.getD 7 undef = .pointer (some ⟨p7, 0, none⟩) := hb 7 rfl
        have s7' := s7
        rw [Array.getD_eq_getD_getElem?] at s7'
        clear hd hy hb
        go_simp
        exact hK.out _ W (stp_of hmo d (Below.refl _ _)) (if_pos rfl)
      case o3 =>
        intro At yy W hy hb d hd K hK
        have e2 : yy 2 = .pointer (some ⟨p7, 1, none⟩) := by obtain ⟨_, _, _, _, e⟩ := hd ⟨2, .data⟩ (by simp) rfl rfl; exact e
        have s52 := (hy 2 _ 52 rfl rfl).trans e2
        have s52' := s52
        rw [Array.getD_eq_getD_getElem?] at s52'
        clear hd hy hb
        have z1 : W.cell? ⟨p7, 1, none⟩ = some (.int .i64 (M : Int)) := cell_of (blk_on H8.out.1 d) rfl
        go_simp
        exact hK.out _ W (stp_of hmo d (Below.refl _ _)) (if_pos rfl)
      case o4 =>
        intro At yy W hy hb d hd K hK
        have s12 : At.tmps.getD 12 undef = .slice tF nF kF := hb 12 rfl
        have s12' := s12
        rw [Array.getD_eq_getD_getElem?] at s12'
        clear hd hy hb
        go_simp
        exact hK.out _ W (stp_of hmo d (Below.refl _ _)) (if_pos rfl)
      case o5 =>
        intro At yy W hy hb d hd K hK
        have s10 : At.tmps.getD 10 undef = .slice vy ny ky := hb 10 rfl
        have s10' := s10
        rw [Array.getD_eq_getD_getElem?] at s10'
        clear hd hy hb
        go_simp
        exact hK.out _ W (stp_of hmo d (Below.refl _ _)) (if_pos rfl)
      case o6 =>
        intro At yy W hy hb d hd K hK
        have e1 : yy 1 = .int .i64 (n : Int) := by obtain ⟨_, _, _, _, e⟩ := hd ⟨1, .data⟩ (by simp) rfl rfl; exact e
        have e3 : yy 3 = .int .i64 (M : Int) := by obtain ⟨_, _, _, _, e⟩ := hd ⟨3, .data⟩ (by simp) rfl rfl; exact e
        have e4 : yy 4 = .slice tF nF kF := by obtain ⟨_, _, _, _, e⟩ := hd ⟨4, .data⟩ (by simp) rfl rfl; exact e
        have e5 : yy 5 = .slice vy ny ky := by obtain ⟨_, _, _, _, e⟩ := hd ⟨5, .data⟩ (by simp) rfl rfl; exact e
        have s51 := (hy 1 _ 51 rfl rfl).trans e1
        have s51' := s51
        rw [Array.getD_eq_getD_getElem?] at s51'
        have s53 := (hy 3 _ 53 rfl rfl).trans e3
        have s53' := s53
        rw [Array.getD_eq_getD_getElem?] at s53'
        have s54 := (hy 4 _ 54 rfl rfl).trans e4
        have s54' := s54
        rw [Array.getD_eq_getD_getElem?] at s54'
        have s55 := (hy 5 _ 55 rfl rfl).trans e5
        have s55' := s55
        rw [Array.getD_eq_getD_getElem?] at s55'
        clear hd hy hb
        go_simp
        exact hK.out _ W (stp_of hmo d (Below.refl _ _)) (if_pos rfl)
      case o7 =>
        intro At yy W hy hb d hd K hK
        have s9 : At.tmps.getD 9 undef = .slice t13 n k13 := hb 9 rfl
        have s9' := s9
        rw [Array.getD_eq_getD_getElem?] at s9'
        clear hd hy hb
        go_simp
        exact hK.out _ W (stp_of hmo d (Below.refl _ _)) (if_pos rfl)
      case o8 =>
        intro At yy W hy hb d hd K hK
        have e7 : yy 7 = .slice t13 n k13 := by obtain ⟨_, _, _, _, e⟩ := hd ⟨7, .data⟩ (by simp) rfl rfl; exact e
        have s57 := (hy 7 _ 57 rfl rfl).trans e7
        have s57' := s57
        rw [Array.getD_eq_getD_getElem?] at s57'
        clear hd hy hb
        go_simp
        go_wp2_with (go_at_call 54; refine (listed8 HN.out.1 (listed_any W2.heap.size W N (.slice t13 r.2.1.length k13) bsT r.2.1 (hide (HQ8.out.on d).pts) (HT8.out.1.below d HT8.out.2) (Nat.lt_of_lt_of_le HT8.out.2 d.size) HT5.out)).mono ?_; rintro e wa ⟨vl, rfl, hl, dl⟩)
        exact hK.out _ wa (stp_of hmo d dl) ⟨_, if_pos rfl, hl.low d.size⟩
      case fin =>
        intro yy lo hi W hM
        show wpList _ _ _ [_, _, _] _ _
        have e0 : yy 0 = .slice t13 n k13 := hM.fact 0 (by simp) rfl (notR_all 0 rfl)
        have e1 : yy 1 = .int .i64 (n : Int) := hM.fact 1 (by simp) rfl (notR_all 1 rfl)
        have e2 : yy 2 = .pointer (some ⟨p7, 1, none⟩) := hM.fact 2 (by simp) rfl (notR_all 2 rfl)
        have e3 : yy 3 = .int .i64 (M : Int) := hM.fact 3 (by simp) rfl (notR_all 3 rfl)
        have e4 : yy 4 = .slice tF nF kF := hM.fact 4 (by simp) rfl (notR_all 4 rfl)
        have e5 : yy 5 = .slice vy ny ky := hM.fact 5 (by simp) rfl (notR_all 5 rfl)
        have e6 : yy 6 = .agg #[.int .i64 (n : Int), .int .i64 (M : Int), .int .i64 0, .slice tF nF kF, .slice vy ny ky] := hM.fact 6 (by simp) rfl (notR_all 6 rfl)
        have e7 : yy 7 = .slice t13 n k13 := hM.fact 7 (by simp) rfl (notR_all 7 rfl)
        have F8 : liP w7 (r.2.1.map (elems N)) (yy 8) (lo 8) (hi 8) W := hM.fact 8 (by simp) rfl (notR_all 8 rfl)
        have dd := hM.d
        simp only [fills, Act.put, List.take, List.length, List.setIfInBounds_toArray, List.set_cons_zero, List.set_cons_succ, e0, e1, e2, e3, e4, e5, e6, e7]
        clear hM hmo e0 e1 e2 e3 e4 e5 e6 e7
        obtain ⟨vl, e8, F8⟩ := F8
        rw [e8]
        clear e8
        have F3 := blk_on H8.out.2.1 dd
        have o0 : W.cell? ⟨w.heap.size + 1, 0, none⟩ = some (.int .i64 0) := cell_of F3 rfl
        have f0 : W.frozen? ⟨w.heap.size + 1, 0, none⟩ = false := fz_of F3
        have o1 : W.cell? ⟨w.heap.size + 1, 1, none⟩ = some (.int .i64 0) := cell_of F3 rfl
        have f1 : W.frozen? ⟨w.heap.size + 1, 1, none⟩ = false := fz_of F3
        have o2 : W.cell? ⟨w.heap.size + 1, 2, none⟩ = some (.int .i64 0) := cell_of F3 rfl
        have f2 : W.frozen? ⟨w.heap.size + 1, 2, none⟩ = false := fz_of F3
        have o3 : W.cell? ⟨w.heap.size + 1, 3, none⟩ = some (.slice none 0 0) := cell_of F3 rfl
        have f3 : W.frozen? ⟨w.heap.size + 1, 3, none⟩ = false := fz_of F3
        have o4 : W.cell? ⟨w.heap.size + 1, 4, none⟩ = some (.slice none 0 0) := cell_of F3 rfl
        have f4 : W.frozen? ⟨w.heap.size + 1, 4, none⟩ = false := fz_of F3
        have O6 := hide (And.intro (set5 W (w.heap.size + 1) _ _ _ _ _ (.int .i64 (n : Int)) (.int .i64 (M : Int)) (.int .i64 0) (.slice tF nF kF) (.slice vy ny ky) 27 F3) (only5 W (w.heap.size + 1) (.int .i64 (n : Int)) (.int .i64 (M : Int)) (.int .i64 0) (.slice tF nF kF) (.slice vy ny ky)))
        have HE := hide (And.intro F8 dd)
        clear F3 F8 dd
        go_wp2_with fail
        refine bodyPost_ret (results_c2 (p := 4) (q := 5) (r := 6) (ty := 27) rfl _ _ (w.heap.size + 1) 27 _ (0, 0) _ _ _ rfl rfl rfl O6.out.1 Tryz.underlying27 rfl (by kernel_rfl)) rfl ?_
        have hs := H8.out.2.2.2
        have hs2 := HE.out.2.size
        have hs3 := HSZ.out
        have hs4 := HS4.out
        have hs6 := H6.out.2.2.2.size
        refine ⟨(H8.out.2.2.1.trans (HE.out.2.mono (by omega))).trans (O6.out.2.toBelow (by omega) (fun k hk => by omega)), .inr ⟨h0, .slice tF nF kF, .slice vy ny ky, vl, by rw [HN.out.1]; rfl, ?_, ?_, ?_, HQ8.out.nod, HQ8.out.ok⟩⟩
        · rw [HN.out.1, HN.out.2]
          have z := own_below H7.out.1 HE.out.2
          exact own_low (row_only z O6.out.2 (fun k hk e => by have := (z.lt k hk).1; omega)) (by omega)
        · have z := own_below HQ8.out.nx HE.out.2
          exact own_low (row_only z O6.out.2 (fun k hk e => by have := (z.lt k hk).1; omega)) (by omega)
        · exact (HE.out.1.only O6.out.2 (fun k e => by omega)).low (by omega)
end Go.Proofs.YtgnpdhgphkocoaaGreatDoor
