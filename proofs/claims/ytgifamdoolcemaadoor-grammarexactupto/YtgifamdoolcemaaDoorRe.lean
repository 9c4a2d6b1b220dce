import Derived.Test.YtgifamdoolcemaaDoorRd
namespace Go.Proofs.YtgifamdoolcemaaDoor
open Go.RowKit Go.Maps

def restLoop (sec : Nat) (eb : Bool) (tot : Nat) : List (List Nat) → Bool × Bool
  | [] => (decide (sec ≠ 1) || decide (tot = 1), true)
  | x :: r => if r = [] ∧ eb = true then fieldF sec x else if (fieldF sec x).1 = true then restLoop sec eb tot r else (false, false)
def restF (sec : Nat) (l : List Nat) : Bool × Bool :=
  if l = [] then (decide (sec ≠ 1), true)
  else if blk (l.headD 0) = false then (false, false)
  else if sec = 4 ∨ (sec = 1 ∧ 1 < (flds l).length) then (decide (sec = 4 ∧ (flds l).length = 0), decide (sec = 4 ∧ (flds l).length = 0))
  else restLoop sec (!blk (l.getD (l.length - 1) 0)) (flds l).length (flds l)

theorem headD_get (l : List Nat) (h : 0 < l.length) : l.headD 0 = l[0] := by
  cases l with
  | nil => simp at h
  | cons x r => rfl
theorem OwnS.form {w : World} {B : Nat} {v : Value} {l : List ByteArray} (h : OwnS w B v l) : ∃ ao cp, v = .slice ao l.length cp := by
  rcases h.2 with ⟨he, hn⟩ | ⟨g, cap, cur, he, _⟩
  · exact ⟨none, 0, by rw [he, hn]⟩
  · exact ⟨_, cap, he⟩
theorem OwnS.cell {w : World} {B cp : Nat} {ao : Option Addr} {l : List ByteArray} (h : OwnS w B (.slice ao l.length cp) l) (k : Nat) (hk : k < l.length) : ∃ g, ao = some ⟨g, 0, none⟩ ∧ w.cell? ⟨g, k, none⟩ = some (.string l[k]) := by
  rcases h.2 with ⟨he, hn⟩ | ⟨g, cap, cur, he, hb, hg, hnc, hcm, hcs, htake⟩
  · omega
  · cases he
    refine ⟨g, rfl, ?_⟩
    have h' : w.ownsRow B 9 1 (.slice (some ⟨g, 0, none⟩) l.length cp) l.length (strV l) := h
    rw [h'.cellAt k (by omega)]
    simp [strV, List.getElem?_eq_getElem hk]
theorem loop_at (sec : Nat) (eb : Bool) (tot k : Nat) (fs : List (List Nat)) (h : k < fs.length) : restLoop sec eb tot (fs.drop k) = if k + 1 = fs.length ∧ eb = true then fieldF sec fs[k] else if (fieldF sec fs[k]).1 = true then restLoop sec eb tot (fs.drop (k + 1)) else (false, false) := by
  rw [List.drop_eq_getElem_cons h]
  have e : (fs.drop (k + 1) = [] ∧ eb = true) ↔ (k + 1 = fs.length ∧ eb = true) := by
    rw [List.drop_eq_nil_iff]
    constructor
    · rintro ⟨a, b⟩; exact ⟨by omega, b⟩
    · rintro ⟨a, b⟩; exact ⟨by omega, b⟩
  show (if fs.drop (k + 1) = [] ∧ eb = true then _ else _) = _
  by_cases hc : k + 1 = fs.length ∧ eb = true
  · rw [if_pos (e.2 hc), if_pos hc]
  · rw [if_neg (fun h => hc (e.1 h)), if_neg hc]

set_option maxRecDepth 100000 in
set_option maxHeartbeats 4000000 in
theorem rest_any (sec : Nat) (s : ByteArray) (w : World) (hs : s.size ≤ 1048640) (_hsec : sec ≤ 5) : Calls Tryd.prog 33 #[.int .i64 sec, .string s] w fun e w' => e = .returned (.tuple #[.bool (restF sec (bts s)).1, .bool (restF sec (bts s)).2]) ∧ Below w.heap.size w w' := by
  have hem := bts_empty s
  have hl := bts_len s
  by_cases h0 : bts s = []
  · rw [decide_eq_true h0] at hem
    have HE : Hid (restF sec (bts s) = (decide (sec ≠ 1), true)) := hide (by unfold restF; rw [if_pos h0])
    by_cases h1 : sec = 1
    · have i1 : ((sec : Int) != 1) = false := by rw [bne_eq_false_iff_eq]; omega
      have HD : Hid (decide (sec ≠ 1) = false) := hide (decide_eq_false (fun h => h h1))
      clear h0 h1 hl
      go_enter Tryd.func33, Tryd.ntmps33
      go_wp2
      go_ret2
      exact ⟨by rw [HE.out, HD.out]; first | rfl | simp, Below.refl _ _⟩
    · have i1 : ((sec : Int) != 1) = true := by rw [bne_iff_ne]; omega
      have HD : Hid (decide (sec ≠ 1) = true) := hide (decide_eq_true h1)
      clear h0 h1 hl
      go_enter Tryd.func33, Tryd.ntmps33
      go_wp2
      go_ret2
      exact ⟨by rw [HE.out, HD.out]; first | rfl | simp, Below.refl _ _⟩
  · rw [decide_eq_false h0] at hem
    have hlt : 0 < s.size := by
      rw [← hl]
      exact List.length_pos_iff.2 h0
    have hix := idx_b s 0 hlt
    obtain ⟨b, hb⟩ : ∃ b, (bts s)[0]'(by rw [bts_len]; exact hlt) = b := ⟨_, rfl⟩
    rw [hb] at hix
    have hix' : ∀ W : World, (Instr.index 9 (.string s) (.int .i64 0)).run Tryd.prog W = .ok (.int .u8 (b : Nat)) W := hix
    have hhd : (bts s).headD 0 = b := by
      rw [← hb]
      exact headD_get _ _
    clear hix hb
    cases hbl : blk b
    · have HE : Hid (restF sec (bts s) = (false, false)) := hide (by unfold restF; rw [if_neg h0, hhd, if_pos hbl])
      clear h0 hhd hl
      go_enter Tryd.func33, Tryd.ntmps33
      go_wp2_with (go_at_call 32; refine (blank_any b _).mono ?_; rintro e w' ⟨rfl, hw'⟩; obtain rfl := hw'.symm; rw [hbl])
      go_ret2
      exact ⟨by rw [HE.out]; rfl, Below.refl _ _⟩
    · have hR : restF sec (bts s) = if sec = 4 ∨ (sec = 1 ∧ 1 < (flds (bts s)).length) then (decide (sec = 4 ∧ (flds (bts s)).length = 0), decide (sec = 4 ∧ (flds (bts s)).length = 0)) else restLoop sec (!blk ((bts s).getD (s.size - 1) 0)) (flds (bts s)).length (flds (bts s)) := by
        unfold restF
        rw [if_neg h0, hhd, if_neg (by rw [hbl]; simp), hl]
      have hixl := idx_sub s 1 (by omega) (by omega)
      obtain ⟨z, hz⟩ : ∃ z, (bts s).getD (s.size - 1) 0 = z := ⟨_, rfl⟩
      rw [hz] at hixl hR
      have hixl' : ∀ W : World, (Instr.index 9 (.string s) (.int .i64 ((s.size : Int) - 1))).run Tryd.prog W = .ok (.int .u8 (z : Nat)) W := hixl
      have HR := hide hR
      clear h0 hhd hl hR hixl hz
      go_enter Tryd.func33, Tryd.ntmps33
      go_wp2_with (go_at_call 32; refine (blank_any b _).mono ?_; rintro e w' ⟨rfl, hw'⟩; obtain rfl := hw'.symm; rw [hbl])
      refine (fields_any s _ (by omega)).mono ?_
      rintro e w1 ⟨v, L, rfl, ho, hmap, hsml, hLl, d⟩
      obtain ⟨ao, cp, hv⟩ := ho.form
      subst hv
      have hlen : (flds (bts s)).length = L.length := by rw [← hmap, List.length_map]
      have HO := hide (And.intro ho (And.intro hmap (And.intro hsml d)))
      have HR2 := HR.out
      rw [hlen] at HR2
      have HRR := hide HR2
      clear ho hmap hsml d hbl hix' HR HR2
      have HLN := hide hlen
      clear hlen
      by_cases h4 : sec = 4
      · have i4 : ((sec : Int) == 4) = true := by rw [beq_iff_eq]; omega
        by_cases hz0 : L.length = 0
        · have i5 : ((L.length : Int) == 0) = true := by rw [beq_iff_eq]; omega
          have HE : Hid (restF sec (bts s) = (true, true)) := hide (by rw [HRR.out, if_pos (.inl h4), decide_eq_true ⟨h4, hz0⟩])
          clear h4 hz0
          go_wp2
          go_ret2
          exact ⟨by rw [HE.out]; first | rfl | simp, HO.out.2.2.2⟩
        · have i5 : ((L.length : Int) == 0) = false := by rw [beq_eq_false_iff_ne]; omega
          have HE : Hid (restF sec (bts s) = (false, false)) := hide (by rw [HRR.out, if_pos (.inl h4), decide_eq_false (fun h => hz0 h.2)])
          clear h4 hz0
          go_wp2
          go_ret2
          exact ⟨by rw [HE.out]; first | rfl | simp, HO.out.2.2.2⟩
      · have i4 : ((sec : Int) == 4) = false := by rw [beq_eq_false_iff_ne]; omega
        by_cases h1 : sec = 1
        · have i1 : ((sec : Int) == 1) = true := by rw [beq_iff_eq]; omega
          by_cases hg : 1 < L.length
          · have i5 : (L.length : Int) > 1 := by omega
            have i6 : decide (1 < L.length) = true := decide_eq_true hg
            have HE : Hid (restF sec (bts s) = (false, false)) := hide (by rw [HRR.out, if_pos (.inr ⟨h1, hg⟩), decide_eq_false (fun h => h4 h.1)])
            clear h4 h1 hg
            go_wp2
            go_ret2
            exact ⟨by rw [HE.out]; first | rfl | simp, HO.out.2.2.2⟩
          · have i5 : ¬ (L.length : Int) > 1 := by omega
            have i6 : decide (1 < L.length) = false := decide_eq_false hg
            have HE : Hid (restF sec (bts s) = restLoop sec (!blk z) L.length (flds (bts s))) := hide (by rw [HRR.out, if_neg (fun h => h.elim h4 (fun h => hg h.2))])
            clear h4 h1 hg
            go_wp2
            go_loopw [7] (fun iv wr => ∃ k : Nat, k ≤ L.length ∧ iv = .int .i64 k ∧ Hid (restF sec (bts s) = restLoop sec (!blk z) L.length ((flds (bts s)).drop k) ∧ OwnS wr w.heap.size (.slice ao L.length cp) L ∧ Below w.heap.size w wr)) (fun iv _ => L.length - (intOf iv).toNat)
            case atStart => exact ⟨0, Nat.zero_le _, rfl, hide ⟨by rw [List.drop_zero]; exact HE.out, HO.out.1, HO.out.2.2.2⟩⟩
            case round =>
              obtain ⟨k, hk, rfl, HH⟩ := hrel
              by_cases hkl : k < L.length
              · obtain ⟨g, hao, q⟩ := HH.out.2.1.cell k hkl
                subst hao
                have hkf : k < (flds (bts s)).length := by rw [HLN.out]; exact hkl
                have hfx : bts L[k] = (flds (bts s))[k]'hkf := by simp only [← HO.out.2.1, List.getElem_map]
                have hat := loop_at sec (!blk z) L.length k (flds (bts s)) hkf
                rw [← hfx, HLN.out] at hat
                have hfl := fun W => field_any sec L[k] W (by have := HO.out.2.2.1 L[k] (List.getElem_mem hkl); omega)
                generalize L[k] = x at *
                generalize fieldF sec (bts x) = pq at *
                obtain ⟨p, q2⟩ := pq
                have k0 : (0 : Int) ≤ (k : Int) := by omega
                have k1 : (k : Int) < (L.length : Int) := by omega
                clear hfx
                by_cases hlast : k + 1 = L.length
                · have j1 : ((k : Int) == (L.length : Int) - 1) = true := by rw [beq_iff_eq]; omega
                  cases hbz : blk z
                  · have HF : Hid (restF sec (bts s) = (p, q2)) := hide (by rw [HH.out.1, hat, if_pos ⟨hlast, by rw [hbz]; rfl⟩])
                    clear hat hlast
                    go_wp2_with (first
                      | (go_at_call 42; refine (hfl _).mono ?_; rintro e w' ⟨rfl, hw'⟩; obtain rfl := hw'.symm)
                      | (go_at_call 32; refine (blank_any z _).mono ?_; rintro e w' ⟨rfl, hw'⟩; obtain rfl := hw'.symm; rw [hbz]))
                    go_ret2
                    exact ⟨by rw [HF.out]; first | rfl | simp, HH.out.2.2⟩
                  · have hn : ¬ (k + 1 = L.length ∧ (!blk z) = true) := fun h => by rw [hbz] at h; simp at h
                    rw [if_neg hn] at hat
                    cases p
                    · have HF : Hid (restF sec (bts s) = (false, false)) := hide (by rw [HH.out.1, hat]; simp)
                      clear hat hlast hn
                      go_wp2_with (first
                        | (go_at_call 42; refine (hfl _).mono ?_; rintro e w' ⟨rfl, hw'⟩; obtain rfl := hw'.symm)
                        | (go_at_call 32; refine (blank_any z _).mono ?_; rintro e w' ⟨rfl, hw'⟩; obtain rfl := hw'.symm; rw [hbz]))
                      go_ret2
                      exact ⟨by rw [HF.out]; first | rfl | simp, HH.out.2.2⟩
                    · have HF : Hid (restF sec (bts s) = restLoop sec (!blk z) L.length ((flds (bts s)).drop (k + 1))) := hide (by rw [HH.out.1, hat]; simp)
                      clear hat hlast hn
                      go_wp2_with (first
                        | (go_at_call 42; refine (hfl _).mono ?_; rintro e w' ⟨rfl, hw'⟩; obtain rfl := hw'.symm)
                        | (go_at_call 32; refine (blank_any z _).mono ?_; rintro e w' ⟨rfl, hw'⟩; obtain rfl := hw'.symm; rw [hbz]))
                      go_roundw
                      case rel => exact ⟨k + 1, by omega, by go_num, hide ⟨(by first | exact HF.out | (have := HF.out; rw [hbz] at this; exact this)), HH.out.2.1, HH.out.2.2⟩⟩
                      case measure => simp [intOf]; omega
                · have j1 : ((k : Int) == (L.length : Int) - 1) = false := by rw [beq_eq_false_iff_ne]; omega
                  have hn : ¬ (k + 1 = L.length ∧ (!blk z) = true) := fun h => hlast h.1
                  rw [if_neg hn] at hat
                  cases p
                  · have HF : Hid (restF sec (bts s) = (false, false)) := hide (by rw [HH.out.1, hat]; simp)
                    clear hat hlast hn
                    go_wp2_with (go_at_call 42; refine (hfl _).mono ?_; rintro e w' ⟨rfl, hw'⟩; obtain rfl := hw'.symm)
                    go_ret2
                    exact ⟨by rw [HF.out]; first | rfl | simp, HH.out.2.2⟩
                  · have HF : Hid (restF sec (bts s) = restLoop sec (!blk z) L.length ((flds (bts s)).drop (k + 1))) := hide (by rw [HH.out.1, hat]; simp)
                    clear hat hlast hn
                    go_wp2_with (go_at_call 42; refine (hfl _).mono ?_; rintro e w' ⟨rfl, hw'⟩; obtain rfl := hw'.symm)
                    go_roundw
                    case rel => exact ⟨k + 1, by omega, by go_num, hide ⟨(by first | exact HF.out | (have := HF.out; rw [hbz] at this; exact this)), HH.out.2.1, HH.out.2.2⟩⟩
                    case measure => simp [intOf]; omega
              · have k1 : ¬ (k : Int) < (L.length : Int) := by omega
                have hend : restF sec (bts s) = (decide (sec ≠ 1) || decide (L.length = 1), true) := by
                  rw [HH.out.1, List.drop_of_length_le (by rw [HLN.out]; omega)]
                  rfl
                by_cases h1 : sec = 1
                · have e1 : ((sec : Int) != 1) = false := by rw [bne_eq_false_iff_eq]; omega
                  rw [decide_eq_false (fun h => h h1), Bool.false_or] at hend
                  by_cases h2 : L.length = 1
                  · have e2 : ((L.length : Int) == 1) = true := by rw [beq_iff_eq]; omega
                    rw [decide_eq_true h2] at hend
                    have HF := hide hend
                    clear hend h1 h2
                    go_wp2
                    go_ret2
                    exact ⟨by rw [HF.out]; first | rfl | simp, HH.out.2.2⟩
                  · have e2 : ((L.length : Int) == 1) = false := by rw [beq_eq_false_iff_ne]; omega
                    rw [decide_eq_false h2] at hend
                    have HF := hide hend
                    clear hend h1 h2
                    go_wp2
                    go_ret2
                    exact ⟨by rw [HF.out]; first | rfl | simp, HH.out.2.2⟩
                · have e1 : ((sec : Int) != 1) = true := by rw [bne_iff_ne]; omega
                  rw [decide_eq_true h1, Bool.true_or] at hend
                  have HF := hide hend
                  clear hend h1
                  go_wp2
                  go_ret2
                  exact ⟨by rw [HF.out]; first | rfl | simp, HH.out.2.2⟩
        · have i1 : ((sec : Int) == 1) = false := by rw [beq_eq_false_iff_ne]; omega
          have HE : Hid (restF sec (bts s) = restLoop sec (!blk z) L.length (flds (bts s))) := hide (by rw [HRR.out, if_neg (fun h => h.elim h4 (fun h => h1 h.1))])
          clear h4 h1
          go_wp2
          go_loopw [7] (fun iv wr => ∃ k : Nat, k ≤ L.length ∧ iv = .int .i64 k ∧ Hid (restF sec (bts s) = restLoop sec (!blk z) L.length ((flds (bts s)).drop k) ∧ OwnS wr w.heap.size (.slice ao L.length cp) L ∧ Below w.heap.size w wr)) (fun iv _ => L.length - (intOf iv).toNat)
          case atStart => exact ⟨0, Nat.zero_le _, rfl, hide ⟨by rw [List.drop_zero]; exact HE.out, HO.out.1, HO.out.2.2.2⟩⟩
          case round =>
            obtain ⟨k, hk, rfl, HH⟩ := hrel
            by_cases hkl : k < L.length
            · obtain ⟨g, hao, q⟩ := HH.out.2.1.cell k hkl
              subst hao
              have hkf : k < (flds (bts s)).length := by rw [HLN.out]; exact hkl
              have hfx : bts L[k] = (flds (bts s))[k]'hkf := by simp only [← HO.out.2.1, List.getElem_map]
              have hat := loop_at sec (!blk z) L.length k (flds (bts s)) hkf
              rw [← hfx, HLN.out] at hat
              have hfl := fun W => field_any sec L[k] W (by have := HO.out.2.2.1 L[k] (List.getElem_mem hkl); omega)
              generalize L[k] = x at *
              generalize fieldF sec (bts x) = pq at *
              obtain ⟨p, q2⟩ := pq
              have k0 : (0 : Int) ≤ (k : Int) := by omega
              have k1 : (k : Int) < (L.length : Int) := by omega
              clear hfx
              by_cases hlast : k + 1 = L.length
              · have j1 : ((k : Int) == (L.length : Int) - 1) = true := by rw [beq_iff_eq]; omega
                cases hbz : blk z
                · have HF : Hid (restF sec (bts s) = (p, q2)) := hide (by rw [HH.out.1, hat, if_pos ⟨hlast, by rw [hbz]; rfl⟩])
                  clear hat hlast
                  go_wp2_with (first
                    | (go_at_call 42; refine (hfl _).mono ?_; rintro e w' ⟨rfl, hw'⟩; obtain rfl := hw'.symm)
                    | (go_at_call 32; refine (blank_any z _).mono ?_; rintro e w' ⟨rfl, hw'⟩; obtain rfl := hw'.symm; rw [hbz]))
                  go_ret2
                  exact ⟨by rw [HF.out]; first | rfl | simp, HH.out.2.2⟩
                · have hn : ¬ (k + 1 = L.length ∧ (!blk z) = true) := fun h => by rw [hbz] at h; simp at h
                  rw [if_neg hn] at hat
                  cases p
                  · have HF : Hid (restF sec (bts s) = (false, false)) := hide (by rw [HH.out.1, hat]; simp)
                    clear hat hlast hn
                    go_wp2_with (first
                      | (go_at_call 42; refine (hfl _).mono ?_; rintro e w' ⟨rfl, hw'⟩; obtain rfl := hw'.symm)
                      | (go_at_call 32; refine (blank_any z _).mono ?_; rintro e w' ⟨rfl, hw'⟩; obtain rfl := hw'.symm; rw [hbz]))
                    go_ret2
                    exact ⟨by rw [HF.out]; first | rfl | simp, HH.out.2.2⟩
                  · have HF : Hid (restF sec (bts s) = restLoop sec (!blk z) L.length ((flds (bts s)).drop (k + 1))) := hide (by rw [HH.out.1, hat]; simp)
                    clear hat hlast hn
                    go_wp2_with (first
                      | (go_at_call 42; refine (hfl _).mono ?_; rintro e w' ⟨rfl, hw'⟩; obtain rfl := hw'.symm)
                      | (go_at_call 32; refine (blank_any z _).mono ?_; rintro e w' ⟨rfl, hw'⟩; obtain rfl := hw'.symm; rw [hbz]))
                    go_roundw
                    case rel => exact ⟨k + 1, by omega, by go_num, hide ⟨(by first | exact HF.out | (have := HF.out; rw [hbz] at this; exact this)), HH.out.2.1, HH.out.2.2⟩⟩
                    case measure => simp [intOf]; omega
              · have j1 : ((k : Int) == (L.length : Int) - 1) = false := by rw [beq_eq_false_iff_ne]; omega
                have hn : ¬ (k + 1 = L.length ∧ (!blk z) = true) := fun h => hlast h.1
                rw [if_neg hn] at hat
                cases p
                · have HF : Hid (restF sec (bts s) = (false, false)) := hide (by rw [HH.out.1, hat]; simp)
                  clear hat hlast hn
                  go_wp2_with (go_at_call 42; refine (hfl _).mono ?_; rintro e w' ⟨rfl, hw'⟩; obtain rfl := hw'.symm)
                  go_ret2
                  exact ⟨by rw [HF.out]; first | rfl | simp, HH.out.2.2⟩
                · have HF : Hid (restF sec (bts s) = restLoop sec (!blk z) L.length ((flds (bts s)).drop (k + 1))) := hide (by rw [HH.out.1, hat]; simp)
                  clear hat hlast hn
                  go_wp2_with (go_at_call 42; refine (hfl _).mono ?_; rintro e w' ⟨rfl, hw'⟩; obtain rfl := hw'.symm)
                  go_roundw
                  case rel => exact ⟨k + 1, by omega, by go_num, hide ⟨(by first | exact HF.out | (have := HF.out; rw [hbz] at this; exact this)), HH.out.2.1, HH.out.2.2⟩⟩
                  case measure => simp [intOf]; omega
            · have k1 : ¬ (k : Int) < (L.length : Int) := by omega
              have hend : restF sec (bts s) = (decide (sec ≠ 1) || decide (L.length = 1), true) := by
                rw [HH.out.1, List.drop_of_length_le (by rw [HLN.out]; omega)]
                rfl
              by_cases h1 : sec = 1
              · have e1 : ((sec : Int) != 1) = false := by rw [bne_eq_false_iff_eq]; omega
                rw [decide_eq_false (fun h => h h1), Bool.false_or] at hend
                by_cases h2 : L.length = 1
                · have e2 : ((L.length : Int) == 1) = true := by rw [beq_iff_eq]; omega
                  rw [decide_eq_true h2] at hend
                  have HF := hide hend
                  clear hend h1 h2
                  go_wp2
                  go_ret2
                  exact ⟨by rw [HF.out]; first | rfl | simp, HH.out.2.2⟩
                · have e2 : ((L.length : Int) == 1) = false := by rw [beq_eq_false_iff_ne]; omega
                  rw [decide_eq_false h2] at hend
                  have HF := hide hend
                  clear hend h1 h2
                  go_wp2
                  go_ret2
                  exact ⟨by rw [HF.out]; first | rfl | simp, HH.out.2.2⟩
              · have e1 : ((sec : Int) != 1) = true := by rw [bne_iff_ne]; omega
                rw [decide_eq_true h1, Bool.true_or] at hend
                have HF := hide hend
                clear hend h1
                go_wp2
                go_ret2
                exact ⟨by rw [HF.out]; first | rfl | simp, HH.out.2.2⟩
end Go.Proofs.YtgifamdoolcemaaDoor
