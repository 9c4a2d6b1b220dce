import Derived.Test.YtgifamdoolcemaaDoorRf
namespace Go.Proofs.YtgifamdoolcemaaDoor
open Go.RowKit Go.Maps

/-- A text of one byte, out of a new block. -/
theorem conv_one (w : World) (x : Nat) (hx : x < 256) : (convert 42 9 (.slice (some ⟨w.heap.size, 0, none⟩) 1 1)).run Tryd.prog (w.alloc (.cells #[.int .u8 (x : Int)] 5)) = .ok (.string (strB [x])) (w.alloc (.cells #[.int .u8 (x : Int)] 5)) :=
  back_reads (w := w.alloc (.cells #[.int .u8 (x : Nat)] 5)) (v := .slice (some ⟨w.heap.size, 0, none⟩) 1 1) (l := [x]) ⟨some ⟨w.heap.size, 0, none⟩, 1, rfl, fun k hk => ⟨w.heap.size, 0, rfl, by
    have : k = 0 := by simp at hk; omega
    subst this
    exact cell_of (MapKept.heap_alloc _ _).1 rfl⟩⟩ (fun b hb => by simp at hb; omega)

set_option maxRecDepth 100000 in
set_option maxHeartbeats 4000000 in
theorem rfollow_any (s : ByteArray) (w : World) (hs : s.size ≤ 1048576) :
    Calls Tryd.prog 13 #[.string s] w fun e w' => e = .returned (.tuple #[.string (folB s), .bool (folI s), .int .i64 (cerF s : Nat)]) ∧ Below w.heap.size w w' := by
  obtain ⟨i5, hi5, hz50, hz51, hz52⟩ := info_parts info5
  have hpl := fun W => place_any s W (by omega)
  have hle := len_le s
  have HE : Hid ((folB s = if lenF s < s.size then ByteArray.empty else strB (folF (endF s))) ∧ (folI s = if lenF s < s.size then false else isF (endF s)) ∧ cerF s = if lenF s < s.size then 30 else 0) := hide ⟨rfl, rfl, rfl⟩
  have HT : Hid (∀ f, lenF s = s.size → ((bts s).take (lenF s)).drop f = (bts s).drop f) := hide (fun f h => by rw [h, List.take_of_length_le (by rw [bts_len]; exact Nat.le_refl _)])
  have HIN := hide (fun x hx h hn => snoc_in s x hx h hn)
  have HOUT := hide (fun x hx h hn => snoc_out s x hx h hn)
  generalize endF s = en at *
  generalize hn : lenF s = n at *
  go_enter Tryd.func13, Tryd.ntmps13
  go_wp2_with fail
  refine (hpl _).mono ?_
  rintro e w1 ⟨sec, f, rfl, h5, hfn, hln, d⟩
  have HD := hide (d.alloc d.size (.cells #[.int .i64 (n : Nat), .int .i64 (sec : Nat), .int .i64 (f : Nat)] 45))
  have HC : Hid (PlcAt (w1.alloc (.cells #[.int .i64 (n : Nat), .int .i64 (sec : Nat), .int .i64 (f : Nat)] 45)) w1.heap.size n sec f) := hide (MapKept.heap_alloc _ _).1
  have HW := hide d.size
  clear hpl d
  by_cases hlt : n < s.size
  · have i1 : (n : Int) < (s.size : Int) := by omega
    have HL := hide hlt
    clear hlt hln hn
    go_wp2
    go_ret3
    exact ⟨by rw [HE.out.1, HE.out.2.1, HE.out.2.2, if_pos HL.out, if_pos HL.out, if_pos HL.out]; rfl, HD.out⟩
  · have i1 : ¬ (n : Int) < (s.size : Int) := by omega
    have i2 : decide (n < s.size) = false := decide_eq_false hlt
    have HL := hide hlt
    have hns : n = s.size := by omega
    rw [HT.out f hns] at hln
    have hfi := fun W => file_any s n sec f en W (by omega) h5 (by omega) hln
    have HNS := hide hns
    clear hlt hln hns hn
    go_wp2
    go_loopw [6, 7] (fun v i wr => ∃ k : Nat, k ≤ 256 ∧ i = .int .i64 k ∧ Hid (PlcAt wr w1.heap.size n sec f ∧ OwnB wr (w1.heap.size + 1) v (folTo en k) ∧ Below w.heap.size w wr)) (fun _ i _ => 256 - (intOf i).toNat)
    case atStart => exact ⟨0, by omega, rfl, hide ⟨HC.out, World.ownsRow_nil _ _ _ _, HD.out⟩⟩
    case round =>
      obtain ⟨k, hk, rfl, HH⟩ := hrel
      have hsz := HH.out.1.lt
      have hw1 := HW.out
      by_cases hlt : k < 256
      · have j1 : (k : Int) < 256 := by omega
        have hwr : IntKind.u8.wrap (k : Int) = (k : Int) := by simp [IntKind.wrap, IntKind.bits, IntKind.signed]; omega
        have hcv := conv_one wr k hlt
        have hpx := fun W => place_any (s ++ strB [k]) W (by rw [snoc_size]; omega)
        have hxz := strB_size [k]
        simp only [List.length_cons, List.length_nil] at hxz
        have hsxz := snoc_size s k
        have hlen := folTo_len en k
        by_cases hst : (stepF en k).1 = 0
        · rw [HOUT.out k hlt HNS.out hst] at hpx
          have hq : ((s.size : Int) == (s.size : Int) + 1) = false := by rw [beq_eq_false_iff_ne]; omega
          have HF := hide (folTo_no en k hst)
          clear hst
          generalize strB [k] = xb at *
          go_wp2_with fail
          refine (hpx _).mono ?_
          rintro e w2 ⟨sec2, f2, rfl, -, -, -, d2⟩
          have hba : Below wr.heap.size wr (wr.alloc (.cells #[.int .u8 (k : Int)] 5)) := (Below.refl _ _).alloc (Nat.le_refl _) _
          have d3 := hba.trans (d2.mono hba.size)
          have HX := hide (And.intro (HH.out.1.below d3 hsz) (And.intro (HH.out.2.1.below d3) (HH.out.2.2.trans (d3.mono HH.out.2.2.size))))
          clear d2 d3 hba hpx
          go_wp2
          go_roundw
          case rel =>
            have hba : Below w2.heap.size w2 (w2.alloc (.cells #[.int .i64 (s.size : Int), .int .i64 (sec2 : Int), .int .i64 (f2 : Int)] 45)) := (Below.refl _ _).alloc (Nat.le_refl _) _
            refine ⟨k + 1, by omega, by go_num, hide ⟨HX.out.1.below hba HX.out.1.lt, ?_, HX.out.2.2.trans (hba.mono HX.out.2.2.size)⟩⟩
            rw [HF.out]
            exact HX.out.2.1.below hba
          case measure => simp [intOf]; omega
        · rw [(HIN.out k hlt HNS.out hst).1] at hpx
          have hq : ((s.size : Int) + 1 == (s.size : Int) + 1) = true := by rw [beq_iff_eq]
          have HF := hide (folTo_yes en k hst)
          clear hst
          generalize strB [k] = xb at *
          go_wp2_with fail
          refine (hpx _).mono ?_
          rintro e w2 ⟨sec2, f2, rfl, -, -, -, d2⟩
          have hba : Below wr.heap.size wr (wr.alloc (.cells #[.int .u8 (k : Int)] 5)) := (Below.refl _ _).alloc (Nat.le_refl _) _
          have d3 := hba.trans (d2.mono hba.size)
          have hbc : Below w2.heap.size w2 (w2.alloc (.cells #[.int .i64 ((s.size + 1 : Nat) : Int), .int .i64 (sec2 : Int), .int .i64 (f2 : Int)] 45)) := (Below.refl _ _).alloc (Nat.le_refl _) _
          have d4 := d3.trans (hbc.mono d3.size)
          have HX := hide (And.intro (HH.out.1.below d4 hsz) (And.intro (HH.out.2.1.below d4) (HH.out.2.2.trans (d4.mono HH.out.2.2.size))))
          have hlt2 : w1.heap.size < w2.heap.size := by have := d3.size; omega
          clear d2 d3 hba hpx d4 hbc
          go_wp2_with (at_builtin; refine wpList_append_own_at _ rfl _ _ _ rfl (w1.heap.size + 1) 5 i5 _ 1 1 Tryd.underlying42 hi5 hz50 hz51 hz52 rfl (by omega) u6 (folTo en k).length (bytV (folTo en k)) rfl (World.ownsRow.alloc HX.out.2.1 _) ⟨w2.heap.size + 1, 0, none⟩ 1 1 [.int .u8 (k : Int)] rfl rfl (by have := cell_one_new (w2.alloc (.cells #[.int .i64 ((s.size + 1 : Nat) : Int), .int .i64 (sec2 : Int), .int .i64 (f2 : Int)] 45)) (.int .u8 (k : Int)) 5; simpa using this) (bytV_one [k]) (by unfold maxLen; omega) (by omega) (by simp; omega) ?_; intro v' w3 ho hgr hnil hloc)
          go_roundw
          case rel =>
            have hg2 : (w2.alloc (.cells #[.int .i64 ((s.size + 1 : Nat) : Int), .int .i64 (sec2 : Int), .int .i64 (f2 : Int)] 45)).grownBy w3 u6.ownBlock := (World.grownBy_alloc _ _ _).trans hgr
            have hlo : ∀ j, u6.ownBlock = some j → w1.heap.size + 1 ≤ j := fun j hj => (World.ownsRow.lt HX.out.2.1 j hj).1
            refine ⟨k + 1, by omega, by go_num, hide ⟨?_, ?_, ?_⟩⟩
            · exact (hg2.block w1.heap.size HX.out.1.lt (fun e => by have := hlo _ e.symm; omega)).trans HX.out.1
            · rw [HF.out]
              unfold OwnB
              simpa [bytV] using ho
            · exact HX.out.2.2.grown hg2 HX.out.2.2.size (fun j hj => by have := hlo j hj; omega)
          case measure => simp [intOf]; omega
      · have j1 : ¬ (k : Int) < 256 := by omega
        have hke : k = 256 := by omega
        have HK : Hid (folTo en k = folF en) := hide (by rw [hke]; rfl)
        have H256 : Hid (∀ b ∈ folF en, b < 256) := hide (fun b hb => step_lt (mem_fol.1 hb))
        have hrd := HH.out.2.1.reads
        rw [HK.out] at hrd
        have hcv : (convert 42 9 u6).run Tryd.prog wr.drew = .ok (.string (strB (folF en))) wr.drew := back_reads (w := wr.drew) hrd H256.out
        have HRD : Hid (ReadsB wr.drew u6 (folF en)) := hide hrd
        obtain ⟨⟨c0, c1, c2⟩, _⟩ := HH.out.1.facts
        clear hke hrd
        generalize isF en = fi at *
        generalize folF en = fl at *
        go_wp2_with fail
        go_region_with (go_at_call 20; refine (hfi _).mono ?_; rintro e' w2 ⟨rfl, d2⟩; have hcv2 := back_reads (HRD.out.below d2) H256.out)
        all_goals go_wp2
        all_goals go_ret3
        all_goals exact ⟨by rw [HE.out.1, HE.out.2.1, HE.out.2.2, if_neg HL.out, if_neg HL.out, if_neg HL.out]; rfl, HH.out.2.2.drew.trans (d2.mono HH.out.2.2.size)⟩
end Go.Proofs.YtgifamdoolcemaaDoor
