import Derived.Test.YtmagchclmmphaaaGreatDoorPd
import Derived.Test.YtmagchclmmphaaaGreatDoorTX
import Derived.Test.YtmagchclmmphaaaGreatDoorQC
namespace Go.Proofs.YtmagchclmmphaaaGreatDoor
open Go.RowKit Go.Maps

/-- How long a printed text is. -/
theorem write_size {ti : ByteArray} {O : List OpI} {S F : List ByteArray} {R : List RuT} (hv : valF ti O S F R = true) (l1 : O.length ≤ 1048576) (l2 : S.length ≤ 1048576) (l3 : F.length ≤ 1048576) (l4 : R.length ≤ 1048576) :
    (writeT ti (O.map opN) S F R).size ≤ 129999999 := by
  have hw := wok_of hv (by omega) (by omega) (by omega) (by omega)
  have k1 := foldT_size opT (⟨#[]⟩ ++ ⟨#[79, 112, 115]⟩) (O.map opN) 19 (fun x hx => opT_size x (hw.o x hx).1)
  have e1 : ((⟨#[]⟩ ++ ⟨#[79, 112, 115]⟩ : ByteArray)).size = 3 := by rw [ByteArray.size_append]; rfl
  rw [List.length_map] at k1
  have k2 := onT_size (w2T ti (O.map opN)) S 16 hw.s
  have k3 := onT_size (w3T ti (O.map opN) S) F 16 hw.f
  have k4 := foldT_size ruT (w4T ti (O.map opN) S F) R 55 (fun x hx => ruT_size x (hw.r x hx))
  have e2 : (w2T ti (O.map opN)).size = (w1T (O.map opN)).size + (18 + ti.size) := by
    unfold w2T
    rw [ByteArray.size_append, ByteArray.size_append, ByteArray.size_append]
    have a : (⟨#[10, 65, 117, 116, 111, 109, 97, 116, 111, 110, 32]⟩ : ByteArray).size = 11 := rfl
    have b : (⟨#[10, 83, 116, 97, 116, 101, 115]⟩ : ByteArray).size = 7 := rfl
    omega
  have e3 : (w3T ti (O.map opN) S).size = (onT (w2T ti (O.map opN)) S).size + 13 := by unfold w3T; rw [ByteArray.size_append]; rfl
  have e4 : (w4T ti (O.map opN) S F).size = (onT (w3T ti (O.map opN) S) F).size + 13 := by unfold w4T; rw [ByteArray.size_append]; rfl
  have e5 : (w1T (O.map opN)).size ≤ 3 + O.length * 19 := by unfold w1T opsT; omega
  have ht := hw.ti
  unfold writeT rulesT
  omega
/-- What is printed is read as it was. -/
theorem back_T {ti : ByteArray} {O : List OpI} {S F : List ByteArray} {R : List RuT} (hv : valF ti O S F R = true) :
    errF (writeT ti (O.map opN) S F R) = 0 ∧ tT (writeT ti (O.map opN) S F R) = ti ∧ oT (writeT ti (O.map opN) S F R) = O ∧ sT (writeT ti (O.map opN) S F R) = S ∧ fT (writeT ti (O.map opN) S F R) = F ∧ rT (writeT ti (O.map opN) S F R) = R := by
  have hc := cok_of hv
  have k1 := (written_lines hc).1
  have k2 := written_cont hc
  have k3 := written_fin hc
  have hn : O.all opOk = true := by
    unfold valF namesOk at hv
    simp only [Bool.and_eq_true] at hv
    exact hv.1.1.1.1.1.1.1
  refine ⟨k1, ?_, ?_, ?_, ?_, ?_⟩
  · rw [tT, k2]
  · rw [oT, k2]
    show (O.map opN).map opOI = O
    rw [List.map_map]
    calc O.map (opOI ∘ opN) = O.map id := List.map_congr_left (fun x hx => by
          have q := List.all_eq_true.1 hn x hx
          simp only [opOk, Bool.and_eq_true, decide_eq_true_eq] at q
          have : ((x.2.toNat : Nat) : Int) = x.2 := by omega
          simp [opN, opOI, this])
      _ = _ := List.map_id _
  · rw [sT, k2]
  · have e : sT (writeT ti (O.map opN) S F R) = S := by rw [sT, k2]
    show namesAt (finN (contF (writeT ti (O.map opN) S F R))) (sT (writeT ti (O.map opN) S F R)) = F
    rw [e]; exact k3
  · rw [rT, k2]
end Go.Proofs.YtmagchclmmphaaaGreatDoor
namespace Go.Proofs.YtmagchclmmphaaaGreatDoor
open Go.RowKit Go.Maps
attribute [local go_sem] Oper.semAt_some

set_option maxRecDepth 100000 in
set_option maxHeartbeats 4000000 in
theorem fround_any (w : World) (ti : ByteArray) (ao asx af ar : Option Addr) (co cs cf cr : Nat) (O : List OpI) (S F : List ByteArray) (R : List RuT) (hT : Hid (RowsAt w ∧ BytesAt w ∧ 1 < w.heap.size)) (hO : Hid (RdO w ao O)) (hS : Hid (ReadsS w asx S)) (hF : Hid (ReadsS w af F)) (hR : Hid (RdRu w ar R))
    (hok : Hid ((∀ x ∈ F, kText.ok x) ∧ ∀ x ∈ R, kRules.ok x)) (hlo : O.length ≤ 1048576) (hls : S.length ≤ 1048576) (hlf : F.length ≤ 1048576) (hlr : R.length ≤ 1048576) :
    Calls Tryz.prog 5 #[.agg #[.string ti, .slice ao O.length co, .slice asx S.length cs, .slice af F.length cf, .slice ar R.length cr]] w fun e w' => e = .returned (.bool true) ∧ Below w.heap.size w w' := by
  obtain ⟨W0, hW0⟩ : ∃ W0, w.alloc (.cells #[.string ti, .slice ao O.length co, .slice asx S.length cs, .slice af F.length cf, .slice ar R.length cr] 26) = W0 := ⟨_, rfl⟩
  have d0 : Below w.heap.size w W0 := by rw [← hW0]; exact (Below.refl _ _).alloc (Nat.le_refl _) _
  have b0 : W0.heap[w.heap.size]? = some (.cells #[.string ti, .slice ao O.length co, .slice asx S.length cs, .slice af F.length cf, .slice ar R.length cr] 26 (0, 0)) := by rw [← hW0]; exact World.alloc_heap_new _ _
  have HBX : Hid (Bx5 W0 w.heap.size (.string ti) (.slice ao O.length co) (.slice asx S.length cs) (.slice af F.length cf) (.slice ar R.length cr)) := hide ⟨cell_of b0 rfl, cell_of b0 rfl, cell_of b0 rfl, cell_of b0 rfl, cell_of b0 rfl⟩
  obtain ⟨c0, c1, c2, c3, c4⟩ := HBX.out
  have hT1 := hide (fun (W : World) (d : Below w.heap.size w W) => show RowsAt W ∧ BytesAt W ∧ 1 < W.heap.size from
    ⟨hT.out.1.below d (by have := hT.out.2.2; omega), hT.out.2.1.below d hT.out.2.2, Nat.lt_of_lt_of_le hT.out.2.2 d.size⟩)
  have HD := hide d0
  have HO := hide (hO.out.on d0)
  have HS := hide (hS.out.below d0)
  have HF := hide (hF.out.below d0)
  have HR := hide (hR.out.on d0)
  clear hO hS hF hR d0 b0
  have T1 := twin_any W0 ti ao asx af ar co cs cf cr O S F R HO HS HF HR (by omega) (by omega) (by omega) (by omega)
  have HL : Hid (O.length ≤ 4194304 ∧ S.length ≤ 4194304 ∧ F.length ≤ 4194304 ∧ R.length ≤ 4194304) := hide ⟨by omega, by omega, by omega, by omega⟩
  go_enter Tryz.func5, Tryz.ntmps5
  go_wp2_with (go_at_call 12; refine T1.mono ?_; rintro e w1 ⟨bo, bs, bf, br, rfl, qo, qs, qf, qr, d1⟩; have HQ := hide (And.intro (opPad_reads qo) (And.intro (padV_reads qs) (And.intro (padV_reads qf) (ruPad_reads qr)))); have D1 := hide d1; clear qo qs qf qr d1 T1 c0 c1 c2 c3 c4)
  have HP := hide (print_any w1 ti (some ⟨bo, 0, none⟩) (some ⟨bs, 0, none⟩) (some ⟨bf, 0, none⟩) (some ⟨br, 0, none⟩) (O.length + 64) (S.length + 64) (F.length + 64) (R.length + 64) O S F R (hide (hT1.out w1 (HD.out.trans (D1.out.mono HD.out.size))).2) (hide HQ.out.1) (hide HQ.out.2.1) (hide HQ.out.2.2.1) (hide HQ.out.2.2.2) hok HL.out.1 HL.out.2.1 HL.out.2.2.1 HL.out.2.2.2)
  cases hv : valF ti O S F R with
  | false =>
    have P1 := HP.out
    rw [hv] at P1
    refine P1.mono ?_
    rintro e w2 ⟨rfl, d2⟩
    have D2 := hide (D1.out.trans (d2.mono D1.out.size))
    have DW := hide (HD.out.trans (D2.out.mono HD.out.size))
    clear P1 d2
    obtain ⟨c0, c1, c2, c3, c4⟩ := HBX.out.on D2.out
    have V1 := valid_file w2 ti ao asx af ar co cs cf cr O S F R (hide (hT1.out w2 DW.out).2) (hide (HO.out.on D2.out)) (hide (HS.out.below D2.out)) (hide (HF.out.below D2.out)) (hide (HR.out.on D2.out)) hok HL.out.1 HL.out.2.1 HL.out.2.2.1 HL.out.2.2.2
    rw [hv] at V1
    go_wp2_with (first
      | (go_at_call 17; refine V1.mono ?_; rintro e w3 ⟨rfl, d3⟩)
      | (go_at_call 10; refine (least_any w3 (hide (hT1.out w3 (DW.out.trans (d3.mono DW.out.size))))).mono ?_; rintro e w4 ⟨rfl, d4⟩))
    go_ret
    refine ⟨?_, (DW.out.trans (d3.mono DW.out.size)).trans (d4.mono (DW.out.trans (d3.mono DW.out.size)).size)⟩
    simp
  | true =>
    have HV := hide hv
    have P1 := HP.out
    rw [hv] at P1
    obtain ⟨X, hX⟩ : ∃ X, writeT ti (O.map opN) S F R = X := ⟨_, rfl⟩
    have HB := hide (back_T hv)
    have HX := hide (write_size hv hlo hls hlf hlr)
    simp only [if_true] at P1
    rw [hX] at P1
    rw [hX] at HB HX
    clear hX hv
    refine P1.mono ?_
    rintro e w2 ⟨rfl, d2⟩
    have D2 := hide (D1.out.trans (d2.mono D1.out.size))
    have DW := hide (HD.out.trans (D2.out.mono HD.out.size))
    clear P1 d2
    obtain ⟨he, e1, e2, e3, e4, e5⟩ := HB.out
    have P2 := parse_read X w2 (hide (hT1.out w2 DW.out)) HX.out he
    rw [e1, e2, e3, e4, e5] at P2
    have HE := hide he
    clear he e1 e2 e3 e4 e5
    go_wp2_with fail
    refine P2.mono ?_
    rintro e w3 ⟨uo, eo, us, es, un, en, ur, er, rfl, qo, qs, qn, qr, d3⟩
    have HG := hide (And.intro qo (And.intro qs (And.intro qn qr)))
    have D3 := hide d3
    clear qo qs qn qr d3 P2
    have hz : (w3.alloc (.cells #[.string ⟨#[]⟩, .slice none 0 0, .slice none 0 0, .slice none 0 0, .slice none 0 0] 26)).alloc (.cells #[.int .i64 0, .int .i64 0] 29) = two31 w3 := rfl
    obtain ⟨⟨o0, o1, o2, o3, o4⟩, ⟨p0, p1⟩, ⟨f0, f1, f2, f3, f4⟩, g0, g1⟩ := two31_cells w3
    have HW := hide (two31_set w3 (.string ti) (.slice uo O.length eo) (.slice us S.length es) (.slice un F.length en) (.slice ur R.length er) (.int .i64 0) (.int .i64 0))
    go_wp2_with fail
    obtain ⟨W4, hW4⟩ : ∃ W4, (((((((two31 w3).setCell ⟨w3.heap.size, 0, none⟩ (.string ti)).setCell ⟨w3.heap.size, 1, none⟩ (.slice uo O.length eo)).setCell ⟨w3.heap.size, 2, none⟩ (.slice us S.length es)).setCell ⟨w3.heap.size, 3, none⟩ (.slice un F.length en)).setCell ⟨w3.heap.size, 4, none⟩ (.slice ur R.length er)).setCell ⟨w3.heap.size + 1, 0, none⟩ (.int .i64 0)).setCell ⟨w3.heap.size + 1, 1, none⟩ (.int .i64 0) = W4 := ⟨_, rfl⟩
    rw [hW4]
    have HS4 : Hid (W4.heap[w3.heap.size]? = some (.cells #[.string ti, .slice uo O.length eo, .slice us S.length es, .slice un F.length en, .slice ur R.length er] 26 (0, 0)) ∧ W4.heap[w3.heap.size + 1]? = some (.cells #[.int .i64 0, .int .i64 0] 29 (0, 0)) ∧ Below w3.heap.size w3 W4 ∧ w3.heap.size + 2 ≤ W4.heap.size) := hide (by rw [← hW4]; exact HW.out)
    clear HW hW4 hz o0 o1 o2 o3 o4 p0 p1 f0 f1 f2 f3 f4 g0 g1
    have C1 := rf.rcheck_any X W4 (by have := HX.out; omega)
    rw [HE.out] at C1
    refine C1.mono ?_
    rintro e w5 ⟨rfl, d5⟩
    have D35 := hide (HS4.out.2.2.1.trans (d5.mono (by have := HS4.out.2.2.2; omega)))
    have D5 := hide (D2.out.trans ((D3.out.trans (D35.out.mono D3.out.size)).mono D2.out.size))
    have DW5 := hide (HD.out.trans (D5.out.mono HD.out.size))
    have B0 : Hid (w5.heap[w3.heap.size]? = some (.cells #[.string ti, .slice uo O.length eo, .slice us S.length es, .slice un F.length en, .slice ur R.length er] 26 (0, 0)) ∧ w5.heap[w3.heap.size + 1]? = some (.cells #[.int .i64 0, .int .i64 0] 29 (0, 0)) ∧ w3.heap.size + 2 ≤ w5.heap.size) := hide ⟨(d5.block _ (by have := HS4.out.2.2.2; omega)).trans HS4.out.1, (d5.block _ (by have := HS4.out.2.2.2; omega)).trans HS4.out.2.1, Nat.le_trans HS4.out.2.2.2 d5.size⟩
    clear C1 d5
    obtain ⟨c0, c1, c2, c3, c4⟩ := HBX.out.on D5.out
    have V1 := valid_file w5 ti ao asx af ar co cs cf cr O S F R (hide (hT1.out w5 DW5.out).2) (hide (HO.out.on D5.out)) (hide (HS.out.below D5.out)) (hide (HF.out.below D5.out)) (hide (HR.out.on D5.out)) hok HL.out.1 HL.out.2.1 HL.out.2.2.1 HL.out.2.2.2
    rw [HV.out] at V1
    go_wp2_with (go_at_call 17; refine V1.mono ?_; rintro e w6 ⟨rfl, d6⟩; have D56 := hide d6; clear d6 V1 c0 c1 c2 c3 c4; obtain ⟨c0, c1, c2, c3, c4⟩ := HBX.out.on (D5.out.trans (D56.out.mono D5.out.size)); have b8 := (D56.out.block _ (by have := B0.out.2.2; omega)).trans B0.out.1; have b9 := (D56.out.block _ (by have := B0.out.2.2; omega)).trans B0.out.2.1; have y0 : w6.cell? ⟨w3.heap.size, 0, none⟩ = some (.string ti) := cell_of b8 rfl; have y1 : w6.cell? ⟨w3.heap.size, 1, none⟩ = some (.slice uo O.length eo) := cell_of b8 rfl; have y2 : w6.cell? ⟨w3.heap.size, 2, none⟩ = some (.slice us S.length es) := cell_of b8 rfl; have y3 : w6.cell? ⟨w3.heap.size, 3, none⟩ = some (.slice un F.length en) := cell_of b8 rfl; have y4 : w6.cell? ⟨w3.heap.size, 4, none⟩ = some (.slice ur R.length er) := cell_of b8 rfl; have x0 : w6.cell? ⟨w3.heap.size + 1, 0, none⟩ = some (.int .i64 0) := cell_of b9 rfl; have x1 : w6.cell? ⟨w3.heap.size + 1, 1, none⟩ = some (.int .i64 0) := cell_of b9 rfl; clear b8 b9)
    have D6 := hide (D5.out.trans (D56.out.mono D5.out.size))
    have DW6 := hide (HD.out.trans (D6.out.mono HD.out.size))
    have D36 := hide (D35.out.trans (D56.out.mono D35.out.size))
    have SE := same_eq w6 ti O S F R ao asx af ar uo us un ur co cs cf cr eo es en er (hide ⟨HO.out.on D6.out, HG.out.1.on D36.out⟩) (hide ⟨HS.out.below D6.out, HG.out.2.1.below D36.out⟩) (hide ⟨HF.out.below D6.out, HG.out.2.2.1.below D36.out⟩) (hide ⟨HR.out.on D6.out, HG.out.2.2.2.on D36.out⟩) HL.out.1 HL.out.2.1 HL.out.2.2.1 HL.out.2.2.2
    go_wp2_with (first
      | (go_at_call 9; refine SE.mono ?_; rintro e w9 ⟨rfl, d9⟩)
      | (go_at_call 10; refine (least_any w9 (hide (hT1.out w9 (DW6.out.trans (d9.mono DW6.out.size))))).mono ?_; rintro e w10 ⟨rfl, d10⟩))
    go_ret
    refine ⟨?_, (DW6.out.trans (d9.mono DW6.out.size)).trans (d10.mono (DW6.out.trans (d9.mono DW6.out.size)).size)⟩
    simp
end Go.Proofs.YtmagchclmmphaaaGreatDoor
