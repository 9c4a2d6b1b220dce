import Derived.Test.YtmagchclmmphaaaGreatDoorVP
import Derived.Test.YtmagchclmmphaaaGreatDoorLm
namespace Go.Proofs.YtmagchclmmphaaaGreatDoor
open Go.RowKit Go.Maps
attribute [local go_sem] Oper.semAt_some

/-- A symbol of the other arity. -/
def flipO (x : OpI) : OpI := (x.1, wrap64 (1 - x.2))
/-- So many symbols are of the other arity. -/
def flK (O : List OpI) (k c : Nat) : Value := if c / 2 < k then opPad (O.map flipO) c else opPad O c
theorem flK_zero (O : List OpI) (c : Nat) : flK O 0 c = opPad O c := by unfold flK; rw [if_neg (by omega)]
theorem flK_all (O : List OpI) (c : Nat) : flK O O.length c = opPad (O.map flipO) c := by
  unfold flK
  split
  · rfl
  · rename_i h
    unfold opPad
    rw [dif_neg h, dif_neg (by rw [List.length_map]; exact h)]
theorem flK_next {O : List OpI} {k : Nat} (hk : k < O.length) (c : Nat) : (if c = k * 2 + 1 then Value.int .i64 (wrap64 (1 - O[k].2)) else if c = k * 2 then Value.string O[k].1 else flK O k c) = flK O (k + 1) c := by
  have hm : k < (O.map flipO).length := by rw [List.length_map]; exact hk
  have e := opPad_at (O.map flipO) k hm
  rw [List.getElem_map] at e
  by_cases h1 : c = k * 2 + 1
  · subst h1
    rw [if_pos rfl]
    unfold flK
    rw [if_pos (by omega), e.2]; rfl
  · by_cases h2 : c = k * 2
    · subst h2
      rw [if_neg h1, if_pos rfl]
      unfold flK
      rw [if_pos (by omega), e.1]; rfl
    · rw [if_neg h1, if_neg h2]
      unfold flK
      by_cases h3 : c / 2 < k
      · rw [if_pos h3, if_pos (by omega)]
      · rw [if_neg h3, if_neg (by omega)]
theorem ok_rev {F : List ByteArray} {R : List RuT} (h : (∀ x ∈ F, kText.ok x) ∧ ∀ x ∈ R, kRules.ok x) {F' : List ByteArray} {R' : List RuT} (hF : ∀ x ∈ F', x ∈ F) (hR : ∀ x ∈ R', x ∈ R) : (∀ x ∈ F', kText.ok x) ∧ ∀ x ∈ R', kRules.ok x := ⟨fun x hx => h.1 x (hF x hx), fun x hx => h.2 x (hR x hx)⟩
/-- A twin's value. -/
def twV (ti : ByteArray) (bo bs bf br n s q r : Nat) : Value := .agg #[.string ti, .slice (some ⟨bo, 0, none⟩) n (n + 64), .slice (some ⟨bs, 0, none⟩) s (s + 64), .slice (some ⟨bf, 0, none⟩) q (q + 64), .slice (some ⟨br, 0, none⟩) r (r + 64)]
/-- Lists of so many items. -/
def Len4 (n s q r : Nat) (O : List OpI) (S F : List ByteArray) (R : List RuT) : Prop := O.length = n ∧ S.length = s ∧ F.length = q ∧ R.length = r
theorem prints_tw (W : World) (ti : ByteArray) (n s q r : Nat) (bo bs bf br go gs gf gr : Nat) (O : List OpI) (S F : List ByteArray) (R : List RuT) (hl : Len4 n s q r O S F R) (hT : BytesAt W ∧ 1 < W.heap.size) (hx : Twn W bo bs bf br O S F R) (hy : Twn W go gs gf gr O S F R) (hok : (∀ x ∈ F, kText.ok x) ∧ ∀ x ∈ R, kRules.ok x) (h1 : n ≤ 1048576) (h2 : s ≤ 1048576) (h3 : q ≤ 1048576) (h4 : r ≤ 1048576) :
    Calls Tryz.prog 13 #[twV ti bo bs bf br n s q r, twV ti go gs gf gr n s q r] W fun e w' => e = .returned (.bool true) ∧ Below W.heap.size W w' := by
  obtain ⟨rfl, rfl, rfl, rfl⟩ := hl
  exact prints_any W ti _ _ _ _ _ _ _ _ _ _ _ _ _ _ _ _ O S F R (hide hT) (hide hx.reads) (hide hy.reads) (hide hok) h1 h2 h3 h4 (hide (by omega)) (hide (by omega))
theorem twin_tw (W : World) (ti : ByteArray) (n s q r : Nat) (bo bs bf br : Nat) (O : List OpI) (S F : List ByteArray) (R : List RuT) (hl : Len4 n s q r O S F R) (hx : Twn W bo bs bf br O S F R) (h1 : n ≤ 1048576) (h2 : s ≤ 1048576) (h3 : q ≤ 1048576) (h4 : r ≤ 1048576) :
    Calls Tryz.prog 12 #[twV ti bo bs bf br n s q r] W fun e w' => ∃ go gs gf gr, e = .returned (twV ti go gs gf gr n s q r) ∧ Twn w' go gs gf gr O S F R ∧ Below W.heap.size W w' := by
  obtain ⟨rfl, rfl, rfl, rfl⟩ := hl
  refine (twin_any W ti _ _ _ _ _ _ _ _ O S F R (hide hx.reads.1) (hide hx.reads.2.1) (hide hx.reads.2.2.1) (hide hx.reads.2.2.2) (by omega) (by omega) (by omega) (by omega)).mono ?_
  rintro e w' ⟨go, gs, gf, gr, h0, h1, h2, h3, h4, h5⟩
  exact ⟨go, gs, gf, gr, h0, ⟨h1, h2, h3, h4⟩, h5⟩

set_option maxRecDepth 100000 in
set_option maxHeartbeats 4000000 in
theorem fprints_any (w : World) (ti : ByteArray) (ao asx af ar : Option Addr) (co cs cf cr : Nat) (O : List OpI) (S F : List ByteArray) (R : List RuT) (hT : Hid (RowsAt w ∧ BytesAt w ∧ 1 < w.heap.size)) (hO : Hid (RdO w ao O)) (hS : Hid (ReadsS w asx S)) (hF : Hid (ReadsS w af F)) (hR : Hid (RdRu w ar R))
    (hok : Hid ((∀ x ∈ F, kText.ok x) ∧ ∀ x ∈ R, kRules.ok x)) (hlo : O.length ≤ 1048576) (hls : S.length ≤ 1048576) (hlf : F.length ≤ 1048576) (hlr : R.length ≤ 1048576) (hco : Hid (O.length ≤ co)) (hcs : Hid (S.length ≤ cs)) :
    Calls Tryz.prog 4 #[.agg #[.string ti, .slice ao O.length co, .slice asx S.length cs, .slice af F.length cf, .slice ar R.length cr]] w fun e w' => e = .returned (.bool true) ∧ Below w.heap.size w w' := by
  obtain ⟨W0, hW0⟩ : ∃ W0, w.alloc (.cells #[.string ti, .slice ao O.length co, .slice asx S.length cs, .slice af F.length cf, .slice ar R.length cr] 26) = W0 := ⟨_, rfl⟩
  have d0 : Below w.heap.size w W0 := by rw [← hW0]; exact (Below.refl _ _).alloc (Nat.le_refl _) _
  have b0 : W0.heap[w.heap.size]? = some (.cells #[.string ti, .slice ao O.length co, .slice asx S.length cs, .slice af F.length cf, .slice ar R.length cr] 26 (0, 0)) := by rw [← hW0]; exact World.alloc_heap_new _ _
  have HBX : Hid (Bx5 W0 w.heap.size (.string ti) (.slice ao O.length co) (.slice asx S.length cs) (.slice af F.length cf) (.slice ar R.length cr)) := hide ⟨cell_of b0 rfl, cell_of b0 rfl, cell_of b0 rfl, cell_of b0 rfl, cell_of b0 rfl⟩
  obtain ⟨c0, c1, c2, c3, c4⟩ := HBX.out
  have hT1 := hide (fun (W : World) (d : Below w.heap.size w W) => show RowsAt W ∧ BytesAt W ∧ 1 < W.heap.size from
    ⟨hT.out.1.below d (by have := hT.out.2.2; omega), hT.out.2.1.below d hT.out.2.2, Nat.lt_of_lt_of_le hT.out.2.2 d.size⟩)
  have HD := hide d0
  have HF : Hid (RdO W0 ao O ∧ ReadsS W0 asx S ∧ ReadsS W0 af F ∧ RdRu W0 ar R) := hide ⟨hO.out.on d0, hS.out.below d0, hF.out.below d0, hR.out.on d0⟩
  clear hO hS hF hR d0 b0
  have T1 := twin2_any W0 ti ao asx af ar co cs cf cr O S F R (hide HF.out.1) (hide HF.out.2.1) (hide HF.out.2.2.1) (hide HF.out.2.2.2) (by omega) (by omega) (by omega) (by omega)
  have hsz0 : w.heap.size < W0.heap.size := by rw [← hW0]; simp
  go_enter Tryz.func4, Tryz.ntmps4
  go_wp2_with fail
  refine T1.mono ?_
  rintro e w1 ⟨bo, bs, bf, br, rfl, qo, qs, qf, qr, d1, hsf, lo, ls, lf, lr⟩
  have HT1 : Hid (Twn w1 bo bs bf br O S F R) := hide ⟨qo, qs, qf, qr⟩
  have D1 := hide d1
  have HB := hide (And.intro hsf (And.intro lo (And.intro ls (And.intro lf lr))))
  have hX : W0.heap.size ≤ w1.heap.size := d1.size
  clear qo qs qf qr d1 T1 c0 c1 c2 c3 c4 hsf lo ls lf lr
  obtain ⟨W2, hW2⟩ : ∃ W2, w1.alloc (.cells #[.string ti, .slice (some ⟨bo, 0, none⟩) O.length (O.length + 64), .slice (some ⟨bs, 0, none⟩) S.length (S.length + 64), .slice (some ⟨bf, 0, none⟩) F.length (F.length + 64), .slice (some ⟨br, 0, none⟩) R.length (R.length + 64)] 26) = W2 := ⟨_, rfl⟩
  have d2 : Below w1.heap.size w1 W2 := by rw [← hW2]; exact (Below.refl _ _).alloc (Nat.le_refl _) _
  have b2 : W2.heap[w1.heap.size]? = some (.cells #[.string ti, .slice (some ⟨bo, 0, none⟩) O.length (O.length + 64), .slice (some ⟨bs, 0, none⟩) S.length (S.length + 64), .slice (some ⟨bf, 0, none⟩) F.length (F.length + 64), .slice (some ⟨br, 0, none⟩) R.length (R.length + 64)] 26 (0, 0)) := by rw [← hW2]; exact World.alloc_heap_new _ _
  have HX2 : Hid (Bx5 W2 w1.heap.size (.string ti) (.slice (some ⟨bo, 0, none⟩) O.length (O.length + 64)) (.slice (some ⟨bs, 0, none⟩) S.length (S.length + 64)) (.slice (some ⟨bf, 0, none⟩) F.length (F.length + 64)) (.slice (some ⟨br, 0, none⟩) R.length (R.length + 64))) := hide ⟨cell_of b2 rfl, cell_of b2 rfl, cell_of b2 rfl, cell_of b2 rfl, cell_of b2 rfl⟩
  have HT2 := hide (HT1.out.on d2)
  have D2 := hide (D1.out.trans (d2.mono D1.out.size))
  have DW2 := hide (HD.out.trans (D2.out.mono HD.out.size))
  clear d2 b2
  have P1 := prints_any W2 ti (some ⟨bo, 0, none⟩) (some ⟨bs, 0, none⟩) (some ⟨bf, 0, none⟩) (some ⟨br, 0, none⟩) (O.length + 64) (S.length + 64) (F.length + 64) (R.length + 64) ao asx af ar co cs cf cr O S F R (hide (hT1.out W2 DW2.out).2) (hide HT2.out.reads) (hide ⟨HF.out.1.on D2.out, HF.out.2.1.below D2.out, HF.out.2.2.1.below D2.out, HF.out.2.2.2.on D2.out⟩) hok hlo hls hlf hlr hco hcs
  obtain ⟨c0, c1, c2, c3, c4⟩ := HBX.out.on D2.out
  obtain ⟨x0, x1, x2, x3, x4⟩ := HX2.out
  go_wp2_with fail
  refine P1.mono ?_
  rintro e w3 ⟨rfl, d3⟩
  have D3 := hide (D2.out.trans (d3.mono D2.out.size))
  have E3 := hide d3
  have DW3 := hide (DW2.out.trans (d3.mono DW2.out.size))
  clear P1 d3 c0 c1 c2 c3 c4 x0 x1 x2 x3 x4
  have HT3 := hide (HT2.out.on E3.out)
  have P2 := left_any w3 ti bo bs bf br ao asx af ar co cs cf cr O S F R (hide HT3.out) (hide ⟨HF.out.1.on D3.out, HF.out.2.1.below D3.out, HF.out.2.2.1.below D3.out, HF.out.2.2.2.on D3.out⟩) hlo hls hlf hlr
  obtain ⟨c0, c1, c2, c3, c4⟩ := HBX.out.on D3.out
  obtain ⟨x0, x1, x2, x3, x4⟩ := HX2.out.on E3.out
  go_wp2_with fail
  refine P2.mono ?_
  rintro e w4 ⟨rfl, d4⟩
  have E4 := hide (E3.out.trans (d4.mono E3.out.size))
  have DW4 := hide (DW3.out.trans (d4.mono DW3.out.size))
  have HT4 := hide (HT3.out.on d4)
  clear P2 d4 c0 c1 c2 c3 c4 x0 x1 x2 x3 x4
  obtain ⟨x0, x1, x2, x3, x4⟩ := HX2.out.on E4.out
  have P3 := over_any w4 ti bo bs bf br O S F R (hide HT4.out) hlo hls hlf hlr
  go_wp2_with fail
  refine P3.mono ?_
  rintro e w5 ⟨go, gs, gf, gr, rfl, hA, hB2, o5⟩
  have HT5 := hide hA
  have HG5 := hide hB2
  have O5 := hide o5
  clear hA hB2 o5 P3 x0 x1 x2 x3 x4
  have hbo1 : bo < w1.heap.size := HT1.out.o.lt
  have hbs1 : bs < w1.heap.size := HT1.out.s.lt
  have hbf1 : bf < w1.heap.size := HT1.out.f.lt
  have hbr1 : br < w1.heap.size := HT1.out.r.lt
  have hb0 := HB.out
  obtain ⟨n, hn⟩ : ∃ n, O.length = n := ⟨_, rfl⟩
  obtain ⟨s, hs⟩ : ∃ s, S.length = s := ⟨_, rfl⟩
  obtain ⟨q, hq⟩ : ∃ q, F.length = q := ⟨_, rfl⟩
  obtain ⟨r, hr⟩ : ∃ r, R.length = r := ⟨_, rfl⟩
  have HLr : Hid (Len4 n s q r O.reverse S F R.reverse) := hide ⟨by rw [List.length_reverse, hn], hs, hq, by rw [List.length_reverse, hr]⟩
  rw [hn, hs, hq, hr] at HX2
  rw [hn, hs, hq, hr]
  have ln : n ≤ 1048576 := by omega
  have lsx : s ≤ 1048576 := by omega
  have lq : q ≤ 1048576 := by omega
  have lr : r ≤ 1048576 := by omega
  have HX5 : Hid (Bx5 w5 w1.heap.size (.string ti) (.slice (some ⟨bo, 0, none⟩) n (n + 64)) (.slice (some ⟨bs, 0, none⟩) s (s + 64)) (.slice (some ⟨bf, 0, none⟩) q (q + 64)) (.slice (some ⟨br, 0, none⟩) r (r + 64))) := hide (bx5_only (HX2.out.on E4.out) O5.out (by omega))
  have DW5 : Hid (Below w.heap.size w w5) := hide (DW4.out.trans (O5.out.toBelow DW4.out.size (fun k hk => by omega)))
  have hok5 : Hid ((∀ x ∈ F, kText.ok x) ∧ ∀ x ∈ R.reverse, kRules.ok x) := hide (ok_rev hok.out (fun x h => h) (fun x h => List.mem_reverse.1 h))
  obtain ⟨W6, hW6⟩ : ∃ W6, w5.alloc (.cells #[.string ti, .slice (some ⟨go, 0, none⟩) n (n + 64), .slice (some ⟨gs, 0, none⟩) s (s + 64), .slice (some ⟨gf, 0, none⟩) q (q + 64), .slice (some ⟨gr, 0, none⟩) r (r + 64)] 26) = W6 := ⟨_, rfl⟩
  have d6 : Below w5.heap.size w5 W6 := by rw [← hW6]; exact (Below.refl _ _).alloc (Nat.le_refl _) _
  have b6 : W6.heap[w5.heap.size]? = some (.cells #[.string ti, .slice (some ⟨go, 0, none⟩) n (n + 64), .slice (some ⟨gs, 0, none⟩) s (s + 64), .slice (some ⟨gf, 0, none⟩) q (q + 64), .slice (some ⟨gr, 0, none⟩) r (r + 64)] 26 (0, 0)) := by rw [← hW6]; exact World.alloc_heap_new _ _
  have DW6 := hide (DW5.out.trans (d6.mono DW5.out.size))
  have HX6 := hide (HX5.out.on d6)
  have HT6 := hide (HT5.out.on d6)
  have P4 := prints_tw W6 ti n s q r bo bs bf br go gs gf gr O.reverse S F R.reverse HLr.out (hT1.out W6 DW6.out).2 HT6.out (HG5.out.on d6) hok5.out ln lsx lq lr
  unfold twV at P4
  obtain ⟨x0, x1, x2, x3, x4⟩ := HX6.out
  have y0 : W6.cell? ⟨w5.heap.size, 0, none⟩ = some (.string ti) := cell_of b6 rfl
  have y1 : W6.cell? ⟨w5.heap.size, 1, none⟩ = some (.slice (some ⟨go, 0, none⟩) n (n + 64)) := cell_of b6 rfl
  have y2 : W6.cell? ⟨w5.heap.size, 2, none⟩ = some (.slice (some ⟨gs, 0, none⟩) s (s + 64)) := cell_of b6 rfl
  have y3 : W6.cell? ⟨w5.heap.size, 3, none⟩ = some (.slice (some ⟨gf, 0, none⟩) q (q + 64)) := cell_of b6 rfl
  have y4 : W6.cell? ⟨w5.heap.size, 4, none⟩ = some (.slice (some ⟨gr, 0, none⟩) r (r + 64)) := cell_of b6 rfl
  have hbO : w.heap.size ≤ bo ∧ w.heap.size ≤ bs ∧ w.heap.size ≤ bf ∧ w.heap.size ≤ br := by omega
  clear d6 b6 hb0 hn hs hq hr HF HBX HT1 HT2 HT3 HT4 D1 D2 D3 E3 E4 HX2 HX5 DW2 DW3 DW4 DW5 O5 HT5 HG5 hlo hls hlf hlr hco hcs
  go_wp2_with fail
  refine P4.mono ?_
  rintro e w7 ⟨rfl, d7⟩
  have DW7 := hide (DW6.out.trans (d7.mono DW6.out.size))
  have HX7 := hide (HX6.out.on d7)
  have HT7 := hide (HT6.out.on d7)
  clear P4 d7 x0 x1 x2 x3 x4 y0 y1 y2 y3 y4 HX6 HT6 DW6
  obtain ⟨O1, hO1⟩ : ∃ O1, O.reverse = O1 := ⟨_, rfl⟩
  obtain ⟨R1, hR1⟩ : ∃ R1, R.reverse = R1 := ⟨_, rfl⟩
  rw [hO1, hR1] at HT7 HLr
  rw [hR1] at hok5
  clear hO1 hR1
  obtain ⟨M, hM⟩ : ∃ M, n + 64 = M := ⟨_, rfl⟩
  have HM7 : Hid (Mrw w7 bo 41 (M * 2) (flK O1 0) (M * 2)) := hide (by have := HT7.out.o; rw [HLr.out.1, hM] at this; exact this.congr (fun c _ => (flK_zero O1 c).symm))
  rw [hM] at HX7
  have HMn := hide hM
  have hnM : n ≤ M := by omega
  have hMb : M ≤ 1048640 := by omega
  rw [hM]
  clear hM
  obtain ⟨x0, x1, x2, x3, x4⟩ := HX7.out
  go_wp2_with fail
  go_loopw [5] (fun i wr => ∃ k : Nat, k ≤ n ∧ i = .int .i64 k ∧ Hid (Mrw wr bo 41 (M * 2) (flK O1 k) (M * 2) ∧ Only w7 wr (fun k => k = bo))) (fun i _ => n - (intOf i).toNat)
  case atStart => exact ⟨0, Nat.zero_le _, rfl, hide ⟨HM7.out, Only.ofBelow (Below.refl _ _)⟩⟩
  case round =>
    clear x0 x1 x2 x3 x4
    obtain ⟨k, hk, rfl, HN⟩ := hrel
    have hX7 := bx5_only HX7.out HN.out.2 (show ¬ w1.heap.size = bo by omega)
    obtain ⟨x0, x1, x2, x3, x4⟩ := hX7
    by_cases hlt : k < n
    · clear x0 x2 x3 x4
      have i2 : (k : Int) < (n : Int) := by omega
      have i3 : (0 : Int) ≤ (k : Int) := by omega
      have hkl : k < O1.length := by rw [HLr.out.1]; exact hlt
      have v := opPad_at O1 k hkl
      have q0 : wr.cell? ⟨bo, k * 2, none⟩ = some (.string O1[k].1) := by
        rw [HN.out.1.at _ (by omega)]; unfold flK; rw [if_neg (by omega), v.1]
      have q1 : wr.cell? ⟨bo, k * 2 + 1, none⟩ = some (.int .i64 O1[k].2) := by
        rw [HN.out.1.at _ (by omega)]; unfold flK; rw [if_neg (by omega), v.2]
      have f0 := HN.out.1.fz (k * 2)
      have f1 := HN.out.1.fz (k * 2 + 1)
      have HNx := hide (fun c => flK_next hkl c)
      obtain ⟨x, hx⟩ : ∃ x, O1[k] = x := ⟨_, rfl⟩
      rw [hx] at q0 q1 HNx
      clear hx v hkl
      have hwb : w1.heap.size ≠ bo := by omega
      go_wp2_with fail
      go_region
      go_wp2_with fail
      go_roundw
      case rel =>
        refine ⟨k + 1, by omega, by go_num, hide ⟨?_, only_drew (only_setc (only_setc HN.out.2))⟩⟩
        exact ((HN.out.1.upd (k * 2) (.string x.1)).upd (k * 2 + 1) (.int .i64 (wrap64 (1 - x.2)))).drew.congr (fun c _ => HNx.out c)
      case measure => simp [intOf]; omega
    · have hkn : n = k := by omega
      subst hkn
      have i2 : ¬ (n : Int) < (n : Int) := by omega
      obtain ⟨wl, hwl⟩ : ∃ X, X = wr := ⟨_, rfl⟩
      subst hwl
      have hso : bs ≠ bo := HT7.out.s.ne HT7.out.o (by decide)
      have hfo : bf ≠ bo := HT7.out.f.ne HT7.out.o (by decide)
      have hro : br ≠ bo := HT7.out.r.ne HT7.out.o (by decide)
      have HTl : Hid (Twn wl bo bs bf br (O1.map flipO) S F R1) := hide ⟨by
        rw [List.length_map, HLr.out.1, HMn.out]
        refine HN.out.1.congr (fun c _ => ?_)
        rw [← flK_all, HLr.out.1], HT7.out.s.only HN.out.2 hso, HT7.out.f.only HN.out.2 hfo, HT7.out.r.only HN.out.2 hro⟩
      have HLl : Hid (Len4 n s q r (O1.map flipO) S F R1) := hide ⟨by rw [List.length_map]; exact HLr.out.1, HLr.out.2⟩
      obtain ⟨O2, hO2⟩ : ∃ O2, O1.map flipO = O2 := ⟨_, rfl⟩
      rw [hO2] at HTl HLl
      have HXl : Hid (Bx5 wl w1.heap.size (.string ti) (.slice (some ⟨bo, 0, none⟩) n (n + 64)) (.slice (some ⟨bs, 0, none⟩) s (s + 64)) (.slice (some ⟨bf, 0, none⟩) q (q + 64)) (.slice (some ⟨br, 0, none⟩) r (r + 64))) := hide (by rw [HMn.out]; exact bx5_only HX7.out HN.out.2 (show ¬ w1.heap.size = bo by omega))
      have DWl : Hid (Below w.heap.size w wl) := hide (DW7.out.trans (HN.out.2.toBelow DW7.out.size (fun k hk => by omega)))
      have eM := HMn.out
      rw [← eM] at x1
      rw [← eM]
      clear hO2 HN HM7 HX7 HT7 HLr HMn hnM hMb eM DW7 hlt hk
      have SOf : Hid (∀ W, Below wl.heap.size wl W → (W.cell? ⟨w1.heap.size, 0, none⟩ = some (.string ti) ∧ W.cell? ⟨w1.heap.size, 1, none⟩ = some (.slice (some ⟨bo, 0, none⟩) n (n + 64)) ∧ W.cell? ⟨w1.heap.size, 2, none⟩ = some (.slice (some ⟨bs, 0, none⟩) s (s + 64)) ∧ W.cell? ⟨w1.heap.size, 3, none⟩ = some (.slice (some ⟨bf, 0, none⟩) q (q + 64)) ∧ W.cell? ⟨w1.heap.size, 4, none⟩ = some (.slice (some ⟨br, 0, none⟩) r (r + 64)) ∧ Hid (Below wl.heap.size wl W))) := hide fun W d => by
        obtain ⟨k0, k1, k2, k3, k4⟩ := HXl.out.on d
        exact ⟨k0, k1, k2, k3, k4, hide d⟩
      have SOut : Hid (∀ W, (W.cell? ⟨w1.heap.size, 0, none⟩ = some (.string ti) ∧ W.cell? ⟨w1.heap.size, 1, none⟩ = some (.slice (some ⟨bo, 0, none⟩) n (n + 64)) ∧ W.cell? ⟨w1.heap.size, 2, none⟩ = some (.slice (some ⟨bs, 0, none⟩) s (s + 64)) ∧ W.cell? ⟨w1.heap.size, 3, none⟩ = some (.slice (some ⟨bf, 0, none⟩) q (q + 64)) ∧ W.cell? ⟨w1.heap.size, 4, none⟩ = some (.slice (some ⟨br, 0, none⟩) r (r + 64)) ∧ Hid (Below wl.heap.size wl W)) → Below wl.heap.size wl W) := hide fun W h => h.2.2.2.2.2.out
      have TWN : Hid (∀ W, Below wl.heap.size wl W → Calls Tryz.prog 12 #[.agg #[.string ti, .slice (some ⟨bo, 0, none⟩) n (n + 64), .slice (some ⟨bs, 0, none⟩) s (s + 64), .slice (some ⟨bf, 0, none⟩) q (q + 64), .slice (some ⟨br, 0, none⟩) r (r + 64)]] W fun e w' => ∃ go gs gf gr, e = .returned (.agg #[.string ti, .slice (some ⟨go, 0, none⟩) n (n + 64), .slice (some ⟨gs, 0, none⟩) s (s + 64), .slice (some ⟨gf, 0, none⟩) q (q + 64), .slice (some ⟨gr, 0, none⟩) r (r + 64)]) ∧ Twn w' go gs gf gr O2 S F R1 ∧ Below W.heap.size W w') := hide fun W d => twin_tw W ti n s q r bo bs bf br O2 S F R1 HLl.out (HTl.out.on d) ln lsx lq lr
      have PRN : Hid (∀ W go gs gf gr, Below wl.heap.size wl W → Twn W go gs gf gr O2 S F R1 → Calls Tryz.prog 13 #[.agg #[.string ti, .slice (some ⟨bo, 0, none⟩) n (n + 64), .slice (some ⟨bs, 0, none⟩) s (s + 64), .slice (some ⟨bf, 0, none⟩) q (q + 64), .slice (some ⟨br, 0, none⟩) r (r + 64)], .agg #[.string ti, .slice (some ⟨go, 0, none⟩) n (n + 64), .slice (some ⟨gs, 0, none⟩) s (s + 64), .slice (some ⟨gf, 0, none⟩) q (q + 64), .slice (some ⟨gr, 0, none⟩) r (r + 64)]] W fun e w' => e = .returned (.bool true) ∧ Below W.heap.size W w') := hide fun W go gs gf gr d hG => prints_tw W ti n s q r bo bs bf br go gs gf gr O2 S F R1 HLl.out (hT1.out W (DWl.out.trans (d.mono DWl.out.size))).2 (HTl.out.on d) hG hok5.out ln lsx lq lr
      have hS0 : Hid (Below wl.heap.size wl wl) := hide (Below.refl _ _)
      go_wp2_with fail
      go_region_held3 (fun W => W.cell? ⟨w1.heap.size, 0, none⟩ = some (.string ti) ∧ W.cell? ⟨w1.heap.size, 1, none⟩ = some (.slice (some ⟨bo, 0, none⟩) n (n + 64)) ∧ W.cell? ⟨w1.heap.size, 2, none⟩ = some (.slice (some ⟨bs, 0, none⟩) s (s + 64)) ∧ W.cell? ⟨w1.heap.size, 3, none⟩ = some (.slice (some ⟨bf, 0, none⟩) q (q + 64)) ∧ W.cell? ⟨w1.heap.size, 4, none⟩ = some (.slice (some ⟨br, 0, none⟩) r (r + 64)) ∧ Hid (Below wl.heap.size wl W))
        (first
          | with_reducible assumption
          | (with_reducible refine SOf.out _ ?_; repeat' (first | with_reducible exact hS0.out | with_reducible exact hSA.out | with_reducible exact hSB.out | with_reducible refine Below.drew ?_)))
        ((first
          | (go_at_call 12; refine (TWN.out _ (SOut.out _ (by with_reducible assumption))).mono ?_; rintro e wA ⟨ko, ks, kf, kr, rfl, hG, dA⟩; have hSA : Hid (Below wl.heap.size wl wA) := hide ((SOut.out _ (by with_reducible assumption)).trans (dA.mono (SOut.out _ (by with_reducible assumption)).size)); have HGA := hide hG; clear hG dA)
          | (go_at_call 13; refine (PRN.out wA ko ks kf kr hSA.out HGA.out).mono ?_; rintro e wB ⟨rfl, dB⟩; have hSB : Hid (Below wl.heap.size wl wB) := hide (hSA.out.trans (dB.mono hSA.out.size)); clear dB)))
      have DWB := hide (DWl.out.trans (hSB.out.mono DWl.out.size))
      have HTB := hide (HTl.out.on hSB.out)
      have HXB := hide (HXl.out.on hSB.out)
      clear x0 x1 x2 x3 x4
      obtain ⟨x0, x1, x2, x3, x4⟩ := HXB.out
      have Q1 := turned_any wB bs S (hide HTB.out.s) (by rw [HLl.out.2.1]; exact lsx)
      rw [HLl.out.2.1] at Q1
      go_wp2_with fail
      refine Q1.mono ?_
      rintro e w10 ⟨v10, rfl, m10, o10⟩
      have hsb : bs ≠ bf := HB.out.1
      have hro2 : br ≠ bs := HTB.out.r.ne HTB.out.s (by decide)
      have hrf : br ≠ bf := HTB.out.r.ne HTB.out.f (by decide)
      have DW10 : Hid (Below w.heap.size w w10) := hide (DWB.out.trans (o10.toBelow DWB.out.size (fun k hk => by omega)))
      have HX10 := hide (bx5_only HXB.out o10 (show ¬ w1.heap.size = bs by omega))
      have HM10 : Hid (Mrw w10 bs 9 (s + 64) (padV S.reverse) (s + 64) ∧ Mrw w10 bf 9 (F.length + 64) (padV F) (F.length + 64) ∧ Mrw w10 bo 41 ((O2.length + 64) * 2) (opPad O2) ((O2.length + 64) * 2) ∧ Mrw w10 br 50 ((R1.length + 64) * 3) (ruPad R1) ((R1.length + 64) * 3)) := hide ⟨m10, HTB.out.f.only o10 (show ¬ bf = bs by omega), HTB.out.o.only o10 (show ¬ bo = bs by omega), HTB.out.r.only o10 (show ¬ br = bs by omega)⟩
      clear Q1 m10 o10 x0 x1 x2 x3 x4
      obtain ⟨x0, x1, x2, x3, x4⟩ := HX10.out
      have Q2 := turned_any w10 bf F (hide HM10.out.2.1) (by rw [HLl.out.2.2.1]; exact lq)
      rw [HLl.out.2.2.1] at Q2
      go_wp2_with fail
      refine Q2.mono ?_
      rintro e w11 ⟨v11, rfl, m11, o11⟩
      have DW11 : Hid (Below w.heap.size w w11) := hide (DW10.out.trans (o11.toBelow DW10.out.size (fun k hk => by omega)))
      have HX11 := hide (bx5_only HX10.out o11 (show ¬ w1.heap.size = bf by omega))
      have HT11 : Hid (Twn w11 bo bs bf br O2 S.reverse F.reverse R1) := hide ⟨HM10.out.2.2.1.only o11 (show ¬ bo = bf by omega), by rw [List.length_reverse, HLl.out.2.1]; exact HM10.out.1.only o11 (show ¬ bs = bf by omega), by rw [List.length_reverse, HLl.out.2.2.1]; exact m11, HM10.out.2.2.2.only o11 (show ¬ br = bf by omega)⟩
      have HL11 : Hid (Len4 n s q r O2 S.reverse F.reverse R1) := hide ⟨HLl.out.1, by rw [List.length_reverse]; exact HLl.out.2.1, by rw [List.length_reverse]; exact HLl.out.2.2.1, HLl.out.2.2.2⟩
      have hok11 : Hid ((∀ x ∈ F.reverse, kText.ok x) ∧ ∀ x ∈ R1, kRules.ok x) := hide (ok_rev hok5.out (fun x h => List.mem_reverse.1 h) (fun x h => h))
      obtain ⟨S2, hS2⟩ : ∃ S2, S.reverse = S2 := ⟨_, rfl⟩
      obtain ⟨F2, hF2⟩ : ∃ F2, F.reverse = F2 := ⟨_, rfl⟩
      rw [hS2, hF2] at HT11 HL11
      rw [hF2] at hok11
      clear hS2 hF2 m11 o11 Q2 x0 x1 x2 x3 x4 SOf SOut TWN PRN hS0 hSA hSB HGA HM10
      obtain ⟨x0, x1, x2, x3, x4⟩ := HX11.out
      have SOf : Hid (∀ W, Below w11.heap.size w11 W → (W.cell? ⟨w1.heap.size, 0, none⟩ = some (.string ti) ∧ W.cell? ⟨w1.heap.size, 1, none⟩ = some (.slice (some ⟨bo, 0, none⟩) n (n + 64)) ∧ W.cell? ⟨w1.heap.size, 2, none⟩ = some (.slice (some ⟨bs, 0, none⟩) s (s + 64)) ∧ W.cell? ⟨w1.heap.size, 3, none⟩ = some (.slice (some ⟨bf, 0, none⟩) q (q + 64)) ∧ W.cell? ⟨w1.heap.size, 4, none⟩ = some (.slice (some ⟨br, 0, none⟩) r (r + 64)) ∧ Hid (Below w11.heap.size w11 W))) := hide fun W d => by
        obtain ⟨k0, k1, k2, k3, k4⟩ := HX11.out.on d
        exact ⟨k0, k1, k2, k3, k4, hide d⟩
      have SOut : Hid (∀ W, (W.cell? ⟨w1.heap.size, 0, none⟩ = some (.string ti) ∧ W.cell? ⟨w1.heap.size, 1, none⟩ = some (.slice (some ⟨bo, 0, none⟩) n (n + 64)) ∧ W.cell? ⟨w1.heap.size, 2, none⟩ = some (.slice (some ⟨bs, 0, none⟩) s (s + 64)) ∧ W.cell? ⟨w1.heap.size, 3, none⟩ = some (.slice (some ⟨bf, 0, none⟩) q (q + 64)) ∧ W.cell? ⟨w1.heap.size, 4, none⟩ = some (.slice (some ⟨br, 0, none⟩) r (r + 64)) ∧ Hid (Below w11.heap.size w11 W)) → Below w11.heap.size w11 W) := hide fun W h => h.2.2.2.2.2.out
      have TWN : Hid (∀ W, Below w11.heap.size w11 W → Calls Tryz.prog 12 #[.agg #[.string ti, .slice (some ⟨bo, 0, none⟩) n (n + 64), .slice (some ⟨bs, 0, none⟩) s (s + 64), .slice (some ⟨bf, 0, none⟩) q (q + 64), .slice (some ⟨br, 0, none⟩) r (r + 64)]] W fun e w' => ∃ go gs gf gr, e = .returned (.agg #[.string ti, .slice (some ⟨go, 0, none⟩) n (n + 64), .slice (some ⟨gs, 0, none⟩) s (s + 64), .slice (some ⟨gf, 0, none⟩) q (q + 64), .slice (some ⟨gr, 0, none⟩) r (r + 64)]) ∧ Twn w' go gs gf gr O2 S2 F2 R1 ∧ Below W.heap.size W w') := hide fun W d => twin_tw W ti n s q r bo bs bf br O2 S2 F2 R1 HL11.out (HT11.out.on d) ln lsx lq lr
      have PRN : Hid (∀ W go gs gf gr, Below w11.heap.size w11 W → Twn W go gs gf gr O2 S2 F2 R1 → Calls Tryz.prog 13 #[.agg #[.string ti, .slice (some ⟨bo, 0, none⟩) n (n + 64), .slice (some ⟨bs, 0, none⟩) s (s + 64), .slice (some ⟨bf, 0, none⟩) q (q + 64), .slice (some ⟨br, 0, none⟩) r (r + 64)], .agg #[.string ti, .slice (some ⟨go, 0, none⟩) n (n + 64), .slice (some ⟨gs, 0, none⟩) s (s + 64), .slice (some ⟨gf, 0, none⟩) q (q + 64), .slice (some ⟨gr, 0, none⟩) r (r + 64)]] W fun e w' => e = .returned (.bool true) ∧ Below W.heap.size W w') := hide fun W go gs gf gr d hG => prints_tw W ti n s q r bo bs bf br go gs gf gr O2 S2 F2 R1 HL11.out (hT1.out W (DW11.out.trans (d.mono DW11.out.size))).2 (HT11.out.on d) hG hok11.out ln lsx lq lr
      have hS0 : Hid (Below w11.heap.size w11 w11) := hide (Below.refl _ _)
      go_wp2_with fail
      go_region_held3 (fun W => W.cell? ⟨w1.heap.size, 0, none⟩ = some (.string ti) ∧ W.cell? ⟨w1.heap.size, 1, none⟩ = some (.slice (some ⟨bo, 0, none⟩) n (n + 64)) ∧ W.cell? ⟨w1.heap.size, 2, none⟩ = some (.slice (some ⟨bs, 0, none⟩) s (s + 64)) ∧ W.cell? ⟨w1.heap.size, 3, none⟩ = some (.slice (some ⟨bf, 0, none⟩) q (q + 64)) ∧ W.cell? ⟨w1.heap.size, 4, none⟩ = some (.slice (some ⟨br, 0, none⟩) r (r + 64)) ∧ Hid (Below w11.heap.size w11 W))
        (first
          | with_reducible assumption
          | (with_reducible refine SOf.out _ ?_; repeat' (first | with_reducible exact hS0.out | with_reducible exact hSA.out | with_reducible exact hSB.out | with_reducible exact hSC.out | with_reducible refine Below.drew ?_)))
        ((first
          | (go_at_call 12; refine (TWN.out _ (SOut.out _ (by with_reducible assumption))).mono ?_; rintro e wA ⟨ko, ks, kf, kr, rfl, hG, dA⟩; have hSA : Hid (Below w11.heap.size w11 wA) := hide ((SOut.out _ (by with_reducible assumption)).trans (dA.mono (SOut.out _ (by with_reducible assumption)).size)); have HGA := hide hG; clear hG dA)
          | (go_at_call 13; refine (PRN.out wA ko ks kf kr hSA.out HGA.out).mono ?_; rintro e wB ⟨rfl, dB⟩; have hSB : Hid (Below w11.heap.size w11 wB) := hide (hSA.out.trans (dB.mono hSA.out.size)); clear dB)
          | (go_at_call 10; refine (least_any wB (hide (hT1.out wB (DW11.out.trans (hSB.out.mono DW11.out.size))))).mono ?_; rintro e wC ⟨rfl, dC⟩; have hSC : Hid (Below w11.heap.size w11 wC) := hide (hSB.out.trans (dC.mono hSB.out.size)); clear dC)))
      go_wp2_with fail
      go_ret
      exact ⟨by simp, DW11.out.trans (hSC.out.mono DW11.out.size)⟩
end Go.Proofs.YtmagchclmmphaaaGreatDoor
