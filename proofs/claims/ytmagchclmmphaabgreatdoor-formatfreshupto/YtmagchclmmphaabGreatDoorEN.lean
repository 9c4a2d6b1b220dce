import Derived.Test.YtmagchclmmphaabGreatDoorEK
import Derived.Test.YtmagchclmmphaabGreatDoorRJ
namespace Go.Proofs.YtmagchclmmphaabGreatDoor
open Go.RowKit Go.Maps
attribute [local go_sem] Oper.semAt_some

def bigF (O : List OpI) (S : List ByteArray) (R : List RuT) : Prop := 4096 < S.length ∨ 128 < (symF O).length ∨ 65536 < (R.filter fun r => !isSt r).length
/-- What the document's Auto answers of a content that may be. -/
def RaP (w w' : World) (O : List OpI) (S F : List ByteArray) (R : List RuT) (e : Ending) : Prop :=
  (bigF O S R → e = .returned (.tuple #[.agg #[.int .i64 0, .int .i64 0, .slice none 0 0, .slice none 0 0, .slice none 0 0], .slice none 0 0, .slice none 0 0, .int .i64 8]) ∧ Below w.heap.size w w') ∧
  (¬ bigF O S R → ∃ v1 v2 v3 vs vy, e = .returned (.tuple #[.agg #[.int .i64 (S.length : Nat), .int .i64 ((symF O).length : Nat), v1, v2, v3], vs, vy, .int .i64 0]) ∧ AtR w w' v1 v2 v3 (riseL (stF S R)) (fiF S F) (sortE (edF S (symF O) R)) ∧ w'.ownsRow w.heap.size 9 1 vs S.length (strV S) ∧ w'.ownsRow w.heap.size 9 1 vy (symF O).length (strV (symF O)))
theorem cnewS (w : World) (s : ByteArray) : ∀ j u, [Value.string s][j]? = some u → (w.alloc (.cells #[.string s] 9)).cell? ((⟨w.heap.size, 0, none⟩ : Addr).add j) = some u := cell_one_new w (.string s) 9
theorem ed_lenE (S Y : List ByteArray) (R : List RuT) : (edF S Y R).length = (R.filter fun r => !isSt r).length := by unfold edF; rw [List.length_map]
theorem raj_end {w Z2 w7 W : World} {g n m : Nat} {c : Array Value} {vy v1 v2 v3 vs : Value} {S Y : List ByteArray} {St Fi : List Int} {Ed : List EdT} (NT : AtJ w g c n m vy Y Z2 v1 v2 v3 St Fi Ed) (hvs : w7.ownsRow Z2.heap.size 9 1 vs S.length (strV S)) (d8 : Below Z2.heap.size Z2 w7) (hlo : Only w7 W (fun k => k = w.heap.size + 1)) :
    AtR w W v1 v2 v3 St Fi Ed ∧ W.ownsRow w.heap.size 9 1 vs S.length (strV S) ∧ W.ownsRow w.heap.size 9 1 vy Y.length (strV Y) := by
  have NF := NT.below d8
  have hg := NT.hg
  have hl := NT.tri.glt
  have nr : ∀ k, g + 1 ≤ k → ¬ k = w.heap.size + 1 := fun k hk => by omega
  refine ⟨⟨own_wide (row_only NF.tri.o1 hlo fun k q => nr k (NF.tri.o1.lt k q).1) (by omega), own_wide (row_only NF.tri.o2 hlo fun k q => nr k (NF.tri.o2.lt k q).1) (by omega), own_wide (row_only NF.tri.o3 hlo fun k q => nr k (NF.tri.o3.lt k q).1) (by omega), NF.tri.a12, NF.tri.a13, NF.tri.a23, NF.dw.trans (hlo.toBelow NF.dw.size fun k z => by omega)⟩, ?_, ?_⟩
  · exact own_wide (row_only hvs hlo fun k q => by have := (hvs.lt k q).1; omega) (by omega)
  · exact own_wide (row_only NF.oy hlo fun k q => by have := (NF.oy.lt k q).1; omega) (by omega)
set_option maxRecDepth 100000 in
set_option maxHeartbeats 16000000 in
theorem rauto_any (w : World) (ti : ByteArray) (ao asx af ar : Option Addr) (co cs cf cr : Nat) (O : List OpI) (S F : List ByteArray) (R : List RuT) (hO : Hid (RdO w ao O)) (hS : Hid (ReadsS w asx S)) (hF : Hid (ReadsS w af F)) (hR : Hid (RdRu w ar R))
    (hlo : O.length ≤ 4194304) (hls : S.length ≤ 4194304) (hlf : F.length ≤ 4194304) (hlr : R.length ≤ 4194304) (hco : Hid (O.length ≤ co)) (hcs : Hid (S.length ≤ cs)) (hv : valF ti O S F R = true) :
    Calls Tryz.prog 27 #[.agg #[.string ti, .slice ao O.length co, .slice asx S.length cs, .slice af F.length cf, .slice ar R.length cr]] w fun e w' => RaP w w' O S F R e := by
  obtain ⟨i9, hi9, hz90, hz91, hz92⟩ := info_parts info9
  obtain ⟨W0, hW0⟩ : ∃ W0, (w.alloc (.cells #[.string ti, .slice ao O.length co, .slice asx S.length cs, .slice af F.length cf, .slice ar R.length cr] 32)).alloc (.cells #[.int .i64 0, .int .i64 0, .slice none 0 0, .slice none 0 0, .slice none 0 0] 25) = W0 := ⟨_, rfl⟩
  have d0 : Below w.heap.size w W0 := by rw [← hW0]; exact ((Below.refl _ _).alloc (Nat.le_refl _) _).alloc (by simp) _
  have b0 : W0.heap[w.heap.size]? = some (.cells #[.string ti, .slice ao O.length co, .slice asx S.length cs, .slice af F.length cf, .slice ar R.length cr] 32 (0, 0)) := by rw [← hW0]; exact (Below.heap_alloc _ _ _ (by simp)).trans (World.alloc_heap_new _ _)
  have b1 : W0.heap[w.heap.size + 1]? = some (.cells #[.int .i64 0, .int .i64 0, .slice none 0 0, .slice none 0 0, .slice none 0 0] 25 (0, 0)) := by rw [← hW0]; exact heap_alloc2_new w _ _
  have z0 : W0.heap.size = w.heap.size + 2 := by rw [← hW0]; simp
  have T1 := rvalid_any W0 ti ao asx af ar co cs cf cr O S F R (hide (hO.out.on d0)) (hide (hS.out.below d0)) (hide (hF.out.below d0)) (hide (hR.out.on d0)) hlo hls hlf hlr hco hcs
  rw [rvalF_eq, hv] at T1
  have HD := hide (And.intro d0 (And.intro b0 (And.intro b1 z0)))
  have c0 : W0.cell? ⟨w.heap.size, 0, none⟩ = some (.string ti) := cell_of b0 rfl
  have c1 : W0.cell? ⟨w.heap.size, 1, none⟩ = some (.slice ao O.length co) := cell_of b0 rfl
  have c2 : W0.cell? ⟨w.heap.size, 2, none⟩ = some (.slice asx S.length cs) := cell_of b0 rfl
  have c3 : W0.cell? ⟨w.heap.size, 3, none⟩ = some (.slice af F.length cf) := cell_of b0 rfl
  have c4 : W0.cell? ⟨w.heap.size, 4, none⟩ = some (.slice ar R.length cr) := cell_of b0 rfl
  clear d0 b0 b1 z0
  go_enter Tryz.func27, Tryz.ntmps27
  go_wp2_with (go_at_call 52; refine T1.mono ?_; rintro e w1 ⟨rfl, d1⟩)
  have DW := hide (HD.out.1.trans (d1.mono HD.out.1.size))
  have HB := hide (And.intro ((d1.block _ (by have := HD.out.2.2.2; omega)).trans HD.out.2.1) (And.intro ((d1.block _ (by have := HD.out.2.2.2; omega)).trans HD.out.2.2.1) (show w.heap.size + 2 ≤ w1.heap.size by have := HD.out.2.2.2; have := d1.size; omega)))
  clear d1 T1 HD c0 c1 c2 c3 c4 hW0
  go_loopw [7, 8] (fun v i wr => ∃ k : Nat, k ≤ O.length ∧ i = .int .i64 k ∧ Hid (wr.ownsRow w1.heap.size 9 1 v (symF (O.take k)).length (strV (symF (O.take k))) ∧ Below w1.heap.size w1 wr)) (fun _ i _ => O.length - (intOf i).toNat)
  case atStart => exact ⟨0, Nat.zero_le _, rfl, hide ⟨⟨rfl, .inl ⟨rfl, rfl⟩⟩, Below.refl _ _⟩⟩
  case round =>
    obtain ⟨k, hk, rfl, HH⟩ := hrel
    have c1 : wr.cell? ⟨w.heap.size, 1, none⟩ = some (.slice ao O.length co) := cell_of ((HH.out.2.block _ (by have := HB.out.2.2; omega)).trans HB.out.1) rfl
    by_cases hlt : k < O.length
    · obtain ⟨g1, o1, rfl, q0, q1⟩ := (hO.out.on (DW.out.trans (HH.out.2.mono DW.out.size))) k hlt
      have i2 : (k : Int) < (O.length : Int) := by omega
      have i3 : (0 : Int) ≤ (k : Int) := by omega
      have hn := symF_next hlt
      obtain ⟨s, hs⟩ : ∃ s, O[k].1 = s := ⟨_, rfl⟩
      obtain ⟨x, hx⟩ : ∃ x, O[k].2 = x := ⟨_, rfl⟩
      rw [hs] at q0 hn
      rw [hx] at q1 hn
      have HN := hide hn
      have hb : (symF (O.take k)).length ≤ 4194304 := by
        rw [symF_len]; unfold cntF
        have := List.countP_le_length (p := fun x : OpI => x.2 == 1) (l := O.take k)
        rw [List.length_take] at this
        omega
      obtain ⟨L, hL⟩ : ∃ L, symF (O.take k) = L := ⟨_, rfl⟩
      rw [hL] at HH HN hb
      clear hn hs hx hL
      have hsz := HH.out.2.size
      by_cases h1 : x = 1
      · subst h1
        go_wp2_with (at_builtin; refine wpList_append_own_at _ rfl _ _ _ rfl w1.heap.size 9 i9 _ 1 16 Tryz.underlying26 hi9 hz90 hz91 hz92 rfl (by omega) u7 L.length (strV L) rfl (owns_below HH.out.1 ((Below.refl _ wr).alloc (Nat.le_refl _) _)) ⟨wr.heap.size, 0, none⟩ 1 1 [.string s] rfl rfl (cnewS wr s) (rf.strV_one [s]) (by unfold maxLen; omega) (by omega) (by simp; omega) ?_; intro v' w2 ho hgr hnil hloc)
        have hb0 := HH.out.1.lt
        refine ⟨⟨k + 1, by omega, by go_num, hide ?_⟩, by simp [intOf]; omega⟩
        rw [HN.out, if_pos rfl]
        refine ⟨by simpa [strV] using ho, ?_⟩
        exact ((HH.out.2.alloc hsz _).grown hgr (by simp; omega) (fun k hk => (hb0 k hk).1))
      · have e1 : (x == 1) = false := by rw [beq_eq_false_iff_ne]; exact h1
        go_wp2
        refine ⟨⟨k + 1, by omega, by go_num, hide ?_⟩, by simp [intOf]; omega⟩
        rw [HN.out, if_neg h1, List.append_nil]
        exact HH.out
    · obtain rfl : k = O.length := by omega
      have i2 : ¬ (O.length : Int) < (O.length : Int) := by omega
      rw [List.take_length] at HH
      have hly : (symF O).length ≤ 4194304 := by unfold symF; rw [List.length_map]; exact Nat.le_trans (List.length_filter_le _ _) hlo
      obtain ⟨Y, hY⟩ : ∃ Y, symF O = Y := ⟨_, rfl⟩
      rw [hY] at HH hly
      have HY := hide hY
      obtain ⟨ay, cy, rfl⟩ := rowForm HH.out.1
      have c2 : wr.cell? ⟨w.heap.size, 2, none⟩ = some (.slice asx S.length cs) := cell_of ((HH.out.2.block _ (by have := HB.out.2.2; omega)).trans HB.out.1) rfl
      have HAO : Hid ((∀ x ∈ F, x ∈ S) ∧ (∀ r ∈ R, r.2.2 ∈ S ∧ (isSt r = false → r.2.1 ∈ S ∧ r.1 ∈ Y)) ∧ (edF S Y R).Nodup) := hide (by rw [← hY]; have q := aok_of hv; exact ⟨q.fm, q.rm, q.en⟩)
      clear hY
      go_upto_region 11 with fail
      obtain ⟨wo, rfl⟩ : ∃ z, z = wr := ⟨_, rfl⟩
      obtain ⟨X, hX⟩ : ∃ X, wo.alloc (.cells #[.int .i64 (S.length : Nat), .int .i64 (Y.length : Nat), .slice none 0 0, .slice none 0 0, .slice none 0 0] 25) = X := ⟨_, rfl⟩
      rw [hX]
      have TA : Hid (AtJ w wo.heap.size #[.string ti, .slice ao O.length co, .slice asx S.length cs, .slice af F.length cf, .slice ar R.length cr] S.length Y.length (.slice ay Y.length cy) Y X (.slice none 0 0) (.slice none 0 0) (.slice none 0 0) [] [] []) := hide (by
        have q2 := HB.out.2.2
        exact AtJ.new ((HH.out.2.block _ (by omega)).trans HB.out.1) ((HH.out.2.block _ (by omega)).trans HB.out.2.1) (own_wide HH.out.1 q2) (DW.out.trans (HH.out.2.mono DW.out.size)) (by rw [← hX]; exact World.alloc_heap_new _ _) (by rw [← hX]; exact (Below.refl _ _).alloc (Nat.le_refl _) _))
      obtain ⟨g, hg⟩ : ∃ g, wo.heap.size = g := ⟨_, rfl⟩
      rw [hg] at TA
      rw [hg]
      clear hX hg HH c1 c2 DW HB
      have k3 : X.cell? ⟨w.heap.size, 3, none⟩ = some (.slice af F.length cf) := cell_of TA.out.bf rfl
      go_wp2_with fail
      clear k3
      go_loopw [10] (fun i wr => ∃ (k : Nat) (v2 : Value), k ≤ F.length ∧ i = .int .i64 k ∧ Hid (AtJ w g #[.string ti, .slice ao O.length co, .slice asx S.length cs, .slice af F.length cf, .slice ar R.length cr] S.length Y.length (.slice ay Y.length cy) Y wr (.slice none 0 0) v2 (.slice none 0 0) [] (fiF S (F.take k)) [])) (fun i _ => F.length - (intOf i).toNat)
      case atStart => exact ⟨0, _, Nat.zero_le _, rfl, hide (by simpa [fiF] using TA.out)⟩
      case round =>
        obtain ⟨k, v2, hk, rfl, HH⟩ := hrel
        have k3 : wr.cell? ⟨w.heap.size, 3, none⟩ = some (.slice af F.length cf) := cell_of HH.out.bf rfl
        by_cases hlt : k < F.length
        · have i2 : (k : Int) < (F.length : Int) := by omega
          have i3' : (0 : Int) ≤ (k : Int) := by omega
          obtain ⟨bF, oF, rfl, q0⟩ := (hF.out.below (hide HH.out.dw).out) k hlt
          have HN := hide (fi_next (S := S) (List.getElem?_eq_getElem hlt))
          have hxS := HAO.out.1 _ (List.getElem_mem hlt)
          obtain ⟨x, hxx⟩ : ∃ x, F[k] = x := ⟨_, rfl⟩
          rw [hxx] at q0 HN hxS
          have HP := hide (plc_pos hxS)
          obtain ⟨pp, hp⟩ : ∃ p, posOf S x = p := ⟨_, rfl⟩
          rw [hp] at HN HP
          obtain ⟨Fi, hFi⟩ : ∃ Fi, fiF S (F.take k) = Fi := ⟨_, rfl⟩
          have hFl : Fi.length ≤ k := by rw [← hFi, fi_len, List.length_take]; omega
          rw [hFi] at HH HN
          obtain ⟨a2, c2, rfl⟩ := rowForm HH.out.tri.o2
          clear hp hFi hxS hxx
          go_upto_region 14 with fail
          have t1 := tw_cell (show wr.cell? ⟨g, 3, none⟩ = some (.slice a2 Fi.length c2) from cell_of HH.out.tri.blk rfl) (.cells #[.int .i64 (pp : Nat)] 3)
          have t2 := tw_cell (show wr.cell? ⟨w.heap.size, 2, none⟩ = some (.slice asx S.length cs) from cell_of HH.out.bf rfl) (.cells #[.int .i64 (pp : Nat)] 3)
          have t3 := tw_cell k3 (.cells #[.int .i64 (pp : Nat)] 3)
          have t4 := tw_cell q0 (.cells #[.int .i64 (pp : Nat)] 3)
          clear k3 q0 TA
          refine wp_region_alloc 10 #[true, true, true, true, true, true, true, true, true, true, true, false, false, false] _ (.cells #[.int .i64 (pp : Nat)] 3) (by kernel_rfl) (by kernel_rfl) rfl ?_
          simp only [List.take_succ_cons, List.take_zero, List.drop_succ_cons, List.drop_zero]
          refine mix_take 9 (by kernel_rfl) ?_
          simp only [List.take_succ_cons, List.take_zero, List.drop_succ_cons, List.drop_zero]
          repeat (go_big_quiet_step (fail))
          refine wpQuiet_nil ?_
          refine mix_call 53 #[.slice asx S.length cs, .string x] (.int .i64 (pp : Nat)) rfl (fun w' hw => ?_) (fun w' hw => ?_) ?_
          · go_simp
          · obtain ⟨pq, rfl⟩ := hw
            have T := rplace_any (tw wr (.cells #[.int .i64 (pp : Nat)] 3) pq.d pq.q) asx cs S x (hide ((hS.out.below HH.out.dw).below (tw_below wr _ _ _))) hls
            rw [HP.out] at T
            exact T
          refine mix_nil ?_
          refine ⟨rfl, .slice (some ⟨wr.heap.size, 0, none⟩) 1 1, fun d => ?_, fun d => ?_⟩
          · go_simp
          · refine japp_row2 (HH.out.drewN d) (pp : Nat) rfl _ _ rfl rfl rfl (by omega) ?_
            intro a5 c5 w3 kc fc NS
            go_wp2_with fail
            exact ⟨⟨k + 1, _, by omega, by go_num, hide (by rw [HN.out]; exact NS.out)⟩, by simp [intOf]; omega⟩
        · have i2 : ¬ (k : Int) < (F.length : Int) := by omega
          obtain rfl : k = F.length := by omega
          rw [List.take_length] at HH
          have hFl : (fiF S F).length = F.length := fi_len S F
          obtain ⟨Fi, hFi⟩ : ∃ Fi, fiF S F = Fi := ⟨_, rfl⟩
          rw [hFi] at HH hFl
          have HFI := hide hFi
          have k4 : wr.cell? ⟨w.heap.size, 4, none⟩ = some (.slice ar R.length cr) := cell_of HH.out.bf rfl
          clear TA hFi hFl
          go_wp2_with fail
          clear k4 k3
          go_loopw [11] (fun i wr => ∃ (k : Nat) (v1 v3 : Value), k ≤ R.length ∧ i = .int .i64 k ∧ Hid (AtJ w g #[.string ti, .slice ao O.length co, .slice asx S.length cs, .slice af F.length cf, .slice ar R.length cr] S.length Y.length (.slice ay Y.length cy) Y wr v1 v2 v3 (stF S (R.take k)) Fi (edF S Y (R.take k)))) (fun i _ => R.length - (intOf i).toNat)
          case atStart => exact ⟨0, _, _, Nat.zero_le _, rfl, hide (by simpa [stF, edF] using HH.out)⟩
          case round =>
            obtain ⟨k, v1, v3, hk, rfl, HI⟩ := hrel
            clear HH
            have hsl := st_len S (R.take k)
            have hel := ed_len S Y (R.take k)
            rw [List.length_take] at hsl hel
            obtain ⟨St, hSt⟩ : ∃ St, stF S (R.take k) = St := ⟨_, rfl⟩
            obtain ⟨Ed, hEd⟩ : ∃ Ed, edF S Y (R.take k) = Ed := ⟨_, rfl⟩
            rw [hSt] at hsl HI
            rw [hEd] at hel HI
            have k4 : wr.cell? ⟨w.heap.size, 4, none⟩ = some (.slice ar R.length cr) := cell_of HI.out.bf rfl
            by_cases hlt : k < R.length
            · have i2 : (k : Int) < (R.length : Int) := by omega
              have i3' : (0 : Int) ≤ (k : Int) := by omega
              obtain ⟨bR, oR, rfl, q0, q1, q2⟩ := (hR.out.on (hide HI.out.dw).out) k hlt
              have HN1 := hide (st_next (S := S) (List.getElem?_eq_getElem hlt))
              have HN2 := hide (ed_next (S := S) (Y := Y) (List.getElem?_eq_getElem hlt))
              rw [hSt] at HN1
              rw [hEd] at HN2
              have hmo := HAO.out.2.1 _ (List.getElem_mem hlt)
              obtain ⟨r, hr⟩ : ∃ r, R[k] = r := ⟨_, rfl⟩
              rw [hr] at q0 q1 q2 HN1 HN2 hmo
              obtain ⟨a, x, y⟩ := r
              simp only at q0 q1 q2 hmo
              have HPY := hide (plc_pos hmo.1)
              obtain ⟨py, hpy⟩ : ∃ p, posOf S y = p := ⟨_, rfl⟩
              rw [hpy] at HPY
              have hmp := hide hmo.2
              obtain ⟨a1, d1, rfl⟩ := rowForm HI.out.tri.o1
              obtain ⟨a3, d3, rfl⟩ := rowForm HI.out.tri.o3
              clear hmo hr hSt hEd
              go_upto_region 19 with fail
              obtain ⟨X1, hX1⟩ : ∃ X1, wr.alloc (.cells #[.string a, .string x, .string y] 68) = X1 := ⟨_, rfl⟩
              rw [hX1]
              have HA1 : Hid (AtJ w g #[.string ti, .slice ao O.length co, .slice asx S.length cs, .slice af F.length cf, .slice (some ⟨bR, oR, none⟩) R.length cr] S.length Y.length (.slice ay Y.length cy) Y X1 (.slice a1 St.length d1) v2 (.slice a3 Ed.length d3) St Fi Ed) := hide (by rw [← hX1]; exact HI.out.below ((Below.refl _ wr).alloc (Nat.le_refl _) _))
              have hrb : X1.heap[wr.heap.size]? = some (.cells #[.string a, .string x, .string y] 68 (0, 0)) := by rw [← hX1]; exact World.alloc_heap_new _ _
              have e0 : X1.cell? ⟨wr.heap.size, 0, none⟩ = some (.string a) := cell_of hrb rfl
              have e1 : X1.cell? ⟨wr.heap.size, 1, none⟩ = some (.string x) := cell_of hrb rfl
              have e2 : X1.cell? ⟨wr.heap.size, 2, none⟩ = some (.string y) := cell_of hrb rfl
              obtain ⟨bX, hbX⟩ : ∃ b, wr.heap.size = b := ⟨_, rfl⟩
              rw [hbX] at e0 e1 e2
              rw [hbX]
              clear hrb hX1 q0 q1 q2 hbX k4 HI
              by_cases hx : x = ⟨#[]⟩
              · subst hx
                have HS : Hid (isSt (a, ⟨#[]⟩, y) = true) := hide rfl
                rw [HS.out] at HN1 HN2
                simp only [if_true, hpy, List.append_nil] at HN1 HN2
                clear hpy
                go_upto_region 20 with fail
                have t1 := tw_cell (show X1.cell? ⟨g, 2, none⟩ = some (.slice a1 St.length d1) from cell_of HA1.out.tri.blk rfl) (.cells #[.int .i64 (py : Nat)] 3)
                have t2 := tw_cell (show X1.cell? ⟨w.heap.size, 2, none⟩ = some (.slice asx S.length cs) from cell_of HA1.out.bf rfl) (.cells #[.int .i64 (py : Nat)] 3)
                have t3 := tw_cell e2 (.cells #[.int .i64 (py : Nat)] 3)
                clear e0 e1 e2
                refine wp_region_alloc 7 #[true, true, true, true, true, true, true, true, false, false, false] _ (.cells #[.int .i64 (py : Nat)] 3) (by kernel_rfl) (by kernel_rfl) rfl ?_
                simp only [List.take_succ_cons, List.take_zero, List.drop_succ_cons, List.drop_zero]
                refine mix_take 6 (by kernel_rfl) ?_
                simp only [List.take_succ_cons, List.take_zero, List.drop_succ_cons, List.drop_zero]
                repeat (go_big_quiet_step (fail))
                refine wpQuiet_nil ?_
                refine mix_call 53 #[.slice asx S.length cs, .string y] (.int .i64 (py : Nat)) rfl (fun w' hw => ?_) (fun w' hw => ?_) ?_
                · go_simp
                · obtain ⟨pq, rfl⟩ := hw
                  have T := rplace_any (tw X1 (.cells #[.int .i64 (py : Nat)] 3) pq.d pq.q) asx cs S y (hide ((hS.out.below HA1.out.dw).below (tw_below X1 _ _ _))) hls
                  rw [HPY.out] at T
                  exact T
                refine mix_nil ?_
                refine ⟨rfl, .slice (some ⟨X1.heap.size, 0, none⟩) 1 1, fun d => ?_, fun d => ?_⟩
                · go_simp
                · refine japp_row1 (HA1.out.drewN d) (py : Nat) rfl _ _ rfl rfl rfl (by omega) ?_
                  intro a5 c5 w3 kc fc NS
                  go_wp2_with fail
                  exact ⟨⟨k + 1, _, _, by omega, by go_num, hide (by rw [HN1.out, HN2.out]; exact NS.out)⟩, by simp [intOf]; omega⟩
              · have e3 : (x.toList.isEmpty) = false := by have := str_empty x; rw [decide_eq_false hx] at this; simpa using this
                have HS : Hid (isSt (a, x, y) = false) := hide (by simp [isSt, hx])
                have HPX := hide (plc_pos (hmp.out HS.out).1)
                have HPA := hide (plc_pos (hmp.out HS.out).2)
                obtain ⟨px, hpx⟩ : ∃ p, posOf S x = p := ⟨_, rfl⟩
                obtain ⟨pa, hpa⟩ : ∃ p, posOf Y a = p := ⟨_, rfl⟩
                rw [hpx] at HPX
                rw [hpa] at HPA
                rw [HS.out] at HN1 HN2
                simp only [Bool.false_eq_true, if_false, hpy, hpx, hpa, List.append_nil] at HN1 HN2
                clear hpy hpx hpa
                go_upto_region 21 with fail
                have HB6 : Hid (∃ b : Obj, Obj.cells #[.int .i64 (px : Nat), .int .i64 (pa : Nat), .int .i64 (py : Nat)] 64 = b) := hide ⟨_, rfl⟩
                have t1 := tw_cell (show X1.cell? ⟨g, 4, none⟩ = some (.slice a3 Ed.length d3) from cell_of HA1.out.tri.blk rfl) (.cells #[.int .i64 (px : Nat), .int .i64 (pa : Nat), .int .i64 (py : Nat)] 64)
                have t2 := tw_cell (show X1.cell? ⟨w.heap.size, 2, none⟩ = some (.slice asx S.length cs) from cell_of HA1.out.bf rfl) (.cells #[.int .i64 (px : Nat), .int .i64 (pa : Nat), .int .i64 (py : Nat)] 64)
                have t3 := tw_cell e0 (.cells #[.int .i64 (px : Nat), .int .i64 (pa : Nat), .int .i64 (py : Nat)] 64)
                have t4 := tw_cell e1 (.cells #[.int .i64 (px : Nat), .int .i64 (pa : Nat), .int .i64 (py : Nat)] 64)
                have t5 := tw_cell e2 (.cells #[.int .i64 (px : Nat), .int .i64 (pa : Nat), .int .i64 (py : Nat)] 64)
                obtain ⟨_, _, eqy, hry⟩ := rdS_of HA1.out.oy
                cases eqy
                have HRY := hide hry
                clear e0 e1 e2 HB6 hry
                refine wp_region_alloc 17 #[true, true, true, true, true, true, true, true, true, true, true, true, true, true, true, true, true, true, false, false, false] _ (.cells #[.int .i64 (px : Nat), .int .i64 (pa : Nat), .int .i64 (py : Nat)] 64) (by kernel_rfl) (by kernel_rfl) rfl ?_
                simp only [List.take_succ_cons, List.take_zero, List.drop_succ_cons, List.drop_zero]
                refine mix_take 6 (by kernel_rfl) ?_
                simp only [List.take_succ_cons, List.take_zero, List.drop_succ_cons, List.drop_zero]
                repeat (go_big_quiet_step (fail))
                refine wpQuiet_nil ?_
                refine mix_call 53 #[.slice asx S.length cs, .string x] (.int .i64 (px : Nat)) rfl (fun w' hw => ?_) (fun w' hw => ?_) ?_
                · go_simp
                · obtain ⟨pq, rfl⟩ := hw
                  have T := rplace_any (tw X1 (.cells #[.int .i64 (px : Nat), .int .i64 (pa : Nat), .int .i64 (py : Nat)] 64) pq.d pq.q) asx cs S x (hide ((hS.out.below HA1.out.dw).below (tw_below X1 _ _ _))) hls
                  rw [HPX.out] at T
                  exact T
                simp only [Act.put, List.setIfInBounds_toArray, List.set_cons_succ, List.set_cons_zero]
                refine mix_take 3 (by kernel_rfl) ?_
                simp only [List.take_succ_cons, List.take_zero, List.drop_succ_cons, List.drop_zero]
                repeat (go_big_quiet_step (fail))
                refine wpQuiet_nil ?_
                refine mix_call 53 #[.slice ay Y.length cy, .string a] (.int .i64 (pa : Nat)) rfl (fun w' hw => ?_) (fun w' hw => ?_) ?_
                · go_simp
                · obtain ⟨pq, rfl⟩ := hw
                  have T := rplace_any (tw X1 (.cells #[.int .i64 (px : Nat), .int .i64 (pa : Nat), .int .i64 (py : Nat)] 64) pq.d pq.q) ay cy Y a (hide (HRY.out.below (tw_below X1 _ _ _))) hly
                  rw [HPA.out] at T
                  exact T
                simp only [Act.put, List.setIfInBounds_toArray, List.set_cons_succ, List.set_cons_zero]
                refine mix_take 4 (by kernel_rfl) ?_
                simp only [List.take_succ_cons, List.take_zero, List.drop_succ_cons, List.drop_zero]
                repeat (go_big_quiet_step (fail))
                refine wpQuiet_nil ?_
                refine mix_call 53 #[.slice asx S.length cs, .string y] (.int .i64 (py : Nat)) rfl (fun w' hw => ?_) (fun w' hw => ?_) ?_
                · go_simp
                · obtain ⟨pq, rfl⟩ := hw
                  have T := rplace_any (tw X1 (.cells #[.int .i64 (px : Nat), .int .i64 (pa : Nat), .int .i64 (py : Nat)] 64) pq.d pq.q) asx cs S y (hide ((hS.out.below HA1.out.dw).below (tw_below X1 _ _ _))) hls
                  rw [HPY.out] at T
                  exact T
                simp only [Act.put, List.setIfInBounds_toArray, List.set_cons_succ, List.set_cons_zero]
                refine mix_take 1 (by kernel_rfl) ?_
                simp only [List.take_succ_cons, List.take_zero, List.drop_succ_cons, List.drop_zero]
                repeat (go_big_quiet_step (fail))
                refine wpQuiet_nil ?_
                refine mix_nil ?_
                refine ⟨rfl, .slice (some ⟨X1.heap.size, 0, none⟩) 1 1, fun d => ?_, fun d => ?_⟩
                · go_simp
                · refine japp_row3 (HA1.out.drewN d) ((px : Nat), (pa : Nat), (py : Nat)) rfl _ _ rfl rfl rfl (by omega) ?_
                  intro a5 c5 w3 kc fc NS
                  go_wp2_with fail
                  exact ⟨⟨k + 1, _, _, by omega, by go_num, hide (by rw [HN1.out, HN2.out]; exact NS.out)⟩, by simp [intOf]; omega⟩
            · have i2 : ¬ (k : Int) < (R.length : Int) := by omega
              obtain rfl : k = R.length := by omega
              rw [List.take_length] at hSt hEd
              have HSE := hide (And.intro hSt hEd)
              obtain ⟨a2, d2, rfl, _⟩ := rdN_of (X := Fi) HI.out.tri.o2
              obtain ⟨a1, d1, rfl, RN⟩ := rdN_of (X := St) HI.out.tri.o1
              obtain ⟨a3, d3, rfl, _⟩ := rdE_of (X := Ed) HI.out.tri.o3
              have HSB : Hid (∀ z ∈ St, 0 ≤ z ∧ z < (S.length : Int)) := hide (by
                intro z hz
                rw [← hSt] at hz
                obtain ⟨r, hr, rfl⟩ := List.mem_map.1 hz
                obtain ⟨p, hi, _, hp⟩ := posAt (HAO.out.2.1 r (List.mem_filter.1 hr).1).1
                rw [hp]
                omega)
              have HED : Hid (Ed.Nodup) := hide (by rw [← hEd]; exact HAO.out.2.2)
              have HEL : Hid (Ed.length = (R.filter fun r => !isSt r).length) := hide (by rw [← hEd, ed_lenE])
              have c2 : wr.cell? ⟨g, 2, none⟩ = some (.slice a1 St.length d1) := cell_of HI.out.tri.blk rfl
              have c0 : wr.cell? ⟨g, 0, none⟩ = some (.int .i64 (S.length : Nat)) := cell_of HI.out.tri.blk rfl
              have T48 := rrising_any wr a1 d1 S.length St (hide RN) HSB (by omega) hls
              rw [up_rise HSB.out] at T48
              clear hSt hEd RN
              go_upto_region 23 with (go_at_call 48; refine T48.mono ?_; rintro e w5 ⟨v', rfl, ho, d5⟩; obtain ⟨a6, d6, rfl⟩ := rowForm ho; have hG : Grw wr w5 (.slice a1 St.length d1) (.slice a6 (riseL St).length d6) := ⟨Only.ofBelow d5, fun k q => .inr (ho.lt k q).1⟩; have ho2 : w5.ownsRow (g + 1) (rI (riseL St)).e (rI (riseL St)).sz (.slice a6 (riseL St).length d6) (rI (riseL St)).n (rI (riseL St)).xs := own_wide ho (by have := HI.out.tri.glt; omega); have hbx := HI.out.tri.box hG.1 (fun k z => .inl z); have NS := hide (HI.out.step (HI.out.tri.row1 hG ho2)); have kc : w5.cell? ⟨g, 2, none⟩ = some (.slice a1 St.length d1) := cell_of hbx rfl; have fc : w5.frozen? ⟨g, 2, none⟩ = false := fz_of hbx; clear hbx ho ho2 hG d5)
              obtain ⟨Z, hZ⟩ : ∃ Z, w5.setCell ⟨g, 2, none⟩ (.slice a6 (riseL St).length d6) = Z := ⟨_, rfl⟩
              rw [hZ] at NS ⊢
              have c4 : Z.cell? ⟨g, 4, none⟩ = some (.slice a3 Ed.length d3) := cell_of NS.out.tri.blk rfl
              obtain ⟨_, _, eqe, hre⟩ := rdE_of (X := Ed) NS.out.tri.o3
              cases eqe
              have T49 := redges_any Z a3 d3 Ed (hide hre) (by omega)
              clear hZ kc fc c2 c0 HI T48 hre
              go_upto_region 24 with (go_at_call 49; refine T49.mono ?_; rintro e w6 ⟨v', rfl, hE⟩; obtain ⟨Oe, ho, hss, hmm, hlen, d6'⟩ := hE; obtain rfl : Oe = sortE Ed := sort_is HED.out hss hmm; obtain ⟨a7, d7, rfl⟩ := rowForm ho; have hG : Grw Z w6 (.slice a3 Ed.length d3) (.slice a7 (sortE Ed).length d7) := ⟨Only.ofBelow d6', fun k q => .inr (ho.lt k q).1⟩; have ho2 : w6.ownsRow (g + 1) (rE (sortE Ed)).e (rE (sortE Ed)).sz (.slice a7 (sortE Ed).length d7) (rE (sortE Ed)).n (rE (sortE Ed)).xs := own_wide ho (by have := NS.out.tri.glt; omega); have hbx := NS.out.tri.box hG.1 (fun k z => .inr (.inr z)); have NT := hide (NS.out.step (NS.out.tri.row3 hG ho2)); have kc : w6.cell? ⟨g, 4, none⟩ = some (.slice a3 Ed.length d3) := cell_of hbx rfl; have fc : w6.frozen? ⟨g, 4, none⟩ = false := fz_of hbx; clear hbx ho ho2 hG d6' hss hmm hlen)
              obtain ⟨Z2, hZ2⟩ : ∃ Z, w6.setCell ⟨g, 4, none⟩ (.slice a7 (sortE Ed).length d7) = Z := ⟨_, rfl⟩
              rw [hZ2] at NT ⊢
              clear hZ2 kc fc c4 T49 NS
              have HBE : Hid (bigF O S R ↔ 4096 < S.length ∨ 128 < Y.length ∨ 65536 < (sortE Ed).length) := hide (by unfold bigF; rw [HY.out, sortE_len, HEL.out])
              have n0 : Z2.cell? ⟨g, 0, none⟩ = some (.int .i64 (S.length : Nat)) := cell_of NT.out.tri.blk rfl
              have n1 : Z2.cell? ⟨g, 1, none⟩ = some (.int .i64 (Y.length : Nat)) := cell_of NT.out.tri.blk rfl
              have n4 : Z2.cell? ⟨g, 4, none⟩ = some (.slice a7 (sortE Ed).length d7) := cell_of NT.out.tri.blk rfl
              by_cases hs : 4096 < S.length
              · have i1 : (4096 : Int) < (S.length : Int) := by omega
                have HBIG := hide (HBE.out.2 (.inl hs))
                go_upto_region 25 with fail
                have z0 : Z2.cell? ⟨w.heap.size + 1, 0, none⟩ = some (.int .i64 0) := cell_of NT.out.br rfl
                have z1 : Z2.cell? ⟨w.heap.size + 1, 1, none⟩ = some (.int .i64 0) := cell_of NT.out.br rfl
                have z2 : Z2.cell? ⟨w.heap.size + 1, 2, none⟩ = some (.slice none 0 0) := cell_of NT.out.br rfl
                have z3 : Z2.cell? ⟨w.heap.size + 1, 3, none⟩ = some (.slice none 0 0) := cell_of NT.out.br rfl
                have z4 : Z2.cell? ⟨w.heap.size + 1, 4, none⟩ = some (.slice none 0 0) := cell_of NT.out.br rfl
                have f0 : Z2.frozen? ⟨w.heap.size + 1, 0, none⟩ = false := fz_of NT.out.br
                have f1 : Z2.frozen? ⟨w.heap.size + 1, 1, none⟩ = false := fz_of NT.out.br
                have f2 : Z2.frozen? ⟨w.heap.size + 1, 2, none⟩ = false := fz_of NT.out.br
                have f3 : Z2.frozen? ⟨w.heap.size + 1, 3, none⟩ = false := fz_of NT.out.br
                have f4 : Z2.frozen? ⟨w.heap.size + 1, 4, none⟩ = false := fz_of NT.out.br
                have HZ := hide (set5 Z2 (w.heap.size + 1) _ _ _ _ _ (.int .i64 0) (.int .i64 0) (.slice none 0 0) (.slice none 0 0) (.slice none 0 0) 25 NT.out.br)
                go_wp2
                refine bodyPost_ret (results_c4 (p := 2) (q := 3) (r := 4) (s := 5) (ty := 25) rfl _ _ (w.heap.size + 1) 25 _ (0, 0) _ _ _ _ rfl rfl rfl rfl HZ.out.1 Tryz.underlying25 rfl (by kernel_rfl)) rfl ?_
                exact ⟨fun _ => ⟨rfl, NT.out.dw.trans (HZ.out.2.toBelow NT.out.dw.size fun k z => by omega)⟩, fun h => absurd HBIG.out h⟩
              · have i1 : ¬ (4096 : Int) < (S.length : Int) := by omega
                by_cases hy : 128 < Y.length
                · have i2 : (128 : Int) < (Y.length : Int) := by omega
                  have HBIG := hide (HBE.out.2 (.inr (.inl hy)))
                  go_upto_region 25 with fail
                  have z0 : Z2.cell? ⟨w.heap.size + 1, 0, none⟩ = some (.int .i64 0) := cell_of NT.out.br rfl
                  have z1 : Z2.cell? ⟨w.heap.size + 1, 1, none⟩ = some (.int .i64 0) := cell_of NT.out.br rfl
                  have z2 : Z2.cell? ⟨w.heap.size + 1, 2, none⟩ = some (.slice none 0 0) := cell_of NT.out.br rfl
                  have z3 : Z2.cell? ⟨w.heap.size + 1, 3, none⟩ = some (.slice none 0 0) := cell_of NT.out.br rfl
                  have z4 : Z2.cell? ⟨w.heap.size + 1, 4, none⟩ = some (.slice none 0 0) := cell_of NT.out.br rfl
                  have f0 : Z2.frozen? ⟨w.heap.size + 1, 0, none⟩ = false := fz_of NT.out.br
                  have f1 : Z2.frozen? ⟨w.heap.size + 1, 1, none⟩ = false := fz_of NT.out.br
                  have f2 : Z2.frozen? ⟨w.heap.size + 1, 2, none⟩ = false := fz_of NT.out.br
                  have f3 : Z2.frozen? ⟨w.heap.size + 1, 3, none⟩ = false := fz_of NT.out.br
                  have f4 : Z2.frozen? ⟨w.heap.size + 1, 4, none⟩ = false := fz_of NT.out.br
                  have HZ := hide (set5 Z2 (w.heap.size + 1) _ _ _ _ _ (.int .i64 0) (.int .i64 0) (.slice none 0 0) (.slice none 0 0) (.slice none 0 0) 25 NT.out.br)
                  go_wp2
                  refine bodyPost_ret (results_c4 (p := 2) (q := 3) (r := 4) (s := 5) (ty := 25) rfl _ _ (w.heap.size + 1) 25 _ (0, 0) _ _ _ _ rfl rfl rfl rfl HZ.out.1 Tryz.underlying25 rfl (by kernel_rfl)) rfl ?_
                  exact ⟨fun _ => ⟨rfl, NT.out.dw.trans (HZ.out.2.toBelow NT.out.dw.size fun k z => by omega)⟩, fun h => absurd HBIG.out h⟩
                · have i2 : ¬ (128 : Int) < (Y.length : Int) := by omega
                  by_cases he : 65536 < (sortE Ed).length
                  · have i3 : (65536 : Int) < ((sortE Ed).length : Int) := by omega
                    have HBIG := hide (HBE.out.2 (.inr (.inr he)))
                    go_upto_region 25 with fail
                    have z0 : Z2.cell? ⟨w.heap.size + 1, 0, none⟩ = some (.int .i64 0) := cell_of NT.out.br rfl
                    have z1 : Z2.cell? ⟨w.heap.size + 1, 1, none⟩ = some (.int .i64 0) := cell_of NT.out.br rfl
                    have z2 : Z2.cell? ⟨w.heap.size + 1, 2, none⟩ = some (.slice none 0 0) := cell_of NT.out.br rfl
                    have z3 : Z2.cell? ⟨w.heap.size + 1, 3, none⟩ = some (.slice none 0 0) := cell_of NT.out.br rfl
                    have z4 : Z2.cell? ⟨w.heap.size + 1, 4, none⟩ = some (.slice none 0 0) := cell_of NT.out.br rfl
                    have f0 : Z2.frozen? ⟨w.heap.size + 1, 0, none⟩ = false := fz_of NT.out.br
                    have f1 : Z2.frozen? ⟨w.heap.size + 1, 1, none⟩ = false := fz_of NT.out.br
                    have f2 : Z2.frozen? ⟨w.heap.size + 1, 2, none⟩ = false := fz_of NT.out.br
                    have f3 : Z2.frozen? ⟨w.heap.size + 1, 3, none⟩ = false := fz_of NT.out.br
                    have f4 : Z2.frozen? ⟨w.heap.size + 1, 4, none⟩ = false := fz_of NT.out.br
                    have HZ := hide (set5 Z2 (w.heap.size + 1) _ _ _ _ _ (.int .i64 0) (.int .i64 0) (.slice none 0 0) (.slice none 0 0) (.slice none 0 0) 25 NT.out.br)
                    go_wp2
                    refine bodyPost_ret (results_c4 (p := 2) (q := 3) (r := 4) (s := 5) (ty := 25) rfl _ _ (w.heap.size + 1) 25 _ (0, 0) _ _ _ _ rfl rfl rfl rfl HZ.out.1 Tryz.underlying25 rfl (by kernel_rfl)) rfl ?_
                    exact ⟨fun _ => ⟨rfl, NT.out.dw.trans (HZ.out.2.toBelow NT.out.dw.size fun k z => by omega)⟩, fun h => absurd HBIG.out h⟩
                  · have i3 : ¬ (65536 : Int) < ((sortE Ed).length : Int) := by omega
                    have HNB : Hid (¬ bigF O S R) := hide (fun h => by rcases HBE.out.1 h with z | z | z <;> omega)
                    have c2 : Z2.cell? ⟨w.heap.size, 2, none⟩ = some (.slice asx S.length cs) := cell_of NT.out.bf rfl
                    go_upto_region 28 with (at_builtin; refine app_all (hS.out.below NT.out.dw) hls rfl _ _ rfl rfl rfl ?_; intro vs w7 hvs d8)
                    obtain ⟨ax, dx, rfl⟩ := rowForm hvs
                    have HVD := hide (And.intro hvs d8)
                    clear n0 n1 n4 c2 hvs d8
                    have NF := hide (NT.out.below HVD.out.2)
                    have n0 : w7.cell? ⟨g, 0, none⟩ = some (.int .i64 (S.length : Nat)) := cell_of NF.out.tri.blk rfl
                    have n1 : w7.cell? ⟨g, 1, none⟩ = some (.int .i64 (Y.length : Nat)) := cell_of NF.out.tri.blk rfl
                    have n2 : w7.cell? ⟨g, 2, none⟩ = some (.slice a6 (riseL St).length d6) := cell_of NF.out.tri.blk rfl
                    have n3 : w7.cell? ⟨g, 3, none⟩ = some (.slice a2 Fi.length d2) := cell_of NF.out.tri.blk rfl
                    have n4 : w7.cell? ⟨g, 4, none⟩ = some (.slice a7 (sortE Ed).length d7) := cell_of NF.out.tri.blk rfl
                    have o0 : w7.cell? ⟨w.heap.size + 1, 0, none⟩ = some (.int .i64 0) := cell_of NF.out.br rfl
                    have o1 : w7.cell? ⟨w.heap.size + 1, 1, none⟩ = some (.int .i64 0) := cell_of NF.out.br rfl
                    have o2 : w7.cell? ⟨w.heap.size + 1, 2, none⟩ = some (.slice none 0 0) := cell_of NF.out.br rfl
                    have o3 : w7.cell? ⟨w.heap.size + 1, 3, none⟩ = some (.slice none 0 0) := cell_of NF.out.br rfl
                    have o4 : w7.cell? ⟨w.heap.size + 1, 4, none⟩ = some (.slice none 0 0) := cell_of NF.out.br rfl
                    have f0 : w7.frozen? ⟨w.heap.size + 1, 0, none⟩ = false := fz_of NF.out.br
                    have f1 : w7.frozen? ⟨w.heap.size + 1, 1, none⟩ = false := fz_of NF.out.br
                    have f2 : w7.frozen? ⟨w.heap.size + 1, 2, none⟩ = false := fz_of NF.out.br
                    have f3 : w7.frozen? ⟨w.heap.size + 1, 3, none⟩ = false := fz_of NF.out.br
                    have f4 : w7.frozen? ⟨w.heap.size + 1, 4, none⟩ = false := fz_of NF.out.br
                    have HZ := hide (set5 w7 (w.heap.size + 1) _ _ _ _ _ (.int .i64 (S.length : Nat)) (.int .i64 (Y.length : Nat)) (.slice a6 (riseL St).length d6) (.slice a2 Fi.length d2) (.slice a7 (sortE Ed).length d7) 25 NF.out.br)
                    go_wp2
                    refine bodyPost_ret (results_c4 (p := 2) (q := 3) (r := 4) (s := 5) (ty := 25) rfl _ _ (w.heap.size + 1) 25 _ (0, 0) _ (.slice ax S.length dx) (.slice ay Y.length cy) (.int .i64 0) rfl rfl rfl rfl HZ.out.1 Tryz.underlying25 rfl (by kernel_rfl)) rfl ?_
                    obtain ⟨eS, eE⟩ := HSE.out
                    have Q := raj_end NT.out HVD.out.1 HVD.out.2 HZ.out.2
                    refine ⟨fun h => absurd h HNB.out, fun _ => ?_⟩
                    rw [HY.out, eS, eE, HFI.out]
                    exact ⟨_, _, _, _, _, rfl, Q⟩
end Go.Proofs.YtmagchclmmphaabGreatDoor
namespace Go.Proofs.YtmagchclmmphaabGreatDoor
open Go.RowKit Go.Maps
attribute [local go_sem] Oper.semAt_some

/-! ### What both answer of a content -/
structure AuV where
  n : Nat
  m : Nat
  St : List Int
  Fi : List Int
  Ed : List EdT
  Sx : List ByteArray
  Yx : List ByteArray
  er : Nat
open Classical in
noncomputable def auV (ti : ByteArray) (O : List OpI) (S F : List ByteArray) (R : List RuT) : AuV :=
  if valF ti O S F R = false then ⟨0, 0, [], [], [], [], [], 5⟩ else if bigF O S R then ⟨0, 0, [], [], [], [], [], 8⟩ else ⟨S.length, (symF O).length, riseL (stF S R), fiF S F, sortE (edF S (symF O) R), S, symF O, 0⟩
structure AnR (w' : World) (V : AuV) (a1 a2 a3 a4 a5 : Option Addr) : Prop where
  r1 : RdN w' a1 V.St
  r2 : RdN w' a2 V.Fi
  r3 : RdE w' a3 V.Ed
  r4 : ReadsS w' a4 V.Sx
  r5 : ReadsS w' a5 V.Yx
theorem AnR.on {W W' : World} {V : AuV} {a1 a2 a3 a4 a5 : Option Addr} (h : AnR W V a1 a2 a3 a4 a5) (d : Below W.heap.size W W') : AnR W' V a1 a2 a3 a4 a5 := ⟨h.r1.on d, h.r2.on d, h.r3.on d, h.r4.below d, h.r5.below d⟩
def AnA (w w' : World) (V : AuV) (e : Ending) : Prop := ∃ a1 a2 a3 a4 a5 a1c a2c a3c a4c a5c, e = .returned (.tuple #[.agg #[.int .i64 (V.n : Nat), .int .i64 (V.m : Nat), .slice a1 V.St.length a1c, .slice a2 V.Fi.length a2c, .slice a3 V.Ed.length a3c], .slice a4 V.Sx.length a4c, .slice a5 V.Yx.length a5c, .int .i64 (V.er : Nat)]) ∧ AnR w' V a1 a2 a3 a4 a5 ∧ Below w.heap.size w w'
theorem AnR.nil (w : World) (x : Nat) : AnR w ⟨0, 0, [], [], [], [], [], x⟩ none none none none none := ⟨fun j h => absurd h (Nat.not_lt_zero j), fun j h => absurd h (Nat.not_lt_zero j), fun j h => absurd h (Nat.not_lt_zero j), fun j h => absurd h (Nat.not_lt_zero j), fun j h => absurd h (Nat.not_lt_zero j)⟩
theorem AnA.nil {w w' : World} (x : Nat) (d : Below w.heap.size w w') : AnA w w' ⟨0, 0, [], [], [], [], [], x⟩ (.returned (.tuple #[.agg #[.int .i64 0, .int .i64 0, .slice none 0 0, .slice none 0 0, .slice none 0 0], .slice none 0 0, .slice none 0 0, .int .i64 (x : Nat)])) :=
  ⟨none, none, none, none, none, 0, 0, 0, 0, 0, rfl, AnR.nil _ x, d⟩
theorem AnA.of {w w' : World} {v1 v2 v3 vs vy : Value} {St Fi : List Int} {Ed : List EdT} {S Y : List ByteArray} {n m : Nat} (h : AtR w w' v1 v2 v3 St Fi Ed) (hs : w'.ownsRow w.heap.size 9 1 vs S.length (strV S)) (hy : w'.ownsRow w.heap.size 9 1 vy Y.length (strV Y)) :
    AnA w w' ⟨n, m, St, Fi, Ed, S, Y, 0⟩ (.returned (.tuple #[.agg #[.int .i64 (n : Nat), .int .i64 (m : Nat), v1, v2, v3], vs, vy, .int .i64 0])) := by
  obtain ⟨a1, c1, rfl, h1⟩ := rdN_of h.o1
  obtain ⟨a2, c2, rfl, h2⟩ := rdN_of h.o2
  obtain ⟨a3, c3, rfl, h3⟩ := rdE_of h.o3
  obtain ⟨a4, c4, rfl, h4⟩ := rdS_of hs
  obtain ⟨a5, c5, rfl, h5⟩ := rdS_of hy
  exact ⟨a1, a2, a3, a4, a5, c1, c2, c3, c4, c5, rfl, ⟨h1, h2, h3, h4, h5⟩, h.dw⟩
theorem autoP_any (w : World) (ti : ByteArray) (ao asx af ar : Option Addr) (co cs cf cr : Nat) (O : List OpI) (S F : List ByteArray) (R : List RuT) (hT : Hid (BytesAt w ∧ 1 < w.heap.size)) (hO : Hid (RdO w ao O)) (hS : Hid (ReadsS w asx S)) (hF : Hid (ReadsS w af F)) (hR : Hid (RdRu w ar R))
    (hok : Hid ((∀ x ∈ F, kText.ok x) ∧ ∀ x ∈ R, kRules.ok x)) (hlo : O.length ≤ 4194304) (hls : S.length ≤ 4194304) (hlf : F.length ≤ 4194304) (hlr : R.length ≤ 4194304) :
    Calls Tryz.prog 14 #[.agg #[.string ti, .slice ao O.length co, .slice asx S.length cs, .slice af F.length cf, .slice ar R.length cr]] w fun e w' => AnA w w' (auV ti O S F R) e := by
  unfold auV
  by_cases hv : valF ti O S F R = false
  · rw [if_pos hv]
    refine (auto_bad w ti ao asx af ar co cs cf cr O S F R hT hO hS hF hR hok hlo hls hlf hlr hv).mono ?_
    rintro e w' ⟨rfl, d⟩
    exact AnA.nil 5 d
  · rw [if_neg hv]
    have hv' : valF ti O S F R = true := by simpa using hv
    by_cases hb : bigF O S R
    · rw [if_pos hb]
      refine (auto_big w ti ao asx af ar co cs cf cr O S F R hT hO hS hF hR hok hlo hls hlf hlr hv' hb).mono ?_
      rintro e w' ⟨rfl, d⟩
      exact AnA.nil 8 d
    · rw [if_neg hb]
      refine (auto_ok w ti ao asx af ar co cs cf cr O S F R hT hO hS hF hR hok hlo hls hlf hlr hv' hb).mono ?_
      rintro e w' ⟨v1, v2, v3, vs, vy, rfl, h1, h2, h3⟩
      exact AnA.of h1 h2 h3
theorem autoR_any (w : World) (ti : ByteArray) (ao asx af ar : Option Addr) (co cs cf cr : Nat) (O : List OpI) (S F : List ByteArray) (R : List RuT) (hO : Hid (RdO w ao O)) (hS : Hid (ReadsS w asx S)) (hF : Hid (ReadsS w af F)) (hR : Hid (RdRu w ar R))
    (hlo : O.length ≤ 4194304) (hls : S.length ≤ 4194304) (hlf : F.length ≤ 4194304) (hlr : R.length ≤ 4194304) (hco : Hid (O.length ≤ co)) (hcs : Hid (S.length ≤ cs)) :
    Calls Tryz.prog 27 #[.agg #[.string ti, .slice ao O.length co, .slice asx S.length cs, .slice af F.length cf, .slice ar R.length cr]] w fun e w' => AnA w w' (auV ti O S F R) e := by
  unfold auV
  by_cases hv : valF ti O S F R = false
  · rw [if_pos hv]
    refine (rauto_bad w ti ao asx af ar co cs cf cr O S F R hO hS hF hR hlo hls hlf hlr hco hcs hv).mono ?_
    rintro e w' ⟨rfl, d⟩
    exact AnA.nil 5 d
  · rw [if_neg hv]
    have hv' : valF ti O S F R = true := by simpa using hv
    refine (rauto_any w ti ao asx af ar co cs cf cr O S F R hO hS hF hR hlo hls hlf hlr hco hcs hv').mono ?_
    intro e w' h
    by_cases hb : bigF O S R
    · rw [if_pos hb]
      obtain ⟨rfl, d⟩ := h.1 hb
      exact AnA.nil 8 d
    · rw [if_neg hb]
      obtain ⟨v1, v2, v3, vs, vy, rfl, h1, h2, h3⟩ := h.2 hb
      exact AnA.of h1 h2 h3
theorem riseL_le (zs : List Int) : (riseL zs).length ≤ zs.length := by
  unfold riseL Lib.compact Lib.compactUpTo
  rw [List.length_map]
  refine Nat.le_trans (List.length_filter_le _ _) ?_
  rw [List.length_range, List.length_mergeSort]
  exact Nat.le_refl _
theorem auV_len (ti : ByteArray) (O : List OpI) (S F : List ByteArray) (R : List RuT) (hlo : O.length ≤ 4194304) (hls : S.length ≤ 4194304) (hlf : F.length ≤ 4194304) (hlr : R.length ≤ 4194304) : (auV ti O S F R).St.length ≤ 4194304 ∧ (auV ti O S F R).Fi.length ≤ 4194304 ∧ (auV ti O S F R).Ed.length ≤ 4194304 ∧ (auV ti O S F R).Sx.length ≤ 4194304 ∧ (auV ti O S F R).Yx.length ≤ 4194304 := by
  unfold auV
  split
  · simp
  · split
    · simp
    · refine ⟨Nat.le_trans (riseL_le _) (Nat.le_trans (st_len S R) hlr), by rw [fi_len]; exact hlf, by rw [sortE_len]; exact Nat.le_trans (ed_len _ _ _) hlr, hls, ?_⟩
      show (symF O).length ≤ _
      unfold symF
      rw [List.length_map]
      exact Nat.le_trans (List.length_filter_le _ _) hlo
set_option maxRecDepth 100000 in
set_option maxHeartbeats 8000000 in
/-- Both say the same of two contents that are the same. -/
theorem autos_eq (w : World) (ti : ByteArray) (ao asx af ar bo bs bf br : Option Addr) (co cs cf cr eo es ef er : Nat) (O : List OpI) (S F : List ByteArray) (R : List RuT) (hT : Hid (BytesAt w ∧ 1 < w.heap.size)) (hO : Hid (RdO w ao O ∧ RdO w bo O)) (hS : Hid (ReadsS w asx S ∧ ReadsS w bs S)) (hF : Hid (ReadsS w af F ∧ ReadsS w bf F)) (hR : Hid (RdRu w ar R ∧ RdRu w br R))
    (hok : Hid ((∀ x ∈ F, kText.ok x) ∧ ∀ x ∈ R, kRules.ok x)) (hlo : O.length ≤ 4194304) (hls : S.length ≤ 4194304) (hlf : F.length ≤ 4194304) (hlr : R.length ≤ 4194304) (hco : Hid (O.length ≤ eo)) (hcs : Hid (S.length ≤ es)) :
    Calls Tryz.prog 19 #[.agg #[.string ti, .slice ao O.length co, .slice asx S.length cs, .slice af F.length cf, .slice ar R.length cr], .agg #[.string ti, .slice bo O.length eo, .slice bs S.length es, .slice bf F.length ef, .slice br R.length er]] w fun e w' => e = .returned (.bool true) ∧ Below w.heap.size w w' := by
  obtain ⟨V, hV⟩ : ∃ V, auV ti O S F R = V := ⟨_, rfl⟩
  have HL := hide (auV_len ti O S F R hlo hls hlf hlr)
  rw [hV] at HL
  obtain ⟨W0, hW0⟩ : ∃ W0, (w.alloc (.cells #[.string ti, .slice ao O.length co, .slice asx S.length cs, .slice af F.length cf, .slice ar R.length cr] 32)).alloc (.cells #[.string ti, .slice bo O.length eo, .slice bs S.length es, .slice bf F.length ef, .slice br R.length er] 32) = W0 := ⟨_, rfl⟩
  have d0 : Below w.heap.size w W0 := by rw [← hW0]; exact ((Below.refl _ _).alloc (Nat.le_refl _) _).alloc (by simp) _
  have B0 : W0.heap[w.heap.size]? = some (.cells #[.string ti, .slice ao O.length co, .slice asx S.length cs, .slice af F.length cf, .slice ar R.length cr] 32 (0, 0)) := by
    rw [← hW0]; exact (Below.heap_alloc _ _ _ (by simp)).trans (World.alloc_heap_new _ _)
  have B1 : W0.heap[w.heap.size + 1]? = some (.cells #[.string ti, .slice bo O.length eo, .slice bs S.length es, .slice bf F.length ef, .slice br R.length er] 32 (0, 0)) := by
    rw [← hW0]; exact heap_alloc2_new w _ _
  have z0 : w.heap.size + 2 = W0.heap.size := by rw [← hW0]; simp
  have T14 := autoP_any W0 ti ao asx af ar co cs cf cr O S F R (hide ⟨hT.out.1.below d0 hT.out.2, Nat.lt_of_lt_of_le hT.out.2 d0.size⟩) (hide (hO.out.1.on d0)) (hide (hS.out.1.below d0)) (hide (hF.out.1.below d0)) (hide (hR.out.1.on d0)) hok hlo hls hlf hlr
  rw [hV] at T14
  have HD := hide (And.intro d0 (And.intro B1 z0))
  have x0 : W0.cell? ⟨w.heap.size, 0, none⟩ = some (.string ti) := cell_of B0 rfl
  have x1 : W0.cell? ⟨w.heap.size, 1, none⟩ = some (.slice ao O.length co) := cell_of B0 rfl
  have x2 : W0.cell? ⟨w.heap.size, 2, none⟩ = some (.slice asx S.length cs) := cell_of B0 rfl
  have x3 : W0.cell? ⟨w.heap.size, 3, none⟩ = some (.slice af F.length cf) := cell_of B0 rfl
  have x4 : W0.cell? ⟨w.heap.size, 4, none⟩ = some (.slice ar R.length cr) := cell_of B0 rfl
  clear d0 B0 B1 z0
  go_enter Tryz.func19, Tryz.ntmps19
  go_upto_region 2 with (go_at_call 14; refine T14.mono ?_; intro e w1 hA; obtain ⟨a1, a2, a3, a4, a5, a1c, a2c, a3c, a4c, a5c, rfl, hA, d1⟩ := hA)
  obtain ⟨X1, hX1⟩ : ∃ X1, w1.alloc (.cells #[.int .i64 (V.n : Nat), .int .i64 (V.m : Nat), .slice a1 V.St.length a1c, .slice a2 V.Fi.length a2c, .slice a3 V.Ed.length a3c] 25) = X1 := ⟨_, rfl⟩
  rw [hX1]
  have dX1 : Below w1.heap.size w1 X1 := by rw [← hX1]; exact (Below.refl _ _).alloc (Nat.le_refl _) _
  have BX1 : X1.heap[w1.heap.size]? = some (.cells #[.int .i64 (V.n : Nat), .int .i64 (V.m : Nat), .slice a1 V.St.length a1c, .slice a2 V.Fi.length a2c, .slice a3 V.Ed.length a3c] 25 (0, 0)) := by rw [← hX1]; exact World.alloc_heap_new _ _
  have D1 : Below W0.heap.size W0 X1 := d1.trans (dX1.mono d1.size)
  have HA := hide (hA.on dX1)
  have B2 : X1.heap[w.heap.size + 1]? = some (.cells #[.string ti, .slice bo O.length eo, .slice bs S.length es, .slice bf F.length ef, .slice br R.length er] 32 (0, 0)) := (D1.block _ (by have := HD.out.2.2; omega)).trans HD.out.2.1
  have DW := hide (HD.out.1.trans (D1.mono HD.out.1.size))
  obtain ⟨h1, hh1⟩ : ∃ h, w1.heap.size = h := ⟨_, rfl⟩
  rw [hh1] at BX1
  rw [hh1]
  have HBX := hide BX1
  have T27 := autoR_any X1 ti bo bs bf br eo es ef er O S F R (hide (hO.out.2.on DW.out)) (hide (hS.out.2.below DW.out)) (hide (hF.out.2.below DW.out)) (hide (hR.out.2.on DW.out)) hlo hls hlf hlr hco hcs
  rw [hV] at T27
  have y0 : X1.cell? ⟨w.heap.size + 1, 0, none⟩ = some (.string ti) := cell_of B2 rfl
  have y1 : X1.cell? ⟨w.heap.size + 1, 1, none⟩ = some (.slice bo O.length eo) := cell_of B2 rfl
  have y2 : X1.cell? ⟨w.heap.size + 1, 2, none⟩ = some (.slice bs S.length es) := cell_of B2 rfl
  have y3 : X1.cell? ⟨w.heap.size + 1, 3, none⟩ = some (.slice bf F.length ef) := cell_of B2 rfl
  have y4 : X1.cell? ⟨w.heap.size + 1, 4, none⟩ = some (.slice br R.length er) := cell_of B2 rfl
  clear hW0 x0 x1 x2 x3 x4 hA d1 dX1 D1 BX1 B2 hX1 hh1 T14 hV HD
  go_upto_region 3 with (go_at_call 27; refine T27.mono ?_; intro e w2 hB; obtain ⟨b1, b2, b3, b4, b5, b1c, b2c, b3c, b4c, b5c, rfl, hB, d2⟩ := hB)
  obtain ⟨X2, hX2⟩ : ∃ X2, w2.alloc (.cells #[.int .i64 (V.n : Nat), .int .i64 (V.m : Nat), .slice b1 V.St.length b1c, .slice b2 V.Fi.length b2c, .slice b3 V.Ed.length b3c] 25) = X2 := ⟨_, rfl⟩
  rw [hX2]
  have dX2 : Below w2.heap.size w2 X2 := by rw [← hX2]; exact (Below.refl _ _).alloc (Nat.le_refl _) _
  have BX2 : X2.heap[w2.heap.size]? = some (.cells #[.int .i64 (V.n : Nat), .int .i64 (V.m : Nat), .slice b1 V.St.length b1c, .slice b2 V.Fi.length b2c, .slice b3 V.Ed.length b3c] 25 (0, 0)) := by rw [← hX2]; exact World.alloc_heap_new _ _
  have D2 : Below X1.heap.size X1 X2 := d2.trans (dX2.mono d2.size)
  have HB := hide (hB.on dX2)
  have HA2 := hide (HA.out.on D2)
  have BX1 : X2.heap[h1]? = some (.cells #[.int .i64 (V.n : Nat), .int .i64 (V.m : Nat), .slice a1 V.St.length a1c, .slice a2 V.Fi.length a2c, .slice a3 V.Ed.length a3c] 25 (0, 0)) := (D2.block _ (Array.getElem?_eq_some_iff.1 HBX.out).1).trans HBX.out
  have DW2 := hide (DW.out.trans (D2.mono DW.out.size))
  obtain ⟨h2, hh2⟩ : ∃ h, w2.heap.size = h := ⟨_, rfl⟩
  rw [hh2] at BX2
  rw [hh2]
  have x0 : X2.cell? ⟨h1, 0, none⟩ = some (.int .i64 (V.n : Nat)) := cell_of BX1 rfl
  have x1 : X2.cell? ⟨h1, 1, none⟩ = some (.int .i64 (V.m : Nat)) := cell_of BX1 rfl
  have x2 : X2.cell? ⟨h1, 2, none⟩ = some (.slice a1 V.St.length a1c) := cell_of BX1 rfl
  have x3 : X2.cell? ⟨h1, 3, none⟩ = some (.slice a2 V.Fi.length a2c) := cell_of BX1 rfl
  have x4 : X2.cell? ⟨h1, 4, none⟩ = some (.slice a3 V.Ed.length a3c) := cell_of BX1 rfl
  have z0 : X2.cell? ⟨h2, 0, none⟩ = some (.int .i64 (V.n : Nat)) := cell_of BX2 rfl
  have z1 : X2.cell? ⟨h2, 1, none⟩ = some (.int .i64 (V.m : Nat)) := cell_of BX2 rfl
  have z2 : X2.cell? ⟨h2, 2, none⟩ = some (.slice b1 V.St.length b1c) := cell_of BX2 rfl
  have z3 : X2.cell? ⟨h2, 3, none⟩ = some (.slice b2 V.Fi.length b2c) := cell_of BX2 rfl
  have z4 : X2.cell? ⟨h2, 4, none⟩ = some (.slice b3 V.Ed.length b3c) := cell_of BX2 rfl
  have T15 := sameAuto_eq X2 V.n V.m V.St V.Fi V.Ed a1 a2 a3 b1 b2 b3 a1c a2c a3c b1c b2c b3c (hide ⟨HA2.out.r1, HA2.out.r2, HA2.out.r3⟩) (hide ⟨HB.out.r1, HB.out.r2, HB.out.r3⟩) HL.out.1 HL.out.2.1 HL.out.2.2.1
  clear y0 y1 y2 y3 y4 hB d2 dX2 D2 BX2 BX1 hX2 hh2 T27 HBX HA DW
  go_wp2_with (first
    | (go_at_call 15; refine T15.mono ?_; rintro e w3 ⟨rfl, d3⟩; have T17 := sameT_eq w3 a4 b4 a4c b4c V.Sx (hide (HA2.out.r4.below d3)) (hide (HB.out.r4.below d3)) HL.out.2.2.2.1; have D3 := hide d3)
    | (go_at_call_of 17 (Value.slice a4 V.Sx.length a4c); refine T17.mono ?_; rintro e w4 ⟨rfl, d4⟩; have D4 := hide (D3.out.trans (d4.mono D3.out.size)); have T18 := sameT_eq w4 a5 b5 a5c b5c V.Yx (hide (HA2.out.r5.below D4.out)) (hide (HB.out.r5.below D4.out)) HL.out.2.2.2.2)
    | (go_at_call_of 17 (Value.slice a5 V.Yx.length a5c); refine T18.mono ?_; rintro e w5 ⟨rfl, d5⟩))
  go_ret
  exact ⟨rfl, DW2.out.trans ((D4.out.trans (d5.mono D4.out.size)).mono DW2.out.size)⟩
end Go.Proofs.YtmagchclmmphaabGreatDoor
