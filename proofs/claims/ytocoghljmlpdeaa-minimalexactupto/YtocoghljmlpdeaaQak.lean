import Derived.Test.YtocoghljmlpdeaaQaj
import Derived.Laws.IdiomStrings
namespace Go.Proofs.Ytocoghljmlpdeaa
open Go.RowKit Go.Maps
attribute [local go_sem] Oper.semAt_some
/-! ### Minimal of the reference -/
theorem least_ex {P : Nat → Prop} : ∀ n, P n → ∃ m, m ≤ n ∧ P m ∧ ∀ r, r < m → ¬ P r := by
  intro n
  induction n using Nat.strongRecOn with
  | _ n ih =>
    intro h
    by_cases e : ∃ r, r < n ∧ P r
    · obtain ⟨r, hr, hp⟩ := e
      obtain ⟨m, h1, h2, h3⟩ := ih r hr hp
      exact ⟨m, by omega, h2, h3⟩
    · exact ⟨n, Nat.le_refl _, h, fun r hr hp => e ⟨r, hr, hp⟩⟩
theorem clA_alC {Fi Nx : List Int} {N M : Nat} : ClA Nx (inF Fi) N M (alC Fi Nx M) := fun s _ => by
  obtain ⟨t, h1, h2, h3⟩ := least_ex (P := fun t => Eqv Fi Nx Fi Nx M s t) s (fun _ _ => rfl)
  rw [alC_of ⟨h1, h2, h3⟩]
  refine ⟨h1, h2, fun r _ hr => ?_⟩
  rcases Nat.lt_or_ge r t with z | z
  · exact absurd hr (h3 r z)
  · exact z
theorem idx_natI {T : List Nat} {x : Nat} : (natI T).idxOf (x : Int) = T.idxOf x := by
  induction T with
  | nil => rfl
  | cons y l ih =>
    show ((y : Int) :: natI l).idxOf (x : Int) = (y :: l).idxOf x
    rw [List.idxOf_cons, List.idxOf_cons, ih]
    by_cases e : y = x
    · subst e
      simp
    · have h1 : ((y : Int) == (x : Int)) = false := by simpa using fun h : (y : Int) = (x : Int) => e (by omega)
      have h2 : (y == x) = false := by simpa using e
      rw [h1, h2]
theorem plF_natI {T : List Nat} {x : Nat} (h : x ∈ T) : plF (natI T) (x : Int) = (T.idxOf x : Int) := by
  unfold plF
  rw [if_pos (mem_natI.2 h), idx_natI]
theorem natI_at {T : List Nat} {j : Nat} (h : j < T.length) : (natI T)[j]'(by rw [natI_len]; exact h) = (T[j] : Int) := by simp [natI]
theorem fs_grow (L : List Nat) (x : Nat) (h : x ∈ fsA L) : fsA (L ++ [x]) = fsA L := by rw [fsA_snoc, if_pos h]
theorem fs_new (L : List Nat) (x : Nat) (h : ¬ x ∈ fsA L) : fsA (L ++ [x]) = fsA L ++ [x] := by rw [fsA_snoc, if_neg h]
theorem fs_le (L : List Nat) : (fsA L).length ≤ L.length := by
  have key : ∀ n (L : List Nat), L.length = n → (fsA L).length ≤ L.length := by
    intro n
    induction n with
    | zero =>
      intro L hL
      obtain rfl := List.eq_nil_of_length_eq_zero hL
      exact Nat.le_refl _
    | succ n ih =>
      intro L hL
      rcases List.eq_nil_or_concat L with e | ⟨L', x, e⟩
      · subst e; simp at hL
      · rw [List.concat_eq_append] at e
        subst e
        have h := ih L' (by simpa using hL)
        rw [fsA_snoc]
        split
        · rw [List.length_append]; omega
        · rw [List.length_append, List.length_append]; omega
  exact key _ L rfl
theorem LS.on {bm nT M : Nat} {w0 W W' : World} {vF vN : Value} {XF XN : List Int} (h : LS bm nT M w0 W vF vN XF XN) (d : Below W.heap.size W W') (hb : bm ≤ W.heap.size) : LS bm nT M w0 W' vF vN XF XN := ⟨blk_on h.bx d, own_below h.f d, own_below h.n d, h.ap, h.d.trans (d.mono hb)⟩
set_option maxRecDepth 100000 in
set_option maxHeartbeats 4000000 in
theorem rminimal_bad (w : World) (N M st : Int) (aF aN : Option Addr) (lF cF lN cN : Nat) (Fi Nx : List Int) (hF : RdN w aF Fi) (hN : RdN w aN Nx) (hlF : Fi.length = lF) (hlN : Nx.length = lN) (bF : lF ≤ 4194304) (bN : lN ≤ 4194304) (hv : vd N M st Fi Nx = false) :
    Calls Try.prog 25 #[.agg #[.int .i64 N, .int .i64 M, .int .i64 st, .slice aF lF cF, .slice aN lN cN]] w fun e w' => e = .returned (.tuple #[.agg #[.int .i64 0, .int .i64 0, .int .i64 0, .slice none 0 0, .slice none 0 0], .int .i64 3]) ∧ Below w.heap.size w w' := by
  obtain ⟨W0, hW0⟩ : ∃ W0, (w.alloc (.cells #[.int .i64 N, .int .i64 M, .int .i64 st, .slice aF lF cF, .slice aN lN cN] 24)).alloc (.cells #[.int .i64 0, .int .i64 0, .int .i64 0, .slice none 0 0, .slice none 0 0] 24) = W0 := ⟨_, rfl⟩
  have H2 := hide (two_al w #[.int .i64 N, .int .i64 M, .int .i64 st, .slice aF lF cF, .slice aN lN cN] #[.int .i64 0, .int .i64 0, .int .i64 0, .slice none 0 0, .slice none 0 0] 24 24)
  rw [hW0] at H2
  have d0 := H2.out.1
  have k0 : W0.cell? ⟨w.heap.size, 0, none⟩ = some (.int .i64 N) := cell_of H2.out.2.1 rfl
  have k1 : W0.cell? ⟨w.heap.size, 1, none⟩ = some (.int .i64 M) := cell_of H2.out.2.1 rfl
  have k2 : W0.cell? ⟨w.heap.size, 2, none⟩ = some (.int .i64 st) := cell_of H2.out.2.1 rfl
  have k3 : W0.cell? ⟨w.heap.size, 3, none⟩ = some (.slice aF lF cF) := cell_of H2.out.2.1 rfl
  have k4 : W0.cell? ⟨w.heap.size, 4, none⟩ = some (.slice aN lN cN) := cell_of H2.out.2.1 rfl
  have TC := rclasses_bad W0 N M st aF aN lF cF lN cN Fi Nx (hF.on d0) (hN.on d0) hlF hlN bF bN hv
  have HD := hide d0
  clear d0 hF hN hlF hlN bF bN hv
  go_enter Try.func25, Try.ntmps25
  go_upto_region 3 with (go_at_call 20; refine TC.mono ?_; rintro e w2 ⟨rfl, HB⟩)
  have R2 := blk_on H2.out.2.2.1 HB
  have r0 : w2.cell? ⟨w.heap.size + 1, 0, none⟩ = some (.int .i64 0) := cell_of R2 rfl
  have r1 : w2.cell? ⟨w.heap.size + 1, 1, none⟩ = some (.int .i64 0) := cell_of R2 rfl
  have r2 : w2.cell? ⟨w.heap.size + 1, 2, none⟩ = some (.int .i64 0) := cell_of R2 rfl
  have r3 : w2.cell? ⟨w.heap.size + 1, 3, none⟩ = some (.slice none 0 0) := cell_of R2 rfl
  have r4 : w2.cell? ⟨w.heap.size + 1, 4, none⟩ = some (.slice none 0 0) := cell_of R2 rfl
  have f0 : w2.frozen? ⟨w.heap.size + 1, 0, none⟩ = false := fz_of R2
  have f1 : w2.frozen? ⟨w.heap.size + 1, 1, none⟩ = false := fz_of R2
  have f2 : w2.frozen? ⟨w.heap.size + 1, 2, none⟩ = false := fz_of R2
  have f3 : w2.frozen? ⟨w.heap.size + 1, 3, none⟩ = false := fz_of R2
  have f4 : w2.frozen? ⟨w.heap.size + 1, 4, none⟩ = false := fz_of R2
  have O6 := hide (And.intro (set5 w2 (w.heap.size + 1) _ _ _ _ _ (.int .i64 0) (.int .i64 0) (.int .i64 0) (.slice none 0 0) (.slice none 0 0) 24 R2) (only5 w2 (w.heap.size + 1) (.int .i64 0) (.int .i64 0) (.int .i64 0) (.slice none 0 0) (.slice none 0 0)))
  have HBB := hide (HD.out.trans (HB.mono HD.out.size))
  clear R2 HB k0 k1 k2 k3 k4
  go_wp2_with fail
  refine bodyPost_ret (results_c1 (p := 2) (q := 3) (ty := 24) rfl _ _ (w.heap.size + 1) 24 _ (0, 0) _ (.int .i64 3) rfl rfl O6.out.1 Try.underlying24 rfl (by kernel_rfl)) rfl ?_
  exact ⟨rfl, HBB.out.trans (O6.out.2.toBelow HBB.out.size (fun k hk => by omega))⟩
set_option maxRecDepth 100000 in
set_option maxHeartbeats 4000000 in
theorem rminimal_ok (w : World) (N M st : Nat) (aF aN : Option Addr) (lF cF lN cN : Nat) (Fi Nx : List Int) (hF : RdN w aF Fi) (hN : RdN w aN Nx) (hlF : Fi.length = lF) (hlN : Nx.length = lN) (bF : lF ≤ 4194304) (bN : lN ≤ 4194304) (hv : vd N M st Fi Nx = true) :
    Calls Try.prog 25 #[.agg #[.int .i64 (N : Int), .int .i64 (M : Int), .int .i64 (st : Int), .slice aF lF cF, .slice aN lN cN]] w (MnU w ((mnT Fi Nx M st).length : Int) M (mnF Fi (mnT Fi Nx M st)) (mnX Nx M (mnT Fi Nx M st) (alC Fi Nx M)) 0) := by
  obtain ⟨n0, m0, s0, en, em, es, n1, n2, m1, s1, e1, i1, i2⟩ := vd_nat hv
  obtain rfl : N = n0 := by omega
  obtain rfl : M = m0 := by omega
  obtain rfl : st = s0 := by omega
  have hcl : ClA Nx (inF Fi) N M (alC Fi Nx M) := clA_alC
  obtain ⟨φ, hφ⟩ : ∃ φ : Nat → Nat → Nat, φ = fun s a => alC Fi Nx M (dl Nx M s a) := ⟨_, rfl⟩
  obtain ⟨T, K, hT, cT, nT0, rT⟩ := walk_ex (N := N) (M := M) (f := alC Fi Nx M st) (φ := φ) (fun s a hs ha => by rw [hφ]; have z := (hcl _ (dl_spec e1 i1 hs ha).2.2).1; have := (dl_spec e1 i1 hs ha).2.2; show alC Fi Nx M (dl Nx M s a) < N; omega) (by have := (hcl st s1).1; omega)
  have eT : mnT Fi Nx M st = T := mnT_is e1 i1 hcl s1 (by rw [hφ] at hT; exact hT) (by rw [hφ] at cT; exact cT) nT0
  have eX : mnX Nx M T (alC Fi Nx M) = natI (lsN φ M T T.length) := by rw [hφ]; rfl
  rw [eT, eX, show mnF Fi T = natI (lsF (inF Fi) T T.length) from rfl]
  obtain ⟨W0, hW0⟩ : ∃ W0, (w.alloc (.cells #[.int .i64 (N : Int), .int .i64 (M : Int), .int .i64 (st : Int), .slice aF lF cF, .slice aN lN cN] 24)).alloc (.cells #[.int .i64 0, .int .i64 0, .int .i64 0, .slice none 0 0, .slice none 0 0] 24) = W0 := ⟨_, rfl⟩
  have H2 := hide (two_al w #[.int .i64 (N : Int), .int .i64 (M : Int), .int .i64 (st : Int), .slice aF lF cF, .slice aN lN cN] #[.int .i64 0, .int .i64 0, .int .i64 0, .slice none 0 0, .slice none 0 0] 24 24)
  rw [hW0] at H2
  have d0 := H2.out.1
  have k0 : W0.cell? ⟨w.heap.size, 0, none⟩ = some (.int .i64 (N : Int)) := cell_of H2.out.2.1 rfl
  have k1 : W0.cell? ⟨w.heap.size, 1, none⟩ = some (.int .i64 (M : Int)) := cell_of H2.out.2.1 rfl
  have k2 : W0.cell? ⟨w.heap.size, 2, none⟩ = some (.int .i64 (st : Int)) := cell_of H2.out.2.1 rfl
  have k3 : W0.cell? ⟨w.heap.size, 3, none⟩ = some (.slice aF lF cF) := cell_of H2.out.2.1 rfl
  have k4 : W0.cell? ⟨w.heap.size, 4, none⟩ = some (.slice aN lN cN) := cell_of H2.out.2.1 rfl
  have TC := rclasses_ok W0 N M st aF aN lF cF lN cN Fi Nx (hF.on d0) (hN.on d0) hlF hlN bF bN hv
  have TR : Hid (∀ W, Below W0.heap.size W0 W → Calls Try.prog 48 #[.agg #[.int .i64 (N : Int), .int .i64 (M : Int), .int .i64 (st : Int), .slice aF lF cF, .slice aN lN cN]] W (RrA W N M st #[.int .i64 (N : Int), .int .i64 (M : Int), .int .i64 (st : Int), .slice aF lF cF, .slice aN lN cN] Nx)) := hide (fun W d => reached_ref W N M st aF aN lF cF lN cN Fi Nx ((hF.on d0).on d) ((hN.on d0).on d) hlF hlN bF bN hv)
  have HD := hide d0
  have HF := hide (And.intro hF hN)
  have HB := hide (And.intro hlF (And.intro hlN (And.intro bF (And.intro e1 (And.intro i1 (And.intro n1 (And.intro n2 (And.intro m1 s1))))))))
  have HT := hide (And.intro hT (And.intro cT (And.intro nT0 (And.intro rT (And.intro hφ eT)))))
  clear d0 hF hN hlF hlN bF bN hv en em es n1 n2 m1 s1 e1 i1 i2 hcl eX hT cT nT0 rT eT hφ
  go_enter Try.func25, Try.ntmps25
  go_upto_region 4 with (go_at_call 20; refine TC.mono ?_; rintro e w2 ⟨bC, nC, cC, rfl, HC⟩)
  have hnC : nC = N := by rw [(owI_rd HC.out.1).1, natI_len]; simp
  subst nC
  obtain ⟨gC, kC, eC⟩ := own_some HC.out.1 (by rw [natI_len]; simp; have := HB.out.2.2.2.2.2.1; omega)
  injection eC with eC1 eC2 eC3
  subst eC1 eC3
  clear eC2
  have Z := blk_on H2.out.2.1 HC.out.2
  clear k0 k1 k2 k3 k4 TC
  have y0 : w2.cell? ⟨w.heap.size, 0, none⟩ = some (.int .i64 (N : Int)) := cell_of Z rfl
  have y1 : w2.cell? ⟨w.heap.size, 1, none⟩ = some (.int .i64 (M : Int)) := cell_of Z rfl
  have y2 : w2.cell? ⟨w.heap.size, 2, none⟩ = some (.int .i64 (st : Int)) := cell_of Z rfl
  have y3 : w2.cell? ⟨w.heap.size, 3, none⟩ = some (.slice aF lF cF) := cell_of Z rfl
  have y4 : w2.cell? ⟨w.heap.size, 4, none⟩ = some (.slice aN lN cN) := cell_of Z rfl
  clear Z
  go_wp2_with (go_at_call 48; refine (TR.out _ HC.out.2).mono ?_; rintro e w3 ⟨bT, cT, bW, cW, R, J, vs, rfl, HR⟩; clear y0 y1 y2 y3 y4)
  have D3 : Below W0.heap.size W0 w3 := HC.out.2.trans (HR.out.d.mono HC.out.2.size)
  have HTR : Hid (fsA (R.map (alC Fi Nx M)) = T) := hide (by
    have z := HT.out.2.2.2.2.2
    unfold mnT at z
    rw [rcP_of HR.out.wk HR.out.cv HR.out.nd] at z
    exact z)
  have HR3 := hide (show RdN w3 bT (natI R) ∧ RdN w3 (some ⟨gC, 0, none⟩) (natI ((List.range N).map (alC Fi Nx M))) ∧ Below w.heap.size w w3 ∧ w3.heap[w.heap.size]? = some (.cells #[.int .i64 (N : Int), .int .i64 (M : Int), .int .i64 (st : Int), .slice aF lF cF, .slice aN lN cN] 24 (0, 0)) ∧ w3.heap[w.heap.size + 1]? = some (.cells #[.int .i64 0, .int .i64 0, .int .i64 0, .slice none 0 0, .slice none 0 0] 24 (0, 0)) ∧ (∀ x ∈ R, x < N) ∧ R.length ≤ N ∧ 0 < R.length from ⟨(owI_rd HR.out.rT).2, (owI_rd HC.out.1).2.on HR.out.d, HD.out.trans (D3.mono HD.out.size), blk_on H2.out.2.1 D3, blk_on H2.out.2.2.1 D3, HR.out.rg, nodup_le HR.out.nd HR.out.rg, by have := HR.out.wk.l; omega⟩)
  clear HR HC D3 TR
  go_loopw [8, 9] (fun kv iv wr => ∃ (i : Nat) (bK : Option Addr) (cK : Nat), i ≤ R.length ∧ kv = .slice bK (fsA ((R.take i).map (alC Fi Nx M))).length cK ∧ iv = .int .i64 (i : Int) ∧ Hid (OwI wr w3.heap.size (.slice bK (fsA ((R.take i).map (alC Fi Nx M))).length cK) (natI (fsA ((R.take i).map (alC Fi Nx M)))) ∧ Below w3.heap.size w3 wr)) (fun _ iv _ => R.length - (intOf iv).toNat)
  case atStart => exact ⟨0, none, 0, Nat.zero_le _, rfl, rfl, hide ⟨owI_nil _ _, Below.refl _ _⟩⟩
  case round =>
    obtain ⟨i, bK, cK, hi, rfl, rfl, HY⟩ := hrel
    have hRN := HR3.out.2.2.2.2.2.2.1
    have hN4 := HB.out.2.2.2.2.2.2.1
    by_cases hlt : i < R.length
    · have l0 : (i : Int) < (R.length : Int) := by omega
      have l1 : (0 : Int) ≤ (i : Int) := by omega
      obtain ⟨x, hx⟩ : ∃ x, R[i] = x := ⟨_, rfl⟩
      have hxN : x < N := by rw [← hx]; exact HR3.out.2.2.2.2.2.1 _ (List.getElem_mem hlt)
      have l2 : (x : Int) < (N : Int) := by omega
      have l3 : (0 : Int) ≤ (x : Int) := by omega
      obtain ⟨c, hc⟩ : ∃ c, alC Fi Nx M x = c := ⟨_, rfl⟩
      obtain ⟨L, hL⟩ : ∃ L, fsA ((R.take i).map (alC Fi Nx M)) = L := ⟨_, rfl⟩
      have HST : Hid ((R.take (i + 1)).map (alC Fi Nx M) = (R.take i).map (alC Fi Nx M) ++ [c]) := hide (by rw [List.take_add_one, List.getElem?_eq_getElem hlt, hx, List.map_append, ← hc]; rfl)
      have hLl : L.length ≤ i := by rw [← hL]; have := fs_le ((R.take i).map (alC Fi Nx M)); rw [List.length_map, List.length_take] at this; omega
      rw [hL] at HY ⊢
      have HLE := hide hL
      have HRD : Hid (∀ W, Below w3.heap.size w3 W → (∃ gT oT, bT = some ⟨gT, oT, none⟩ ∧ W.cell? ⟨gT, oT + i, none⟩ = some (.int .i64 (x : Int))) ∧ W.cell? ⟨gC, x, none⟩ = some (.int .i64 (c : Int))) := hide (fun W d => by
        refine ⟨?_, ?_⟩
        · obtain ⟨g, o, e, z⟩ := (HR3.out.1.on d) i (by rw [natI_len]; exact hlt)
          rw [natI_at hlt, hx] at z
          exact ⟨g, o, e, z⟩
        · obtain ⟨g, o, e, z⟩ := (HR3.out.2.1.on d) x (by rw [natI_len]; simpa using hxN)
          cases e
          rw [Nat.zero_add, natI_at (by simpa using hxN)] at z
          simpa [hc] using z)
      obtain ⟨⟨gT, oT, eT, cT9⟩, cC9⟩ := HRD.out wr HY.out.2
      subst eT
      have T49 := (in_any wr bK L.length cK (natI L) (c : Int) (owI_rd HY.out.1).2 (natI_len L) (by omega)).mono (R' := fun e w' => e = .returned (.bool (decide ((c : Int) ∈ natI L))) ∧ Below wr.heap.size wr w') (fun e w' h => ⟨h.1, by rw [h.2]; exact Below.refl _ _⟩)
      clear hx hc hL
      by_cases hmem : c ∈ L
      · rw [decide_eq_true (mem_natI.2 hmem)] at T49
        have HM := hide hmem
        clear hmem
        go_wp2_with (go_at_call 49; refine T49.mono ?_; rintro e w4 ⟨rfl, d4⟩; have HD4 := hide d4; clear d4 cT9 cC9)
        go_roundw
        case rel =>
          have e : fsA ((R.take (i + 1)).map (alC Fi Nx M)) = L := by rw [HST.out, fs_grow _ _ (by rw [HLE.out]; exact HM.out), HLE.out]
          refine ⟨i + 1, bK, cK, by omega, by rw [e], by go_num, hide ?_⟩
          rw [e]
          exact ⟨own_below HY.out.1 HD4.out, HY.out.2.trans (HD4.out.mono HY.out.2.size)⟩
        case measure => simp [intOf]; omega
      · rw [decide_eq_false (fun h => hmem (mem_natI.1 h))] at T49
        have HM := hide hmem
        clear hmem
        go_upto_region 10 with (go_at_call 49; refine T49.mono ?_; rintro e w4 ⟨rfl, d4⟩; have HD4 := hide d4; have HO4 := hide (own_below HY.out.1 d4); clear d4 cT9 cC9)
        have hz4 := hide (HY.out.2.trans (HD4.out.mono HY.out.2.size))
        obtain ⟨⟨gT2, oT2, eT2, cT9⟩, cC9⟩ := HRD.out w4 hz4.out
        cases eT2
        go_wp2_with (at_builtin; refine wpList_appI rfl (.tmp 43) (.tmp 51) rfl w3.heap.size _ (natI L) rfl (own_below HO4.out ((Below.refl _ _).alloc (Nat.le_refl _) _)) w4.heap.size (c : Int) rfl (World.alloc_heap_new _ _) (by rw [natI_len]; omega) (by have := hz4.out.size; simp; omega) ?_; intro b2 m2 k2 w5 h1 h2 h3 h4; have HN := hide (And.intro h1.out (And.intro h2.out h3.out)); clear h1 h2 h3 h4 cT9 cC9)
        go_roundw
        case rel =>
          have e : fsA ((R.take (i + 1)).map (alC Fi Nx M)) = L ++ [c] := by rw [HST.out, fs_new _ _ (by rw [HLE.out]; exact HM.out), HLE.out]
          have hm2 : m2 = (L ++ [c]).length := by rw [HN.out.2.1, natI_len, List.length_append]; rfl
          subst hm2
          refine ⟨i + 1, b2, k2, by omega, by rw [e], by go_num, hide ?_⟩
          rw [e, natI_snoc]
          have dA := (Below.refl w4.heap.size w4).alloc (Nat.le_refl _) (.cells #[.int .i64 (c : Int)] 3)
          exact ⟨HN.out.1, (hz4.out.trans (dA.mono hz4.out.size)).trans (HN.out.2.2.toBelow (by have := hz4.out.size; have := dA.size; omega) (fun k hk => (HO4.out.lt k hk).1))⟩
        case measure => simp [intOf]; omega
    · have l0 : ¬ (i : Int) < (R.length : Int) := by omega
      obtain rfl : i = R.length := by omega
      rw [List.take_length, HTR.out] at HY ⊢
      have hTl : T.length = K.length + 1 := HT.out.1.l
      have hTN : T.length ≤ N := nodup_le HT.out.2.2.1 HT.out.2.2.2.1
      obtain ⟨gK, kK, eK⟩ := own_some HY.out.1 (by rw [natI_len]; omega)
      injection eK with eK1 eK2 eK3
      subst eK1 eK3
      obtain ⟨nT, hnT⟩ : ∃ n, T.length = n := ⟨_, rfl⟩
      rw [hnT] at HY ⊢
      obtain ⟨bm, hbm⟩ : ∃ b, wr.heap.size = b := ⟨_, rfl⟩
      have hwm : w.heap.size + 2 ≤ bm := by
        have z1 := HR3.out.2.2.1.size
        have z2 := HY.out.2.size
        have z3 := (Array.getElem?_eq_some_iff.1 HR3.out.2.2.2.2.1).1
        omega
      have HG : Hid (∀ W, Below bm wr W → W.heap[w.heap.size]? = some (.cells #[.int .i64 (N : Int), .int .i64 (M : Int), .int .i64 (st : Int), .slice aF lF cF, .slice aN lN cN] 24 (0, 0)) ∧ W.heap[w.heap.size + 1]? = some (.cells #[.int .i64 0, .int .i64 0, .int .i64 0, .slice none 0 0, .slice none 0 0] 24 (0, 0)) ∧ RdN W aF Fi ∧ RdN W aN Nx ∧ RdN W (some ⟨gC, 0, none⟩) (natI ((List.range N).map (alC Fi Nx M))) ∧ RdN W (some ⟨gK, 0, none⟩) (natI T) ∧ Below w.heap.size w W ∧ bm ≤ W.heap.size) := hide (fun W d => by
        rw [← hbm] at d
        have e3 := HY.out.2.trans (d.mono HY.out.2.size)
        have eW := HR3.out.2.2.1.trans (e3.mono HR3.out.2.2.1.size)
        exact ⟨blk_on HR3.out.2.2.2.1 e3, blk_on HR3.out.2.2.2.2.1 e3, HF.out.1.on eW, HF.out.2.on eW, HR3.out.2.1.on e3, (owI_rd HY.out.1).2.on d, eW, by rw [← hbm]; exact d.size⟩)
      have HX := hide (show T.length = nT ∧ nT ≤ N ∧ w.heap.size + 2 ≤ bm from ⟨hnT, by omega, hwm⟩)
      have yM : wr.cell? ⟨w.heap.size, 1, none⟩ = some (.int .i64 (M : Int)) := cell_of (HG.out wr (Below.refl _ _)).1 rfl
      clear eK2 hTl hTN hnT HY hwm hRN HTR HR3 l0 hi hlt
      go_upto_region 12 with fail
      try rw [hbm]
      obtain ⟨w10, hw10⟩ : ∃ W, wr.alloc (.cells #[.int .i64 (nT : Int), .int .i64 (M : Int), .int .i64 0, .slice none 0 0, .slice none 0 0] 24) = W := ⟨_, rfl⟩
      have hbx : w10.heap[bm]? = some (.cells #[.int .i64 (nT : Int), .int .i64 (M : Int), .int .i64 0, .slice none 0 0, .slice none 0 0] 24 (0, 0)) := by rw [← hw10, ← hbm]; exact World.alloc_heap_new _ _
      have d10 : Below bm wr w10 := by rw [← hw10]; exact (Below.refl _ _).alloc (by omega) _
      have J0 : Hid (LS bm nT M wr w10 (.slice none 0 0) (.slice none 0 0) (natI (lsF (inF Fi) T 0)) (natI (lsN φ M T 0))) := hide ⟨hbx, owI_nil _ _, owI_nil _ _, (fun k hk => by cases hk), d10⟩
      rw [hw10]
      clear hbx d10 yM hw10
      go_wp2_with fail
      have HBM := hide hbm
      clear hbm
      obtain ⟨w9, hw9⟩ : ∃ y, wr = y := ⟨_, rfl⟩
      rw [hw9] at HG J0 HBM
      clear hw9
      go_loopw [11] (fun iv wr => ∃ i : Nat, i ≤ nT ∧ iv = .int .i64 (i : Int) ∧ ∃ vF vN, Hid (LS bm nT M w9 wr vF vN (natI (lsF (inF Fi) T i)) (natI (lsN φ M T i)))) (fun iv _ => nT - (intOf iv).toNat)
      case atStart => exact ⟨0, Nat.zero_le _, rfl, _, _, J0⟩
      case round =>
        clear J0
        obtain ⟨i, hi, rfl, vF, vN, HI⟩ := hrel
        have HGI := hide (HG.out wr HI.out.d)
        by_cases hil : i < nT
        · have l0 : (i : Int) < (nT : Int) := by omega
          have l1 : (0 : Int) ≤ (i : Int) := by omega
          have hiT : i < T.length := by rw [HX.out.1]; exact hil
          obtain ⟨s, hs⟩ : ∃ s, T[i] = s := ⟨_, rfl⟩
          have hsN : s < N := by rw [← hs]; exact HT.out.2.2.2.1 _ (List.getElem_mem hiT)
          obtain ⟨fb, hfb⟩ : ∃ b, inF Fi s = b := ⟨_, rfl⟩
          have TI := hide (fun (W : World) (d : Below wr.heap.size wr W) => (in_any W aF lF cF Fi (s : Int) (HGI.out.2.2.1.on d) HB.out.1 HB.out.2.2.1).mono (R' := fun e w' => e = .returned (.bool fb) ∧ Below W.heap.size W w') (fun e w' h => ⟨by rw [h.1, ← hfb]; rfl, by rw [h.2]; exact Below.refl _ _⟩))
          have HTA : Hid (∀ W, Below bm w9 W → W.cell? ⟨gK, i, none⟩ = some (.int .i64 (s : Int))) := hide (fun W d => by
            obtain ⟨g, o, eg, c⟩ := natI_rd (HG.out W d).2.2.2.2.2.1 i hiT
            cases eg
            rwa [hs, Nat.zero_add] at c)
          have HS9 := hide hs
          have HFB := hide hfb
          have l2 : (s : Int) < (N : Int) := by omega
          have l3 : (0 : Int) ≤ (s : Int) := by omega
          clear hs hfb
          go_upto_region 15 with fail
          have hmo : MonIL 0 [vI 0 (.pointer (some ⟨w.heap.size, 3, none⟩)), vI 1 (.slice aF lF cF), vI 2 (.slice (some ⟨gK, 0, none⟩) nT cK), vI 3 (.int .i64 (i : Int)), vI 4 (.pointer (some ⟨gK, i, none⟩)), vI 5 (.int .i64 (s : Int)), vI 6 (.bool fb)] := ⟨vI_mono _ _, vI_mono _ _, vI_mono _ _, vI_mono _ _, vI_mono _ _, vI_mono _ _, vI_mono _ _, trivial⟩
          refine wp_region_sl [vI 0 (.pointer (some ⟨w.heap.size, 3, none⟩)), vI 1 (.slice aF lF cF), vI 2 (.slice (some ⟨gK, 0, none⟩) nT cK), vI 3 (.int .i64 (i : Int)), vI 4 (.pointer (some ⟨gK, i, none⟩)), vI 5 (.int .i64 (s : Int)), vI 6 (.bool fb)] (by kernel_rfl) (by kernel_rfl) (by kernel_rfl) (by kernel_rfl) hmo ⟨?o0, ?o1, ?o2, ?o3, ?o4, ?o5, ?o6, trivial⟩ ?fin
          case o0 =>
            intro At yy W hy hb d hd K hK
            have s1 : At.tmps.getD 1 undef = .pointer (some ⟨w.heap.size, 0, none⟩) := hb 1 rfl
            have s1' := s1
            rw [Array.getD_eq_getD_getElem?] at s1'
            clear hd hy hb
            go_simp
            exact hK.out _ W (stp_of hmo d (Below.refl _ _)) (if_pos rfl)
          case o1 =>
            intro At yy W hy hb d hd K hK
            have e0 : yy 0 = .pointer (some ⟨w.heap.size, 3, none⟩) := by obtain ⟨_, _, _, _, e⟩ := hd ⟨0, .data⟩ (by simp) rfl rfl; exact e
            have s64 := (hy 0 _ 64 rfl rfl).trans e0
            have s64' := s64
            rw [Array.getD_eq_getD_getElem?] at s64'
            clear hd hy hb
            have y3 : W.cell? ⟨w.heap.size, 3, none⟩ = some (.slice aF lF cF) := cell_of (blk_on HGI.out.1 d) rfl
            go_simp
            exact hK.out _ W (stp_of hmo d (Below.refl _ _)) (if_pos rfl)
          case o2 =>
            intro At yy W hy hb d hd K hK
            have s8 : At.tmps.getD 8 undef = .slice (some ⟨gK, 0, none⟩) nT cK := hb 8 rfl
            have s8' := s8
            rw [Array.getD_eq_getD_getElem?] at s8'
            clear hd hy hb
            go_simp
            exact hK.out _ W (stp_of hmo d (Below.refl _ _)) (if_pos rfl)
          case o3 =>
            intro At yy W hy hb d hd K hK
            have s11 : At.tmps.getD 11 undef = .int .i64 (i : Int) := hb 11 rfl
            have s11' := s11
            rw [Array.getD_eq_getD_getElem?] at s11'
            clear hd hy hb
            go_simp
            exact hK.out _ W (stp_of hmo d (Below.refl _ _)) (if_pos rfl)
          case o4 =>
            intro At yy W hy hb d hd K hK
            have e2 : yy 2 = .slice (some ⟨gK, 0, none⟩) nT cK := by obtain ⟨_, _, _, _, e⟩ := hd ⟨2, .data⟩ (by simp) rfl rfl; exact e
            have e3 : yy 3 = .int .i64 (i : Int) := by obtain ⟨_, _, _, _, e⟩ := hd ⟨3, .data⟩ (by simp) rfl rfl; exact e
            have s66 := (hy 2 _ 66 rfl rfl).trans e2
            have s66' := s66
            rw [Array.getD_eq_getD_getElem?] at s66'
            have s67 := (hy 3 _ 67 rfl rfl).trans e3
            have s67' := s67
            rw [Array.getD_eq_getD_getElem?] at s67'
            clear hd hy hb
            go_simp
            exact hK.out _ W (stp_of hmo d (Below.refl _ _)) (if_pos rfl)
          case o5 =>
            intro At yy W hy hb d hd K hK
            have e4 : yy 4 = .pointer (some ⟨gK, i, none⟩) := by obtain ⟨_, _, _, _, e⟩ := hd ⟨4, .data⟩ (by simp) rfl rfl; exact e
            have s68 := (hy 4 _ 68 rfl rfl).trans e4
            have s68' := s68
            rw [Array.getD_eq_getD_getElem?] at s68'
            clear hd hy hb
            have yK : W.cell? ⟨gK, i, none⟩ = some (.int .i64 (s : Int)) := HTA.out W (HI.out.d.trans (d.mono HGI.out.2.2.2.2.2.2.2))
            go_simp
            exact hK.out _ W (stp_of hmo d (Below.refl _ _)) (if_pos rfl)
          case o6 =>
            intro At yy W hy hb d hd K hK
            have e1 : yy 1 = .slice aF lF cF := by obtain ⟨_, _, _, _, e⟩ := hd ⟨1, .data⟩ (by simp) rfl rfl; exact e
            have e5 : yy 5 = .int .i64 (s : Int) := by obtain ⟨_, _, _, _, e⟩ := hd ⟨5, .data⟩ (by simp) rfl rfl; exact e
            have s65 := (hy 1 _ 65 rfl rfl).trans e1
            have s65' := s65
            rw [Array.getD_eq_getD_getElem?] at s65'
            have s69 := (hy 5 _ 69 rfl rfl).trans e5
            have s69' := s69
            rw [Array.getD_eq_getD_getElem?] at s69'
            clear hd hy hb
            go_simp
            go_wp2_with (go_at_call 49; refine (TI.out _ d).mono ?_; rintro e wa ⟨rfl, da⟩)
            exact hK.out _ wa (stp_of hmo d da) (if_pos rfl)
          case fin =>
            intro yy lo hi W hM
            show wpList _ _ _ [] _ _
            have e0 : yy 0 = .pointer (some ⟨w.heap.size, 3, none⟩) := hM.fact 0 (by simp) rfl (notR_all 0 rfl)
            have e1 : yy 1 = .slice aF lF cF := hM.fact 1 (by simp) rfl (notR_all 1 rfl)
            have e2 : yy 2 = .slice (some ⟨gK, 0, none⟩) nT cK := hM.fact 2 (by simp) rfl (notR_all 2 rfl)
            have e3 : yy 3 = .int .i64 (i : Int) := hM.fact 3 (by simp) rfl (notR_all 3 rfl)
            have e4 : yy 4 = .pointer (some ⟨gK, i, none⟩) := hM.fact 4 (by simp) rfl (notR_all 4 rfl)
            have e5 : yy 5 = .int .i64 (s : Int) := hM.fact 5 (by simp) rfl (notR_all 5 rfl)
            have e6 : yy 6 = .bool fb := hM.fact 6 (by simp) rfl (notR_all 6 rfl)
            have dd := hM.d
            simp only [fills, Act.put, List.take, List.length, List.setIfInBounds_toArray, List.set_cons_zero, List.set_cons_succ, e0, e1, e2, e3, e4, e5, e6]
            clear hM hmo e0 e1 e2 e3 e4 e5 e6 TI
            have HI2 := hide (HI.out.on dd HGI.out.2.2.2.2.2.2.2)
            have HG2 := hide (HG.out W HI2.out.d)
            clear dd HGI HI
            cases fb with
            | true =>
              have hO := HI2.out.f
              obtain ⟨b3, k3, hvF⟩ := own_slice hO
              obtain ⟨m3, hm3⟩ : ∃ m, (natI (lsF (inF Fi) T i)).length = m := ⟨_, rfl⟩
              rw [hm3] at hvF
              subst hvF
              have hN4' := HB.out.2.2.2.2.2.2.1
              have hm3i : m3 ≤ 4096 := by rw [← hm3, natI_len]; have := lsF_le (inF Fi) T i; have := HX.out.2.1; omega
              have HM3 := hide hm3
              have HO := hide hO
              have c3 : W.cell? ⟨bm, 3, none⟩ = some (.slice b3 m3 k3) := cell_of HI2.out.bx rfl
              have dA : ∀ o : Obj, Below W.heap.size W (W.alloc o) := fun o => (Below.refl _ _).alloc (Nat.le_refl _) _
              have hBm := HG2.out.2.2.2.2.2.2.2
              clear hm3 hO
              go_upto_region 17 with (at_builtin; refine wpList_appI rfl (.tmp 72) (.tmp 74) rfl bm (.slice b3 m3 k3) (natI (lsF (inF Fi) T i)) rfl (own_below HO.out (dA _)) W.heap.size (i : Int) rfl (World.alloc_heap_new _ _) (by have := HM3.out; omega) (by simp <;> omega) ?_; intro b4 m4 k4 w4 h1 h2 h3 h4; have O34 : Only W w4 (fun k => (Value.slice b3 m3 k3).ownBlock = some k) := (Only.ofBelow (dA _)).trans h3.out; have bb4 : w4.heap[bm]? = _ := (O34.block bm (Array.getElem?_eq_some_iff.1 HI2.out.bx).1 (fun e => row_tag HO.out HI2.out.bx (by decide) e)).trans HI2.out.bx; have e4 : w4.cell? ⟨bm, 3, none⟩ = some (.slice b3 m3 k3) := cell_of bb4 rfl; have z4 : w4.frozen? ⟨bm, 3, none⟩ = false := fz_of bb4; have HN := hide (And.intro h1.out (And.intro h2.out (And.intro O34 h4.out))); clear h1 h2 h3 h4 O34 bb4)
              obtain ⟨w8, hw8⟩ : ∃ W, w4.setCell ⟨bm, 3, none⟩ (.slice b4 m4 k4) = W := ⟨_, rfl⟩
              try rw [hw8]
              have HI8 : Hid (LS bm nT M w9 w8 (.slice b4 m4 k4) vN (natI (lsF (inF Fi) T (i + 1))) (natI (lsN φ M T i ++ lsR φ T s 0))) := hide (by
                have q := HI2.out.putF (v := .slice b4 m4 k4) hBm HN.out.2.2.1 HN.out.1 (fun k hk => by
                  rcases HN.out.2.2.2 with z | z
                  · exact Or.inl (by rw [← z]; exact hk)
                  · rw [z] at hk
                    injection hk with hk
                    right
                    rw [← hk]
                    simp)
                have e1 : lsF (inF Fi) T (i + 1) = lsF (inF Fi) T i ++ [i] := by
                  have z := lsF_succ (inF Fi) T i hiT
                  rw [HS9.out, HFB.out] at z
                  exact z
                have e2 : lsN φ M T i ++ lsR φ T s 0 = lsN φ M T i := by simp [lsR]
                rw [e1, e2, natI_snoc, ← hw8]
                exact q)
              clear e4 z4 hw8 c3 dA HN HO HM3 HI2 HG2 hBm
              go_wp2_with fail
              go_loopw [12] (fun iv wr => ∃ a : Nat, a ≤ M ∧ iv = .int .i64 (a : Int) ∧ ∃ vF vN, Hid (LS bm nT M w9 wr vF vN (natI (lsF (inF Fi) T (i + 1))) (natI (lsN φ M T i ++ lsR φ T s a)))) (fun iv _ => M - (intOf iv).toNat)
              case atStart => exact ⟨0, Nat.zero_le _, rfl, _, _, HI8⟩
              case round =>
                clear HI8
                obtain ⟨a, haM, rfl, vF2, vN2, HI⟩ := hrel
                have hM7 := HB.out.2.2.2.2.2.2.2.1
                have HGI := hide (HG.out wr HI.out.d)
                have cd : wr.cell? ⟨w.heap.size, 1, none⟩ = some (.int .i64 (M : Int)) := cell_of HGI.out.1 rfl
                by_cases hal : a < M
                · have j0 : (a : Int) < (M : Int) := by omega
                  have j1 : (0 : Int) ≤ (a : Int) := by omega
                  have hBm := HGI.out.2.2.2.2.2.2.2
                  obtain ⟨dq, hdq⟩ : ∃ dq, dl Nx M s a = dq := ⟨_, rfl⟩
                  obtain ⟨h1, e1, r1⟩ := dl_spec HB.out.2.2.2.1 HB.out.2.2.2.2.1 hsN hal
                  rw [hdq] at e1 r1
                  obtain ⟨q, hq⟩ : ∃ q, φ s a = q := ⟨_, rfl⟩
                  have hqa : alC Fi Nx M dq = q := by rw [← hq, HT.out.2.2.2.2.1, ← hdq]
                  have hqT : q ∈ T := by
                    have z := cv_in HT.out.2.1 hiT hal
                    rw [HS9.out, hq] at z
                    exact z
                  obtain ⟨j, hj⟩ : ∃ j, T.idxOf q = j := ⟨_, rfl⟩
                  have TPl := hide (fun (W : World) (d : Below bm w9 W) => (place_any W (some ⟨gK, 0, none⟩) nT cK (natI T) (q : Int) (HG.out W d).2.2.2.2.2.1 (by rw [natI_len]; exact HX.out.1) (by have := HX.out.2.1; have := HB.out.2.2.2.2.2.2.1; omega)).mono (R' := fun e w' => e = .returned (.int .i64 (j : Int)) ∧ Below W.heap.size W w') (fun e w' h => ⟨by rw [h.1, plF_natI hqT, hj], by rw [h.2]; exact Below.refl _ _⟩))
                  have hl1 : s * M + a < lN := by rw [← HB.out.2.1]; exact h1
                  have hN4' := HB.out.2.2.2.2.2.2.1
                  have hm1 : s * M ≤ 4096 * 128 := Nat.mul_le_mul (by omega) (by omega)
                  obtain ⟨m1, hm1e⟩ : ∃ y, s * M = y := ⟨_, rfl⟩
                  obtain ⟨a1, ha1⟩ : ∃ y, m1 + a = y := ⟨_, rfl⟩
                  have w1e : IntKind.i64.wrap ((s : Int) * (M : Int)) = (m1 : Int) := by rw [show (s : Int) * (M : Int) = ((s * M : Nat) : Int) by simp, IntKind.wrap_i64]; omega
                  have w4e : IntKind.i64.wrap ((m1 : Int) + (a : Int)) = (a1 : Int) := by rw [IntKind.wrap_i64]; omega
                  rw [hm1e, ha1] at hl1
                  have b1 : (0 : Int) ≤ (a1 : Int) := by omega
                  have b2 : (a1 : Int) < (lN : Int) := by omega
                  obtain ⟨gX, oX, eaN, cXX⟩ := HGI.out.2.2.2.1 _ h1
                  have HNA : Hid (∀ W, Below bm w9 W → W.cell? ⟨gX, oX + a1, none⟩ = some (.int .i64 (dq : Int)) ∧ W.cell? ⟨gC, dq, none⟩ = some (.int .i64 (q : Int)) ∧ W.cell? ⟨w.heap.size, 4, none⟩ = some (.slice (some ⟨gX, oX, none⟩) lN cN)) := hide (fun W d => by
                    have z := HG.out W d
                    refine ⟨?_, ?_, ?_⟩
                    · obtain ⟨g, o, e, c⟩ := z.2.2.2.1 _ h1
                      rw [eaN] at e
                      cases e
                      rw [e1] at c
                      rw [← ha1, ← hm1e]
                      exact c
                    · obtain ⟨g, o, e, c⟩ := z.2.2.2.2.1 dq (by rw [natI_len]; simpa using r1)
                      cases e
                      rw [Nat.zero_add, natI_at (by simpa using r1)] at c
                      simpa [hqa] using c
                    · rw [← eaN]
                      exact cell_of z.1 rfl)
                  have b3 : (0 : Int) ≤ (dq : Int) := by omega
                  have b4 : (dq : Int) < (N : Int) := by omega
                  obtain ⟨X, hX⟩ : ∃ X, lsN φ M T i ++ lsR φ T s a = X := ⟨_, rfl⟩
                  have hXl : X.length ≤ 16777216 := by
                    rw [← hX, List.length_append, lsN_len φ M T i (by omega)]
                    have z1 : (lsR φ T s a).length = a := by simp [lsR]
                    have z2 : (i + 1) * M ≤ 4096 * 128 := Nat.mul_le_mul (by have := HX.out.2.1; omega) (by omega)
                    rw [Nat.succ_mul] at z2
                    omega
                  have HXE : Hid (lsN φ M T i ++ lsR φ T s (a + 1) = X ++ [j]) := hide (by rw [lsR_succ, ← List.append_assoc, hX, hq, hj])
                  have hO := HI.out.n
                  rw [hX] at hO
                  obtain ⟨t1, c1, hv⟩ := own_slice hO
                  obtain ⟨nX, hnX⟩ : ∃ l, (natI X).length = l := ⟨_, rfl⟩
                  rw [hnX] at hv
                  subst hv
                  have HI2 : Hid (LS bm nT M w9 wr vF2 (.slice t1 nX c1) (natI (lsF (inF Fi) T (i + 1))) (natI X)) := hide (by rw [← hX]; exact HI.out)
                  have HTB : Hid (∀ W bb, JO wr (fun k => (Value.slice t1 nX c1).ownBlock = some k) bb W → Below bm w9 W) := hide (fun W bb d => HI2.out.d.trans (d.2.toBelow hBm (fun k hk => (HI2.out.n.lt k hk).1)))
                  have HBX := hide (And.intro HI2.out.bx (fun e => row_tag HI2.out.n HI2.out.bx (by decide) e : ¬ (Value.slice t1 nX c1).ownBlock = some bm))
                  have HLO := hide (fun k hk => (HI2.out.n.lt k hk).2 : ∀ k, (Value.slice t1 nX c1).ownBlock = some k → k < wr.heap.size)
                  have HOX := hide HI2.out.n
                  have HPW : Hid (∀ W v, Only wr W (fun k => (Value.slice t1 nX c1).ownBlock = some k) → OwI W bm v (natI (X ++ [j])) → (∀ k, v.ownBlock = some k → (Value.slice t1 nX c1).ownBlock = some k ∨ wr.heap.size ≤ k) → LS bm nT M w9 (W.setCell ⟨bm, 4, none⟩ v) vF2 v (natI (lsF (inF Fi) T (i + 1))) (natI (X ++ [j]))) := hide (fun W v o ho hb => HI2.out.putN hBm o ho hb)
                  clear hO hdq e1 r1 hq hj hqa hqT hX hnX HI cXX h1 eaN hm1e ha1 hm1 hl1 HGI
                  go_upto_region 20 with fail
                  clear cd
                  have hmo : MonIL 0 [vI 0 (.pointer (some ⟨bm, 4, none⟩)), vI 1 (.slice t1 nX c1), vI 2 (.slice (some ⟨gK, 0, none⟩) nT cK), vI 3 (.slice (some ⟨gC, 0, none⟩) N cC), vI 4 (.pointer (some ⟨w.heap.size, 4, none⟩)), vI 5 (.slice (some ⟨gX, oX, none⟩) lN cN), vI 6 (.slice (some ⟨gK, 0, none⟩) nT cK), vI 7 (.int .i64 (i : Int)), vI 8 (.pointer (some ⟨gK, i, none⟩)), vI 9 (.int .i64 (s : Int)), vI 10 (.pointer (some ⟨w.heap.size, 1, none⟩)), vI 11 (.int .i64 (M : Int)), vI 12 (.int .i64 (m1 : Int)), vI 13 (.int .i64 (a : Int)), vI 14 (.int .i64 (a1 : Int)), vI 15 (.pointer (some ⟨gX, oX + a1, none⟩)), vI 16 (.int .i64 (dq : Int)), vI 17 (.pointer (some ⟨gC, dq, none⟩)), vI 18 (.int .i64 (q : Int)), vI 19 (.int .i64 (j : Int)), pI 20 (ox1P wr.heap.size (.int .i64 (j : Int))), pI 21 (apI bm (X ++ [j]) (Value.slice t1 nX c1).ownBlock wr.heap.size)] := ⟨vI_mono _ _, vI_mono _ _, vI_mono _ _, vI_mono _ _, vI_mono _ _, vI_mono _ _, vI_mono _ _, vI_mono _ _, vI_mono _ _, vI_mono _ _, vI_mono _ _, vI_mono _ _, vI_mono _ _, vI_mono _ _, vI_mono _ _, vI_mono _ _, vI_mono _ _, vI_mono _ _, vI_mono _ _, vI_mono _ _, pI_mono ox1P_mono, pI_mono apI_mono, trivial⟩
                  refine wp_region_sj (JO wr (fun k => (Value.slice t1 nX c1).ownBlock = some k)) 21 [vI 0 (.pointer (some ⟨bm, 4, none⟩)), vI 1 (.slice t1 nX c1), vI 2 (.slice (some ⟨gK, 0, none⟩) nT cK), vI 3 (.slice (some ⟨gC, 0, none⟩) N cC), vI 4 (.pointer (some ⟨w.heap.size, 4, none⟩)), vI 5 (.slice (some ⟨gX, oX, none⟩) lN cN), vI 6 (.slice (some ⟨gK, 0, none⟩) nT cK), vI 7 (.int .i64 (i : Int)), vI 8 (.pointer (some ⟨gK, i, none⟩)), vI 9 (.int .i64 (s : Int)), vI 10 (.pointer (some ⟨w.heap.size, 1, none⟩)), vI 11 (.int .i64 (M : Int)), vI 12 (.int .i64 (m1 : Int)), vI 13 (.int .i64 (a : Int)), vI 14 (.int .i64 (a1 : Int)), vI 15 (.pointer (some ⟨gX, oX + a1, none⟩)), vI 16 (.int .i64 (dq : Int)), vI 17 (.pointer (some ⟨gC, dq, none⟩)), vI 18 (.int .i64 (q : Int)), vI 19 (.int .i64 (j : Int)), pI 20 (ox1P wr.heap.size (.int .i64 (j : Int))), pI 21 (apI bm (X ++ [j]) (Value.slice t1 nX c1).ownBlock wr.heap.size)] (by kernel_rfl) (JO_first ⟨rfl, rfl, rfl, Nat.le_refl _, fun _ _ => rfl⟩) (by kernel_rfl) (by kernel_rfl) (by kernel_rfl) (by kernel_rfl) hmo ⟨?o0, ?o1, ?o2, ?o3, ?o4, ?o5, ?o6, ?o7, ?o8, ?o9, ?o10, ?o11, ?o12, ?o13, ?o14, ?o15, ?o16, ?o17, ?o18, ?o19, ?o20, ?o21, trivial⟩ ?fin
                  case o0 =>
                    intro At yy W bb hy hb hbb d hz hd K hK
                    have s10 : At.tmps.getD 10 undef = .pointer (some ⟨bm, 0, none⟩) := hb 10 rfl
                    have s10' := s10
                    rw [Array.getD_eq_getD_getElem?] at s10'
                    clear hd hy hb
                    go_simp
                    exact hK.out _ W (stpj_of hmo d (Below.refl _ _)) (if_pos rfl)
                  case o1 =>
                    intro At yy W bb hy hb hbb d hz hd K hK
                    have e0 : yy 0 = .pointer (some ⟨bm, 4, none⟩) := by obtain ⟨_, _, _, _, e⟩ := hd ⟨0, .data⟩ (by simp) rfl rfl; exact e
                    have s83 := (hy 0 _ 83 rfl rfl).trans e0
                    have s83' := s83
                    rw [Array.getD_eq_getD_getElem?] at s83'
                    clear hd hy hb
                    have y4 : W.cell? ⟨bm, 4, none⟩ = some (.slice t1 nX c1) := cell_of (JO_blk d HBX.out.1 HBX.out.2) rfl
                    go_simp
                    exact hK.out _ W (stpj_of hmo d (Below.refl _ _)) (if_pos rfl)
                  case o2 =>
                    intro At yy W bb hy hb hbb d hz hd K hK
                    have s8 : At.tmps.getD 8 undef = .slice (some ⟨gK, 0, none⟩) nT cK := hb 8 rfl
                    have s8' := s8
                    rw [Array.getD_eq_getD_getElem?] at s8'
                    clear hd hy hb
                    go_simp
                    exact hK.out _ W (stpj_of hmo d (Below.refl _ _)) (if_pos rfl)
                  case o3 =>
                    intro At yy W bb hy hb hbb d hz hd K hK
                    have s4 : At.tmps.getD 4 undef = .slice (some ⟨gC, 0, none⟩) N cC := hb 4 rfl
                    have s4' := s4
                    rw [Array.getD_eq_getD_getElem?] at s4'
                    clear hd hy hb
                    go_simp
                    exact hK.out _ W (stpj_of hmo d (Below.refl _ _)) (if_pos rfl)
                  case o4 =>
                    intro At yy W bb hy hb hbb d hz hd K hK
                    have s1 : At.tmps.getD 1 undef = .pointer (some ⟨w.heap.size, 0, none⟩) := hb 1 rfl
                    have s1' := s1
                    rw [Array.getD_eq_getD_getElem?] at s1'
                    clear hd hy hb
                    go_simp
                    exact hK.out _ W (stpj_of hmo d (Below.refl _ _)) (if_pos rfl)
                  case o5 =>
                    intro At yy W bb hy hb hbb d hz hd K hK
                    have e4 : yy 4 = .pointer (some ⟨w.heap.size, 4, none⟩) := by obtain ⟨_, _, _, _, e⟩ := hd ⟨4, .data⟩ (by simp) rfl rfl; exact e
                    have s87 := (hy 4 _ 87 rfl rfl).trans e4
                    have s87' := s87
                    rw [Array.getD_eq_getD_getElem?] at s87'
                    clear hd hy hb
                    have yN : W.cell? ⟨w.heap.size, 4, none⟩ = some (.slice (some ⟨gX, oX, none⟩) lN cN) := (HNA.out W (HTB.out W _ d)).2.2
                    go_simp
                    exact hK.out _ W (stpj_of hmo d (Below.refl _ _)) (if_pos rfl)
                  case o6 =>
                    intro At yy W bb hy hb hbb d hz hd K hK
                    have s8 : At.tmps.getD 8 undef = .slice (some ⟨gK, 0, none⟩) nT cK := hb 8 rfl
                    have s8' := s8
                    rw [Array.getD_eq_getD_getElem?] at s8'
                    clear hd hy hb
                    go_simp
                    exact hK.out _ W (stpj_of hmo d (Below.refl _ _)) (if_pos rfl)
                  case o7 =>
                    intro At yy W bb hy hb hbb d hz hd K hK
                    have s11 : At.tmps.getD 11 undef = .int .i64 (i : Int) := hb 11 rfl
                    have s11' := s11
                    rw [Array.getD_eq_getD_getElem?] at s11'
                    clear hd hy hb
                    go_simp
                    exact hK.out _ W (stpj_of hmo d (Below.refl _ _)) (if_pos rfl)
                  case o8 =>
                    intro At yy W bb hy hb hbb d hz hd K hK
                    have e6 : yy 6 = .slice (some ⟨gK, 0, none⟩) nT cK := by obtain ⟨_, _, _, _, e⟩ := hd ⟨6, .data⟩ (by simp) rfl rfl; exact e
                    have e7 : yy 7 = .int .i64 (i : Int) := by obtain ⟨_, _, _, _, e⟩ := hd ⟨7, .data⟩ (by simp) rfl rfl; exact e
                    have s89 := (hy 6 _ 89 rfl rfl).trans e6
                    have s89' := s89
                    rw [Array.getD_eq_getD_getElem?] at s89'
                    have s90 := (hy 7 _ 90 rfl rfl).trans e7
                    have s90' := s90
                    rw [Array.getD_eq_getD_getElem?] at s90'
                    clear hd hy hb
                    go_simp
                    exact hK.out _ W (stpj_of hmo d (Below.refl _ _)) (if_pos rfl)
                  case o9 =>
                    intro At yy W bb hy hb hbb d hz hd K hK
                    have e8 : yy 8 = .pointer (some ⟨gK, i, none⟩) := by obtain ⟨_, _, _, _, e⟩ := hd ⟨8, .data⟩ (by simp) rfl rfl; exact e
                    have s91 := (hy 8 _ 91 rfl rfl).trans e8
                    have s91' := s91
                    rw [Array.getD_eq_getD_getElem?] at s91'
                    clear hd hy hb
                    have yK : W.cell? ⟨gK, i, none⟩ = some (.int .i64 (s : Int)) := HTA.out W (HTB.out W _ d)
                    go_simp
                    exact hK.out _ W (stpj_of hmo d (Below.refl _ _)) (if_pos rfl)
                  case o10 =>
                    intro At yy W bb hy hb hbb d hz hd K hK
                    have s1 : At.tmps.getD 1 undef = .pointer (some ⟨w.heap.size, 0, none⟩) := hb 1 rfl
                    have s1' := s1
                    rw [Array.getD_eq_getD_getElem?] at s1'
                    clear hd hy hb
                    go_simp
                    exact hK.out _ W (stpj_of hmo d (Below.refl _ _)) (if_pos rfl)
                  case o11 =>
                    intro At yy W bb hy hb hbb d hz hd K hK
                    have e10 : yy 10 = .pointer (some ⟨w.heap.size, 1, none⟩) := by obtain ⟨_, _, _, _, e⟩ := hd ⟨10, .data⟩ (by simp) rfl rfl; exact e
                    have s93 := (hy 10 _ 93 rfl rfl).trans e10
                    have s93' := s93
                    rw [Array.getD_eq_getD_getElem?] at s93'
                    clear hd hy hb
                    have yM : W.cell? ⟨w.heap.size, 1, none⟩ = some (.int .i64 (M : Int)) := cell_of (HG.out W (HTB.out W _ d)).1 rfl
                    go_simp
                    exact hK.out _ W (stpj_of hmo d (Below.refl _ _)) (if_pos rfl)
                  case o12 =>
                    intro At yy W bb hy hb hbb d hz hd K hK
                    have e9 : yy 9 = .int .i64 (s : Int) := by obtain ⟨_, _, _, _, e⟩ := hd ⟨9, .data⟩ (by simp) rfl rfl; exact e
                    have e11 : yy 11 = .int .i64 (M : Int) := by obtain ⟨_, _, _, _, e⟩ := hd ⟨11, .data⟩ (by simp) rfl rfl; exact e
                    have s92 := (hy 9 _ 92 rfl rfl).trans e9
                    have s92' := s92
                    rw [Array.getD_eq_getD_getElem?] at s92'
                    have s94 := (hy 11 _ 94 rfl rfl).trans e11
                    have s94' := s94
                    rw [Array.getD_eq_getD_getElem?] at s94'
                    clear hd hy hb
                    go_simp
                    exact hK.out _ W (stpj_of hmo d (Below.refl _ _)) (if_pos rfl)
                  case o13 =>
                    intro At yy W bb hy hb hbb d hz hd K hK
                    have s12 : At.tmps.getD 12 undef = .int .i64 (a : Int) := hb 12 rfl
                    have s12' := s12
                    rw [Array.getD_eq_getD_getElem?] at s12'
                    clear hd hy hb
                    go_simp
                    exact hK.out _ W (stpj_of hmo d (Below.refl _ _)) (if_pos rfl)
                  case o14 =>
                    intro At yy W bb hy hb hbb d hz hd K hK
                    have e12 : yy 12 = .int .i64 (m1 : Int) := by obtain ⟨_, _, _, _, e⟩ := hd ⟨12, .data⟩ (by simp) rfl rfl; exact e
                    have e13 : yy 13 = .int .i64 (a : Int) := by obtain ⟨_, _, _, _, e⟩ := hd ⟨13, .data⟩ (by simp) rfl rfl; exact e
                    have s95 := (hy 12 _ 95 rfl rfl).trans e12
                    have s95' := s95
                    rw [Array.getD_eq_getD_getElem?] at s95'
                    have s96 := (hy 13 _ 96 rfl rfl).trans e13
                    have s96' := s96
                    rw [Array.getD_eq_getD_getElem?] at s96'
                    clear hd hy hb
                    go_simp
                    exact hK.out _ W (stpj_of hmo d (Below.refl _ _)) (if_pos rfl)
                  case o15 =>
                    intro At yy W bb hy hb hbb d hz hd K hK
                    have e5 : yy 5 = .slice (some ⟨gX, oX, none⟩) lN cN := by obtain ⟨_, _, _, _, e⟩ := hd ⟨5, .data⟩ (by simp) rfl rfl; exact e
                    have e14 : yy 14 = .int .i64 (a1 : Int) := by obtain ⟨_, _, _, _, e⟩ := hd ⟨14, .data⟩ (by simp) rfl rfl; exact e
                    have s88 := (hy 5 _ 88 rfl rfl).trans e5
                    have s88' := s88
                    rw [Array.getD_eq_getD_getElem?] at s88'
                    have s97 := (hy 14 _ 97 rfl rfl).trans e14
                    have s97' := s97
                    rw [Array.getD_eq_getD_getElem?] at s97'
                    clear hd hy hb
                    go_simp
                    exact hK.out _ W (stpj_of hmo d (Below.refl _ _)) (if_pos rfl)
                  case o16 =>
                    intro At yy W bb hy hb hbb d hz hd K hK
                    have e15 : yy 15 = .pointer (some ⟨gX, oX + a1, none⟩) := by obtain ⟨_, _, _, _, e⟩ := hd ⟨15, .data⟩ (by simp) rfl rfl; exact e
                    have s98 := (hy 15 _ 98 rfl rfl).trans e15
                    have s98' := s98
                    rw [Array.getD_eq_getD_getElem?] at s98'
                    clear hd hy hb
                    have yX : W.cell? ⟨gX, oX + a1, none⟩ = some (.int .i64 (dq : Int)) := (HNA.out W (HTB.out W _ d)).1
                    go_simp
                    exact hK.out _ W (stpj_of hmo d (Below.refl _ _)) (if_pos rfl)
                  case o17 =>
                    intro At yy W bb hy hb hbb d hz hd K hK
                    have e3 : yy 3 = .slice (some ⟨gC, 0, none⟩) N cC := by obtain ⟨_, _, _, _, e⟩ := hd ⟨3, .data⟩ (by simp) rfl rfl; exact e
                    have e16 : yy 16 = .int .i64 (dq : Int) := by obtain ⟨_, _, _, _, e⟩ := hd ⟨16, .data⟩ (by simp) rfl rfl; exact e
                    have s86 := (hy 3 _ 86 rfl rfl).trans e3
                    have s86' := s86
                    rw [Array.getD_eq_getD_getElem?] at s86'
                    have s99 := (hy 16 _ 99 rfl rfl).trans e16
                    have s99' := s99
                    rw [Array.getD_eq_getD_getElem?] at s99'
                    clear hd hy hb
                    go_simp
                    exact hK.out _ W (stpj_of hmo d (Below.refl _ _)) (if_pos rfl)
                  case o18 =>
                    intro At yy W bb hy hb hbb d hz hd K hK
                    have e17 : yy 17 = .pointer (some ⟨gC, dq, none⟩) := by obtain ⟨_, _, _, _, e⟩ := hd ⟨17, .data⟩ (by simp) rfl rfl; exact e
                    have s100 := (hy 17 _ 100 rfl rfl).trans e17
                    have s100' := s100
                    rw [Array.getD_eq_getD_getElem?] at s100'
                    clear hd hy hb
                    have yC : W.cell? ⟨gC, dq, none⟩ = some (.int .i64 (q : Int)) := (HNA.out W (HTB.out W _ d)).2.1
                    go_simp
                    exact hK.out _ W (stpj_of hmo d (Below.refl _ _)) (if_pos rfl)
                  case o19 =>
                    intro At yy W bb hy hb hbb d hz hd K hK
                    have e2 : yy 2 = .slice (some ⟨gK, 0, none⟩) nT cK := by obtain ⟨_, _, _, _, e⟩ := hd ⟨2, .data⟩ (by simp) rfl rfl; exact e
                    have e18 : yy 18 = .int .i64 (q : Int) := by obtain ⟨_, _, _, _, e⟩ := hd ⟨18, .data⟩ (by simp) rfl rfl; exact e
                    have s85 := (hy 2 _ 85 rfl rfl).trans e2
                    have s85' := s85
                    rw [Array.getD_eq_getD_getElem?] at s85'
                    have s101 := (hy 18 _ 101 rfl rfl).trans e18
                    have s101' := s101
                    rw [Array.getD_eq_getD_getElem?] at s101'
                    clear hd hy hb
                    go_simp
                    go_wp2_with (go_at_call 50; refine (TPl.out _ (HTB.out _ _ d)).mono ?_; rintro e wa ⟨rfl, da⟩)
                    exact hK.out _ wa (stpj_of hmo (JO_on d da) da) (if_pos rfl)
                  case o20 =>
                    intro At yy W bb hy hb hbb d hz hd K hK
                    have e19 : yy 19 = .int .i64 (j : Int) := by obtain ⟨_, _, _, _, e⟩ := hd ⟨19, .data⟩ (by simp) rfl rfl; exact e
                    have s102 := (hy 19 _ 102 rfl rfl).trans e19
                    have s102' := s102
                    rw [Array.getD_eq_getD_getElem?] at s102'
                    clear hd hy hb
                    go_simp
                    exact hK.out _ _ (stpj_of hmo (JO_on d ((Below.refl _ _).alloc (Nat.le_refl _) _)) ((Below.refl _ _).alloc (Nat.le_refl _) _)) ⟨if_pos rfl, hz, by simp, World.alloc_heap_new _ _⟩
                  case o21 =>
                    intro At yy W bb hy hb hbb d hz hd K hK
                    have e1 : yy 1 = .slice t1 nX c1 := by obtain ⟨_, _, _, _, e⟩ := hd ⟨1, .data⟩ (by simp) rfl rfl; exact e
                    have f20 := hd ⟨20, .data⟩ (by simp) rfl rfl
                    obtain ⟨lo2, hi2, hl2, hh2, e20, b2, l2', z2⟩ := f20
                    have s84 := (hy 1 _ 84 rfl rfl).trans e1
                    have s84' := s84
                    rw [Array.getD_eq_getD_getElem?] at s84'
                    have s103 := (hy 20 _ 103 rfl rfl).trans e20
                    have s103' := s103
                    rw [Array.getD_eq_getD_getElem?] at s103'
                    clear hd hb
                    have hb0 := hbb rfl
                    subst hb0
                    refine step_appI rfl _ _ rfl bm (.slice t1 nX c1) X s84 (own_below HOX.out (d.1 rfl)) lo2 j s103 z2 hXl (Nat.le_trans hBm hz) ?_
                    intro v4 w4 ho4 hg4 hv4
                    exact hK.out _ w4 (stpj_keeps [] rfl (JO_put d hg4.out) hg4.out.size ⟨.inr (fun _ _ _ h => h), .inr (fun _ _ _ h => h), .inr (fun _ _ _ h => h), .inr (fun _ _ _ h => h), .inr (fun _ _ _ h => h), .inr (fun _ _ _ h => h), .inr (fun _ _ _ h => h), .inr (fun _ _ _ h => h), .inr (fun _ _ _ h => h), .inr (fun _ _ _ h => h), .inr (fun _ _ _ h => h), .inr (fun _ _ _ h => h), .inr (fun _ _ _ h => h), .inr (fun _ _ _ h => h), .inr (fun _ _ _ h => h), .inr (fun _ _ _ h => h), .inr (fun _ _ _ h => h), .inr (fun _ _ _ h => h), .inr (fun _ _ _ h => h), .inr (fun _ _ _ h => h), .inr (fun _ _ hh h => ox1P_keep hh h hg4.out HLO.out), .inl (by simp), trivial⟩) ⟨v4, if_pos rfl, ho4, fun k hk => (hv4 k hk).imp id (Nat.le_trans hz)⟩
                  case fin =>
                    intro yy lo hi W hM
                    show wpList _ _ _ [_, _] _ _
                    have e0 : yy 0 = .pointer (some ⟨bm, 4, none⟩) := hM.fact 0 (by simp) rfl (notR_all 0 rfl)
                    have e1 : yy 1 = .slice t1 nX c1 := hM.fact 1 (by simp) rfl (notR_all 1 rfl)
                    have e2 : yy 2 = .slice (some ⟨gK, 0, none⟩) nT cK := hM.fact 2 (by simp) rfl (notR_all 2 rfl)
                    have e3 : yy 3 = .slice (some ⟨gC, 0, none⟩) N cC := hM.fact 3 (by simp) rfl (notR_all 3 rfl)
                    have e4 : yy 4 = .pointer (some ⟨w.heap.size, 4, none⟩) := hM.fact 4 (by simp) rfl (notR_all 4 rfl)
                    have e5 : yy 5 = .slice (some ⟨gX, oX, none⟩) lN cN := hM.fact 5 (by simp) rfl (notR_all 5 rfl)
                    have e6 : yy 6 = .slice (some ⟨gK, 0, none⟩) nT cK := hM.fact 6 (by simp) rfl (notR_all 6 rfl)
                    have e7 : yy 7 = .int .i64 (i : Int) := hM.fact 7 (by simp) rfl (notR_all 7 rfl)
                    have e8 : yy 8 = .pointer (some ⟨gK, i, none⟩) := hM.fact 8 (by simp) rfl (notR_all 8 rfl)
                    have e9 : yy 9 = .int .i64 (s : Int) := hM.fact 9 (by simp) rfl (notR_all 9 rfl)
                    have e10 : yy 10 = .pointer (some ⟨w.heap.size, 1, none⟩) := hM.fact 10 (by simp) rfl (notR_all 10 rfl)
                    have e11 : yy 11 = .int .i64 (M : Int) := hM.fact 11 (by simp) rfl (notR_all 11 rfl)
                    have e12 : yy 12 = .int .i64 (m1 : Int) := hM.fact 12 (by simp) rfl (notR_all 12 rfl)
                    have e13 : yy 13 = .int .i64 (a : Int) := hM.fact 13 (by simp) rfl (notR_all 13 rfl)
                    have e14 : yy 14 = .int .i64 (a1 : Int) := hM.fact 14 (by simp) rfl (notR_all 14 rfl)
                    have e15 : yy 15 = .pointer (some ⟨gX, oX + a1, none⟩) := hM.fact 15 (by simp) rfl (notR_all 15 rfl)
                    have e16 : yy 16 = .int .i64 (dq : Int) := hM.fact 16 (by simp) rfl (notR_all 16 rfl)
                    have e17 : yy 17 = .pointer (some ⟨gC, dq, none⟩) := hM.fact 17 (by simp) rfl (notR_all 17 rfl)
                    have e18 : yy 18 = .int .i64 (q : Int) := hM.fact 18 (by simp) rfl (notR_all 18 rfl)
                    have e19 : yy 19 = .int .i64 (j : Int) := hM.fact 19 (by simp) rfl (notR_all 19 rfl)
                    obtain ⟨v4, e21, O21, B21⟩ := hM.fact 21 (by simp) rfl (notR_all 21 rfl)
                    obtain ⟨e20, _, _, _⟩ := hM.fact 20 (by simp) rfl (notR_all 20 rfl)
                    have dd : JO wr (fun k => (Value.slice t1 nX c1).ownBlock = some k) true W := hM.d
                    simp only [fills, Act.put, List.take, List.length, List.setIfInBounds_toArray, List.set_cons_zero, List.set_cons_succ, e0, e1, e2, e3, e4, e5, e6, e7, e8, e9, e10, e11, e12, e13, e14, e15, e16, e17, e18, e19, e20, e21]
                    generalize lo 20 = p8
                    obtain ⟨b4, c4, e4⟩ := own_slice O21
                    subst e4
                    clear hM hmo e0 e1 e2 e3 e4 e5 e6 e7 e8 e9 e10 e11 e12 e13 e14 e15 e16 e17 e18 e19 e20 e21
                    have HF9 := hide (HPW.out W (.slice b4 (natI (X ++ [j])).length c4) dd.2 O21 B21)
                    have y6 : W.cell? ⟨bm, 4, none⟩ = some (.slice t1 nX c1) := cell_of (JO_blk dd HBX.out.1 HBX.out.2) rfl
                    have g6 : W.frozen? ⟨bm, 4, none⟩ = false := fz_of (JO_blk dd HBX.out.1 HBX.out.2)
                    clear O21 B21 dd
                    go_wp2_with fail
                    go_roundw
                    case rel => exact ⟨a + 1, by omega, by go_num, vF2, _, hide (by rw [HXE.out]; exact HF9.out)⟩
                    case measure => simp [intOf]; omega
                · have j0 : ¬ (a : Int) < (M : Int) := by omega
                  have haE : a = M := by omega
                  subst a
                  have HJ : Hid (LS bm nT M w9 wr vF2 vN2 (natI (lsF (inF Fi) T (i + 1))) (natI (lsN φ M T (i + 1)))) := hide (by
                    rw [lsN_succ φ M T i hiT, HS9.out]
                    exact HI.out)
                  have hN4' := HB.out.2.2.2.2.2.2.1
                  have hTN' := HX.out.2.1
                  clear haM hal
                  go_wp2_with fail
                  go_roundw
                  case rel => exact ⟨i + 1, by omega, by go_num, vF2, vN2, HJ⟩
                  case measure => simp [intOf]; omega
            | false =>
              obtain ⟨w8, hw8⟩ : ∃ y, W = y := ⟨_, rfl⟩
              subst W
              have HI8 : Hid (LS bm nT M w9 w8 vF vN (natI (lsF (inF Fi) T (i + 1))) (natI (lsN φ M T i ++ lsR φ T s 0))) := hide (by
                have e1 : lsF (inF Fi) T (i + 1) = lsF (inF Fi) T i := by
                  have z := lsF_succ (inF Fi) T i hiT
                  rw [HS9.out, HFB.out] at z
                  simpa using z
                have e2 : lsN φ M T i ++ lsR φ T s 0 = lsN φ M T i := by simp [lsR]
                rw [e1, e2]
                exact HI2.out)
              go_upto_region 17 with fail
              clear HI2 HG2
              go_wp2_with fail
              go_loopw [12] (fun iv wr => ∃ a : Nat, a ≤ M ∧ iv = .int .i64 (a : Int) ∧ ∃ vF vN, Hid (LS bm nT M w9 wr vF vN (natI (lsF (inF Fi) T (i + 1))) (natI (lsN φ M T i ++ lsR φ T s a)))) (fun iv _ => M - (intOf iv).toNat)
              case atStart => exact ⟨0, Nat.zero_le _, rfl, _, _, HI8⟩
              case round =>
                clear HI8
                obtain ⟨a, haM, rfl, vF2, vN2, HI⟩ := hrel
                have hM7 := HB.out.2.2.2.2.2.2.2.1
                have HGI := hide (HG.out wr HI.out.d)
                have cd : wr.cell? ⟨w.heap.size, 1, none⟩ = some (.int .i64 (M : Int)) := cell_of HGI.out.1 rfl
                by_cases hal : a < M
                · have j0 : (a : Int) < (M : Int) := by omega
                  have j1 : (0 : Int) ≤ (a : Int) := by omega
                  have hBm := HGI.out.2.2.2.2.2.2.2
                  obtain ⟨dq, hdq⟩ : ∃ dq, dl Nx M s a = dq := ⟨_, rfl⟩
                  obtain ⟨h1, e1, r1⟩ := dl_spec HB.out.2.2.2.1 HB.out.2.2.2.2.1 hsN hal
                  rw [hdq] at e1 r1
                  obtain ⟨q, hq⟩ : ∃ q, φ s a = q := ⟨_, rfl⟩
                  have hqa : alC Fi Nx M dq = q := by rw [← hq, HT.out.2.2.2.2.1, ← hdq]
                  have hqT : q ∈ T := by
                    have z := cv_in HT.out.2.1 hiT hal
                    rw [HS9.out, hq] at z
                    exact z
                  obtain ⟨j, hj⟩ : ∃ j, T.idxOf q = j := ⟨_, rfl⟩
                  have TPl := hide (fun (W : World) (d : Below bm w9 W) => (place_any W (some ⟨gK, 0, none⟩) nT cK (natI T) (q : Int) (HG.out W d).2.2.2.2.2.1 (by rw [natI_len]; exact HX.out.1) (by have := HX.out.2.1; have := HB.out.2.2.2.2.2.2.1; omega)).mono (R' := fun e w' => e = .returned (.int .i64 (j : Int)) ∧ Below W.heap.size W w') (fun e w' h => ⟨by rw [h.1, plF_natI hqT, hj], by rw [h.2]; exact Below.refl _ _⟩))
                  have hl1 : s * M + a < lN := by rw [← HB.out.2.1]; exact h1
                  have hN4' := HB.out.2.2.2.2.2.2.1
                  have hm1 : s * M ≤ 4096 * 128 := Nat.mul_le_mul (by omega) (by omega)
                  obtain ⟨m1, hm1e⟩ : ∃ y, s * M = y := ⟨_, rfl⟩
                  obtain ⟨a1, ha1⟩ : ∃ y, m1 + a = y := ⟨_, rfl⟩
                  have w1e : IntKind.i64.wrap ((s : Int) * (M : Int)) = (m1 : Int) := by rw [show (s : Int) * (M : Int) = ((s * M : Nat) : Int) by simp, IntKind.wrap_i64]; omega
                  have w4e : IntKind.i64.wrap ((m1 : Int) + (a : Int)) = (a1 : Int) := by rw [IntKind.wrap_i64]; omega
                  rw [hm1e, ha1] at hl1
                  have b1 : (0 : Int) ≤ (a1 : Int) := by omega
                  have b2 : (a1 : Int) < (lN : Int) := by omega
                  obtain ⟨gX, oX, eaN, cXX⟩ := HGI.out.2.2.2.1 _ h1
                  have HNA : Hid (∀ W, Below bm w9 W → W.cell? ⟨gX, oX + a1, none⟩ = some (.int .i64 (dq : Int)) ∧ W.cell? ⟨gC, dq, none⟩ = some (.int .i64 (q : Int)) ∧ W.cell? ⟨w.heap.size, 4, none⟩ = some (.slice (some ⟨gX, oX, none⟩) lN cN)) := hide (fun W d => by
                    have z := HG.out W d
                    refine ⟨?_, ?_, ?_⟩
                    · obtain ⟨g, o, e, c⟩ := z.2.2.2.1 _ h1
                      rw [eaN] at e
                      cases e
                      rw [e1] at c
                      rw [← ha1, ← hm1e]
                      exact c
                    · obtain ⟨g, o, e, c⟩ := z.2.2.2.2.1 dq (by rw [natI_len]; simpa using r1)
                      cases e
                      rw [Nat.zero_add, natI_at (by simpa using r1)] at c
                      simpa [hqa] using c
                    · rw [← eaN]
                      exact cell_of z.1 rfl)
                  have b3 : (0 : Int) ≤ (dq : Int) := by omega
                  have b4 : (dq : Int) < (N : Int) := by omega
                  obtain ⟨X, hX⟩ : ∃ X, lsN φ M T i ++ lsR φ T s a = X := ⟨_, rfl⟩
                  have hXl : X.length ≤ 16777216 := by
                    rw [← hX, List.length_append, lsN_len φ M T i (by omega)]
                    have z1 : (lsR φ T s a).length = a := by simp [lsR]
                    have z2 : (i + 1) * M ≤ 4096 * 128 := Nat.mul_le_mul (by have := HX.out.2.1; omega) (by omega)
                    rw [Nat.succ_mul] at z2
                    omega
                  have HXE : Hid (lsN φ M T i ++ lsR φ T s (a + 1) = X ++ [j]) := hide (by rw [lsR_succ, ← List.append_assoc, hX, hq, hj])
                  have hO := HI.out.n
                  rw [hX] at hO
                  obtain ⟨t1, c1, hv⟩ := own_slice hO
                  obtain ⟨nX, hnX⟩ : ∃ l, (natI X).length = l := ⟨_, rfl⟩
                  rw [hnX] at hv
                  subst hv
                  have HI2 : Hid (LS bm nT M w9 wr vF2 (.slice t1 nX c1) (natI (lsF (inF Fi) T (i + 1))) (natI X)) := hide (by rw [← hX]; exact HI.out)
                  have HTB : Hid (∀ W bb, JO wr (fun k => (Value.slice t1 nX c1).ownBlock = some k) bb W → Below bm w9 W) := hide (fun W bb d => HI2.out.d.trans (d.2.toBelow hBm (fun k hk => (HI2.out.n.lt k hk).1)))
                  have HBX := hide (And.intro HI2.out.bx (fun e => row_tag HI2.out.n HI2.out.bx (by decide) e : ¬ (Value.slice t1 nX c1).ownBlock = some bm))
                  have HLO := hide (fun k hk => (HI2.out.n.lt k hk).2 : ∀ k, (Value.slice t1 nX c1).ownBlock = some k → k < wr.heap.size)
                  have HOX := hide HI2.out.n
                  have HPW : Hid (∀ W v, Only wr W (fun k => (Value.slice t1 nX c1).ownBlock = some k) → OwI W bm v (natI (X ++ [j])) → (∀ k, v.ownBlock = some k → (Value.slice t1 nX c1).ownBlock = some k ∨ wr.heap.size ≤ k) → LS bm nT M w9 (W.setCell ⟨bm, 4, none⟩ v) vF2 v (natI (lsF (inF Fi) T (i + 1))) (natI (X ++ [j]))) := hide (fun W v o ho hb => HI2.out.putN hBm o ho hb)
                  clear hO hdq e1 r1 hq hj hqa hqT hX hnX HI cXX h1 eaN hm1e ha1 hm1 hl1 HGI
                  go_upto_region 20 with fail
                  clear cd
                  have hmo : MonIL 0 [vI 0 (.pointer (some ⟨bm, 4, none⟩)), vI 1 (.slice t1 nX c1), vI 2 (.slice (some ⟨gK, 0, none⟩) nT cK), vI 3 (.slice (some ⟨gC, 0, none⟩) N cC), vI 4 (.pointer (some ⟨w.heap.size, 4, none⟩)), vI 5 (.slice (some ⟨gX, oX, none⟩) lN cN), vI 6 (.slice (some ⟨gK, 0, none⟩) nT cK), vI 7 (.int .i64 (i : Int)), vI 8 (.pointer (some ⟨gK, i, none⟩)), vI 9 (.int .i64 (s : Int)), vI 10 (.pointer (some ⟨w.heap.size, 1, none⟩)), vI 11 (.int .i64 (M : Int)), vI 12 (.int .i64 (m1 : Int)), vI 13 (.int .i64 (a : Int)), vI 14 (.int .i64 (a1 : Int)), vI 15 (.pointer (some ⟨gX, oX + a1, none⟩)), vI 16 (.int .i64 (dq : Int)), vI 17 (.pointer (some ⟨gC, dq, none⟩)), vI 18 (.int .i64 (q : Int)), vI 19 (.int .i64 (j : Int)), pI 20 (ox1P wr.heap.size (.int .i64 (j : Int))), pI 21 (apI bm (X ++ [j]) (Value.slice t1 nX c1).ownBlock wr.heap.size)] := ⟨vI_mono _ _, vI_mono _ _, vI_mono _ _, vI_mono _ _, vI_mono _ _, vI_mono _ _, vI_mono _ _, vI_mono _ _, vI_mono _ _, vI_mono _ _, vI_mono _ _, vI_mono _ _, vI_mono _ _, vI_mono _ _, vI_mono _ _, vI_mono _ _, vI_mono _ _, vI_mono _ _, vI_mono _ _, vI_mono _ _, pI_mono ox1P_mono, pI_mono apI_mono, trivial⟩
                  refine wp_region_sj (JO wr (fun k => (Value.slice t1 nX c1).ownBlock = some k)) 21 [vI 0 (.pointer (some ⟨bm, 4, none⟩)), vI 1 (.slice t1 nX c1), vI 2 (.slice (some ⟨gK, 0, none⟩) nT cK), vI 3 (.slice (some ⟨gC, 0, none⟩) N cC), vI 4 (.pointer (some ⟨w.heap.size, 4, none⟩)), vI 5 (.slice (some ⟨gX, oX, none⟩) lN cN), vI 6 (.slice (some ⟨gK, 0, none⟩) nT cK), vI 7 (.int .i64 (i : Int)), vI 8 (.pointer (some ⟨gK, i, none⟩)), vI 9 (.int .i64 (s : Int)), vI 10 (.pointer (some ⟨w.heap.size, 1, none⟩)), vI 11 (.int .i64 (M : Int)), vI 12 (.int .i64 (m1 : Int)), vI 13 (.int .i64 (a : Int)), vI 14 (.int .i64 (a1 : Int)), vI 15 (.pointer (some ⟨gX, oX + a1, none⟩)), vI 16 (.int .i64 (dq : Int)), vI 17 (.pointer (some ⟨gC, dq, none⟩)), vI 18 (.int .i64 (q : Int)), vI 19 (.int .i64 (j : Int)), pI 20 (ox1P wr.heap.size (.int .i64 (j : Int))), pI 21 (apI bm (X ++ [j]) (Value.slice t1 nX c1).ownBlock wr.heap.size)] (by kernel_rfl) (JO_first ⟨rfl, rfl, rfl, Nat.le_refl _, fun _ _ => rfl⟩) (by kernel_rfl) (by kernel_rfl) (by kernel_rfl) (by kernel_rfl) hmo ⟨?o0, ?o1, ?o2, ?o3, ?o4, ?o5, ?o6, ?o7, ?o8, ?o9, ?o10, ?o11, ?o12, ?o13, ?o14, ?o15, ?o16, ?o17, ?o18, ?o19, ?o20, ?o21, trivial⟩ ?fin
                  case o0 =>
                    intro At yy W bb hy hb hbb d hz hd K hK
                    have s10 : At.tmps.getD 10 undef = .pointer (some ⟨bm, 0, none⟩) := hb 10 rfl
                    have s10' := s10
                    rw [Array.getD_eq_getD_getElem?] at s10'
                    clear hd hy hb
                    go_simp
                    exact hK.out _ W (stpj_of hmo d (Below.refl _ _)) (if_pos rfl)
                  case o1 =>
                    intro At yy W bb hy hb hbb d hz hd K hK
                    have e0 : yy 0 = .pointer (some ⟨bm, 4, none⟩) := by obtain ⟨_, _, _, _, e⟩ := hd ⟨0, .data⟩ (by simp) rfl rfl; exact e
                    have s83 := (hy 0 _ 83 rfl rfl).trans e0
                    have s83' := s83
                    rw [Array.getD_eq_getD_getElem?] at s83'
                    clear hd hy hb
                    have y4 : W.cell? ⟨bm, 4, none⟩ = some (.slice t1 nX c1) := cell_of (JO_blk d HBX.out.1 HBX.out.2) rfl
                    go_simp
                    exact hK.out _ W (stpj_of hmo d (Below.refl _ _)) (if_pos rfl)
                  case o2 =>
                    intro At yy W bb hy hb hbb d hz hd K hK
                    have s8 : At.tmps.getD 8 undef = .slice (some ⟨gK, 0, none⟩) nT cK := hb 8 rfl
                    have s8' := s8
                    rw [Array.getD_eq_getD_getElem?] at s8'
                    clear hd hy hb
                    go_simp
                    exact hK.out _ W (stpj_of hmo d (Below.refl _ _)) (if_pos rfl)
                  case o3 =>
                    intro At yy W bb hy hb hbb d hz hd K hK
                    have s4 : At.tmps.getD 4 undef = .slice (some ⟨gC, 0, none⟩) N cC := hb 4 rfl
                    have s4' := s4
                    rw [Array.getD_eq_getD_getElem?] at s4'
                    clear hd hy hb
                    go_simp
                    exact hK.out _ W (stpj_of hmo d (Below.refl _ _)) (if_pos rfl)
                  case o4 =>
                    intro At yy W bb hy hb hbb d hz hd K hK
                    have s1 : At.tmps.getD 1 undef = .pointer (some ⟨w.heap.size, 0, none⟩) := hb 1 rfl
                    have s1' := s1
                    rw [Array.getD_eq_getD_getElem?] at s1'
                    clear hd hy hb
                    go_simp
                    exact hK.out _ W (stpj_of hmo d (Below.refl _ _)) (if_pos rfl)
                  case o5 =>
                    intro At yy W bb hy hb hbb d hz hd K hK
                    have e4 : yy 4 = .pointer (some ⟨w.heap.size, 4, none⟩) := by obtain ⟨_, _, _, _, e⟩ := hd ⟨4, .data⟩ (by simp) rfl rfl; exact e
                    have s87 := (hy 4 _ 87 rfl rfl).trans e4
                    have s87' := s87
                    rw [Array.getD_eq_getD_getElem?] at s87'
                    clear hd hy hb
                    have yN : W.cell? ⟨w.heap.size, 4, none⟩ = some (.slice (some ⟨gX, oX, none⟩) lN cN) := (HNA.out W (HTB.out W _ d)).2.2
                    go_simp
                    exact hK.out _ W (stpj_of hmo d (Below.refl _ _)) (if_pos rfl)
                  case o6 =>
                    intro At yy W bb hy hb hbb d hz hd K hK
                    have s8 : At.tmps.getD 8 undef = .slice (some ⟨gK, 0, none⟩) nT cK := hb 8 rfl
                    have s8' := s8
                    rw [Array.getD_eq_getD_getElem?] at s8'
                    clear hd hy hb
                    go_simp
                    exact hK.out _ W (stpj_of hmo d (Below.refl _ _)) (if_pos rfl)
                  case o7 =>
                    intro At yy W bb hy hb hbb d hz hd K hK
                    have s11 : At.tmps.getD 11 undef = .int .i64 (i : Int) := hb 11 rfl
                    have s11' := s11
                    rw [Array.getD_eq_getD_getElem?] at s11'
                    clear hd hy hb
                    go_simp
                    exact hK.out _ W (stpj_of hmo d (Below.refl _ _)) (if_pos rfl)
                  case o8 =>
                    intro At yy W bb hy hb hbb d hz hd K hK
                    have e6 : yy 6 = .slice (some ⟨gK, 0, none⟩) nT cK := by obtain ⟨_, _, _, _, e⟩ := hd ⟨6, .data⟩ (by simp) rfl rfl; exact e
                    have e7 : yy 7 = .int .i64 (i : Int) := by obtain ⟨_, _, _, _, e⟩ := hd ⟨7, .data⟩ (by simp) rfl rfl; exact e
                    have s89 := (hy 6 _ 89 rfl rfl).trans e6
                    have s89' := s89
                    rw [Array.getD_eq_getD_getElem?] at s89'
                    have s90 := (hy 7 _ 90 rfl rfl).trans e7
                    have s90' := s90
                    rw [Array.getD_eq_getD_getElem?] at s90'
                    clear hd hy hb
                    go_simp
                    exact hK.out _ W (stpj_of hmo d (Below.refl _ _)) (if_pos rfl)
                  case o9 =>
                    intro At yy W bb hy hb hbb d hz hd K hK
                    have e8 : yy 8 = .pointer (some ⟨gK, i, none⟩) := by obtain ⟨_, _, _, _, e⟩ := hd ⟨8, .data⟩ (by simp) rfl rfl; exact e
                    have s91 := (hy 8 _ 91 rfl rfl).trans e8
                    have s91' := s91
                    rw [Array.getD_eq_getD_getElem?] at s91'
                    clear hd hy hb
                    have yK : W.cell? ⟨gK, i, none⟩ = some (.int .i64 (s : Int)) := HTA.out W (HTB.out W _ d)
                    go_simp
                    exact hK.out _ W (stpj_of hmo d (Below.refl _ _)) (if_pos rfl)
                  case o10 =>
                    intro At yy W bb hy hb hbb d hz hd K hK
                    have s1 : At.tmps.getD 1 undef = .pointer (some ⟨w.heap.size, 0, none⟩) := hb 1 rfl
                    have s1' := s1
                    rw [Array.getD_eq_getD_getElem?] at s1'
                    clear hd hy hb
                    go_simp
                    exact hK.out _ W (stpj_of hmo d (Below.refl _ _)) (if_pos rfl)
                  case o11 =>
                    intro At yy W bb hy hb hbb d hz hd K hK
                    have e10 : yy 10 = .pointer (some ⟨w.heap.size, 1, none⟩) := by obtain ⟨_, _, _, _, e⟩ := hd ⟨10, .data⟩ (by simp) rfl rfl; exact e
                    have s93 := (hy 10 _ 93 rfl rfl).trans e10
                    have s93' := s93
                    rw [Array.getD_eq_getD_getElem?] at s93'
                    clear hd hy hb
                    have yM : W.cell? ⟨w.heap.size, 1, none⟩ = some (.int .i64 (M : Int)) := cell_of (HG.out W (HTB.out W _ d)).1 rfl
                    go_simp
                    exact hK.out _ W (stpj_of hmo d (Below.refl _ _)) (if_pos rfl)
                  case o12 =>
                    intro At yy W bb hy hb hbb d hz hd K hK
                    have e9 : yy 9 = .int .i64 (s : Int) := by obtain ⟨_, _, _, _, e⟩ := hd ⟨9, .data⟩ (by simp) rfl rfl; exact e
                    have e11 : yy 11 = .int .i64 (M : Int) := by obtain ⟨_, _, _, _, e⟩ := hd ⟨11, .data⟩ (by simp) rfl rfl; exact e
                    have s92 := (hy 9 _ 92 rfl rfl).trans e9
                    have s92' := s92
                    rw [Array.getD_eq_getD_getElem?] at s92'
                    have s94 := (hy 11 _ 94 rfl rfl).trans e11
                    have s94' := s94
                    rw [Array.getD_eq_getD_getElem?] at s94'
                    clear hd hy hb
                    go_simp
                    exact hK.out _ W (stpj_of hmo d (Below.refl _ _)) (if_pos rfl)
                  case o13 =>
                    intro At yy W bb hy hb hbb d hz hd K hK
                    have s12 : At.tmps.getD 12 undef = .int .i64 (a : Int) := hb 12 rfl
                    have s12' := s12
                    rw [Array.getD_eq_getD_getElem?] at s12'
                    clear hd hy hb
                    go_simp
                    exact hK.out _ W (stpj_of hmo d (Below.refl _ _)) (if_pos rfl)
                  case o14 =>
                    intro At yy W bb hy hb hbb d hz hd K hK
                    have e12 : yy 12 = .int .i64 (m1 : Int) := by obtain ⟨_, _, _, _, e⟩ := hd ⟨12, .data⟩ (by simp) rfl rfl; exact e
                    have e13 : yy 13 = .int .i64 (a : Int) := by obtain ⟨_, _, _, _, e⟩ := hd ⟨13, .data⟩ (by simp) rfl rfl; exact e
                    have s95 := (hy 12 _ 95 rfl rfl).trans e12
                    have s95' := s95
                    rw [Array.getD_eq_getD_getElem?] at s95'
                    have s96 := (hy 13 _ 96 rfl rfl).trans e13
                    have s96' := s96
                    rw [Array.getD_eq_getD_getElem?] at s96'
                    clear hd hy hb
                    go_simp
                    exact hK.out _ W (stpj_of hmo d (Below.refl _ _)) (if_pos rfl)
                  case o15 =>
                    intro At yy W bb hy hb hbb d hz hd K hK
                    have e5 : yy 5 = .slice (some ⟨gX, oX, none⟩) lN cN := by obtain ⟨_, _, _, _, e⟩ := hd ⟨5, .data⟩ (by simp) rfl rfl; exact e
                    have e14 : yy 14 = .int .i64 (a1 : Int) := by obtain ⟨_, _, _, _, e⟩ := hd ⟨14, .data⟩ (by simp) rfl rfl; exact e
                    have s88 := (hy 5 _ 88 rfl rfl).trans e5
                    have s88' := s88
                    rw [Array.getD_eq_getD_getElem?] at s88'
                    have s97 := (hy 14 _ 97 rfl rfl).trans e14
                    have s97' := s97
                    rw [Array.getD_eq_getD_getElem?] at s97'
                    clear hd hy hb
                    go_simp
                    exact hK.out _ W (stpj_of hmo d (Below.refl _ _)) (if_pos rfl)
                  case o16 =>
                    intro At yy W bb hy hb hbb d hz hd K hK
                    have e15 : yy 15 = .pointer (some ⟨gX, oX + a1, none⟩) := by obtain ⟨_, _, _, _, e⟩ := hd ⟨15, .data⟩ (by simp) rfl rfl; exact e
                    have s98 := (hy 15 _ 98 rfl rfl).trans e15
                    have s98' := s98
                    rw [Array.getD_eq_getD_getElem?] at s98'
                    clear hd hy hb
                    have yX : W.cell? ⟨gX, oX + a1, none⟩ = some (.int .i64 (dq : Int)) := (HNA.out W (HTB.out W _ d)).1
                    go_simp
                    exact hK.out _ W (stpj_of hmo d (Below.refl _ _)) (if_pos rfl)
                  case o17 =>
                    intro At yy W bb hy hb hbb d hz hd K hK
                    have e3 : yy 3 = .slice (some ⟨gC, 0, none⟩) N cC := by obtain ⟨_, _, _, _, e⟩ := hd ⟨3, .data⟩ (by simp) rfl rfl; exact e
                    have e16 : yy 16 = .int .i64 (dq : Int) := by obtain ⟨_, _, _, _, e⟩ := hd ⟨16, .data⟩ (by simp) rfl rfl; exact e
                    have s86 := (hy 3 _ 86 rfl rfl).trans e3
                    have s86' := s86
                    rw [Array.getD_eq_getD_getElem?] at s86'
                    have s99 := (hy 16 _ 99 rfl rfl).trans e16
                    have s99' := s99
                    rw [Array.getD_eq_getD_getElem?] at s99'
                    clear hd hy hb
                    go_simp
                    exact hK.out _ W (stpj_of hmo d (Below.refl _ _)) (if_pos rfl)
                  case o18 =>
                    intro At yy W bb hy hb hbb d hz hd K hK
                    have e17 : yy 17 = .pointer (some ⟨gC, dq, none⟩) := by obtain ⟨_, _, _, _, e⟩ := hd ⟨17, .data⟩ (by simp) rfl rfl; exact e
                    have s100 := (hy 17 _ 100 rfl rfl).trans e17
                    have s100' := s100
                    rw [Array.getD_eq_getD_getElem?] at s100'
                    clear hd hy hb
                    have yC : W.cell? ⟨gC, dq, none⟩ = some (.int .i64 (q : Int)) := (HNA.out W (HTB.out W _ d)).2.1
                    go_simp
                    exact hK.out _ W (stpj_of hmo d (Below.refl _ _)) (if_pos rfl)
                  case o19 =>
                    intro At yy W bb hy hb hbb d hz hd K hK
                    have e2 : yy 2 = .slice (some ⟨gK, 0, none⟩) nT cK := by obtain ⟨_, _, _, _, e⟩ := hd ⟨2, .data⟩ (by simp) rfl rfl; exact e
                    have e18 : yy 18 = .int .i64 (q : Int) := by obtain ⟨_, _, _, _, e⟩ := hd ⟨18, .data⟩ (by simp) rfl rfl; exact e
                    have s85 := (hy 2 _ 85 rfl rfl).trans e2
                    have s85' := s85
                    rw [Array.getD_eq_getD_getElem?] at s85'
                    have s101 := (hy 18 _ 101 rfl rfl).trans e18
                    have s101' := s101
                    rw [Array.getD_eq_getD_getElem?] at s101'
                    clear hd hy hb
                    go_simp
                    go_wp2_with (go_at_call 50; refine (TPl.out _ (HTB.out _ _ d)).mono ?_; rintro e wa ⟨rfl, da⟩)
                    exact hK.out _ wa (stpj_of hmo (JO_on d da) da) (if_pos rfl)
                  case o20 =>
                    intro At yy W bb hy hb hbb d hz hd K hK
                    have e19 : yy 19 = .int .i64 (j : Int) := by obtain ⟨_, _, _, _, e⟩ := hd ⟨19, .data⟩ (by simp) rfl rfl; exact e
                    have s102 := (hy 19 _ 102 rfl rfl).trans e19
                    have s102' := s102
                    rw [Array.getD_eq_getD_getElem?] at s102'
                    clear hd hy hb
                    go_simp
                    exact hK.out _ _ (stpj_of hmo (JO_on d ((Below.refl _ _).alloc (Nat.le_refl _) _)) ((Below.refl _ _).alloc (Nat.le_refl _) _)) ⟨if_pos rfl, hz, by simp, World.alloc_heap_new _ _⟩
                  case o21 =>
                    intro At yy W bb hy hb hbb d hz hd K hK
                    have e1 : yy 1 = .slice t1 nX c1 := by obtain ⟨_, _, _, _, e⟩ := hd ⟨1, .data⟩ (by simp) rfl rfl; exact e
                    have f20 := hd ⟨20, .data⟩ (by simp) rfl rfl
                    obtain ⟨lo2, hi2, hl2, hh2, e20, b2, l2', z2⟩ := f20
                    have s84 := (hy 1 _ 84 rfl rfl).trans e1
                    have s84' := s84
                    rw [Array.getD_eq_getD_getElem?] at s84'
                    have s103 := (hy 20 _ 103 rfl rfl).trans e20
                    have s103' := s103
                    rw [Array.getD_eq_getD_getElem?] at s103'
                    clear hd hb
                    have hb0 := hbb rfl
                    subst hb0
                    refine step_appI rfl _ _ rfl bm (.slice t1 nX c1) X s84 (own_below HOX.out (d.1 rfl)) lo2 j s103 z2 hXl (Nat.le_trans hBm hz) ?_
                    intro v4 w4 ho4 hg4 hv4
                    exact hK.out _ w4 (stpj_keeps [] rfl (JO_put d hg4.out) hg4.out.size ⟨.inr (fun _ _ _ h => h), .inr (fun _ _ _ h => h), .inr (fun _ _ _ h => h), .inr (fun _ _ _ h => h), .inr (fun _ _ _ h => h), .inr (fun _ _ _ h => h), .inr (fun _ _ _ h => h), .inr (fun _ _ _ h => h), .inr (fun _ _ _ h => h), .inr (fun _ _ _ h => h), .inr (fun _ _ _ h => h), .inr (fun _ _ _ h => h), .inr (fun _ _ _ h => h), .inr (fun _ _ _ h => h), .inr (fun _ _ _ h => h), .inr (fun _ _ _ h => h), .inr (fun _ _ _ h => h), .inr (fun _ _ _ h => h), .inr (fun _ _ _ h => h), .inr (fun _ _ _ h => h), .inr (fun _ _ hh h => ox1P_keep hh h hg4.out HLO.out), .inl (by simp), trivial⟩) ⟨v4, if_pos rfl, ho4, fun k hk => (hv4 k hk).imp id (Nat.le_trans hz)⟩
                  case fin =>
                    intro yy lo hi W hM
                    show wpList _ _ _ [_, _] _ _
                    have e0 : yy 0 = .pointer (some ⟨bm, 4, none⟩) := hM.fact 0 (by simp) rfl (notR_all 0 rfl)
                    have e1 : yy 1 = .slice t1 nX c1 := hM.fact 1 (by simp) rfl (notR_all 1 rfl)
                    have e2 : yy 2 = .slice (some ⟨gK, 0, none⟩) nT cK := hM.fact 2 (by simp) rfl (notR_all 2 rfl)
                    have e3 : yy 3 = .slice (some ⟨gC, 0, none⟩) N cC := hM.fact 3 (by simp) rfl (notR_all 3 rfl)
                    have e4 : yy 4 = .pointer (some ⟨w.heap.size, 4, none⟩) := hM.fact 4 (by simp) rfl (notR_all 4 rfl)
                    have e5 : yy 5 = .slice (some ⟨gX, oX, none⟩) lN cN := hM.fact 5 (by simp) rfl (notR_all 5 rfl)
                    have e6 : yy 6 = .slice (some ⟨gK, 0, none⟩) nT cK := hM.fact 6 (by simp) rfl (notR_all 6 rfl)
                    have e7 : yy 7 = .int .i64 (i : Int) := hM.fact 7 (by simp) rfl (notR_all 7 rfl)
                    have e8 : yy 8 = .pointer (some ⟨gK, i, none⟩) := hM.fact 8 (by simp) rfl (notR_all 8 rfl)
                    have e9 : yy 9 = .int .i64 (s : Int) := hM.fact 9 (by simp) rfl (notR_all 9 rfl)
                    have e10 : yy 10 = .pointer (some ⟨w.heap.size, 1, none⟩) := hM.fact 10 (by simp) rfl (notR_all 10 rfl)
                    have e11 : yy 11 = .int .i64 (M : Int) := hM.fact 11 (by simp) rfl (notR_all 11 rfl)
                    have e12 : yy 12 = .int .i64 (m1 : Int) := hM.fact 12 (by simp) rfl (notR_all 12 rfl)
                    have e13 : yy 13 = .int .i64 (a : Int) := hM.fact 13 (by simp) rfl (notR_all 13 rfl)
                    have e14 : yy 14 = .int .i64 (a1 : Int) := hM.fact 14 (by simp) rfl (notR_all 14 rfl)
                    have e15 : yy 15 = .pointer (some ⟨gX, oX + a1, none⟩) := hM.fact 15 (by simp) rfl (notR_all 15 rfl)
                    have e16 : yy 16 = .int .i64 (dq : Int) := hM.fact 16 (by simp) rfl (notR_all 16 rfl)
                    have e17 : yy 17 = .pointer (some ⟨gC, dq, none⟩) := hM.fact 17 (by simp) rfl (notR_all 17 rfl)
                    have e18 : yy 18 = .int .i64 (q : Int) := hM.fact 18 (by simp) rfl (notR_all 18 rfl)
                    have e19 : yy 19 = .int .i64 (j : Int) := hM.fact 19 (by simp) rfl (notR_all 19 rfl)
                    obtain ⟨v4, e21, O21, B21⟩ := hM.fact 21 (by simp) rfl (notR_all 21 rfl)
                    obtain ⟨e20, _, _, _⟩ := hM.fact 20 (by simp) rfl (notR_all 20 rfl)
                    have dd : JO wr (fun k => (Value.slice t1 nX c1).ownBlock = some k) true W := hM.d
                    simp only [fills, Act.put, List.take, List.length, List.setIfInBounds_toArray, List.set_cons_zero, List.set_cons_succ, e0, e1, e2, e3, e4, e5, e6, e7, e8, e9, e10, e11, e12, e13, e14, e15, e16, e17, e18, e19, e20, e21]
                    generalize lo 20 = p8
                    obtain ⟨b4, c4, e4⟩ := own_slice O21
                    subst e4
                    clear hM hmo e0 e1 e2 e3 e4 e5 e6 e7 e8 e9 e10 e11 e12 e13 e14 e15 e16 e17 e18 e19 e20 e21
                    have HF9 := hide (HPW.out W (.slice b4 (natI (X ++ [j])).length c4) dd.2 O21 B21)
                    have y6 : W.cell? ⟨bm, 4, none⟩ = some (.slice t1 nX c1) := cell_of (JO_blk dd HBX.out.1 HBX.out.2) rfl
                    have g6 : W.frozen? ⟨bm, 4, none⟩ = false := fz_of (JO_blk dd HBX.out.1 HBX.out.2)
                    clear O21 B21 dd
                    go_wp2_with fail
                    go_roundw
                    case rel => exact ⟨a + 1, by omega, by go_num, vF2, _, hide (by rw [HXE.out]; exact HF9.out)⟩
                    case measure => simp [intOf]; omega
                · have j0 : ¬ (a : Int) < (M : Int) := by omega
                  have haE : a = M := by omega
                  subst a
                  have HJ : Hid (LS bm nT M w9 wr vF2 vN2 (natI (lsF (inF Fi) T (i + 1))) (natI (lsN φ M T (i + 1)))) := hide (by
                    rw [lsN_succ φ M T i hiT, HS9.out]
                    exact HI.out)
                  have hN4' := HB.out.2.2.2.2.2.2.1
                  have hTN' := HX.out.2.1
                  clear haM hal
                  go_wp2_with fail
                  go_roundw
                  case rel => exact ⟨i + 1, by omega, by go_num, vF2, vN2, HJ⟩
                  case measure => simp [intOf]; omega
        · have l0 : ¬ (i : Int) < (nT : Int) := by omega
          have hEi : i = nT := by omega
          subst i
          obtain ⟨bF9, cF2, hvF⟩ := own_slice HI.out.f
          obtain ⟨bN9, cN2, hvN⟩ := own_slice HI.out.n
          obtain ⟨mF, hmF⟩ : ∃ m, (natI (lsF (inF Fi) T nT)).length = m := ⟨_, rfl⟩
          obtain ⟨mN, hmN⟩ : ∃ m, (natI (lsN φ M T nT)).length = m := ⟨_, rfl⟩
          rw [hmF] at hvF
          rw [hmN] at hvN
          subst hvF
          subst hvN
          have HMM := hide (And.intro hmF hmN)
          clear hmF hmN
          have x0 : wr.cell? ⟨bm, 0, none⟩ = some (.int .i64 (nT : Int)) := cell_of HI.out.bx rfl
          have x1 : wr.cell? ⟨bm, 1, none⟩ = some (.int .i64 (M : Int)) := cell_of HI.out.bx rfl
          have x2 : wr.cell? ⟨bm, 2, none⟩ = some (.int .i64 0) := cell_of HI.out.bx rfl
          have x3 : wr.cell? ⟨bm, 3, none⟩ = some (.slice bF9 mF cF2) := cell_of HI.out.bx rfl
          have x4 : wr.cell? ⟨bm, 4, none⟩ = some (.slice bN9 mN cN2) := cell_of HI.out.bx rfl
          have B5 := HGI.out.2.1
          have r0 : wr.cell? ⟨w.heap.size + 1, 0, none⟩ = some (.int .i64 0) := cell_of B5 rfl
          have r1 : wr.cell? ⟨w.heap.size + 1, 1, none⟩ = some (.int .i64 0) := cell_of B5 rfl
          have r2 : wr.cell? ⟨w.heap.size + 1, 2, none⟩ = some (.int .i64 0) := cell_of B5 rfl
          have r3 : wr.cell? ⟨w.heap.size + 1, 3, none⟩ = some (.slice none 0 0) := cell_of B5 rfl
          have r4 : wr.cell? ⟨w.heap.size + 1, 4, none⟩ = some (.slice none 0 0) := cell_of B5 rfl
          have f0 : wr.frozen? ⟨w.heap.size + 1, 0, none⟩ = false := fz_of B5
          have f1 : wr.frozen? ⟨w.heap.size + 1, 1, none⟩ = false := fz_of B5
          have f2 : wr.frozen? ⟨w.heap.size + 1, 2, none⟩ = false := fz_of B5
          have f3 : wr.frozen? ⟨w.heap.size + 1, 3, none⟩ = false := fz_of B5
          have f4 : wr.frozen? ⟨w.heap.size + 1, 4, none⟩ = false := fz_of B5
          have O6 := hide (And.intro (set5 wr (w.heap.size + 1) _ _ _ _ _ (.int .i64 (nT : Int)) (.int .i64 (M : Int)) (.int .i64 0) (.slice bF9 mF cF2) (.slice bN9 mN cN2) 24 B5) (And.intro (only5 wr (w.heap.size + 1) (.int .i64 (nT : Int)) (.int .i64 (M : Int)) (.int .i64 0) (.slice bF9 mF cF2) (.slice bN9 mN cN2)) B5))
          clear B5 hi hil l0
          go_wp2_with fail
          refine bodyPost_ret (results_c1 (p := 2) (q := 3) (ty := 24) rfl _ _ (w.heap.size + 1) 24 _ (0, 0) _ (.int .i64 0) rfl rfl O6.out.1 Try.underlying24 rfl (by kernel_rfl)) rfl ?_
          have D1 : Below w.heap.size w wr := HGI.out.2.2.2.2.2.2.1
          have hbm2 : w.heap.size ≤ bm := by have := HX.out.2.2; omega
          rw [HX.out.1]
          refine ⟨bF9, cF2, bN9, cN2, by rw [HMM.out.1, HMM.out.2], hide ⟨?_, ?_, ?_, D1.trans (O6.out.2.1.toBelow D1.size (fun k hk => by omega))⟩⟩
          · rw [HMM.out.1]
            exact owns_down (own_keep HI.out.f O6.out.2.2 (by decide) O6.out.2.1) hbm2
          · rw [HMM.out.2]
            exact owns_down (own_keep HI.out.n O6.out.2.2 (by decide) O6.out.2.1) hbm2
          · rw [HMM.out.1, HMM.out.2]
            exact HI.out.ap
/-- The reference's Minimal, whatever it is asked. -/
theorem rminimal_uni (w : World) (N M st : Int) (aF aN : Option Addr) (lF cF lN cN : Nat) (Fi Nx : List Int) (hF : RdN w aF Fi) (hN : RdN w aN Nx) (hlF : Fi.length = lF) (hlN : Nx.length = lN) (bF : lF ≤ 4194304) (bN : lN ≤ 4194304) :
    Calls Try.prog 25 #[.agg #[.int .i64 N, .int .i64 M, .int .i64 st, .slice aF lF cF, .slice aN lN cN]] w (MnU w (mnN N M st Fi Nx) (mnM N M st Fi Nx) (mnFl N M st Fi Nx) (mnXl N M st Fi Nx) (clE N M st Fi Nx)) := by
  cases hv : vd N M st Fi Nx with
  | false =>
    have z := mn_bad hv
    rw [z.1, z.2.1, (cl_bad hv).1]
    refine (rminimal_bad w N M st aF aN lF cF lN cN Fi Nx hF hN hlF hlN bF bN hv).mono ?_
    rintro e w' ⟨rfl, d⟩
    exact mnU_nil z.2.2.1 z.2.2.2 d
  | true =>
    obtain ⟨n, m, s, rfl, rfl, rfl, _⟩ := vd_nat hv
    have z := mn_ok hv
    rw [z.1, z.2.1, z.2.2.1, z.2.2.2, (cl_ok hv).1]
    exact rminimal_ok w n m s aF aN lF cF lN cN Fi Nx hF hN hlF hlN bF bN hv
end Go.Proofs.Ytocoghljmlpdeaa
namespace Go.Proofs.Ytocoghljmlpdeaa.ov
open Go.RowKit Go.Maps Go.Shelf
attribute [local go_sem] Oper.semAt_some
/-- append of one item: in its row, or in a new block, and then nothing that was there has turned. -/
theorem app_gen {T e : TypeId} {sz bytes : Nat} {i : TypeInfo} {z : Value} (hT : Try.prog.underlying T = some (.slice e)) (hi : Try.prog.info? e = some i) (hz0 : i.zero = some z) (hz1 : i.size = sz) (hz2 : i.bytes = bytes) (hzs : z.cells.size = sz) (hsz : 0 < sz) (hby : bytes ≤ 48)
    (w : World) (ty : TypeId) (v : Value) (n : Nat) (xs ys : List Value) (hown : w.ownsRow 0 e sz v n xs) (ad : Addr) (hys : ys.length = 1 * sz) (hnews : ∀ j u, ys[j]? = some u → w.cell? (ad.add j) = some u) (hone : ∀ u ∈ ys, u.oneCell' = true) (hl : n ≤ 4194304) :
    ∃ gv cv w', (Builtin.append_ #[T, T] ty #[v, .slice (some ad) 1 1]).run Try.prog w = .ok (.slice (some ⟨gv, 0, none⟩) (n + 1) cv) w' ∧ w'.ownsRow 0 e sz (.slice (some ⟨gv, 0, none⟩) (n + 1) cv) (n + 1) (xs ++ ys) ∧
      ((v.ownBlock = some gv ∧ w.grownBy w' (some gv)) ∨ (gv = w.heap.size ∧ w.grownBy w' none)) := by
  have hb48 : (n + 1) * bytes ≤ (n + 1) * 48 := Nat.mul_le_mul_left _ hby
  obtain ⟨v', w', hr, h2, h3, _, h4⟩ := run_append_own_at (P := Try.prog) w 0 T ty e i z sz bytes hT hi hz0 hz1 hz2 hzs hsz v n xs hown ad 1 1 ys hys hnews hone (by unfold maxLen; omega) (by omega) (Nat.zero_le _)
  obtain ⟨gv, cv, rfl, _, _⟩ := h2.form (by omega)
  refine ⟨gv, cv, w', hr, h2, ?_⟩
  rcases hown.2 with ⟨rfl, hn⟩ | ⟨g, cap, cur, rfl, hb, hg, hnc, hcm, hcs, htake⟩
  · right
    refine ⟨?_, h3⟩
    rcases h4 with e | e
    · simp [Value.ownBlock] at e
    · simpa [Value.ownBlock] using e
  · by_cases hroom : n + 1 ≤ cap
    · left
      have hr2 := run_append_room (P := Try.prog) w T ty e i hT hi g n cap cur hg ad 1 1 ys (by rw [hz1]; exact hys) hnews hone hroom (by rw [hz1, hys]; have : (n + 1) * sz ≤ cap * sz := Nat.mul_le_mul_right _ hroom; rw [Nat.add_mul] at this; omega)
      rw [hr] at hr2
      simp only [Result.ok.injEq, Value.slice.injEq, Option.some.injEq, Addr.mk.injEq] at hr2
      have e : gv = g := hr2.1.1.1
      subst e
      exact ⟨rfl, h3⟩
    · right
      have holds : ∀ j u, xs[j]? = some u → w.cell? ((⟨g, 0, none⟩ : Addr).add j) = some u := World.ownsRow.cells hown (g := g) rfl
      have hr2 := run_append_grow (P := Try.prog) w T ty e i _ hT hi hz0 ⟨g, 0, none⟩ n cap xs (by rw [hz1]; exact hown.1) holds ad 1 1 ys (by rw [hz1]; exact hys) hnews (by omega) (by omega) (growslice_fits (by omega) (by rw [hz2]; omega))
      rw [hr] at hr2
      simp only [Result.ok.injEq, Value.slice.injEq, Option.some.injEq, Addr.mk.injEq] at hr2
      refine ⟨hr2.1.1.1, ?_⟩
      rw [hr2.2]
      exact ⟨rfl, rfl, rfl, by simp, fun k hk _ => Below.heap_alloc w.drew _ k hk⟩
theorem Only.grown {w w' : World} {r : Option Nat} {R : Nat → Prop} (h : w.grownBy w' r) (hr : ∀ k, r = some k → R k) : Only w w' R :=
  ⟨h.os, h.tape, h.output, h.size, fun k hk hn => h.block k hk (fun e => hn (hr k e.symm))⟩
/-! ### Several rows that are written full, then grown -/
/-- The first i of a list are marks. -/
def gx {α : Type} (m : Nat → α) (d : α) (L : List α) (i : Nat) : List α := (List.range L.length).map fun j => if j < i then m j else L.getD j d
theorem gx_len {α : Type} (m : Nat → α) (d : α) (L : List α) (i : Nat) : (gx m d L i).length = L.length := by simp [gx]
theorem gx_zero {α : Type} (m : Nat → α) (d : α) (L : List α) : gx m d L 0 = L := by
  apply List.ext_getElem
  · simp [gx]
  · intro j h1 h2
    simp [gx, h2]
theorem gx_set {α : Type} (m : Nat → α) (d : α) (L : List α) (i : Nat) : (gx m d L i).set i (m i) = gx m d L (i + 1) := by
  apply List.ext_getElem
  · simp [gx]
  · intro j h1 h2
    have hj : j < L.length := by simpa [gx] using h2
    rw [List.getElem_set]
    by_cases e : i = j
    · subst e; simp [gx]
    · rw [if_neg e]
      simp only [gx, List.getElem_map, List.getElem_range]
      by_cases h : j < i
      · rw [if_pos h, if_pos (by omega)]
      · rw [if_neg h, if_neg (by omega)]
def upd {α : Type} (a : Nat → α) (i : Nat) (y : α) : Nat → α := fun j => if j = i then y else a j
/-- A slice's cells read as a list. -/
def Rv (W : World) (v : Value) (xs : List Value) : Prop := ∀ g, v.ownBlock = some g → ∀ j (h : j < xs.length), W.cell? ⟨g, j, none⟩ = some xs[j]
theorem rv_of {W : World} {B e sz n : Nat} {v : Value} {xs : List Value} (h : W.ownsRow B e sz v n xs) : Rv W v xs := fun g hg j hj => by
  have := h.cells hg j xs[j] (List.getElem?_eq_getElem hj)
  rwa [Addr.add_lit, Nat.zero_add] at this
theorem Rv.only {W W' : World} {v : Value} {xs : List Value} {R : Nat → Prop} (h : Rv W v xs) (o : Only W W' R) (hn : ∀ k, v.ownBlock = some k → ¬ R k) : Rv W' v xs := fun g hg j hj => by
  have c := h g hg j hj
  exact (World.cell?_of_block (w := W) (o.block g (World.block_lt_of_cell? W _ c) (hn g hg))).trans c
/-- What never changes: the rows lie in memory that was there, apart; the boxes lie in new memory. -/
structure Gst (w : World) (N : Nat) (v : Nat → Value) (bx : List (Nat × Array Value × TypeId)) : Prop where
  lt : ∀ i, i < N → ∀ k, (v i).ownBlock = some k → k < w.heap.size
  ap : ∀ i j, i < N → j < N → i ≠ j → ∀ k, (v i).ownBlock = some k → (v j).ownBlock ≠ some k
  bge : ∀ q ∈ bx, w.heap.size ≤ q.1
/-- While they are filled: of row i the first a i cells are marks. -/
structure Gf (w W : World) (N : Nat) (v : Nat → Value) (bx : List (Nat × Array Value × TypeId)) (e sz n : Nat → Nat) (mk : Nat → Nat → Value) (x : Nat → List Value) (a : Nat → Nat) : Prop where
  b : ∀ q ∈ bx, W.heap[q.1]? = some (.cells q.2.1 q.2.2 (0, 0))
  on : Only w W (fun k => ∃ i, i < N ∧ (v i).ownBlock = some k)
  r : ∀ i, i < N → W.ownsRow 0 (e i) (sz i) (v i) (n i) (gx (mk i) undef (x i) (a i))
section
variable {w W W' : World} {N : Nat} {v : Nat → Value} {bx : List (Nat × Array Value × TypeId)} {e sz n : Nat → Nat} {mk : Nat → Nat → Value} {x : Nat → List Value} {a : Nat → Nat}
theorem Gf.below (h : Gf w W N v bx e sz n mk x a) (d : Below W.heap.size W W') : Gf w W' N v bx e sz n mk x a :=
  ⟨fun q hq => (d.block _ (Array.getElem?_eq_some_iff.1 (h.b q hq)).1).trans (h.b q hq), h.on.trans (Only.ofBelow d), fun i hi => own_below (h.r i hi) d⟩
theorem Gf.put (s : Gst w N v bx) (h : Gf w W N v bx e sz n mk x a) (i : Nat) (hi : i < N) {g cap m : Nat} (hv : v i = .slice (some ⟨g, 0, none⟩) m cap) (hm : n i = m) (u : Value) (hu : mk i (a i) = u) : Gf w (W.setCell ⟨g, a i, none⟩ u) N v bx e sz n mk x (upd a i (a i + 1)) := by
  have hg : (v i).ownBlock = some g := by rw [hv]; rfl
  have o1 := only_set W g (a i) u
  refine ⟨fun q hq => (o1.block _ (Array.getElem?_eq_some_iff.1 (h.b q hq)).1 ?_).trans (h.b q hq), h.on.trans (o1.mono fun k _ z => ⟨i, hi, by rw [z]; exact hg⟩), fun j hj => ?_⟩
  · have := s.bge q hq
    have := s.lt i hi g hg
    omega
  · by_cases e1 : j = i
    · subst e1
      have k := h.r j hj
      rw [hv, hm] at k
      have k2 := (k.stored (a j) u).1
      rw [← hu, gx_set] at k2
      rw [hv, hm, hu] at *
      simpa [upd] using k2
    · have k := row_only (h.r j hj) o1 fun b q z => s.ap j i hj hi e1 b q (by rw [z]; exact hg)
      simpa [upd, e1] using k
theorem gx_full (m : Nat → Value) (d : Value) (L : List Value) (i : Nat) (h : L.length ≤ i) : gx m d L i = (List.range L.length).map m := by
  apply List.ext_getElem
  · simp [gx]
  · intro j h1 h2
    simp only [gx, List.length_map, List.length_range] at h1
    simp only [gx, List.getElem_map, List.getElem_range]
    rw [if_pos (by omega)]
/-- While they are grown: each reads as it was written. -/
structure Gg (w W : World) (N : Nat) (v : Nat → Value) (bx : List (Nat × Array Value × TypeId)) (x : Nat → List Value) : Prop where
  b : ∀ q ∈ bx, W.heap[q.1]? = some (.cells q.2.1 q.2.2 (0, 0))
  on : Only w W (fun k => ∃ i, i < N ∧ (v i).ownBlock = some k)
  r : ∀ i, i < N → Rv W (v i) (x i)
theorem Gg.below {y : Nat → List Value} (h : Gg w W N v bx y) (d : Below W.heap.size W W') : Gg w W' N v bx y :=
  ⟨fun q hq => (d.block _ (Array.getElem?_eq_some_iff.1 (h.b q hq)).1).trans (h.b q hq), h.on.trans (Only.ofBelow d), fun i hi => (h.r i hi).only (Only.ofBelow (R := fun _ => False) d) fun _ _ z => z⟩
/-- A row that stays. -/
def Kr (W W' : World) (u : Value) : Prop := ∀ B e sz n xs, W.ownsRow B e sz u n xs → W'.ownsRow B e sz u n xs
/-- The row that is being grown. -/
structure Gx (w W : World) (v : Value) (bx : List (Nat × Array Value × TypeId)) (e sz n : Nat) (xs ys : List Value) (vm : Value) (j : Nat) : Prop where
  o : W.ownsRow 0 e sz vm (n + j) (xs ++ (List.replicate j ys).flatten)
  rel : vm.ownBlock = v.ownBlock ∨ ∃ b, vm.ownBlock = some b ∧ w.heap.size ≤ b ∧ ∀ q ∈ bx, q.1 ≠ b
theorem Gx.below {v : Value} {e sz n j : Nat} {xs ys : List Value} {vm : Value} (h : Gx w W v bx e sz n xs ys vm j) (d : Below W.heap.size W W') : Gx w W' v bx e sz n xs ys vm j := ⟨own_below h.o d, h.rel⟩
theorem Gx.zero {v : Value} {e sz n : Nat} {xs ys : List Value} (h : W.ownsRow 0 e sz v n xs) : Gx w W v bx e sz n xs ys v 0 := ⟨by simpa using h, .inl rfl⟩
theorem Gx.only {v : Value} {e sz n j : Nat} {xs ys : List Value} {vm : Value} {R : Nat → Prop} (h : Gx w W v bx e sz n xs ys vm j) (o : Only W W' R) (hn : ∀ k, vm.ownBlock = some k → ¬ R k) : Gx w W' v bx e sz n xs ys vm j := ⟨row_only h.o o hn, h.rel⟩
theorem Gf.full {z : Nat → Nat} (h : Gf w W N v bx e sz n mk x a) (hl : ∀ i, i < N → (x i).length = z i ∧ z i ≤ a i) : Gg w W N v bx (fun i => (List.range (z i)).map (mk i)) ∧ ∀ i, i < N → W.ownsRow 0 (e i) (sz i) (v i) (n i) ((List.range (z i)).map (mk i)) := by
  have k : ∀ i, i < N → W.ownsRow 0 (e i) (sz i) (v i) (n i) ((List.range (z i)).map (mk i)) := fun i hi => by
    obtain ⟨e1, e2⟩ := hl i hi
    have := h.r i hi
    rwa [gx_full _ _ _ _ (by omega), e1] at this
  exact ⟨⟨h.b, h.on, fun i hi => rv_of (k i hi)⟩, k⟩
end
theorem tag_ne2 {W : World} {B C e d sz tz n m k : Nat} {u v : Value} {xs ys : List Value} (h : W.ownsRow B e sz u n xs) (h' : W.ownsRow C d tz v m ys) (hed : e ≠ d) (q : u.ownBlock = some k) (z : v.ownBlock = some k) : False := by
  rcases h.2 with ⟨rfl, _⟩ | ⟨g, cap, cur, rfl, _, hg, _⟩
  · cases q
  · rcases h'.2 with ⟨rfl, _⟩ | ⟨g', cap', cur', rfl, _, hg', _⟩
    · cases z
    · cases q
      cases z
      rw [hg] at hg'
      cases hg'
      exact hed rfl
theorem upd_upd {α : Type} (a : Nat → α) (i : Nat) (x y : α) : upd (upd a i x) i y = upd a i y := by
  funext r
  unfold upd
  by_cases e : r = i
  · simp [e]
  · simp [e]
theorem upd_at {α : Type} (a : Nat → α) (i : Nat) (x : α) : upd a i x i = x := by simp [upd]
theorem cnewL (W : World) (xs : List Value) (t : TypeId) : ∀ j u, xs[j]? = some u → (W.alloc (.cells xs.toArray t)).cell? ((⟨W.heap.size, 0, none⟩ : Addr).add j) = some u := by
  intro j u hu
  rw [Addr.add_lit, Nat.zero_add]
  exact cell_of (World.alloc_heap_new W _) (by simpa using hu)
theorem Gf.puti {w W : World} {N : Nat} {v : Nat → Value} {bx : List (Nat × Array Value × TypeId)} {e sz n : Nat → Nat} {mk : Nat → Nat → Value} {x : Nat → List Value} {a : Nat → Nat} (s : Gst w N v bx) (i c : Nat) (h : Gf w W N v bx e sz n mk x (upd a i c)) (hi : i < N) {g cap m : Nat} (hv : v i = .slice (some ⟨g, 0, none⟩) m cap) (hm : n i = m) (u : Value) (hu : mk i c = u) : Gf w (W.setCell ⟨g, c, none⟩ u) N v bx e sz n mk x (upd a i (c + 1)) := by
  have k := Gf.put s h i hi hv hm u (by rw [upd_at]; exact hu)
  rwa [upd_at, upd_upd] at k
theorem Gf.cell {w W : World} {N : Nat} {v : Nat → Value} {bx : List (Nat × Array Value × TypeId)} {e sz n : Nat → Nat} {mk : Nat → Nat → Value} {x : Nat → List Value} {a : Nat → Nat} (h : Gf w W N v bx e sz n mk x a) (i : Nat) (hi : i < N) {ao : Option Addr} {cap m z : Nat} (hv : v i = .slice ao m cap) (hm : n i = m) (hz : sz i = z) (j : Nat) (hj : j < m * z) : ∃ g, ao = some ⟨g, 0, none⟩ ∧ ∀ c, c < m * z → (∃ u, W.cell? ⟨g, c, none⟩ = some u) ∧ W.frozen? ⟨g, c, none⟩ = false := by
  have k := h.r i hi
  rw [hv, hm, hz] at k
  obtain ⟨g, cp, e1, _, _⟩ := k.form (Nat.pos_of_ne_zero fun e0 => by rw [e0] at hj; omega)
  cases e1
  refine ⟨g, rfl, fun c hc => ⟨⟨_, rv_of k g rfl c (by rw [k.1]; exact hc)⟩, ?_⟩⟩
  rcases k.2 with ⟨e2, _⟩ | ⟨g', cap', cur, e2, _, hg, _⟩
  · cases e2
  · cases e2
    simp [World.frozen?, hg]
section
variable {w W W' : World} {N : Nat} {v : Nat → Value} {bx : List (Nat × Array Value × TypeId)} {e sz n : Nat → Nat} {mk : Nat → Nat → Value} {x : Nat → List Value} {a : Nat → Nat}
theorem gx_app2 {T E : TypeId} {sZ bytes : Nat} {inf : TypeInfo} {z0 : Value} (hT : Try.prog.underlying T = some (.slice E)) (hi : Try.prog.info? E = some inf) (hz0 : inf.zero = some z0) (hz1 : inf.size = sZ) (hz2 : inf.bytes = bytes) (hzs : z0.cells.size = sZ) (hsz : 0 < sZ) (hby : bytes ≤ 48)
    (s : Gst w N v bx) {y : Nat → List Value} (h : Gg w W N v bx y) (i : Nat) (hN : i < N) {m j : Nat} {ys : List Value} {vm : Value} (hx : Gx w W (v i) bx E sZ m (y i) ys vm j) (ty : TypeId) (ad : Addr) (hys : ys.length = 1 * sZ) (hnews : ∀ j u, ys[j]? = some u → W.cell? (ad.add j) = some u) (hone : ∀ u ∈ ys, u.oneCell' = true) (hl : m + j ≤ 4194304) :
    ∃ gv cv w', (Builtin.append_ #[T, T] ty #[vm, .slice (some ad) 1 1]).run Try.prog W = .ok (.slice (some ⟨gv, 0, none⟩) (m + j + 1) cv) w' ∧ Gx w w' (v i) bx E sZ m (y i) ys (.slice (some ⟨gv, 0, none⟩) (m + j + 1) cv) (j + 1) ∧ Gg w w' N v bx y ∧ Only W w' (fun k => vm.ownBlock = some k) ∧ (vm.ownBlock = some gv ∨ gv = W.heap.size) ∧ ∀ c, c < N → c ≠ i → Kr W w' (v c) := by
  obtain ⟨gv, cv, w', hr, ho, hd⟩ := app_gen hT hi hz0 hz1 hz2 hzs hsz hby W ty vm (m + j) _ ys hx.o ad hys hnews hone hl
  have ho' : w'.ownsRow 0 E sZ (.slice (some ⟨gv, 0, none⟩) (m + j + 1) cv) (m + (j + 1)) (y i ++ (List.replicate (j + 1) ys).flatten) := by
    rw [List.replicate_succ', List.flatten_append, ← List.append_assoc]
    simpa [Nat.add_assoc] using ho
  refine ⟨gv, cv, w', hr, ?_⟩
  rcases hd with ⟨hb, hg⟩ | ⟨rfl, hg⟩
  · have o1 : Only W w' (fun k => k = gv) := Only.grown hg fun k q => by cases q; rfl
    have o2 : Only W w' (fun k => vm.ownBlock = some k) := o1.mono fun k _ q => by rw [q]; exact hb
    rcases hx.rel with q | ⟨b, q, q1, q2⟩
    · have hvi : (v i).ownBlock = some gv := by rw [← q]; exact hb
      have hlt := s.lt i hN gv hvi
      refine ⟨⟨ho', .inl (by rw [hvi]; rfl)⟩, ⟨fun t ht => (o1.block _ (Array.getElem?_eq_some_iff.1 (h.b t ht)).1 ?_).trans (h.b t ht), h.on.trans (o1.mono fun k _ z => ⟨i, hN, by rw [z]; exact hvi⟩), fun c hc => ?_⟩, o2, .inl hb, fun c hc e1 _ _ _ _ _ hr => ?_⟩
      · have := s.bge t ht
        omega
      · by_cases e1 : c = i
        · subst e1
          intro g hg j hj
          rw [hvi] at hg
          cases hg
          have := rv_of ho' gv rfl j (by simp; omega)
          rw [this, List.getElem_append_left hj]
        · exact (h.r c hc).only o1 fun k qk z => s.ap c i hc hN e1 k qk (by rw [z]; exact hvi)
      · exact row_only hr o1 fun k qk z => s.ap c i hc hN e1 k qk (by rw [z]; exact hvi)
    · have e0 : b = gv := by rw [q] at hb; cases hb; rfl
      subst e0
      refine ⟨⟨ho', .inr ⟨b, rfl, q1, q2⟩⟩, ⟨fun t ht => (o1.block _ (Array.getElem?_eq_some_iff.1 (h.b t ht)).1 (q2 t ht)).trans (h.b t ht), h.on.andNew o1 fun k hk z => by omega, fun c hc => ?_⟩, o2, .inl hb, fun c hc _ _ _ _ _ _ hr => row_only hr o1 fun k qk z => by have := s.lt c hc k qk; omega⟩
      exact (h.r c hc).only o1 fun k qk z => by have := s.lt c hc k qk; omega
  · have o1 : Only W w' (fun _ => False) := Only.grown hg fun k q => by cases q
    have hs := h.on.size
    refine ⟨⟨ho', .inr ⟨W.heap.size, rfl, hs, fun t ht z => ?_⟩⟩, ⟨fun t ht => (o1.block _ (Array.getElem?_eq_some_iff.1 (h.b t ht)).1 fun z => z).trans (h.b t ht), h.on.andNew o1 fun k hk z => z.elim, fun c hc => (h.r c hc).only o1 fun _ _ z => z⟩, o1.mono fun _ _ z => z.elim, .inr rfl, fun c _ _ _ _ _ _ _ hr => row_only hr o1 fun _ _ z => z⟩
    have := (Array.getElem?_eq_some_iff.1 (h.b t ht)).1
    omega
theorem wpList_gx2 {T E : TypeId} {sZ bytes : Nat} {inf : TypeInfo} {z0 : Value} (hT : Try.prog.underlying T = some (.slice E)) (hi : Try.prog.info? E = some inf) (hz0 : inf.zero = some z0) (hz1 : inf.size = sZ) (hz2 : inf.bytes = bytes) (hzs : z0.cells.size = sZ) (hsz : 0 < sZ) (hby : bytes ≤ 48)
    (s : Gst w N v bx) {y : Nat → List Value} (h : Gg w W N v bx y) (i : Nat) (hN : i < N) {m j : Nat} {ys : List Value} {vm : Value} (hx : Gx w W (v i) bx E sZ m (y i) ys vm j) {ops : Array Oper} {rest : List Oper} {o : Oper} {ac : Act} {Q : Exit → Act → World → Prop} (hgd : o.guard = none) (s1 y1 : Operand)
    (ho : o.op = .call { callee := .builtin .append, args := #[s1, y1], argTypes := #[T, T] }) (hs : ac.eval s1 = vm) (ad : Addr) (hy : ac.eval y1 = .slice (some ad) 1 1) (hys : ys.length = 1 * sZ) (hnews : ∀ j u, ys[j]? = some u → W.cell? (ad.add j) = some u) (hone : ∀ u ∈ ys, u.oneCell' = true) (hl : m + j ≤ 4194304)
    (hK : ∀ gv cv w', Hid (Gx w w' (v i) bx E sZ m (y i) ys (.slice (some ⟨gv, 0, none⟩) (m + j + 1) cv) (j + 1) ∧ Gg w w' N v bx y ∧ Only W w' (fun k => vm.ownBlock = some k) ∧ (vm.ownBlock = some gv ∨ gv = W.heap.size) ∧ ∀ c, c < N → c ≠ i → Kr W w' (v c)) → wpList Try.prog ops Q rest (ac.put o.dst (.slice (some ⟨gv, 0, none⟩) (m + j + 1) cv)) w') :
    wpList Try.prog ops Q (o :: rest) ac W := by
  refine wpList_plain hgd fun K hKK => ?_
  obtain ⟨gv, cv, w', hr, h2, h3, h4⟩ := gx_app2 hT hi hz0 hz1 hz2 hzs hsz hby s h i hN hx o.type ad hys hnews hone hl
  unfold Oper.wp execOp
  simp only [ho, resolve, invoke, builtin, Sem.run_bind, Sem.run_pure, Result.andThen_ok, List.map_toArray, List.map_cons, List.map_nil, hs, hy, hr]
  exact hKK _ _ (hK gv cv w' (hide ⟨h2, h3, h4⟩))
end
theorem info22 : (Try.prog.info? 22).map (fun i => (i.zero, i.size, i.bytes)) = some (some (.slice none 0 0), 1, 24) := by kernel_rfl
/-- One item behind a row, as a step of the walk. -/
theorem wpList_appA {T e : TypeId} {sz bytes : Nat} {i : TypeInfo} {z : Value} (hT : Try.prog.underlying T = some (.slice e)) (hi : Try.prog.info? e = some i) (hz0 : i.zero = some z) (hz1 : i.size = sz) (hz2 : i.bytes = bytes) (hzs : z.cells.size = sz) (hsz : 0 < sz) (hby : bytes ≤ 48)
    {W : World} {ops : Array Oper} {rest : List Oper} {o : Oper} {ac : Act} {Q : Exit → Act → World → Prop} (hgd : o.guard = none) (s1 y1 : Operand) (ho : o.op = .call { callee := .builtin .append, args := #[s1, y1], argTypes := #[T, T] })
    (v : Value) (n : Nat) (xs ys : List Value) (hs : ac.eval s1 = v) (hown : W.ownsRow 0 e sz v n xs) (ad : Addr) (hy : ac.eval y1 = .slice (some ad) 1 1) (hys : ys.length = 1 * sz) (hnews : ∀ j u, ys[j]? = some u → W.cell? (ad.add j) = some u) (hone : ∀ u ∈ ys, u.oneCell' = true) (hl : n ≤ 4194304)
    (hK : ∀ gv cv w', Hid (w'.ownsRow 0 e sz (.slice (some ⟨gv, 0, none⟩) (n + 1) cv) (n + 1) (xs ++ ys)) → Hid ((v.ownBlock = some gv ∧ W.grownBy w' (some gv)) ∨ (gv = W.heap.size ∧ W.grownBy w' none)) → wpList Try.prog ops Q rest (ac.put o.dst (.slice (some ⟨gv, 0, none⟩) (n + 1) cv)) w') : wpList Try.prog ops Q (o :: rest) ac W := by
  refine wpList_plain hgd fun K hKK => ?_
  obtain ⟨gv, cv, w', hr, h2, h3⟩ := app_gen hT hi hz0 hz1 hz2 hzs hsz hby W o.type v n xs ys hown ad hys hnews hone hl
  unfold Oper.wp execOp
  simp only [ho, resolve, invoke, builtin, Sem.run_bind, Sem.run_pure, Result.andThen_ok, List.map_toArray, List.map_cons, List.map_nil, hs, hy, hr]
  exact hKK _ _ (hK gv cv w' (hide h2) (hide h3))
/-! ### Lists written full, then grown and kept in a row of lists -/
def mkI (k : Nat) : Value := .int .i64 (-(k : Int) - 1)
abbrev Bx := List (Nat × Array Value × TypeId)
structure Ow (w W : World) (K : Nat) (v : Nat → Value) (bx : Bx) (n : Nat → Nat) (u : Nat → Value) (k c : Nat) (lv : Value) : Prop where
  g : Gg w W K v bx (fun i => List.replicate (n i) (mkI i))
  rest : ∀ r, r < K → c ≤ r → W.ownsRow 0 3 1 (v r) (n r) (List.replicate (n r) (mkI r))
  up : ∀ r, r < k → W.ownsRow 0 3 1 (u r) (n r + 70) (List.replicate (n r + 70) (mkI r))
  ur : ∀ r, r < k → (u r).ownBlock = (v r).ownBlock ∨ ∃ b, (u r).ownBlock = some b ∧ w.heap.size ≤ b ∧ ∀ q ∈ bx, q.1 ≠ b
  ll : W.ownsRow 0 22 1 lv k ((List.range k).map u)
  ln : ∀ b, lv.ownBlock = some b → w.heap.size ≤ b ∧ ∀ q ∈ bx, q.1 ≠ b
/-- The row that grows is none of those that have grown. -/
def Apt (u : Nat → Value) (k : Nat) (vm : Value) : Prop := ∀ r, r < k → ∀ b, (u r).ownBlock = some b → vm.ownBlock ≠ some b
section
variable {w W W' : World} {K : Nat} {v : Nat → Value} {bx : Bx} {n : Nat → Nat} {u : Nat → Value} {k c : Nat} {lv : Value}
theorem Ow.below (h : Ow w W K v bx n u k c lv) (d : Below W.heap.size W W') : Ow w W' K v bx n u k c lv :=
  ⟨h.g.below d, fun r hr hc => own_below (h.rest r hr hc) d, fun r hr => own_below (h.up r hr) d, h.ur, own_below h.ll d, h.ln⟩
theorem Ow.start (h : Gg w W K v bx (fun i => List.replicate (n i) (mkI i)) ∧ ∀ r, r < K → W.ownsRow 0 3 1 (v r) (n r) (List.replicate (n r) (mkI r))) : Ow w W K v bx n (fun _ => .slice none 0 0) 0 0 (.slice none 0 0) :=
  ⟨h.1, fun r hr _ => h.2 r hr, fun r hr => absurd hr (by omega), fun r hr => absurd hr (by omega), ⟨rfl, .inl ⟨rfl, rfl⟩⟩, fun b q => by cases q⟩
theorem Ow.open (s : Gst w K v bx) (h : Ow w W K v bx n u k k lv) (hk : k < K) {vk : Value} (hv : v k = vk) : Ow w W K v bx n u k (k + 1) lv ∧ Gx w W (v k) bx 3 1 (n k) (List.replicate (n k) (mkI k)) [mkI k] vk 0 ∧ Apt u k vk := by
  subst hv
  refine ⟨⟨h.g, fun r hr hc => h.rest r hr (by omega), h.up, h.ur, h.ll, h.ln⟩, Gx.zero (h.rest k hk (Nat.le_refl _)), fun r hr b q z => ?_⟩
  rcases h.ur r hr with e | ⟨b', e1, e2, _⟩
  · exact s.ap r k (by omega) hk (by omega) b (by rw [← e]; exact q) z
  · have := s.lt k hk b z
    rw [e1] at q
    cases q
    omega
theorem Ow.grow (h : Ow w W K v bx n u k (k + 1) lv) {y : List Value} {ys : List Value} {vm : Value} {m j : Nat} (hx : Gx w W (v k) bx 3 1 m y ys vm j) (ha : Apt u k vm) {gv : Nat} {vm' : Value} (hb : vm'.ownBlock = some gv) (hg : Gg w W' K v bx (fun i => List.replicate (n i) (mkI i))) (ho : Only W W' (fun b => vm.ownBlock = some b)) (hd : vm.ownBlock = some gv ∨ gv = W.heap.size) (hkr : ∀ c, c < K → c ≠ k → Kr W W' (v c)) : Ow w W' K v bx n u k (k + 1) lv ∧ Apt u k vm' := by
  refine ⟨⟨hg, fun r hr hc => hkr r hr (by omega) _ _ _ _ _ (h.rest r hr hc), fun r hr => row_only (h.up r hr) ho fun b q z => ha r hr b q z, h.ur, row_only h.ll ho fun b q z => tag_ne2 h.ll hx.o (by decide) q z, h.ln⟩, fun r hr b q z => ?_⟩
  rw [hb] at z
  cases z
  rcases hd with e | e
  · exact ha r hr _ q e
  · have := ((h.up r hr).lt _ q).2
    omega
theorem rep_flat (m : Nat) (x : Value) (j : Nat) : List.replicate m x ++ (List.replicate j [x]).flatten = List.replicate (m + j) x := by
  have e : (List.replicate j [x]).flatten = List.replicate j x := by
    induction j with
    | zero => rfl
    | succ j ih => rw [List.replicate_succ, List.flatten_cons, ih, List.replicate_succ]; rfl
  rw [e, List.replicate_append_replicate]
theorem Ow.next (s : Gst w K v bx) (h : Ow w W K v bx n u k (k + 1) lv) (hk : k < K) {vm : Value} (hx : Gx w W (v k) bx 3 1 (n k) (List.replicate (n k) (mkI k)) [mkI k] vm 70) {gv cv : Nat} {w' : World}
    (ho : w'.ownsRow 0 22 1 (.slice (some ⟨gv, 0, none⟩) (k + 1) cv) (k + 1) ((List.range k).map u ++ [vm])) (hd : (lv.ownBlock = some gv ∧ W.grownBy w' (some gv)) ∨ (gv = W.heap.size ∧ W.grownBy w' none)) : Ow w w' K v bx n (upd u k vm) (k + 1) (k + 1) (.slice (some ⟨gv, 0, none⟩) (k + 1) cv) := by
  have o1 : Only W w' (fun b => lv.ownBlock = some b) := by
    rcases hd with ⟨hb, hg⟩ | ⟨_, hg⟩
    · exact Only.grown hg fun k q => by cases q; exact hb
    · exact Only.grown hg fun k q => by cases q
  have e0 : ∀ r, r ≠ k → upd u k vm r = u r := fun r hr => if_neg hr
  refine ⟨⟨fun t ht => (o1.block _ (Array.getElem?_eq_some_iff.1 (h.g.b t ht)).1 fun z => (h.ln _ z).2 t ht rfl).trans (h.g.b t ht), h.g.on.andNew o1 fun b hb z => ?_, fun r hr => (h.g.r r hr).only o1 fun b q z => ?_⟩, fun r hr hc => row_only (h.rest r hr hc) o1 fun b q z => tag_ne2 (h.rest r hr hc) h.ll (by decide) q z, fun r hr => ?_, fun r hr => ?_, ?_, fun b q => ?_⟩
  · have := (h.ln b z).1
    omega
  · have := (h.ln b z).1
    have := s.lt r hr b q
    omega
  · by_cases e : r = k
    · subst e
      rw [upd_at]
      have k1 := hx.o
      rw [rep_flat] at k1
      exact row_only k1 o1 fun b q z => tag_ne2 k1 h.ll (by decide) q z
    · rw [e0 r e]
      have k1 := h.up r (by omega)
      exact row_only k1 o1 fun b q z => tag_ne2 k1 h.ll (by decide) q z
  · by_cases e : r = k
    · subst e
      rw [upd_at]
      exact hx.rel
    · rw [e0 r e]
      exact h.ur r (by omega)
  · have e1 : (List.range (k + 1)).map (upd u k vm) = (List.range k).map u ++ [vm] := by
      rw [List.range_succ, List.map_append]
      congr 1
      · exact List.map_congr_left fun r hr => e0 r (by have := List.mem_range.1 hr; omega)
      · simp [upd_at]
    rw [e1]
    exact ho
  · have e : gv = b := by simpa [Value.ownBlock] using q
    subst e
    rcases hd with ⟨hb, _⟩ | ⟨rfl, _⟩
    · exact h.ln _ hb
    · exact ⟨h.g.on.size, fun t ht z => by have := (Array.getElem?_eq_some_iff.1 (h.g.b t ht)).1; omega⟩
end
end Go.Proofs.Ytocoghljmlpdeaa.ov
