import Derived.Test.YtocoghljmlpdeaaQac
namespace Go.Proofs.Ytocoghljmlpdeaa
open Go.RowKit Go.Maps
attribute [local go_sem] Oper.semAt_some
/-! ### Takes -/
/-- Is a word taken, as Takes tells it? -/
def tkB (N M st : Int) (Fi Nx L : List Int) : Bool := vd N M st Fi Nx && L.all (inB M) && inF Fi (dls Nx M.toNat st.toNat (L.map Int.toNat))
/-- With which fault? -/
def tkE (N M st : Int) (Fi Nx L : List Int) : Int := if vd N M st Fi Nx then if L.all (inB M) then 0 else 7 else 3
theorem afV_is (N M st : Int) (Fi Nx L : List Int) : ∃ x : Int, afV N M st Fi Nx L = .tuple #[.int .i64 x, .bool (tkB N M st Fi Nx L), .int .i64 (tkE N M st Fi Nx L)] := by
  unfold afV tkB tkE
  by_cases h1 : vd N M st Fi Nx = true
  · by_cases h2 : L.all (inB M) = true
    · exact ⟨_, by rw [if_pos h1, if_pos h2, if_pos h1, if_pos h2, h1, h2]; rfl⟩
    · exact ⟨0, by rw [if_pos h1, if_neg h2, if_pos h1, if_neg h2, h1, Bool.eq_false_iff.2 h2]; rfl⟩
  · exact ⟨0, by rw [if_neg h1, if_neg h1, Bool.eq_false_iff.2 h1]; rfl⟩
set_option maxRecDepth 100000 in
set_option maxHeartbeats 1000000 in
theorem takes_any (w : World) (N M st : Int) (aF aN aL : Option Addr) (lF cF lN cN lL cL : Nat) (Fi Nx L : List Int) (hF : RdN w aF Fi) (hN : RdN w aN Nx) (hL : RdN w aL L) (hlF : Fi.length = lF) (hlN : Nx.length = lN) (hlL : L.length = lL) (bF : lF ≤ 4194304) (bN : lN ≤ 4194304) (bL : lL ≤ 4194304) :
    Calls Try.prog 43 #[.agg #[.int .i64 N, .int .i64 M, .int .i64 st, .slice aF lF cF, .slice aN lN cN], .slice aL lL cL] w fun e w' => e = .returned (.tuple #[.bool (tkB N M st Fi Nx L), .int .i64 (tkE N M st Fi Nx L)]) ∧ Below w.heap.size w w' := by
  obtain ⟨W0, hW0⟩ : ∃ W0, w.alloc (.cells #[.int .i64 N, .int .i64 M, .int .i64 st, .slice aF lF cF, .slice aN lN cN] 24) = W0 := ⟨_, rfl⟩
  have d0 : Below w.heap.size w W0 := by rw [← hW0]; exact (Below.refl _ _).alloc (Nat.le_refl _) _
  have B0 : W0.heap[w.heap.size]? = some (.cells #[.int .i64 N, .int .i64 M, .int .i64 st, .slice aF lF cF, .slice aN lN cN] 24 (0, 0)) := by rw [← hW0]; exact World.alloc_heap_new _ _
  have k0 : W0.cell? ⟨w.heap.size, 0, none⟩ = some (.int .i64 N) := cell_of B0 rfl
  have k1 : W0.cell? ⟨w.heap.size, 1, none⟩ = some (.int .i64 M) := cell_of B0 rfl
  have k2 : W0.cell? ⟨w.heap.size, 2, none⟩ = some (.int .i64 st) := cell_of B0 rfl
  have k3 : W0.cell? ⟨w.heap.size, 3, none⟩ = some (.slice aF lF cF) := cell_of B0 rfl
  have k4 : W0.cell? ⟨w.heap.size, 4, none⟩ = some (.slice aN lN cN) := cell_of B0 rfl
  have TA := after_any W0 N M st aF aN aL lF cF lN cN lL cL Fi Nx L (hF.on d0) (hN.on d0) (hL.on d0) hlF hlN hlL bF bN bL
  obtain ⟨x, hx⟩ := afV_is N M st Fi Nx L
  rw [hx] at TA
  have HD := hide d0
  clear d0 B0 hF hN hL hx
  generalize tkB N M st Fi Nx L = tb at *
  generalize tkE N M st Fi Nx L = te at *
  go_enter Try.func43, Try.ntmps43
  go_wp2_with (go_at_call 12; refine TA.mono ?_; rintro e w2 ⟨rfl, HB⟩)
  go_ret2
  exact ⟨rfl, HD.out.trans (HB.mono HD.out.size)⟩
set_option maxRecDepth 100000 in
set_option maxHeartbeats 1000000 in
theorem takesL_any (w : World) (N M st : Int) (aF aN aL : Option Addr) (lF cF lN cN lL cL : Nat) (Fi Nx L : List Int) (hF : RdN w aF Fi) (hN : RdN w aN Nx) (hL : RdN w aL L) (hlF : Fi.length = lF) (hlN : Nx.length = lN) (hlL : L.length = lL) (bF : lF ≤ 4194304) (bN : lN ≤ 4194304) (bL : lL ≤ 4194304) :
    Calls Try.prog 16 #[.agg #[.int .i64 N, .int .i64 M, .int .i64 st, .slice aF lF cF, .slice aN lN cN], .slice aL lL cL] w fun e w' => e = .returned (.bool (tkB N M st Fi Nx L)) ∧ Below w.heap.size w w' := by
  obtain ⟨W0, hW0⟩ : ∃ W0, w.alloc (.cells #[.int .i64 N, .int .i64 M, .int .i64 st, .slice aF lF cF, .slice aN lN cN] 24) = W0 := ⟨_, rfl⟩
  have d0 : Below w.heap.size w W0 := by rw [← hW0]; exact (Below.refl _ _).alloc (Nat.le_refl _) _
  have B0 : W0.heap[w.heap.size]? = some (.cells #[.int .i64 N, .int .i64 M, .int .i64 st, .slice aF lF cF, .slice aN lN cN] 24 (0, 0)) := by rw [← hW0]; exact World.alloc_heap_new _ _
  have k0 : W0.cell? ⟨w.heap.size, 0, none⟩ = some (.int .i64 N) := cell_of B0 rfl
  have k1 : W0.cell? ⟨w.heap.size, 1, none⟩ = some (.int .i64 M) := cell_of B0 rfl
  have k2 : W0.cell? ⟨w.heap.size, 2, none⟩ = some (.int .i64 st) := cell_of B0 rfl
  have k3 : W0.cell? ⟨w.heap.size, 3, none⟩ = some (.slice aF lF cF) := cell_of B0 rfl
  have k4 : W0.cell? ⟨w.heap.size, 4, none⟩ = some (.slice aN lN cN) := cell_of B0 rfl
  have TA := takes_any W0 N M st aF aN aL lF cF lN cN lL cL Fi Nx L (hF.on d0) (hN.on d0) (hL.on d0) hlF hlN hlL bF bN bL
  have HE : Hid (tkB N M st Fi Nx L = true → tkE N M st Fi Nx L = 0) := hide (by
    unfold tkB tkE
    intro h
    simp only [Bool.and_eq_true] at h
    rw [if_pos h.1.1, if_pos h.1.2])
  have HD := hide d0
  clear d0 B0 hF hN hL
  generalize tkB N M st Fi Nx L = tb at *
  generalize tkE N M st Fi Nx L = te at *
  cases tb
  · clear HE
    go_enter Try.func16, Try.ntmps16
    go_wp2_with (go_at_call 43; refine TA.mono ?_; rintro e w2 ⟨rfl, HB⟩)
    go_ret
    exact ⟨rfl, HD.out.trans (HB.mono HD.out.size)⟩
  · have := HE.out rfl
    subst this
    clear HE
    go_enter Try.func16, Try.ntmps16
    go_wp2_with (go_at_call 43; refine TA.mono ?_; rintro e w2 ⟨rfl, HB⟩)
    go_ret
    exact ⟨rfl, HD.out.trans (HB.mono HD.out.size)⟩
/-! ### Access -/
/-- The word by its number, with fuel. -/
def wdF (M : Nat) (K : List Nat) : Nat → Nat → List Int
  | 0, _ => []
  | _ + 1, 0 => []
  | f + 1, i + 1 => wdF M K f (K.getD i 0 / M) ++ [((K.getD i 0 % M : Nat) : Int)]
/-- The word by its number. -/
def wdK (M : Nat) (K : List Nat) (i : Nat) : List Int := wdF M K i i
theorem wdF_eq {M : Nat} {K : List Nat} (h : ∀ i, i < K.length → K.getD i 0 / M ≤ i) : ∀ (f i : Nat), i ≤ f → i ≤ K.length → wdF M K f i = wdF M K i i := by
  intro f
  induction f using Nat.strongRecOn with
  | _ f ih =>
    intro i hf hi
    cases i with
    | zero => cases f <;> rfl
    | succ i =>
      obtain ⟨f, rfl⟩ : ∃ g, f = g + 1 := ⟨f - 1, by omega⟩
      have hd := h i (by omega)
      show wdF M K f (K.getD i 0 / M) ++ _ = wdF M K i (K.getD i 0 / M) ++ _
      rw [ih f (by omega) _ (by omega) (by omega)]
      rcases Nat.lt_or_ge i f with q | q
      · rw [ih i (by omega) _ hd (by omega)]
      · obtain rfl : f = i := by omega
        rw [ih f (by omega) _ hd (by omega)]
theorem wdK_of {α : Type} {φ : α → Nat → α} {M : Nat} {first : α} {T : List α} {K : List Nat} {c : Nat} (h : Wk φ M first T K c) : WdOf (stepsOf M K) (wdK M K) := by
  have hd : ∀ i, i < K.length → K.getD i 0 / M ≤ i := fun i hi => (h.s i hi).2.1
  intro n hn
  rw [stepsOf_len] at hn
  cases n with
  | zero => exact .inl ⟨by show (-1 : Int) < 0; omega, rfl⟩
  | succ i =>
    have hi : i < K.length := by omega
    have e : (stepsOf M K)[i + 1]'(by rw [stepsOf_len]; omega) = (((K.getD i 0 / M : Nat) : Int), ((K.getD i 0 % M : Nat) : Int)) := by
      simp [stepsOf, List.getD, hi]
    refine .inr ⟨K.getD i 0 / M, ?_, ?_, ?_⟩
    · have := hd i hi; omega
    · rw [e]
    · rw [e]
      show wdF M K i (K.getD i 0 / M) ++ _ = _
      rw [wdF_eq hd i _ (hd i hi) (by have := hd i hi; omega)]
      rfl
theorem mrw_some {W : World} {H : Nat} {t : TypeId} {N : Nat} {val : Nat → Value} (h : Mrw W H t N val 0) : ∃ val', Mrw W H t N val' N := by
  obtain ⟨cur, h1, h2, _⟩ := h
  exact ⟨fun j => (cur[j]?).getD undef, cur, h1, h2, fun j hj => by simp [Array.getElem?_eq_getElem (show j < cur.size by omega)]⟩
theorem Mrw.blk {W : World} {H : Nat} {t : TypeId} {N : Nat} {val : Nat → Value} {k : Nat} (h : Mrw W H t N val k) : ∃ cs, W.heap[H]? = some (.cells cs t (0, 0)) := by
  obtain ⟨cur, h1, _⟩ := h
  exact ⟨cur, h1⟩
/-- Words in a row: the word of the number i at the place of the state that it leads to. -/
structure WdR (W : World) (B g N : Nat) (T : List Nat) (wd : Nat → List Int) (k : Nat) (val : Nat → Value) : Prop where
  rw : Mrw W g 22 N val N
  wd : ∀ i x, i < k → T[i]? = some x → OwI W B (val x) (wd i)
set_option maxRecDepth 100000 in
set_option maxHeartbeats 2000000 in
theorem access_ok (w : World) (N M st : Nat) (aF aN : Option Addr) (lF cF lN cN : Nat) (Fi Nx : List Int) (hF : RdN w aF Fi) (hN : RdN w aN Nx) (hlF : Fi.length = lF) (hlN : Nx.length = lN) (bF : lF ≤ 4194304) (bN : lN ≤ 4194304) (hv : vd N M st Fi Nx = true) :
    Calls Try.prog 10 #[.agg #[.int .i64 (N : Int), .int .i64 (M : Int), .int .i64 (st : Int), .slice aF lF cF, .slice aN lN cN]] w fun e w' => ∃ T K, Hid (Wk (dl Nx M) M st T K (T.length * M) ∧ Cv (dl Nx M) M T K (T.length * M) ∧ T.Nodup ∧ (∀ q ∈ T, q < N) ∧ Below w.heap.size w w') ∧
      (T.length < N ∧ e = .returned (.tuple #[.slice none 0 0, .int .i64 60]) ∨ T.length = N ∧ ∃ g val, e = .returned (.tuple #[.slice (some ⟨g, 0, none⟩) N N, .int .i64 0]) ∧ Hid (w.heap.size ≤ g ∧ WdR w' w.heap.size g N T (wdK M K) N val)) := by
  obtain ⟨n, m, s, en, em, es, n1, n2, m1, s1, e1, i1, i2⟩ := vd_nat hv
  obtain rfl : N = n := by omega
  obtain rfl : M = m := by omega
  obtain rfl : st = s := by omega
  clear en em es
  have bNM : N * M ≤ 4194304 := by rw [← e1, hlN]; exact bN
  have eNM : lN = N * M := by rw [← hlN]; exact e1
  obtain ⟨W0, hW0⟩ : ∃ W0, w.alloc (.cells #[.int .i64 (N : Int), .int .i64 (M : Int), .int .i64 (st : Int), .slice aF lF cF, .slice aN lN cN] 24) = W0 := ⟨_, rfl⟩
  have d0 : Below w.heap.size w W0 := by rw [← hW0]; exact (Below.refl _ _).alloc (Nat.le_refl _) _
  have B0 : W0.heap[w.heap.size]? = some (.cells #[.int .i64 (N : Int), .int .i64 (M : Int), .int .i64 (st : Int), .slice aF lF cF, .slice aN lN cN] 24 (0, 0)) := by rw [← hW0]; exact World.alloc_heap_new _ _
  have k0 : W0.cell? ⟨w.heap.size, 0, none⟩ = some (.int .i64 (N : Int)) := cell_of B0 rfl
  have k1 : W0.cell? ⟨w.heap.size, 1, none⟩ = some (.int .i64 (M : Int)) := cell_of B0 rfl
  have k2 : W0.cell? ⟨w.heap.size, 2, none⟩ = some (.int .i64 (st : Int)) := cell_of B0 rfl
  have k3 : W0.cell? ⟨w.heap.size, 3, none⟩ = some (.slice aF lF cF) := cell_of B0 rfl
  have k4 : W0.cell? ⟨w.heap.size, 4, none⟩ = some (.slice aN lN cN) := cell_of B0 rfl
  have TV : Hid (Calls Try.prog 31 #[.agg #[.int .i64 (N : Int), .int .i64 (M : Int), .int .i64 (st : Int), .slice aF lF cF, .slice aN lN cN]] W0 fun e w' => e = .returned (.int .i64 0) ∧ Below W0.heap.size W0 w') := hide (by
    have := valid_any W0 N M st aF aN lF cF lN cN Fi Nx (hF.on d0) (hN.on d0) hlF hlN bF bN
    rw [if_pos hv] at this
    exact this)
  have TO : Hid (∀ W, Below W0.heap.size W0 W → Calls Try.prog 34 #[.agg #[.int .i64 (N : Int), .int .i64 (M : Int), .int .i64 (st : Int), .slice aF lF cF, .slice aN lN cN]] W fun e w' => ∃ gf, e = .returned (.agg #[.int .i64 (M : Int), .slice (some ⟨gf, 0, none⟩) N N, .slice aN lN cN]) ∧ Below W.heap.size W w') := hide (fun W d => (tableOf_any W N M lF cF lN cN st aF aN Fi ((hF.on d0).on d) hlF i2 bF (by omega)).mono fun e w' ⟨gf, h1, h2, h3⟩ => ⟨gf, h1, h3⟩)
  have TN : Hid (∀ W, Below W0.heap.size W0 W → ∀ gf, Calls Try.prog 33 #[.int .i64 (N : Int), .int .i64 (M : Int), .int .i64 (st : Int), .func (.func 35) #[.agg #[.int .i64 (M : Int), .slice (some ⟨gf, 0, none⟩) N N, .slice aN lN cN]] #[]] W (NumA W N M st (dl Nx M))) := hide (fun W d gf => number_flw W N M st (some ⟨gf, 0, none⟩) aN N N lN cN (dl Nx M) s1 (fun s a hs ha => (dl_spec e1 i1 hs ha).2.2) n1 (by omega) (by omega) (fun W' d' s a hs ha => follow_rd W' M N s a lN cN (some ⟨gf, 0, none⟩) N N aN Nx ((hN.on d0).on (d.trans (d'.mono d.size))) e1 i1 eNM hs ha bNM (by omega) (by omega)))
  have HD := hide (And.intro d0 B0)
  clear d0 B0 hF hN hlF hlN e1 i1 i2 hv bF bN eNM bNM
  go_enter Try.func10, Try.ntmps10
  go_upto_region 4 with (go_at_call 31; refine TV.out.mono ?_; rintro e w2 ⟨rfl, HB⟩)
  have HB2 := hide (And.intro (HD.out.1.trans (HB.mono HD.out.1.size)) (blk_on HD.out.2 HB))
  have HBB := hide HB
  have q0 : w2.cell? ⟨w.heap.size, 0, none⟩ = some (.int .i64 (N : Int)) := cell_of HB2.out.2 rfl
  have q1 : w2.cell? ⟨w.heap.size, 1, none⟩ = some (.int .i64 (M : Int)) := cell_of HB2.out.2 rfl
  have q2 : w2.cell? ⟨w.heap.size, 2, none⟩ = some (.int .i64 (st : Int)) := cell_of HB2.out.2 rfl
  have q3 : w2.cell? ⟨w.heap.size, 3, none⟩ = some (.slice aF lF cF) := cell_of HB2.out.2 rfl
  have q4 : w2.cell? ⟨w.heap.size, 4, none⟩ = some (.slice aN lN cN) := cell_of HB2.out.2 rfl
  clear k0 k1 k2 k3 k4 HB TV
  go_cut [5] from 5 to 23 (fun p5 W => ∃ b vT gn vS T K, p5 = .pointer (some ⟨b, 0, none⟩) ∧ Hid (w.heap.size ≤ b ∧ W.heap[b]? = some (.cells #[vT, .slice (some ⟨gn, 0, none⟩) N N, vS] 55 (0, 0)) ∧ OwI W w.heap.size vT (natI T) ∧ OwS W w.heap.size vS (stepsOf M K) ∧ T.Nodup ∧ (∀ q ∈ T, q < N) ∧ Wk (dl Nx M) M st T K (T.length * M) ∧ Cv (dl Nx M) M T K (T.length * M) ∧ Below w2.heap.size w2 W))
  case first =>
    have KK : Hid (∀ W, Below w2.heap.size w2 W → W.cell? ⟨w.heap.size, 0, none⟩ = some (.int .i64 (N : Int)) ∧ W.cell? ⟨w.heap.size, 1, none⟩ = some (.int .i64 (M : Int)) ∧ W.cell? ⟨w.heap.size, 2, none⟩ = some (.int .i64 (st : Int)) ∧ W.cell? ⟨w.heap.size, 3, none⟩ = some (.slice aF lF cF) ∧ W.cell? ⟨w.heap.size, 4, none⟩ = some (.slice aN lN cN) ∧ Hid (Below w2.heap.size w2 W)) := hide (fun W d => ⟨cell_of (blk_on HB2.out.2 d) rfl, cell_of (blk_on HB2.out.2 d) rfl, cell_of (blk_on HB2.out.2 d) rfl, cell_of (blk_on HB2.out.2 d) rfl, cell_of (blk_on HB2.out.2 d) rfl, hide d⟩)
    have D1 : Hid (Below w2.heap.size w2 (w2.drew.alloc (.cells #[.slice none 0 0, .slice none 0 0, .slice none 0 0] 55))) := hide (((Below.refl _ _).drew).alloc (Nat.le_refl _) _)
    have DB1 : Hid ((w2.drew.alloc (.cells #[.slice none 0 0, .slice none 0 0, .slice none 0 0] 55)).heap[w2.heap.size]? = some (.cells #[.slice none 0 0, .slice none 0 0, .slice none 0 0] 55 (0, 0))) := hide (World.alloc_heap_new w2.drew _)
    have DR : Hid (Below w2.heap.size w2 w2.drew) := hide (Below.refl _ _).drew
    have SR := KK.out w2.drew DR.out
    have S1 := KK.out _ D1.out
    go_region_held3 (fun W => W.cell? ⟨w.heap.size, 0, none⟩ = some (.int .i64 (N : Int)) ∧ W.cell? ⟨w.heap.size, 1, none⟩ = some (.int .i64 (M : Int)) ∧ W.cell? ⟨w.heap.size, 2, none⟩ = some (.int .i64 (st : Int)) ∧ W.cell? ⟨w.heap.size, 3, none⟩ = some (.slice aF lF cF) ∧ W.cell? ⟨w.heap.size, 4, none⟩ = some (.slice aN lN cN) ∧ Hid (Below w2.heap.size w2 W))
      (first | exact SR | exact S1 | exact S4 | exact S3 | exact SA3 | exact KK.out _ (D4.out.trans ((only3 w4 w3.heap.size 0 1 2 _ _ _).toBelow D4.out.size (fun k hk => by have := D3.out.size; omega))) | exact KK.out _ (D4.out.trans ((only3 w4 w2.heap.size 0 1 2 _ _ _).toBelow D4.out.size (fun k hk => by omega))) | exact KK.out _ (D4.out.alloc D4.out.size _))
      (first
        | (go_at_call 34; refine (TO.out (w2.drew.alloc (.cells #[.slice none 0 0, .slice none 0 0, .slice none 0 0] 55)) (HBB.out.trans (D1.out.mono HBB.out.size))).mono ?_; rintro e w3 ⟨gf, rfl, d3⟩; have D3 := hide (D1.out.trans (d3.mono D1.out.size)); have BX3 := hide (blk_on DB1.out d3); have S3 := KK.out w3 D3.out; clear d3)
        | (go_at_call 34; refine (TO.out w2.drew (HBB.out.trans (DR.out.mono HBB.out.size))).mono ?_; rintro e w3 ⟨gf, rfl, d3⟩; have D3 := hide (DR.out.trans (d3.mono DR.out.size)); have S3 := KK.out w3 D3.out; have SA3 := KK.out _ (D3.out.alloc D3.out.size (.cells #[.slice none 0 0, .slice none 0 0, .slice none 0 0] 55)); clear d3)
        | (go_at_call 33; refine (TN.out (w3.alloc (.cells #[.slice none 0 0, .slice none 0 0, .slice none 0 0] 55)) (HBB.out.trans ((D3.out.alloc D3.out.size _).mono HBB.out.size)) gf).mono ?_; rintro e w4 ⟨vT, gn, vS, T, K, rfl, hT, hR, hS, -, -, hnd, hlt, hwk, hcv, d4⟩; obtain ⟨tT, kT, rfl⟩ := own_slice hT; obtain ⟨tS, kS, rfl⟩ := own_slice hS; have D4 := hide ((D3.out.alloc D3.out.size (.cells #[.slice none 0 0, .slice none 0 0, .slice none 0 0] 55)).trans (d4.mono (D3.out.alloc D3.out.size (.cells #[.slice none 0 0, .slice none 0 0, .slice none 0 0] 55)).size)); have BX4 := hide (blk_on (World.alloc_heap_new w3 (.cells #[.slice none 0 0, .slice none 0 0, .slice none 0 0] 55)) d4); have bx0 : w4.cell? ⟨w3.heap.size, 0, none⟩ = some (.slice none 0 0) := cell_of BX4.out rfl; have bx1 : w4.cell? ⟨w3.heap.size, 1, none⟩ = some (.slice none 0 0) := cell_of BX4.out rfl; have bx2 : w4.cell? ⟨w3.heap.size, 2, none⟩ = some (.slice none 0 0) := cell_of BX4.out rfl; have fx0 : w4.frozen? ⟨w3.heap.size, 0, none⟩ = false := fz_of BX4.out; have fx1 : w4.frozen? ⟨w3.heap.size, 1, none⟩ = false := fz_of BX4.out; have fx2 : w4.frozen? ⟨w3.heap.size, 2, none⟩ = false := fz_of BX4.out; have HN4 := hide (And.intro (owns_down (C := w.heap.size) hT (by have := (D3.out.alloc D3.out.size (.cells #[.slice none 0 0, .slice none 0 0, .slice none 0 0] 55)).size; have := HB2.out.1.size; omega)) (And.intro (owns_down (C := w.heap.size) hS (by have := (D3.out.alloc D3.out.size (.cells #[.slice none 0 0, .slice none 0 0, .slice none 0 0] 55)).size; have := HB2.out.1.size; omega)) (And.intro hnd (And.intro hlt (And.intro hwk hcv))))); have S4 := KK.out w4 D4.out; clear hT hR hS hnd hlt hwk hcv d4)
        | (go_at_call 33; refine (TN.out w3 (HBB.out.trans (D3.out.mono HBB.out.size)) gf).mono ?_; rintro e w4 ⟨vT, gn, vS, T, K, rfl, hT, hR, hS, -, -, hnd, hlt, hwk, hcv, d4⟩; obtain ⟨tT, kT, rfl⟩ := own_slice hT; obtain ⟨tS, kS, rfl⟩ := own_slice hS; have D4 := hide (D3.out.trans (d4.mono D3.out.size)); have BX4 := hide (blk_on BX3.out d4); have bx0 : w4.cell? ⟨w2.heap.size, 0, none⟩ = some (.slice none 0 0) := cell_of BX4.out rfl; have bx1 : w4.cell? ⟨w2.heap.size, 1, none⟩ = some (.slice none 0 0) := cell_of BX4.out rfl; have bx2 : w4.cell? ⟨w2.heap.size, 2, none⟩ = some (.slice none 0 0) := cell_of BX4.out rfl; have fx0 : w4.frozen? ⟨w2.heap.size, 0, none⟩ = false := fz_of BX4.out; have fx1 : w4.frozen? ⟨w2.heap.size, 1, none⟩ = false := fz_of BX4.out; have fx2 : w4.frozen? ⟨w2.heap.size, 2, none⟩ = false := fz_of BX4.out; have HN4 := hide (And.intro (owns_down (C := w.heap.size) hT (by have := D3.out.size; have := HB2.out.1.size; omega)) (And.intro (owns_down (C := w.heap.size) hS (by have := D3.out.size; have := HB2.out.1.size; omega)) (And.intro hnd (And.intro hlt (And.intro hwk hcv))))); have S4 := KK.out w4 D4.out; clear hT hR hS hnd hlt hwk hcv d4)
        | (go_at_call 33; refine (TN.out w3 (HBB.out.trans (D3.out.mono HBB.out.size)) gf).mono ?_; rintro e w4 ⟨vT, gn, vS, T, K, rfl, hT, hR, hS, -, -, hnd, hlt, hwk, hcv, d4⟩; obtain ⟨tT, kT, rfl⟩ := own_slice hT; obtain ⟨tS, kS, rfl⟩ := own_slice hS; have D4 := hide (D3.out.trans (d4.mono D3.out.size)); have HN4 := hide (And.intro (owns_down (C := w.heap.size) hT (by have := D3.out.size; have := HB2.out.1.size; omega)) (And.intro (owns_down (C := w.heap.size) hS (by have := D3.out.size; have := HB2.out.1.size; omega)) (And.intro hnd (And.intro hlt (And.intro hwk hcv))))); have S4 := KK.out w4 D4.out; clear hT hR hS hnd hlt hwk hcv d4))
    · go_wp2_with fail
      (go_meet; have A4 := (Below.refl w4.heap.size w4).alloc (Nat.le_refl _) (.cells #[.slice tT (natI T).length kT, .slice (some ⟨gn, 0, none⟩) N N, .slice tS (stepsOf M K).length kS] 55); exact ⟨w4.heap.size, .slice tT (natI T).length kT, gn, .slice tS (stepsOf M K).length kS, T, K, rfl, hide ⟨by have := D4.out.size; have := HB2.out.1.size; omega, World.alloc_heap_new _ _, own_below HN4.out.1 A4, own_below HN4.out.2.1 A4, HN4.out.2.2.1, HN4.out.2.2.2.1, HN4.out.2.2.2.2.1, HN4.out.2.2.2.2.2, D4.out.trans (A4.mono D4.out.size)⟩⟩)
    · go_wp2_with fail
      (go_meet; have Z4 := set3 w4 w3.heap.size _ _ _ (.slice tT (natI T).length kT) (.slice (some ⟨gn, 0, none⟩) N N) (.slice tS (stepsOf M K).length kS) 55 BX4.out; have O4 := only3 w4 w3.heap.size 0 1 2 (.slice tT (natI T).length kT) (.slice (some ⟨gn, 0, none⟩) N N) (.slice tS (stepsOf M K).length kS); exact ⟨w3.heap.size, .slice tT (natI T).length kT, gn, .slice tS (stepsOf M K).length kS, T, K, rfl, hide ⟨by have := D3.out.size; have := HB2.out.1.size; omega, Z4, own_keep HN4.out.1 BX4.out (by decide) O4, own_keep HN4.out.2.1 BX4.out (by decide) O4, HN4.out.2.2.1, HN4.out.2.2.2.1, HN4.out.2.2.2.2.1, HN4.out.2.2.2.2.2, D4.out.trans (O4.toBelow D4.out.size (fun k hk => by have := D3.out.size; omega))⟩⟩)
    · go_wp2_with fail
      (go_meet; have Z4 := set3 w4 w3.heap.size _ _ _ (.slice tT (natI T).length kT) (.slice (some ⟨gn, 0, none⟩) N N) (.slice tS (stepsOf M K).length kS) 55 BX4.out; have O4 := only3 w4 w3.heap.size 0 1 2 (.slice tT (natI T).length kT) (.slice (some ⟨gn, 0, none⟩) N N) (.slice tS (stepsOf M K).length kS); exact ⟨w3.heap.size, .slice tT (natI T).length kT, gn, .slice tS (stepsOf M K).length kS, T, K, rfl, hide ⟨by have := D3.out.size; have := HB2.out.1.size; omega, Z4, own_keep HN4.out.1 BX4.out (by decide) O4, own_keep HN4.out.2.1 BX4.out (by decide) O4, HN4.out.2.2.1, HN4.out.2.2.2.1, HN4.out.2.2.2.2.1, HN4.out.2.2.2.2.2, D4.out.trans (O4.toBelow D4.out.size (fun k hk => by have := D3.out.size; omega))⟩⟩)
    · go_wp2_with fail
      (go_meet; have Z4 := set3 w4 w2.heap.size _ _ _ (.slice tT (natI T).length kT) (.slice (some ⟨gn, 0, none⟩) N N) (.slice tS (stepsOf M K).length kS) 55 BX4.out; have O4 := only3 w4 w2.heap.size 0 1 2 (.slice tT (natI T).length kT) (.slice (some ⟨gn, 0, none⟩) N N) (.slice tS (stepsOf M K).length kS); exact ⟨w2.heap.size, .slice tT (natI T).length kT, gn, .slice tS (stepsOf M K).length kS, T, K, rfl, hide ⟨by have := HB2.out.1.size; omega, Z4, own_keep HN4.out.1 BX4.out (by decide) O4, own_keep HN4.out.2.1 BX4.out (by decide) O4, HN4.out.2.2.1, HN4.out.2.2.2.1, HN4.out.2.2.2.2.1, HN4.out.2.2.2.2.2, D4.out.trans (O4.toBelow D4.out.size (fun k hk => by have := D3.out.size; omega))⟩⟩)
  case rest =>
    obtain ⟨b, vT, gn, vS, T, K, rfl, HX⟩ := hcut
    rename World => wx
    clear q0 q1 q2 q3 q4 TO TN
    obtain ⟨tT, kT, rfl⟩ := own_slice HX.out.2.2.1
    obtain ⟨tS, kS, rfl⟩ := own_slice HX.out.2.2.2.1
    have hTN := nodup_le HX.out.2.2.2.2.1 HX.out.2.2.2.2.2.1
    have hnl := natI_len T
    have y0 : wx.cell? ⟨b, 0, none⟩ = some (.slice tT T.length kT) := by
      have := cell_of HX.out.2.1 (j := 0) (v := .slice tT (natI T).length kT) rfl
      rw [hnl] at this
      exact this
    have B1 := blk_on HB2.out.2 HX.out.2.2.2.2.2.2.2.2
    have y1 : wx.cell? ⟨w.heap.size, 0, none⟩ = some (.int .i64 (N : Int)) := cell_of B1 rfl
    have Dx := HB2.out.1.trans (HX.out.2.2.2.2.2.2.2.2.mono HB2.out.1.size)
    have HDx := hide Dx
    clear B1 Dx hnl
    by_cases hlt : T.length < N
    · have l0 : (T.length : Int) < (N : Int) := by omega
      go_wp2_with fail
      go_ret2
      exact ⟨T, K, hide ⟨HX.out.2.2.2.2.2.2.1, HX.out.2.2.2.2.2.2.2.1, HX.out.2.2.2.2.1, HX.out.2.2.2.2.2.1, HDx.out⟩, Or.inl ⟨hlt, rfl⟩⟩
    · have l0 : ¬ (T.length : Int) < (N : Int) := by omega
      have eTN : T.length = N := by omega
      have eKN : K.length + 1 = N := by rw [← HX.out.2.2.2.2.2.2.1.l]; exact eTN
      obtain ⟨i22, hi22, hz220, hz221, hz222⟩ := info_parts info22
      rw [eTN] at l0 y0
      have HE := hide (And.intro eTN eKN)
      clear eTN eKN hlt hTN
      go_upto_region 7 with fail
      go_upto_region 8 with (at_make; refine wpList_make_full _ rfl _ _ 32 rfl w.heap.size 22 i22 (.slice none 0 0) 1 Try.underlying32 hi22 hz220 hz221 _ _ _ _ N rfl rfl rfl rfl (by rw [hz222]; omega) (by unfold maxLen; omega) HDx.out.size ?_; intro w1 ho hg)
      have D1 : Below wx.heap.size wx w1 := (Below.refl _ _).grown hg (Nat.le_refl _) (by intro k hk; cases hk)
      obtain ⟨val0, M0⟩ := mrw_some (Mrw.ofRow (fun _ => undef) ho)
      rw [Nat.mul_one] at M0
      have hgw := HDx.out.size
      obtain ⟨g, hgg⟩ : ∃ g, wx.heap.size = g := ⟨_, rfl⟩
      have J0 : Hid (WdR w1 w.heap.size g N T (wdK M K) 0 val0 ∧ w1.heap[b]? = some (.cells #[.slice tT (natI T).length kT, .slice (some ⟨gn, 0, none⟩) N N, .slice tS (stepsOf M K).length kS] 55 (0, 0)) ∧ OwI w1 w.heap.size (.slice tT (natI T).length kT) (natI T) ∧ OwS w1 w.heap.size (.slice tS (stepsOf M K).length kS) (stepsOf M K) ∧ Below w.heap.size w w1) := hide ⟨⟨by rw [← hgg]; exact M0, fun i x hi => by omega⟩, blk_on HX.out.2.1 D1, own_below HX.out.2.2.1 D1, own_below HX.out.2.2.2.1 D1, HDx.out.trans (D1.mono hgw)⟩
      have z0 : w1.cell? ⟨b, 0, none⟩ = some (.slice tT N kT) := by
        have := cell_of J0.out.2.1 (j := 0) (v := .slice tT (natI T).length kT) rfl
        rw [natI_len, HE.out.1] at this
        exact this
      rw [hgg]
      rw [hgg] at hgw
      clear D1 M0 ho hg y0 y1 hi22 hz220 hz221 hz222 hgg
      go_wp2_with fail
      clear z0
      go_loopw [36] (fun iv wr => ∃ i : Nat, i ≤ N ∧ iv = .int .i64 (i : Int) ∧ ∃ val, Hid (WdR wr w.heap.size g N T (wdK M K) i val ∧ wr.heap[b]? = some (.cells #[.slice tT (natI T).length kT, .slice (some ⟨gn, 0, none⟩) N N, .slice tS (stepsOf M K).length kS] 55 (0, 0)) ∧ OwI wr w.heap.size (.slice tT (natI T).length kT) (natI T) ∧ OwS wr w.heap.size (.slice tS (stepsOf M K).length kS) (stepsOf M K) ∧ Below w.heap.size w wr)) (fun iv _ => N - (intOf iv).toNat)
      case atStart => exact ⟨0, Nat.zero_le _, rfl, val0, J0⟩
      case round =>
        clear J0
        obtain ⟨i, hi, rfl, val, HY⟩ := hrel
        by_cases hlt : i < N
        · have l0 : (i : Int) < (N : Int) := by omega
          have l1 : (0 : Int) ≤ (i : Int) := by omega
          have hiT : i < T.length := by rw [HE.out.1]; exact hlt
          obtain ⟨x, hx⟩ : ∃ x, T[i] = x := ⟨_, rfl⟩
          have hxN : x < N := by rw [← hx]; exact HX.out.2.2.2.2.2.1 _ (List.getElem_mem hiT)
          have HXI := hide (show T[i]? = some x by rw [List.getElem?_eq_getElem hiT, hx])
          obtain ⟨em, hrd⟩ := owI_rd HY.out.2.2.1
          obtain ⟨gT, oT, et, r1⟩ := hrd i (by rw [natI_len]; exact hiT)
          subst et
          have ex : (natI T)[i]'(by rw [natI_len]; exact hiT) = (x : Int) := by simp [natI, hx]
          rw [ex] at r1
          have TW := word_any wr tS (stepsOf M K).length kS i (stepsOf M K) (wdK M K) rfl (owS_rd HY.out.2.2.2.1).2 (wdK_of HX.out.2.2.2.2.2.2.1) (by rw [stepsOf_len, HE.out.2]; exact hlt) (by rw [stepsOf_len, HE.out.2]; omega)
          have z2 : wr.cell? ⟨b, 2, none⟩ = some (.slice tS (stepsOf M K).length kS) := cell_of HY.out.2.1 rfl
          have x0 : (0 : Int) ≤ (x : Int) := by omega
          have x1 : (x : Int) < (N : Int) := by omega
          obtain ⟨lS, hlS⟩ : ∃ l, (stepsOf M K).length = l := ⟨_, rfl⟩
          rw [hlS] at TW z2
          have HLS := hide hlS
          clear hx hiT hrd em ex hlS
          go_upto_region 11 with fail
          go_wp2_with (go_at_call 36; refine TW.mono ?_; rintro e w4 ⟨bW, mW, kW, rfl, hW, d4⟩; have G4 : Hid (Mrw w4 g 22 N val N ∧ OwI w4 wr.heap.size (.slice bW mW kW) (wdK M K i) ∧ Below wr.heap.size wr w4) := hide ⟨HY.out.1.rw.below d4 HY.out.1.rw.lt, hW.out, d4⟩; obtain ⟨uG, g4⟩ := G4.out.1.cell x hxN; have fG : w4.frozen? ⟨g, x, none⟩ = false := G4.out.1.fz x; clear hW d4)
          go_roundw
          case rel =>
            refine ⟨i + 1, by omega, by go_num, fun c => if c = x then .slice bW mW kW else val c, hide ?_⟩
            obtain ⟨csG, eG⟩ := G4.out.1.blk
            have O4 := only_set w4 g x (.slice bW mW kW)
            have hBw := HY.out.2.2.2.2.size
            have gne : g ≠ b := fun e => by
              subst e
              have := blk_on HY.out.2.1 G4.out.2.2
              rw [eG] at this
              cases this
            refine ⟨⟨G4.out.1.upd x _, fun q y hq hy => ?_⟩, ?_, own_keep (own_below HY.out.2.2.1 G4.out.2.2) eG (by decide) O4, own_keep (own_below HY.out.2.2.2.1 G4.out.2.2) eG (by decide) O4, ?_⟩
            · by_cases e : q = i
              · subst e
                have : x = y := by
                  have := HXI.out
                  rw [hy] at this
                  simpa using this.symm
                subst this
                rw [if_pos rfl]
                exact own_keep (owns_down G4.out.2.1 hBw) eG (by decide) O4
              · have hne : y ≠ x := fun e2 => e (by
                  subst e2
                  exact (List.getElem?_inj (List.getElem?_eq_some_iff.1 hy).1 HX.out.2.2.2.2.1).1 (hy.trans HXI.out.symm))
                rw [if_neg hne]
                exact own_keep (own_below (HY.out.1.wd q y (by omega) hy) G4.out.2.2) eG (by decide) O4
            · exact (O4.block b (Array.getElem?_eq_some_iff.1 (blk_on HY.out.2.1 G4.out.2.2)).1 (fun e => gne e.symm)).trans (blk_on HY.out.2.1 G4.out.2.2)
            · exact (HY.out.2.2.2.2.trans (G4.out.2.2.mono hBw)).trans (O4.toBelow (Nat.le_trans hBw G4.out.2.2.size) (fun k hk => by omega))
          case measure => simp [intOf]; omega
        · have l0 : ¬ (i : Int) < (N : Int) := by omega
          obtain rfl : i = N := by omega
          go_wp2_with fail
          go_ret2
          exact ⟨T, K, hide ⟨HX.out.2.2.2.2.2.2.1, HX.out.2.2.2.2.2.2.2.1, HX.out.2.2.2.2.1, HX.out.2.2.2.2.2.1, HY.out.2.2.2.2⟩, Or.inr ⟨HE.out.1, g, rfl, val, hide ⟨hgw, HY.out.1⟩⟩⟩
/-! ### The words in their order -/
/-- The rank of a word: shorter first, then by the symbols. -/
def rkF (M : Nat) (r : Nat) (w : List Nat) : Nat := w.foldl (fun r a => M * r + a + 1) r
def rk (M : Nat) (w : List Nat) : Nat := rkF M 0 w
theorem rk_snoc (M : Nat) (w : List Nat) (a : Nat) : rk M (w ++ [a]) = M * rk M w + a + 1 := by simp [rk, rkF]
theorem rkF_lt {M : Nat} : ∀ (A B : List Nat) {r s : Nat}, A.length = B.length → (∀ a ∈ A, a < M) → (∀ b ∈ B, b < M) → r < s → rkF M r A < rkF M s B
  | [], [], _, _, _, _, _, h => h
  | [], _ :: _, _, _, h, _, _, _ => by simp at h
  | _ :: _, [], _, _, h, _, _, _ => by simp at h
  | x :: A, y :: B, r, s, h, hA, hB, hr => by
    refine rkF_lt A B (r := M * r + x + 1) (s := M * s + y + 1) (by simpa using h) (fun a ha => hA a (by simp [ha])) (fun b hb => hB b (by simp [hb])) ?_
    have hx := hA x (by simp)
    have : M * (r + 1) ≤ M * s := Nat.mul_le_mul_left M hr
    rw [Nat.mul_add] at this
    omega
/-- As many numbers as there are shorter words. -/
def shorter (M : Nat) : Nat → Nat
  | 0 => 0
  | n + 1 => M * shorter M n + 1
theorem rkF_len {M : Nat} : ∀ (A : List Nat) (r n : Nat), (∀ a ∈ A, a < M) → shorter M n ≤ r → r < shorter M (n + 1) → shorter M (n + A.length) ≤ rkF M r A ∧ rkF M r A < shorter M (n + A.length + 1)
  | [], r, n, _, h1, h2 => ⟨h1, h2⟩
  | x :: A, r, n, hA, h1, h2 => by
    have hx := hA x (by simp)
    have e1 : M * shorter M n ≤ M * r := Nat.mul_le_mul_left M h1
    have e2 : M * (r + 1) ≤ M * shorter M (n + 1) := Nat.mul_le_mul_left M h2
    rw [Nat.mul_add] at e2
    have := rkF_len A (M * r + x + 1) (n + 1) (fun a ha => hA a (by simp [ha])) (show M * shorter M n + 1 ≤ _ by omega) (show _ < M * shorter M (n + 1) + 1 by omega)
    rw [show n + (x :: A).length = n + 1 + A.length by simp; omega]
    exact this
theorem shorter_mono {M : Nat} (hM : 0 < M) : ∀ (n k : Nat), shorter M n ≤ shorter M (n + k)
  | _, 0 => Nat.le_refl _
  | n, k + 1 => by
    refine Nat.le_trans (shorter_mono hM n k) ?_
    show shorter M (n + k) ≤ M * shorter M (n + k) + 1
    have : 1 * shorter M (n + k) ≤ M * shorter M (n + k) := Nat.mul_le_mul_right _ hM
    omega
theorem rk_len {M : Nat} (hM : 0 < M) {A B : List Nat} (hA : ∀ a ∈ A, a < M) (hB : ∀ b ∈ B, b < M) (h : A.length < B.length) : rk M A < rk M B := by
  have h1 := (rkF_len A 0 0 hA (Nat.le_refl _) (by show 0 < M * 0 + 1; omega)).2
  have h2 := (rkF_len B 0 0 hB (Nat.le_refl _) (by show 0 < M * 0 + 1; omega)).1
  have h3 := shorter_mono hM (0 + A.length + 1) (B.length - (A.length + 1))
  rw [show 0 + A.length + 1 + (B.length - (A.length + 1)) = 0 + B.length by omega] at h3
  unfold rk
  omega
theorem leL_rk {M : Nat} : ∀ (A B : List Nat) (r : Nat), A.length = B.length → (∀ a ∈ A, a < M) → (∀ b ∈ B, b < M) → leL (A.map fun (a : Nat) => (a : Int)) (B.map fun (a : Nat) => (a : Int)) = decide (rkF M r A ≤ rkF M r B)
  | [], [], _, _, _, _ => by simp [leL, rkF]
  | [], _ :: _, _, h, _, _ => by simp at h
  | _ :: _, [], _, h, _, _ => by simp at h
  | x :: A, y :: B, r, h, hA, hB => by
    have hl : A.length = B.length := by simpa using h
    have hA' : ∀ a ∈ A, a < M := fun a ha => hA a (by simp [ha])
    have hB' : ∀ b ∈ B, b < M := fun b hb => hB b (by simp [hb])
    show (if (x : Int) = (y : Int) then leL (A.map fun (a : Nat) => (a : Int)) (B.map fun (a : Nat) => (a : Int)) else decide ((x : Int) < (y : Int))) = decide (rkF M (M * r + x + 1) A ≤ rkF M (M * r + y + 1) B)
    by_cases e : x = y
    · subst e
      rw [if_pos rfl]
      exact leL_rk A B _ hl hA' hB'
    · rw [if_neg (by omega)]
      rcases Nat.lt_or_gt_of_ne e with q | q
      · have := rkF_lt A B (r := M * r + x + 1) (s := M * r + y + 1) hl hA' hB' (by omega)
        rw [decide_eq_true (show (x : Int) < (y : Int) by omega), decide_eq_true (by omega)]
      · have := rkF_lt B A (r := M * r + y + 1) (s := M * r + x + 1) hl.symm hB' hA' (by omega)
        rw [decide_eq_false (show ¬ (x : Int) < (y : Int) by omega), decide_eq_false (by omega)]
theorem ahB_rk {M : Nat} {A B : List Nat} (hA : ∀ a ∈ A, a < M) (hB : ∀ b ∈ B, b < M) : ahB (A.map fun (a : Nat) => (a : Int)) (B.map fun (a : Nat) => (a : Int)) = decide (rk M A ≤ rk M B) := by
  unfold ahB
  simp only [List.length_map]
  by_cases h : A.length = B.length
  · rw [if_pos h]
    exact leL_rk A B 0 h hA hB
  · rw [if_neg h]
    have pos : 0 < M := by
      cases A with
      | nil => cases B with
        | nil => exact absurd rfl h
        | cons y B => exact Nat.lt_of_le_of_lt (Nat.zero_le _) (hB y (by simp))
      | cons x A => exact Nat.lt_of_le_of_lt (Nat.zero_le _) (hA x (by simp))
    rcases Nat.lt_or_gt_of_ne h with q | q
    · have := rk_len pos hA hB q
      rw [decide_eq_true q, decide_eq_true (by omega)]
    · have := rk_len pos hB hA q
      rw [decide_eq_false (by omega), decide_eq_false (by omega)]
/-- The word by its number, of plain numbers. -/
def wnF (M : Nat) (K : List Nat) : Nat → Nat → List Nat
  | 0, _ => []
  | _ + 1, 0 => []
  | f + 1, i + 1 => wnF M K f (K.getD i 0 / M) ++ [K.getD i 0 % M]
def wnK (M : Nat) (K : List Nat) (i : Nat) : List Nat := wnF M K i i
theorem wnF_map (M : Nat) (K : List Nat) : ∀ (f i : Nat), (wnF M K f i).map (fun (a : Nat) => (a : Int)) = wdF M K f i
  | 0, _ => rfl
  | _ + 1, 0 => rfl
  | f + 1, i + 1 => by
    show (wnF M K f (K.getD i 0 / M) ++ [K.getD i 0 % M]).map _ = wdF M K f (K.getD i 0 / M) ++ [((K.getD i 0 % M : Nat) : Int)]
    rw [List.map_append, wnF_map M K f]
    rfl
theorem wnK_map (M : Nat) (K : List Nat) (i : Nat) : (wnK M K i).map (fun (a : Nat) => (a : Int)) = wdK M K i := wnF_map M K i i
theorem wnF_eq {M : Nat} {K : List Nat} (h : ∀ i, i < K.length → K.getD i 0 / M ≤ i) : ∀ (f i : Nat), i ≤ f → i ≤ K.length → wnF M K f i = wnF M K i i := by
  intro f
  induction f using Nat.strongRecOn with
  | _ f ih =>
    intro i hf hi
    cases i with
    | zero => cases f <;> rfl
    | succ i =>
      obtain ⟨f, rfl⟩ : ∃ g, f = g + 1 := ⟨f - 1, by omega⟩
      have hd := h i (by omega)
      show wnF M K f (K.getD i 0 / M) ++ _ = wnF M K i (K.getD i 0 / M) ++ _
      rw [ih f (by omega) _ (by omega) (by omega)]
      rcases Nat.lt_or_ge i f with q | q
      · rw [ih i (by omega) _ hd (by omega)]
      · obtain rfl : f = i := by omega
        rw [ih f (by omega) _ hd (by omega)]
theorem wnK_succ {M : Nat} {K : List Nat} (h : ∀ i, i < K.length → K.getD i 0 / M ≤ i) {i : Nat} (hi : i < K.length) : wnK M K (i + 1) = wnK M K (K.getD i 0 / M) ++ [K.getD i 0 % M] := by
  show wnF M K i (K.getD i 0 / M) ++ _ = _
  rw [wnF_eq h i _ (h i hi) (by have := h i hi; omega)]
  rfl
section
variable {α : Type} {φ : α → Nat → α} {M : Nat} {first : α} {T : List α} {K : List Nat} {c : Nat}
theorem Wk.q (h : Wk φ M first T K c) : ∀ i, i < K.length → K.getD i 0 / M ≤ i := fun i hi => (h.s i hi).2.1
/-- The words stand in their order. -/
theorem Wk.up (h : Wk φ M first T K c) (hM : 0 < M) : ∀ (j i : Nat), i < j → j ≤ K.length → rk M (wnK M K i) < rk M (wnK M K j) := by
  intro j
  induction j using Nat.strongRecOn with
  | _ j ih =>
    intro i hij hj
    obtain ⟨j, rfl⟩ : ∃ k, j = k + 1 := ⟨j - 1, by omega⟩
    rw [wnK_succ h.q (by omega), rk_snoc]
    cases i with
    | zero => show 0 < _; omega
    | succ i =>
      rw [wnK_succ h.q (by omega), rk_snoc]
      have ho := h.o i j (by omega) (by omega)
      have hq := h.q j (by omega)
      have m1 := Nat.mod_lt (K.getD i 0) hM
      have m2 := Nat.mod_lt (K.getD j 0) hM
      have dm1 := Nat.div_add_mod (K.getD i 0) M
      have dm2 := Nat.div_add_mod (K.getD j 0) M
      rcases Nat.lt_trichotomy (K.getD i 0 / M) (K.getD j 0 / M) with q | q | q
      · have := ih (K.getD j 0 / M) (by omega) (K.getD i 0 / M) q (by omega)
        have : M * (rk M (wnK M K (K.getD i 0 / M)) + 1) ≤ M * rk M (wnK M K (K.getD j 0 / M)) := Nat.mul_le_mul_left M this
        rw [Nat.mul_add] at this
        omega
      · rw [q] at dm1 ⊢
        omega
      · have : M * (K.getD j 0 / M + 1) ≤ M * (K.getD i 0 / M) := Nat.mul_le_mul_left M q
        rw [Nat.mul_add] at this
        omega
theorem Wk.syms (h : Wk φ M first T K c) (hM : 0 < M) : ∀ (i : Nat), i ≤ K.length → ∀ a ∈ wnK M K i, a < M := by
  intro i
  induction i using Nat.strongRecOn with
  | _ i ih =>
    intro hi a ha
    cases i with
    | zero => cases ha
    | succ i =>
      rw [wnK_succ h.q (by omega)] at ha
      have hq := h.q i (by omega)
      rcases List.mem_append.1 ha with e | e
      · exact ih _ (by omega) (by omega) a e
      · rw [List.mem_singleton] at e
        rw [e]
        exact Nat.mod_lt _ hM
/-- The word of a number leads to what was met under that number. -/
theorem Wk.leads (h : Wk φ M first T K c) : ∀ (i : Nat) (x : α), T[i]? = some x → (wnK M K i).foldl φ first = x := by
  intro i
  induction i using Nat.strongRecOn with
  | _ i ih =>
    intro x hx
    cases i with
    | zero =>
      rw [h.z] at hx
      exact Option.some.inj hx
    | succ i =>
      have hl := h.l
      have hi : i < K.length := by
        have := (List.getElem?_eq_some_iff.1 hx).1
        omega
      obtain ⟨h1, h2, y, h3, h4⟩ := h.s i hi
      rw [wnK_succ h.q hi, List.foldl_append, ih _ (by omega) y h3]
      rw [h4] at hx
      simpa using hx
/-- What a word leads to was met, under a number whose word is no later. -/
theorem Wk.least (h : Wk φ M first T K c) (hc : Cv φ M T K (T.length * M)) (hM : 0 < M) : ∀ (n : Nat) (u : List Nat), u.length = n → (∀ a ∈ u, a < M) → ∃ i, T[i]? = some (u.foldl φ first) ∧ rk M (wnK M K i) ≤ rk M u := by
  intro n
  induction n with
  | zero =>
    intro u hu _
    obtain rfl := List.eq_nil_of_length_eq_zero hu
    exact ⟨0, h.z, Nat.le_refl _⟩
  | succ n ih =>
    intro u hu ha
    obtain ⟨v, a, rfl⟩ : ∃ v a, u = v ++ [a] := by
      rcases List.eq_nil_or_concat u with e | ⟨v, a, e⟩
      · subst e; simp at hu
      · exact ⟨v, a, by rw [e, List.concat_eq_append]⟩
    obtain ⟨i, h1, h2⟩ := ih v (by simpa using hu) (fun b hb => ha b (by simp [hb]))
    have ham := ha a (by simp)
    have hi := (List.getElem?_eq_some_iff.1 h1).1
    have d1 : (i * M + a) / M = i := by rw [Nat.mul_comm, Nat.mul_add_div hM, Nat.div_eq_of_lt ham]; omega
    have d2 : (i * M + a) % M = a := by rw [Nat.mul_comm, Nat.mul_add_mod, Nat.mod_eq_of_lt ham]
    have hlt : i * M + a < T.length * M := by
      have : (i + 1) * M ≤ T.length * M := Nat.mul_le_mul_right M hi
      rw [Nat.succ_mul] at this
      omega
    obtain ⟨j, h3, h4⟩ := hc (i * M + a) hlt _ (by rw [d1]; exact h1)
    rw [d2] at h3
    refine ⟨j, by rw [List.foldl_append]; exact h3, ?_⟩
    rw [rk_snoc]
    cases j with
    | zero => show 0 ≤ _; omega
    | succ j =>
      have hj : j < K.length := by
        have := (List.getElem?_eq_some_iff.1 h3).1
        have := h.l
        omega
      rw [wnK_succ h.q hj, rk_snoc]
      have hk := h4 j rfl
      have dm := Nat.div_add_mod (K.getD j 0) M
      have mm := Nat.mod_lt (K.getD j 0) hM
      have hle : K.getD j 0 / M ≤ i := by
        have := Nat.div_le_div_right (c := M) hk
        rw [d1] at this
        exact this
      rcases Nat.lt_or_ge (K.getD j 0 / M) i with q | q
      · have hr := h.up hM i (K.getD j 0 / M) q (by have := h.l; omega)
        have : M * (rk M (wnK M K (K.getD j 0 / M)) + 1) ≤ M * rk M v := Nat.mul_le_mul_left M (Nat.le_trans hr h2)
        rw [Nat.mul_add] at this
        omega
      · have e : K.getD j 0 / M = i := by omega
        rw [e] at dm ⊢
        have : M * rk M (wnK M K i) ≤ M * rk M v := Nat.mul_le_mul_left M h2
        have e2 : M * i = i * M := Nat.mul_comm _ _
        omega
end
/-! ### The word that tells two states apart -/
theorem rtOf_ok {N : Nat} : ∀ (n : Nat) (T : List (Nat × Nat)), T.length = n → (∀ y ∈ T, y.1 < N ∧ y.2 < N) → ∀ s, s < N → rtOf T s < N ∧ rtOf T (rtOf T s) = rtOf T s := by
  intro n
  induction n with
  | zero =>
    intro T hT _ s hs
    obtain rfl := List.eq_nil_of_length_eq_zero hT
    exact ⟨hs, rfl⟩
  | succ n ih =>
    intro T hT h s hs
    obtain ⟨T, x, rfl⟩ : ∃ R x, T = R ++ [x] := by
      rcases List.eq_nil_or_concat T with e | ⟨R, x, e⟩
      · subst e; simp at hT
      · exact ⟨R, x, by rw [e, List.concat_eq_append]⟩
    have ih := ih T (by simpa using hT) (fun y hy => h y (by simp [hy]))
    have hx := h x (by simp)
    rw [rtOf_snoc]
    have i2 := ih _ hx.2
    have i1 := ih _ hx.1
    have i0 := ih _ hs
    unfold jn
    by_cases e : rtOf T s = rtOf T x.1
    · rw [if_pos e]
      refine ⟨i2.1, ?_⟩
      rw [i2.2]
      split <;> rfl
    · rw [if_neg e]
      refine ⟨i0.1, ?_⟩
      rw [i0.2, if_neg e]
theorem rc_two {N : Nat} {rt : Nat → Nat} {a b : Nat} (ha : a < N) (hb : b < N) (ra : rt a = a) (rb : rt b = b) (ne : a ≠ b) : 2 ≤ rc N rt := by
  unfold rc
  have hma : a ∈ (List.range N).filter (fun c => decide (rt c = c)) := by simp [ha, ra]
  have hmb : b ∈ (List.range N).filter (fun c => decide (rt c = c)) := by simp [hb, rb]
  generalize (List.range N).filter (fun c => decide (rt c = c)) = l at hma hmb
  match l, hma, hmb with
  | [], h, _ => cases h
  | [x], h, k =>
    rw [List.mem_singleton] at h k
    exact absurd (h.trans k.symm) ne
  | _ :: _ :: _, _, _ => simp
theorem rkF_mono {M : Nat} : ∀ (v : List Nat) {r s : Nat}, r ≤ s → rkF M r v ≤ rkF M s v
  | [], _, _, h => h
  | a :: v, r, s, h => rkF_mono v (r := M * r + a + 1) (s := M * s + a + 1) (by have := Nat.mul_le_mul_left M h; omega)
theorem rk_app (M : Nat) (A v : List Nat) : rk M (A ++ v) = rkF M (rk M A) v := List.foldl_append ..
theorem rk_le_app {M : Nat} {A B : List Nat} (h : rk M A ≤ rk M B) (v : List Nat) : rk M (A ++ v) ≤ rk M (B ++ v) := by
  rw [rk_app, rk_app]
  exact rkF_mono v h
theorem rkF_ge {M : Nat} (hM : 0 < M) : ∀ (v : List Nat) (r : Nat), r ≤ rkF M r v
  | [], _ => Nat.le_refl _
  | a :: v, r => Nat.le_trans (by have := Nat.le_mul_of_pos_left r hM; omega) (rkF_ge hM v (M * r + a + 1))
theorem wnK_app {M e : Nat} {K : List Nat} (h : ∀ i, i < K.length → K.getD i 0 / M ≤ i) (h2 : ∀ i, i < (K ++ [e]).length → (K ++ [e]).getD i 0 / M ≤ i) : ∀ i, i ≤ K.length → wnK M (K ++ [e]) i = wnK M K i := by
  intro i
  induction i using Nat.strongRecOn with
  | _ i ih =>
    intro hi
    cases i with
    | zero => rfl
    | succ i =>
      have hl : i < (K ++ [e]).length := by simp; omega
      rw [wnK_succ h2 hl, wnK_succ h (by omega), getD_snoc_lt (by omega), ih _ (by have := h i (by omega); omega) (by have := h i (by omega); omega)]
theorem wnK_len {M : Nat} {K : List Nat} (h : ∀ i, i < K.length → K.getD i 0 / M ≤ i) : ∀ i, i ≤ K.length → (wnK M K i).length ≤ i := by
  intro i
  induction i using Nat.strongRecOn with
  | _ i ih =>
    intro hi
    cases i with
    | zero => exact Nat.le_refl _
    | succ i =>
      have hd := h i (by omega)
      have := ih (K.getD i 0 / M) (by omega) (by omega)
      rw [wnK_succ h (by omega), List.length_append, List.length_singleton]
      omega
theorem Wk.code {α : Type} {φ : α → Nat → α} {M : Nat} {first : α} {T : List α} {K : List Nat} {c e f : Nat} (h : Wk φ M first T K c) (hM : 0 < M) (hef : e ≤ f) (hf : f / M ≤ K.length) : rk M (wnK M K (e / M) ++ [e % M]) ≤ rk M (wnK M K (f / M) ++ [f % M]) := by
  rw [rk_snoc, rk_snoc]
  have d1 := Nat.div_add_mod e M
  have d2 := Nat.div_add_mod f M
  have m1 := Nat.mod_lt e hM
  rcases Nat.lt_or_ge (e / M) (f / M) with q | q
  · have u := h.up hM (f / M) (e / M) q hf
    have := Nat.mul_le_mul_left M (show rk M (wnK M K (e / M)) + 1 ≤ rk M (wnK M K (f / M)) from u)
    rw [Nat.mul_add] at this
    omega
  · have hle : e / M ≤ f / M := Nat.div_le_div_right hef
    have eq : e / M = f / M := by omega
    rw [eq] at d1 ⊢
    omega
theorem dls2 (Nx : List Int) (M : Nat) : ∀ (v : List Nat) (a b : Nat), v.foldl (fun x a => (dl Nx M x.1 a, dl Nx M x.2 a)) (a, b) = (dls Nx M a v, dls Nx M b v)
  | [], _, _ => rfl
  | s :: v, a, b => dls2 Nx M v (dl Nx M a s) (dl Nx M b s)
/-- The word by which the last pair was met tells the first one's states apart; it is short, and no word that does so stands before it. -/
theorem fnd_word {Nx : List Int} {fin : Nat → Bool} {N M p q : Nat} {K : List Nat} (h : FndP Nx fin N M p q K) :
    (∀ a ∈ wnK M K K.length, a < M) ∧ fin (dls Nx M p (wnK M K K.length)) ≠ fin (dls Nx M q (wnK M K K.length)) ∧ (wnK M K K.length).length + 2 ≤ N ∧ ∀ v : List Nat, (∀ a ∈ v, a < M) → fin (dls Nx M p v) ≠ fin (dls Nx M q v) → rk M (wnK M K K.length) ≤ rk M v := by
  obtain ⟨R, x, hx, hR, hrc, hxN, hRN, hh⟩ := h
  have two : 2 ≤ rc N (rtOf R) := by
    have o1 := rtOf_ok _ R rfl hRN _ hxN.1
    have o2 := rtOf_ok _ R rfl hRN _ hxN.2
    refine rc_two o1.1 o2.1 o1.2 o2.2 (fun e => hx ?_)
    exact rtOf_ind (P := fun a b => fin a = fin b) (fun _ => rfl) (fun _ _ h => h.symm) (fun _ _ _ h k => h.trans k) _ R rfl hR _ _ e
  rcases hh with ⟨rfl, rfl, rfl⟩ | ⟨K', e, hM, rfl, hW, hC, y, hy, rfl⟩
  · refine ⟨fun a ha => (by cases ha), hx, (by show 0 + 2 ≤ N; simp at hrc; omega), fun v _ _ => (by show 0 ≤ _; omega)⟩
  · have hl := hW.l
    have hyl := (List.getElem?_eq_some_iff.1 hy).1
    have q1 := hW.q
    have q2 : ∀ i, i < (K' ++ [e]).length → (K' ++ [e]).getD i 0 / M ≤ i := fun i hi => by
      rw [List.length_append, List.length_singleton] at hi
      rcases Nat.lt_or_ge i K'.length with g | g
      · rw [getD_snoc_lt g]; exact q1 i g
      · obtain rfl : i = K'.length := by omega
        rw [getD_snoc_eq]; omega
    have eu : wnK M (K' ++ [e]) (K' ++ [e]).length = wnK M K' (e / M) ++ [e % M] := by
      rw [List.length_append, List.length_singleton, wnK_succ q2 (by simp), getD_snoc_eq, wnK_app q1 q2 _ (by omega)]
    rw [eu]
    have lead := hW.leads (e / M) y hy
    have hlen := wnK_len q1 (e / M) (by omega)
    have le2 : (wnK M K' (e / M) ++ [e % M]).foldl (fun x a => (dl Nx M x.1 a, dl Nx M x.2 a)) (p, q) = (fun x a => (dl Nx M x.1 a, dl Nx M x.2 a)) y (e % M) := by
      rw [List.foldl_append, lead]; rfl
    rw [dls2] at le2
    refine ⟨?_, ?_, ?_, ?_⟩
    · intro a ha
      rcases List.mem_append.1 ha with g | g
      · exact hW.syms hM _ (by omega) a g
      · rw [List.mem_singleton] at g
        rw [g]; exact Nat.mod_lt _ hM
    · have e1 := congrArg Prod.fst le2
      have e2 := congrArg Prod.snd le2
      dsimp only at e1 e2
      rw [e1, e2]
      exact hx
    · rw [List.length_append, List.length_singleton]
      omega
    · have key : ∀ (v : List Nat) (i : Nat) (z : Nat × Nat), R[i]? = some z → (∀ a ∈ v, a < M) → fin (dls Nx M z.1 v) ≠ fin (dls Nx M z.2 v) → rk M (wnK M K' (e / M) ++ [e % M]) ≤ rk M (wnK M K' i ++ v) := by
        intro v
        induction v with
        | nil =>
          intro i z hz _ hne
          exact absurd (hR z (List.mem_of_getElem? hz)) hne
        | cons a v ih =>
          intro i z hz hv hne
          have hiR := (List.getElem?_eq_some_iff.1 hz).1
          have haM := hv a (by simp)
          have d1 : (i * M + a) / M = i := by rw [Nat.mul_comm, Nat.mul_add_div hM, Nat.div_eq_of_lt haM]; omega
          have d2 : (i * M + a) % M = a := by rw [Nat.mul_comm, Nat.mul_add_mod, Nat.mod_eq_of_lt haM]
          have es : wnK M K' i ++ a :: v = (wnK M K' i ++ [a]) ++ v := by simp
          rw [es]
          by_cases hc : i * M + a < e
          · obtain ⟨i', h1, h2, h3⟩ := hC (i * M + a) hc z (by rw [d1]; exact hz)
            rw [d2] at h2
            dsimp only at h2
            have ex : ∃ r ∈ R.take i', fin (dls Nx M r.1 v) ≠ fin (dls Nx M r.2 v) := by
              refine Classical.byContradiction fun no => hne ?_
              refine rtOf_ind (P := fun a b => fin (dls Nx M a v) = fin (dls Nx M b v)) (fun _ => rfl) (fun _ _ h => h.symm) (fun _ _ _ h k => h.trans k) _ (R.take i') rfl (fun r hr => ?_) _ _ h2
              exact Classical.byContradiction fun hn => no ⟨r, hr, hn⟩
            obtain ⟨r, hr, hrn⟩ := ex
            obtain ⟨j, hj, ej⟩ := List.getElem_of_mem hr
            rw [List.length_take] at hj
            have hjR : R[j]? = some r := by
              rw [List.getElem_take] at ej
              rw [List.getElem?_eq_getElem (by omega), ej]
            refine Nat.le_trans (ih j r hjR (fun b hb => hv b (by simp [hb])) hrn) (rk_le_app ?_ v)
            cases j with
            | zero => exact Nat.zero_le _
            | succ j =>
              rw [wnK_succ q1 (by omega)]
              have := hW.code hM (h3 j (by omega)) (by rw [d1]; omega)
              rwa [d1, d2] at this
          · have := hW.code hM (show e ≤ i * M + a by omega) (by rw [d1]; omega)
            rw [d1, d2] at this
            refine Nat.le_trans this ?_
            rw [rk_app M _ v]
            exact rkF_ge hM v _
      intro v hv hne
      exact key v 0 (p, q) hW.z hv hne
/-! ### The chains, new -/
set_option maxRecDepth 100000 in
set_option maxHeartbeats 1000000 in
theorem newChains_any (w : World) (N : Nat) (hN : N ≤ 4194304) :
    Calls Try.prog 62 #[.int .i64 (N : Int)] w fun e w' => ∃ g, e = .returned (.agg #[.slice (some ⟨g, 0, none⟩) N N]) ∧ Hid (w.heap.size ≤ g ∧ ChR w' g N (fun s => s)) ∧ Below w.heap.size w w' := by
  obtain ⟨i3, hi3, hz30, hz31, hz32⟩ := info_parts info3
  obtain ⟨W0, hW0⟩ : ∃ W0, w.alloc (.cells #[.slice none 0 0] 95) = W0 := ⟨_, rfl⟩
  have d0 : Below w.heap.size w W0 := by rw [← hW0]; exact (Below.refl _ _).alloc (Nat.le_refl _) _
  have B0 : W0.heap[w.heap.size]? = some (.cells #[.slice none 0 0] 95 (0, 0)) := by rw [← hW0]; exact World.alloc_heap_new _ _
  have z0 : W0.heap.size = w.heap.size + 1 := by rw [← hW0]; simp
  have HD := hide (And.intro d0 (And.intro B0 z0))
  clear d0 B0 z0
  go_enter Try.func62, Try.ntmps62
  go_upto_region 1 with fail
  go_upto_region 2 with (at_make; refine wpList_make_full _ rfl _ _ 22 rfl W0.heap.size 3 i3 (.int .i64 0) 1 Try.underlying22 hi3 hz30 hz31 _ _ _ _ N rfl rfl rfl rfl (by rw [hz32]; omega) (by unfold maxLen; omega) (Nat.le_refl _) ?_; intro w1 ho hg)
  have D1 : Below W0.heap.size W0 w1 := (Below.refl _ _).grown hg (Nat.le_refl _) (by intro k hk; cases hk)
  have M0 := Mrw.ofRow (fun c => .int .i64 (c : Int)) ho
  rw [Nat.mul_one] at M0
  obtain ⟨W2, hW2⟩ : ∃ W2, w1.alloc (.cells #[.slice (some ⟨W0.heap.size, 0, none⟩) N N] 95) = W2 := ⟨_, rfl⟩
  rw [hW2]
  obtain ⟨g, hgg⟩ : ∃ g, W0.heap.size = g := ⟨_, rfl⟩
  obtain ⟨bc, hbc⟩ : ∃ b, w1.heap.size = b := ⟨_, rfl⟩
  have J0 : Hid (Mrw W2 g 3 N (fun c => .int .i64 (c : Int)) 0 ∧ W2.heap[bc]? = some (.cells #[.slice (some ⟨g, 0, none⟩) N N] 95 (0, 0)) ∧ W2.heap[w.heap.size]? = some (.cells #[.slice none 0 0] 95 (0, 0)) ∧ Below w.heap.size w W2 ∧ g = w.heap.size + 1 ∧ g < bc) := hide (by
    have d2 : Below w1.heap.size w1 W2 := by rw [← hW2]; exact (Below.refl _ _).alloc (Nat.le_refl _) _
    subst hgg hbc
    have z := HD.out.2.2
    refine ⟨M0.below d2 M0.lt, by rw [← hW2]; exact World.alloc_heap_new _ _, blk_on (blk_on HD.out.2.1 D1) d2, (HD.out.1.trans (D1.mono HD.out.1.size)).trans (d2.mono (by have := D1.size; omega)), z, M0.lt⟩)
  rw [hgg, hbc]
  clear D1 M0 ho hg hW2 hgg hbc hi3 hz30 hz31 hz32
  have z0 : W2.cell? ⟨bc, 0, none⟩ = some (.slice (some ⟨g, 0, none⟩) N N) := cell_of J0.out.2.1 rfl
  go_wp2_with fail
  clear z0
  have HG := hide J0.out.2.2.2.2
  go_loopw [11] (fun iv wr => ∃ i : Nat, i ≤ N ∧ iv = .int .i64 (i : Int) ∧ Hid (Mrw wr g 3 N (fun c => .int .i64 (c : Int)) i ∧ wr.heap[bc]? = some (.cells #[.slice (some ⟨g, 0, none⟩) N N] 95 (0, 0)) ∧ wr.heap[w.heap.size]? = some (.cells #[.slice none 0 0] 95 (0, 0)) ∧ Below w.heap.size w wr)) (fun iv _ => N - (intOf iv).toNat)
  case atStart => exact ⟨0, Nat.zero_le _, rfl, hide ⟨J0.out.1, J0.out.2.1, J0.out.2.2.1, J0.out.2.2.2.1⟩⟩
  case round =>
    clear J0
    obtain ⟨i, hi, rfl, HY⟩ := hrel
    by_cases hlt : i < N
    · have l0 : (i : Int) < (N : Int) := by omega
      have l1 : (0 : Int) ≤ (i : Int) := by omega
      have z0 : wr.cell? ⟨bc, 0, none⟩ = some (.slice (some ⟨g, 0, none⟩) N N) := cell_of HY.out.2.1 rfl
      obtain ⟨u, c⟩ := HY.out.1.cell i hlt
      have f := HY.out.1.fz i
      go_wp2_with fail
      go_roundw
      case rel =>
        have O := only_set wr g i (.int .i64 (i : Int))
        have hg := HG.out
        have hb := (Array.getElem?_eq_some_iff.1 HY.out.2.1).1
        have hw := (Array.getElem?_eq_some_iff.1 HY.out.2.2.1).1
        exact ⟨i + 1, by omega, by go_num, hide ⟨HY.out.1.put hlt _ rfl, (O.block _ hb (by omega)).trans HY.out.2.1, (O.block _ hw (by omega)).trans HY.out.2.2.1, HY.out.2.2.2.trans (O.toBelow HY.out.2.2.2.size (fun k hk => by omega))⟩⟩
      case measure => simp [intOf]; omega
    · have l0 : ¬ (i : Int) < (N : Int) := by omega
      obtain rfl : i = N := by omega
      have z0 : wr.cell? ⟨bc, 0, none⟩ = some (.slice (some ⟨g, 0, none⟩) i i) := cell_of HY.out.2.1 rfl
      have o0 : wr.cell? ⟨w.heap.size, 0, none⟩ = some (.slice none 0 0) := cell_of HY.out.2.2.1 rfl
      have f0 : wr.frozen? ⟨w.heap.size, 0, none⟩ = false := fz_of HY.out.2.2.1
      have O6 := hide (And.intro (set1 wr w.heap.size _ (.slice (some ⟨g, 0, none⟩) i i) 95 HY.out.2.2.1) (only_set wr w.heap.size 0 (.slice (some ⟨g, 0, none⟩) i i)))
      go_wp2_with fail
      refine bodyPost_ret (results_cell_row (p := 2) (ty := 95) rfl _ _ w.heap.size 95 _ (0, 0) _ rfl O6.out.1 Try.underlying95 rfl (by kernel_rfl)) rfl ?_
      have hg := HG.out
      refine ⟨g, rfl, hide ⟨by omega, fun c => c, fun _ => 0, HY.out.1.only O6.out.2 (by omega), ⟨fun c h => h, fun c _ h => absurd rfl h, fun c h => h, fun c _ => rfl, fun c _ => rfl, fun c _ _ => rfl⟩⟩, HY.out.2.2.2.trans (O6.out.2.toBelow HY.out.2.2.2.size (fun k hk => by omega))⟩
/-! ### tell -/
theorem fnd_wd {Nx : List Int} {fin : Nat → Bool} {N M p q : Nat} {K : List Nat} (h : FndP Nx fin N M p q K) : WdOf (stepsOf M K) (wdK M K) ∧ K.length ≤ N := by
  obtain ⟨R, x, hx, hR, hrc, hxN, hRN, hh⟩ := h
  rcases hh with ⟨rfl, rfl, rfl⟩ | ⟨K', e, hM, rfl, hW, hC, y, hy, rfl⟩
  · exact ⟨wdK_of (Wk.one (fun x a => dl Nx M x a) M 0), Nat.zero_le _⟩
  · refine ⟨wdK_of (hW.put hy), ?_⟩
    have := hW.l
    rw [List.length_append, List.length_singleton]
    omega
/-- The least word that tells two states apart. -/
def TlW (Nx : List Int) (fin : Nat → Bool) (N M p q : Nat) (u : List Nat) : Prop := (∀ a ∈ u, a < M) ∧ fin (dls Nx M p u) ≠ fin (dls Nx M q u) ∧ u.length + 2 ≤ N ∧ ∀ v : List Nat, (∀ a ∈ v, a < M) → fin (dls Nx M p v) ≠ fin (dls Nx M q v) → rk M u ≤ rk M v
/-- No word tells them apart. -/
def Ali (Nx : List Int) (fin : Nat → Bool) (M p q : Nat) : Prop := ∀ u : List Nat, (∀ s ∈ u, s < M) → fin (dls Nx M p u) = fin (dls Nx M q u)
def TelA (w : World) (Nx : List Int) (fin : Nat → Bool) (N M p q : Nat) : Ending → World → Prop := fun e w' => ∃ b n c told, e = .returned (.tuple #[.slice b n c, .bool told]) ∧ Hid (Below w.heap.size w w' ∧ (told = true → ∃ u, OwI w' w.heap.size (.slice b n c) (natI u) ∧ TlW Nx fin N M p q u) ∧ (told = false → b = none ∧ n = 0 ∧ c = 0 ∧ Ali Nx fin M p q))
set_option maxRecDepth 100000 in
set_option maxHeartbeats 4000000 in
theorem tellT_any (w : World) (N M p q gf lN cN : Nat) (aN : Option Addr) (Nx : List Int) (fin : Nat → Bool) (hT : TbR w M N gf aN fin Nx) (hlN : lN = N * M) (hp : p < N) (hq : q < N) (hNM : N * M ≤ 4194304) (hM : M ≤ 4194304) (hN : N ≤ 2097152) :
    Calls Try.prog 42 #[.agg #[.int .i64 (M : Int), .slice (some ⟨gf, 0, none⟩) N N, .slice aN lN cN], .agg #[.int .i64 (p : Int), .int .i64 (q : Int)]] w (TelA w Nx fin N M p q) := by
  obtain ⟨W0, hW0⟩ : ∃ W0, (w.alloc (.cells #[.int .i64 (M : Int), .slice (some ⟨gf, 0, none⟩) N N, .slice aN lN cN] 60)).alloc (.cells #[.int .i64 (p : Int), .int .i64 (q : Int)] 70) = W0 := ⟨_, rfl⟩
  have H2 := hide (two_al w #[.int .i64 (M : Int), .slice (some ⟨gf, 0, none⟩) N N, .slice aN lN cN] #[.int .i64 (p : Int), .int .i64 (q : Int)] 60 70)
  rw [hW0] at H2
  have p1 : W0.cell? ⟨w.heap.size, 1, none⟩ = some (.slice (some ⟨gf, 0, none⟩) N N) := cell_of H2.out.2.1 rfl
  have TC := newChains_any W0 N (by omega)
  have HT := hide hT
  have HLN := hide (And.intro hlN hNM)
  clear hT hlN hNM
  go_enter Try.func42, Try.ntmps42
  go_upto_region 1 with fail
  go_upto_region 2 with (go_at_call 62; refine TC.mono ?_; rintro e w1 ⟨g, rfl, H1, D1⟩; have HD1 := hide D1; clear D1)
  clear TC p1
  obtain ⟨bc, hbc⟩ : ∃ b, w1.heap.size = b := ⟨_, rfl⟩
  have A1 : (w1.alloc (.cells #[.slice (some ⟨g, 0, none⟩) N N] 95)).cell? ⟨w.heap.size, 0, none⟩ = some (.int .i64 (M : Int)) := cell_of (blk_al _ (blk_on H2.out.2.1 HD1.out)) rfl
  obtain ⟨W4, hW4⟩ : ∃ W4, (w1.alloc (.cells #[.slice (some ⟨g, 0, none⟩) N N] 95)).alloc (.cells #[.int .i64 (M : Int), .func (.func 63) #[] #[.pointer (some ⟨w.heap.size, 0, none⟩)], .func (.func 64) #[] #[.pointer (some ⟨w.heap.size, 0, none⟩), .pointer (some ⟨bc, 0, none⟩)]] 100) = W4 := ⟨_, rfl⟩
  have H4 := hide (two_al w1 #[.slice (some ⟨g, 0, none⟩) N N] #[.int .i64 (M : Int), .func (.func 63) #[] #[.pointer (some ⟨w.heap.size, 0, none⟩)], .func (.func 64) #[] #[.pointer (some ⟨w.heap.size, 0, none⟩), .pointer (some ⟨bc, 0, none⟩)]] 95 100)
  rw [hW4, hbc] at H4
  have D2 : Below w.heap.size w w1 := H2.out.1.trans (HD1.out.mono H2.out.1.size)
  have D4 : Below w.heap.size w W4 := D2.trans (H4.out.1.mono (by have := D2.size; omega))
  have s1 := D2.size
  have B4 : W4.heap[w.heap.size]? = some (.cells #[.int .i64 (M : Int), .slice (some ⟨gf, 0, none⟩) N N, .slice aN lN cN] 60 (0, 0)) := by
    refine (H4.out.1.block _ ?_).trans (blk_on H2.out.2.1 HD1.out)
    have := H2.out.2.2.2
    have := HD1.out.size
    omega
  have B5 : W4.heap[w.heap.size + 1]? = some (.cells #[.int .i64 (p : Int), .int .i64 (q : Int)] 70 (0, 0)) := by
    refine (H4.out.1.block _ ?_).trans (blk_on H2.out.2.2.1 HD1.out)
    have := H2.out.2.2.2
    have := HD1.out.size
    omega
  have CH : ChS w.heap.size W4 M N gf aN lN cN w.heap.size bc g (fun s => s) := ⟨B4, H4.out.2.1, H1.out.2.below (by rw [hbc]; exact H4.out.1), Nat.le_refl _, by omega, by have := H1.out.1; have := H2.out.1.size; omega⟩
  have TR := runP_any w.heap.size W4 N M gf w.heap.size bc g p q lN cN aN Nx fin CH (fun W d => HT.out.on (D4.trans d)) HLN.out.1 hp hq HLN.out.2 hM (by omega) D4.size
  have q0 : W4.cell? ⟨bc + 1, 0, none⟩ = some (.int .i64 (M : Int)) := cell_of H4.out.2.2.1 rfl
  have q1 : W4.cell? ⟨bc + 1, 1, none⟩ = some (.func (.func 63) #[] #[.pointer (some ⟨w.heap.size, 0, none⟩)]) := cell_of H4.out.2.2.1 rfl
  have q2 : W4.cell? ⟨bc + 1, 2, none⟩ = some (.func (.func 64) #[] #[.pointer (some ⟨w.heap.size, 0, none⟩), .pointer (some ⟨bc, 0, none⟩)]) := cell_of H4.out.2.2.1 rfl
  have q3 : W4.cell? ⟨w.heap.size + 1, 0, none⟩ = some (.int .i64 (p : Int)) := cell_of B5 rfl
  have q4 : W4.cell? ⟨w.heap.size + 1, 1, none⟩ = some (.int .i64 (q : Int)) := cell_of B5 rfl
  have HD4 := hide D4
  clear CH B4 B5 D4 D2 H4 H1
  go_upto_region 3 with fail
  go_upto_region 4 with (go_at_call 66; refine TR.mono ?_; rintro e w5 ⟨vS, found, rfl, H5⟩)
  have D5 : Hid (Below w.heap.size w w5) := hide (HD4.out.trans H5.out.1)
  cases found with
  | false =>
    go_wp2_with fail
    go_ret2
    exact ⟨none, 0, 0, false, rfl, hide ⟨D5.out, (fun e => by cases e), fun _ => ⟨rfl, rfl, rfl, H5.out.2.2 (by simp)⟩⟩⟩
  | true =>
    obtain ⟨K, HK, HF⟩ := H5.out.2.1 rfl
    obtain ⟨b, c, rfl⟩ := own_slice HK
    obtain ⟨el, hr⟩ := owS_rd HK
    have fw := fnd_wd HF
    have hlen := stepsOf_len M K
    have TW := word_any w5 b (stepsOf M K).length c K.length (stepsOf M K) (wdK M K) rfl hr fw.1 (by omega) (by have := fw.2; omega)
    have HFF := hide HF
    have hkl := fw.2
    clear HF fw hr HK H5 el
    rw [hlen] at TW ⊢
    obtain ⟨L, hL⟩ : ∃ L, K.length = L := ⟨_, rfl⟩
    rw [hL] at TW hkl ⊢
    have HL := hide hL
    clear hL hlen
    have n1 : ((L + 1 : Nat) : Int) - 1 = (L : Int) := by omega
    have n2 : IntKind.i64.wrap (((L + 1 : Nat) : Int) - 1) = (L : Int) := by rw [IntKind.wrap_i64]; omega
    go_wp2_with (go_at_call 36; refine TW.mono ?_; rintro e w6 ⟨b6, m6, k6, rfl, H6, D6⟩; have HD6 := hide D6; clear D6)
    go_ret2
    refine ⟨b6, m6, k6, true, rfl, hide ⟨D5.out.trans (HD6.out.mono D5.out.size), fun _ => ⟨wnK M K K.length, ?_, fnd_word HFF.out⟩, fun e => (by cases e)⟩⟩
    have e := wnK_map M K K.length
    unfold natI
    rw [e, HL.out]
    exact owns_down H6.out D5.out.size
/-! ### Parting the states -/
theorem Ali.refl {Nx : List Int} {fin : Nat → Bool} {M p : Nat} : Ali Nx fin M p p := fun _ _ => rfl
theorem Ali.symm {Nx : List Int} {fin : Nat → Bool} {M p q : Nat} (h : Ali Nx fin M p q) : Ali Nx fin M q p := fun u hu => (h u hu).symm
theorem Ali.trans {Nx : List Int} {fin : Nat → Bool} {M p q r : Nat} (h : Ali Nx fin M p q) (k : Ali Nx fin M q r) : Ali Nx fin M p r := fun u hu => (h u hu).trans (k u hu)
theorem Ali.step {Nx : List Int} {fin : Nat → Bool} {M p q a : Nat} (h : Ali Nx fin M p q) (ha : a < M) : Ali Nx fin M (dl Nx M p a) (dl Nx M q a) := fun u hu => h (a :: u) (fun s hs => by
  rcases List.mem_cons.1 hs with e | e
  · rw [e]; exact ha
  · exact hu s e)
theorem Ali.fin {Nx : List Int} {fin : Nat → Bool} {M p q : Nat} (h : Ali Nx fin M p q) : fin p = fin q := h [] (fun _ hs => by cases hs)
/-- Where a place leads. -/
def nxt (Nx : List Int) (p : Nat) : Nat := (Nx.getD p 0).toNat
/-- The states parted: cl tells a state's class, K how many there are; fl tells what is still to be asked; pend tells of each state the group that it waits in. -/
structure PInv (Nx : List Int) (fin : Nat → Bool) (N M : Nat) (cl : Nat → Nat) (K : Nat) (fl : Nat → Bool) (pa : Nat) (pend : Nat → Nat) : Prop where
  kl : ∀ s, s < N → cl s < K
  ne : ∀ k, 2 ≤ k → k < K → ∃ s, s < N ∧ cl s = k
  co : ∀ s t, s < N → t < N → Ali Nx fin M s t → cl s = cl t
  fi : ∀ s t, s < N → t < N → cl s = cl t → fin s = fin t
  st : ∀ s t a, s < N → t < N → a < M → cl s = cl t → fl (s * M + a) = false → fl (t * M + a) = false → (a = pa → pend s = pend t) → cl (dl Nx M s a) = cl (dl Nx M t a)
  wa : ∀ s t a, s < N → t < N → a < M → cl s = cl t → fl (s * M + a) = true → fl (t * M + a) = false → cl (dl Nx M s a) ≠ cl (dl Nx M t a)
  gw : ∀ s t, s < N → t < N → pend s = pend t → pend s ≠ 0 → cl s = cl t
  ap : ∀ s t, s < N → t < N → pend s ≠ 0 → pend s ≠ pend t → cl s = cl t → ¬ Ali Nx fin M s t
section
variable {Nx : List Int} {fin : Nat → Bool} {N M K pa j C : Nat} {cl : Nat → Nat} {fl : Nat → Bool} {pend : Nat → Nat}
/-- A group is parted from the rest of its class: X is either the one or the other. -/
theorem PInv.split (h : PInv Nx fin N M cl K fl pa pend) (_hK : 2 ≤ K) (hd : ∀ s a, s < N → a < M → dl Nx M s a < N) (hj : j ≠ 0) {X : Nat → Bool} (hC : ∀ s, s < N → pend s = j → cl s = C) (x1 : ∀ s, s < N → X s = true → cl s = C)
    (x2 : (∀ s, s < N → cl s = C → (X s = true ↔ pend s = j)) ∨ (∀ s, s < N → cl s = C → (X s = true ↔ ¬ pend s = j))) (y1 : ∃ s, s < N ∧ X s = true) (y2 : ∃ s, s < N ∧ cl s = C ∧ X s = false) :
    PInv Nx fin N M (fun s => if X s then K else cl s) (K + 1) (fun p => fl p || X (nxt Nx p)) pa (fun s => if pend s = j then 0 else pend s) := by
  have x5 : ∀ s, s < N → cl s ≠ C → X s = false ∧ pend s ≠ j := fun s hs hc => ⟨by cases hx : X s with
    | false => rfl
    | true => exact absurd (x1 s hs hx) hc, fun e => hc (hC s hs e)⟩
  have x3 : ∀ s t, s < N → t < N → cl s = cl t → X s = X t → (pend s = j ↔ pend t = j) := fun s t hs ht hc hx => by
    by_cases e : cl s = C
    · have e2 : cl t = C := by rw [← hc]; exact e
      rcases x2 with x2 | x2
      · rw [← x2 s hs e, ← x2 t ht e2, hx]
      · have h1 := x2 s hs e
        have h2 := x2 t ht e2
        rw [hx] at h1
        exact Decidable.not_iff_not.1 (h1.symm.trans h2)
    · have h1 := x5 s hs e
      have h2 := x5 t ht (by rw [← hc]; exact e)
      exact ⟨fun z => absurd z h1.2, fun z => absurd z h2.2⟩
  have x4 : ∀ s t, s < N → t < N → cl s = cl t → (pend s = j ↔ pend t = j) → X s = X t := fun s t hs ht hc hp => by
    by_cases e : cl s = C
    · have e2 : cl t = C := by rw [← hc]; exact e
      have key : X s = true ↔ X t = true := by
        rcases x2 with x2 | x2
        · rw [x2 s hs e, x2 t ht e2]; exact hp
        · rw [x2 s hs e, x2 t ht e2]; exact ⟨fun a b => a (hp.2 b), fun a b => a (hp.1 b)⟩
      cases hs : X s with
      | true => rw [key.1 hs]
      | false =>
        cases ht : X t with
        | false => rfl
        | true => rw [key.2 ht] at hs; cases hs
    · rw [(x5 s hs e).1, (x5 t ht (by rw [← hc]; exact e)).1]
  have cq : ∀ s t, s < N → t < N → (if X s then K else cl s) = (if X t then K else cl t) → cl s = cl t ∧ X s = X t := fun s t hs ht he => by
    have k1 := h.kl s hs
    have k2 := h.kl t ht
    cases hx : X s with
    | true =>
      cases hy : X t with
      | true => exact ⟨(x1 s hs hx).trans (x1 t ht hy).symm, rfl⟩
      | false => rw [hx, hy] at he; simp at he; omega
    | false =>
      cases hy : X t with
      | true => rw [hx, hy] at he; simp at he; omega
      | false => rw [hx, hy] at he; simp at he; exact ⟨he, rfl⟩
  have qc : ∀ s t, cl s = cl t → X s = X t → (if X s then K else cl s) = (if X t then K else cl t) := fun s t h1 h2 => by rw [h1, h2]
  have pq : ∀ s t, s < N → t < N → cl s = cl t → X s = X t → (if pend s = j then 0 else pend s) = (if pend t = j then 0 else pend t) → pend s = pend t := fun s t hs ht hc hx hp => by
    have := x3 s t hs ht hc hx
    by_cases e : pend s = j
    · rw [e, this.1 e]
    · rw [if_neg e, if_neg (fun z => e (this.2 z))] at hp
      exact hp
  refine ⟨?_, ?_, ?_, ?_, ?_, ?_, ?_, ?_⟩
  · intro s hs
    have := h.kl s hs
    show (if X s then K else cl s) < K + 1
    split <;> omega
  · intro k hk hk2
    obtain ⟨s1, h1, h2⟩ := y1
    obtain ⟨t1, g1, g2, g3⟩ := y2
    by_cases e : k = K
    · exact ⟨s1, h1, by show (if X s1 then K else cl s1) = k; rw [if_pos h2, e]⟩
    · by_cases e2 : k = C
      · refine ⟨t1, g1, ?_⟩
        show (if X t1 then K else cl t1) = k
        rw [g3, e2]
        simpa using g2
      · obtain ⟨s, hs, hk3⟩ := h.ne k hk (by omega)
        refine ⟨s, hs, ?_⟩
        have := (x5 s hs (by omega)).1
        show (if X s then K else cl s) = k
        rw [this]
        simpa using hk3
  · intro s t hs ht ha
    have e := h.co s t hs ht ha
    refine qc s t e (x4 s t hs ht e ⟨fun p => ?_, fun p => ?_⟩)
    · exact Classical.byContradiction fun q => h.ap s t hs ht (by rw [p]; exact hj) (by rw [p]; exact fun z => q z.symm) e ha
    · exact Classical.byContradiction fun q => h.ap t s ht hs (by rw [p]; exact hj) (by rw [p]; exact fun z => q z.symm) e.symm ha.symm
  · intro s t hs ht he
    exact h.fi s t hs ht (cq s t hs ht he).1
  · intro s t a hs ht ha he f1 f2 hp
    obtain ⟨e1, e2⟩ := cq s t hs ht he
    have f1' : fl (s * M + a) = false ∧ X (dl Nx M s a) = false := Bool.or_eq_false_iff.1 f1
    have f2' : fl (t * M + a) = false ∧ X (dl Nx M t a) = false := Bool.or_eq_false_iff.1 f2
    exact qc _ _ (h.st s t a hs ht ha e1 f1'.1 f2'.1 (fun q => pq s t hs ht e1 e2 (hp q))) (f1'.2.trans f2'.2.symm)
  · intro s t a hs ht ha he f1 f2 hq
    obtain ⟨e1, e2⟩ := cq s t hs ht he
    obtain ⟨g1, g2⟩ := cq _ _ (hd s a hs ha) (hd t a ht ha) hq
    have f2' : fl (t * M + a) = false ∧ X (dl Nx M t a) = false := Bool.or_eq_false_iff.1 f2
    have f1' : fl (s * M + a) = true ∨ X (dl Nx M s a) = true := (Bool.or_eq_true _ _).mp f1
    rcases f1' with f | f
    · exact h.wa s t a hs ht ha e1 f f2'.1 g1
    · rw [g2, f2'.2] at f; cases f
  · intro s t hs ht hp h0
    have a1 : pend s ≠ j := fun e => h0 (if_pos e)
    have a2 : pend t ≠ j := fun e => h0 (by rw [hp]; exact if_pos e)
    have hp' : pend s = pend t := by simpa [a1, a2] using hp
    have e := h.gw s t hs ht hp' (by simpa [a1] using h0)
    exact qc s t e (x4 s t hs ht e ⟨fun z => absurd z a1, fun z => absurd z a2⟩)
  · intro s t hs ht h0 hne he
    have a1 : pend s ≠ j := fun e => h0 (if_pos e)
    refine h.ap s t hs ht (by simpa [a1] using h0) (fun e => hne ?_) (cq s t hs ht he).1
    show (if pend s = j then 0 else pend s) = (if pend t = j then 0 else pend t)
    rw [e]
/-- A group that is its whole class is done with. -/
theorem PInv.done (h : PInv Nx fin N M cl K fl pa pend) (hC : ∀ s t, s < N → t < N → pend s = j → cl t = cl s → pend t = j) :
    PInv Nx fin N M cl K fl pa (fun s => if pend s = j then 0 else pend s) := by
  have x3 : ∀ s t, s < N → t < N → cl s = cl t → (pend s = j ↔ pend t = j) := fun s t hs ht hc => ⟨fun e => hC s t hs ht e hc.symm, fun e => hC t s ht hs e hc⟩
  refine ⟨h.kl, h.ne, h.co, h.fi, ?_, h.wa, ?_, ?_⟩
  · intro s t a hs ht ha he f1 f2 hp
    refine h.st s t a hs ht ha he f1 f2 (fun q => ?_)
    have hp := hp q
    by_cases e : pend s = j
    · rw [e, (x3 s t hs ht he).1 e]
    · rw [if_neg e, if_neg (fun z => e ((x3 s t hs ht he).2 z))] at hp
      exact hp
  · intro s t hs ht hp h0
    have a1 : pend s ≠ j := fun e => h0 (if_pos e)
    have a2 : pend t ≠ j := fun e => h0 (by rw [hp]; exact if_pos e)
    exact h.gw s t hs ht (by simpa [a1, a2] using hp) (by simpa [a1] using h0)
  · intro s t hs ht h0 hne he
    have a1 : pend s ≠ j := fun e => h0 (if_pos e)
    refine h.ap s t hs ht (by simpa [a1] using h0) (fun e => hne ?_) he
    show (if pend s = j then 0 else pend s) = (if pend t = j then 0 else pend t)
    rw [e]
theorem PInv.congr {pend' : Nat → Nat} {fl' : Nat → Bool} {cl' : Nat → Nat} (h : PInv Nx fin N M cl K fl pa pend) (hd : ∀ s a, s < N → a < M → dl Nx M s a < N) (hc : ∀ s, s < N → cl' s = cl s) (hp : ∀ s, s < N → pend' s = pend s) (hf : ∀ p, p < N * M → fl' p = fl p) : PInv Nx fin N M cl' K fl' pa pend' := by
  refine ⟨fun s hs => by rw [hc s hs]; exact h.kl s hs, fun k h1 h2 => ?_, fun s t hs ht => by rw [hc s hs, hc t ht]; exact h.co s t hs ht, fun s t hs ht => by rw [hc s hs, hc t ht]; exact h.fi s t hs ht, fun s t a hs ht ha => ?_, fun s t a hs ht ha => ?_, fun s t hs ht => by rw [hc s hs, hc t ht, hp s hs, hp t ht]; exact h.gw s t hs ht, fun s t hs ht => by rw [hc s hs, hc t ht, hp s hs, hp t ht]; exact h.ap s t hs ht⟩
  · obtain ⟨s, hs, e⟩ := h.ne k h1 h2
    exact ⟨s, hs, by rw [hc s hs]; exact e⟩
  · rw [hc s hs, hc t ht, hp s hs, hp t ht, hf _ (place_lt hs ha), hf _ (place_lt ht ha), hc _ (hd s a hs ha), hc _ (hd t a ht ha)]
    exact h.st s t a hs ht ha
  · rw [hc s hs, hc t ht, hf _ (place_lt hs ha), hf _ (place_lt ht ha), hc _ (hd s a hs ha), hc _ (hd t a ht ha)]
    exact h.wa s t a hs ht ha
theorem mod_place {s a M : Nat} (ha : a < M) : (s * M + a) % M = a := by rw [Nat.mul_comm, Nat.mul_add_mod, Nat.mod_eq_of_lt ha]
theorem div_place {s a M : Nat} (ha : a < M) : (s * M + a) / M = s := by rw [Nat.mul_comm, Nat.mul_add_div (by omega), Nat.div_eq_of_lt ha]; omega
theorem idx_inj {α : Type} [BEq α] [LawfulBEq α] {l : List α} {x y : α} (hx : x ∈ l) (hy : y ∈ l) (e : l.idxOf x = l.idxOf y) : x = y := by
  have h1 := List.getElem_idxOf (List.idxOf_lt_length_iff.2 hx)
  have h2 := List.getElem_idxOf (List.idxOf_lt_length_iff.2 hy)
  rw [← h1, ← h2]
  simp only [e]
/-- The groups of those that wait for a symbol. -/
theorem PInv.group {a : Nat} {W : List Nat} {Ky : List (Nat × Nat)} {pb : Nat} (h : PInv Nx fin N M cl K fl pb (fun _ => 0)) (hd : ∀ s a, s < N → a < M → dl Nx M s a < N) (ha : a < M) (hW : ∀ s, s ∈ W ↔ s < N ∧ fl (s * M + a) = true) (hk : ∀ s, s ∈ W → (cl s, cl (dl Nx M s a)) ∈ Ky) :
    PInv Nx fin N M cl K (fun p => fl p && !decide (p % M = a)) a (fun s => if s ∈ W then Ky.idxOf (cl s, cl (dl Nx M s a)) + 1 else 0) := by
  have hn : ∀ t, t < N → t ∉ W → fl (t * M + a) = false := fun t ht hm => by
    cases e : fl (t * M + a) with
    | false => rfl
    | true => exact absurd ((hW t).2 ⟨ht, e⟩) hm
  have key : ∀ s t, s ∈ W → t ∈ W → Ky.idxOf (cl s, cl (dl Nx M s a)) = Ky.idxOf (cl t, cl (dl Nx M t a)) → cl s = cl t ∧ cl (dl Nx M s a) = cl (dl Nx M t a) := fun s t hs ht e => by
    have := idx_inj (hk s hs) (hk t ht) e
    exact Prod.mk.inj this
  refine ⟨h.kl, h.ne, h.co, h.fi, ?_, ?_, ?_, ?_⟩
  · intro s t b hs ht hb he f1 f2 hp
    try dsimp only at f1 f2 hp
    rw [mod_place hb] at f1 f2
    by_cases e : b = a
    · subst e
      have hp := hp rfl
      by_cases m1 : s ∈ W
      · by_cases m2 : t ∈ W
        · rw [if_pos m1, if_pos m2] at hp
          exact (key s t m1 m2 (by omega)).2
        · rw [if_pos m1, if_neg m2] at hp
          omega
      · by_cases m2 : t ∈ W
        · rw [if_neg m1, if_pos m2] at hp
          omega
        · exact h.st s t b hs ht hb he (hn s hs m1) (hn t ht m2) (fun _ => rfl)
    · exact h.st s t b hs ht hb he (by simpa [e] using f1) (by simpa [e] using f2) (fun _ => rfl)
  · intro s t b hs ht hb he f1 f2
    try dsimp only at f1 f2
    rw [mod_place hb] at f1 f2
    by_cases e : b = a
    · simp [e] at f1
    · exact h.wa s t b hs ht hb he (by simpa [e] using f1) (by simpa [e] using f2)
  · intro s t hs ht hp h0
    try dsimp only at hp h0
    by_cases m1 : s ∈ W
    · by_cases m2 : t ∈ W
      · rw [if_pos m1, if_pos m2] at hp
        exact (key s t m1 m2 (by omega)).1
      · rw [if_pos m1, if_neg m2] at hp
        omega
    · rw [if_neg m1] at h0; exact absurd rfl h0
  · intro s t hs ht h0 hne he hal
    try dsimp only at h0 hne
    by_cases m1 : s ∈ W
    · have e := h.co _ _ (hd s a hs ha) (hd t a ht ha) (hal.step ha)
      by_cases m2 : t ∈ W
      · rw [if_pos m1, if_pos m2, he, e] at hne
        exact hne rfl
      · exact h.wa s t a hs ht ha he ((hW s).1 m1).2 (hn t ht m2) e
    · rw [if_neg m1] at h0; exact h0 rfl
/-- At the beginning: all are still to be asked. -/
theorem PInv.new (Nx : List Int) (fin : Nat → Bool) (N M : Nat) (pa : Nat) : PInv Nx fin N M (fun s => if fin s then 1 else 0) 2 (fun _ => true) pa (fun _ => 0) := by
  refine ⟨fun s _ => ?_, fun k h1 h2 => by omega, fun s t _ _ ha => ?_, fun s t _ _ he => ?_, (fun _ _ _ _ _ _ _ f => (by cases f)), (fun _ _ _ _ _ _ _ _ f => (by cases f)), fun _ _ _ _ _ h => absurd rfl h, fun _ _ _ _ h => absurd rfl h⟩
  · show (if fin s then 1 else 0) < 2
    split <;> omega
  · show (if fin s then 1 else 0) = (if fin t then 1 else 0)
    rw [ha.fin]
  · cases h1 : fin s <;> cases h2 : fin t <;> simp [h1, h2] at he ⊢
/-- At the end: nothing is left to be asked. -/
theorem PInv.last (h : PInv Nx fin N M cl K fl pa (fun _ => 0)) (hd : ∀ s a, s < N → a < M → dl Nx M s a < N) (hf : ∀ s a, s < N → a < M → fl (s * M + a) = false) {s t : Nat} (hs : s < N) (ht : t < N) : cl s = cl t ↔ Ali Nx fin M s t := by
  refine ⟨fun e u => ?_, h.co s t hs ht⟩
  induction u generalizing s t with
  | nil => exact fun _ => h.fi s t hs ht e
  | cons a u ih =>
    intro hu
    have ha := hu a (by simp)
    exact ih (hd s a hs ha) (hd t a ht ha) (h.st s t a hs ht ha e (hf s a hs ha) (hf t a ht ha) (fun _ => rfl)) (fun b hb => hu b (by simp [hb]))
theorem PInv.few (h : PInv Nx fin N M cl K fl pa pend) : K ≤ N + 2 := by
  rcases Nat.lt_or_ge K 2 with hk | hk
  · omega
  have f : ∀ k : Fin (K - 2), ∃ s, s < N ∧ cl s = k.1 + 2 := fun k => h.ne (k.1 + 2) (by omega) (by omega)
  have nd : ((List.finRange (K - 2)).map (fun k => Classical.choose (f k))).Nodup := by
    rw [List.Nodup, List.pairwise_map]
    refine List.Pairwise.imp ?_ (List.nodup_finRange _)
    intro a b hab e
    have h1 := (Classical.choose_spec (f a)).2
    have h2 := (Classical.choose_spec (f b)).2
    rw [e] at h1
    exact hab (Fin.ext (by omega))
  have := nodup_le nd (N := N) (fun q hq => by
    obtain ⟨k, _, rfl⟩ := List.mem_map.1 hq
    exact (Classical.choose_spec (f k)).1)
  simp at this
  omega
end
/-! ### The parting as it lies -/
def updF {α : Type} (f : Nat → α) (i : Nat) (x : α) : Nat → α := fun j => if j = i then x else f j
theorem updF_same {α : Type} (f : Nat → α) (i : Nat) (x : α) : updF f i x i = x := if_pos rfl
theorem updF_ne {α : Type} (f : Nat → α) {i j : Nat} (x : α) (h : j ≠ i) : updF f i x j = f j := if_neg h
theorem row1_set {W : World} {B b n cap : Nat} {e : TypeId} {xs : List Value} (h : W.ownsRow B e 1 (.slice (some ⟨b, 0, none⟩) n cap) n xs) (j : Nat) (u : Value) :
    (W.setCell ⟨b, j, none⟩ u).ownsRow B e 1 (.slice (some ⟨b, 0, none⟩) n cap) n (xs.set j u) := by
  refine ⟨by rw [List.length_set]; exact h.1, ?_⟩
  rcases h.2 with ⟨z, _⟩ | ⟨g, cap', cur, e1, hb, hg, hn, hc, hs, ht⟩
  · cases z
  · cases e1
    refine .inr ⟨b, cap, _, rfl, hb, heap_setCell_same _ _ _ _ e _ hg, hn, hc, by simpa using hs, ?_⟩
    rw [← ht, Array.toList_setIfInBounds, List.take_set]
/-- Where the parting's blocks lie: from B on, none in the zone that is lent. -/
def Rz (B : Nat) (Z : Nat → Prop) : Nat → Prop := fun k => B ≤ k ∧ ¬ Z k
/-- Rows of numbers, each its own. -/
structure Fam (B : Nat) (Z : Nat → Prop) (n gc : Nat) (w : World) (V : Nat → Value) (L : Nat → List Nat) : Prop where
  own : ∀ i, i < n → OwI w B (V i) (natI (L i))
  ap : ∀ i j, i < n → j < n → i ≠ j → ∀ k, (V i).ownBlock = some k → (V j).ownBlock ≠ some k
  ac : ∀ i, i < n → (V i).ownBlock ≠ some gc
  zv : ∀ i, i < n → ∀ k, (V i).ownBlock = some k → Rz B Z k
theorem Fam.only {B n gc : Nat} {Z : Nat → Prop} {w w' : World} {V : Nat → Value} {L : Nat → List Nat} {R : Nat → Prop} (h : Fam B Z n gc w V L) (o : Only w w' R) (hR : ∀ i, i < n → ∀ k, (V i).ownBlock = some k → ¬ R k) : Fam B Z n gc w' V L :=
  ⟨fun i hi => row_only (h.own i hi) o (hR i hi), h.ap, h.ac, h.zv⟩
/-- One of the rows is changed, in its place or anew. -/
theorem Fam.put {B n gc i : Nat} {Z : Nat → Prop} {w w' : World} {V : Nat → Value} {L : Nat → List Nat} {v : Value} {X : List Nat} (h : Fam B Z n gc w V L) (hi' : i < n) (o : Only w w' (fun k => (V i).ownBlock = some k)) (ho : OwI w' B v (natI X)) (hb : ∀ k, v.ownBlock = some k → (V i).ownBlock = some k ∨ w.heap.size ≤ k) (hg : gc < w.heap.size) (hh : ∀ k, Z k → k < w.heap.size) : Fam B Z n gc w' (updF V i v) (updF L i X) := by
  have hlt : ∀ j, j < n → ∀ k, (V j).ownBlock = some k → k < w.heap.size := fun j hj k hk => ((h.own j hj).lt k hk).2
  refine ⟨fun j hj => ?_, fun j j' hj hj' ne k hk hk' => ?_, fun j hj e => ?_, fun j hj k hk => ?_⟩
  · by_cases e : j = i
    · subst e
      rw [updF_same, updF_same]
      exact ho
    · rw [updF_ne _ _ e, updF_ne _ _ e]
      exact row_only (h.own j hj) o (fun k hk q => h.ap j i hj hi' e k hk q)
  · by_cases e : j = i
    · subst e
      rw [updF_same] at hk
      rw [updF_ne _ _ (fun z => ne z.symm)] at hk'
      rcases hb k hk with q | q
      · exact h.ap j j' hj hj' ne k q hk'
      · have := hlt j' hj' k hk'; omega
    · rw [updF_ne _ _ e] at hk
      by_cases e2 : j' = i
      · subst e2
        rw [updF_same] at hk'
        rcases hb k hk' with q | q
        · exact h.ap j j' hj hj' ne k hk q
        · have := hlt j hj k hk; omega
      · rw [updF_ne _ _ e2] at hk'
        exact h.ap j j' hj hj' ne k hk hk'
  · by_cases e2 : j = i
    · subst e2
      rw [updF_same] at e
      rcases hb gc e with q | q
      · exact h.ac j hj q
      · omega
    · rw [updF_ne _ _ e2] at e
      exact h.ac j hj e
  · by_cases e2 : j = i
    · subst e2
      rw [updF_same] at hk
      exact ⟨(ho.lt k hk).1, (hb k hk).elim (fun q => (h.zv j hj k q).2) (fun q z => by have := hh k z; omega)⟩
    · rw [updF_ne _ _ e2] at hk
      exact h.zv j hj k hk
/-- The parting. -/
structure PaR (B : Nat) (Z : Nat → Prop) (w : World) (b N M gf : Nat) (aN : Option Addr) (lN cN gc gw gs gi : Nat) (V : Nat → Value) (L : Nat → List Nat) (cl : Nat → Nat) (fl : Nat → Bool) : Prop where
  bx : w.heap[b]? = some (.cells #[.int .i64 (M : Int), .slice (some ⟨gf, 0, none⟩) N N, .slice aN lN cN, .slice (some ⟨gc, 0, none⟩) N N, V 0, .slice (some ⟨gw, 0, none⟩) M M, .slice (some ⟨gs, 0, none⟩) lN lN, .slice (some ⟨gi, 0, none⟩) N N] 93 (0, 0))
  cr : Mrw w gc 3 N (fun s => .int .i64 ((cl s : Nat) : Int)) N
  wr : Mrw w gw 22 M (fun a => V (1 + a)) M
  sr : Mrw w gs 4 lN (fun p => .bool (fl p)) lN
  ir : Mrw w gi 22 N (fun s => V (1 + M + s)) N
  fam : Fam B Z (1 + M + N) gc w V L
  wi : gw ≠ gi
  zo : Rz B Z b ∧ Rz B Z gc ∧ Rz B Z gw ∧ Rz B Z gs ∧ Rz B Z gi
theorem Mrw.tag {W : World} {H k : Nat} {t t' : TypeId} {N : Nat} {val : Nat → Value} {c : Nat} {cs : Array Value} (h : Mrw W H t N val c) (z : W.heap[k]? = some (.cells cs t' (0, 0))) (ne : t ≠ t') : H ≠ k := fun e => by
  obtain ⟨cur, h1, _⟩ := h
  rw [e, z] at h1
  cases h1
  exact ne rfl
/-- One block is written: what is of another type stays. -/
theorem PaR.kept {B : Nat} {Z : Nat → Prop} {w : World} {b N M gf : Nat} {aN : Option Addr} {lN cN gc gw gs gi : Nat} {V : Nat → Value} {L : Nat → List Nat} {cl : Nat → Nat} {fl : Nat → Bool} {w' : World} {x t : Nat} {cs : Array Value} (h : PaR B Z w b N M gf aN lN cN gc gw gs gi V L cl fl) (hx : w.heap[x]? = some (.cells cs t (0, 0))) (o : Only w w' (fun k => k = x)) :
    (t ≠ 93 → w'.heap[b]? = some (.cells #[.int .i64 (M : Int), .slice (some ⟨gf, 0, none⟩) N N, .slice aN lN cN, .slice (some ⟨gc, 0, none⟩) N N, V 0, .slice (some ⟨gw, 0, none⟩) M M, .slice (some ⟨gs, 0, none⟩) lN lN, .slice (some ⟨gi, 0, none⟩) N N] 93 (0, 0))) ∧ (t ≠ 3 → Mrw w' gc 3 N (fun s => .int .i64 ((cl s : Nat) : Int)) N) ∧ (t ≠ 22 → Mrw w' gw 22 M (fun a => V (1 + a)) M) ∧ (t ≠ 4 → Mrw w' gs 4 lN (fun p => .bool (fl p)) lN) ∧ (t ≠ 22 → Mrw w' gi 22 N (fun s => V (1 + M + s)) N) ∧ (t ≠ 3 → Fam B Z (1 + M + N) gc w' V L) := by
  refine ⟨fun n => ?_, fun n => ?_, fun n => ?_, fun n => ?_, fun n => ?_, fun n => ?_⟩
  · refine (o.block b (Array.getElem?_eq_some_iff.1 h.bx).1 (fun e => ?_)).trans h.bx
    have z := h.bx
    rw [e, hx] at z
    injection z with z
    injection z with _ z _
    exact n z
  · exact h.cr.only o (h.cr.tag hx (fun e => n e.symm))
  · exact h.wr.only o (h.wr.tag hx (fun e => n e.symm))
  · exact h.sr.only o (h.sr.tag hx (fun e => n e.symm))
  · exact h.ir.only o (h.ir.tag hx (fun e => n e.symm))
  · exact h.fam.only o (fun i hi k hk e => by subst e; exact row_tag (h.fam.own i hi) hx n hk)
theorem PaR.on {B : Nat} {Z : Nat → Prop} {w : World} {b N M gf : Nat} {aN : Option Addr} {lN cN gc gw gs gi : Nat} {V : Nat → Value} {L : Nat → List Nat} {cl : Nat → Nat} {fl : Nat → Bool} {w' : World} {R : Nat → Prop} (h : PaR B Z w b N M gf aN lN cN gc gw gs gi V L cl fl) (o : Only w w' R) (hR : ∀ k, Rz B Z k → ¬ R k) : PaR B Z w' b N M gf aN lN cN gc gw gs gi V L cl fl := by
  refine ⟨(o.block b (Array.getElem?_eq_some_iff.1 h.bx).1 (hR _ h.zo.1)).trans h.bx, h.cr.only o (hR _ h.zo.2.1), h.wr.only o (hR _ h.zo.2.2.1), h.sr.only o (hR _ h.zo.2.2.2.1), h.ir.only o (hR _ h.zo.2.2.2.2), h.fam.only o (fun i hi k hk => hR k (h.fam.zv i hi k hk)), h.wi, h.zo⟩
theorem PaR.zone {B : Nat} {Z : Nat → Prop} {w : World} {b N M gf : Nat} {aN : Option Addr} {lN cN gc gw gs gi : Nat} {V : Nat → Value} {L : Nat → List Nat} {cl : Nat → Nat} {fl : Nat → Bool} {Z' : Nat → Prop} (h : PaR B Z w b N M gf aN lN cN gc gw gs gi V L cl fl) (hz : ∀ k, k < w.heap.size → Z' k → Z k) : PaR B Z' w b N M gf aN lN cN gc gw gs gi V L cl fl := by
  have key : ∀ k, k < w.heap.size → Rz B Z k → Rz B Z' k := fun k hk r => ⟨r.1, fun z => r.2 (hz k hk z)⟩
  have f := h.fam
  exact ⟨h.bx, h.cr, h.wr, h.sr, h.ir, ⟨f.own, f.ap, f.ac, fun i hi k hk => key k ((f.own i hi).lt k hk).2 (f.zv i hi k hk)⟩, h.wi, key _ (Array.getElem?_eq_some_iff.1 h.bx).1 h.zo.1, key _ h.cr.lt h.zo.2.1, key _ h.wr.lt h.zo.2.2.1, key _ h.sr.lt h.zo.2.2.2.1, key _ h.ir.lt h.zo.2.2.2.2⟩
theorem PaR.below {B : Nat} {Z : Nat → Prop} {w : World} {b N M gf : Nat} {aN : Option Addr} {lN cN gc gw gs gi : Nat} {V : Nat → Value} {L : Nat → List Nat} {cl : Nat → Nat} {fl : Nat → Bool} {w' : World} (h : PaR B Z w b N M gf aN lN cN gc gw gs gi V L cl fl) (d : Below w.heap.size w w') : PaR B Z w' b N M gf aN lN cN gc gw gs gi V L cl fl := h.on (R := fun _ => False) (Only.ofBelow d) (fun _ _ => id)
/-- A flag is written. -/
theorem PaR.flag {B : Nat} {Z : Nat → Prop} {w : World} {b N M gf : Nat} {aN : Option Addr} {lN cN gc gw gs gi : Nat} {V : Nat → Value} {L : Nat → List Nat} {cl : Nat → Nat} {fl : Nat → Bool} (h : PaR B Z w b N M gf aN lN cN gc gw gs gi V L cl fl) (p : Nat) (y : Bool) : PaR B Z (w.setCell ⟨gs, p, none⟩ (.bool y)) b N M gf aN lN cN gc gw gs gi V L cl (updF fl p y) ∧ Only w (w.setCell ⟨gs, p, none⟩ (.bool y)) (fun k => k = gs) := by
  have o := only_set w gs p (.bool y)
  obtain ⟨cs, hx⟩ : ∃ cs, w.heap[gs]? = some (.cells cs 4 (0, 0)) := by obtain ⟨c, h1, _⟩ := h.sr; exact ⟨c, h1⟩
  have k := h.kept hx o
  refine ⟨⟨k.1 (by decide), k.2.1 (by decide), k.2.2.1 (by decide), ?_, k.2.2.2.2.1 (by decide), k.2.2.2.2.2 (by decide), h.wi, h.zo⟩, o⟩
  exact (h.sr.upd p (.bool y)).congr (fun c _ => by unfold updF; split <;> rfl)
/-- A state's class is written. -/
theorem PaR.move {B : Nat} {Z : Nat → Prop} {w : World} {b N M gf : Nat} {aN : Option Addr} {lN cN gc gw gs gi : Nat} {V : Nat → Value} {L : Nat → List Nat} {cl : Nat → Nat} {fl : Nat → Bool} (h : PaR B Z w b N M gf aN lN cN gc gw gs gi V L cl fl) (s c : Nat) : PaR B Z (w.setCell ⟨gc, s, none⟩ (.int .i64 ((c : Nat) : Int))) b N M gf aN lN cN gc gw gs gi V L (updF cl s c) fl ∧ Only w (w.setCell ⟨gc, s, none⟩ (.int .i64 ((c : Nat) : Int))) (fun k => k = gc) := by
  have o := only_set w gc s (.int .i64 ((c : Nat) : Int))
  obtain ⟨cs, hx⟩ : ∃ cs, w.heap[gc]? = some (.cells cs 3 (0, 0)) := by obtain ⟨c, h1, _⟩ := h.cr; exact ⟨c, h1⟩
  have k := h.kept hx o
  refine ⟨⟨k.1 (by decide), ?_, k.2.2.1 (by decide), k.2.2.2.1 (by decide), k.2.2.2.2.1 (by decide), ?_, h.wi, h.zo⟩, o⟩
  · exact (h.cr.upd s (.int .i64 ((c : Nat) : Int))).congr (fun q _ => by unfold updF; split <;> rfl)
  · exact h.fam.only o (fun i hi k hk e => by subst e; exact h.fam.ac i hi hk)
/-- A row that has been changed is laid into its place: among those that wait. -/
theorem PaR.wait {B : Nat} {Z : Nat → Prop} {w : World} {b N M gf : Nat} {aN : Option Addr} {lN cN gc gw gs gi : Nat} {V : Nat → Value} {L : Nat → List Nat} {cl : Nat → Nat} {fl : Nat → Bool} {w' : World} {a : Nat} {v : Value} {X : List Nat} (h : PaR B Z w b N M gf aN lN cN gc gw gs gi V L cl fl) (ha : a < M) (hh : ∀ k, Z k → k < w.heap.size) (o : Only w w' (fun k => (V (1 + a)).ownBlock = some k)) (ho : OwI w' B v (natI X)) (hb : ∀ k, v.ownBlock = some k → (V (1 + a)).ownBlock = some k ∨ w.heap.size ≤ k) :
    PaR B Z (w'.setCell ⟨gw, a, none⟩ v) b N M gf aN lN cN gc gw gs gi (updF V (1 + a) v) (updF L (1 + a) X) cl fl ∧ Only w (w'.setCell ⟨gw, a, none⟩ v) (Rz B Z) := by
  have hz := h.fam.zv (1 + a) (by omega)
  have nb : ∀ {k t : Nat} {cs : Array Value}, w.heap[k]? = some (.cells cs t (0, 0)) → t ≠ 3 → ¬ (V (1 + a)).ownBlock = some k := fun z ne e => row_tag (h.fam.own (1 + a) (by omega)) z ne e
  have gcl := h.cr.lt
  obtain ⟨cw, hw⟩ : ∃ cs, w.heap[gw]? = some (.cells cs 22 (0, 0)) := by obtain ⟨c, h1, _⟩ := h.wr; exact ⟨c, h1⟩
  obtain ⟨cs, hs⟩ : ∃ cs, w.heap[gs]? = some (.cells cs 4 (0, 0)) := by obtain ⟨c, h1, _⟩ := h.sr; exact ⟨c, h1⟩
  obtain ⟨ci, hi2⟩ : ∃ cs, w.heap[gi]? = some (.cells cs 22 (0, 0)) := by obtain ⟨c, h1, _⟩ := h.ir; exact ⟨c, h1⟩
  have bw : w'.heap[gw]? = some (.cells cw 22 (0, 0)) := (o.block _ (Array.getElem?_eq_some_iff.1 hw).1 (nb hw (by decide))).trans hw
  have q := only_set w' gw a v
  have f1 := h.fam.put (by omega) o ho hb gcl hh
  have bb : w'.heap[b]? = _ := (o.block _ (Array.getElem?_eq_some_iff.1 h.bx).1 (nb h.bx (by decide))).trans h.bx
  have r1 := h.cr.only o (h.fam.ac (1 + a) (by omega))
  have r2 := h.wr.only o (nb hw (by decide))
  have r3 := h.sr.only o (nb hs (by decide))
  have r4 := h.ir.only o (nb hi2 (by decide))
  have e0 : updF V (1 + a) v 0 = V 0 := updF_ne _ _ (by omega)
  have ne : ∀ {k t : Nat} {cs : Array Value}, w'.heap[k]? = some (.cells cs t (0, 0)) → t ≠ 22 → k ≠ gw := fun z n e => by
    rw [e, bw] at z
    injection z with z
    injection z with _ z _
    exact n z.symm
  refine ⟨⟨?_, r1.only q (r1.tag bw (by decide)), ?_, r3.only q (r3.tag bw (by decide)), ?_, ?_, h.wi, h.zo⟩, ?_⟩
  · rw [e0]
    exact (q.block _ (Array.getElem?_eq_some_iff.1 bb).1 (ne bb (by decide))).trans bb
  · exact (r2.upd a v).congr (fun c _ => by
      by_cases e : c = a
      · subst e; rw [if_pos rfl, updF_same]
      · rw [if_neg e, updF_ne _ _ (by omega)])
  · exact (r4.only q (fun e => h.wi e.symm)).congr (fun c _ => by rw [updF_ne _ _ (by omega)])
  · exact f1.only q (fun i hi k hk e => by subst e; exact row_tag (f1.own i hi) bw (by decide) hk)
  · exact (o.mono (fun k _ e => hz k e)).trans (q.mono (fun k _ e => by rw [e]; exact h.zo.2.2.1))
/-! ### wait -/
/-- A row of one number, new. -/
def ox1P (B : Nat) (u : Value) : MkP := fun x lo hi W => x = .slice (some ⟨lo, 0, none⟩) 1 1 ∧ B ≤ lo ∧ lo < hi ∧ W.heap[lo]? = some (.cells #[u] 3 (0, 0))
theorem ox1P_mono {B : Nat} {u : Value} : MonoP (ox1P B u) := fun _ _ _ _ _ hs d ⟨e, l, l2, z⟩ => ⟨e, l, l2, (d.block _ (by omega)).trans z⟩
theorem ox1P_keep {B lo hi : Nat} {u x : Value} {W W' : World} {R : Nat → Prop} (hh : hi ≤ W.heap.size) (h : ox1P B u x lo hi W) (o : Only W W' R) (hR : ∀ k, R k → k < B) : ox1P B u x lo hi W' :=
  ⟨h.1, h.2.1, h.2.2.1, (o.block lo (by have := h.2.2.1; omega) (fun q => by have := hR _ q; have := h.2.1; omega)).trans h.2.2.2⟩
/-- A row of numbers with one behind it: in its place or anew. -/
def apI (B : Nat) (X : List Nat) (r : Option Nat) (n : Nat) : MkP := fun x _ _ W => ∃ v, x = v ∧ OwI W B v (natI X) ∧ ∀ k, v.ownBlock = some k → r = some k ∨ n ≤ k
theorem apI_mono {B n : Nat} {X : List Nat} {r : Option Nat} : MonoP (apI B X r n) := fun _ _ _ _ _ _ d ⟨v, e, h, k⟩ => ⟨v, e, own_below h d, k⟩
/-- One number behind a row: at a step of a region that draws. -/
theorem step_appI {w : World} {ops : Array Oper} {o : Oper} {a : Act} {K : Act → World → Prop} {Q : Exit → Act → World → Prop} {E : Prop} (hgd : o.guard = none) (s x : Operand)
    (ho : o.op = .call { callee := .builtin .append, args := #[s, x], argTypes := #[22, 22] }) (B : Nat) (v : Value) (X : List Nat) (hs : a.eval s = v) (hown : OwI w B v (natI X)) (p y : Nat) (hx : a.eval x = .slice (some ⟨p, 0, none⟩) 1 1) (hp : w.heap[p]? = some (.cells #[.int .i64 (y : Int)] 3 (0, 0))) (hl : X.length ≤ 16777216) (hB : B ≤ w.heap.size)
    (h : ∀ v' w', OwI w' B v' (natI (X ++ [y])) → Hid (Only w w' (fun k => v.ownBlock = some k)) → (∀ k, v'.ownBlock = some k → v.ownBlock = some k ∨ w.heap.size ≤ k) → K (a.put o.dst v') w') :
    if Region.wanted o (yielded ops a.tmps) = true then Oper.wp Try.prog o a w K Q else E := by
  obtain ⟨i3, hi3, hz30, hz31, hz32⟩ := info_parts info3
  have hl2 := natI_len X
  refine step_append_lies w hgd s x 22 ho B 3 i3 _ 1 8 Try.underlying22 hi3 hz30 hz31 hz32 rfl (by omega) v (natI X).length ((natI X).map (Value.int .i64)) hs hown ⟨p, 0, none⟩ 1 1 [.int .i64 (y : Int)] hx rfl (one_cells hp) (by simp [Value.oneCell']) (by omega) (by unfold maxLen; omega) (by omega) hB w.heap.size rfl ?_
  intro g cap w' h1 h2 h3 h4
  refine h _ w' ?_ (hide (grown_only h2)) (fun k hk => ?_)
  · have e : (natI (X ++ [y])) = natI X ++ [(y : Int)] := by simp [natI]
    unfold OwI
    rw [e, List.length_append, List.map_append]
    exact h1
  · cases hk
    rcases h3 with q | q
    · exact Or.inl q
    · exact Or.inr (by rw [q]; exact Nat.le_refl _)
set_option maxRecDepth 100000 in
set_option maxHeartbeats 4000000 in
theorem wait_no (B : Nat) (Z : Nat → Prop) (w : World) (b N M gf : Nat) (aN : Option Addr) (lN cN gc gw gs gi : Nat) (V : Nat → Value) (L : Nat → List Nat) (cl : Nat → Nat) (fl : Nat → Bool) (h : PaR B Z w b N M gf aN lN cN gc gw gs gi V L cl fl) (p : Nat) (hp : p < lN) (hf : fl p = true) :
    Calls Try.prog 70 #[.pointer (some ⟨b, 0, none⟩), .int .i64 (p : Int)] w fun e w' => e = .returned (.tuple #[]) ∧ w' = w := by
  have y0 : w.cell? ⟨b, 6, none⟩ = some (.slice (some ⟨gs, 0, none⟩) lN lN) := cell_of h.bx rfl
  have y1 : w.cell? ⟨gs, p, none⟩ = some (.bool true) := by have := h.sr.at p hp; rwa [hf] at this
  have l0 : (0 : Int) ≤ (p : Int) := by omega
  have l1 : (p : Int) < (lN : Int) := by omega
  clear h hf hp
  go_enter Try.func70, Try.ntmps70
  go_wp2_with fail
  go_end0
  exact ⟨rfl, rfl⟩
set_option maxRecDepth 100000 in
set_option maxHeartbeats 4000000 in
theorem wait_ok (B : Nat) (Z : Nat → Prop) (w : World) (b N M gf : Nat) (aN : Option Addr) (lN cN gc gw gs gi : Nat) (V : Nat → Value) (L : Nat → List Nat) (cl : Nat → Nat) (fl : Nat → Bool) (h : PaR B Z w b N M gf aN lN cN gc gw gs gi V L cl fl) (p : Nat) (hp : p < lN) (hlN : lN = N * M) (bl : lN ≤ 4194304) (hf : fl p = false) (hXl : (L (1 + p % M)).length ≤ 16777216) (hB : B ≤ w.heap.size) (hh : ∀ k, Z k → k < w.heap.size) :
    Calls Try.prog 70 #[.pointer (some ⟨b, 0, none⟩), .int .i64 (p : Int)] w fun e w' => e = .returned (.tuple #[]) ∧ ∃ v, Hid (PaR B Z w' b N M gf aN lN cN gc gw gs gi (updF V (1 + p % M) v) (updF L (1 + p % M) (L (1 + p % M) ++ [p / M])) cl (updF fl p true) ∧ Only w w' (Rz B Z)) := by
  have hM : 0 < M := by
    rcases Nat.eq_zero_or_pos M with e | e
    · rw [hlN, e] at hp; simp at hp
    · exact e
  obtain ⟨a, ha⟩ : ∃ a, p % M = a := ⟨_, rfl⟩
  obtain ⟨s, hs⟩ : ∃ s, p / M = s := ⟨_, rfl⟩
  have haM : a < M := by rw [← ha]; exact Nat.mod_lt _ hM
  have iq : (p : Int).tdiv (M : Int) = (s : Int) := by rw [← hs, ← Int.ofNat_tdiv]
  have ir : (p : Int).tmod (M : Int) = (a : Int) := by rw [← ha, ← Int.ofNat_tmod]
  rw [ha] at hXl
  rw [ha, hs]
  have h3s : Hid (s ≤ p ∧ p ≤ 9223372036854775807) := hide ⟨by rw [← hs]; exact Nat.div_le_self _ _, by omega⟩
  clear ha hs
  have y0 : w.cell? ⟨b, 0, none⟩ = some (.int .i64 (M : Int)) := cell_of h.bx rfl
  have y6 : w.cell? ⟨b, 6, none⟩ = some (.slice (some ⟨gs, 0, none⟩) lN lN) := cell_of h.bx rfl
  have y1 : w.cell? ⟨gs, p, none⟩ = some (.bool false) := by have := h.sr.at p hp; rwa [hf] at this
  have g1 : w.frozen? ⟨gs, p, none⟩ = false := h.sr.fz p
  have l0 : (0 : Int) ≤ (p : Int) := by omega
  have l1 : (p : Int) < (lN : Int) := by omega
  have l2 : (0 : Int) ≤ (a : Int) := by omega
  have l3 : (a : Int) < (M : Int) := by omega
  have nz : ¬ (M : Int) = 0 := by omega
  have nz' : ¬ M = 0 := by omega
  have hsl : s ≤ p := h3s.out.1
  have iws : IntKind.i64.wrap (s : Int) = (s : Int) := by have := h3s.out.2; rw [IntKind.wrap_i64]; omega
  obtain ⟨w3, hw3⟩ : ∃ w3, w.setCell ⟨gs, p, none⟩ (.bool true) = w3 := ⟨_, rfl⟩
  have h3 := h.flag p true
  rw [hw3] at h3
  obtain ⟨h3, o3⟩ := h3
  have z0 : w3.cell? ⟨b, 0, none⟩ = some (.int .i64 (M : Int)) := cell_of h3.bx rfl
  have z5 : w3.cell? ⟨b, 5, none⟩ = some (.slice (some ⟨gw, 0, none⟩) M M) := cell_of h3.bx rfl
  obtain ⟨X, hX⟩ : ∃ X, L (1 + a) = X := ⟨_, rfl⟩
  have hO := h3.fam.own (1 + a) (by omega)
  rw [hX] at hO hXl ⊢
  obtain ⟨t1, c1, hv⟩ := own_slice hO
  have hz := h3.fam.zv (1 + a) (by omega)
  obtain ⟨nX, hnX⟩ : ∃ l, (natI X).length = l := ⟨_, rfl⟩
  have HGWc : w3.cell? ⟨gw, a, none⟩ = some (.slice t1 (natI X).length c1) := by have := h3.wr.at a haM; rw [hv] at this; exact this
  rw [hnX] at HGWc hv
  have hO' := hO
  rw [hv] at hO
  have hB3 : B ≤ w3.heap.size := Nat.le_trans hB o3.size
  have hh3 : ∀ k, Z k → k < w3.heap.size := fun k z => Nat.lt_of_lt_of_le (hh k z) o3.size
  obtain ⟨cw, hcw⟩ : ∃ cs, w3.heap[gw]? = some (.cells cs 22 (0, 0)) := by obtain ⟨c, e1, _⟩ := h3.wr; exact ⟨c, e1⟩
  have HGW : Hid (∀ W bb, JO w3 (fun k => (Value.slice t1 nX c1).ownBlock = some k) bb W → W.cell? ⟨gw, a, none⟩ = some (.slice t1 nX c1)) := hide (fun W bb d => by
    have e := JO_blk d hcw (fun e => row_tag hO hcw (by decide) e)
    rw [World.cell?_of_block (e.trans hcw.symm)]
    exact HGWc)
  have HGF : Hid (∀ W bb, JO w3 (fun k => (Value.slice t1 nX c1).ownBlock = some k) bb W → W.frozen? ⟨gw, a, none⟩ = false) := hide (fun W bb d => fz_of (JO_blk d hcw (fun e => row_tag hO hcw (by decide) e)))
  have HBX := hide (And.intro h3.bx (fun e => row_tag hO h3.bx (by decide) e : ¬ (Value.slice t1 nX c1).ownBlock = some b))
  have HLO := hide (fun k hk => (hO.lt k hk).2 : ∀ k, (Value.slice t1 nX c1).ownBlock = some k → k < w3.heap.size)
  have HOX := hide hO
  have HPW : Hid (∀ W v, Only w3 W (fun k => (Value.slice t1 nX c1).ownBlock = some k) → OwI W B v (natI (X ++ [s])) → (∀ k, v.ownBlock = some k → (Value.slice t1 nX c1).ownBlock = some k ∨ w3.heap.size ≤ k) → PaR B Z (W.setCell ⟨gw, a, none⟩ v) b N M gf aN lN cN gc gw gs gi (updF V (1 + a) v) (updF L (1 + a) (X ++ [s])) cl (updF fl p true) ∧ Only w (W.setCell ⟨gw, a, none⟩ v) (Rz B Z)) := hide (fun W v o ho hb => by
    have q := h3.wait (v := v) (X := X ++ [s]) haM hh3 (by rw [hv]; exact o) ho (by rw [hv]; exact hb)
    exact ⟨q.1, (o3.mono (fun k _ e => by rw [e]; exact h.zo.2.2.2.1)).trans q.2⟩)
  clear hO hO' hz h3 h hf hv hcw HGWc hnX hX hlN
  go_enter Try.func70, Try.ntmps70
  go_upto_region 3 with fail
  have hmo : MonIL 0 [vI 0 (.pointer (some ⟨b, 0, none⟩)), vI 1 (.pointer (some ⟨b, 0, none⟩)), vI 2 (.pointer (some ⟨b, 5, none⟩)), vI 3 (.slice (some ⟨gw, 0, none⟩) M M), vI 4 (.int .i64 (a : Int)), vI 5 (.pointer (some ⟨b, 0, none⟩)), vI 6 (.pointer (some ⟨b, 0, none⟩)), vI 7 (.pointer (some ⟨b, 5, none⟩)), vI 8 (.slice (some ⟨gw, 0, none⟩) M M), vI 9 (.int .i64 (a : Int)), vI 10 (.pointer (some ⟨gw, a, none⟩)), vI 11 (.slice t1 nX c1), vI 12 (.int .i64 (p : Int)), vI 13 (.pointer (some ⟨b, 0, none⟩)), vI 14 (.pointer (some ⟨b, 0, none⟩)), vI 15 (.pointer (some ⟨b, 0, none⟩)), vI 16 (.pointer (some ⟨b, 0, none⟩)), vI 17 (.int .i64 (M : Int)), vI 18 (.int .i64 (s : Int)), pI 19 (ox1P w3.heap.size (.int .i64 (s : Int))), pI 20 (apI B (X ++ [s]) (Value.slice t1 nX c1).ownBlock w3.heap.size)] := ⟨vI_mono _ _, vI_mono _ _, vI_mono _ _, vI_mono _ _, vI_mono _ _, vI_mono _ _, vI_mono _ _, vI_mono _ _, vI_mono _ _, vI_mono _ _, vI_mono _ _, vI_mono _ _, vI_mono _ _, vI_mono _ _, vI_mono _ _, vI_mono _ _, vI_mono _ _, vI_mono _ _, vI_mono _ _, pI_mono ox1P_mono, pI_mono apI_mono, trivial⟩
  refine wp_region_sj (JO w3 (fun k => (Value.slice t1 nX c1).ownBlock = some k)) 20 [vI 0 (.pointer (some ⟨b, 0, none⟩)), vI 1 (.pointer (some ⟨b, 0, none⟩)), vI 2 (.pointer (some ⟨b, 5, none⟩)), vI 3 (.slice (some ⟨gw, 0, none⟩) M M), vI 4 (.int .i64 (a : Int)), vI 5 (.pointer (some ⟨b, 0, none⟩)), vI 6 (.pointer (some ⟨b, 0, none⟩)), vI 7 (.pointer (some ⟨b, 5, none⟩)), vI 8 (.slice (some ⟨gw, 0, none⟩) M M), vI 9 (.int .i64 (a : Int)), vI 10 (.pointer (some ⟨gw, a, none⟩)), vI 11 (.slice t1 nX c1), vI 12 (.int .i64 (p : Int)), vI 13 (.pointer (some ⟨b, 0, none⟩)), vI 14 (.pointer (some ⟨b, 0, none⟩)), vI 15 (.pointer (some ⟨b, 0, none⟩)), vI 16 (.pointer (some ⟨b, 0, none⟩)), vI 17 (.int .i64 (M : Int)), vI 18 (.int .i64 (s : Int)), pI 19 (ox1P w3.heap.size (.int .i64 (s : Int))), pI 20 (apI B (X ++ [s]) (Value.slice t1 nX c1).ownBlock w3.heap.size)] (by kernel_rfl) (JO_first ⟨rfl, rfl, rfl, Nat.le_refl _, fun _ _ => rfl⟩) (by kernel_rfl) (by kernel_rfl) (by kernel_rfl) (by kernel_rfl) hmo ⟨?o0, ?o1, ?o2, ?o3, ?o4, ?o5, ?o6, ?o7, ?o8, ?o9, ?o10, ?o11, ?o12, ?o13, ?o14, ?o15, ?o16, ?o17, ?o18, ?o19, ?o20, trivial⟩ ?fin
  case o0 =>
    intro At yy W bb hy hb hbb d hz hd K hK
    have s0 : At.tmps.getD 0 undef = .pointer (some ⟨b, 0, none⟩) := hb 0 rfl
    have s0' := s0
    rw [Array.getD_eq_getD_getElem?] at s0'
    clear hd hy hb
    go_simp
    exact hK.out _ W (stpj_of hmo d (Below.refl _ _)) (if_pos rfl)
  case o1 =>
    intro At yy W bb hy hb hbb d hz hd K hK
    have e0 : yy 0 = .pointer (some ⟨b, 0, none⟩) := by obtain ⟨_, _, _, _, e⟩ := hd ⟨0, .data⟩ (by simp) rfl rfl; exact e
    have s26 := (hy 0 _ 26 rfl rfl).trans e0
    have s26' := s26
    rw [Array.getD_eq_getD_getElem?] at s26'
    clear hd hy hb
    go_simp
    exact hK.out _ W (stpj_of hmo d (Below.refl _ _)) (if_pos rfl)
  case o2 =>
    intro At yy W bb hy hb hbb d hz hd K hK
    have e1 : yy 1 = .pointer (some ⟨b, 0, none⟩) := by obtain ⟨_, _, _, _, e⟩ := hd ⟨1, .data⟩ (by simp) rfl rfl; exact e
    have s27 := (hy 1 _ 27 rfl rfl).trans e1
    have s27' := s27
    rw [Array.getD_eq_getD_getElem?] at s27'
    clear hd hy hb
    go_simp
    exact hK.out _ W (stpj_of hmo d (Below.refl _ _)) (if_pos rfl)
  case o3 =>
    intro At yy W bb hy hb hbb d hz hd K hK
    have e2 : yy 2 = .pointer (some ⟨b, 5, none⟩) := by obtain ⟨_, _, _, _, e⟩ := hd ⟨2, .data⟩ (by simp) rfl rfl; exact e
    have s28 := (hy 2 _ 28 rfl rfl).trans e2
    have s28' := s28
    rw [Array.getD_eq_getD_getElem?] at s28'
    clear hd hy hb
    have y5 : W.cell? ⟨b, 5, none⟩ = some (.slice (some ⟨gw, 0, none⟩) M M) := cell_of (JO_blk d HBX.out.1 HBX.out.2) rfl
    go_simp
    exact hK.out _ W (stpj_of hmo d (Below.refl _ _)) (if_pos rfl)
  case o4 =>
    intro At yy W bb hy hb hbb d hz hd K hK
    have s4 : At.tmps.getD 4 undef = .int .i64 (a : Int) := hb 4 rfl
    have s4' := s4
    rw [Array.getD_eq_getD_getElem?] at s4'
    clear hd hy hb
    go_simp
    exact hK.out _ W (stpj_of hmo d (Below.refl _ _)) (if_pos rfl)
  case o5 =>
    intro At yy W bb hy hb hbb d hz hd K hK
    have s0 : At.tmps.getD 0 undef = .pointer (some ⟨b, 0, none⟩) := hb 0 rfl
    have s0' := s0
    rw [Array.getD_eq_getD_getElem?] at s0'
    clear hd hy hb
    go_simp
    exact hK.out _ W (stpj_of hmo d (Below.refl _ _)) (if_pos rfl)
  case o6 =>
    intro At yy W bb hy hb hbb d hz hd K hK
    have e5 : yy 5 = .pointer (some ⟨b, 0, none⟩) := by obtain ⟨_, _, _, _, e⟩ := hd ⟨5, .data⟩ (by simp) rfl rfl; exact e
    have s31 := (hy 5 _ 31 rfl rfl).trans e5
    have s31' := s31
    rw [Array.getD_eq_getD_getElem?] at s31'
    clear hd hy hb
    go_simp
    exact hK.out _ W (stpj_of hmo d (Below.refl _ _)) (if_pos rfl)
  case o7 =>
    intro At yy W bb hy hb hbb d hz hd K hK
    have e6 : yy 6 = .pointer (some ⟨b, 0, none⟩) := by obtain ⟨_, _, _, _, e⟩ := hd ⟨6, .data⟩ (by simp) rfl rfl; exact e
    have s32 := (hy 6 _ 32 rfl rfl).trans e6
    have s32' := s32
    rw [Array.getD_eq_getD_getElem?] at s32'
    clear hd hy hb
    go_simp
    exact hK.out _ W (stpj_of hmo d (Below.refl _ _)) (if_pos rfl)
  case o8 =>
    intro At yy W bb hy hb hbb d hz hd K hK
    have e7 : yy 7 = .pointer (some ⟨b, 5, none⟩) := by obtain ⟨_, _, _, _, e⟩ := hd ⟨7, .data⟩ (by simp) rfl rfl; exact e
    have s33 := (hy 7 _ 33 rfl rfl).trans e7
    have s33' := s33
    rw [Array.getD_eq_getD_getElem?] at s33'
    clear hd hy hb
    have y5 : W.cell? ⟨b, 5, none⟩ = some (.slice (some ⟨gw, 0, none⟩) M M) := cell_of (JO_blk d HBX.out.1 HBX.out.2) rfl
    go_simp
    exact hK.out _ W (stpj_of hmo d (Below.refl _ _)) (if_pos rfl)
  case o9 =>
    intro At yy W bb hy hb hbb d hz hd K hK
    have s4 : At.tmps.getD 4 undef = .int .i64 (a : Int) := hb 4 rfl
    have s4' := s4
    rw [Array.getD_eq_getD_getElem?] at s4'
    clear hd hy hb
    go_simp
    exact hK.out _ W (stpj_of hmo d (Below.refl _ _)) (if_pos rfl)
  case o10 =>
    intro At yy W bb hy hb hbb d hz hd K hK
    have e8 : yy 8 = .slice (some ⟨gw, 0, none⟩) M M := by obtain ⟨_, _, _, _, e⟩ := hd ⟨8, .data⟩ (by simp) rfl rfl; exact e
    have e9 : yy 9 = .int .i64 (a : Int) := by obtain ⟨_, _, _, _, e⟩ := hd ⟨9, .data⟩ (by simp) rfl rfl; exact e
    have s34 := (hy 8 _ 34 rfl rfl).trans e8
    have s34' := s34
    rw [Array.getD_eq_getD_getElem?] at s34'
    have s35 := (hy 9 _ 35 rfl rfl).trans e9
    have s35' := s35
    rw [Array.getD_eq_getD_getElem?] at s35'
    clear hd hy hb
    go_simp
    exact hK.out _ W (stpj_of hmo d (Below.refl _ _)) (if_pos rfl)
  case o11 =>
    intro At yy W bb hy hb hbb d hz hd K hK
    have e10 : yy 10 = .pointer (some ⟨gw, a, none⟩) := by obtain ⟨_, _, _, _, e⟩ := hd ⟨10, .data⟩ (by simp) rfl rfl; exact e
    have s36 := (hy 10 _ 36 rfl rfl).trans e10
    have s36' := s36
    rw [Array.getD_eq_getD_getElem?] at s36'
    clear hd hy hb
    have y : W.cell? ⟨gw, a, none⟩ = some (.slice t1 nX c1) := (HGW.out W _ d)
    go_simp
    exact hK.out _ W (stpj_of hmo d (Below.refl _ _)) (if_pos rfl)
  case o12 =>
    intro At yy W bb hy hb hbb d hz hd K hK
    have s1 : At.tmps.getD 1 undef = .int .i64 (p : Int) := hb 1 rfl
    have s1' := s1
    rw [Array.getD_eq_getD_getElem?] at s1'
    clear hd hy hb
    go_simp
    exact hK.out _ W (stpj_of hmo d (Below.refl _ _)) (if_pos rfl)
  case o13 =>
    intro At yy W bb hy hb hbb d hz hd K hK
    have s0 : At.tmps.getD 0 undef = .pointer (some ⟨b, 0, none⟩) := hb 0 rfl
    have s0' := s0
    rw [Array.getD_eq_getD_getElem?] at s0'
    clear hd hy hb
    go_simp
    exact hK.out _ W (stpj_of hmo d (Below.refl _ _)) (if_pos rfl)
  case o14 =>
    intro At yy W bb hy hb hbb d hz hd K hK
    have e13 : yy 13 = .pointer (some ⟨b, 0, none⟩) := by obtain ⟨_, _, _, _, e⟩ := hd ⟨13, .data⟩ (by simp) rfl rfl; exact e
    have s39 := (hy 13 _ 39 rfl rfl).trans e13
    have s39' := s39
    rw [Array.getD_eq_getD_getElem?] at s39'
    clear hd hy hb
    go_simp
    exact hK.out _ W (stpj_of hmo d (Below.refl _ _)) (if_pos rfl)
  case o15 =>
    intro At yy W bb hy hb hbb d hz hd K hK
    have e14 : yy 14 = .pointer (some ⟨b, 0, none⟩) := by obtain ⟨_, _, _, _, e⟩ := hd ⟨14, .data⟩ (by simp) rfl rfl; exact e
    have s40 := (hy 14 _ 40 rfl rfl).trans e14
    have s40' := s40
    rw [Array.getD_eq_getD_getElem?] at s40'
    clear hd hy hb
    go_simp
    exact hK.out _ W (stpj_of hmo d (Below.refl _ _)) (if_pos rfl)
  case o16 =>
    intro At yy W bb hy hb hbb d hz hd K hK
    have e15 : yy 15 = .pointer (some ⟨b, 0, none⟩) := by obtain ⟨_, _, _, _, e⟩ := hd ⟨15, .data⟩ (by simp) rfl rfl; exact e
    have s41 := (hy 15 _ 41 rfl rfl).trans e15
    have s41' := s41
    rw [Array.getD_eq_getD_getElem?] at s41'
    clear hd hy hb
    go_simp
    exact hK.out _ W (stpj_of hmo d (Below.refl _ _)) (if_pos rfl)
  case o17 =>
    intro At yy W bb hy hb hbb d hz hd K hK
    have e16 : yy 16 = .pointer (some ⟨b, 0, none⟩) := by obtain ⟨_, _, _, _, e⟩ := hd ⟨16, .data⟩ (by simp) rfl rfl; exact e
    have s42 := (hy 16 _ 42 rfl rfl).trans e16
    have s42' := s42
    rw [Array.getD_eq_getD_getElem?] at s42'
    clear hd hy hb
    have y0 : W.cell? ⟨b, 0, none⟩ = some (.int .i64 (M : Int)) := cell_of (JO_blk d HBX.out.1 HBX.out.2) rfl
    go_simp
    exact hK.out _ W (stpj_of hmo d (Below.refl _ _)) (if_pos rfl)
  case o18 =>
    intro At yy W bb hy hb hbb d hz hd K hK
    have e12 : yy 12 = .int .i64 (p : Int) := by obtain ⟨_, _, _, _, e⟩ := hd ⟨12, .data⟩ (by simp) rfl rfl; exact e
    have e17 : yy 17 = .int .i64 (M : Int) := by obtain ⟨_, _, _, _, e⟩ := hd ⟨17, .data⟩ (by simp) rfl rfl; exact e
    have s38 := (hy 12 _ 38 rfl rfl).trans e12
    have s38' := s38
    rw [Array.getD_eq_getD_getElem?] at s38'
    have s43 := (hy 17 _ 43 rfl rfl).trans e17
    have s43' := s43
    rw [Array.getD_eq_getD_getElem?] at s43'
    clear hd hy hb
    go_simp
    exact hK.out _ W (stpj_of hmo d (Below.refl _ _)) (if_pos rfl)
  case o19 =>
    intro At yy W bb hy hb hbb d hz hd K hK
    have e18 : yy 18 = .int .i64 (s : Int) := by obtain ⟨_, _, _, _, e⟩ := hd ⟨18, .data⟩ (by simp) rfl rfl; exact e
    have s44 := (hy 18 _ 44 rfl rfl).trans e18
    have s44' := s44
    rw [Array.getD_eq_getD_getElem?] at s44'
    clear hd hy hb
    go_simp
    exact hK.out _ _ (stpj_of hmo (JO_on d ((Below.refl _ _).alloc (Nat.le_refl _) _)) ((Below.refl _ _).alloc (Nat.le_refl _) _)) ⟨if_pos rfl, hz, by simp, World.alloc_heap_new _ _⟩
  case o20 =>
    intro At yy W bb hy hb hbb d hz hd K hK
    have e11 : yy 11 = .slice t1 nX c1 := by obtain ⟨_, _, _, _, e⟩ := hd ⟨11, .data⟩ (by simp) rfl rfl; exact e
    have f19 := hd ⟨19, .data⟩ (by simp) rfl rfl
    obtain ⟨lo2, hi2, hl2, hh2, e19, b2, l2, z2⟩ := f19
    have s37 := (hy 11 _ 37 rfl rfl).trans e11
    have s37' := s37
    rw [Array.getD_eq_getD_getElem?] at s37'
    have s45 := (hy 19 _ 45 rfl rfl).trans e19
    have s45' := s45
    rw [Array.getD_eq_getD_getElem?] at s45'
    clear hd hb
    have hb0 := hbb rfl
    subst hb0
    refine step_appI rfl _ _ rfl B (.slice t1 nX c1) X s37 (own_below HOX.out (d.1 rfl)) lo2 s s45 z2 hXl (Nat.le_trans hB3 hz) ?_
    intro v4 w4 ho4 hg4 hv4
    exact hK.out _ w4 (stpj_keeps [] rfl (JO_put d hg4.out) hg4.out.size ⟨.inr (fun _ _ _ h => h), .inr (fun _ _ _ h => h), .inr (fun _ _ _ h => h), .inr (fun _ _ _ h => h), .inr (fun _ _ _ h => h), .inr (fun _ _ _ h => h), .inr (fun _ _ _ h => h), .inr (fun _ _ _ h => h), .inr (fun _ _ _ h => h), .inr (fun _ _ _ h => h), .inr (fun _ _ _ h => h), .inr (fun _ _ _ h => h), .inr (fun _ _ _ h => h), .inr (fun _ _ _ h => h), .inr (fun _ _ _ h => h), .inr (fun _ _ _ h => h), .inr (fun _ _ _ h => h), .inr (fun _ _ _ h => h), .inr (fun _ _ _ h => h), .inr (fun _ _ hh h => ox1P_keep hh h hg4.out HLO.out), .inl (by simp), trivial⟩) ⟨v4, if_pos rfl, ho4, fun k hk => (hv4 k hk).imp id (Nat.le_trans hz)⟩
  case fin =>
    intro yy lo hi W hM
    show wpList _ _ _ [_, _] _ _
    have e0 : yy 0 = .pointer (some ⟨b, 0, none⟩) := hM.fact 0 (by simp) rfl (notR_all 0 rfl)
    have e1 : yy 1 = .pointer (some ⟨b, 0, none⟩) := hM.fact 1 (by simp) rfl (notR_all 1 rfl)
    have e2 : yy 2 = .pointer (some ⟨b, 5, none⟩) := hM.fact 2 (by simp) rfl (notR_all 2 rfl)
    have e3 : yy 3 = .slice (some ⟨gw, 0, none⟩) M M := hM.fact 3 (by simp) rfl (notR_all 3 rfl)
    have e4 : yy 4 = .int .i64 (a : Int) := hM.fact 4 (by simp) rfl (notR_all 4 rfl)
    have e5 : yy 5 = .pointer (some ⟨b, 0, none⟩) := hM.fact 5 (by simp) rfl (notR_all 5 rfl)
    have e6 : yy 6 = .pointer (some ⟨b, 0, none⟩) := hM.fact 6 (by simp) rfl (notR_all 6 rfl)
    have e7 : yy 7 = .pointer (some ⟨b, 5, none⟩) := hM.fact 7 (by simp) rfl (notR_all 7 rfl)
    have e8 : yy 8 = .slice (some ⟨gw, 0, none⟩) M M := hM.fact 8 (by simp) rfl (notR_all 8 rfl)
    have e9 : yy 9 = .int .i64 (a : Int) := hM.fact 9 (by simp) rfl (notR_all 9 rfl)
    have e10 : yy 10 = .pointer (some ⟨gw, a, none⟩) := hM.fact 10 (by simp) rfl (notR_all 10 rfl)
    have e11 : yy 11 = .slice t1 nX c1 := hM.fact 11 (by simp) rfl (notR_all 11 rfl)
    have e12 : yy 12 = .int .i64 (p : Int) := hM.fact 12 (by simp) rfl (notR_all 12 rfl)
    have e13 : yy 13 = .pointer (some ⟨b, 0, none⟩) := hM.fact 13 (by simp) rfl (notR_all 13 rfl)
    have e14 : yy 14 = .pointer (some ⟨b, 0, none⟩) := hM.fact 14 (by simp) rfl (notR_all 14 rfl)
    have e15 : yy 15 = .pointer (some ⟨b, 0, none⟩) := hM.fact 15 (by simp) rfl (notR_all 15 rfl)
    have e16 : yy 16 = .pointer (some ⟨b, 0, none⟩) := hM.fact 16 (by simp) rfl (notR_all 16 rfl)
    have e17 : yy 17 = .int .i64 (M : Int) := hM.fact 17 (by simp) rfl (notR_all 17 rfl)
    have e18 : yy 18 = .int .i64 (s : Int) := hM.fact 18 (by simp) rfl (notR_all 18 rfl)
    obtain ⟨v4, e20, O20, B20⟩ := hM.fact 20 (by simp) rfl (notR_all 20 rfl)
    obtain ⟨e19, _, _, _⟩ := hM.fact 19 (by simp) rfl (notR_all 19 rfl)
    have dd : JO w3 (fun k => (Value.slice t1 nX c1).ownBlock = some k) true W := hM.d
    simp only [fills, Act.put, List.take, List.length, List.setIfInBounds_toArray, List.set_cons_zero, List.set_cons_succ, e0, e1, e2, e3, e4, e5, e6, e7, e8, e9, e10, e11, e12, e13, e14, e15, e16, e17, e18, e19, e20]
    generalize lo 19 = p8
    obtain ⟨b4, c4, e4⟩ := own_slice O20
    subst e4
    clear hM hmo e0 e1 e2 e3 e4 e5 e6 e7 e8 e9 e10 e11 e12 e13 e14 e15 e16 e17 e18 e19 e20
    have HF := HPW.out W (.slice b4 (natI (X ++ [s])).length c4) dd.2 O20 B20
    have y6 : W.cell? ⟨gw, a, none⟩ = some (.slice t1 nX c1) := HGW.out W _ dd
    have g6 : W.frozen? ⟨gw, a, none⟩ = false := HGF.out W _ dd
    clear O20 B20 dd
    go_wp2_with fail
    go_end0
    exact ⟨rfl, _, hide HF⟩
end Go.Proofs.Ytocoghljmlpdeaa
