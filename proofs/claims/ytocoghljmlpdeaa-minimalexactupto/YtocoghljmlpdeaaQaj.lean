import Derived.Test.YtocoghljmlpdeaaQai
namespace Go.Proofs.Ytocoghljmlpdeaa
open Go.RowKit Go.Maps
attribute [local go_sem] Oper.semAt_some
/-! ### The reference: reached -/
/-- What Reached holds while it goes. -/
structure RrI (w : World) (N M st : Nat) (V1 : Array Value) (Nx : List Int) (c : Nat) (wr : World) (vT vW : Value) (T K : List Nat) (vs : List Value) : Prop where
  b : wr.heap[w.heap.size]? = some (.cells V1 24 (0, 0))
  rT : OwI wr w.heap.size vT (natI T)
  rW : wr.ownsRow w.heap.size 22 1 vW vs.length vs
  len : vs.length = T.length
  wd : ∀ (j : Nat) (h : j < vs.length), OwI wr w.heap.size vs[j] (wdK M K j)
  ap : ∀ (j : Nat) (h : j < vs.length) (k : Nat), vT.ownBlock = some k → vs[j].ownBlock ≠ some k
  aw : ∀ (i j : Nat) (hi : i < vs.length) (hj : j < vs.length), i < j → ∀ k, vs[i].ownBlock = some k → vs[j].ownBlock ≠ some k
  wk : Wk (dl Nx M) M st T K c
  cv : Cv (dl Nx M) M T K c
  nd : T.Nodup
  rg : ∀ q ∈ T, q < N
  d : Below w.heap.size w wr
theorem RrI.on {w : World} {N M st : Nat} {V1 : Array Value} {Nx : List Int} {c : Nat} {wr w' : World} {vT vW : Value} {T K : List Nat} {vs : List Value} (h : RrI w N M st V1 Nx c wr vT vW T K vs) (d : Below wr.heap.size wr w') : RrI w N M st V1 Nx c w' vT vW T K vs :=
  ⟨blk_on h.b d, own_below h.rT d, own_below h.rW d, h.len, fun j hj => own_below (h.wd j hj) d, h.ap, h.aw, h.wk, h.cv, h.nd, h.rg, h.d.trans (d.mono h.d.size)⟩
theorem RrI.old {w : World} {N M st : Nat} {V1 : Array Value} {Nx : List Int} {c x : Nat} {wr : World} {vT vW : Value} {T K : List Nat} {vs : List Value} (h : RrI w N M st V1 Nx c wr vT vW T K vs) (hx : T[c / M]? = some x) (hm : dl Nx M x (c % M) ∈ T) : RrI w N M st V1 Nx (c + 1) wr vT vW T K vs :=
  ⟨h.b, h.rT, h.rW, h.len, h.wd, h.ap, h.aw, h.wk.more (Nat.le_succ _), h.cv.old h.wk hx hm, h.nd, h.rg, h.d⟩
/-- A state that is new: its row grows, a word is made, the words' row grows. -/
theorem RrI.put {w : World} {N M st : Nat} {V1 : Array Value} {Nx : List Int} {c x p : Nat} {wr wa wb wd : World} {vT vW vT' vW' v : Value} {T K : List Nat} {vs : List Value} (h : RrI w N M st V1 Nx c wr vT vW T K vs) (hx : T[c / M]? = some x) (hst : dl Nx M x (c % M) = p) (hm : p ∉ T) (hp : p < N)
    (oa : Only (wr.alloc (.cells #[.int .i64 (p : Int)] 3)) wa (fun k => vT.ownBlock = some k)) (ha : OwI wa w.heap.size vT' (natI T ++ [(p : Int)])) (la : vT'.ownBlock = vT.ownBlock ∨ vT'.ownBlock = some (wr.alloc (.cells #[.int .i64 (p : Int)] 3)).heap.size)
    (db : Below wa.heap.size wa wb) (hv : OwI wb wa.heap.size v (wdK M K (c / M) ++ [((c % M : Nat) : Int)]))
    (oc : Only (wb.alloc (.cells #[v] 22)) wd (fun k => vW.ownBlock = some k)) (hw : wd.ownsRow w.heap.size 22 1 vW' (vs.length + 1) (vs ++ [v])) :
    RrI w N M st V1 Nx (c + 1) wd vT' vW' (T ++ [p]) (K ++ [c]) (vs ++ [v]) := by
  have d0 : Below wr.heap.size wr (wr.alloc (.cells #[.int .i64 (p : Int)] 3)) := (Below.refl _ _).alloc (Nat.le_refl _) _
  have s0 := d0.size
  have T0 := own_below h.rT d0
  have W0 := own_below h.rW d0
  have hTl := T0.lt
  have dc : Below wb.heap.size wb (wb.alloc (.cells #[v] 22)) := (Below.refl _ _).alloc (Nat.le_refl _) _
  have dbc := db.trans (dc.mono db.size)
  have Wa : wa.ownsRow w.heap.size 22 1 vW vs.length vs := only_row oa T0 W0 (by decide)
  have Wc := own_below Wa dbc
  have hLl : T.length = K.length + 1 := h.wk.l
  have hcl : c / M ≤ K.length := by
    have := (List.getElem?_eq_some_iff.1 hx).1
    omega
  have hBa : w.heap.size ≤ wa.heap.size := by have := h.d.size; have := oa.size; omega
  have wdA : ∀ (j : Nat) (hj : j < vs.length), OwI wa w.heap.size vs[j] (wdK M K j) := fun j hj => row_only (own_below (h.wd j hj) d0) oa (fun k hk e => h.ap j hj k e hk)
  have bT : ∀ k, vT'.ownBlock = some k → k < wa.heap.size := fun k hk => (ha.lt k hk).2
  refine ⟨?_, ?_, ?_, ?_, fun j hj => ?_, fun j hj k hk => ?_, fun i j hi hj hij k hk => ?_, ?_, ?_, ?_, ?_, ?_⟩
  · have b1 := blk_on h.b d0
    have b2 := only_blk oa T0 b1 (by decide)
    exact only_blk oc Wc (blk_on b2 dbc) (by decide)
  · rw [natI_snoc]
    exact only_row oc Wc (own_below ha dbc) (by decide)
  · rw [List.length_append, List.length_singleton]
    exact hw
  · rw [List.length_append, List.length_append, h.len]
    rfl
  · by_cases e : j < vs.length
    · rw [List.getElem_append_left e, wdK_more h.wk.q (by have := h.len; omega)]
      exact only_row oc Wc (own_below (wdA j e) dbc) (by decide)
    · obtain rfl : j = vs.length := by rw [List.length_append, List.length_singleton] at hj; omega
      have e8 : (vs ++ [v])[vs.length]'hj = v := by simp
      have e9 : wdK M (K ++ [c]) vs.length = wdK M K (c / M) ++ [((c % M : Nat) : Int)] := by rw [h.len, hLl]; exact wdK_new h.wk.q hcl
      rw [e8, e9]
      exact only_row oc Wc (own_below (owns_down hv hBa) dc) (by decide)
  · by_cases e : j < vs.length
    · rw [List.getElem_append_left e]
      rcases la with q | q
      · exact h.ap j e k (q.symm.trans hk)
      · intro h2
        have z1 := ((h.wd j e).lt k h2).2
        rw [q] at hk
        injection hk with hk
        omega
    · obtain rfl : j = vs.length := by rw [List.length_append, List.length_singleton] at hj; omega
      have e8 : (vs ++ [v])[vs.length]'hj = v := by simp
      rw [e8]
      intro h2
      have z1 := (hv.lt k h2).1
      have z2 := bT k hk
      omega
  · have ei : i < vs.length := by rw [List.length_append, List.length_singleton] at hj; omega
    rw [List.getElem_append_left ei] at hk
    by_cases e : j < vs.length
    · rw [List.getElem_append_left e]
      exact h.aw i j ei e hij k hk
    · obtain rfl : j = vs.length := by rw [List.length_append, List.length_singleton] at hj; omega
      have e8 : (vs ++ [v])[vs.length]'hj = v := by simp
      rw [e8]
      intro h2
      have z1 := (hv.lt k h2).1
      have z2 := ((h.wd i ei).lt k hk).2
      have z3 := oa.size
      omega
  · have z := h.wk.put hx
    rw [hst] at z
    exact z
  · have z := h.cv.put h.wk hx
    rw [hst] at z
    exact z
  · refine List.nodup_append.2 ⟨h.nd, by simp, ?_⟩
    intro y hy z hz e
    simp at hz
    subst hz
    subst e
    exact hm hy
  · intro y hy
    rcases List.mem_append.1 hy with e | e
    · exact h.rg y e
    · simp at e
      subst e
      exact hp
  · have b1 : Below w.heap.size (wr.alloc (.cells #[.int .i64 (p : Int)] 3)) wa := oa.toBelow (by have := h.d.size; omega) (fun k hk => (h.rT.lt k hk).1)
    have b2 : Below w.heap.size (wb.alloc (.cells #[v] 22)) wd := oc.toBelow (by have := dbc.size; omega) (fun k hk => (h.rW.lt k hk).1)
    exact (((h.d.trans (d0.mono h.d.size)).trans b1).trans (dbc.mono hBa)).trans b2
theorem mem_natI {p : Nat} {T : List Nat} : (p : Int) ∈ natI T ↔ p ∈ T := by
  constructor
  · intro h
    obtain ⟨y, hy, e⟩ := List.mem_map.1 h
    have : y = p := by omega
    rwa [this] at hy
  · intro h
    exact List.mem_map.2 ⟨p, h, rfl⟩
theorem own1_rd {W : World} {B n : Nat} {e : TypeId} {b : Option Addr} {m c : Nat} {xs : List Value} (h : W.ownsRow B e 1 (.slice b m c) n xs) (j : Nat) (hj : j < xs.length) : ∃ g o, b = some ⟨g, o, none⟩ ∧ W.cell? ⟨g, o + j, none⟩ = some xs[j] := by
  rcases h.2 with ⟨hv, hn⟩ | ⟨g, cap, cur, hv, hB, hg, h1, h2, h3, h4⟩
  · have := h.1
    omega
  · cases hv
    refine ⟨g, 0, rfl, ?_⟩
    rw [Nat.zero_add]
    refine cell_of hg ?_
    have q : (cur.toList.take (n * 1))[j]? = xs[j]? := by rw [h4]
    rw [List.getElem?_take_of_lt (by have := h.1; omega), List.getElem?_eq_getElem hj] at q
    simpa using q
def RrA (w : World) (N M st : Nat) (V1 : Array Value) (Nx : List Int) : Ending → World → Prop := fun e w' => ∃ bT cT bW cW T K vs, e = .returned (.tuple #[.slice bT T.length cT, .slice bW T.length cW]) ∧ Hid (RrI w N M st V1 Nx (T.length * M) w' (.slice bT T.length cT) (.slice bW T.length cW) T K vs)
set_option maxRecDepth 100000 in
set_option maxHeartbeats 4000000 in
theorem reached_ref (w : World) (N M st : Nat) (aF aN : Option Addr) (lF cF lN cN : Nat) (Fi Nx : List Int) (_hF : RdN w aF Fi) (hN : RdN w aN Nx) (_hlF : Fi.length = lF) (hlN : Nx.length = lN) (_bF : lF ≤ 4194304) (bN : lN ≤ 4194304) (hv : vd N M st Fi Nx = true) :
    Calls Try.prog 48 #[.agg #[.int .i64 (N : Int), .int .i64 (M : Int), .int .i64 (st : Int), .slice aF lF cF, .slice aN lN cN]] w (RrA w N M st #[.int .i64 (N : Int), .int .i64 (M : Int), .int .i64 (st : Int), .slice aF lF cF, .slice aN lN cN] Nx) := by
  obtain ⟨n0, m0, s0, en, em, es, n1, n2, m1, s1, e1, i1, i2⟩ := vd_nat hv
  obtain rfl : N = n0 := by omega
  obtain rfl : M = m0 := by omega
  obtain rfl : st = s0 := by omega
  obtain ⟨W0, hW0⟩ : ∃ W0, w.alloc (.cells #[.int .i64 (N : Int), .int .i64 (M : Int), .int .i64 (st : Int), .slice aF lF cF, .slice aN lN cN] 24) = W0 := ⟨_, rfl⟩
  have d0 : Below w.heap.size w W0 := by rw [← hW0]; exact (Below.refl _ _).alloc (Nat.le_refl _) _
  have B0 : W0.heap[w.heap.size]? = some (.cells #[.int .i64 (N : Int), .int .i64 (M : Int), .int .i64 (st : Int), .slice aF lF cF, .slice aN lN cN] 24 (0, 0)) := by rw [← hW0]; exact World.alloc_heap_new _ _
  have k0 : W0.cell? ⟨w.heap.size, 0, none⟩ = some (.int .i64 (N : Int)) := cell_of B0 rfl
  have k1 : W0.cell? ⟨w.heap.size, 1, none⟩ = some (.int .i64 (M : Int)) := cell_of B0 rfl
  have k2 : W0.cell? ⟨w.heap.size, 2, none⟩ = some (.int .i64 (st : Int)) := cell_of B0 rfl
  have k3 : W0.cell? ⟨w.heap.size, 3, none⟩ = some (.slice aF lF cF) := cell_of B0 rfl
  have k4 : W0.cell? ⟨w.heap.size, 4, none⟩ = some (.slice aN lN cN) := cell_of B0 rfl
  obtain ⟨i22, hi22, hz0, hz1, hz2⟩ := info_parts info22
  have HI := hide (And.intro hi22 (And.intro hz0 (And.intro hz1 hz2)))
  have HD := hide (And.intro d0 B0)
  have HF := hide hN
  have HB := hide (And.intro hlN (And.intro bN (And.intro e1 (And.intro i1 (And.intro n2 (And.intro m1 s1))))))
  clear d0 B0 hN hlN bN hv en em es n1 n2 m1 s1 e1 i1 i2 k0 k1 k3 k4 hi22 hz0 hz1 hz2
  go_enter Try.func48, Try.ntmps48
  go_wp2_with fail
  obtain ⟨W1, hW1⟩ : ∃ W, (W0.alloc (.cells #[.int .i64 (st : Int)] 3)).alloc (.cells #[.slice none 0 0] 22) = W := ⟨_, rfl⟩
  have H1 := two_al W0 #[.int .i64 (st : Int)] #[.slice none 0 0] 3 22
  rw [hW1] at H1 ⊢
  have hB0 := HD.out.1.size
  have J0 : Hid (RrI w N M st #[.int .i64 (N : Int), .int .i64 (M : Int), .int .i64 (st : Int), .slice aF lF cF, .slice aN lN cN] Nx (0 * M) W1 (.slice (some ⟨W0.heap.size, 0, none⟩) 1 1) (.slice (some ⟨W0.heap.size + 1, 0, none⟩) 1 1) [st] [] [.slice none 0 0]) := hide (by
    refine ⟨blk_on HD.out.2 H1.1, ⟨rfl, .inr ⟨_, 1, _, rfl, hB0, H1.2.1, Nat.le_refl _, by unfold maxLen; omega, rfl, rfl⟩⟩, ⟨rfl, .inr ⟨_, 1, _, rfl, by omega, H1.2.2.1, Nat.le_refl _, by unfold maxLen; omega, rfl, rfl⟩⟩, rfl, fun j hj => ?_, fun j hj k _ => ?_, fun i j hi hj hij => absurd hij (by simp at hi hj; omega), (Wk.one _ _ _).more (Nat.zero_le _), ?_, by simp, fun q hq => ?_, HD.out.1.trans (H1.1.mono HD.out.1.size)⟩
    · obtain rfl : j = 0 := by simpa using hj
      exact owI_nil _ _
    · obtain rfl : j = 0 := by simpa using hj
      intro h
      cases h
    · rw [Nat.zero_mul]
      exact Cv.nil _ _ _ _
    · obtain rfl : q = st := by simpa using hq
      exact HB.out.2.2.2.2.2.2)
  clear hW1 H1 k2
  go_loopw [4, 5, 6] (fun tv wv iv wr => ∃ (i : Nat) (bT : Option Addr) (cT : Nat) (bW : Option Addr) (cW : Nat) (T K : List Nat) (vs : List Value), i ≤ T.length ∧ tv = .slice bT T.length cT ∧ wv = .slice bW T.length cW ∧ iv = .int .i64 (i : Int) ∧ Hid (RrI w N M st #[.int .i64 (N : Int), .int .i64 (M : Int), .int .i64 (st : Int), .slice aF lF cF, .slice aN lN cN] Nx (i * M) wr (.slice bT T.length cT) (.slice bW T.length cW) T K vs)) (fun _ _ iv _ => N - (intOf iv).toNat)
  case atStart => exact ⟨0, _, 1, _, 1, [st], [], [.slice none 0 0], Nat.zero_le _, rfl, rfl, rfl, J0⟩
  case round =>
    clear J0
    obtain ⟨i, bT, cT, bW, cW, T, K, vs, hi, rfl, rfl, rfl, HY⟩ := hrel
    have hTN := nodup_le HY.out.nd HY.out.rg
    have hN4 := HB.out.2.2.2.2.1
    by_cases hlt : i < T.length
    · have l0 : (i : Int) < (T.length : Int) := by omega
      obtain ⟨x, hx⟩ : ∃ x, T[i] = x := ⟨_, rfl⟩
      have hTi : T[i]? = some x := by rw [List.getElem?_eq_getElem hlt, hx]
      have HXT := hide (show x < N by rw [← hx]; exact HY.out.rg _ (List.getElem_mem hlt))
      have J1 : Hid (RrI w N M st #[.int .i64 (N : Int), .int .i64 (M : Int), .int .i64 (st : Int), .slice aF lF cF, .slice aN lN cN] Nx (i * M + 0) wr (.slice bT T.length cT) (.slice bW T.length cW) T K vs ∧ T[i]? = some x) := hide ⟨HY.out, hTi⟩
      have hiT : i < T.length := hlt
      clear hx hTi hlt hTN HY hi
      go_wp2_with fail
      clear l0
      go_loopw [4, 5, 7] (fun tv wv kv wr => ∃ (k : Nat) (bT : Option Addr) (cT : Nat) (bW : Option Addr) (cW : Nat) (T K : List Nat) (vs : List Value), k ≤ M ∧ i < T.length ∧ tv = .slice bT T.length cT ∧ wv = .slice bW T.length cW ∧ kv = .int .i64 (k : Int) ∧ Hid (RrI w N M st #[.int .i64 (N : Int), .int .i64 (M : Int), .int .i64 (st : Int), .slice aF lF cF, .slice aN lN cN] Nx (i * M + k) wr (.slice bT T.length cT) (.slice bW T.length cW) T K vs ∧ T[i]? = some x)) (fun _ _ kv _ => M - (intOf kv).toNat)
      case atStart => exact ⟨0, bT, cT, bW, cW, T, K, vs, Nat.zero_le _, hiT, rfl, rfl, rfl, J1⟩
      case round =>
        clear J1 hiT
        obtain ⟨k, bT, cT, bW, cW, T, K, vs, hk, hiT, rfl, rfl, rfl, HY⟩ := hrel
        have yM : wr.cell? ⟨w.heap.size, 1, none⟩ = some (.int .i64 (M : Int)) := cell_of HY.out.1.b rfl
        have hM7 := HB.out.2.2.2.2.2.1
        by_cases hkM : k < M
        · have l0 : (k : Int) < (M : Int) := by omega
          have l1 : (i : Int) < (T.length : Int) := by omega
          have l2 : (0 : Int) ≤ (i : Int) := by omega
          obtain ⟨h1, e1, r1⟩ := dl_spec HB.out.2.2.1 HB.out.2.2.2.1 HXT.out hkM
          obtain ⟨ga, oa, ea, ca⟩ := (HF.out.on HY.out.1.d) _ h1
          rw [e1] at ca
          obtain ⟨p, hp⟩ : ∃ p, dl Nx M x k = p := ⟨_, rfl⟩
          rw [hp] at ca r1
          have hl1 : x * M + k < lN := by rw [← HB.out.1]; exact h1
          have hm1 : x * M ≤ 4096 * 128 := Nat.mul_le_mul (by have := HXT.out; omega) (by omega)
          obtain ⟨m1, hm1e⟩ : ∃ y, x * M = y := ⟨_, rfl⟩
          obtain ⟨a1, ha1⟩ : ∃ y, m1 + k = y := ⟨_, rfl⟩
          rw [hm1e, ha1] at ca hl1
          have w1e : IntKind.i64.wrap ((x : Int) * (M : Int)) = (m1 : Int) := by rw [show (x : Int) * (M : Int) = ((x * M : Nat) : Int) by simp, IntKind.wrap_i64]; omega
          have w4e : IntKind.i64.wrap ((m1 : Int) + (k : Int)) = (a1 : Int) := by rw [IntKind.wrap_i64]; omega
          have b1 : (0 : Int) ≤ (a1 : Int) := by omega
          have b2 : (a1 : Int) < (lN : Int) := by omega
          have hdm : (i * M + k) / M = i ∧ (i * M + k) % M = k := ⟨by rw [Nat.mul_comm, Nat.mul_add_div (by omega), Nat.div_eq_of_lt hkM]; omega, by rw [Nat.mul_comm, Nat.mul_add_mod, Nat.mod_eq_of_lt hkM]⟩
          have H3 := hide (And.intro hp (And.intro r1 hdm))
          have yL : wr.cell? ⟨w.heap.size, 4, none⟩ = some (.slice aN lN cN) := cell_of HY.out.1.b rfl
          rw [ea] at yL
          obtain ⟨gT, oT, eT, cT9⟩ := (owI_rd HY.out.1.rT).2 i (by rw [natI_len]; exact hiT)
          have exT : (natI T)[i]'(by rw [natI_len]; exact hiT) = (x : Int) := by
            have z := HY.out.2
            rw [List.getElem?_eq_getElem hiT] at z
            injection z with z
            simp [natI, z]
          rw [exT] at cT9
          subst eT
          clear h1 e1 r1 ea hp hl1 hm1 hm1e ha1 hdm exT
          go_upto_region 9 with fail
          go_quiet (fail)
          clear ca cT9 yL yM w1e w4e b1 b2
          have HZ := hide (show RrI w N M st #[.int .i64 (N : Int), .int .i64 (M : Int), .int .i64 (st : Int), .slice aF lF cF, .slice aN lN cN] Nx (i * M + k) (wr.drewN nq) (.slice (some ⟨gT, oT, none⟩) T.length cT) (.slice bW T.length cW) T K vs ∧ T[i]? = some x from ⟨HY.out.1.on (below_drewN2 (Below.refl _ _) nq), HY.out.2⟩)
          obtain ⟨wz, hwz⟩ : ∃ y, wr.drewN nq = y := ⟨_, rfl⟩
          rw [hwz] at HZ ⊢
          clear hwz HY
          have hTN := nodup_le HZ.out.1.nd HZ.out.1.rg
          have T49 := (in_any wz (some ⟨gT, oT, none⟩) T.length cT (natI T) (p : Int) (owI_rd HZ.out.1.rT).2 (natI_len T) (by omega)).mono (R' := fun e w' => e = .returned (.bool (decide ((p : Int) ∈ natI T))) ∧ Below wz.heap.size wz w') (fun e w' h => ⟨h.1, by rw [h.2]; exact Below.refl _ _⟩)
          by_cases hmem : p ∈ T
          · rw [decide_eq_true (mem_natI.2 hmem)] at T49
            have HM := hide hmem
            clear hmem
            go_wp2_with (go_at_call 49; refine T49.mono ?_; rintro e w4 ⟨rfl, d4⟩; have HD4 := hide d4; clear d4)
            go_roundw
            case rel =>
              refine ⟨k + 1, some ⟨gT, oT, none⟩, cT, bW, cW, T, K, vs, by omega, hiT, rfl, rfl, by go_num, hide ⟨?_, HZ.out.2⟩⟩
              have hx : T[(i * M + k) / M]? = some x := by rw [H3.out.2.2.1]; exact HZ.out.2
              have hy : dl Nx M x ((i * M + k) % M) ∈ T := by rw [H3.out.2.2.2, H3.out.1]; exact HM.out
              exact (HZ.out.1.on HD4.out).old hx hy
            case measure => simp [intOf]; omega
          · rw [decide_eq_false (fun h => hmem (mem_natI.1 h))] at T49
            have HM := hide hmem
            clear hmem
            go_upto_region 11 with (go_at_call 49; refine T49.mono ?_; rintro e w4 ⟨rfl, d4⟩; have HZ4 := hide (HZ.out.1.on d4); clear d4)
            have yT := HZ4
            clear T49
            go_upto_region 12 with (at_builtin; refine wpList_appI rfl (.tmp 42) (.tmp 44) rfl w.heap.size _ (natI T) rfl (own_below HZ4.out.rT ((Below.refl _ _).alloc (Nat.le_refl _) _)) w4.heap.size (p : Int) rfl (World.alloc_heap_new _ _) (by rw [natI_len]; omega) (by have := HZ4.out.d.size; simp; omega) ?_; intro b2 m2 k2 w2 h1 h2 h3 h4; have HN := hide (And.intro h1.out (And.intro h2.out (And.intro h3.out h4.out))); clear h1 h2 h3 h4)
            have hm2 : m2 = T.length + 1 := by rw [HN.out.2.1, natI_len]
            have dA := (Below.refl w4.heap.size w4).alloc (Nat.le_refl _) (.cells #[.int .i64 (p : Int)] 3)
            have OWa := only_row HN.out.2.2.1 (own_below HZ4.out.rT dA) (own_below HZ4.out.rW dA) (by decide)
            have hiv : i < vs.length := by rw [HZ4.out.len]; exact hiT
            have OVa : OwI w2 w.heap.size vs[i] (wdK M K i) := row_only (own_below (HZ4.out.wd i hiv) dA) HN.out.2.2.1 (fun q hq e => HZ4.out.ap i hiv q e hq)
            obtain ⟨v9, hv9⟩ : ∃ v, vs[i] = v := ⟨_, rfl⟩
            rw [hv9] at OVa
            obtain ⟨gW, oW, eW, cW9⟩ := own1_rd OWa i hiv
            rw [hv9] at cW9
            obtain ⟨nw, hnw⟩ : ∃ l, (wdK M K i).length = l := ⟨_, rfl⟩
            obtain ⟨bw, cw, hwv⟩ : ∃ b c, v9 = .slice b nw c := by obtain ⟨b, c, z⟩ := own_slice OVa; exact ⟨b, c, by rw [← hnw]; exact z⟩
            subst hwv eW hm2
            have hKl : i ≤ K.length := by have := HZ4.out.wk.l; omega
            have hnl : nw ≤ 4096 := by
              have z1 := wnK_len HZ4.out.wk.q i hKl
              rw [← hnw, ← wnK_map, List.length_map]
              have z3 := HZ4.out.wk.l
              omega
            have T67 := longer_any w2 bw (wdK M K i) cw nw (k : Int) (hide (owI_rd OVa).2) hnw (by omega)
            have hBw2 : w.heap.size ≤ w2.heap.size := by have := HZ4.out.d.size; have := HN.out.2.2.1.size; have := dA.size; omega
            have hvl : vs.length = T.length := HZ4.out.len
            have OWb := hide OWa
            clear hnw OVa dA hv9 OWa
            go_wp2_with (first | (go_at_call 67; refine T67.mono ?_; rintro e wb ⟨b5, c5, rfl, HV5⟩; have dC := hide ((Below.refl wb.heap.size wb).alloc (Nat.le_refl _) (.cells #[.slice b5 (nw + 1) c5] 22)); have OWc := hide (own_below (own_below OWb.out HV5.out.2) dC.out); clear cW9) | (at_builtin; refine wpList_append_own_at _ rfl _ _ _ rfl w.heap.size 22 i22 _ 1 24 Try.underlying32 HI.out.1 HI.out.2.1 HI.out.2.2.1 HI.out.2.2.2 rfl (by omega) (.slice (some ⟨gW, oW, none⟩) T.length cW) vs.length vs rfl OWc.out ⟨wb.heap.size, 0, none⟩ 1 1 [.slice b5 (nw + 1) c5] rfl rfl (one_cells (World.alloc_heap_new _ _)) (by simp [Value.oneCell']) (by unfold maxLen; omega) (by omega) (by have z3 := HV5.out.2.size; simp; omega) ?_; intro v6 w6 ho hgr hnil hloc; have HO6 := hide (And.intro ho hgr); clear ho hgr hnil hloc))
            obtain ⟨b6, c6, hv6⟩ := own_slice HO6.out.1
            subst hv6
            go_roundw
            case rel =>
              have hx : T[(i * M + k) / M]? = some x := by rw [H3.out.2.2.1]; exact HZ.out.2
              have hy : dl Nx M x ((i * M + k) % M) = p := by rw [H3.out.2.2.2]; exact H3.out.1
              have hv : OwI wb w2.heap.size (.slice b5 (nw + 1) c5) (wdK M K ((i * M + k) / M) ++ [(((i * M + k) % M : Nat) : Int)]) := by rw [H3.out.2.2.1, H3.out.2.2.2]; exact HV5.out.1
              have z := HZ4.out.put hx hy HM.out H3.out.2.1 HN.out.2.2.1 HN.out.1 HN.out.2.2.2 HV5.out.2 hv (grown_only HO6.out.2) HO6.out.1
              refine ⟨k + 1, b2, k2, b6, c6, T ++ [p], K ++ [i * M + k], vs ++ [.slice b5 (nw + 1) c5], by omega, by rw [List.length_append]; omega, by rw [List.length_append]; rfl, by rw [List.length_append, hvl]; rfl, by go_num, hide ⟨?_, ?_⟩⟩
              · rw [List.length_append]
                rw [hvl] at z
                exact z
              · rw [List.getElem?_append_left hiT]
                exact HZ.out.2
            case measure => simp [intOf]; omega
        · have l0 : ¬ (k : Int) < (M : Int) := by omega
          obtain rfl : k = M := by omega
          have hTN := nodup_le HY.out.1.nd HY.out.1.rg
          go_wp2_with fail
          go_roundw
          case rel =>
            refine ⟨i + 1, bT, cT, bW, cW, T, K, vs, by omega, rfl, rfl, by go_num, hide ?_⟩
            have e : (i + 1) * k = i * k + k := Nat.succ_mul _ _
            rw [e]
            exact HY.out.1
          case measure => simp [intOf]; omega
    · have l0 : ¬ (i : Int) < (T.length : Int) := by omega
      obtain rfl : i = T.length := by omega
      go_wp2_with fail
      go_ret2
      exact ⟨bT, cT, bW, cW, T, K, vs, rfl, HY⟩
/-! ### Access, and the reference -/
/-- What words reach, in the order of the least ones. -/
def RcQ (Nx : List Int) (M st : Nat) (x : List Nat × List Nat) : Prop := Wk (dl Nx M) M st x.1 x.2 (x.1.length * M) ∧ Cv (dl Nx M) M x.1 x.2 (x.1.length * M) ∧ x.1.Nodup
open Classical in
noncomputable def rcP (Nx : List Int) (M st : Nat) : List Nat × List Nat := if h : ∃ x, RcQ Nx M st x then h.choose else ([], [])
theorem rcP_of {Nx : List Int} {M st : Nat} {T K : List Nat} (h1 : Wk (dl Nx M) M st T K (T.length * M)) (h2 : Cv (dl Nx M) M T K (T.length * M)) (h3 : T.Nodup) : rcP Nx M st = (T, K) := by
  have k : ∃ x, RcQ Nx M st x := ⟨(T, K), h1, h2, h3⟩
  unfold rcP
  rw [dif_pos k]
  obtain ⟨a1, a2, a3⟩ := k.choose_spec
  obtain ⟨e1, e2⟩ := wk_uniq a1 a2 a3 h1 h2 h3
  exact Prod.ext e1 e2
/-- Access' error, and its words. -/
noncomputable def acE (N M st : Int) (Fi Nx : List Int) : Int := if vd N M st Fi Nx = true then if (rcP Nx M.toNat st.toNat).1.length < N.toNat then 60 else 0 else 3
noncomputable def acL (N M st : Int) (Fi Nx : List Int) : List (List Int) := if vd N M st Fi Nx = true ∧ ¬ (rcP Nx M.toNat st.toNat).1.length < N.toNat then (List.range N.toNat).map fun x => wdK M.toNat (rcP Nx M.toNat st.toNat).2 ((rcP Nx M.toNat st.toNat).1.idxOf x) else []
theorem ac_bad {N M st : Int} {Fi Nx : List Int} (h : vd N M st Fi Nx = false) : acE N M st Fi Nx = 3 ∧ acL N M st Fi Nx = [] := by
  unfold acE acL
  rw [h]
  exact ⟨if_neg (by simp), if_neg (by simp)⟩
section
variable {N M st : Nat} {Fi Nx : List Int} {T K : List Nat}
theorem ac_none (h : vd N M st Fi Nx = true) (h1 : Wk (dl Nx M) M st T K (T.length * M)) (h2 : Cv (dl Nx M) M T K (T.length * M)) (h3 : T.Nodup) (hl : T.length < N) : acE N M st Fi Nx = 60 ∧ acL N M st Fi Nx = [] := by
  have e : rcP Nx (M : Int).toNat (st : Int).toNat = (T, K) := rcP_of h1 h2 h3
  refine ⟨?_, ?_⟩
  · unfold acE
    rw [if_pos h, e]
    exact if_pos hl
  · unfold acL
    rw [e]
    exact if_neg (fun k => k.2 hl)
theorem ac_ok (h : vd N M st Fi Nx = true) (h1 : Wk (dl Nx M) M st T K (T.length * M)) (h2 : Cv (dl Nx M) M T K (T.length * M)) (h3 : T.Nodup) (hl : ¬ T.length < N) : acE N M st Fi Nx = 0 ∧ acL N M st Fi Nx = (List.range N).map fun x => wdK M K (T.idxOf x) := by
  have e : rcP Nx (M : Int).toNat (st : Int).toNat = (T, K) := rcP_of h1 h2 h3
  refine ⟨?_, ?_⟩
  · unfold acE
    rw [if_pos h, e]
    exact if_neg hl
  · unfold acL
    rw [e]
    exact if_pos ⟨h, hl⟩
end
/-- Words in a row, each in a row of its own. -/
def OwWs (W : World) (B : Nat) (v : Value) (LL : List (List Int)) : Prop := ∃ vs : List Value, W.ownsRow B 22 1 v vs.length vs ∧ vs.length = LL.length ∧ ∀ (j : Nat) (h : j < vs.length) (h2 : j < LL.length), OwI W B vs[j] LL[j]
/-- The rows of words lie apart. -/
def OwWa (W : World) (B : Nat) (v : Value) (LL : List (List Int)) : Prop := ∃ vs : List Value, W.ownsRow B 22 1 v vs.length vs ∧ vs.length = LL.length ∧ (∀ (j : Nat) (h : j < vs.length) (h2 : j < LL.length), OwI W B vs[j] LL[j]) ∧ ∀ (i j : Nat) (hi : i < vs.length) (hj : j < vs.length), i ≠ j → ∀ k, vs[i].ownBlock = some k → vs[j].ownBlock ≠ some k
theorem owWa_nil (W : World) (B : Nat) : OwWa W B (.slice none 0 0) [] := ⟨[], World.ownsRow_nil _ _ _ _, rfl, fun j h => by simp at h, fun i j h => by simp at h⟩
/-- The answer of a question for words. -/
def WsA (Ow : World → Nat → Value → List (List Int) → Prop) (w : World) (LL : List (List Int)) (er : Int) : Ending → World → Prop := fun e w' => ∃ b c, e = .returned (.tuple #[.slice b LL.length c, .int .i64 er]) ∧ Hid (Ow w' w.heap.size (.slice b LL.length c) LL ∧ Below w.heap.size w w')
theorem mrw_vals {W : World} {B H N t : Nat} {val : Nat → Value} (h : Mrw W H t N val N) (hB : B ≤ H) (hN : N ≤ maxLen) : W.ownsRow B t 1 (.slice (some ⟨H, 0, none⟩) N N) N ((List.range N).map val) := by
  obtain ⟨cur, h1, h2, h3⟩ := h
  refine ⟨by simp, .inr ⟨H, N, cur, rfl, hB, h1, Nat.le_refl _, hN, by omega, ?_⟩⟩
  refine List.ext_getElem? fun j => ?_
  by_cases hj : j < N
  · rw [List.getElem?_take_of_lt (by omega), List.getElem?_map, List.getElem?_range hj, Array.getElem?_toList, h3 j hj]
    rfl
  · rw [List.getElem?_eq_none (by simp; omega), List.getElem?_eq_none (by simp; omega)]
theorem idxOf_get {T : List Nat} {x : Nat} (h : x ∈ T) : T[T.idxOf x]? = some x := by
  have hl := List.idxOf_lt_length_iff.2 h
  rw [List.getElem?_eq_getElem hl, List.getElem_idxOf]
/-- Access, whatever it is asked. -/
theorem access_uni (w : World) (N M st : Int) (aF aN : Option Addr) (lF cF lN cN : Nat) (Fi Nx : List Int) (hF : RdN w aF Fi) (hN : RdN w aN Nx) (hlF : Fi.length = lF) (hlN : Nx.length = lN) (bF : lF ≤ 4194304) (bN : lN ≤ 4194304) :
    Calls Try.prog 10 #[.agg #[.int .i64 N, .int .i64 M, .int .i64 st, .slice aF lF cF, .slice aN lN cN]] w (WsA OwWa w (acL N M st Fi Nx) (acE N M st Fi Nx)) := by
  cases hv : vd N M st Fi Nx with
  | false =>
    rw [(ac_bad hv).1, (ac_bad hv).2]
    refine (access_bad w N M st aF aN lF cF lN cN Fi Nx hF hN hlF hlN bF bN hv).mono ?_
    rintro e w' ⟨rfl, d⟩
    exact ⟨none, 0, rfl, hide ⟨owWa_nil _ _, d⟩⟩
  | true =>
    obtain ⟨n, m, s, rfl, rfl, rfl, n1, n2, _⟩ := vd_nat hv
    refine (access_ok w n m s aF aN lF cF lN cN Fi Nx hF hN hlF hlN bF bN hv).mono ?_
    rintro e w' ⟨T, K, H, h⟩
    obtain ⟨a1, a2, a3, a4, a5⟩ := H.out
    rcases h with ⟨hl, rfl⟩ | ⟨hl, g, val, rfl, HX⟩
    · rw [(ac_none hv a1 a2 a3 hl).1, (ac_none hv a1 a2 a3 hl).2]
      exact ⟨none, 0, rfl, hide ⟨owWa_nil _ _, a5⟩⟩
    · have z := ac_ok hv a1 a2 a3 (by omega)
      rw [z.1, z.2]
      have e9 : ((List.range n).map fun x => wdK m K (T.idxOf x)).length = n := by simp
      refine ⟨some ⟨g, 0, none⟩, n, by rw [e9], hide ⟨?_, a5⟩⟩
      rw [e9]
      refine ⟨(List.range n).map val, ?_, by simp, fun j h h2 => ?_, fun i j hi hj hij k hk => ?_⟩
      · rw [List.length_map, List.length_range]
        exact mrw_vals HX.out.2.rw HX.out.1 (by unfold maxLen; omega)
      · have hj : j < n := by simpa using h
        have hm := full_mem hl a3 a4 hj
        have hi := List.idxOf_lt_length_iff.2 hm
        have o := HX.out.2.wd (T.idxOf j) j (by omega) (idxOf_get hm)
        simpa using o
      · have hi' : i < n := by simpa using hi
        have hj' : j < n := by simpa using hj
        have mi := full_mem hl a3 a4 hi'
        have mj := full_mem hl a3 a4 hj'
        have li := List.idxOf_lt_length_iff.2 mi
        have lj := List.idxOf_lt_length_iff.2 mj
        have hk' : (val i).ownBlock = some k := by simpa using hk
        have ne : T.idxOf i ≠ T.idxOf j := fun e => hij (by
          have z1 := idxOf_get mi
          have z2 := idxOf_get mj
          rw [e, z2] at z1
          injection z1 with z1
          exact z1.symm)
        have key : (val j).ownBlock ≠ some k := by
          rcases Nat.lt_or_gt_of_ne ne with q | q
          · exact HX.out.2.ap _ _ i j q (by omega) (idxOf_get mi) (idxOf_get mj) k hk'
          · exact fun h => HX.out.2.ap _ _ j i q (by omega) (idxOf_get mj) (idxOf_get mi) k h hk'
        simpa using key
set_option maxRecDepth 100000 in
set_option maxHeartbeats 4000000 in
theorem raccess_bad (w : World) (N M st : Int) (aF aN : Option Addr) (lF cF lN cN : Nat) (Fi Nx : List Int) (hF : RdN w aF Fi) (hN : RdN w aN Nx) (hlF : Fi.length = lF) (hlN : Nx.length = lN) (bF : lF ≤ 4194304) (bN : lN ≤ 4194304) (hv : vd N M st Fi Nx = false) :
    Calls Try.prog 23 #[.agg #[.int .i64 N, .int .i64 M, .int .i64 st, .slice aF lF cF, .slice aN lN cN]] w fun e w' => e = .returned (.tuple #[.slice none 0 0, .int .i64 3]) ∧ Below w.heap.size w w' := by
  obtain ⟨W0, hW0⟩ : ∃ W0, w.alloc (.cells #[.int .i64 N, .int .i64 M, .int .i64 st, .slice aF lF cF, .slice aN lN cN] 24) = W0 := ⟨_, rfl⟩
  have d0 : Below w.heap.size w W0 := by rw [← hW0]; exact (Below.refl _ _).alloc (Nat.le_refl _) _
  have B0 : W0.heap[w.heap.size]? = some (.cells #[.int .i64 N, .int .i64 M, .int .i64 st, .slice aF lF cF, .slice aN lN cN] 24 (0, 0)) := by rw [← hW0]; exact World.alloc_heap_new _ _
  have k0 : W0.cell? ⟨w.heap.size, 0, none⟩ = some (.int .i64 N) := cell_of B0 rfl
  have k1 : W0.cell? ⟨w.heap.size, 1, none⟩ = some (.int .i64 M) := cell_of B0 rfl
  have k2 : W0.cell? ⟨w.heap.size, 2, none⟩ = some (.int .i64 st) := cell_of B0 rfl
  have k3 : W0.cell? ⟨w.heap.size, 3, none⟩ = some (.slice aF lF cF) := cell_of B0 rfl
  have k4 : W0.cell? ⟨w.heap.size, 4, none⟩ = some (.slice aN lN cN) := cell_of B0 rfl
  have TM := maybe_any W0 N M st aF aN lF cF lN cN Fi Nx (hF.on d0) (hN.on d0) hlF hlN bF bN
  rw [hv] at TM
  have HD := hide d0
  clear d0 B0 hF hN hlF hlN bF bN hv
  go_enter Try.func23, Try.ntmps23
  go_wp2_with (go_at_call 46; refine TM.mono ?_; rintro e w2 ⟨rfl, d2⟩; have HD2 := hide (HD.out.trans (d2.mono HD.out.size)); clear d2 k0 k1 k2 k3 k4)
  go_ret2
  exact ⟨rfl, HD2.out⟩
set_option maxRecDepth 100000 in
set_option maxHeartbeats 4000000 in
theorem raccess_ok (w : World) (N M st : Nat) (aF aN : Option Addr) (lF cF lN cN : Nat) (Fi Nx : List Int) (hF : RdN w aF Fi) (hN : RdN w aN Nx) (hlF : Fi.length = lF) (hlN : Nx.length = lN) (bF : lF ≤ 4194304) (bN : lN ≤ 4194304) (hv : vd N M st Fi Nx = true) :
    Calls Try.prog 23 #[.agg #[.int .i64 (N : Int), .int .i64 (M : Int), .int .i64 (st : Int), .slice aF lF cF, .slice aN lN cN]] w (WsA OwWa w (acL N M st Fi Nx) (acE N M st Fi Nx)) := by
  obtain ⟨n0, m0, s0, en, em, es, n1, n2, m1, s1, e1, i1, i2⟩ := vd_nat hv
  obtain rfl : N = n0 := by omega
  obtain rfl : M = m0 := by omega
  obtain ⟨W0, hW0⟩ : ∃ W0, w.alloc (.cells #[.int .i64 (N : Int), .int .i64 (M : Int), .int .i64 (st : Int), .slice aF lF cF, .slice aN lN cN] 24) = W0 := ⟨_, rfl⟩
  have d0 : Below w.heap.size w W0 := by rw [← hW0]; exact (Below.refl _ _).alloc (Nat.le_refl _) _
  have B0 : W0.heap[w.heap.size]? = some (.cells #[.int .i64 (N : Int), .int .i64 (M : Int), .int .i64 (st : Int), .slice aF lF cF, .slice aN lN cN] 24 (0, 0)) := by rw [← hW0]; exact World.alloc_heap_new _ _
  have k0 : W0.cell? ⟨w.heap.size, 0, none⟩ = some (.int .i64 (N : Int)) := cell_of B0 rfl
  have k1 : W0.cell? ⟨w.heap.size, 1, none⟩ = some (.int .i64 (M : Int)) := cell_of B0 rfl
  have k2 : W0.cell? ⟨w.heap.size, 2, none⟩ = some (.int .i64 (st : Int)) := cell_of B0 rfl
  have k3 : W0.cell? ⟨w.heap.size, 3, none⟩ = some (.slice aF lF cF) := cell_of B0 rfl
  have k4 : W0.cell? ⟨w.heap.size, 4, none⟩ = some (.slice aN lN cN) := cell_of B0 rfl
  have TM := maybe_any W0 N M st aF aN lF cF lN cN Fi Nx (hF.on d0) (hN.on d0) hlF hlN bF bN
  rw [hv] at TM
  have TR : Hid (∀ W, Below W0.heap.size W0 W → Calls Try.prog 48 #[.agg #[.int .i64 (N : Int), .int .i64 (M : Int), .int .i64 (st : Int), .slice aF lF cF, .slice aN lN cN]] W (RrA W N M st #[.int .i64 (N : Int), .int .i64 (M : Int), .int .i64 (st : Int), .slice aF lF cF, .slice aN lN cN] Nx)) := hide (fun W d => reached_ref W N M st aF aN lF cF lN cN Fi Nx ((hF.on d0).on d) ((hN.on d0).on d) hlF hlN bF bN hv)
  obtain ⟨i22, hi22, hz0, hz1, hz2⟩ := info_parts info22
  have HD := hide (And.intro d0 B0)
  have HV := hide (And.intro hv (And.intro n2 s1))
  clear d0 B0 hF hN hlF hlN bF bN hv en em es n1 n2 m1 s1 e1 i1 i2
  go_enter Try.func23, Try.ntmps23
  go_upto_region 3 with (go_at_call 46; refine TM.mono ?_; rintro e w2 ⟨rfl, d2⟩; have HD2 := hide d2; clear d2 k0 k1 k2 k3 k4)
  have Z := blk_on HD.out.2 HD2.out
  have y0 : w2.cell? ⟨w.heap.size, 0, none⟩ = some (.int .i64 (N : Int)) := cell_of Z rfl
  have y1 : w2.cell? ⟨w.heap.size, 1, none⟩ = some (.int .i64 (M : Int)) := cell_of Z rfl
  have y2 : w2.cell? ⟨w.heap.size, 2, none⟩ = some (.int .i64 (st : Int)) := cell_of Z rfl
  have y3 : w2.cell? ⟨w.heap.size, 3, none⟩ = some (.slice aF lF cF) := cell_of Z rfl
  have y4 : w2.cell? ⟨w.heap.size, 4, none⟩ = some (.slice aN lN cN) := cell_of Z rfl
  clear Z
  go_upto_region 4 with (go_at_call 48; refine (TR.out _ HD2.out).mono ?_; rintro e w3 ⟨bT, cT, bW, cW, T, K, vs, rfl, HR⟩)
  clear y0 y1 y2 y3 y4 TR TM
  have D3 : Below W0.heap.size W0 w3 := HD2.out.trans (HR.out.d.mono HD2.out.size)
  have y0 : w3.cell? ⟨w.heap.size, 0, none⟩ = some (.int .i64 (N : Int)) := cell_of (blk_on HD.out.2 D3) rfl
  have hN4 := HV.out.2.1
  have hTN := nodup_le HR.out.nd HR.out.rg
  have hBw : w.heap.size ≤ w2.heap.size := Nat.le_trans HD.out.1.size HD2.out.size
  go_upto_region 5 with (at_make; refine wpList_make_full _ rfl _ _ 32 rfl w3.heap.size 22 i22 (.slice none 0 0) 1 Try.underlying32 hi22 hz0 hz1 _ _ _ _ N rfl rfl rfl rfl (by rw [hz2]; omega) (by unfold maxLen; omega) (Nat.le_refl _) ?_; intro w4 ho hg)
  have D4 : Below w3.heap.size w3 w4 := (Below.refl _ _).grown hg (Nat.le_refl _) (by intro k hk; cases hk)
  obtain ⟨val0, M0⟩ := mrw_some (Mrw.ofRow (fun _ => undef) ho)
  rw [Nat.mul_one] at M0
  obtain ⟨g, hgg⟩ : ∃ g, w3.heap.size = g := ⟨_, rfl⟩
  have HG := hide (show w.heap.size ≤ g ∧ Below w.heap.size w w4 from ⟨by have := D3.size; have := HD.out.1.size; omega, (HD.out.1.trans (D3.mono HD.out.1.size)).trans (D4.mono (by have := D3.size; have := HD.out.1.size; omega))⟩)
  have HR4 := hide (HR.out.on D4)
  have Y4 := blk_on (blk_on HD.out.2 D3) D4
  rw [hgg] at M0 ⊢
  have J0 : Hid (∃ val, Mrw w4 g 22 N val N ∧ (∀ i x, i < 0 → T[i]? = some x → ∃ h : i < vs.length, val x = vs[i]) ∧ w4.heap[w.heap.size]? = some (.cells #[.int .i64 (N : Int), .int .i64 (M : Int), .int .i64 (st : Int), .slice aF lF cF, .slice aN lN cN] 24 (0, 0)) ∧ OwI w4 w2.heap.size (.slice bT T.length cT) (natI T) ∧ w4.ownsRow w2.heap.size 22 1 (.slice bW T.length cW) vs.length vs ∧ (∀ (j : Nat) (h : j < vs.length), OwI w4 w2.heap.size vs[j] (wdK M K j)) ∧ Below w.heap.size w w4 ∧ (Value.slice bW T.length cW).ownBlock ≠ some g) := hide ⟨val0, M0, fun i x hi => absurd hi (Nat.not_lt_zero _), Y4, HR4.out.rT, HR4.out.rW, HR4.out.wd, HG.out.2, fun e => by have := (HR.out.rW.lt g e).2; omega⟩
  have HT := hide (And.intro HR.out.len (And.intro HR.out.wk (And.intro HR.out.cv (And.intro HR.out.nd HR.out.rg))))
  have HAW := hide HR.out.aw
  clear M0 D4 D3 ho hg y0 hi22 hz0 hz1 hz2 hgg HR HR4 Y4
  go_wp2_with fail
  go_loopw [7] (fun iv wr => ∃ i : Nat, i ≤ T.length ∧ iv = .int .i64 (i : Int) ∧ Hid (∃ val, Mrw wr g 22 N val N ∧ (∀ j x, j < i → T[j]? = some x → ∃ h : j < vs.length, val x = vs[j]) ∧ wr.heap[w.heap.size]? = some (.cells #[.int .i64 (N : Int), .int .i64 (M : Int), .int .i64 (st : Int), .slice aF lF cF, .slice aN lN cN] 24 (0, 0)) ∧ OwI wr w2.heap.size (.slice bT T.length cT) (natI T) ∧ wr.ownsRow w2.heap.size 22 1 (.slice bW T.length cW) vs.length vs ∧ (∀ (j : Nat) (h : j < vs.length), OwI wr w2.heap.size vs[j] (wdK M K j)) ∧ Below w.heap.size w wr ∧ (Value.slice bW T.length cW).ownBlock ≠ some g)) (fun iv _ => T.length - (intOf iv).toNat)
  case atStart => exact ⟨0, Nat.zero_le _, rfl, J0⟩
  case round =>
    clear J0
    obtain ⟨i, hi, rfl, HY⟩ := hrel
    by_cases hlt : i < T.length
    · have l0 : (i : Int) < (T.length : Int) := by omega
      have l1 : (0 : Int) ≤ (i : Int) := by omega
      obtain ⟨val, HQ⟩ : ∃ val, Hid (Mrw wr g 22 N val N ∧ (∀ j x, j < i → T[j]? = some x → ∃ h : j < vs.length, val x = vs[j]) ∧ wr.heap[w.heap.size]? = some (.cells #[.int .i64 (N : Int), .int .i64 (M : Int), .int .i64 (st : Int), .slice aF lF cF, .slice aN lN cN] 24 (0, 0)) ∧ OwI wr w2.heap.size (.slice bT T.length cT) (natI T) ∧ wr.ownsRow w2.heap.size 22 1 (.slice bW T.length cW) vs.length vs ∧ (∀ (j : Nat) (h : j < vs.length), OwI wr w2.heap.size vs[j] (wdK M K j)) ∧ Below w.heap.size w wr ∧ (Value.slice bW T.length cW).ownBlock ≠ some g) := by obtain ⟨val, h⟩ := HY.out; exact ⟨val, hide h⟩
      clear HY
      obtain ⟨x, hx⟩ : ∃ x, T[i] = x := ⟨_, rfl⟩
      have hxN : x < N := by rw [← hx]; exact HT.out.2.2.2.2 _ (List.getElem_mem hlt)
      obtain ⟨gT, oT, eT, cT9⟩ := (owI_rd HQ.out.2.2.2.1).2 i (by rw [natI_len]; exact hlt)
      have exT : (natI T)[i]'(by rw [natI_len]; exact hlt) = (x : Int) := by simp [natI, hx]
      rw [exT] at cT9
      have hiv : i < vs.length := by rw [HT.out.1]; exact hlt
      obtain ⟨gW, oW, eW, cW9⟩ := own1_rd HQ.out.2.2.2.2.1 i hiv
      obtain ⟨v9, hv9⟩ : ∃ v, vs[i] = v := ⟨_, rfl⟩
      rw [hv9] at cW9
      have OV := HQ.out.2.2.2.2.2.1 i hiv
      rw [hv9] at OV
      obtain ⟨nw, hnw⟩ : ∃ l, (wdK M K i).length = l := ⟨_, rfl⟩
      obtain ⟨bw, cw, hwv⟩ : ∃ b c, v9 = .slice b nw c := by obtain ⟨b, c, z⟩ := own_slice OV; exact ⟨b, c, by rw [← hnw]; exact z⟩
      subst hwv eW eT
      have HX := hide (show T[i]? = some x ∧ vs[i] = .slice bw nw cw ∧ i < vs.length from ⟨by rw [List.getElem?_eq_getElem hlt, hx], hv9, hiv⟩)
      obtain ⟨uG, cG⟩ := HQ.out.1.cell x hxN
      have fG := HQ.out.1.fz x
      have x0 : (0 : Int) ≤ (x : Int) := by omega
      have x1 : (x : Int) < (N : Int) := by omega
      have hTN4 : T.length ≤ 4096 := by omega
      clear hx hnw hv9 exT OV
      go_upto_region 8 with fail
      refine wp_region_phase 9 #[true, true, true, true, true, true, true, true, true, false, false] (by kernel_rfl) (by kernel_rfl) ?_
      simp only [List.take_succ_cons, List.take_zero, List.drop_succ_cons, List.drop_zero]
      repeat (go_big_quiet_step (fail))
      refine wpQuiet_nil ?_
      intro wz hzz
      obtain ⟨nq, rfl⟩ := hzz
      go_wp2_with fail
      go_roundw
      case rel =>
        have d0 := below_drewN2 (Below.refl wr.heap.size wr) nq
        have mq := HQ.out.1.below d0 HQ.out.1.lt
        have O := only_set (wr.drewN nq) g x (.slice bw nw cw)
        obtain ⟨csG, eG⟩ := mq.blk
        refine ⟨i + 1, by omega, by go_num, hide ⟨_, mq.upd x (.slice bw nw cw), fun j y hj hy => ?_, ?_, own_keep (own_below HQ.out.2.2.2.1 d0) eG (by decide) O, row_only (own_below HQ.out.2.2.2.2.1 d0) O (fun k hk e => HQ.out.2.2.2.2.2.2.2 (by rw [← e]; exact hk)), fun j h => own_keep (own_below (HQ.out.2.2.2.2.2.1 j h) d0) eG (by decide) O, ?_, HQ.out.2.2.2.2.2.2.2⟩⟩
        · show ∃ h : j < vs.length, (if y = x then Value.slice bw nw cw else val y) = vs[j]
          by_cases e : j = i
          · have hyx : y = x := by
              have h := HX.out.1
              rw [← e, hy] at h
              simpa using h
            refine ⟨by rw [e]; exact HX.out.2.2, ?_⟩
            rw [if_pos hyx]
            simp only [e]
            exact HX.out.2.1.symm
          · have hne : y ≠ x := fun e2 => e (by
              subst e2
              exact (List.getElem?_inj (List.getElem?_eq_some_iff.1 hy).1 HT.out.2.2.2.1).1 (hy.trans HX.out.1.symm))
            rw [if_neg hne]
            exact HQ.out.2.1 j y (by omega) hy
        · have b0 := blk_on HQ.out.2.2.1 d0
          exact (O.block _ (Array.getElem?_eq_some_iff.1 b0).1 (fun e => by rw [← e, b0] at eG; cases eG)).trans b0
        · exact (HQ.out.2.2.2.2.2.2.1.trans (d0.mono HQ.out.2.2.2.2.2.2.1.size)).trans (O.toBelow (Nat.le_trans HQ.out.2.2.2.2.2.2.1.size d0.size) (fun k hk => by subst hk; exact HG.out.1))
      case measure => simp [intOf]; omega
    · have l0 : ¬ (i : Int) < (T.length : Int) := by omega
      obtain rfl : i = T.length := by omega
      have y0 : wr.cell? ⟨w.heap.size, 0, none⟩ = some (.int .i64 (N : Int)) := by obtain ⟨val, h⟩ := HY.out; exact cell_of h.2.2.1 rfl
      by_cases hf : T.length < N
      · have l1 : (T.length : Int) < (N : Int) := by omega
        have HF9 := hide hf
        clear hf
        go_wp2_with fail
        go_ret2
        have z := ac_none HV.out.1 HT.out.2.1 HT.out.2.2.1 HT.out.2.2.2.1 HF9.out
        rw [z.1, z.2]
        exact ⟨none, 0, rfl, hide ⟨owWa_nil _ _, by obtain ⟨val, h⟩ := HY.out; exact h.2.2.2.2.2.2.1⟩⟩
      · have l1 : ¬ (T.length : Int) < (N : Int) := by omega
        have hTl : T.length = N := by omega
        have e9 : ((List.range N).map fun x => wdK M K (T.idxOf x)).length = N := by simp
        have HF9 := hide (And.intro hTl (And.intro e9 hf))
        clear hTl e9 hf
        go_wp2_with fail
        go_ret2
        have z := ac_ok HV.out.1 HT.out.2.1 HT.out.2.2.1 HT.out.2.2.2.1 HF9.out.2.2
        rw [z.1, z.2]
        have e9 := HF9.out.2.1
        refine ⟨some ⟨g, 0, none⟩, N, by rw [e9]; rfl, hide ⟨?_, by obtain ⟨val, h⟩ := HY.out; exact h.2.2.2.2.2.2.1⟩⟩
        rw [e9]
        obtain ⟨val, h⟩ := HY.out
        refine ⟨(List.range N).map val, ?_, by simp, fun j h1 h2 => ?_, fun i j hi hj hij k hk => ?_⟩
        · rw [List.length_map, List.length_range]
          exact mrw_vals h.1 HG.out.1 (by unfold maxLen; omega)
        · have hj : j < N := by simpa using h1
          have hm := full_mem HF9.out.1 HT.out.2.2.2.1 HT.out.2.2.2.2 hj
          have hi2 := List.idxOf_lt_length_iff.2 hm
          obtain ⟨h3, h4⟩ := h.2.1 (T.idxOf j) j hi2 (idxOf_get hm)
          have o : OwI wr w.heap.size vs[T.idxOf j] (wdK M K (T.idxOf j)) := owns_down (h.2.2.2.2.2.1 (T.idxOf j) h3) hBw
          rw [← h4] at o
          simpa using o
        · have hi' : i < N := by simpa using hi
          have hj' : j < N := by simpa using hj
          have mi := full_mem HF9.out.1 HT.out.2.2.2.1 HT.out.2.2.2.2 hi'
          have mj := full_mem HF9.out.1 HT.out.2.2.2.1 HT.out.2.2.2.2 hj'
          obtain ⟨xi, yi⟩ := h.2.1 (T.idxOf i) i (List.idxOf_lt_length_iff.2 mi) (idxOf_get mi)
          obtain ⟨xj, yj⟩ := h.2.1 (T.idxOf j) j (List.idxOf_lt_length_iff.2 mj) (idxOf_get mj)
          have hk' : (val i).ownBlock = some k := by simpa using hk
          have ne : T.idxOf i ≠ T.idxOf j := fun e => hij (by
            have z1 := idxOf_get mi
            have z2 := idxOf_get mj
            rw [e, z2] at z1
            injection z1 with z1
            exact z1.symm)
          have key : (val j).ownBlock ≠ some k := by
            rw [yi] at hk'
            rw [yj]
            rcases Nat.lt_or_gt_of_ne ne with q | q
            · exact HAW.out _ _ xi xj q k hk'
            · exact fun h2 => HAW.out _ _ xj xi q k h2 hk'
          simpa using key
/-- The reference's Access, whatever it is asked. -/
theorem raccess_uni (w : World) (N M st : Int) (aF aN : Option Addr) (lF cF lN cN : Nat) (Fi Nx : List Int) (hF : RdN w aF Fi) (hN : RdN w aN Nx) (hlF : Fi.length = lF) (hlN : Nx.length = lN) (bF : lF ≤ 4194304) (bN : lN ≤ 4194304) :
    Calls Try.prog 23 #[.agg #[.int .i64 N, .int .i64 M, .int .i64 st, .slice aF lF cF, .slice aN lN cN]] w (WsA OwWa w (acL N M st Fi Nx) (acE N M st Fi Nx)) := by
  cases hv : vd N M st Fi Nx with
  | false =>
    rw [(ac_bad hv).1, (ac_bad hv).2]
    refine (raccess_bad w N M st aF aN lF cF lN cN Fi Nx hF hN hlF hlN bF bN hv).mono ?_
    rintro e w' ⟨rfl, d⟩
    exact ⟨none, 0, rfl, hide ⟨owWa_nil _ _, d⟩⟩
  | true =>
    obtain ⟨n, m, s, rfl, rfl, rfl, n1, n2, _⟩ := vd_nat hv
    exact raccess_ok w n m s aF aN lF cF lN cN Fi Nx hF hN hlF hlN bF bN hv
/-! ### Tells: two states -/
theorem cl_iff {Nx : List Int} {fin : Nat → Bool} {N M : Nat} {al : Nat → Nat} (h : ClA Nx fin N M al) {p q : Nat} (hp : p < N) (hq : q < N) : al p = al q ↔ Ali Nx fin M p q := by
  obtain ⟨a1, a2, a3⟩ := h p hp
  obtain ⟨b1, b2, b3⟩ := h q hq
  constructor
  · intro e u hu
    have z1 := a2 u hu
    have z2 := b2 u hu
    rw [e] at z1
    exact z1.trans z2.symm
  · intro e
    have z1 := a3 (al q) (by omega) (fun u hu => (e u hu).trans (b2 u hu))
    have z2 := b3 (al p) (by omega) (fun u hu => (e u hu).symm.trans (a2 u hu))
    omega
/-! ### The classes as they are first reached -/
section
variable {N M : Nat} {Fi Nx : List Int} {al : Nat → Nat} (hl : Nx.length = N * M) (hi : ∀ x ∈ Nx, 0 ≤ x ∧ x < (N : Int)) (hC : ClA Nx (inF Fi) N M al)
include hl hi hC
theorem al_step {s a : Nat} (hs : s < N) (ha : a < M) : al (dl Nx M (al s) a) = al (dl Nx M s a) := by
  have h1 := (hC s hs).1
  refine (cl_iff hC (dl_spec hl hi (by omega : al s < N) ha).2.2 (dl_spec hl hi hs ha).2.2).2 fun u hu => ?_
  have z := (hC s hs).2.1 (a :: u) (fun b hb => by
    rcases List.mem_cons.1 hb with e | e
    · rw [e]; exact ha
    · exact hu b e)
  exact z.symm
theorem al_fold : ∀ (u : List Nat) (s : Nat), s < N → (∀ a ∈ u, a < M) → u.foldl (fun s a => al (dl Nx M s a)) (al s) = al (dls Nx M s u)
  | [], _, _, _ => rfl
  | a :: u, s, hs, hu => by
    have ha := hu a (by simp)
    rw [List.foldl_cons, al_step hl hi hC hs ha, al_fold u _ (dl_spec hl hi hs ha).2.2 (fun b hb => hu b (by simp [hb]))]
    rfl
end
/-- Each one once, where it first stands. -/
def fsA (L : List Nat) : List Nat := L.foldl (fun acc x => if x ∈ acc then acc else acc ++ [x]) []
theorem fsA_snoc (L : List Nat) (x : Nat) : fsA (L ++ [x]) = if x ∈ fsA L then fsA L else fsA L ++ [x] := by
  unfold fsA
  rw [List.foldl_append]
  rfl
theorem not_take {T : List Nat} (hn : T.Nodup) {m : Nat} (hm : m < T.length) : T[m] ∉ T.take m := fun h => by
  obtain ⟨i, hi, e⟩ := List.getElem_of_mem h
  rw [List.length_take] at hi
  rw [List.getElem_take] at e
  have h1 : T[i]? = some T[m] := by rw [List.getElem?_eq_getElem (by omega), e]
  have h2 : T[m]? = some T[m] := List.getElem?_eq_getElem hm
  have := (List.getElem?_inj (i := i) (j := m) (by omega) hn).1 (h1.trans h2.symm)
  omega
/-- The classes in the order in which a state of theirs is first reached are what breadth first over the classes meets. -/
theorem fs_walk {N M st : Nat} {Fi Nx : List Int} {al : Nat → Nat} {T K R J : List Nat} (hl : Nx.length = N * M) (hi : ∀ x ∈ Nx, 0 ≤ x ∧ x < (N : Int)) (hC : ClA Nx (inF Fi) N M al) (hst : st < N)
    (hT : Wk (fun s a => al (dl Nx M s a)) M (al st) T K (T.length * M)) (cT : Cv (fun s a => al (dl Nx M s a)) M T K (T.length * M)) (nT : T.Nodup)
    (hR : Wk (dl Nx M) M st R J (R.length * M)) (cR : Cv (dl Nx M) M R J (R.length * M)) : fsA (R.map al) = T := by
  rcases Nat.eq_zero_or_pos M with e | hM
  · subst e
    have k0 : K.length = 0 := by
      rcases Nat.eq_zero_or_pos K.length with q | q
      · exact q
      · have := (hT.s 0 q).1
        omega
    have j0 : J.length = 0 := by
      rcases Nat.eq_zero_or_pos J.length with q | q
      · exact q
      · have := (hR.s 0 q).1
        omega
    have tl := hT.l
    have rl := hR.l
    have tz := hT.z
    have rz := hR.z
    obtain ⟨t, rfl⟩ := List.length_eq_one_iff.1 (show T.length = 1 by omega)
    obtain ⟨r, rfl⟩ := List.length_eq_one_iff.1 (show R.length = 1 by omega)
    simp at tz rz
    subst tz rz
    rfl
  · have main : ∀ j, j ≤ R.length → ∃ m, m ≤ T.length ∧ fsA ((R.take j).map al) = T.take m ∧ ∀ i r, i < j → R[i]? = some r → al r ∈ T.take m := by
      intro j
      induction j with
      | zero => exact fun _ => ⟨0, Nat.zero_le _, rfl, fun i r h => by omega⟩
      | succ j ih =>
        intro hj
        obtain ⟨m, h1, h2, h3⟩ := ih (by omega)
        have hjR : j < R.length := by omega
        have hjJ : j ≤ J.length := by have := hR.l; omega
        have rj : R[j]? = some R[j] := List.getElem?_eq_getElem hjR
        have es : (R.take (j + 1)).map al = (R.take j).map al ++ [al R[j]] := by rw [List.take_add_one, rj, List.map_append]; rfl
        by_cases hm : al R[j] ∈ T.take m
        · refine ⟨m, h1, by rw [es, fsA_snoc, h2, if_pos hm], fun i r hi hr => ?_⟩
          by_cases e : i = j
          · rw [e, rj] at hr
            injection hr with hr
            rw [← hr]
            exact hm
          · exact h3 i r (by omega) hr
        · have su := hR.syms hM j hjJ
          obtain ⟨i, t1, t2⟩ := hT.least cT hM (wnK M J j).length (wnK M J j) rfl su
          rw [al_fold hl hi hC _ st hst su, show dls Nx M st (wnK M J j) = R[j] from hR.leads j _ rj] at t1
          have iT := (List.getElem?_eq_some_iff.1 t1).1
          have eT := (List.getElem?_eq_some_iff.1 t1).2
          have hmi : m ≤ i := by
            rcases Nat.lt_or_ge i m with q | q
            · exact absurd (by rw [← eT]; exact List.mem_take_iff_getElem.2 ⟨i, by omega, rfl⟩) hm
            · exact q
          have hme : m = i := by
            rcases Nat.lt_or_ge m i with q | q
            · exfalso
              have mT : m < T.length := by omega
              have hTl := hT.l
              have up := hT.up hM i m q (by omega)
              have sw := hT.syms hM m (by omega)
              obtain ⟨j', r1, r2⟩ := hR.least cR hM (wnK M K m).length (wnK M K m) rfl sw
              have jR := (List.getElem?_eq_some_iff.1 r1).1
              have hRl := hR.l
              have hj' : j' < j := by
                rcases Nat.lt_trichotomy j' j with z | z | z
                · exact z
                · subst z; omega
                · have := hR.up hM j' j z (by omega)
                  omega
              have z1 := h3 j' _ hj' r1
              have z2 : al ((wnK M K m).foldl (dl Nx M) st) = T[m] := by
                have z3 := hT.leads m T[m] (List.getElem?_eq_getElem mT)
                rw [al_fold hl hi hC _ st hst sw] at z3
                exact z3
              rw [z2] at z1
              exact not_take nT mT z1
            · omega
          subst hme
          have tk : T.take (m + 1) = T.take m ++ [al R[j]] := by rw [List.take_add_one, t1]; rfl
          refine ⟨m + 1, iT, by rw [es, fsA_snoc, h2, if_neg hm, tk], fun i r hi hr => ?_⟩
          rw [tk]
          by_cases e : i = j
          · rw [e, rj] at hr
            injection hr with hr
            rw [← hr]
            simp
          · exact List.mem_append_left _ (h3 i r (by omega) hr)
    obtain ⟨m, h1, h2, h3⟩ := main R.length (Nat.le_refl _)
    rw [List.take_length] at h2
    rw [h2]
    rcases Nat.lt_or_ge m T.length with q | q
    · exfalso
      have hTl := hT.l
      have sw := hT.syms hM m (by omega)
      obtain ⟨j', r1, _⟩ := hR.least cR hM (wnK M K m).length (wnK M K m) rfl sw
      have z1 := h3 j' _ (List.getElem?_eq_some_iff.1 r1).1 r1
      have z2 : al ((wnK M K m).foldl (dl Nx M) st) = T[m] := by
        have z3 := hT.leads m T[m] (List.getElem?_eq_getElem q)
        rw [al_fold hl hi hC _ st hst sw] at z3
        exact z3
      rw [z2] at z1
      exact not_take nT q z1
    · exact List.take_of_length_le q
/-! ### Minimal, in one shape -/
/-- What is closed can be walked, breadth first. -/
theorem walk_ex {N M f : Nat} {φ : Nat → Nat → Nat} (hφ : ∀ s a, s < N → a < M → φ s a < N) (hf : f < N) : ∃ T K, Wk φ M f T K (T.length * M) ∧ Cv φ M T K (T.length * M) ∧ T.Nodup ∧ ∀ q ∈ T, q < N := by
  have main : ∀ (n c : Nat) (T K : List Nat), N * M - c ≤ n → c ≤ T.length * M → Wk φ M f T K c → Cv φ M T K c → T.Nodup → (∀ q ∈ T, q < N) → ∃ T K, Wk φ M f T K (T.length * M) ∧ Cv φ M T K (T.length * M) ∧ T.Nodup ∧ ∀ q ∈ T, q < N := by
    intro n
    induction n with
    | zero =>
      intro c T K h1 h2 w v d r
      have z := Nat.mul_le_mul_right M (nodup_le d r)
      obtain rfl : c = T.length * M := by omega
      exact ⟨T, K, w, v, d, r⟩
    | succ n ih =>
      intro c T K h1 h2 w v d r
      have z := Nat.mul_le_mul_right M (nodup_le d r)
      rcases Nat.lt_or_ge c (T.length * M) with q | q
      · have hM : 0 < M := by
          rcases Nat.eq_zero_or_pos M with e | e
          · rw [e] at q; omega
          · exact e
        have hc : c / M < T.length := (Nat.div_lt_iff_lt_mul hM).2 q
        have hx : T[c / M]? = some T[c / M] := List.getElem?_eq_getElem hc
        have hxN := r _ (List.getElem_mem hc)
        have hy := hφ _ (c % M) hxN (Nat.mod_lt _ hM)
        by_cases hm : φ T[c / M] (c % M) ∈ T
        · exact ih (c + 1) T K (by omega) (by omega) (w.more (Nat.le_succ _)) (v.old w hx hm) d r
        · refine ih (c + 1) (T ++ [φ T[c / M] (c % M)]) (K ++ [c]) (by omega) (by rw [List.length_append, List.length_singleton, Nat.succ_mul]; omega) (w.put hx) (v.put w hx) ?_ ?_
          · refine List.nodup_append.2 ⟨d, by simp, ?_⟩
            intro a ha b hb e
            simp at hb
            subst hb
            subst e
            exact hm ha
          · intro y hy2
            rcases List.mem_append.1 hy2 with e | e
            · exact r y e
            · simp at e
              subst e
              exact hy
      · obtain rfl : c = T.length * M := by omega
        exact ⟨T, K, w, v, d, r⟩
  exact main _ 0 [f] [] (Nat.le_refl _) (Nat.zero_le _) (Wk.one _ _ _) (Cv.nil _ _ _ _) (by simp) (fun q hq => by
    obtain rfl : q = f := by simpa using hq
    exact hf)
/-- The classes that are reached. -/
noncomputable def mnT (Fi Nx : List Int) (M st : Nat) : List Nat := fsA ((rcP Nx M st).1.map (alC Fi Nx M))
/-- Minimal's answer: the states, the symbols, the ends, the followers. -/
noncomputable def mnN (N M st : Int) (Fi Nx : List Int) : Int := if vd N M st Fi Nx = true then ((mnT Fi Nx M.toNat st.toNat).length : Int) else 0
def mnM (N M st : Int) (Fi Nx : List Int) : Int := if vd N M st Fi Nx = true then M else 0
noncomputable def mnFl (N M st : Int) (Fi Nx : List Int) : List Int := if vd N M st Fi Nx = true then mnF Fi (mnT Fi Nx M.toNat st.toNat) else []
noncomputable def mnXl (N M st : Int) (Fi Nx : List Int) : List Int := if vd N M st Fi Nx = true then mnX Nx M.toNat (mnT Fi Nx M.toNat st.toNat) (alC Fi Nx M.toNat) else []
/-- The answer of Minimal. -/
def MnU (w : World) (n m : Int) (F X : List Int) (er : Int) : Ending → World → Prop := fun e w' => ∃ b1 c1 b2 c2, e = .returned (.tuple #[.agg #[.int .i64 n, .int .i64 m, .int .i64 0, .slice b1 F.length c1, .slice b2 X.length c2], .int .i64 er]) ∧ Hid (OwI w' w.heap.size (.slice b1 F.length c1) F ∧ OwI w' w.heap.size (.slice b2 X.length c2) X ∧ (∀ k, (Value.slice b1 F.length c1).ownBlock = some k → (Value.slice b2 X.length c2).ownBlock ≠ some k) ∧ Below w.heap.size w w')
theorem mn_bad {N M st : Int} {Fi Nx : List Int} (h : vd N M st Fi Nx = false) : mnN N M st Fi Nx = 0 ∧ mnM N M st Fi Nx = 0 ∧ mnFl N M st Fi Nx = [] ∧ mnXl N M st Fi Nx = [] := by
  unfold mnN mnM mnFl mnXl
  rw [h]
  exact ⟨rfl, rfl, rfl, rfl⟩
theorem mn_ok {N M st : Nat} {Fi Nx : List Int} (h : vd N M st Fi Nx = true) : mnN N M st Fi Nx = ((mnT Fi Nx M st).length : Int) ∧ mnM N M st Fi Nx = M ∧ mnFl N M st Fi Nx = mnF Fi (mnT Fi Nx M st) ∧ mnXl N M st Fi Nx = mnX Nx M (mnT Fi Nx M st) (alC Fi Nx M) := by
  unfold mnN mnM mnFl mnXl
  rw [h]
  exact ⟨rfl, rfl, rfl, rfl⟩
theorem mnU_nil {w w' : World} {n m : Int} {F X : List Int} {er : Int} (h1 : F = []) (h2 : X = []) (d : Below w.heap.size w w') : MnU w n m F X er (.returned (.tuple #[.agg #[.int .i64 n, .int .i64 m, .int .i64 0, .slice none 0 0, .slice none 0 0], .int .i64 er])) w' := by
  subst h1 h2
  exact ⟨none, 0, none, 0, rfl, hide ⟨owI_nil _ _, owI_nil _ _, (fun k hk => by cases hk), d⟩⟩
theorem lsN_congr {φ ψ : Nat → Nat → Nat} {M : Nat} {T : List Nat} (h : ∀ s ∈ T, ∀ a, a < M → φ s a = ψ s a) (n : Nat) : lsN φ M T n = lsN ψ M T n := by
  unfold lsN
  have key : ∀ L : List Nat, (∀ s ∈ L, s ∈ T) → L.flatMap (fun s => lsR φ T s M) = L.flatMap (fun s => lsR ψ T s M) := by
    intro L
    induction L with
    | nil => exact fun _ => rfl
    | cons s L ih =>
      intro hL
      rw [List.flatMap_cons, List.flatMap_cons, ih (fun x hx => hL x (by simp [hx]))]
      congr 1
      unfold lsR
      exact List.map_congr_left fun a ha => by rw [h s (hL s (by simp)) a (List.mem_range.1 ha)]
  exact key _ fun s hs => List.mem_of_mem_take hs
/-- What Minimal walks is what is first reached. -/
theorem mnT_is {N M st : Nat} {Fi Nx : List Int} {al : Nat → Nat} {T K : List Nat} (hl : Nx.length = N * M) (hi : ∀ x ∈ Nx, 0 ≤ x ∧ x < (N : Int)) (hC : ClA Nx (inF Fi) N M al) (hst : st < N)
    (hT : Wk (fun s a => al (dl Nx M s a)) M (al st) T K (T.length * M)) (cT : Cv (fun s a => al (dl Nx M s a)) M T K (T.length * M)) (nT : T.Nodup) : mnT Fi Nx M st = T := by
  obtain ⟨R, J, w, v, d, r⟩ := walk_ex (φ := dl Nx M) (fun s a hs ha => (dl_spec hl hi hs ha).2.2) hst
  unfold mnT
  rw [rcP_of w v d, show R.map (alC Fi Nx M) = R.map al from List.map_congr_left fun q hq => cl_alC hC (r q hq)]
  exact fs_walk hl hi hC hst hT cT nT w v
theorem mnX_is {N M : Nat} {Fi Nx : List Int} {al : Nat → Nat} {T : List Nat} (hl : Nx.length = N * M) (hi : ∀ x ∈ Nx, 0 ≤ x ∧ x < (N : Int)) (hC : ClA Nx (inF Fi) N M al) (lt : ∀ q ∈ T, q < N) : mnX Nx M T (alC Fi Nx M) = mnX Nx M T al := by
  unfold mnX
  rw [lsN_congr (φ := fun s a => alC Fi Nx M (dl Nx M s a)) (ψ := fun s a => al (dl Nx M s a)) (fun s hs a ha => cl_alC hC (dl_spec hl hi (lt s hs) ha).2.2)]
/-- Minimal, whatever it is asked. -/
theorem minimal_uni (w : World) (N M st : Int) (aF aN : Option Addr) (lF cF lN cN : Nat) (Fi Nx : List Int) (hF : RdN w aF Fi) (hN : RdN w aN Nx) (hlF : Fi.length = lF) (hlN : Nx.length = lN) (bF : lF ≤ 4194304) (bN : lN ≤ 4194304) :
    Calls Try.prog 8 #[.agg #[.int .i64 N, .int .i64 M, .int .i64 st, .slice aF lF cF, .slice aN lN cN]] w (MnU w (mnN N M st Fi Nx) (mnM N M st Fi Nx) (mnFl N M st Fi Nx) (mnXl N M st Fi Nx) (clE N M st Fi Nx)) := by
  cases hv : vd N M st Fi Nx with
  | false =>
    have z := mn_bad hv
    rw [z.1, z.2.1, (cl_bad hv).1]
    refine (minimal_bad w N M st aF aN lF cF lN cN Fi Nx hF hN hlF hlN bF bN hv).mono ?_
    rintro e w' ⟨rfl, d⟩
    exact mnU_nil z.2.2.1 z.2.2.2 d
  | true =>
    obtain ⟨n, m, s, rfl, rfl, rfl, n1, n2, n3, n4, e1, i1, i2⟩ := vd_nat hv
    have z := mn_ok hv
    rw [z.1, z.2.1, z.2.2.1, z.2.2.2, (cl_ok hv).1]
    refine (minimal_ok w n m s aF aN lF cF lN cN Fi Nx hF hN hlF hlN bF bN hv).mono ?_
    rintro e w' ⟨vF, vN, T, K, al, rfl, HA⟩
    obtain ⟨a1, a2, a3, a4, a5, a6, a7, a8⟩ := HA.out.1
    have eT := mnT_is e1 i1 a1 n4 a2 a3 a4
    rw [eT, mnX_is e1 i1 a1 a5]
    obtain ⟨b1, c1, rfl⟩ := own_slice a6
    obtain ⟨b2, c2, rfl⟩ := own_slice a7
    exact ⟨b1, c1, b2, c2, rfl, hide ⟨a6, a7, a8, HA.out.2⟩⟩
end Go.Proofs.Ytocoghljmlpdeaa
