import Derived.Test.YtocoghljmlpdeaaQab
import Derived.Maps.AppendAt
import Derived.RangeFuncBox
import Derived.Laws.CopyOwn
namespace Go.Proofs.Ytocoghljmlpdeaa
open Go.RowKit Go.Maps
attribute [local go_sem] Oper.semAt_some
/-! ### Valid -/
/-- Is it a table that the document allows? -/
def vd (N M st : Int) (Fi Nx : List Int) : Bool := decide (1 ≤ N) && decide (N ≤ 4096) && inB 129 M && inB N st && decide ((Nx.length : Int) = N * M) && Nx.all (inB N) && Fi.all (inB N)
set_option maxRecDepth 100000 in
set_option maxHeartbeats 1000000 in
theorem valid_any (w : World) (N M st : Int) (aF aN : Option Addr) (lF cF lN cN : Nat) (Fi Nx : List Int) (hF : RdN w aF Fi) (hN : RdN w aN Nx) (hlF : Fi.length = lF) (hlN : Nx.length = lN) (bF : lF ≤ 4194304) (bN : lN ≤ 4194304) :
    Calls Try.prog 31 #[.agg #[.int .i64 N, .int .i64 M, .int .i64 st, .slice aF lF cF, .slice aN lN cN]] w fun e w' => e = .returned (.int .i64 (if vd N M st Fi Nx then 0 else 3)) ∧ Below w.heap.size w w' := by
  obtain ⟨W0, hW0⟩ : ∃ W0, w.alloc (.cells #[.int .i64 N, .int .i64 M, .int .i64 st, .slice aF lF cF, .slice aN lN cN] 24) = W0 := ⟨_, rfl⟩
  have d0 : Below w.heap.size w W0 := by rw [← hW0]; exact (Below.refl _ _).alloc (Nat.le_refl _) _
  have B0 : W0.heap[w.heap.size]? = some (.cells #[.int .i64 N, .int .i64 M, .int .i64 st, .slice aF lF cF, .slice aN lN cN] 24 (0, 0)) := by rw [← hW0]; exact World.alloc_heap_new _ _
  have k0 : W0.cell? ⟨w.heap.size, 0, none⟩ = some (.int .i64 N) := cell_of B0 rfl
  have k1 : W0.cell? ⟨w.heap.size, 1, none⟩ = some (.int .i64 M) := cell_of B0 rfl
  have k2 : W0.cell? ⟨w.heap.size, 2, none⟩ = some (.int .i64 st) := cell_of B0 rfl
  have k3 : W0.cell? ⟨w.heap.size, 3, none⟩ = some (.slice aF lF cF) := cell_of B0 rfl
  have k4 : W0.cell? ⟨w.heap.size, 4, none⟩ = some (.slice aN lN cN) := cell_of B0 rfl
  have TM := within_any M 129 W0
  have TS := within_any st N W0
  have HD := hide d0
  have TN : Hid (Calls Try.prog 37 #[.slice aN lN cN, .int .i64 N] W0 fun e w' => e = .returned (.bool (Nx.all (inB N))) ∧ w' = W0) := hide (by subst hlN; exact allWithin_any aN cN Nx N _ (hide (hN.on d0)) bN)
  have TF : Hid (Calls Try.prog 37 #[.slice aF lF cF, .int .i64 N] W0 fun e w' => e = .returned (.bool (Fi.all (inB N))) ∧ w' = W0) := hide (by subst hlF; exact allWithin_any aF cF Fi N _ (hide (hF.on d0)) bF)
  have HV : Hid (vd N M st Fi Nx = (decide (1 ≤ N) && decide (N ≤ 4096) && inB 129 M && inB N st && decide ((lN : Int) = N * M) && Nx.all (inB N) && Fi.all (inB N))) := hide (by subst hlN; rfl)
  generalize vd N M st Fi Nx = vv at *
  generalize Nx.all (inB N) = bNx at *
  generalize Fi.all (inB N) = bFi at *
  clear d0 B0 hF hN hlF hlN
  by_cases a1 : N < 1
  · have : vv = false := by rw [HV.out]; simp; omega
    subst this
    clear TM TS
    go_enter Try.func31, Try.ntmps31
    go_wp2
    go_ret
    exact ⟨rfl, HD.out⟩
  by_cases a2 : 4096 < N
  · have : vv = false := by rw [HV.out]; simp; omega
    subst this
    clear TM TS
    go_enter Try.func31, Try.ntmps31
    go_wp2
    go_ret
    exact ⟨rfl, HD.out⟩
  have a3 : 1 ≤ N := by omega
  have a4 : N ≤ 4096 := by omega
  cases hm : inB 129 M
  · have : vv = false := by rw [HV.out, hm]; simp
    subst this
    rw [hm] at TM
    clear TS hm
    go_enter Try.func31, Try.ntmps31
    go_wp2_with (go_at_call 52; refine TM.mono ?_; rintro e w2 ⟨rfl, rfl⟩)
    go_ret
    exact ⟨rfl, HD.out⟩
  cases hs : inB N st
  · have : vv = false := by rw [HV.out, hs]; simp
    subst this
    rw [hm] at TM
    rw [hs] at TS
    clear hm hs
    go_enter Try.func31, Try.ntmps31
    go_wp2_with (first | (go_at_call_of 52 M; refine TM.mono ?_; rintro e w2 ⟨rfl, rfl⟩) | (go_at_call_of 52 st; refine TS.mono ?_; rintro e w2 ⟨rfl, rfl⟩))
    go_ret
    exact ⟨rfl, HD.out⟩
  have hM := inB_iff.1 hm
  have hw : IntKind.i64.wrap (N * M) = N * M := by
    have h1 : 0 ≤ N * M := Int.mul_nonneg (by omega) hM.1
    have h2 : N * M ≤ 4096 * 129 := Int.mul_le_mul a4 (by omega) hM.1 (by omega)
    rw [IntKind.wrap_i64]; omega
  rw [hm] at TM HV
  rw [hs] at TS HV
  clear hm hs
  have e1 : decide (1 ≤ N) = true := by simpa using a3
  have e2 : decide (N ≤ 4096) = true := by simpa using a4
  rw [e1, e2] at HV
  clear e1 e2 hM
  by_cases hl : (lN : Int) = N * M
  · have e3 : decide ((lN : Int) = N * M) = true := by simpa using hl
    rw [e3] at HV
    clear e3
    rw [← hl] at hw
    have TT : Hid (vv = (bNx && bFi)) := hide (by rw [HV.out]; simp)
    clear HV
    cases bNx
    · have : vv = false := by rw [TT.out]; simp
      subst this
      clear TT TF
      go_enter Try.func31, Try.ntmps31
      go_wp2_with (first | (go_at_call_of 52 M; refine TM.mono ?_; rintro e w2 ⟨rfl, rfl⟩) | (go_at_call_of 52 st; refine TS.mono ?_; rintro e w2 ⟨rfl, rfl⟩) | (go_at_call_of 37 lN; refine TN.out.mono ?_; rintro e w2 ⟨rfl, rfl⟩))
      go_ret
      exact ⟨rfl, HD.out⟩
    · have : vv = bFi := by rw [TT.out]; simp
      subst this
      clear TT
      cases vv
      all_goals
        go_enter Try.func31, Try.ntmps31
        go_wp2_with (first | (go_at_call_of 52 M; refine TM.mono ?_; rintro e w2 ⟨rfl, rfl⟩) | (go_at_call_of 52 st; refine TS.mono ?_; rintro e w2 ⟨rfl, rfl⟩) | (go_at_call_of 37 lN; refine TN.out.mono ?_; rintro e w2 ⟨rfl, rfl⟩) | (go_at_call_of 37 lF; refine TF.out.mono ?_; rintro e w2 ⟨rfl, rfl⟩))
        go_ret
        exact ⟨rfl, HD.out⟩
  · have : vv = false := by rw [HV.out]; simp [hl]
    subst this
    clear HV TN TF
    go_enter Try.func31, Try.ntmps31
    go_wp2_with (first | (go_at_call_of 52 M; refine TM.mono ?_; rintro e w2 ⟨rfl, rfl⟩) | (go_at_call_of 52 st; refine TS.mono ?_; rintro e w2 ⟨rfl, rfl⟩))
    go_ret
    exact ⟨rfl, HD.out⟩
/-! ### step -/
/-- Where a word leads. -/
def dls (Nx : List Int) (M s : Nat) (L : List Nat) : Nat := L.foldl (dl Nx M) s
theorem dls_lt {N M : Nat} {Nx : List Int} (hl : Nx.length = N * M) (hi : ∀ x ∈ Nx, 0 ≤ x ∧ x < (N : Int)) : ∀ (L : List Nat) (s : Nat), s < N → (∀ a ∈ L, a < M) → dls Nx M s L < N
  | [], _, hs, _ => hs
  | a :: L, s, hs, h => dls_lt hl hi L _ (dl_spec hl hi hs (h a (by simp))).2.2 (fun b hb => h b (by simp [hb]))
theorem dls_app (Nx : List Int) (M s : Nat) (L K : List Nat) : dls Nx M s (L ++ K) = dls Nx M (dls Nx M s L) K := List.foldl_append ..
/-! ### Pairs joined -/
/-- Who stands for whom, when these pairs have been met. -/
def rtOf (T : List (Nat × Nat)) : Nat → Nat := T.foldl (fun r x => jn r x.1 x.2) (fun s => s)
theorem rtOf_snoc (T : List (Nat × Nat)) (x : Nat × Nat) : rtOf (T ++ [x]) = jn (rtOf T) x.1 x.2 := by simp [rtOf]
theorem jn_at (rt : Nat → Nat) (p q : Nat) : jn rt p q p = jn rt p q q := by
  unfold jn
  rw [if_pos rfl]
  split <;> rfl
/-- How many stand for themselves. -/
def rc (N : Nat) (rt : Nat → Nat) : Nat := ((List.range N).filter (fun c => decide (rt c = c))).length
theorem filter_less {p p' : Nat → Bool} : ∀ (l : List Nat), (∀ c ∈ l, p' c = true → p c = true) → (l.filter p').length ≤ (l.filter p).length ∧ ((∃ c ∈ l, p c = true ∧ p' c = false) → (l.filter p').length < (l.filter p).length)
  | [], _ => ⟨Nat.le_refl _, fun ⟨_, h, _⟩ => by cases h⟩
  | a :: l, h => by
    obtain ⟨h1, h2⟩ := filter_less l (fun c hc => h c (by simp [hc]))
    have ha := h a (by simp)
    simp only [List.filter_cons]
    cases hp' : p' a with
    | true =>
      rw [ha hp']
      simp only [if_true, List.length_cons]
      refine ⟨by omega, fun ⟨c, hc, q1, q2⟩ => ?_⟩
      rcases List.mem_cons.1 hc with e | e
      · subst e
        rw [hp'] at q2
        cases q2
      · have := h2 ⟨c, e, q1, q2⟩
        omega
    | false =>
      cases hp : p a with
      | true =>
        simp only [if_true, Bool.false_eq_true, if_false, List.length_cons]
        exact ⟨by omega, fun _ => by omega⟩
      | false =>
        simp only [Bool.false_eq_true, if_false]
        refine ⟨h1, fun ⟨c, hc, q1, q2⟩ => ?_⟩
        rcases List.mem_cons.1 hc with e | e
        · subst e
          rw [hp] at q1
          cases q1
        · exact h2 ⟨c, e, q1, q2⟩
theorem rc_join {N : Nat} {rt : Nat → Nat} {p q : Nat} (hl : rt p < N) (hi : rt (rt p) = rt p) (hq : rt (rt q) = rt q) (ne : rt p ≠ rt q) : rc N (jn rt p q) < rc N rt := by
  unfold rc
  refine (filter_less (List.range N) (fun c _ hc => ?_)).2 ⟨rt p, List.mem_range.2 hl, by simpa using hi, ?_⟩
  · simp only [decide_eq_true_eq] at hc ⊢
    unfold jn at hc
    split at hc
    · rename_i e
      rw [← hc, hq]
    · exact hc
  · simp only [decide_eq_false_iff_not]
    unfold jn
    rw [hi, if_pos rfl]
    exact fun e => ne e.symm
theorem rc_id (N : Nat) : rc N (fun s => s) = N := by
  unfold rc
  rw [List.filter_eq_self.2 (fun a _ => by simp)]
  simp
/-- Each follower of a pair was joined, at the latest when it was looked at. -/
def CvP (φ : Nat × Nat → Nat → Nat × Nat) (M : Nat) (T : List (Nat × Nat)) (K : List Nat) (c : Nat) : Prop := ∀ e, e < c → ∀ x, T[e / M]? = some x → ∃ i, i ≤ T.length ∧ rtOf (T.take i) (φ x (e % M)).1 = rtOf (T.take i) (φ x (e % M)).2 ∧ ∀ j, j + 1 < i → K.getD j 0 ≤ e
theorem CvP.nil (φ : Nat × Nat → Nat → Nat × Nat) (M : Nat) (T : List (Nat × Nat)) (K : List Nat) : CvP φ M T K 0 := fun e he => by omega
theorem CvP.old {φ : Nat × Nat → Nat → Nat × Nat} {M : Nat} {first x : Nat × Nat} {T : List (Nat × Nat)} {K : List Nat} {c : Nat} (h : CvP φ M T K c) (hw : Wk φ M first T K c) (hx : T[c / M]? = some x) (hm : rtOf T (φ x (c % M)).1 = rtOf T (φ x (c % M)).2) : CvP φ M T K (c + 1) := fun e he y hy => by
  by_cases q : e < c
  · exact h e q y hy
  · obtain rfl : e = c := by omega
    rw [hx] at hy
    cases hy
    refine ⟨T.length, Nat.le_refl _, by rw [List.take_length]; exact hm, fun j hj => ?_⟩
    have := hw.l
    exact Nat.le_of_lt (hw.s j (by omega)).1
theorem CvP.put {φ : Nat × Nat → Nat → Nat × Nat} {M : Nat} {first x : Nat × Nat} {T : List (Nat × Nat)} {K : List Nat} {c : Nat} (h : CvP φ M T K c) (hw : Wk φ M first T K c) (hx : T[c / M]? = some x) : CvP φ M (T ++ [φ x (c % M)]) (K ++ [c]) (c + 1) := fun e he y hy => by
  have hl := hw.l
  have hcl : c / M < T.length := by
    rcases Nat.lt_or_ge (c / M) T.length with q | q
    · exact q
    · rw [List.getElem?_eq_none q] at hx; cases hx
  have hel : e / M ≤ c / M := Nat.div_le_div_right (by omega)
  rw [List.getElem?_append_left (by omega)] at hy
  by_cases q : e < c
  · obtain ⟨i, h1, h2, h3⟩ := h e q y hy
    refine ⟨i, by rw [List.length_append]; omega, by rw [List.take_append_of_le_length h1]; exact h2, fun j hj => ?_⟩
    rw [getD_snoc_lt (by omega)]
    exact h3 j hj
  · obtain rfl : e = c := by omega
    rw [hx] at hy
    cases hy
    refine ⟨(T ++ [φ x (e % M)]).length, Nat.le_refl _, by rw [List.take_length, rtOf_snoc]; exact jn_at _ _ _, fun j hj => ?_⟩
    rw [List.length_append, List.length_singleton] at hj
    by_cases e2 : j < K.length
    · rw [getD_snoc_lt e2]
      exact Nat.le_of_lt (hw.s j e2).1
    · obtain rfl : j = K.length := by omega
      rw [getD_snoc_eq]
      omega
/-- What holds of all pairs met, and is like equality, holds of all that stand for one another. -/
theorem rtOf_ind {P : Nat → Nat → Prop} (hr : ∀ a, P a a) (hs : ∀ a b, P a b → P b a) (ht : ∀ a b c, P a b → P b c → P a c) : ∀ (n : Nat) (T : List (Nat × Nat)), T.length = n → (∀ x ∈ T, P x.1 x.2) → ∀ a b, rtOf T a = rtOf T b → P a b := by
  intro n
  induction n with
  | zero =>
    intro T hT _ a b e
    obtain rfl := List.eq_nil_of_length_eq_zero hT
    have : a = b := e
    subst this
    exact hr a
  | succ n ih =>
    intro T hT h a b e
    obtain ⟨T, x, rfl⟩ : ∃ R x, T = R ++ [x] := by
      rcases List.eq_nil_or_concat T with e | ⟨R, x, e⟩
      · subst e; simp at hT
      · exact ⟨R, x, by rw [e, List.concat_eq_append]⟩
    have ih := ih T (by simpa using hT) (fun y hy => h y (by simp [hy]))
    have hx := h x (by simp)
    rw [rtOf_snoc] at e
    unfold jn at e
    split at e
    · rename_i e1
      split at e
      · rename_i e2
        exact ih a b (e1.trans e2.symm)
      · exact ht _ _ _ (ht _ _ _ (ih _ _ e1) hx) (ih _ _ e)
    · split at e
      · rename_i e2
        exact ht _ _ _ (ih _ _ e) (hs _ _ (ht _ _ _ (ih _ _ e2) hx))
      · exact ih _ _ e
/-- Not told apart: no word tells two states that stand for one another. -/
theorem bis {M : Nat} {Nx : List Int} {fin : Nat → Bool} {T : List (Nat × Nat)} {K : List Nat} (hf : ∀ x ∈ T, fin x.1 = fin x.2) (hc : CvP (fun x a => (dl Nx M x.1 a, dl Nx M x.2 a)) M T K (T.length * M))
    (sub : ∀ i a b, i ≤ T.length → rtOf (T.take i) a = rtOf (T.take i) b → rtOf T a = rtOf T b) : ∀ (u : List Nat) (a b : Nat), (∀ s ∈ u, s < M) → rtOf T a = rtOf T b → fin (dls Nx M a u) = fin (dls Nx M b u) := by
  have key : ∀ a b, rtOf T a = rtOf T b → fin a = fin b ∧ ∀ s, s < M → rtOf T (dl Nx M a s) = rtOf T (dl Nx M b s) := by
    refine rtOf_ind (P := fun a b => fin a = fin b ∧ ∀ s, s < M → rtOf T (dl Nx M a s) = rtOf T (dl Nx M b s)) (fun a => ⟨rfl, fun _ _ => rfl⟩) (fun a b h => ⟨h.1.symm, fun s hs => (h.2 s hs).symm⟩) (fun a b c h k => ⟨h.1.trans k.1, fun s hs => (h.2 s hs).trans (k.2 s hs)⟩) _ T rfl (fun x hx => ⟨hf x hx, fun s hs => ?_⟩)
    obtain ⟨n, hn, e⟩ := List.getElem_of_mem hx
    have hM : 0 < M := by omega
    have d1 : (n * M + s) / M = n := by rw [Nat.mul_comm, Nat.mul_add_div hM, Nat.div_eq_of_lt hs]; omega
    have d2 : (n * M + s) % M = s := by rw [Nat.mul_comm, Nat.mul_add_mod, Nat.mod_eq_of_lt hs]
    have hlt : n * M + s < T.length * M := by
      have : (n + 1) * M ≤ T.length * M := Nat.mul_le_mul_right M hn
      rw [Nat.succ_mul] at this
      omega
    obtain ⟨i, h1, h2, _⟩ := hc (n * M + s) hlt x (by rw [d1, List.getElem?_eq_getElem hn, e])
    rw [d2] at h2
    exact sub i _ _ h1 h2
  intro u
  induction u with
  | nil => exact fun a b _ h => (key a b h).1
  | cons s u ih => exact fun a b hu h => ih _ _ (fun t ht => hu t (by simp [ht])) ((key a b h).2 s (hu s (by simp)))
theorem jn_keep {rt : Nat → Nat} {a b : Nat} (h : rt a = rt b) (p q : Nat) : jn rt p q a = jn rt p q b := by
  unfold jn
  rw [h]
theorem rtOf_sub (T : List (Nat × Nat)) : ∀ (i a b : Nat), i ≤ T.length → rtOf (T.take i) a = rtOf (T.take i) b → rtOf T a = rtOf T b := by
  intro i a b hi h
  have : ∀ (S : List (Nat × Nat)) (R : List (Nat × Nat)), rtOf R a = rtOf R b → rtOf (R ++ S) a = rtOf (R ++ S) b := by
    intro S
    induction S with
    | nil => intro R hR; simpa using hR
    | cons x S ih =>
      intro R hR
      have := ih (R ++ [x]) (by rw [rtOf_snoc]; exact jn_keep hR _ _)
      simpa using this
  have := this (T.drop i) (T.take i) h
  rwa [List.take_append_drop] at this
/-! ### The walk over pairs -/
theorem four_al (w : World) (A Z X Y : Array Value) (t u v x : TypeId) : Below w.heap.size w ((((w.alloc (.cells A t)).alloc (.cells Z u)).alloc (.cells X v)).alloc (.cells Y x)) ∧ ((((w.alloc (.cells A t)).alloc (.cells Z u)).alloc (.cells X v)).alloc (.cells Y x)).heap[w.heap.size]? = some (.cells A t (0, 0)) ∧ ((((w.alloc (.cells A t)).alloc (.cells Z u)).alloc (.cells X v)).alloc (.cells Y x)).heap[w.heap.size + 1]? = some (.cells Z u (0, 0)) ∧ ((((w.alloc (.cells A t)).alloc (.cells Z u)).alloc (.cells X v)).alloc (.cells Y x)).heap[w.heap.size + 2]? = some (.cells X v (0, 0)) ∧ ((((w.alloc (.cells A t)).alloc (.cells Z u)).alloc (.cells X v)).alloc (.cells Y x)).heap[w.heap.size + 3]? = some (.cells Y x (0, 0)) := by
  obtain ⟨d, h1, h2, h3⟩ := three_al w A Z X t u v
  have d4 := (Below.refl ((((w.alloc (.cells A t)).alloc (.cells Z u)).alloc (.cells X v))).heap.size (((w.alloc (.cells A t)).alloc (.cells Z u)).alloc (.cells X v))).alloc (Nat.le_refl _) (.cells Y x)
  refine ⟨d.trans (d4.mono d.size), blk_on h1 d4, blk_on h2 d4, blk_on h3 d4, ?_⟩
  have := World.alloc_heap_new (((w.alloc (.cells A t)).alloc (.cells Z u)).alloc (.cells X v)) (.cells Y x)
  simpa using this
/-- A pair that tells the first one's states apart was met last. -/
def FndP (Nx : List Int) (fin : Nat → Bool) (N M p q : Nat) (K : List Nat) : Prop :=
  ∃ (R : List (Nat × Nat)) (x : Nat × Nat), fin x.1 ≠ fin x.2 ∧ (∀ y ∈ R, fin y.1 = fin y.2) ∧ R.length + rc N (rtOf R) ≤ N ∧ (x.1 < N ∧ x.2 < N) ∧ (∀ y ∈ R, y.1 < N ∧ y.2 < N) ∧
    ((R = [] ∧ K = [] ∧ x = (p, q)) ∨ ∃ K' e, 0 < M ∧ K = K' ++ [e] ∧ Wk (fun x a => (dl Nx M x.1 a, dl Nx M x.2 a)) M (p, q) R K' e ∧ CvP (fun x a => (dl Nx M x.1 a, dl Nx M x.2 a)) M R K' e ∧ ∃ y, R[e / M]? = some y ∧ x = (fun x a => (dl Nx M x.1 a, dl Nx M x.2 a)) y (e % M))
def RunE (B : Nat) (w : World) (Nx : List Int) (fin : Nat → Bool) (N M p q : Nat) : Ending → World → Prop := fun e w' => ∃ vS found, e = .returned (.tuple #[vS, .bool found]) ∧ Hid (Below B w w' ∧ (found = true → ∃ K, OwS w' B vS (stepsOf M K) ∧ FndP Nx fin N M p q K) ∧ (found = false → ∀ u : List Nat, (∀ s ∈ u, s < M) → fin (dls Nx M p u) = fin (dls Nx M q u)))
set_option maxRecDepth 100000 in
set_option maxHeartbeats 4000000 in
theorem runP_any (B : Nat) (w : World) (N M gf bt bc g p q lN cN : Nat) (aN : Option Addr) (Nx : List Int) (fin : Nat → Bool) (hch : ChS B w M N gf aN lN cN bt bc g (fun s => s)) (hTB : ∀ W, Below B w W → TbR W M N gf aN fin Nx) (hlN : lN = N * M) (hp : p < N) (hq : q < N) (hNM : N * M ≤ 4194304) (hM : M ≤ 4194304) (hN : N ≤ 4194304) (hB : B ≤ w.heap.size) :
    Calls Try.prog 66 #[.agg #[.int .i64 (M : Int), .func (.func 63) #[] #[.pointer (some ⟨bt, 0, none⟩)], .func (.func 64) #[] #[.pointer (some ⟨bt, 0, none⟩), .pointer (some ⟨bc, 0, none⟩)]], .agg #[.int .i64 (p : Int), .int .i64 (q : Int)]] w (RunE B w Nx fin N M p q) := by
  obtain ⟨W0, hW0⟩ : ∃ W0, (((w.alloc (.cells #[.int .i64 (M : Int), .func (.func 63) #[] #[.pointer (some ⟨bt, 0, none⟩)], .func (.func 64) #[] #[.pointer (some ⟨bt, 0, none⟩), .pointer (some ⟨bc, 0, none⟩)]] 100)).alloc (.cells #[.int .i64 (p : Int), .int .i64 (q : Int)] 70)).alloc (.cells #[.slice none 0 0] 112)).alloc (.cells #[.slice none 0 0] 53) = W0 := ⟨_, rfl⟩
  have H4 := hide (four_al w #[.int .i64 (M : Int), .func (.func 63) #[] #[.pointer (some ⟨bt, 0, none⟩)], .func (.func 64) #[] #[.pointer (some ⟨bt, 0, none⟩), .pointer (some ⟨bc, 0, none⟩)]] #[.int .i64 (p : Int), .int .i64 (q : Int)] #[.slice none 0 0] #[.slice none 0 0] 100 70 112 53)
  rw [hW0] at H4
  have I0 : RuP B W0 N M w.heap.size (w.heap.size + 2) (w.heap.size + 3) bt bc g gf aN lN cN (.slice none 0 0) (.slice none 0 0) [] [] (fun s => s) := ⟨hch.on H4.out.1, H4.out.2.1, H4.out.2.2.2.1, H4.out.2.2.2.2, owP_nil _ _, owS_nil _ _, hB, by omega, by omega, rfl⟩
  have p7 : W0.cell? ⟨w.heap.size + 1, 0, none⟩ = some (.int .i64 (p : Int)) := cell_of H4.out.2.2.1 rfl
  have p8 : W0.cell? ⟨w.heap.size + 1, 1, none⟩ = some (.int .i64 (q : Int)) := cell_of H4.out.2.2.1 rfl
  have HI := hide I0
  have HT := hide hTB
  have hTW := hTB W0 (H4.out.1.mono hB)
  have hBW := Nat.le_trans hB H4.out.1.size
  have HL := hide (And.intro hlN hNM)
  clear hch hTB I0 hlN hNM
  obtain ⟨wb, hwb⟩ : ∃ b, w.heap.size = b := ⟨_, rfl⟩
  rw [hwb] at p7 p8 HI
  have hBwb : B ≤ wb := by omega
  by_cases hf : fin p = fin q
  · by_cases hpq : p = q
    · have TE := endsP_old B W0 N M wb (wb + 2) (wb + 3) bt bc g gf aN lN cN _ _ _ _ _ HI.out p q (-1) 0 fin hTW.fi hp hq hf hpq hN hBW
      have HPQ := hide hpq
      clear hf hpq hTW hBW
      go_enter Try.func66, Try.ntmps66
      go_upto_region 6 with (go_at_call 74; refine TE.mono ?_; rintro e w1 ⟨rfl, vM1, vS1, H1⟩)
      obtain ⟨aM, kM, eM⟩ := own_slice H1.out.1.rM
      have c2 := cell_of H1.out.1.bm (j := 0) (v := vM1) rfl
      rw [eM] at c2
      have c2' : w1.cell? ⟨wb + 2, 0, none⟩ = some (.slice aM 0 kM) := c2
      have c3 : w1.cell? ⟨wb + 3, 0, none⟩ = some vS1 := cell_of H1.out.1.bs rfl
      clear c2 TE p7 p8
      go_wp2_with fail
      go_loopw [9] (fun iv wr => iv = .int .i64 0 ∧ wr = w1) (fun iv _ => 0)
      case atStart => exact ⟨rfl, rfl⟩
      case round =>
        obtain ⟨rfl, hw⟩ := hrel
        obtain rfl := hw
        go_wp2_with fail
        go_ret2
        exact ⟨vS1, false, rfl, hide ⟨(H4.out.1.mono hB).trans H1.out.2, (fun e => by cases e), (fun _ u _ => by rw [HPQ.out])⟩⟩
    · have TE := endsP_new B W0 N M wb (wb + 2) (wb + 3) bt bc g gf aN lN cN _ _ _ _ _ HI.out p q (-1) 0 fin hTW.fi hp hq (Or.inr hpq) hN hBW (by simp)
      rw [decide_eq_false (fun x => x hf), if_neg (fun x => x hf)] at TE
      have HF := hide (And.intro hf hpq)
      clear hf hpq hTW hBW
      go_enter Try.func66, Try.ntmps66
      go_upto_region 6 with (go_at_call 74; refine TE.mono ?_; rintro e w1 ⟨rfl, vM1, vS1, H1⟩)
      have D0 : Below B w W0 := H4.out.1.mono hB
      have J0 : Hid (RuP B w1 N M wb (wb + 2) (wb + 3) bt bc g gf aN lN cN vM1 vS1 [(p, q)] (stepsOf M []) (rtOf [(p, q)]) ∧ Wk (fun x a => (dl Nx M x.1 a, dl Nx M x.2 a)) M (p, q) [(p, q)] [] (0 * M) ∧ CvP (fun x a => (dl Nx M x.1 a, dl Nx M x.2 a)) M [(p, q)] [] (0 * M) ∧ (∀ x ∈ [(p, q)], (x.1 < N ∧ x.2 < N) ∧ fin x.1 = fin x.2) ∧ [(p, q)].length + rc N (rtOf [(p, q)]) ≤ N ∧ Below B w w1) := hide ⟨H1.out.1, by rw [Nat.zero_mul]; exact Wk.one _ _ _, by rw [Nat.zero_mul]; exact CvP.nil _ _ _ _, fun x hx => by
        rw [List.mem_singleton] at hx
        subst hx
        exact ⟨⟨hp, hq⟩, HF.out.1⟩, by
        have := rc_join (N := N) (rt := fun s => s) (p := p) (q := q) hp rfl rfl HF.out.2
        rw [rc_id] at this
        show 1 + rc N (jn (fun s => s) p q) ≤ N
        omega, D0.trans H1.out.2⟩
      clear TE H1 HI hW0 D0 p7 p8
      go_wp2_with fail
      go_loopw [9] (fun iv wr => ∃ n : Nat, iv = .int .i64 (n : Int) ∧ ∃ vM vS T K, n ≤ T.length ∧ Hid (RuP B wr N M wb (wb + 2) (wb + 3) bt bc g gf aN lN cN vM vS T (stepsOf M K) (rtOf T) ∧ Wk (fun x a => (dl Nx M x.1 a, dl Nx M x.2 a)) M (p, q) T K (n * M) ∧ CvP (fun x a => (dl Nx M x.1 a, dl Nx M x.2 a)) M T K (n * M) ∧ (∀ x ∈ T, (x.1 < N ∧ x.2 < N) ∧ fin x.1 = fin x.2) ∧ T.length + rc N (rtOf T) ≤ N ∧ Below B w wr)) (fun iv _ => N - (intOf iv).toNat)
      case atStart => exact ⟨0, rfl, vM1, vS1, [(p, q)], [], Nat.zero_le _, J0⟩
      case round =>
        obtain ⟨n, rfl, vM, vS, T, K, hn, HY⟩ := hrel
        obtain ⟨t0, k0, rfl⟩ := own_slice HY.out.1.rM
        have c3 : wr.cell? ⟨wb + 2, 0, none⟩ = some (.slice t0 T.length k0) := cell_of HY.out.1.bm rfl
        have hTN := HY.out.2.2.2.2.1
        by_cases hlt : n < T.length
        · have l0 : (n : Int) < (T.length : Int) := by omega
          have c0 : wr.cell? ⟨wb, 0, none⟩ = some (.int .i64 (M : Int)) := cell_of HY.out.1.bw rfl
          obtain ⟨L, hL⟩ : ∃ L, T.length = L := ⟨_, rfl⟩
          have J1 : Hid (n < T.length ∧ RuP B wr N M wb (wb + 2) (wb + 3) bt bc g gf aN lN cN (.slice t0 T.length k0) vS T (stepsOf M K) (rtOf T) ∧ Wk (fun x a => (dl Nx M x.1 a, dl Nx M x.2 a)) M (p, q) T K (n * M + 0) ∧ CvP (fun x a => (dl Nx M x.1 a, dl Nx M x.2 a)) M T K (n * M + 0) ∧ (∀ x ∈ T, (x.1 < N ∧ x.2 < N) ∧ fin x.1 = fin x.2) ∧ T.length + rc N (rtOf T) ≤ N ∧ Below B w wr) := hide ⟨hlt, HY.out⟩
          have hnN : n < N := by omega
          rw [hL] at c3 l0
          rename World => wo
          clear HY J0 hn hlt
          go_wp2_with fail
          clear c3 c0 hL hTN
          go_loopw [25] (fun iv wx => ∃ a : Nat, a ≤ M ∧ iv = .int .i64 (a : Int) ∧ ∃ vM vS T K, Hid (n < T.length ∧ RuP B wx N M wb (wb + 2) (wb + 3) bt bc g gf aN lN cN vM vS T (stepsOf M K) (rtOf T) ∧ Wk (fun x a => (dl Nx M x.1 a, dl Nx M x.2 a)) M (p, q) T K (n * M + a) ∧ CvP (fun x a => (dl Nx M x.1 a, dl Nx M x.2 a)) M T K (n * M + a) ∧ (∀ x ∈ T, (x.1 < N ∧ x.2 < N) ∧ fin x.1 = fin x.2) ∧ T.length + rc N (rtOf T) ≤ N ∧ Below B w wx)) (fun iv _ => M - (intOf iv).toNat)
          case atStart => exact ⟨0, Nat.zero_le _, rfl, _, vS, T, K, J1⟩
          case round =>
            clear J1
            obtain ⟨a, ha, rfl, vM, vS, T, K, HZ⟩ := hrel
            by_cases hla : a < M
            · have l1 : (a : Int) < (M : Int) := by omega
              obtain ⟨hnT, hR, hK, hC, hA, hTN, hD⟩ := HZ.out
              obtain ⟨t1, k1, rfl⟩ := own_slice hR.rM
              obtain ⟨x, hx⟩ : ∃ x, T[n] = x := ⟨_, rfl⟩
              have hxN := hA x (by rw [← hx]; exact List.getElem_mem hnT)
              obtain ⟨em, hrd⟩ := owP_rd hR.rM
              obtain ⟨gM, oM, et, r1, r2⟩ := hrd n hnT
              subst et
              rw [hx] at r1 r2
              have d1 : (n * M + a) / M = n := by rw [Nat.mul_comm, Nat.mul_add_div (by omega), Nat.div_eq_of_lt hla]; omega
              have d2 : (n * M + a) % M = a := by rw [Nat.mul_comm, Nat.mul_add_mod, Nat.mod_eq_of_lt hla]
              have hxx : T[(n * M + a) / M]? = some x := by rw [d1, List.getElem?_eq_getElem hnT, hx]
              have hBx := hD.size
              have c1 : wr.cell? ⟨wb, 1, none⟩ = some (.func (.func 63) #[] #[.pointer (some ⟨bt, 0, none⟩)]) := cell_of hR.bw rfl
              have c3 : wr.cell? ⟨wb + 2, 0, none⟩ = some (.slice (some ⟨gM, oM, none⟩) T.length k1) := cell_of hR.bm rfl
              obtain ⟨L, hL⟩ : ∃ L, T.length = L := ⟨_, rfl⟩
              have n0 : (0 : Int) ≤ (n : Int) := by omega
              have n1 : (n : Int) < (L : Int) := by omega
              rw [hL] at c3
              obtain ⟨x1, x2⟩ := x
              have HX := hide (And.intro hnT (And.intro hK (And.intro hC (And.intro hA (And.intro hTN (And.intro hD (And.intro hxx (And.intro d1 d2))))))))
              have SK : Hid (∀ W, Below wr.heap.size wr W → RuP B W N M wb (wb + 2) (wb + 3) bt bc g gf aN lN cN (.slice (some ⟨gM, oM, none⟩) T.length k1) vS T (stepsOf M K) (rtOf T)) := hide (fun W d => hR.on d)
              have T1 : Hid (∀ W, Below wr.heap.size wr W → Calls Try.prog 63 #[.agg #[.int .i64 (x1 : Int), .int .i64 (x2 : Int)], .int .i64 (a : Int), .pointer (some ⟨bt, 0, none⟩)] W fun e w' => e = .returned (.agg #[.int .i64 ((dl Nx M x1 a : Nat) : Int), .int .i64 ((dl Nx M x2 a : Nat) : Int)]) ∧ Below W.heap.size W w') := hide (fun W d => pairF_any W M N gf aN lN cN bt x1 x2 a fin Nx (blk_on hR.ch.ht d) (HT.out W (hD.trans (d.mono (by omega)))) HL.out.1 hxN.1.1 hxN.1.2 hla HL.out.2 hM hN)
              have HYN : Hid (dl Nx M x1 a < N ∧ dl Nx M x2 a < N) := hide (by
                have ht := HT.out wr hD
                exact ⟨(dl_spec ht.len ht.inr hxN.1.1 hla).2.2, (dl_spec ht.len ht.inr hxN.1.2 hla).2.2⟩)
              clear hnT hK hC hA hTN hxx d1 d2 hR HZ hL em hrd hx hxN
              obtain ⟨y1, hy1⟩ : ∃ y, dl Nx M x1 a = y := ⟨_, rfl⟩
              obtain ⟨y2, hy2⟩ : ∃ y, dl Nx M x2 a = y := ⟨_, rfl⟩
              rw [hy1, hy2] at T1 HYN
              have HYX := hide (And.intro hy1 hy2)
              clear hy1 hy2
              have hBw : B ≤ wr.heap.size := by omega
              have g1 := fun d os => gw_cell c1 d os
              have g2 := fun d os => gw_cell c3 d os
              have g3 := fun d os => gw_cell r1 d os
              have g4 := fun d os => gw_cell r2 d os
              go_upto_region 12 with fail
              go_cut [40] from 27 to 40 (fun p40 W => (p40 = .bool false ∧ ∃ vM vS T K, Hid (n < T.length ∧ RuP B W N M wb (wb + 2) (wb + 3) bt bc g gf aN lN cN vM vS T (stepsOf M K) (rtOf T) ∧ Wk (fun x a => (dl Nx M x.1 a, dl Nx M x.2 a)) M (p, q) T K (n * M + (a + 1)) ∧ CvP (fun x a => (dl Nx M x.1 a, dl Nx M x.2 a)) M T K (n * M + (a + 1)) ∧ (∀ x ∈ T, (x.1 < N ∧ x.2 < N) ∧ fin x.1 = fin x.2) ∧ T.length + rc N (rtOf T) ≤ N ∧ Below B w W)) ∨ (p40 = .bool true ∧ ∃ vS K, Hid (W.heap[wb + 3]? = some (.cells #[vS] 53 (0, 0)) ∧ OwS W B vS (stepsOf M K) ∧ FndP Nx fin N M p q K ∧ Below B w W)))
              case first =>
                refine wp_region_phg 12 #[true, true, true, true, true, true, true, true, true, true, true, true, false] (by kernel_rfl) ?_
                simp only [List.take_succ_cons, List.take_zero, List.drop_succ_cons, List.drop_zero]
                repeat (go_big_quiet_step ((go_at_call 63; exact calls_gw (T1.out _ (gw_below wr _ _)))))
                refine wpQuiet_nil ?_
                intro w2 hw2
                obtain ⟨⟨dq, osq⟩, hw2⟩ := hw2
                have d2' : Below wr.heap.size wr w2 := by rw [hw2]; exact gw_below _ _ _
                have HR2 := hide (And.intro (SK.out w2 d2') d2')
                clear d2' hw2
                have hDw := HX.out.2.2.2.2.2.1
                have hD2 := hDw.trans (HR2.out.2.mono hBw)
                have hTW2 := HT.out w2 hD2
                have hBW2 := Nat.le_trans hBw HR2.out.2.size
                have hTl : T.length ≤ 4194304 := by have := HX.out.2.2.2.2.1; omega
                have HD2 := hide hD2
                clear hD2 hDw
                by_cases hfy : fin y1 = fin y2
                · by_cases hry : rtOf T y1 = rtOf T y2
                  · have TE := endsP_old B w2 N M wb (wb + 2) (wb + 3) bt bc g gf aN lN cN _ _ _ _ _ HR2.out.1 y1 y2 (n : Int) (a : Int) fin hTW2.fi HYN.out.1 HYN.out.2 hfy hry hN hBW2
                    have HRY := hide hry
                    clear hfy hry hTW2 hBW2 hTl
                    go_wp2_with (go_at_call 74; refine TE.mono ?_; rintro e w3 ⟨rfl, vM3, vS3, HR3⟩)
                    all_goals
                      go_meet
                      exact Or.inl ⟨rfl, vM3, vS3, T, K, hide ⟨HX.out.1, HR3.out.1, HX.out.2.1.more (by omega), HX.out.2.2.1.old HX.out.2.1 HX.out.2.2.2.2.2.2.1 (by rw [HX.out.2.2.2.2.2.2.2.2]; show rtOf T (dl Nx M x1 a) = rtOf T (dl Nx M x2 a); rw [HYX.out.1, HYX.out.2]; exact HRY.out), HX.out.2.2.2.1, HX.out.2.2.2.2.1, HD2.out.trans HR3.out.2⟩⟩
                  · have TE := endsP_new B w2 N M wb (wb + 2) (wb + 3) bt bc g gf aN lN cN _ _ _ _ _ HR2.out.1 y1 y2 (n : Int) (a : Int) fin hTW2.fi HYN.out.1 HYN.out.2 (Or.inr hry) hN hBW2 hTl
                    rw [decide_eq_false (fun x => x hfy), if_neg (fun x => x hfy)] at TE
                    have HRY := hide (And.intro hfy hry)
                    have HRC : Hid (rc N (jn (rtOf T) y1 y2) < rc N (rtOf T)) := hide (by
                      obtain ⟨ab, d, _, F⟩ := HR2.out.1.ch.ch
                      exact rc_join (F.rl _ HYN.out.1) (F.idem HYN.out.1) (F.idem HYN.out.2) hry)
                    clear hfy hry hTW2 hBW2 hTl
                    go_wp2_with (go_at_call 74; refine TE.mono ?_; rintro e w3 ⟨rfl, vM3, vS3, HR3⟩)
                    all_goals
                      go_meet
                      have ey : (dl Nx M x1 ((n * M + a) % M), dl Nx M x2 ((n * M + a) % M)) = (y1, y2) := by rw [HX.out.2.2.2.2.2.2.2.2, HYX.out.1, HYX.out.2]
                      refine Or.inl ⟨rfl, vM3, vS3, T ++ [(y1, y2)], K ++ [n * M + a], hide ⟨by rw [List.length_append]; have := HX.out.1; omega, ?_, ?_, ?_, ?_, ?_, HD2.out.trans HR3.out.2⟩⟩
                      · rw [stepsOf_snoc, HX.out.2.2.2.2.2.2.2.1, HX.out.2.2.2.2.2.2.2.2, rtOf_snoc]
                        exact HR3.out.1
                      · have z : Wk (fun x a => (dl Nx M x.1 a, dl Nx M x.2 a)) M (p, q) (T ++ [(dl Nx M x1 ((n * M + a) % M), dl Nx M x2 ((n * M + a) % M))]) (K ++ [n * M + a]) (n * M + a + 1) := HX.out.2.1.put HX.out.2.2.2.2.2.2.1
                        rw [ey] at z
                        exact z
                      · have z : CvP (fun x a => (dl Nx M x.1 a, dl Nx M x.2 a)) M (T ++ [(dl Nx M x1 ((n * M + a) % M), dl Nx M x2 ((n * M + a) % M))]) (K ++ [n * M + a]) (n * M + a + 1) := HX.out.2.2.1.put HX.out.2.1 HX.out.2.2.2.2.2.2.1
                        rw [ey] at z
                        exact z
                      · intro y hy
                        rcases List.mem_append.1 hy with e | e
                        · exact HX.out.2.2.2.1 y e
                        · rw [List.mem_singleton] at e
                          rw [e]
                          exact ⟨HYN.out, HRY.out.1⟩
                      · rw [rtOf_snoc, List.length_append, List.length_singleton]
                        have e1 := HRC.out
                        have e2 := HX.out.2.2.2.2.1
                        show T.length + 1 + rc N (jn (rtOf T) y1 y2) ≤ N
                        omega
                · have TE := endsP_new B w2 N M wb (wb + 2) (wb + 3) bt bc g gf aN lN cN _ _ _ _ _ HR2.out.1 y1 y2 (n : Int) (a : Int) fin hTW2.fi HYN.out.1 HYN.out.2 (Or.inl hfy) hN hBW2 hTl
                  rw [decide_eq_true hfy] at TE
                  have HRY := hide hfy
                  clear hfy hTW2 hBW2 hTl
                  go_wp2_with (go_at_call 74; refine TE.mono ?_; rintro e w3 ⟨rfl, vM3, vS3, HR3⟩)
                  all_goals
                    go_meet
                    have ey : (dl Nx M x1 ((n * M + a) % M), dl Nx M x2 ((n * M + a) % M)) = (y1, y2) := by rw [HX.out.2.2.2.2.2.2.2.2, HYX.out.1, HYX.out.2]
                    exact Or.inr ⟨rfl, vS3, K ++ [n * M + a], hide ⟨HR3.out.1.bs, by rw [stepsOf_snoc, HX.out.2.2.2.2.2.2.2.1, HX.out.2.2.2.2.2.2.2.2]; exact HR3.out.1.rS, ⟨T, (y1, y2), HRY.out, (fun y hy => (HX.out.2.2.2.1 y hy).2), HX.out.2.2.2.2.1, HYN.out, (fun y hy => (HX.out.2.2.2.1 y hy).1), Or.inr ⟨K, n * M + a, by omega, rfl, HX.out.2.1, HX.out.2.2.1, (x1, x2), HX.out.2.2.2.2.2.2.1, ey.symm⟩⟩, HD2.out.trans HR3.out.2⟩⟩
              case rest =>
                rename World => wz
                rcases hcut with ⟨rfl, vM', vS', T', K', HZ⟩ | ⟨rfl, vS', K', HFF⟩
                · go_wp2_with fail
                  go_roundw
                  case rel => exact ⟨a + 1, by omega, by go_num, vM', vS', T', K', HZ⟩
                  case measure => simp [intOf]; omega
                · have c4 : wz.cell? ⟨wb + 3, 0, none⟩ = some vS' := cell_of HFF.out.1 rfl
                  go_wp2_with fail
                  go_ret2
                  exact ⟨vS', true, rfl, hide ⟨HFF.out.2.2.2, (fun _ => ⟨K', HFF.out.2.1, HFF.out.2.2.1⟩), (fun e => by cases e)⟩⟩
            · have l1 : ¬ (a : Int) < (M : Int) := by omega
              obtain rfl : a = M := by omega
              have hTN := HZ.out.2.2.2.2.2.1
              have hnT := HZ.out.1
              go_wp2_with fail
              go_roundw
              case rel => exact ⟨n + 1, by go_num, vM, vS, T, K, by omega, hide ⟨HZ.out.2.1, by rw [Nat.succ_mul]; exact HZ.out.2.2.1, by rw [Nat.succ_mul]; exact HZ.out.2.2.2.1, HZ.out.2.2.2.2⟩⟩
              case measure => simp [intOf]; omega
        · have l0 : ¬ (n : Int) < (T.length : Int) := by omega
          obtain rfl : n = T.length := by omega
          have c4 : wr.cell? ⟨wb + 3, 0, none⟩ = some vS := cell_of HY.out.1.bs rfl
          clear J0 hn hlt
          go_wp2_with fail
          go_ret2
          refine ⟨vS, false, rfl, hide ⟨HY.out.2.2.2.2.2, (fun e => by cases e), fun _ u hu => ?_⟩⟩
          refine bis (fun x hx => (HY.out.2.2.2.1 x hx).2) HY.out.2.2.1 (rtOf_sub T) u p q hu ?_
          have hz := HY.out.2.1.z
          have hpos : 1 ≤ T.length := by have := HY.out.2.1.l; omega
          refine rtOf_sub T 1 p q hpos ?_
          have : T.take 1 = [(p, q)] := by
            cases T with
            | nil => simp at hz
            | cons x T => simp at hz; simp [hz]
          rw [this]
          exact jn_at (fun s => s) p q
  · have TE := endsP_new B W0 N M wb (wb + 2) (wb + 3) bt bc g gf aN lN cN _ _ _ _ _ HI.out p q (-1) 0 fin hTW.fi hp hq (Or.inl hf) hN hBW (by simp)
    rw [decide_eq_true hf] at TE
    have HF := hide hf
    clear hf hTW hBW
    go_enter Try.func66, Try.ntmps66
    go_upto_region 5 with (go_at_call 74; refine TE.mono ?_; rintro e w1 ⟨rfl, vM1, vS1, H1⟩)
    have c3 : w1.cell? ⟨wb + 3, 0, none⟩ = some vS1 := cell_of H1.out.1.bs rfl
    clear TE p7 p8
    go_wp2_with fail
    go_ret2
    exact ⟨vS1, true, rfl, hide ⟨(H4.out.1.mono hB).trans H1.out.2, (fun _ => ⟨[], H1.out.1.rS, ⟨[], (p, q), HF.out, (fun y hy => by cases hy), (by show 0 + rc N (fun s => s) ≤ N; rw [rc_id]; omega), ⟨hp, hq⟩, (fun y hy => by cases hy), Or.inl ⟨rfl, rfl, rfl⟩⟩⟩), (fun e => by cases e)⟩⟩
/-! ### The law's own lists -/
theorem own_on {w w' : World} {B C g cap n : Nat} {e : TypeId} {sz : Nat} {xs : List Value} (h : w.ownsRow B e sz (.slice (some ⟨g, 0, none⟩) n cap) n xs) (d : Below C w w') (hC : g < C) : w'.ownsRow B e sz (.slice (some ⟨g, 0, none⟩) n cap) n xs := by
  refine ⟨h.1, ?_⟩
  rcases h.2 with ⟨hv, _⟩ | ⟨g', cap', cur, hv, hb, hg, rest⟩
  · cases hv
  · cases hv
    exact .inr ⟨g, cap, cur, rfl, hb, (d.block _ hC).trans hg, rest⟩
theorem own_at {w : World} {B g cap n : Nat} {e : TypeId} {sz : Nat} {xs : List Value} (h : w.ownsRow B e sz (.slice (some ⟨g, 0, none⟩) n cap) n xs) : B ≤ g ∧ g < w.heap.size := by
  rcases h.2 with ⟨hv, _⟩ | ⟨g', cap', cur, hv, hb, hg, rest⟩
  · cases hv
  · cases hv
    exact ⟨hb, (Array.getElem?_eq_some_iff.1 hg).1⟩
theorem own_only {w w' : World} {B q g cap n : Nat} {e : TypeId} {sz : Nat} {xs : List Value} (h : w.ownsRow B e sz (.slice (some ⟨g, 0, none⟩) n cap) n xs) (ho : Only w w' (fun k => k = q)) (hq : g ≠ q) : w'.ownsRow B e sz (.slice (some ⟨g, 0, none⟩) n cap) n xs :=
  row_only h ho fun k hk => by cases hk; exact hq
theorem own_cap {W : World} {B b cap n : Nat} {e : TypeId} {sz : Nat} {xs : List Value} (h : W.ownsRow B e sz (.slice (some ⟨b, 0, none⟩) n cap) n xs) : n ≤ cap := by
  rcases h.2 with ⟨hv, _⟩ | ⟨g', cap', cur, hv, _, _, hn, _⟩
  · cases hv
  · cases hv; exact hn
/-- The marks behind a list. -/
def mrk (k : Nat) : List Int := (List.range k).map fun (i : Nat) => -1000 - (i : Int)
theorem mrk_succ (k : Nat) : mrk (k + 1) = mrk k ++ [-1000 - (k : Int)] := by unfold mrk; rw [List.range_succ, List.map_append]; rfl
theorem ints_one (L : List Int) : ∀ u ∈ L.map (Value.int .i64), u.oneCell' = true := by
  intro u hu
  obtain ⟨k, _, rfl⟩ := List.mem_map.1 hu
  rfl
theorem rd_news {W : World} {ad : Addr} {L : List Int} (h : RdN W (some ad) L) : ∀ (j : Nat) (u : Value), (L.map (Value.int .i64))[j]? = some u → W.cell? (ad.add j) = some u := fun j u hu => by
  have hj : j < L.length := by have := (List.getElem?_eq_some_iff.1 hu).1; simpa using this
  obtain ⟨g, o, e, q⟩ := h j hj
  cases e
  rw [Addr.add_lit]
  rw [show (L.map (Value.int .i64))[j]? = some (.int .i64 L[j]) by simp [hj]] at hu
  rw [← hu]
  exact q
theorem cell_one_new (w : World) (v : Value) (t : TypeId) : ∀ (j : Nat) (u : Value), [v][j]? = some u → (w.alloc (.cells #[v] t)).cell? ((⟨w.heap.size, 0, none⟩ : Addr).add j) = some u := fun j u hu => by
  cases j with
  | zero => obtain rfl : v = u := by simpa using hu
            rw [Addr.add_lit]
            exact cell_of (World.alloc_heap_new _ _) rfl
  | succ j => simp at hu
/-- A list with its marks, in a row of its own. -/
structure Mk (B : Nat) (w : World) (g c : Nat) (L : List Int) : Prop where
  le : L.length + 70 ≤ c
  rw : w.ownsRow B 3 1 (.slice (some ⟨g, 0, none⟩) (L.length + 70) c) (L.length + 70) ((L ++ mrk 70).map (Value.int .i64))
theorem rdN_own {W : World} {B g c n : Nat} {X L : List Int} (h : W.ownsRow B 3 1 (.slice (some ⟨g, 0, none⟩) n c) n (X.map (Value.int .i64))) (hp : L <+: X) : RdN W (some ⟨g, 0, none⟩) L := fun j hj => by
  obtain ⟨t, rfl⟩ := hp
  refine ⟨g, 0, rfl, ?_⟩
  have := h.cells (g := g) rfl j (.int .i64 L[j]) (by rw [List.getElem?_map, List.getElem?_append_left hj, List.getElem?_eq_getElem hj]; rfl)
  rw [Addr.add_lit] at this
  simpa using this
theorem Mk.rd {B : Nat} {w : World} {g c : Nat} {L : List Int} (h : Mk B w g c L) : RdN w (some ⟨g, 0, none⟩) L := rdN_own h.rw (List.prefix_append _ _)
theorem Mk.on {B C : Nat} {w w' : World} {g c : Nat} {L : List Int} (h : Mk B w g c L) (d : Below C w w') (hg : g < C) : Mk B w' g c L := ⟨h.le, own_on h.rw d hg⟩
set_option maxRecDepth 100000 in
set_option maxHeartbeats 1000000 in
theorem ints_any (w : World) (ao : Option Addr) (L : List Int) (cp : Nat) (hr : Hid (RdN w ao L)) (hl : L.length ≤ 4194304) :
    Calls Try.prog 13 #[.slice ao L.length cp] w fun e w' => ∃ g c, e = .returned (.slice (some ⟨g, 0, none⟩) L.length c) ∧ Hid (Mk w.heap.size w' g c L) ∧ Below w.heap.size w w' := by
  obtain ⟨i3, hi3, hz30, hz31, hz32⟩ := info_parts info3
  go_enter Try.func13, Try.ntmps13
  go_upto_region 1 with fail
  go_cut [3] from 3 to 6 (fun v W => Hid (W.ownsRow w.heap.size 3 1 v L.length (L.map (Value.int .i64)) ∧ Below w.heap.size w W))
  case first =>
    cases ao with
    | some ad =>
      go_wp2_with (at_builtin; refine wpList_append_own_at _ rfl _ _ _ rfl w.heap.size 3 i3 _ 1 8 Try.underlying22 hi3 hz30 hz31 hz32 rfl (by omega) (.slice none 0 0) 0 [] rfl (World.ownsRow_nil _ _ _ _) ad L.length cp (L.map (Value.int .i64)) rfl (by simp) (rd_news hr.out) (ints_one L) (by unfold maxLen; omega) (by omega) (by simp) ?_)
      intro v1 w1 ho hgr hnil hloc
      have ho1 : w1.ownsRow w.heap.size 3 1 v1 L.length (L.map (Value.int .i64)) := by simpa using ho
      have D1 : Below w.heap.size w w1 := (Below.refl _ _).grown hgr (Nat.le_refl _) (fun k hk => by cases hk)
      clear ho hgr hnil hloc
      go_wp2_with fail
      go_meet
      exact hide ⟨ho1, D1⟩
    | none =>
      have hL : L = [] := by
        cases L with
        | nil => rfl
        | cons x l => obtain ⟨g, o, e, _⟩ := hr.out 0 (by simp); cases e
      subst hL
      go_wp2_with fail
      go_meet
      exact hide ⟨World.ownsRow_nil _ _ _ _, Below.refl _ _⟩
  case rest =>
    rename World => wx
    go_wp2
    go_loopw [3, 4] (fun v iv wr => ∃ i : Nat, i ≤ 70 ∧ iv = .int .i64 i ∧ Hid (wr.ownsRow w.heap.size 3 1 v (L.length + i) ((L ++ mrk i).map (Value.int .i64)) ∧ Below w.heap.size w wr)) (fun _ iv _ => 70 - (intOf iv).toNat)
    case atStart => exact ⟨0, Nat.zero_le _, rfl, by simpa [mrk] using hcut⟩
    case round =>
      obtain ⟨i, hi, rfl, HY⟩ := hrel
      clear hcut
      by_cases hlt : i < 70
      · have i0 : (i : Int) < 70 := by omega
        have i1 : (0 : Int) ≤ (i : Int) := by omega
        go_wp2_with (at_builtin; refine wpList_append_own_at _ rfl _ _ _ rfl w.heap.size 3 i3 _ 1 8 Try.underlying22 hi3 hz30 hz31 hz32 rfl (by omega) u3 (L.length + i) ((L ++ mrk i).map (Value.int .i64)) rfl (HY.out.1.alloc _) ⟨wr.heap.size, 0, none⟩ 1 1 [.int .i64 (-1000 - (i : Int))] rfl rfl (cell_one_new _ _ _) (by simp [Value.oneCell']) (by unfold maxLen; omega) (by omega) (by have := HY.out.2.size; simp; omega) ?_)
        intro v2 w2 ho hgr hnil hloc
        have hb := HY.out.1.lt
        have D2 := hide (HY.out.2.grown ((World.grownBy_alloc _ _ _).trans hgr) HY.out.2.size (fun k hk => (hb k hk).1))
        have ho2 : Hid (w2.ownsRow w.heap.size 3 1 v2 (L.length + (i + 1)) ((L ++ mrk (i + 1)).map (Value.int .i64))) := hide (by rw [mrk_succ]; simpa [Nat.add_assoc] using ho)
        clear ho hgr hnil hloc hb
        go_wp2_with fail
        go_roundw
        case rel => exact ⟨i + 1, by omega, by go_num, hide ⟨ho2.out, D2.out⟩⟩
        case measure => simp [intOf]; omega
      · obtain rfl : i = 70 := by omega
        obtain ⟨g, c, hv⟩ := ownsRow_succ (k := L.length + 69) HY.out.1
        subst hv
        have hc : L.length + 70 ≤ c := own_cap HY.out.1
        have k0 : (0 : Int) ≤ (L.length : Int) := by omega
        have k1 : (L.length : Int) ≤ (c : Int) := by omega
        go_wp2
        refine bodyPost_ret (results_tmp rfl _ _ _) rfl ?_
        exact ⟨g, c, rfl, hide ⟨hc, HY.out.1⟩, HY.out.2⟩
theorem Mk.lt {B : Nat} {w : World} {g c : Nat} {L : List Int} (h : Mk B w g c L) : B ≤ g ∧ g < w.heap.size := own_at h.rw
theorem Mk.only {B q : Nat} {w w' : World} {g c : Nat} {L : List Int} (h : Mk B w g c L) (o : Only w w' (fun k => k = q)) (hq : g ≠ q) : Mk B w' g c L := ⟨h.le, own_only h.rw o hq⟩
theorem Mk.down {B C : Nat} {w : World} {g c : Nat} {L : List Int} (h : Mk B w g c L) (hC : C ≤ B) : Mk C w g c L := ⟨h.le, owns_down h.rw hC⟩
/-! ### twin -/
/-- A table whose lists are its own, marks behind them. -/
structure TwD (B : Nat) (w : World) (gF kF gN kN : Nat) (Fi Nx : List Int) : Prop where
  f : Mk B w gF kF Fi
  n : Mk B w gN kN Nx
  ne : gF ≠ gN
theorem TwD.on {B : Nat} {w w' : World} {gF kF gN kN : Nat} {Fi Nx : List Int} (h : TwD B w gF kF gN kN Fi Nx) (d : Below w.heap.size w w') : TwD B w' gF kF gN kN Fi Nx := ⟨h.f.on d h.f.lt.2, h.n.on d h.n.lt.2, h.ne⟩
theorem TwD.down {B C : Nat} {w : World} {gF kF gN kN : Nat} {Fi Nx : List Int} (h : TwD B w gF kF gN kN Fi Nx) (hC : C ≤ B) : TwD C w gF kF gN kN Fi Nx := ⟨h.f.down hC, h.n.down hC, h.ne⟩
theorem TwD.only {B q : Nat} {w w' : World} {gF kF gN kN : Nat} {Fi Nx : List Int} (h : TwD B w gF kF gN kN Fi Nx) (o : Only w w' (fun k => k = q)) (h1 : gF ≠ q) (h2 : gN ≠ q) : TwD B w' gF kF gN kN Fi Nx := ⟨h.f.only o h1, h.n.only o h2, h.ne⟩
set_option maxRecDepth 100000 in
set_option maxHeartbeats 2000000 in
theorem twin_any (w : World) (N M st : Int) (aF aN : Option Addr) (cF cN : Nat) (Fi Nx : List Int) (hF : RdN w aF Fi) (hN : RdN w aN Nx) (bF : Fi.length ≤ 4194304) (bN : Nx.length ≤ 4194304) :
    Calls Try.prog 9 #[.agg #[.int .i64 N, .int .i64 M, .int .i64 st, .slice aF Fi.length cF, .slice aN Nx.length cN]] w fun e w' => ∃ gF kF gN kN, e = .returned (.agg #[.int .i64 N, .int .i64 M, .int .i64 st, .slice (some ⟨gF, 0, none⟩) Fi.length kF, .slice (some ⟨gN, 0, none⟩) Nx.length kN]) ∧ Hid (TwD w.heap.size w' gF kF gN kN Fi Nx) ∧ Below w.heap.size w w' := by
  obtain ⟨lF, hlF⟩ : ∃ l, Fi.length = l := ⟨_, rfl⟩
  obtain ⟨lN, hlN⟩ : ∃ l, Nx.length = l := ⟨_, rfl⟩
  rw [hlF] at bF ⊢
  rw [hlN] at bN ⊢
  have HL := hide (And.intro hlF hlN)
  clear hlF hlN
  obtain ⟨W0, hW0⟩ : ∃ W0, (w.alloc (.cells #[.int .i64 N, .int .i64 M, .int .i64 st, .slice aF lF cF, .slice aN lN cN] 24)).alloc (.cells #[.int .i64 0, .int .i64 0, .int .i64 0, .slice none 0 0, .slice none 0 0] 24) = W0 := ⟨_, rfl⟩
  have HD := hide (two_al w #[.int .i64 N, .int .i64 M, .int .i64 st, .slice aF lF cF, .slice aN lN cN] #[.int .i64 0, .int .i64 0, .int .i64 0, .slice none 0 0, .slice none 0 0] 24 24)
  rw [hW0] at HD
  have y3 : W0.cell? ⟨w.heap.size, 3, none⟩ = some (.slice aF lF cF) := cell_of HD.out.2.1 rfl
  have T1 : Hid (Calls Try.prog 13 #[.slice aF lF cF] W0 fun e w' => ∃ g c, e = .returned (.slice (some ⟨g, 0, none⟩) lF c) ∧ Hid (Mk W0.heap.size w' g c Fi) ∧ Below W0.heap.size W0 w') := hide (by
    have := ints_any W0 aF Fi cF (hide (hF.on HD.out.1)) (by rw [HL.out.1]; exact bF)
    rw [HL.out.1] at this
    exact this)
  have HN := hide hN
  clear hF hN
  go_enter Try.func9, Try.ntmps9
  go_upto_region 1 with fail
  go_upto_region 2 with (go_at_call 13; refine T1.out.mono ?_; rintro e w2 ⟨gF, kF, rfl, hm1, d2⟩; have H2 : Hid (w2.heap[w.heap.size]? = some (.cells #[.int .i64 N, .int .i64 M, .int .i64 st, .slice aF lF cF, .slice aN lN cN] 24 (0, 0)) ∧ w2.heap[w.heap.size + 1]? = some (.cells #[.int .i64 0, .int .i64 0, .int .i64 0, .slice none 0 0, .slice none 0 0] 24 (0, 0)) ∧ Below w.heap.size w w2 ∧ Mk W0.heap.size w2 gF kF Fi ∧ W0.heap.size ≤ w2.heap.size) := hide ⟨blk_on HD.out.2.1 d2, blk_on HD.out.2.2.1 d2, HD.out.1.trans (d2.mono HD.out.1.size), hm1.out, d2.size⟩; have o2 : w2.cell? ⟨w.heap.size, 3, none⟩ = some (.slice aF lF cF) := cell_of H2.out.1 rfl; have f2 : w2.frozen? ⟨w.heap.size, 3, none⟩ = false := fz_of H2.out.1; clear hm1 d2)
  obtain ⟨w3, hw3⟩ : ∃ w3, w2.setCell ⟨w.heap.size, 3, none⟩ (.slice (some ⟨gF, 0, none⟩) lF kF) = w3 := ⟨_, rfl⟩
  rw [hw3]
  have H3 : Hid (w3.heap[w.heap.size]? = some (.cells #[.int .i64 N, .int .i64 M, .int .i64 st, .slice (some ⟨gF, 0, none⟩) lF kF, .slice aN lN cN] 24 (0, 0)) ∧ w3.heap[w.heap.size + 1]? = some (.cells #[.int .i64 0, .int .i64 0, .int .i64 0, .slice none 0 0, .slice none 0 0] 24 (0, 0)) ∧ Below w.heap.size w w3 ∧ Mk W0.heap.size w3 gF kF Fi) := hide (by
    have o : Only w2 w3 (fun k => k = w.heap.size) := by rw [← hw3]; exact only_set _ _ _ _
    have l1 := H2.out.2.2.2.1.lt
    have z := HD.out.2.2.2
    exact ⟨by rw [← hw3]; exact heap_setCell_same _ _ 3 _ 24 _ H2.out.1, (o.block _ (Array.getElem?_eq_some_iff.1 H2.out.2.1).1 (by omega)).trans H2.out.2.1, H2.out.2.2.1.trans (o.toBelow H2.out.2.2.1.size (fun k hk => by omega)), H2.out.2.2.2.1.only o (by omega)⟩)
  clear hw3 H2 o2 f2 T1 y3
  have y4 : w3.cell? ⟨w.heap.size, 4, none⟩ = some (.slice aN lN cN) := cell_of H3.out.1 rfl
  have T2 : Hid (Calls Try.prog 13 #[.slice aN lN cN] w3 fun e w' => ∃ g c, e = .returned (.slice (some ⟨g, 0, none⟩) lN c) ∧ Hid (Mk w3.heap.size w' g c Nx) ∧ Below w3.heap.size w3 w') := hide (by
    have := ints_any w3 aN Nx cN (hide (HN.out.on H3.out.2.2.1)) (by rw [HL.out.2]; exact bN)
    rw [HL.out.2] at this
    exact this)
  go_upto_region 3 with (go_at_call 13; refine T2.out.mono ?_; rintro e w4 ⟨gN, kN, rfl, hm2, d4⟩; have H4 : Hid (w4.heap[w.heap.size]? = some (.cells #[.int .i64 N, .int .i64 M, .int .i64 st, .slice (some ⟨gF, 0, none⟩) lF kF, .slice aN lN cN] 24 (0, 0)) ∧ w4.heap[w.heap.size + 1]? = some (.cells #[.int .i64 0, .int .i64 0, .int .i64 0, .slice none 0 0, .slice none 0 0] 24 (0, 0)) ∧ Below w.heap.size w w4 ∧ Mk W0.heap.size w4 gF kF Fi ∧ Mk w3.heap.size w4 gN kN Nx ∧ gF < w3.heap.size) := hide ⟨blk_on H3.out.1 d4, blk_on H3.out.2.1 d4, H3.out.2.2.1.trans (d4.mono H3.out.2.2.1.size), H3.out.2.2.2.on d4 H3.out.2.2.2.lt.2, hm2.out, H3.out.2.2.2.lt.2⟩; have o4 : w4.cell? ⟨w.heap.size, 4, none⟩ = some (.slice aN lN cN) := cell_of H4.out.1 rfl; have f4 : w4.frozen? ⟨w.heap.size, 4, none⟩ = false := fz_of H4.out.1; clear hm2 d4)
  obtain ⟨w5, hw5⟩ : ∃ w5, w4.setCell ⟨w.heap.size, 4, none⟩ (.slice (some ⟨gN, 0, none⟩) lN kN) = w5 := ⟨_, rfl⟩
  rw [hw5]
  have H5 : Hid (w5.heap[w.heap.size]? = some (.cells #[.int .i64 N, .int .i64 M, .int .i64 st, .slice (some ⟨gF, 0, none⟩) lF kF, .slice (some ⟨gN, 0, none⟩) lN kN] 24 (0, 0)) ∧ w5.heap[w.heap.size + 1]? = some (.cells #[.int .i64 0, .int .i64 0, .int .i64 0, .slice none 0 0, .slice none 0 0] 24 (0, 0)) ∧ Below w.heap.size w w5 ∧ TwD W0.heap.size w5 gF kF gN kN Fi Nx) := hide (by
    have o : Only w4 w5 (fun k => k = w.heap.size) := by rw [← hw5]; exact only_set _ _ _ _
    have l1 := H4.out.2.2.2.1.lt
    have l2 := H4.out.2.2.2.2.1.lt
    have l3 := H4.out.2.2.2.2.2
    have z := HD.out.2.2.2
    have zz := H3.out.2.2.1.size
    exact ⟨by rw [← hw5]; exact heap_setCell_same _ _ 4 _ 24 _ H4.out.1, (o.block _ (Array.getElem?_eq_some_iff.1 H4.out.2.1).1 (by omega)).trans H4.out.2.1, H4.out.2.2.1.trans (o.toBelow H4.out.2.2.1.size (fun k hk => by omega)), ⟨H4.out.2.2.2.1.only o (by omega), (H4.out.2.2.2.2.1.only o (by omega)).down (by omega), by omega⟩⟩)
  clear hw5 H4 o4 f4 T2 y4 H3
  have x0 : w5.cell? ⟨w.heap.size, 0, none⟩ = some (.int .i64 N) := cell_of H5.out.1 rfl
  have x1 : w5.cell? ⟨w.heap.size, 1, none⟩ = some (.int .i64 M) := cell_of H5.out.1 rfl
  have x2 : w5.cell? ⟨w.heap.size, 2, none⟩ = some (.int .i64 st) := cell_of H5.out.1 rfl
  have x3 : w5.cell? ⟨w.heap.size, 3, none⟩ = some (.slice (some ⟨gF, 0, none⟩) lF kF) := cell_of H5.out.1 rfl
  have x4 : w5.cell? ⟨w.heap.size, 4, none⟩ = some (.slice (some ⟨gN, 0, none⟩) lN kN) := cell_of H5.out.1 rfl
  have r0 : w5.cell? ⟨w.heap.size + 1, 0, none⟩ = some (.int .i64 0) := cell_of H5.out.2.1 rfl
  have r1 : w5.cell? ⟨w.heap.size + 1, 1, none⟩ = some (.int .i64 0) := cell_of H5.out.2.1 rfl
  have r2 : w5.cell? ⟨w.heap.size + 1, 2, none⟩ = some (.int .i64 0) := cell_of H5.out.2.1 rfl
  have r3 : w5.cell? ⟨w.heap.size + 1, 3, none⟩ = some (.slice none 0 0) := cell_of H5.out.2.1 rfl
  have r4 : w5.cell? ⟨w.heap.size + 1, 4, none⟩ = some (.slice none 0 0) := cell_of H5.out.2.1 rfl
  have f0 : w5.frozen? ⟨w.heap.size + 1, 0, none⟩ = false := fz_of H5.out.2.1
  have f1 : w5.frozen? ⟨w.heap.size + 1, 1, none⟩ = false := fz_of H5.out.2.1
  have f2 : w5.frozen? ⟨w.heap.size + 1, 2, none⟩ = false := fz_of H5.out.2.1
  have f3 : w5.frozen? ⟨w.heap.size + 1, 3, none⟩ = false := fz_of H5.out.2.1
  have f4 : w5.frozen? ⟨w.heap.size + 1, 4, none⟩ = false := fz_of H5.out.2.1
  have O6 := hide (And.intro (set5 w5 (w.heap.size + 1) _ _ _ _ _ (.int .i64 N) (.int .i64 M) (.int .i64 st) (.slice (some ⟨gF, 0, none⟩) lF kF) (.slice (some ⟨gN, 0, none⟩) lN kN) 24 H5.out.2.1) (only5 w5 (w.heap.size + 1) (.int .i64 N) (.int .i64 M) (.int .i64 st) (.slice (some ⟨gF, 0, none⟩) lF kF) (.slice (some ⟨gN, 0, none⟩) lN kN)))
  go_wp2_with fail
  refine bodyPost_ret (results_cell_row (p := 2) (ty := 24) rfl _ _ (w.heap.size + 1) 24 _ (0, 0) _ rfl O6.out.1 Try.underlying24 rfl (by kernel_rfl)) rfl ?_
  have l1 := H5.out.2.2.2.f.lt
  have l2 := H5.out.2.2.2.n.lt
  have z := HD.out.2.2.2
  have HLL := HL.out
  refine ⟨gF, kF, gN, kN, rfl, hide ((H5.out.2.2.2.only O6.out.2 (by omega) (by omega)).down (by omega)), H5.out.2.2.1.trans (O6.out.2.toBelow H5.out.2.2.1.size (fun k hk => by omega))⟩
/-! ### Lists compared -/
set_option maxRecDepth 100000 in
set_option maxHeartbeats 1000000 in
theorem sameInts_any (w : World) (aa ab : Option Addr) (la ca lb cb : Nat) (A B : List Int) (hA : RdN w aa A) (hB : RdN w ab B) (hla : A.length = la) (hlb : B.length = lb) (ba : la ≤ 4194304) (bb : lb ≤ 4194304) :
    Calls Try.prog 21 #[.slice aa la ca, .slice ab lb cb] w fun e w' => e = .returned (.bool (decide (A = B))) ∧ Below w.heap.size w w' := by
  have H := hide (And.intro hA (And.intro hB (And.intro hla hlb)))
  obtain ⟨q, hq⟩ : ∃ q, decide (A = B) = q := ⟨_, rfl⟩
  rw [hq]
  have HQ := hide hq
  clear hA hB hla hlb hq
  by_cases hl : la = lb
  · subst hl
    go_enter Try.func21, Try.ntmps21
    go_wp2
    go_loopw [5] (fun iv wr => ∃ i : Nat, i ≤ la ∧ iv = .int .i64 i ∧ Hid (A.take i = B.take i ∧ Below w.heap.size w wr)) (fun iv _ => la - (intOf iv).toNat)
    case atStart => exact ⟨0, Nat.zero_le _, rfl, hide ⟨by simp, Below.refl _ _⟩⟩
    case round =>
      obtain ⟨i, hi, rfl, HY⟩ := hrel
      by_cases hlt : i < la
      · have l0 : (i : Int) < (la : Int) := by omega
        have l1 : (0 : Int) ≤ (i : Int) := by omega
        have hiA : i < A.length := by have := H.out.2.2.1; omega
        have hiB : i < B.length := by have := H.out.2.2.2; omega
        obtain ⟨g, o, rfl, c⟩ := (H.out.1.on HY.out.2) i hiA
        obtain ⟨g2, o2, rfl, c2⟩ := (H.out.2.1.on HY.out.2) i hiB
        by_cases hx : A[i] = B[i]
        · rw [← hx] at c2
          have HX := hide (show A.take (i + 1) = B.take (i + 1) by
            rw [List.take_add_one, List.take_add_one, HY.out.1, List.getElem?_eq_getElem hiA, List.getElem?_eq_getElem hiB, hx])
          clear hx
          generalize A[i] = x at *
          go_upto_region 6 with fail
          go_quiet (fail)
          go_wp2
          go_roundw
          case rel => exact ⟨i + 1, by omega, by go_num, hide ⟨HX.out, below_drewN2 HY.out.2 _⟩⟩
          case measure => simp [intOf]; omega
        · have HX := hide (show ¬ A = B from fun e => hx (by subst e; rfl))
          have hxx : (A[i] != B[i]) = true := by simp [hx]
          obtain rfl : false = q := by rw [← HQ.out]; symm; simpa using HX.out
          generalize A[i] = x at *
          generalize B[i] = y at *
          go_upto_region 6 with fail
          go_quiet (fail)
          go_wp2
          go_ret
          exact ⟨rfl, below_drewN2 HY.out.2 _⟩
      · have l0 : ¬ (i : Int) < (la : Int) := by omega
        obtain rfl : i = la := by omega
        obtain rfl : true = q := by
          have e := HY.out.1
          rw [List.take_of_length_le (by have := H.out.2.2.1; omega), List.take_of_length_le (by have := H.out.2.2.2; omega)] at e
          rw [← HQ.out]
          symm
          simpa using e
        go_wp2
        go_ret
        exact ⟨rfl, HY.out.2⟩
  · obtain rfl : false = q := by
      rw [← HQ.out]
      symm
      simp only [decide_eq_false_iff_not]
      rintro rfl
      exact hl (H.out.2.2.1.symm.trans H.out.2.2.2)
    have hl2 : ¬ ((la : Int) = (lb : Int)) := by omega
    go_enter Try.func21, Try.ntmps21
    go_wp2
    go_ret
    exact ⟨rfl, Below.refl _ _⟩
/-! ### The small table -/
set_option maxRecDepth 100000 in
set_option maxHeartbeats 1000000 in
theorem small_any (w : World) :
    Calls Try.prog 30 #[] w fun e w' => ∃ g1 g2, e = .returned (.agg #[.int .i64 4, .int .i64 1, .int .i64 0, .slice (some ⟨g1, 0, none⟩) 2 2, .slice (some ⟨g2, 0, none⟩) 4 4]) ∧ Hid (w'.heap[g1]? = some (.cells #[.int .i64 1, .int .i64 3] 3 (0, 0)) ∧ w'.heap[g2]? = some (.cells #[.int .i64 1, .int .i64 2, .int .i64 3, .int .i64 0] 3 (0, 0)) ∧ w.heap.size ≤ g1 ∧ w.heap.size ≤ g2) ∧ Below w.heap.size w w' := by
  go_enter Try.func30, Try.ntmps30
  go_wp2_with fail
  obtain ⟨W, hW⟩ : ∃ W, (((w.alloc (.cells #[.int .i64 4, .int .i64 1, .int .i64 0, .slice (some ⟨w.heap.size + 1, 0, none⟩) 2 2, .slice (some ⟨w.heap.size + 1 + 1, 0, none⟩) 4 4] 24)).alloc (.cells #[.int .i64 1, .int .i64 3] 3)).alloc (.cells #[.int .i64 1, .int .i64 2, .int .i64 3, .int .i64 0] 3)) = W := ⟨_, rfl⟩
  have HA := hide (three_al w #[.int .i64 4, .int .i64 1, .int .i64 0, .slice (some ⟨w.heap.size + 1, 0, none⟩) 2 2, .slice (some ⟨w.heap.size + 1 + 1, 0, none⟩) 4 4] #[.int .i64 1, .int .i64 3] #[.int .i64 1, .int .i64 2, .int .i64 3, .int .i64 0] 24 3 3)
  rw [hW] at HA ⊢
  refine bodyPost_ret (results_cell_row (p := 0) (ty := 24) rfl _ _ w.heap.size 24 _ (0, 0) _ rfl HA.out.2.1 Try.underlying24 rfl (by kernel_rfl)) rfl ?_
  exact ⟨_, _, rfl, hide ⟨HA.out.2.2.1, HA.out.2.2.2, by omega, by omega⟩, HA.out.1⟩
/-! ### Repeat -/
theorem new_zeros {w w1 : World} {n : Nat} (h : w1.ownsRow w.heap.size 3 1 (.slice (some ⟨w.heap.size, 0, none⟩) n n) n (madeCells #[.int .i64 0] n).toList) : w1.heap[w.heap.size]? = some (.cells ((List.replicate n (0 : Int)).map (Value.int .i64)).toArray 3 (0, 0)) := by
  rw [toList_madeCells_one] at h
  rcases h.2 with ⟨hv, _⟩ | ⟨g', cap', cur, hv, hb, hg, h1, h2, h3, h4⟩
  · cases hv
  · cases hv
    rw [hg]
    have e : cur.toList = (List.replicate n (0 : Int)).map (Value.int .i64) := by
      rw [List.take_of_length_le (by simp; omega)] at h4
      rw [h4]; simp
    rw [← e]
theorem one_ints (L : List Int) : ∀ v ∈ L.map (Value.int .i64), v.oneCell' = true := by
  intro v hv
  obtain ⟨x, _, rfl⟩ := List.mem_map.1 hv
  rfl
theorem rep_splice {i c N : Nat} (h : i + c ≤ N) : splice ((List.replicate i (-1 : Int) ++ List.replicate (N - i) 0).map (Value.int .i64)) i ((List.replicate c (-1 : Int)).map (Value.int .i64)) = (List.replicate (i + c) (-1 : Int) ++ List.replicate (N - (i + c)) 0).map (Value.int .i64) := by
  unfold splice
  simp only [List.map_append, List.map_replicate, List.length_replicate]
  rw [List.take_append_of_le_length (by simp), List.take_of_length_le (by simp), List.drop_append, List.drop_of_length_le (by simp), List.nil_append, List.length_replicate, List.drop_replicate, ← List.append_assoc, List.replicate_append_replicate]
  congr 2
  omega
theorem rep_row {W : World} {g N : Nat} (h : W.heap[g]? = some (.cells ((List.replicate N (-1 : Int) ++ List.replicate (N - N) 0).map (Value.int .i64)).toArray 3 (0, 0))) : Mrw W g 3 N (fun _ => .int .i64 (-1)) N := by
  refine ⟨_, h, by simp, fun j hj => ?_⟩
  simp [hj]
set_option maxRecDepth 100000 in
set_option maxHeartbeats 2000000 in
theorem repeat_any (w : World) (p N : Nat) (hp : w.heap[p]? = some (.cells #[.int .i64 (-1)] 3 (0, 0))) (h1 : 1 ≤ N) (hN : N ≤ 4194304) :
    Calls Try.prog 54 #[.slice (some ⟨p, 0, none⟩) 1 1, .int .i64 (N : Int)] w fun e w' => ∃ g, e = .returned (.slice (some ⟨g, 0, none⟩) N N) ∧ Hid (w.heap.size ≤ g ∧ Mrw w' g 3 N (fun _ => .int .i64 (-1)) N ∧ Below w.heap.size w w') := by
  obtain ⟨i9, hi9, hz90, hz91, hz92⟩ := info_parts info3
  have HP := hide hp
  have TM := Try.bits_Mul 1 N (by omega) (by omega) w
  have e1 : (1 * N / 18446744073709551616 : Nat) = 0 := by omega
  have e2 : (1 * N % 18446744073709551616 : Nat) = N := by omega
  rw [e1, e2] at TM
  have n0 : ¬ ((N : Int) < 0) := by omega
  have wu : IntKind.u64.wrap (N : Int) = (N : Int) := by unfold IntKind.wrap; simp [IntKind.bits, IntKind.signed]; omega
  have wi : IntKind.i64.wrap (N : Int) = (N : Int) := by rw [IntKind.wrap_i64]; omega
  have n1 : ¬ ((9223372036854775807 : Int) < (N : Int)) := by omega
  clear hp e1 e2
  go_enter Try.func54, Try.ntmps54
  go_upto_region 6 with (go_at_call 68; refine TM.mono ?_; rintro e w2 ⟨rfl, rfl⟩)
  clear n1 n0
  go_upto_region 7 with (at_make; refine wpList_make_full _ rfl _ _ 22 rfl w2.heap.size 3 i9 (.int .i64 0) 1 Try.underlying22 hi9 hz90 hz91 _ _ _ _ N rfl rfl rfl rfl (by rw [hz92]; omega) (by unfold maxLen; omega) (Nat.le_refl _) ?_; intro w1 ho hg)
  have D1 : Below w2.heap.size w2 w1 := (Below.refl _ _).grown hg (Nat.le_refl _) (by intro k hk; cases hk)
  rw [Nat.mul_one] at ho
  have hcur := new_zeros (w := w2) ho
  have HC := hide (And.intro hcur D1)
  clear ho hg D1 hcur TM
  obtain ⟨g, hg⟩ : ∃ g, w2.heap.size = g := ⟨_, rfl⟩
  rw [hg]
  rw [hg] at HC
  have p1 := cell_of (blk_on HP.out (by rw [hg]; exact HC.out.2)) (j := 0) (v := .int .i64 (-1)) rfl
  have HSRC : ∀ (j : Nat) (v : Value), ((List.replicate 1 (-1 : Int)).map (Value.int .i64))[j]? = some v → w1.cell? ((⟨p, 0, none⟩ : Addr).add j) = some v := fun j v hv => one_cells (blk_on HP.out (by rw [hg]; exact HC.out.2)) j v (by simpa using hv)
  go_wp2_with (refine wpList_copy_splice rfl (.tmp 31) (.tmp 32) 22 22 rfl 3 Try.underlying22 (by rw [hi9]; simp [hz91]) _ _ _ _ _ _ rfl rfl g 0 ((List.replicate N (0 : Int)).map (Value.int .i64)) 3 HC.out.1 ((List.replicate 1 (-1 : Int)).map (Value.int .i64)) (by rw [List.length_map, List.length_replicate]; exact (Nat.min_eq_left (by omega)).symm) (fun _ => ⟨rfl, _, rfl, HSRC⟩) (by rw [List.length_map, List.length_map, List.length_replicate, List.length_replicate]; omega) (one_ints _) g w2 (by rw [← hg]; exact hg ▸ HC.out.2) (Nat.le_refl _) ?_; intro w3 HG3 d3)
  have J0 : Hid (w3.heap[g]? = some (.cells ((List.replicate 1 (-1 : Int) ++ List.replicate (N - 1) 0).map (Value.int .i64)).toArray 3 (0, 0)) ∧ Below w2.heap.size w2 w3) := hide ⟨by
    have q := HG3.out
    have r := rep_splice (i := 0) (c := 1) (N := N) (by omega)
    simp only [List.replicate_zero, List.nil_append, Nat.sub_zero, Nat.zero_add] at r
    rw [r] at q
    exact q, by rw [hg]; exact d3⟩
  clear HG3 d3 p1 HSRC HC
  go_loopw [8] (fun iv wr => ∃ i : Nat, 1 ≤ i ∧ i ≤ N ∧ iv = .int .i64 (i : Int) ∧ Hid (wr.heap[g]? = some (.cells ((List.replicate i (-1 : Int) ++ List.replicate (N - i) 0).map (Value.int .i64)).toArray 3 (0, 0)) ∧ Below w2.heap.size w2 wr)) (fun iv _ => N - (intOf iv).toNat)
  case atStart => exact ⟨1, Nat.le_refl _, h1, rfl, J0⟩
  case round =>
    clear J0
    obtain ⟨i, i1, iN, rfl, HY⟩ := hrel
    by_cases hlt : i < N
    · have l0 : (i : Int) < (N : Int) := by omega
      have i0 : (0 : Int) ≤ (i : Int) := by omega
      have i2 : (i : Int) ≤ (N : Int) := by omega
      have i3 : i ≤ N := by omega
      have i4 : ¬ (N - i = 0) := by omega
      have i5 : ¬ (N = i) := by omega
      obtain ⟨c, hc⟩ : ∃ c, Nat.min i (N - i) = c := ⟨_, rfl⟩
      have hc1 : 1 ≤ c ∧ c ≤ i ∧ i + c ≤ N := by rw [← hc]; simp only [Nat.min_def]; split <;> omega
      have ws : IntKind.i64.wrap ((i : Int) + (c : Int)) = ((i + c : Nat) : Int) := by rw [IntKind.wrap_i64]; omega
      have HSRC : ∀ (j : Nat) (v : Value), ((List.replicate c (-1 : Int)).map (Value.int .i64))[j]? = some v → wr.cell? ((⟨g, 0, none⟩ : Addr).add j) = some v := fun j v hv => by
        have hj : j < c := by
          have := (List.getElem?_eq_some_iff.1 hv).1
          simpa using this
        have hv2 : Value.int .i64 (-1) = v := by
          rw [List.getElem?_map, List.getElem?_replicate, if_pos hj] at hv
          simpa using hv
        subst hv2
        rw [Addr.add_lit]
        refine cell_of HY.out.1 ?_
        have : j < i := by omega
        rw [List.getElem?_toArray, List.getElem?_map, Nat.zero_add, List.getElem?_append_left (by simp; exact this), List.getElem?_replicate, if_pos this]
        rfl
      have HCC := hide hc
      have hgw : w2.heap.size ≤ g := by omega
      obtain ⟨cur, hcur⟩ : ∃ cur, (List.replicate i (-1 : Int) ++ List.replicate (N - i) 0).map (Value.int .i64) = cur := ⟨_, rfl⟩
      obtain ⟨cs, hcs⟩ : ∃ cs, (List.replicate c (-1 : Int)).map (Value.int .i64) = cs := ⟨_, rfl⟩
      rw [hcur] at HY
      rw [hcs] at HSRC
      have hlc : cur.length = N := by rw [← hcur]; simp; omega
      have hls : cs.length = c := by rw [← hcs]; simp
      have hls2 : cs.length = Nat.min i (N - i) := by rw [hls, hc]
      have hfit : i + cs.length ≤ cur.length := by omega
      have h1c : ∀ v ∈ cs, v.oneCell' = true := by rw [← hcs]; exact one_ints _
      have HLC := hide (And.intro hls (And.intro hcur hcs))
      clear hcur hcs hlc hls hc
      go_upto_region 9 with fail
      have QC : wr.drew.heap[g]? = some (.cells cur.toArray 3 (0, 0)) := HY.out.1
      have QD : Below w2.heap.size w2 wr.drew := HY.out.2.drew
      have QS : ∀ (j : Nat) (v : Value), cs[j]? = some v → wr.drew.cell? ((⟨g, 0, none⟩ : Addr).add j) = some v := HSRC
      go_region_law (refine step_copy_splice (by rfl) (.tmp 41) (.tmp 44) 22 22 (by rfl) 3 Try.underlying22 (by rw [hi9]; simp [hz91]) (some ⟨g, i, none⟩) (some ⟨g, 0, none⟩) (N - i) (N - i) i N (by kernel_rfl) (by kernel_rfl) g i cur 3 (by with_reducible exact QC) cs hls2 (fun _ => ⟨rfl, _, rfl, by with_reducible exact QS⟩) hfit h1c w2.heap.size w2 (by with_reducible exact QD) hgw ?_; intro w4 h4 d4; rw [HLC.out.1]; clear QC QD QS HSRC hls2 hfit h1c)
      all_goals
        have J : Hid (w4.heap[g]? = some (.cells ((List.replicate (i + c) (-1 : Int) ++ List.replicate (N - (i + c)) 0).map (Value.int .i64)).toArray 3 (0, 0)) ∧ Below w2.heap.size w2 w4) := hide ⟨by
          have q := h4.out
          rw [← HLC.out.2.1, ← HLC.out.2.2, rep_splice hc1.2.2] at q
          exact q, d4⟩
        clear h4 d4
        go_wp2_with fail
        refine ⟨?_, ?measure⟩
        · repeat apply Exists.intro
          refine ⟨?rel, rfl⟩
          exact ⟨i + c, by omega, hc1.2.2, by go_num, J⟩
        case measure =>
          show N - (intOf (.int .i64 ((i : Int) + (c : Int)))).toNat < N - (intOf (.int .i64 (i : Int))).toNat
          simp [intOf]
          omega
    · have l0 : ¬ (i : Int) < (N : Int) := by omega
      obtain rfl : i = N := by omega
      go_wp2_with fail
      go_ret
      exact ⟨g, rfl, hide ⟨by omega, rep_row HY.out.1, by have q := HY.out.2; rw [hg] at q; exact q⟩⟩
/-! ### number -/
/-- What number answers. -/
def NumA (w : World) (N M q0 : Nat) (φ : Nat → Nat → Nat) : Ending → World → Prop := fun e w' => ∃ vT gn vS T K, e = .returned (.agg #[vT, .slice (some ⟨gn, 0, none⟩) N N, vS]) ∧ OwI w' w.heap.size vT (natI T) ∧ Mrw w' gn 3 N (fun q => .int .i64 (numF T q)) N ∧ OwS w' w.heap.size vS (stepsOf M K) ∧ w.heap.size ≤ gn ∧ vT.ownBlock ≠ some gn ∧ T.Nodup ∧ (∀ q ∈ T, q < N) ∧ Wk φ M q0 T K (T.length * M) ∧ Cv φ M T K (T.length * M) ∧ Below w.heap.size w w'
set_option maxRecDepth 100000 in
set_option maxHeartbeats 4000000 in
theorem number_flw (w : World) (N M q0 : Nat) (vF aN : Option Addr) (lF cF lN cN : Nat) (φ : Nat → Nat → Nat) (hq : q0 < N) (hφ : ∀ s a, s < N → a < M → φ s a < N) (h1 : 1 ≤ N) (hN : N ≤ 4194304) (hM : M ≤ 4194304)
    (hf : ∀ W, Below w.heap.size w W → ∀ s a, s < N → a < M → Calls Try.prog 35 #[.agg #[.int .i64 (M : Int), .slice vF lF cF, .slice aN lN cN], .int .i64 (s : Int), .int .i64 (a : Int)] W fun e w' => e = .returned (.int .i64 ((φ s a : Nat) : Int)) ∧ Below W.heap.size W w') :
    Calls Try.prog 33 #[.int .i64 (N : Int), .int .i64 (M : Int), .int .i64 (q0 : Int), .func (.func 35) #[.agg #[.int .i64 (M : Int), .slice vF lF cF, .slice aN lN cN]] #[]] w (NumA w N M q0 φ) := by
  obtain ⟨i9, hi9, hz90, hz91, hz92⟩ := info_parts info3
  obtain ⟨W1, hW1⟩ : ∃ W1, (w.alloc (.cells #[.slice none 0 0, .slice none 0 0, .slice none 0 0] 55)).alloc (.cells #[.int .i64 (-1)] 3) = W1 := ⟨_, rfl⟩
  have HD := hide (two_al w #[.slice none 0 0, .slice none 0 0, .slice none 0 0] #[.int .i64 (-1)] 55 3)
  rw [hW1] at HD
  have TR := repeat_any W1 (w.heap.size + 1) N HD.out.2.2.1 h1 hN
  have HF := hide hf
  have HP := hide hφ
  clear hf hφ
  go_enter Try.func33, Try.ntmps33
  go_upto_region 2 with (go_at_call 54; refine TR.mono ?_; rintro e w2 ⟨gn, rfl, HR⟩)
  obtain ⟨bn, hbn⟩ : ∃ b, w2.heap.size = b := ⟨_, rfl⟩
  obtain ⟨W4, hW4⟩ : ∃ W4, (w2.alloc (.cells #[.slice none 0 0, .slice (some ⟨gn, 0, none⟩) N N, .slice none 0 0] 55)).alloc (.cells #[.int .i64 (M : Int), .func (.func 35) #[.agg #[.int .i64 (M : Int), .slice vF lF cF, .slice aN lN cN]] #[], .func (.func 55) #[] #[.pointer (some ⟨bn, 0, none⟩)]] 83) = W4 := ⟨_, rfl⟩
  have H4 := two_al w2 #[.slice none 0 0, .slice (some ⟨gn, 0, none⟩) N N, .slice none 0 0] #[.int .i64 (M : Int), .func (.func 35) #[.agg #[.int .i64 (M : Int), .slice vF lF cF, .slice aN lN cN]] #[], .func (.func 55) #[] #[.pointer (some ⟨bn, 0, none⟩)]] 55 83
  rw [hW4, hbn] at H4
  have hs1 := HD.out.2.2.2
  have hs2 := HR.out.2.2.size
  have D2 := HD.out.1.trans (HR.out.2.2.mono HD.out.1.size)
  have NU : NuS (w.heap.size + 1) W4 N bn gn (.slice none 0 0) [] := ⟨H4.2.1, owI_nil _ _, (HR.out.2.1.below H4.1 (by rw [← hbn]; exact HR.out.2.1.lt)).congr (fun c _ => by simp [numF]), (by intro e; cases e), by omega, by have := HR.out.1; omega, List.nodup_nil, fun q hq => by cases hq⟩
  have D4 : Below w.heap.size w W4 := D2.trans (H4.1.mono (by omega))
  have c0 : W4.cell? ⟨bn + 1, 0, none⟩ = some (.int .i64 (M : Int)) := cell_of H4.2.2.1 rfl
  have c1 : W4.cell? ⟨bn + 1, 1, none⟩ = some (.func (.func 35) #[.agg #[.int .i64 (M : Int), .slice vF lF cF, .slice aN lN cN]] #[]) := cell_of H4.2.2.1 rfl
  have c2 : W4.cell? ⟨bn + 1, 2, none⟩ = some (.func (.func 55) #[] #[.pointer (some ⟨bn, 0, none⟩)]) := cell_of H4.2.2.1 rfl
  have TN := run_flw (w.heap.size + 1) W4 N M bn gn q0 vF aN lF cF lN cN φ NU hq HP.out hN hM (by have := H4.1.size; omega) (fun W d s a hs ha => HF.out W (D4.trans (d.mono (by omega))) s a hs ha)
  have HB8 := hide (And.intro D4 (blk_on (blk_on HD.out.2.1 HR.out.2.2) (by rw [hbn]; exact H4.1)))
  clear H4 NU D2 D4 TR
  rw [hbn]
  go_upto_region 3 with fail
  go_upto_region 4 with (go_at_call 56; refine TN.mono ?_; rintro e w5 ⟨vS, vT, T, K, rfl, H5⟩; obtain ⟨tT, kT, rfl⟩ := own_slice H5.out.1.rT; obtain ⟨tS, kS, rfl⟩ := own_slice H5.out.2.1; have b5 := H5.out.1.bb; have x2 : w5.cell? ⟨bn, 2, none⟩ = some (.slice none 0 0) := cell_of b5 rfl; have f2 : w5.frozen? ⟨bn, 2, none⟩ = false := fz_of b5)
  obtain ⟨w6, hw6⟩ : ∃ w6, w5.setCell ⟨bn, 2, none⟩ (.slice tS (stepsOf M K).length kS) = w6 := ⟨_, rfl⟩
  have b6 : w6.heap[bn]? = some (.cells #[.slice tT (natI T).length kT, .slice (some ⟨gn, 0, none⟩) N N, .slice tS (stepsOf M K).length kS] 55 (0, 0)) := by rw [← hw6]; exact heap_setCell_same _ _ 2 _ 55 _ b5
  have O6 : Only w5 w6 (fun k => k = bn) := by rw [← hw6]; exact only_set _ _ _ _
  have F5 := (H5.out.2.2.2.2.block w.heap.size (by omega)).trans HB8.out.2
  have hbw : w.heap.size ≠ bn := by omega
  have F3 := (O6.block w.heap.size (Array.getElem?_eq_some_iff.1 F5).1 hbw).trans F5
  have o0 : w6.cell? ⟨w.heap.size, 0, none⟩ = some (.slice none 0 0) := cell_of F3 rfl
  have o1 : w6.cell? ⟨w.heap.size, 1, none⟩ = some (.slice none 0 0) := cell_of F3 rfl
  have o2 : w6.cell? ⟨w.heap.size, 2, none⟩ = some (.slice none 0 0) := cell_of F3 rfl
  have f0 : w6.frozen? ⟨w.heap.size, 0, none⟩ = false := fz_of F3
  have f1 : w6.frozen? ⟨w.heap.size, 1, none⟩ = false := fz_of F3
  have f2' : w6.frozen? ⟨w.heap.size, 2, none⟩ = false := fz_of F3
  have y0 : w6.cell? ⟨bn, 0, none⟩ = some (.slice tT (natI T).length kT) := cell_of b6 rfl
  have y1 : w6.cell? ⟨bn, 1, none⟩ = some (.slice (some ⟨gn, 0, none⟩) N N) := cell_of b6 rfl
  have y2 : w6.cell? ⟨bn, 2, none⟩ = some (.slice tS (stepsOf M K).length kS) := cell_of b6 rfl
  have O8 := hide (And.intro (set3 w6 w.heap.size _ _ _ (.slice tT (natI T).length kT) (.slice (some ⟨gn, 0, none⟩) N N) (.slice tS (stepsOf M K).length kS) 55 F3) (only3 w6 w.heap.size 0 1 2 (.slice tT (natI T).length kT) (.slice (some ⟨gn, 0, none⟩) N N) (.slice tS (stepsOf M K).length kS)))
  have HO6 := hide O6
  have hgw : w.heap.size + 1 ≤ gn := H5.out.1.lg
  have nb : ∀ k, (Value.slice tT (natI T).length kT).ownBlock = some k → k ≠ bn ∧ k ≠ w.heap.size := fun k hk => ⟨fun e => by subst e; exact row_tag H5.out.1.rT b5 (by decide) hk, fun e => by have := (H5.out.1.rT.lt k hk).1; omega⟩
  have nbS : ∀ k, (Value.slice tS (stepsOf M K).length kS).ownBlock = some k → k ≠ bn ∧ k ≠ w.heap.size := fun k hk => ⟨fun e => by subst e; exact row_tag H5.out.2.1 b5 (by decide) hk, fun e => by have := (H5.out.2.1.lt k hk).1; omega⟩
  have ngb : gn ≠ bn := by
    obtain ⟨cur, e3, _⟩ := H5.out.1.rN
    intro e
    rw [e, b5] at e3
    cases e3
  have HN := hide (And.intro nb (And.intro nbS ngb))
  clear F3 F5 O6 b6 b5 nb nbS ngb
  go_wp2_with fail
  refine bodyPost_ret (results_cell_row (p := 8) (ty := 55) rfl _ _ w.heap.size 55 _ (0, 0) _ rfl O8.out.1 Try.underlying55 rfl (by kernel_rfl)) rfl ?_
  obtain ⟨nb, nbS, ngb⟩ := HN.out
  have D5 : Below w.heap.size w w5 := HB8.out.1.trans (H5.out.2.2.2.2.mono (by omega))
  refine ⟨_, gn, _, T, K, rfl, ?_, ?_, ?_, by omega, H5.out.1.ne, H5.out.1.nd, H5.out.1.lt, H5.out.2.2.1, H5.out.2.2.2.1, ?_⟩
  · exact owns_down (row_only (row_only H5.out.1.rT HO6.out (fun k hk e => (nb k hk).1 e)) O8.out.2 (fun k hk e => (nb k hk).2 e)) (by omega)
  · exact (H5.out.1.rN.only HO6.out ngb).only O8.out.2 (by omega)
  · exact owns_down (row_only (row_only H5.out.2.1 HO6.out (fun k hk e => (nbS k hk).1 e)) O8.out.2 (fun k hk e => (nbS k hk).2 e)) (by omega)
  · exact (D5.trans (HO6.out.toBelow D5.size (fun k hk => by omega))).trans (O8.out.2.toBelow (Nat.le_trans D5.size HO6.out.size) (fun k hk => by omega))
/-! ### After -/
/-- Is a state final? -/
def inF (Fi : List Int) (x : Nat) : Bool := decide ((x : Int) ∈ Fi)
theorem vd_nat {N M st : Int} {Fi Nx : List Int} (h : vd N M st Fi Nx = true) : ∃ n m s : Nat, N = n ∧ M = m ∧ st = s ∧ 1 ≤ n ∧ n ≤ 4096 ∧ m < 129 ∧ s < n ∧ Nx.length = n * m ∧ (∀ x ∈ Nx, 0 ≤ x ∧ x < (n : Int)) ∧ (∀ x ∈ Fi, 0 ≤ x ∧ x < (n : Int)) := by
  unfold vd at h
  simp only [Bool.and_eq_true, decide_eq_true_eq] at h
  obtain ⟨⟨⟨⟨⟨⟨h1, h2⟩, h3⟩, h4⟩, h5⟩, h6⟩, h7⟩ := h
  have h3 := inB_iff.1 h3
  have h4 := inB_iff.1 h4
  obtain ⟨n, rfl⟩ := Int.eq_ofNat_of_zero_le (show 0 ≤ N by omega)
  obtain ⟨m, rfl⟩ := Int.eq_ofNat_of_zero_le h3.1
  obtain ⟨s, rfl⟩ := Int.eq_ofNat_of_zero_le h4.1
  refine ⟨n, m, s, rfl, rfl, rfl, by omega, by omega, by omega, by omega, ?_, fun x hx => inB_iff.1 (List.all_eq_true.1 h6 x hx), fun x hx => inB_iff.1 (List.all_eq_true.1 h7 x hx)⟩
  have : ((n * m : Nat) : Int) = (n : Int) * (m : Int) := by simp
  omega
/-! ### Access -/
/-- The word by its number, with fuel. -/
def wdF (M : Nat) (K : List Nat) : Nat → Nat → List Int
  | 0, _ => []
  | _ + 1, 0 => []
  | f + 1, i + 1 => wdF M K f (K.getD i 0 / M) ++ [((K.getD i 0 % M : Nat) : Int)]
/-- The word by its number. -/
def wdK (M : Nat) (K : List Nat) (i : Nat) : List Int := wdF M K i i
theorem wdF_eq {M : Nat} {K : List Nat} (h : ∀ i, i < K.length → K.getD i 0 / M ≤ i) : ∀ (f i : Nat), i ≤ f → i ≤ K.length → wdF M K f i = wdF M K i i := by
  intro f
  induction f using Nat.strongRecOn with
  | _ f ih =>
    intro i hf hi
    cases i with
    | zero => cases f <;> rfl
    | succ i =>
      obtain ⟨f, rfl⟩ : ∃ g, f = g + 1 := ⟨f - 1, by omega⟩
      have hd := h i (by omega)
      show wdF M K f (K.getD i 0 / M) ++ _ = wdF M K i (K.getD i 0 / M) ++ _
      rw [ih f (by omega) _ (by omega) (by omega)]
      rcases Nat.lt_or_ge i f with q | q
      · rw [ih i (by omega) _ hd (by omega)]
      · obtain rfl : f = i := by omega
        rw [ih f (by omega) _ hd (by omega)]
theorem wdK_of {α : Type} {φ : α → Nat → α} {M : Nat} {first : α} {T : List α} {K : List Nat} {c : Nat} (h : Wk φ M first T K c) : WdOf (stepsOf M K) (wdK M K) := by
  have hd : ∀ i, i < K.length → K.getD i 0 / M ≤ i := fun i hi => (h.s i hi).2.1
  intro n hn
  rw [stepsOf_len] at hn
  cases n with
  | zero => exact .inl ⟨by show (-1 : Int) < 0; omega, rfl⟩
  | succ i =>
    have hi : i < K.length := by omega
    have e : (stepsOf M K)[i + 1]'(by rw [stepsOf_len]; omega) = (((K.getD i 0 / M : Nat) : Int), ((K.getD i 0 % M : Nat) : Int)) := by
      simp [stepsOf, List.getD, hi]
    refine .inr ⟨K.getD i 0 / M, ?_, ?_, ?_⟩
    · have := hd i hi; omega
    · rw [e]
    · rw [e]
      show wdF M K i (K.getD i 0 / M) ++ _ = _
      rw [wdF_eq hd i _ (hd i hi) (by have := hd i hi; omega)]
      rfl
theorem mrw_some {W : World} {H : Nat} {t : TypeId} {N : Nat} {val : Nat → Value} (h : Mrw W H t N val 0) : ∃ val', Mrw W H t N val' N := by
  obtain ⟨cur, h1, h2, _⟩ := h
  exact ⟨fun j => (cur[j]?).getD undef, cur, h1, h2, fun j hj => by simp [Array.getElem?_eq_getElem (show j < cur.size by omega)]⟩
theorem Mrw.blk {W : World} {H : Nat} {t : TypeId} {N : Nat} {val : Nat → Value} {k : Nat} (h : Mrw W H t N val k) : ∃ cs, W.heap[H]? = some (.cells cs t (0, 0)) := by
  obtain ⟨cur, h1, _⟩ := h
  exact ⟨cur, h1⟩
/-- Words in a row: the word of the number i at the place of the state that it leads to. -/
structure WdR (W : World) (B g N : Nat) (T : List Nat) (wd : Nat → List Int) (k : Nat) (val : Nat → Value) : Prop where
  rw : Mrw W g 22 N val N
  wd : ∀ i x, i < k → T[i]? = some x → OwI W B (val x) (wd i)
  ap : ∀ (i j x y : Nat), i < j → j < k → T[i]? = some x → T[j]? = some y → ∀ q, (val x).ownBlock = some q → (val y).ownBlock ≠ some q
set_option maxRecDepth 100000 in
set_option maxHeartbeats 2000000 in
theorem access_ok (w : World) (N M st : Nat) (aF aN : Option Addr) (lF cF lN cN : Nat) (Fi Nx : List Int) (hF : RdN w aF Fi) (hN : RdN w aN Nx) (hlF : Fi.length = lF) (hlN : Nx.length = lN) (bF : lF ≤ 4194304) (bN : lN ≤ 4194304) (hv : vd N M st Fi Nx = true) :
    Calls Try.prog 10 #[.agg #[.int .i64 (N : Int), .int .i64 (M : Int), .int .i64 (st : Int), .slice aF lF cF, .slice aN lN cN]] w fun e w' => ∃ T K, Hid (Wk (dl Nx M) M st T K (T.length * M) ∧ Cv (dl Nx M) M T K (T.length * M) ∧ T.Nodup ∧ (∀ q ∈ T, q < N) ∧ Below w.heap.size w w') ∧
      (T.length < N ∧ e = .returned (.tuple #[.slice none 0 0, .int .i64 60]) ∨ T.length = N ∧ ∃ g val, e = .returned (.tuple #[.slice (some ⟨g, 0, none⟩) N N, .int .i64 0]) ∧ Hid (w.heap.size ≤ g ∧ WdR w' w.heap.size g N T (wdK M K) N val)) := by
  obtain ⟨n, m, s, en, em, es, n1, n2, m1, s1, e1, i1, i2⟩ := vd_nat hv
  obtain rfl : N = n := by omega
  obtain rfl : M = m := by omega
  obtain rfl : st = s := by omega
  clear en em es
  have bNM : N * M ≤ 4194304 := by rw [← e1, hlN]; exact bN
  have eNM : lN = N * M := by rw [← hlN]; exact e1
  obtain ⟨W0, hW0⟩ : ∃ W0, w.alloc (.cells #[.int .i64 (N : Int), .int .i64 (M : Int), .int .i64 (st : Int), .slice aF lF cF, .slice aN lN cN] 24) = W0 := ⟨_, rfl⟩
  have d0 : Below w.heap.size w W0 := by rw [← hW0]; exact (Below.refl _ _).alloc (Nat.le_refl _) _
  have B0 : W0.heap[w.heap.size]? = some (.cells #[.int .i64 (N : Int), .int .i64 (M : Int), .int .i64 (st : Int), .slice aF lF cF, .slice aN lN cN] 24 (0, 0)) := by rw [← hW0]; exact World.alloc_heap_new _ _
  have k0 : W0.cell? ⟨w.heap.size, 0, none⟩ = some (.int .i64 (N : Int)) := cell_of B0 rfl
  have k1 : W0.cell? ⟨w.heap.size, 1, none⟩ = some (.int .i64 (M : Int)) := cell_of B0 rfl
  have k2 : W0.cell? ⟨w.heap.size, 2, none⟩ = some (.int .i64 (st : Int)) := cell_of B0 rfl
  have k3 : W0.cell? ⟨w.heap.size, 3, none⟩ = some (.slice aF lF cF) := cell_of B0 rfl
  have k4 : W0.cell? ⟨w.heap.size, 4, none⟩ = some (.slice aN lN cN) := cell_of B0 rfl
  have TV : Hid (Calls Try.prog 31 #[.agg #[.int .i64 (N : Int), .int .i64 (M : Int), .int .i64 (st : Int), .slice aF lF cF, .slice aN lN cN]] W0 fun e w' => e = .returned (.int .i64 0) ∧ Below W0.heap.size W0 w') := hide (by
    have := valid_any W0 N M st aF aN lF cF lN cN Fi Nx (hF.on d0) (hN.on d0) hlF hlN bF bN
    rw [if_pos hv] at this
    exact this)
  have TO : Hid (∀ W, Below W0.heap.size W0 W → Calls Try.prog 34 #[.agg #[.int .i64 (N : Int), .int .i64 (M : Int), .int .i64 (st : Int), .slice aF lF cF, .slice aN lN cN]] W fun e w' => ∃ gf, e = .returned (.agg #[.int .i64 (M : Int), .slice (some ⟨gf, 0, none⟩) N N, .slice aN lN cN]) ∧ Below W.heap.size W w') := hide (fun W d => (tableOf_any W N M lF cF lN cN st aF aN Fi ((hF.on d0).on d) hlF i2 bF (by omega)).mono fun e w' ⟨gf, h1, h2, h3⟩ => ⟨gf, h1, h3⟩)
  have TN : Hid (∀ W, Below W0.heap.size W0 W → ∀ gf, Calls Try.prog 33 #[.int .i64 (N : Int), .int .i64 (M : Int), .int .i64 (st : Int), .func (.func 35) #[.agg #[.int .i64 (M : Int), .slice (some ⟨gf, 0, none⟩) N N, .slice aN lN cN]] #[]] W (NumA W N M st (dl Nx M))) := hide (fun W d gf => number_flw W N M st (some ⟨gf, 0, none⟩) aN N N lN cN (dl Nx M) s1 (fun s a hs ha => (dl_spec e1 i1 hs ha).2.2) n1 (by omega) (by omega) (fun W' d' s a hs ha => follow_rd W' M N s a lN cN (some ⟨gf, 0, none⟩) N N aN Nx ((hN.on d0).on (d.trans (d'.mono d.size))) e1 i1 eNM hs ha bNM (by omega) (by omega)))
  have HD := hide (And.intro d0 B0)
  clear d0 B0 hF hN hlF hlN e1 i1 i2 hv bF bN eNM bNM
  go_enter Try.func10, Try.ntmps10
  go_upto_region 4 with (go_at_call 31; refine TV.out.mono ?_; rintro e w2 ⟨rfl, HB⟩)
  have HB2 := hide (And.intro (HD.out.1.trans (HB.mono HD.out.1.size)) (blk_on HD.out.2 HB))
  have HBB := hide HB
  have q0 : w2.cell? ⟨w.heap.size, 0, none⟩ = some (.int .i64 (N : Int)) := cell_of HB2.out.2 rfl
  have q1 : w2.cell? ⟨w.heap.size, 1, none⟩ = some (.int .i64 (M : Int)) := cell_of HB2.out.2 rfl
  have q2 : w2.cell? ⟨w.heap.size, 2, none⟩ = some (.int .i64 (st : Int)) := cell_of HB2.out.2 rfl
  have q3 : w2.cell? ⟨w.heap.size, 3, none⟩ = some (.slice aF lF cF) := cell_of HB2.out.2 rfl
  have q4 : w2.cell? ⟨w.heap.size, 4, none⟩ = some (.slice aN lN cN) := cell_of HB2.out.2 rfl
  clear k0 k1 k2 k3 k4 HB TV
  go_cut [5] from 5 to 23 (fun p5 W => ∃ b vT gn vS T K, p5 = .pointer (some ⟨b, 0, none⟩) ∧ Hid (w.heap.size ≤ b ∧ W.heap[b]? = some (.cells #[vT, .slice (some ⟨gn, 0, none⟩) N N, vS] 55 (0, 0)) ∧ OwI W w.heap.size vT (natI T) ∧ OwS W w.heap.size vS (stepsOf M K) ∧ T.Nodup ∧ (∀ q ∈ T, q < N) ∧ Wk (dl Nx M) M st T K (T.length * M) ∧ Cv (dl Nx M) M T K (T.length * M) ∧ Below w2.heap.size w2 W))
  case first =>
    have KK : Hid (∀ W, Below w2.heap.size w2 W → W.cell? ⟨w.heap.size, 0, none⟩ = some (.int .i64 (N : Int)) ∧ W.cell? ⟨w.heap.size, 1, none⟩ = some (.int .i64 (M : Int)) ∧ W.cell? ⟨w.heap.size, 2, none⟩ = some (.int .i64 (st : Int)) ∧ W.cell? ⟨w.heap.size, 3, none⟩ = some (.slice aF lF cF) ∧ W.cell? ⟨w.heap.size, 4, none⟩ = some (.slice aN lN cN) ∧ Hid (Below w2.heap.size w2 W)) := hide (fun W d => ⟨cell_of (blk_on HB2.out.2 d) rfl, cell_of (blk_on HB2.out.2 d) rfl, cell_of (blk_on HB2.out.2 d) rfl, cell_of (blk_on HB2.out.2 d) rfl, cell_of (blk_on HB2.out.2 d) rfl, hide d⟩)
    have D1 : Hid (Below w2.heap.size w2 (w2.drew.alloc (.cells #[.slice none 0 0, .slice none 0 0, .slice none 0 0] 55))) := hide (((Below.refl _ _).drew).alloc (Nat.le_refl _) _)
    have DB1 : Hid ((w2.drew.alloc (.cells #[.slice none 0 0, .slice none 0 0, .slice none 0 0] 55)).heap[w2.heap.size]? = some (.cells #[.slice none 0 0, .slice none 0 0, .slice none 0 0] 55 (0, 0))) := hide (World.alloc_heap_new w2.drew _)
    have DR : Hid (Below w2.heap.size w2 w2.drew) := hide (Below.refl _ _).drew
    have SR := KK.out w2.drew DR.out
    have S1 := KK.out _ D1.out
    go_region_held3 (fun W => W.cell? ⟨w.heap.size, 0, none⟩ = some (.int .i64 (N : Int)) ∧ W.cell? ⟨w.heap.size, 1, none⟩ = some (.int .i64 (M : Int)) ∧ W.cell? ⟨w.heap.size, 2, none⟩ = some (.int .i64 (st : Int)) ∧ W.cell? ⟨w.heap.size, 3, none⟩ = some (.slice aF lF cF) ∧ W.cell? ⟨w.heap.size, 4, none⟩ = some (.slice aN lN cN) ∧ Hid (Below w2.heap.size w2 W))
      (first | exact SR | exact S1 | exact S4 | exact S3 | exact SA3 | exact KK.out _ (D4.out.trans ((only3 w4 w3.heap.size 0 1 2 _ _ _).toBelow D4.out.size (fun k hk => by have := D3.out.size; omega))) | exact KK.out _ (D4.out.trans ((only3 w4 w2.heap.size 0 1 2 _ _ _).toBelow D4.out.size (fun k hk => by omega))) | exact KK.out _ (D4.out.alloc D4.out.size _))
      (first
        | (go_at_call 34; refine (TO.out (w2.drew.alloc (.cells #[.slice none 0 0, .slice none 0 0, .slice none 0 0] 55)) (HBB.out.trans (D1.out.mono HBB.out.size))).mono ?_; rintro e w3 ⟨gf, rfl, d3⟩; have D3 := hide (D1.out.trans (d3.mono D1.out.size)); have BX3 := hide (blk_on DB1.out d3); have S3 := KK.out w3 D3.out; clear d3)
        | (go_at_call 34; refine (TO.out w2.drew (HBB.out.trans (DR.out.mono HBB.out.size))).mono ?_; rintro e w3 ⟨gf, rfl, d3⟩; have D3 := hide (DR.out.trans (d3.mono DR.out.size)); have S3 := KK.out w3 D3.out; have SA3 := KK.out _ (D3.out.alloc D3.out.size (.cells #[.slice none 0 0, .slice none 0 0, .slice none 0 0] 55)); clear d3)
        | (go_at_call 33; refine (TN.out (w3.alloc (.cells #[.slice none 0 0, .slice none 0 0, .slice none 0 0] 55)) (HBB.out.trans ((D3.out.alloc D3.out.size _).mono HBB.out.size)) gf).mono ?_; rintro e w4 ⟨vT, gn, vS, T, K, rfl, hT, hR, hS, -, -, hnd, hlt, hwk, hcv, d4⟩; obtain ⟨tT, kT, rfl⟩ := own_slice hT; obtain ⟨tS, kS, rfl⟩ := own_slice hS; have D4 := hide ((D3.out.alloc D3.out.size (.cells #[.slice none 0 0, .slice none 0 0, .slice none 0 0] 55)).trans (d4.mono (D3.out.alloc D3.out.size (.cells #[.slice none 0 0, .slice none 0 0, .slice none 0 0] 55)).size)); have BX4 := hide (blk_on (World.alloc_heap_new w3 (.cells #[.slice none 0 0, .slice none 0 0, .slice none 0 0] 55)) d4); have bx0 : w4.cell? ⟨w3.heap.size, 0, none⟩ = some (.slice none 0 0) := cell_of BX4.out rfl; have bx1 : w4.cell? ⟨w3.heap.size, 1, none⟩ = some (.slice none 0 0) := cell_of BX4.out rfl; have bx2 : w4.cell? ⟨w3.heap.size, 2, none⟩ = some (.slice none 0 0) := cell_of BX4.out rfl; have fx0 : w4.frozen? ⟨w3.heap.size, 0, none⟩ = false := fz_of BX4.out; have fx1 : w4.frozen? ⟨w3.heap.size, 1, none⟩ = false := fz_of BX4.out; have fx2 : w4.frozen? ⟨w3.heap.size, 2, none⟩ = false := fz_of BX4.out; have HN4 := hide (And.intro (owns_down (C := w.heap.size) hT (by have := (D3.out.alloc D3.out.size (.cells #[.slice none 0 0, .slice none 0 0, .slice none 0 0] 55)).size; have := HB2.out.1.size; omega)) (And.intro (owns_down (C := w.heap.size) hS (by have := (D3.out.alloc D3.out.size (.cells #[.slice none 0 0, .slice none 0 0, .slice none 0 0] 55)).size; have := HB2.out.1.size; omega)) (And.intro hnd (And.intro hlt (And.intro hwk hcv))))); have S4 := KK.out w4 D4.out; clear hT hR hS hnd hlt hwk hcv d4)
        | (go_at_call 33; refine (TN.out w3 (HBB.out.trans (D3.out.mono HBB.out.size)) gf).mono ?_; rintro e w4 ⟨vT, gn, vS, T, K, rfl, hT, hR, hS, -, -, hnd, hlt, hwk, hcv, d4⟩; obtain ⟨tT, kT, rfl⟩ := own_slice hT; obtain ⟨tS, kS, rfl⟩ := own_slice hS; have D4 := hide (D3.out.trans (d4.mono D3.out.size)); have BX4 := hide (blk_on BX3.out d4); have bx0 : w4.cell? ⟨w2.heap.size, 0, none⟩ = some (.slice none 0 0) := cell_of BX4.out rfl; have bx1 : w4.cell? ⟨w2.heap.size, 1, none⟩ = some (.slice none 0 0) := cell_of BX4.out rfl; have bx2 : w4.cell? ⟨w2.heap.size, 2, none⟩ = some (.slice none 0 0) := cell_of BX4.out rfl; have fx0 : w4.frozen? ⟨w2.heap.size, 0, none⟩ = false := fz_of BX4.out; have fx1 : w4.frozen? ⟨w2.heap.size, 1, none⟩ = false := fz_of BX4.out; have fx2 : w4.frozen? ⟨w2.heap.size, 2, none⟩ = false := fz_of BX4.out; have HN4 := hide (And.intro (owns_down (C := w.heap.size) hT (by have := D3.out.size; have := HB2.out.1.size; omega)) (And.intro (owns_down (C := w.heap.size) hS (by have := D3.out.size; have := HB2.out.1.size; omega)) (And.intro hnd (And.intro hlt (And.intro hwk hcv))))); have S4 := KK.out w4 D4.out; clear hT hR hS hnd hlt hwk hcv d4)
        | (go_at_call 33; refine (TN.out w3 (HBB.out.trans (D3.out.mono HBB.out.size)) gf).mono ?_; rintro e w4 ⟨vT, gn, vS, T, K, rfl, hT, hR, hS, -, -, hnd, hlt, hwk, hcv, d4⟩; obtain ⟨tT, kT, rfl⟩ := own_slice hT; obtain ⟨tS, kS, rfl⟩ := own_slice hS; have D4 := hide (D3.out.trans (d4.mono D3.out.size)); have HN4 := hide (And.intro (owns_down (C := w.heap.size) hT (by have := D3.out.size; have := HB2.out.1.size; omega)) (And.intro (owns_down (C := w.heap.size) hS (by have := D3.out.size; have := HB2.out.1.size; omega)) (And.intro hnd (And.intro hlt (And.intro hwk hcv))))); have S4 := KK.out w4 D4.out; clear hT hR hS hnd hlt hwk hcv d4))
    · go_wp2_with fail
      (go_meet; have A4 := (Below.refl w4.heap.size w4).alloc (Nat.le_refl _) (.cells #[.slice tT (natI T).length kT, .slice (some ⟨gn, 0, none⟩) N N, .slice tS (stepsOf M K).length kS] 55); exact ⟨w4.heap.size, .slice tT (natI T).length kT, gn, .slice tS (stepsOf M K).length kS, T, K, rfl, hide ⟨by have := D4.out.size; have := HB2.out.1.size; omega, World.alloc_heap_new _ _, own_below HN4.out.1 A4, own_below HN4.out.2.1 A4, HN4.out.2.2.1, HN4.out.2.2.2.1, HN4.out.2.2.2.2.1, HN4.out.2.2.2.2.2, D4.out.trans (A4.mono D4.out.size)⟩⟩)
    · go_wp2_with fail
      (go_meet; have Z4 := set3 w4 w3.heap.size _ _ _ (.slice tT (natI T).length kT) (.slice (some ⟨gn, 0, none⟩) N N) (.slice tS (stepsOf M K).length kS) 55 BX4.out; have O4 := only3 w4 w3.heap.size 0 1 2 (.slice tT (natI T).length kT) (.slice (some ⟨gn, 0, none⟩) N N) (.slice tS (stepsOf M K).length kS); exact ⟨w3.heap.size, .slice tT (natI T).length kT, gn, .slice tS (stepsOf M K).length kS, T, K, rfl, hide ⟨by have := D3.out.size; have := HB2.out.1.size; omega, Z4, own_keep HN4.out.1 BX4.out (by decide) O4, own_keep HN4.out.2.1 BX4.out (by decide) O4, HN4.out.2.2.1, HN4.out.2.2.2.1, HN4.out.2.2.2.2.1, HN4.out.2.2.2.2.2, D4.out.trans (O4.toBelow D4.out.size (fun k hk => by have := D3.out.size; omega))⟩⟩)
    · go_wp2_with fail
      (go_meet; have Z4 := set3 w4 w3.heap.size _ _ _ (.slice tT (natI T).length kT) (.slice (some ⟨gn, 0, none⟩) N N) (.slice tS (stepsOf M K).length kS) 55 BX4.out; have O4 := only3 w4 w3.heap.size 0 1 2 (.slice tT (natI T).length kT) (.slice (some ⟨gn, 0, none⟩) N N) (.slice tS (stepsOf M K).length kS); exact ⟨w3.heap.size, .slice tT (natI T).length kT, gn, .slice tS (stepsOf M K).length kS, T, K, rfl, hide ⟨by have := D3.out.size; have := HB2.out.1.size; omega, Z4, own_keep HN4.out.1 BX4.out (by decide) O4, own_keep HN4.out.2.1 BX4.out (by decide) O4, HN4.out.2.2.1, HN4.out.2.2.2.1, HN4.out.2.2.2.2.1, HN4.out.2.2.2.2.2, D4.out.trans (O4.toBelow D4.out.size (fun k hk => by have := D3.out.size; omega))⟩⟩)
    · go_wp2_with fail
      (go_meet; have Z4 := set3 w4 w2.heap.size _ _ _ (.slice tT (natI T).length kT) (.slice (some ⟨gn, 0, none⟩) N N) (.slice tS (stepsOf M K).length kS) 55 BX4.out; have O4 := only3 w4 w2.heap.size 0 1 2 (.slice tT (natI T).length kT) (.slice (some ⟨gn, 0, none⟩) N N) (.slice tS (stepsOf M K).length kS); exact ⟨w2.heap.size, .slice tT (natI T).length kT, gn, .slice tS (stepsOf M K).length kS, T, K, rfl, hide ⟨by have := HB2.out.1.size; omega, Z4, own_keep HN4.out.1 BX4.out (by decide) O4, own_keep HN4.out.2.1 BX4.out (by decide) O4, HN4.out.2.2.1, HN4.out.2.2.2.1, HN4.out.2.2.2.2.1, HN4.out.2.2.2.2.2, D4.out.trans (O4.toBelow D4.out.size (fun k hk => by have := D3.out.size; omega))⟩⟩)
  case rest =>
    obtain ⟨b, vT, gn, vS, T, K, rfl, HX⟩ := hcut
    rename World => wx
    clear q0 q1 q2 q3 q4 TO TN
    obtain ⟨tT, kT, rfl⟩ := own_slice HX.out.2.2.1
    obtain ⟨tS, kS, rfl⟩ := own_slice HX.out.2.2.2.1
    have hTN := nodup_le HX.out.2.2.2.2.1 HX.out.2.2.2.2.2.1
    have hnl := natI_len T
    have y0 : wx.cell? ⟨b, 0, none⟩ = some (.slice tT T.length kT) := by
      have := cell_of HX.out.2.1 (j := 0) (v := .slice tT (natI T).length kT) rfl
      rw [hnl] at this
      exact this
    have B1 := blk_on HB2.out.2 HX.out.2.2.2.2.2.2.2.2
    have y1 : wx.cell? ⟨w.heap.size, 0, none⟩ = some (.int .i64 (N : Int)) := cell_of B1 rfl
    have Dx := HB2.out.1.trans (HX.out.2.2.2.2.2.2.2.2.mono HB2.out.1.size)
    have HDx := hide Dx
    clear B1 Dx hnl
    by_cases hlt : T.length < N
    · have l0 : (T.length : Int) < (N : Int) := by omega
      go_wp2_with fail
      go_ret2
      exact ⟨T, K, hide ⟨HX.out.2.2.2.2.2.2.1, HX.out.2.2.2.2.2.2.2.1, HX.out.2.2.2.2.1, HX.out.2.2.2.2.2.1, HDx.out⟩, Or.inl ⟨hlt, rfl⟩⟩
    · have l0 : ¬ (T.length : Int) < (N : Int) := by omega
      have eTN : T.length = N := by omega
      have eKN : K.length + 1 = N := by rw [← HX.out.2.2.2.2.2.2.1.l]; exact eTN
      obtain ⟨i22, hi22, hz220, hz221, hz222⟩ := info_parts info22
      rw [eTN] at l0 y0
      have HE := hide (And.intro eTN eKN)
      clear eTN eKN hlt hTN
      go_upto_region 7 with fail
      go_upto_region 8 with (at_make; refine wpList_make_full _ rfl _ _ 32 rfl w.heap.size 22 i22 (.slice none 0 0) 1 Try.underlying32 hi22 hz220 hz221 _ _ _ _ N rfl rfl rfl rfl (by rw [hz222]; omega) (by unfold maxLen; omega) HDx.out.size ?_; intro w1 ho hg)
      have D1 : Below wx.heap.size wx w1 := (Below.refl _ _).grown hg (Nat.le_refl _) (by intro k hk; cases hk)
      obtain ⟨val0, M0⟩ := mrw_some (Mrw.ofRow (fun _ => undef) ho)
      rw [Nat.mul_one] at M0
      have hgw := HDx.out.size
      obtain ⟨g, hgg⟩ : ∃ g, wx.heap.size = g := ⟨_, rfl⟩
      have J0 : Hid (WdR w1 w.heap.size g N T (wdK M K) 0 val0 ∧ w1.heap[b]? = some (.cells #[.slice tT (natI T).length kT, .slice (some ⟨gn, 0, none⟩) N N, .slice tS (stepsOf M K).length kS] 55 (0, 0)) ∧ OwI w1 w.heap.size (.slice tT (natI T).length kT) (natI T) ∧ OwS w1 w.heap.size (.slice tS (stepsOf M K).length kS) (stepsOf M K) ∧ Below w.heap.size w w1) := hide ⟨⟨by rw [← hgg]; exact M0, fun i x hi => by omega, fun i j x y _ hj => by omega⟩, blk_on HX.out.2.1 D1, own_below HX.out.2.2.1 D1, own_below HX.out.2.2.2.1 D1, HDx.out.trans (D1.mono hgw)⟩
      have z0 : w1.cell? ⟨b, 0, none⟩ = some (.slice tT N kT) := by
        have := cell_of J0.out.2.1 (j := 0) (v := .slice tT (natI T).length kT) rfl
        rw [natI_len, HE.out.1] at this
        exact this
      rw [hgg]
      rw [hgg] at hgw
      clear D1 M0 ho hg y0 y1 hi22 hz220 hz221 hz222 hgg
      go_wp2_with fail
      clear z0
      go_loopw [36] (fun iv wr => ∃ i : Nat, i ≤ N ∧ iv = .int .i64 (i : Int) ∧ ∃ val, Hid (WdR wr w.heap.size g N T (wdK M K) i val ∧ wr.heap[b]? = some (.cells #[.slice tT (natI T).length kT, .slice (some ⟨gn, 0, none⟩) N N, .slice tS (stepsOf M K).length kS] 55 (0, 0)) ∧ OwI wr w.heap.size (.slice tT (natI T).length kT) (natI T) ∧ OwS wr w.heap.size (.slice tS (stepsOf M K).length kS) (stepsOf M K) ∧ Below w.heap.size w wr)) (fun iv _ => N - (intOf iv).toNat)
      case atStart => exact ⟨0, Nat.zero_le _, rfl, val0, J0⟩
      case round =>
        clear J0
        obtain ⟨i, hi, rfl, val, HY⟩ := hrel
        by_cases hlt : i < N
        · have l0 : (i : Int) < (N : Int) := by omega
          have l1 : (0 : Int) ≤ (i : Int) := by omega
          have hiT : i < T.length := by rw [HE.out.1]; exact hlt
          obtain ⟨x, hx⟩ : ∃ x, T[i] = x := ⟨_, rfl⟩
          have hxN : x < N := by rw [← hx]; exact HX.out.2.2.2.2.2.1 _ (List.getElem_mem hiT)
          have HXI := hide (show T[i]? = some x by rw [List.getElem?_eq_getElem hiT, hx])
          obtain ⟨em, hrd⟩ := owI_rd HY.out.2.2.1
          obtain ⟨gT, oT, et, r1⟩ := hrd i (by rw [natI_len]; exact hiT)
          subst et
          have ex : (natI T)[i]'(by rw [natI_len]; exact hiT) = (x : Int) := by simp [natI, hx]
          rw [ex] at r1
          have TW := word_any wr tS (stepsOf M K).length kS i (stepsOf M K) (wdK M K) rfl (owS_rd HY.out.2.2.2.1).2 (wdK_of HX.out.2.2.2.2.2.2.1) (by rw [stepsOf_len, HE.out.2]; exact hlt) (by rw [stepsOf_len, HE.out.2]; omega)
          have z2 : wr.cell? ⟨b, 2, none⟩ = some (.slice tS (stepsOf M K).length kS) := cell_of HY.out.2.1 rfl
          have x0 : (0 : Int) ≤ (x : Int) := by omega
          have x1 : (x : Int) < (N : Int) := by omega
          obtain ⟨lS, hlS⟩ : ∃ l, (stepsOf M K).length = l := ⟨_, rfl⟩
          rw [hlS] at TW z2
          have HLS := hide hlS
          clear hx hiT hrd em ex hlS
          go_upto_region 11 with fail
          go_wp2_with (go_at_call 36; refine TW.mono ?_; rintro e w4 ⟨bW, mW, kW, rfl, hW, d4⟩; have G4 : Hid (Mrw w4 g 22 N val N ∧ OwI w4 wr.heap.size (.slice bW mW kW) (wdK M K i) ∧ Below wr.heap.size wr w4) := hide ⟨HY.out.1.rw.below d4 HY.out.1.rw.lt, hW.out, d4⟩; obtain ⟨uG, g4⟩ := G4.out.1.cell x hxN; have fG : w4.frozen? ⟨g, x, none⟩ = false := G4.out.1.fz x; clear hW d4)
          go_roundw
          case rel =>
            refine ⟨i + 1, by omega, by go_num, fun c => if c = x then .slice bW mW kW else val c, hide ?_⟩
            obtain ⟨csG, eG⟩ := G4.out.1.blk
            have O4 := only_set w4 g x (.slice bW mW kW)
            have hBw := HY.out.2.2.2.2.size
            have gne : g ≠ b := fun e => by
              subst e
              have := blk_on HY.out.2.1 G4.out.2.2
              rw [eG] at this
              cases this
            refine ⟨⟨G4.out.1.upd x _, fun q y hq hy => ?_, fun q r y z hqr hr hy hz k hk => ?_⟩, ?_, own_keep (own_below HY.out.2.2.1 G4.out.2.2) eG (by decide) O4, own_keep (own_below HY.out.2.2.2.1 G4.out.2.2) eG (by decide) O4, ?_⟩
            · by_cases e : q = i
              · subst e
                have : x = y := by
                  have := HXI.out
                  rw [hy] at this
                  simpa using this.symm
                subst this
                rw [if_pos rfl]
                exact own_keep (owns_down G4.out.2.1 hBw) eG (by decide) O4
              · have hne : y ≠ x := fun e2 => e (by
                  subst e2
                  exact (List.getElem?_inj (List.getElem?_eq_some_iff.1 hy).1 HX.out.2.2.2.2.1).1 (hy.trans HXI.out.symm))
                rw [if_neg hne]
                exact own_keep (own_below (HY.out.1.wd q y (by omega) hy) G4.out.2.2) eG (by decide) O4
            · have ne : ∀ p v, T[p]? = some v → p ≠ i → v ≠ x := fun p v hv e e2 => e (by
                subst e2
                exact (List.getElem?_inj (List.getElem?_eq_some_iff.1 hv).1 HX.out.2.2.2.2.1).1 (hv.trans HXI.out.symm))
              have hyx := ne q y hy (by omega)
              have hk : (if y = x then Value.slice bW mW kW else val y).ownBlock = some k := hk
              rw [if_neg hyx] at hk
              show (if z = x then Value.slice bW mW kW else val z).ownBlock ≠ some k
              by_cases e : r = i
              · have hzx : z = x := by
                  have h := HXI.out
                  rw [← e, hz] at h
                  simpa using h
                rw [if_pos hzx]
                intro h
                have z1 := (G4.out.2.1.lt k h).1
                have z2 := ((HY.out.1.wd q y (by omega) hy).lt k hk).2
                omega
              · rw [if_neg (ne r z hz e)]
                exact HY.out.1.ap q r y z hqr (by omega) hy hz k hk
            · exact (O4.block b (Array.getElem?_eq_some_iff.1 (blk_on HY.out.2.1 G4.out.2.2)).1 (fun e => gne e.symm)).trans (blk_on HY.out.2.1 G4.out.2.2)
            · exact (HY.out.2.2.2.2.trans (G4.out.2.2.mono hBw)).trans (O4.toBelow (Nat.le_trans hBw G4.out.2.2.size) (fun k hk => by omega))
          case measure => simp [intOf]; omega
        · have l0 : ¬ (i : Int) < (N : Int) := by omega
          obtain rfl : i = N := by omega
          go_wp2_with fail
          go_ret2
          exact ⟨T, K, hide ⟨HX.out.2.2.2.2.2.2.1, HX.out.2.2.2.2.2.2.2.1, HX.out.2.2.2.2.1, HX.out.2.2.2.2.2.1, HY.out.2.2.2.2⟩, Or.inr ⟨HE.out.1, g, rfl, val, hide ⟨hgw, HY.out.1⟩⟩⟩
/-! ### The words in their order -/
/-- The rank of a word: shorter first, then by the symbols. -/
def rkF (M : Nat) (r : Nat) (w : List Nat) : Nat := w.foldl (fun r a => M * r + a + 1) r
def rk (M : Nat) (w : List Nat) : Nat := rkF M 0 w
theorem rk_snoc (M : Nat) (w : List Nat) (a : Nat) : rk M (w ++ [a]) = M * rk M w + a + 1 := by simp [rk, rkF]
/-- As many numbers as there are shorter words. -/
def shorter (M : Nat) : Nat → Nat
  | 0 => 0
  | n + 1 => M * shorter M n + 1
theorem rkF_len {M : Nat} : ∀ (A : List Nat) (r n : Nat), (∀ a ∈ A, a < M) → shorter M n ≤ r → r < shorter M (n + 1) → shorter M (n + A.length) ≤ rkF M r A ∧ rkF M r A < shorter M (n + A.length + 1)
  | [], r, n, _, h1, h2 => ⟨h1, h2⟩
  | x :: A, r, n, hA, h1, h2 => by
    have hx := hA x (by simp)
    have e1 : M * shorter M n ≤ M * r := Nat.mul_le_mul_left M h1
    have e2 : M * (r + 1) ≤ M * shorter M (n + 1) := Nat.mul_le_mul_left M h2
    rw [Nat.mul_add] at e2
    have := rkF_len A (M * r + x + 1) (n + 1) (fun a ha => hA a (by simp [ha])) (show M * shorter M n + 1 ≤ _ by omega) (show _ < M * shorter M (n + 1) + 1 by omega)
    rw [show n + (x :: A).length = n + 1 + A.length by simp; omega]
    exact this
theorem shorter_mono {M : Nat} (hM : 0 < M) : ∀ (n k : Nat), shorter M n ≤ shorter M (n + k)
  | _, 0 => Nat.le_refl _
  | n, k + 1 => by
    refine Nat.le_trans (shorter_mono hM n k) ?_
    show shorter M (n + k) ≤ M * shorter M (n + k) + 1
    have : 1 * shorter M (n + k) ≤ M * shorter M (n + k) := Nat.mul_le_mul_right _ hM
    omega
theorem rk_len {M : Nat} (hM : 0 < M) {A B : List Nat} (hA : ∀ a ∈ A, a < M) (hB : ∀ b ∈ B, b < M) (h : A.length < B.length) : rk M A < rk M B := by
  have h1 := (rkF_len A 0 0 hA (Nat.le_refl _) (by show 0 < M * 0 + 1; omega)).2
  have h2 := (rkF_len B 0 0 hB (Nat.le_refl _) (by show 0 < M * 0 + 1; omega)).1
  have h3 := shorter_mono hM (0 + A.length + 1) (B.length - (A.length + 1))
  rw [show 0 + A.length + 1 + (B.length - (A.length + 1)) = 0 + B.length by omega] at h3
  unfold rk
  omega
/-- The word by its number, of plain numbers. -/
def wnF (M : Nat) (K : List Nat) : Nat → Nat → List Nat
  | 0, _ => []
  | _ + 1, 0 => []
  | f + 1, i + 1 => wnF M K f (K.getD i 0 / M) ++ [K.getD i 0 % M]
def wnK (M : Nat) (K : List Nat) (i : Nat) : List Nat := wnF M K i i
theorem wnF_map (M : Nat) (K : List Nat) : ∀ (f i : Nat), (wnF M K f i).map (fun (a : Nat) => (a : Int)) = wdF M K f i
  | 0, _ => rfl
  | _ + 1, 0 => rfl
  | f + 1, i + 1 => by
    show (wnF M K f (K.getD i 0 / M) ++ [K.getD i 0 % M]).map _ = wdF M K f (K.getD i 0 / M) ++ [((K.getD i 0 % M : Nat) : Int)]
    rw [List.map_append, wnF_map M K f]
    rfl
theorem wnK_map (M : Nat) (K : List Nat) (i : Nat) : (wnK M K i).map (fun (a : Nat) => (a : Int)) = wdK M K i := wnF_map M K i i
theorem wnF_eq {M : Nat} {K : List Nat} (h : ∀ i, i < K.length → K.getD i 0 / M ≤ i) : ∀ (f i : Nat), i ≤ f → i ≤ K.length → wnF M K f i = wnF M K i i := by
  intro f
  induction f using Nat.strongRecOn with
  | _ f ih =>
    intro i hf hi
    cases i with
    | zero => cases f <;> rfl
    | succ i =>
      obtain ⟨f, rfl⟩ : ∃ g, f = g + 1 := ⟨f - 1, by omega⟩
      have hd := h i (by omega)
      show wnF M K f (K.getD i 0 / M) ++ _ = wnF M K i (K.getD i 0 / M) ++ _
      rw [ih f (by omega) _ (by omega) (by omega)]
      rcases Nat.lt_or_ge i f with q | q
      · rw [ih i (by omega) _ hd (by omega)]
      · obtain rfl : f = i := by omega
        rw [ih f (by omega) _ hd (by omega)]
theorem wnK_succ {M : Nat} {K : List Nat} (h : ∀ i, i < K.length → K.getD i 0 / M ≤ i) {i : Nat} (hi : i < K.length) : wnK M K (i + 1) = wnK M K (K.getD i 0 / M) ++ [K.getD i 0 % M] := by
  show wnF M K i (K.getD i 0 / M) ++ _ = _
  rw [wnF_eq h i _ (h i hi) (by have := h i hi; omega)]
  rfl
section
variable {α : Type} {φ : α → Nat → α} {M : Nat} {first : α} {T : List α} {K : List Nat} {c : Nat}
theorem Wk.q (h : Wk φ M first T K c) : ∀ i, i < K.length → K.getD i 0 / M ≤ i := fun i hi => (h.s i hi).2.1
/-- The words stand in their order. -/
theorem Wk.up (h : Wk φ M first T K c) (hM : 0 < M) : ∀ (j i : Nat), i < j → j ≤ K.length → rk M (wnK M K i) < rk M (wnK M K j) := by
  intro j
  induction j using Nat.strongRecOn with
  | _ j ih =>
    intro i hij hj
    obtain ⟨j, rfl⟩ : ∃ k, j = k + 1 := ⟨j - 1, by omega⟩
    rw [wnK_succ h.q (by omega), rk_snoc]
    cases i with
    | zero => show 0 < _; omega
    | succ i =>
      rw [wnK_succ h.q (by omega), rk_snoc]
      have ho := h.o i j (by omega) (by omega)
      have hq := h.q j (by omega)
      have m1 := Nat.mod_lt (K.getD i 0) hM
      have m2 := Nat.mod_lt (K.getD j 0) hM
      have dm1 := Nat.div_add_mod (K.getD i 0) M
      have dm2 := Nat.div_add_mod (K.getD j 0) M
      rcases Nat.lt_trichotomy (K.getD i 0 / M) (K.getD j 0 / M) with q | q | q
      · have := ih (K.getD j 0 / M) (by omega) (K.getD i 0 / M) q (by omega)
        have : M * (rk M (wnK M K (K.getD i 0 / M)) + 1) ≤ M * rk M (wnK M K (K.getD j 0 / M)) := Nat.mul_le_mul_left M this
        rw [Nat.mul_add] at this
        omega
      · rw [q] at dm1 ⊢
        omega
      · have : M * (K.getD j 0 / M + 1) ≤ M * (K.getD i 0 / M) := Nat.mul_le_mul_left M q
        rw [Nat.mul_add] at this
        omega
theorem Wk.syms (h : Wk φ M first T K c) (hM : 0 < M) : ∀ (i : Nat), i ≤ K.length → ∀ a ∈ wnK M K i, a < M := by
  intro i
  induction i using Nat.strongRecOn with
  | _ i ih =>
    intro hi a ha
    cases i with
    | zero => cases ha
    | succ i =>
      rw [wnK_succ h.q (by omega)] at ha
      have hq := h.q i (by omega)
      rcases List.mem_append.1 ha with e | e
      · exact ih _ (by omega) (by omega) a e
      · rw [List.mem_singleton] at e
        rw [e]
        exact Nat.mod_lt _ hM
/-- The word of a number leads to what was met under that number. -/
theorem Wk.leads (h : Wk φ M first T K c) : ∀ (i : Nat) (x : α), T[i]? = some x → (wnK M K i).foldl φ first = x := by
  intro i
  induction i using Nat.strongRecOn with
  | _ i ih =>
    intro x hx
    cases i with
    | zero =>
      rw [h.z] at hx
      exact Option.some.inj hx
    | succ i =>
      have hl := h.l
      have hi : i < K.length := by
        have := (List.getElem?_eq_some_iff.1 hx).1
        omega
      obtain ⟨h1, h2, y, h3, h4⟩ := h.s i hi
      rw [wnK_succ h.q hi, List.foldl_append, ih _ (by omega) y h3]
      rw [h4] at hx
      simpa using hx
/-- What a word leads to was met, under a number whose word is no later. -/
theorem Wk.least (h : Wk φ M first T K c) (hc : Cv φ M T K (T.length * M)) (hM : 0 < M) : ∀ (n : Nat) (u : List Nat), u.length = n → (∀ a ∈ u, a < M) → ∃ i, T[i]? = some (u.foldl φ first) ∧ rk M (wnK M K i) ≤ rk M u := by
  intro n
  induction n with
  | zero =>
    intro u hu _
    obtain rfl := List.eq_nil_of_length_eq_zero hu
    exact ⟨0, h.z, Nat.le_refl _⟩
  | succ n ih =>
    intro u hu ha
    obtain ⟨v, a, rfl⟩ : ∃ v a, u = v ++ [a] := by
      rcases List.eq_nil_or_concat u with e | ⟨v, a, e⟩
      · subst e; simp at hu
      · exact ⟨v, a, by rw [e, List.concat_eq_append]⟩
    obtain ⟨i, h1, h2⟩ := ih v (by simpa using hu) (fun b hb => ha b (by simp [hb]))
    have ham := ha a (by simp)
    have hi := (List.getElem?_eq_some_iff.1 h1).1
    have d1 : (i * M + a) / M = i := by rw [Nat.mul_comm, Nat.mul_add_div hM, Nat.div_eq_of_lt ham]; omega
    have d2 : (i * M + a) % M = a := by rw [Nat.mul_comm, Nat.mul_add_mod, Nat.mod_eq_of_lt ham]
    have hlt : i * M + a < T.length * M := by
      have : (i + 1) * M ≤ T.length * M := Nat.mul_le_mul_right M hi
      rw [Nat.succ_mul] at this
      omega
    obtain ⟨j, h3, h4⟩ := hc (i * M + a) hlt _ (by rw [d1]; exact h1)
    rw [d2] at h3
    refine ⟨j, by rw [List.foldl_append]; exact h3, ?_⟩
    rw [rk_snoc]
    cases j with
    | zero => show 0 ≤ _; omega
    | succ j =>
      have hj : j < K.length := by
        have := (List.getElem?_eq_some_iff.1 h3).1
        have := h.l
        omega
      rw [wnK_succ h.q hj, rk_snoc]
      have hk := h4 j rfl
      have dm := Nat.div_add_mod (K.getD j 0) M
      have mm := Nat.mod_lt (K.getD j 0) hM
      have hle : K.getD j 0 / M ≤ i := by
        have := Nat.div_le_div_right (c := M) hk
        rw [d1] at this
        exact this
      rcases Nat.lt_or_ge (K.getD j 0 / M) i with q | q
      · have hr := h.up hM i (K.getD j 0 / M) q (by have := h.l; omega)
        have : M * (rk M (wnK M K (K.getD j 0 / M)) + 1) ≤ M * rk M v := Nat.mul_le_mul_left M (Nat.le_trans hr h2)
        rw [Nat.mul_add] at this
        omega
      · have e : K.getD j 0 / M = i := by omega
        rw [e] at dm ⊢
        have : M * rk M (wnK M K i) ≤ M * rk M v := Nat.mul_le_mul_left M h2
        have e2 : M * i = i * M := Nat.mul_comm _ _
        omega
end
end Go.Proofs.Ytocoghljmlpdeaa
