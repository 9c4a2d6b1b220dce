import Derived.Test.YtocoghljmlpdeaaQac
import Derived.DeepKeys4
import Derived.Maps.OwnSet
namespace Go.Proofs.Ytocoghljmlpdeaa
open Go.RowKit Go.Maps
attribute [local go_sem] Oper.semAt_some
/-! ### The word that tells two states apart -/
theorem rtOf_ok {N : Nat} : ∀ (n : Nat) (T : List (Nat × Nat)), T.length = n → (∀ y ∈ T, y.1 < N ∧ y.2 < N) → ∀ s, s < N → rtOf T s < N ∧ rtOf T (rtOf T s) = rtOf T s := by
  intro n
  induction n with
  | zero =>
    intro T hT _ s hs
    obtain rfl := List.eq_nil_of_length_eq_zero hT
    exact ⟨hs, rfl⟩
  | succ n ih =>
    intro T hT h s hs
    obtain ⟨T, x, rfl⟩ : ∃ R x, T = R ++ [x] := by
      rcases List.eq_nil_or_concat T with e | ⟨R, x, e⟩
      · subst e; simp at hT
      · exact ⟨R, x, by rw [e, List.concat_eq_append]⟩
    have ih := ih T (by simpa using hT) (fun y hy => h y (by simp [hy]))
    have hx := h x (by simp)
    rw [rtOf_snoc]
    have i2 := ih _ hx.2
    have i1 := ih _ hx.1
    have i0 := ih _ hs
    unfold jn
    by_cases e : rtOf T s = rtOf T x.1
    · rw [if_pos e]
      refine ⟨i2.1, ?_⟩
      rw [i2.2]
      split <;> rfl
    · rw [if_neg e]
      refine ⟨i0.1, ?_⟩
      rw [i0.2, if_neg e]
theorem rc_two {N : Nat} {rt : Nat → Nat} {a b : Nat} (ha : a < N) (hb : b < N) (ra : rt a = a) (rb : rt b = b) (ne : a ≠ b) : 2 ≤ rc N rt := by
  unfold rc
  have hma : a ∈ (List.range N).filter (fun c => decide (rt c = c)) := by simp [ha, ra]
  have hmb : b ∈ (List.range N).filter (fun c => decide (rt c = c)) := by simp [hb, rb]
  generalize (List.range N).filter (fun c => decide (rt c = c)) = l at hma hmb
  match l, hma, hmb with
  | [], h, _ => cases h
  | [x], h, k =>
    rw [List.mem_singleton] at h k
    exact absurd (h.trans k.symm) ne
  | _ :: _ :: _, _, _ => simp
theorem rkF_mono {M : Nat} : ∀ (v : List Nat) {r s : Nat}, r ≤ s → rkF M r v ≤ rkF M s v
  | [], _, _, h => h
  | a :: v, r, s, h => rkF_mono v (r := M * r + a + 1) (s := M * s + a + 1) (by have := Nat.mul_le_mul_left M h; omega)
theorem rk_app (M : Nat) (A v : List Nat) : rk M (A ++ v) = rkF M (rk M A) v := List.foldl_append ..
theorem rk_le_app {M : Nat} {A B : List Nat} (h : rk M A ≤ rk M B) (v : List Nat) : rk M (A ++ v) ≤ rk M (B ++ v) := by
  rw [rk_app, rk_app]
  exact rkF_mono v h
theorem rkF_ge {M : Nat} (hM : 0 < M) : ∀ (v : List Nat) (r : Nat), r ≤ rkF M r v
  | [], _ => Nat.le_refl _
  | a :: v, r => Nat.le_trans (by have := Nat.le_mul_of_pos_left r hM; omega) (rkF_ge hM v (M * r + a + 1))
theorem wnK_app {M e : Nat} {K : List Nat} (h : ∀ i, i < K.length → K.getD i 0 / M ≤ i) (h2 : ∀ i, i < (K ++ [e]).length → (K ++ [e]).getD i 0 / M ≤ i) : ∀ i, i ≤ K.length → wnK M (K ++ [e]) i = wnK M K i := by
  intro i
  induction i using Nat.strongRecOn with
  | _ i ih =>
    intro hi
    cases i with
    | zero => rfl
    | succ i =>
      have hl : i < (K ++ [e]).length := by simp; omega
      rw [wnK_succ h2 hl, wnK_succ h (by omega), getD_snoc_lt (by omega), ih _ (by have := h i (by omega); omega) (by have := h i (by omega); omega)]
theorem wnK_len {M : Nat} {K : List Nat} (h : ∀ i, i < K.length → K.getD i 0 / M ≤ i) : ∀ i, i ≤ K.length → (wnK M K i).length ≤ i := by
  intro i
  induction i using Nat.strongRecOn with
  | _ i ih =>
    intro hi
    cases i with
    | zero => exact Nat.le_refl _
    | succ i =>
      have hd := h i (by omega)
      have := ih (K.getD i 0 / M) (by omega) (by omega)
      rw [wnK_succ h (by omega), List.length_append, List.length_singleton]
      omega
theorem Wk.code {α : Type} {φ : α → Nat → α} {M : Nat} {first : α} {T : List α} {K : List Nat} {c e f : Nat} (h : Wk φ M first T K c) (hM : 0 < M) (hef : e ≤ f) (hf : f / M ≤ K.length) : rk M (wnK M K (e / M) ++ [e % M]) ≤ rk M (wnK M K (f / M) ++ [f % M]) := by
  rw [rk_snoc, rk_snoc]
  have d1 := Nat.div_add_mod e M
  have d2 := Nat.div_add_mod f M
  have m1 := Nat.mod_lt e hM
  rcases Nat.lt_or_ge (e / M) (f / M) with q | q
  · have u := h.up hM (f / M) (e / M) q hf
    have := Nat.mul_le_mul_left M (show rk M (wnK M K (e / M)) + 1 ≤ rk M (wnK M K (f / M)) from u)
    rw [Nat.mul_add] at this
    omega
  · have hle : e / M ≤ f / M := Nat.div_le_div_right hef
    have eq : e / M = f / M := by omega
    rw [eq] at d1 ⊢
    omega
theorem dls2 (Nx : List Int) (M : Nat) : ∀ (v : List Nat) (a b : Nat), v.foldl (fun x a => (dl Nx M x.1 a, dl Nx M x.2 a)) (a, b) = (dls Nx M a v, dls Nx M b v)
  | [], _, _ => rfl
  | s :: v, a, b => dls2 Nx M v (dl Nx M a s) (dl Nx M b s)
/-- The word by which the last pair was met tells the first one's states apart; it is short, and no word that does so stands before it. -/
theorem fnd_word {Nx : List Int} {fin : Nat → Bool} {N M p q : Nat} {K : List Nat} (h : FndP Nx fin N M p q K) :
    (∀ a ∈ wnK M K K.length, a < M) ∧ fin (dls Nx M p (wnK M K K.length)) ≠ fin (dls Nx M q (wnK M K K.length)) ∧ (wnK M K K.length).length + 2 ≤ N ∧ ∀ v : List Nat, (∀ a ∈ v, a < M) → fin (dls Nx M p v) ≠ fin (dls Nx M q v) → rk M (wnK M K K.length) ≤ rk M v := by
  obtain ⟨R, x, hx, hR, hrc, hxN, hRN, hh⟩ := h
  have two : 2 ≤ rc N (rtOf R) := by
    have o1 := rtOf_ok _ R rfl hRN _ hxN.1
    have o2 := rtOf_ok _ R rfl hRN _ hxN.2
    refine rc_two o1.1 o2.1 o1.2 o2.2 (fun e => hx ?_)
    exact rtOf_ind (P := fun a b => fin a = fin b) (fun _ => rfl) (fun _ _ h => h.symm) (fun _ _ _ h k => h.trans k) _ R rfl hR _ _ e
  rcases hh with ⟨rfl, rfl, rfl⟩ | ⟨K', e, hM, rfl, hW, hC, y, hy, rfl⟩
  · refine ⟨fun a ha => (by cases ha), hx, (by show 0 + 2 ≤ N; simp at hrc; omega), fun v _ _ => (by show 0 ≤ _; omega)⟩
  · have hl := hW.l
    have hyl := (List.getElem?_eq_some_iff.1 hy).1
    have q1 := hW.q
    have q2 : ∀ i, i < (K' ++ [e]).length → (K' ++ [e]).getD i 0 / M ≤ i := fun i hi => by
      rw [List.length_append, List.length_singleton] at hi
      rcases Nat.lt_or_ge i K'.length with g | g
      · rw [getD_snoc_lt g]; exact q1 i g
      · obtain rfl : i = K'.length := by omega
        rw [getD_snoc_eq]; omega
    have eu : wnK M (K' ++ [e]) (K' ++ [e]).length = wnK M K' (e / M) ++ [e % M] := by
      rw [List.length_append, List.length_singleton, wnK_succ q2 (by simp), getD_snoc_eq, wnK_app q1 q2 _ (by omega)]
    rw [eu]
    have lead := hW.leads (e / M) y hy
    have hlen := wnK_len q1 (e / M) (by omega)
    have le2 : (wnK M K' (e / M) ++ [e % M]).foldl (fun x a => (dl Nx M x.1 a, dl Nx M x.2 a)) (p, q) = (fun x a => (dl Nx M x.1 a, dl Nx M x.2 a)) y (e % M) := by
      rw [List.foldl_append, lead]; rfl
    rw [dls2] at le2
    refine ⟨?_, ?_, ?_, ?_⟩
    · intro a ha
      rcases List.mem_append.1 ha with g | g
      · exact hW.syms hM _ (by omega) a g
      · rw [List.mem_singleton] at g
        rw [g]; exact Nat.mod_lt _ hM
    · have e1 := congrArg Prod.fst le2
      have e2 := congrArg Prod.snd le2
      dsimp only at e1 e2
      rw [e1, e2]
      exact hx
    · rw [List.length_append, List.length_singleton]
      omega
    · have key : ∀ (v : List Nat) (i : Nat) (z : Nat × Nat), R[i]? = some z → (∀ a ∈ v, a < M) → fin (dls Nx M z.1 v) ≠ fin (dls Nx M z.2 v) → rk M (wnK M K' (e / M) ++ [e % M]) ≤ rk M (wnK M K' i ++ v) := by
        intro v
        induction v with
        | nil =>
          intro i z hz _ hne
          exact absurd (hR z (List.mem_of_getElem? hz)) hne
        | cons a v ih =>
          intro i z hz hv hne
          have hiR := (List.getElem?_eq_some_iff.1 hz).1
          have haM := hv a (by simp)
          have d1 : (i * M + a) / M = i := by rw [Nat.mul_comm, Nat.mul_add_div hM, Nat.div_eq_of_lt haM]; omega
          have d2 : (i * M + a) % M = a := by rw [Nat.mul_comm, Nat.mul_add_mod, Nat.mod_eq_of_lt haM]
          have es : wnK M K' i ++ a :: v = (wnK M K' i ++ [a]) ++ v := by simp
          rw [es]
          by_cases hc : i * M + a < e
          · obtain ⟨i', h1, h2, h3⟩ := hC (i * M + a) hc z (by rw [d1]; exact hz)
            rw [d2] at h2
            dsimp only at h2
            have ex : ∃ r ∈ R.take i', fin (dls Nx M r.1 v) ≠ fin (dls Nx M r.2 v) := by
              refine Classical.byContradiction fun no => hne ?_
              refine rtOf_ind (P := fun a b => fin (dls Nx M a v) = fin (dls Nx M b v)) (fun _ => rfl) (fun _ _ h => h.symm) (fun _ _ _ h k => h.trans k) _ (R.take i') rfl (fun r hr => ?_) _ _ h2
              exact Classical.byContradiction fun hn => no ⟨r, hr, hn⟩
            obtain ⟨r, hr, hrn⟩ := ex
            obtain ⟨j, hj, ej⟩ := List.getElem_of_mem hr
            rw [List.length_take] at hj
            have hjR : R[j]? = some r := by
              rw [List.getElem_take] at ej
              rw [List.getElem?_eq_getElem (by omega), ej]
            refine Nat.le_trans (ih j r hjR (fun b hb => hv b (by simp [hb])) hrn) (rk_le_app ?_ v)
            cases j with
            | zero => exact Nat.zero_le _
            | succ j =>
              rw [wnK_succ q1 (by omega)]
              have := hW.code hM (h3 j (by omega)) (by rw [d1]; omega)
              rwa [d1, d2] at this
          · have := hW.code hM (show e ≤ i * M + a by omega) (by rw [d1]; omega)
            rw [d1, d2] at this
            refine Nat.le_trans this ?_
            rw [rk_app M _ v]
            exact rkF_ge hM v _
      intro v hv hne
      exact key v 0 (p, q) hW.z hv hne
/-! ### The chains, new -/
set_option maxRecDepth 100000 in
set_option maxHeartbeats 1000000 in
theorem newChains_any (w : World) (N : Nat) (hN : N ≤ 4194304) :
    Calls Try.prog 62 #[.int .i64 (N : Int)] w fun e w' => ∃ g, e = .returned (.agg #[.slice (some ⟨g, 0, none⟩) N N]) ∧ Hid (w.heap.size ≤ g ∧ ChR w' g N (fun s => s)) ∧ Below w.heap.size w w' := by
  obtain ⟨i3, hi3, hz30, hz31, hz32⟩ := info_parts info3
  obtain ⟨W0, hW0⟩ : ∃ W0, w.alloc (.cells #[.slice none 0 0] 95) = W0 := ⟨_, rfl⟩
  have d0 : Below w.heap.size w W0 := by rw [← hW0]; exact (Below.refl _ _).alloc (Nat.le_refl _) _
  have B0 : W0.heap[w.heap.size]? = some (.cells #[.slice none 0 0] 95 (0, 0)) := by rw [← hW0]; exact World.alloc_heap_new _ _
  have z0 : W0.heap.size = w.heap.size + 1 := by rw [← hW0]; simp
  have HD := hide (And.intro d0 (And.intro B0 z0))
  clear d0 B0 z0
  go_enter Try.func62, Try.ntmps62
  go_upto_region 1 with fail
  go_upto_region 2 with (at_make; refine wpList_make_full _ rfl _ _ 22 rfl W0.heap.size 3 i3 (.int .i64 0) 1 Try.underlying22 hi3 hz30 hz31 _ _ _ _ N rfl rfl rfl rfl (by rw [hz32]; omega) (by unfold maxLen; omega) (Nat.le_refl _) ?_; intro w1 ho hg)
  have D1 : Below W0.heap.size W0 w1 := (Below.refl _ _).grown hg (Nat.le_refl _) (by intro k hk; cases hk)
  have M0 := Mrw.ofRow (fun c => .int .i64 (c : Int)) ho
  rw [Nat.mul_one] at M0
  obtain ⟨W2, hW2⟩ : ∃ W2, w1.alloc (.cells #[.slice (some ⟨W0.heap.size, 0, none⟩) N N] 95) = W2 := ⟨_, rfl⟩
  rw [hW2]
  obtain ⟨g, hgg⟩ : ∃ g, W0.heap.size = g := ⟨_, rfl⟩
  obtain ⟨bc, hbc⟩ : ∃ b, w1.heap.size = b := ⟨_, rfl⟩
  have J0 : Hid (Mrw W2 g 3 N (fun c => .int .i64 (c : Int)) 0 ∧ W2.heap[bc]? = some (.cells #[.slice (some ⟨g, 0, none⟩) N N] 95 (0, 0)) ∧ W2.heap[w.heap.size]? = some (.cells #[.slice none 0 0] 95 (0, 0)) ∧ Below w.heap.size w W2 ∧ g = w.heap.size + 1 ∧ g < bc) := hide (by
    have d2 : Below w1.heap.size w1 W2 := by rw [← hW2]; exact (Below.refl _ _).alloc (Nat.le_refl _) _
    subst hgg hbc
    have z := HD.out.2.2
    refine ⟨M0.below d2 M0.lt, by rw [← hW2]; exact World.alloc_heap_new _ _, blk_on (blk_on HD.out.2.1 D1) d2, (HD.out.1.trans (D1.mono HD.out.1.size)).trans (d2.mono (by have := D1.size; omega)), z, M0.lt⟩)
  rw [hgg, hbc]
  clear D1 M0 ho hg hW2 hgg hbc hi3 hz30 hz31 hz32
  have z0 : W2.cell? ⟨bc, 0, none⟩ = some (.slice (some ⟨g, 0, none⟩) N N) := cell_of J0.out.2.1 rfl
  go_wp2_with fail
  clear z0
  have HG := hide J0.out.2.2.2.2
  go_loopw [11] (fun iv wr => ∃ i : Nat, i ≤ N ∧ iv = .int .i64 (i : Int) ∧ Hid (Mrw wr g 3 N (fun c => .int .i64 (c : Int)) i ∧ wr.heap[bc]? = some (.cells #[.slice (some ⟨g, 0, none⟩) N N] 95 (0, 0)) ∧ wr.heap[w.heap.size]? = some (.cells #[.slice none 0 0] 95 (0, 0)) ∧ Below w.heap.size w wr)) (fun iv _ => N - (intOf iv).toNat)
  case atStart => exact ⟨0, Nat.zero_le _, rfl, hide ⟨J0.out.1, J0.out.2.1, J0.out.2.2.1, J0.out.2.2.2.1⟩⟩
  case round =>
    clear J0
    obtain ⟨i, hi, rfl, HY⟩ := hrel
    by_cases hlt : i < N
    · have l0 : (i : Int) < (N : Int) := by omega
      have l1 : (0 : Int) ≤ (i : Int) := by omega
      have z0 : wr.cell? ⟨bc, 0, none⟩ = some (.slice (some ⟨g, 0, none⟩) N N) := cell_of HY.out.2.1 rfl
      obtain ⟨u, c⟩ := HY.out.1.cell i hlt
      have f := HY.out.1.fz i
      go_wp2_with fail
      go_roundw
      case rel =>
        have O := only_set wr g i (.int .i64 (i : Int))
        have hg := HG.out
        have hb := (Array.getElem?_eq_some_iff.1 HY.out.2.1).1
        have hw := (Array.getElem?_eq_some_iff.1 HY.out.2.2.1).1
        exact ⟨i + 1, by omega, by go_num, hide ⟨HY.out.1.put hlt _ rfl, (O.block _ hb (by omega)).trans HY.out.2.1, (O.block _ hw (by omega)).trans HY.out.2.2.1, HY.out.2.2.2.trans (O.toBelow HY.out.2.2.2.size (fun k hk => by omega))⟩⟩
      case measure => simp [intOf]; omega
    · have l0 : ¬ (i : Int) < (N : Int) := by omega
      obtain rfl : i = N := by omega
      have z0 : wr.cell? ⟨bc, 0, none⟩ = some (.slice (some ⟨g, 0, none⟩) i i) := cell_of HY.out.2.1 rfl
      have o0 : wr.cell? ⟨w.heap.size, 0, none⟩ = some (.slice none 0 0) := cell_of HY.out.2.2.1 rfl
      have f0 : wr.frozen? ⟨w.heap.size, 0, none⟩ = false := fz_of HY.out.2.2.1
      have O6 := hide (And.intro (set1 wr w.heap.size _ (.slice (some ⟨g, 0, none⟩) i i) 95 HY.out.2.2.1) (only_set wr w.heap.size 0 (.slice (some ⟨g, 0, none⟩) i i)))
      go_wp2_with fail
      refine bodyPost_ret (results_cell_row (p := 2) (ty := 95) rfl _ _ w.heap.size 95 _ (0, 0) _ rfl O6.out.1 Try.underlying95 rfl (by kernel_rfl)) rfl ?_
      have hg := HG.out
      refine ⟨g, rfl, hide ⟨by omega, fun c => c, fun _ => 0, HY.out.1.only O6.out.2 (by omega), ⟨fun c h => h, fun c _ h => absurd rfl h, fun c h => h, fun c _ => rfl, fun c _ => rfl, fun c _ _ => rfl⟩⟩, HY.out.2.2.2.trans (O6.out.2.toBelow HY.out.2.2.2.size (fun k hk => by omega))⟩
/-! ### tell -/
theorem fnd_wd {Nx : List Int} {fin : Nat → Bool} {N M p q : Nat} {K : List Nat} (h : FndP Nx fin N M p q K) : WdOf (stepsOf M K) (wdK M K) ∧ K.length ≤ N := by
  obtain ⟨R, x, hx, hR, hrc, hxN, hRN, hh⟩ := h
  rcases hh with ⟨rfl, rfl, rfl⟩ | ⟨K', e, hM, rfl, hW, hC, y, hy, rfl⟩
  · exact ⟨wdK_of (Wk.one (fun x a => dl Nx M x a) M 0), Nat.zero_le _⟩
  · refine ⟨wdK_of (hW.put hy), ?_⟩
    have := hW.l
    rw [List.length_append, List.length_singleton]
    omega
/-- The least word that tells two states apart. -/
def TlW (Nx : List Int) (fin : Nat → Bool) (N M p q : Nat) (u : List Nat) : Prop := (∀ a ∈ u, a < M) ∧ fin (dls Nx M p u) ≠ fin (dls Nx M q u) ∧ u.length + 2 ≤ N ∧ ∀ v : List Nat, (∀ a ∈ v, a < M) → fin (dls Nx M p v) ≠ fin (dls Nx M q v) → rk M u ≤ rk M v
/-- No word tells them apart. -/
def Ali (Nx : List Int) (fin : Nat → Bool) (M p q : Nat) : Prop := ∀ u : List Nat, (∀ s ∈ u, s < M) → fin (dls Nx M p u) = fin (dls Nx M q u)
def TelA (w : World) (Nx : List Int) (fin : Nat → Bool) (N M p q : Nat) : Ending → World → Prop := fun e w' => ∃ b n c told, e = .returned (.tuple #[.slice b n c, .bool told]) ∧ Hid (Below w.heap.size w w' ∧ (told = true → ∃ u, OwI w' w.heap.size (.slice b n c) (natI u) ∧ TlW Nx fin N M p q u) ∧ (told = false → b = none ∧ n = 0 ∧ c = 0 ∧ Ali Nx fin M p q))
set_option maxRecDepth 100000 in
set_option maxHeartbeats 4000000 in
theorem tellT_any (w : World) (N M p q gf lN cN : Nat) (aN : Option Addr) (Nx : List Int) (fin : Nat → Bool) (hT : TbR w M N gf aN fin Nx) (hlN : lN = N * M) (hp : p < N) (hq : q < N) (hNM : N * M ≤ 4194304) (hM : M ≤ 4194304) (hN : N ≤ 2097152) :
    Calls Try.prog 42 #[.agg #[.int .i64 (M : Int), .slice (some ⟨gf, 0, none⟩) N N, .slice aN lN cN], .agg #[.int .i64 (p : Int), .int .i64 (q : Int)]] w (TelA w Nx fin N M p q) := by
  obtain ⟨W0, hW0⟩ : ∃ W0, (w.alloc (.cells #[.int .i64 (M : Int), .slice (some ⟨gf, 0, none⟩) N N, .slice aN lN cN] 60)).alloc (.cells #[.int .i64 (p : Int), .int .i64 (q : Int)] 70) = W0 := ⟨_, rfl⟩
  have H2 := hide (two_al w #[.int .i64 (M : Int), .slice (some ⟨gf, 0, none⟩) N N, .slice aN lN cN] #[.int .i64 (p : Int), .int .i64 (q : Int)] 60 70)
  rw [hW0] at H2
  have p1 : W0.cell? ⟨w.heap.size, 1, none⟩ = some (.slice (some ⟨gf, 0, none⟩) N N) := cell_of H2.out.2.1 rfl
  have TC := newChains_any W0 N (by omega)
  have HT := hide hT
  have HLN := hide (And.intro hlN hNM)
  clear hT hlN hNM
  go_enter Try.func42, Try.ntmps42
  go_upto_region 1 with fail
  go_upto_region 2 with (go_at_call 62; refine TC.mono ?_; rintro e w1 ⟨g, rfl, H1, D1⟩; have HD1 := hide D1; clear D1)
  clear TC p1
  obtain ⟨bc, hbc⟩ : ∃ b, w1.heap.size = b := ⟨_, rfl⟩
  have A1 : (w1.alloc (.cells #[.slice (some ⟨g, 0, none⟩) N N] 95)).cell? ⟨w.heap.size, 0, none⟩ = some (.int .i64 (M : Int)) := cell_of (blk_al _ (blk_on H2.out.2.1 HD1.out)) rfl
  obtain ⟨W4, hW4⟩ : ∃ W4, (w1.alloc (.cells #[.slice (some ⟨g, 0, none⟩) N N] 95)).alloc (.cells #[.int .i64 (M : Int), .func (.func 63) #[] #[.pointer (some ⟨w.heap.size, 0, none⟩)], .func (.func 64) #[] #[.pointer (some ⟨w.heap.size, 0, none⟩), .pointer (some ⟨bc, 0, none⟩)]] 100) = W4 := ⟨_, rfl⟩
  have H4 := hide (two_al w1 #[.slice (some ⟨g, 0, none⟩) N N] #[.int .i64 (M : Int), .func (.func 63) #[] #[.pointer (some ⟨w.heap.size, 0, none⟩)], .func (.func 64) #[] #[.pointer (some ⟨w.heap.size, 0, none⟩), .pointer (some ⟨bc, 0, none⟩)]] 95 100)
  rw [hW4, hbc] at H4
  have D2 : Below w.heap.size w w1 := H2.out.1.trans (HD1.out.mono H2.out.1.size)
  have D4 : Below w.heap.size w W4 := D2.trans (H4.out.1.mono (by have := D2.size; omega))
  have s1 := D2.size
  have B4 : W4.heap[w.heap.size]? = some (.cells #[.int .i64 (M : Int), .slice (some ⟨gf, 0, none⟩) N N, .slice aN lN cN] 60 (0, 0)) := by
    refine (H4.out.1.block _ ?_).trans (blk_on H2.out.2.1 HD1.out)
    have := H2.out.2.2.2
    have := HD1.out.size
    omega
  have B5 : W4.heap[w.heap.size + 1]? = some (.cells #[.int .i64 (p : Int), .int .i64 (q : Int)] 70 (0, 0)) := by
    refine (H4.out.1.block _ ?_).trans (blk_on H2.out.2.2.1 HD1.out)
    have := H2.out.2.2.2
    have := HD1.out.size
    omega
  have CH : ChS w.heap.size W4 M N gf aN lN cN w.heap.size bc g (fun s => s) := ⟨B4, H4.out.2.1, H1.out.2.below (by rw [hbc]; exact H4.out.1), Nat.le_refl _, by omega, by have := H1.out.1; have := H2.out.1.size; omega⟩
  have TR := runP_any w.heap.size W4 N M gf w.heap.size bc g p q lN cN aN Nx fin CH (fun W d => HT.out.on (D4.trans d)) HLN.out.1 hp hq HLN.out.2 hM (by omega) D4.size
  have q0 : W4.cell? ⟨bc + 1, 0, none⟩ = some (.int .i64 (M : Int)) := cell_of H4.out.2.2.1 rfl
  have q1 : W4.cell? ⟨bc + 1, 1, none⟩ = some (.func (.func 63) #[] #[.pointer (some ⟨w.heap.size, 0, none⟩)]) := cell_of H4.out.2.2.1 rfl
  have q2 : W4.cell? ⟨bc + 1, 2, none⟩ = some (.func (.func 64) #[] #[.pointer (some ⟨w.heap.size, 0, none⟩), .pointer (some ⟨bc, 0, none⟩)]) := cell_of H4.out.2.2.1 rfl
  have q3 : W4.cell? ⟨w.heap.size + 1, 0, none⟩ = some (.int .i64 (p : Int)) := cell_of B5 rfl
  have q4 : W4.cell? ⟨w.heap.size + 1, 1, none⟩ = some (.int .i64 (q : Int)) := cell_of B5 rfl
  have HD4 := hide D4
  clear CH B4 B5 D4 D2 H4 H1
  go_upto_region 3 with fail
  go_upto_region 4 with (go_at_call 66; refine TR.mono ?_; rintro e w5 ⟨vS, found, rfl, H5⟩)
  have D5 : Hid (Below w.heap.size w w5) := hide (HD4.out.trans H5.out.1)
  cases found with
  | false =>
    go_wp2_with fail
    go_ret2
    exact ⟨none, 0, 0, false, rfl, hide ⟨D5.out, (fun e => by cases e), fun _ => ⟨rfl, rfl, rfl, H5.out.2.2 (by simp)⟩⟩⟩
  | true =>
    obtain ⟨K, HK, HF⟩ := H5.out.2.1 rfl
    obtain ⟨b, c, rfl⟩ := own_slice HK
    obtain ⟨el, hr⟩ := owS_rd HK
    have fw := fnd_wd HF
    have hlen := stepsOf_len M K
    have TW := word_any w5 b (stepsOf M K).length c K.length (stepsOf M K) (wdK M K) rfl hr fw.1 (by omega) (by have := fw.2; omega)
    have HFF := hide HF
    have hkl := fw.2
    clear HF fw hr HK H5 el
    rw [hlen] at TW ⊢
    obtain ⟨L, hL⟩ : ∃ L, K.length = L := ⟨_, rfl⟩
    rw [hL] at TW hkl ⊢
    have HL := hide hL
    clear hL hlen
    have n1 : ((L + 1 : Nat) : Int) - 1 = (L : Int) := by omega
    have n2 : IntKind.i64.wrap (((L + 1 : Nat) : Int) - 1) = (L : Int) := by rw [IntKind.wrap_i64]; omega
    go_wp2_with (go_at_call 36; refine TW.mono ?_; rintro e w6 ⟨b6, m6, k6, rfl, H6, D6⟩; have HD6 := hide D6; clear D6)
    go_ret2
    refine ⟨b6, m6, k6, true, rfl, hide ⟨D5.out.trans (HD6.out.mono D5.out.size), fun _ => ⟨wnK M K K.length, ?_, fnd_word HFF.out⟩, fun e => (by cases e)⟩⟩
    have e := wnK_map M K K.length
    unfold natI
    rw [e, HL.out]
    exact owns_down H6.out D5.out.size
/-! ### Parting the states -/
theorem Ali.refl {Nx : List Int} {fin : Nat → Bool} {M p : Nat} : Ali Nx fin M p p := fun _ _ => rfl
theorem Ali.symm {Nx : List Int} {fin : Nat → Bool} {M p q : Nat} (h : Ali Nx fin M p q) : Ali Nx fin M q p := fun u hu => (h u hu).symm
theorem Ali.trans {Nx : List Int} {fin : Nat → Bool} {M p q r : Nat} (h : Ali Nx fin M p q) (k : Ali Nx fin M q r) : Ali Nx fin M p r := fun u hu => (h u hu).trans (k u hu)
theorem Ali.step {Nx : List Int} {fin : Nat → Bool} {M p q a : Nat} (h : Ali Nx fin M p q) (ha : a < M) : Ali Nx fin M (dl Nx M p a) (dl Nx M q a) := fun u hu => h (a :: u) (fun s hs => by
  rcases List.mem_cons.1 hs with e | e
  · rw [e]; exact ha
  · exact hu s e)
theorem Ali.fin {Nx : List Int} {fin : Nat → Bool} {M p q : Nat} (h : Ali Nx fin M p q) : fin p = fin q := h [] (fun _ hs => by cases hs)
/-- Where a place leads. -/
def nxt (Nx : List Int) (p : Nat) : Nat := (Nx.getD p 0).toNat
/-- The states parted: cl tells a state's class, K how many there are; fl tells what is still to be asked; pend tells of each state the group that it waits in. -/
structure PInv (Nx : List Int) (fin : Nat → Bool) (N M : Nat) (cl : Nat → Nat) (K : Nat) (fl : Nat → Bool) (pa : Nat) (pend : Nat → Nat) : Prop where
  kl : ∀ s, s < N → cl s < K
  ne : ∀ k, 2 ≤ k → k < K → ∃ s, s < N ∧ cl s = k
  co : ∀ s t, s < N → t < N → Ali Nx fin M s t → cl s = cl t
  fi : ∀ s t, s < N → t < N → cl s = cl t → fin s = fin t
  st : ∀ s t a, s < N → t < N → a < M → cl s = cl t → fl (s * M + a) = false → fl (t * M + a) = false → (a = pa → pend s = pend t) → cl (dl Nx M s a) = cl (dl Nx M t a)
  wa : ∀ s t a, s < N → t < N → a < M → cl s = cl t → fl (s * M + a) = true → fl (t * M + a) = false → cl (dl Nx M s a) ≠ cl (dl Nx M t a)
  gw : ∀ s t, s < N → t < N → pend s = pend t → pend s ≠ 0 → cl s = cl t
  ap : ∀ s t, s < N → t < N → pend s ≠ 0 → pend s ≠ pend t → cl s = cl t → ¬ Ali Nx fin M s t
section
variable {Nx : List Int} {fin : Nat → Bool} {N M K pa j C : Nat} {cl : Nat → Nat} {fl : Nat → Bool} {pend : Nat → Nat}
/-- A group is parted from the rest of its class: X is either the one or the other. -/
theorem PInv.split (h : PInv Nx fin N M cl K fl pa pend) (_hK : 2 ≤ K) (hd : ∀ s a, s < N → a < M → dl Nx M s a < N) (hj : j ≠ 0) {X : Nat → Bool} (hC : ∀ s, s < N → pend s = j → cl s = C) (x1 : ∀ s, s < N → X s = true → cl s = C)
    (x2 : (∀ s, s < N → cl s = C → (X s = true ↔ pend s = j)) ∨ (∀ s, s < N → cl s = C → (X s = true ↔ ¬ pend s = j))) (y1 : ∃ s, s < N ∧ X s = true) (y2 : ∃ s, s < N ∧ cl s = C ∧ X s = false) :
    PInv Nx fin N M (fun s => if X s then K else cl s) (K + 1) (fun p => fl p || X (nxt Nx p)) pa (fun s => if pend s = j then 0 else pend s) := by
  have x5 : ∀ s, s < N → cl s ≠ C → X s = false ∧ pend s ≠ j := fun s hs hc => ⟨by cases hx : X s with
    | false => rfl
    | true => exact absurd (x1 s hs hx) hc, fun e => hc (hC s hs e)⟩
  have x3 : ∀ s t, s < N → t < N → cl s = cl t → X s = X t → (pend s = j ↔ pend t = j) := fun s t hs ht hc hx => by
    by_cases e : cl s = C
    · have e2 : cl t = C := by rw [← hc]; exact e
      rcases x2 with x2 | x2
      · rw [← x2 s hs e, ← x2 t ht e2, hx]
      · have h1 := x2 s hs e
        have h2 := x2 t ht e2
        rw [hx] at h1
        exact Decidable.not_iff_not.1 (h1.symm.trans h2)
    · have h1 := x5 s hs e
      have h2 := x5 t ht (by rw [← hc]; exact e)
      exact ⟨fun z => absurd z h1.2, fun z => absurd z h2.2⟩
  have x4 : ∀ s t, s < N → t < N → cl s = cl t → (pend s = j ↔ pend t = j) → X s = X t := fun s t hs ht hc hp => by
    by_cases e : cl s = C
    · have e2 : cl t = C := by rw [← hc]; exact e
      have key : X s = true ↔ X t = true := by
        rcases x2 with x2 | x2
        · rw [x2 s hs e, x2 t ht e2]; exact hp
        · rw [x2 s hs e, x2 t ht e2]; exact ⟨fun a b => a (hp.2 b), fun a b => a (hp.1 b)⟩
      cases hs : X s with
      | true => rw [key.1 hs]
      | false =>
        cases ht : X t with
        | false => rfl
        | true => rw [key.2 ht] at hs; cases hs
    · rw [(x5 s hs e).1, (x5 t ht (by rw [← hc]; exact e)).1]
  have cq : ∀ s t, s < N → t < N → (if X s then K else cl s) = (if X t then K else cl t) → cl s = cl t ∧ X s = X t := fun s t hs ht he => by
    have k1 := h.kl s hs
    have k2 := h.kl t ht
    cases hx : X s with
    | true =>
      cases hy : X t with
      | true => exact ⟨(x1 s hs hx).trans (x1 t ht hy).symm, rfl⟩
      | false => rw [hx, hy] at he; simp at he; omega
    | false =>
      cases hy : X t with
      | true => rw [hx, hy] at he; simp at he; omega
      | false => rw [hx, hy] at he; simp at he; exact ⟨he, rfl⟩
  have qc : ∀ s t, cl s = cl t → X s = X t → (if X s then K else cl s) = (if X t then K else cl t) := fun s t h1 h2 => by rw [h1, h2]
  have pq : ∀ s t, s < N → t < N → cl s = cl t → X s = X t → (if pend s = j then 0 else pend s) = (if pend t = j then 0 else pend t) → pend s = pend t := fun s t hs ht hc hx hp => by
    have := x3 s t hs ht hc hx
    by_cases e : pend s = j
    · rw [e, this.1 e]
    · rw [if_neg e, if_neg (fun z => e (this.2 z))] at hp
      exact hp
  refine ⟨?_, ?_, ?_, ?_, ?_, ?_, ?_, ?_⟩
  · intro s hs
    have := h.kl s hs
    show (if X s then K else cl s) < K + 1
    split <;> omega
  · intro k hk hk2
    obtain ⟨s1, h1, h2⟩ := y1
    obtain ⟨t1, g1, g2, g3⟩ := y2
    by_cases e : k = K
    · exact ⟨s1, h1, by show (if X s1 then K else cl s1) = k; rw [if_pos h2, e]⟩
    · by_cases e2 : k = C
      · refine ⟨t1, g1, ?_⟩
        show (if X t1 then K else cl t1) = k
        rw [g3, e2]
        simpa using g2
      · obtain ⟨s, hs, hk3⟩ := h.ne k hk (by omega)
        refine ⟨s, hs, ?_⟩
        have := (x5 s hs (by omega)).1
        show (if X s then K else cl s) = k
        rw [this]
        simpa using hk3
  · intro s t hs ht ha
    have e := h.co s t hs ht ha
    refine qc s t e (x4 s t hs ht e ⟨fun p => ?_, fun p => ?_⟩)
    · exact Classical.byContradiction fun q => h.ap s t hs ht (by rw [p]; exact hj) (by rw [p]; exact fun z => q z.symm) e ha
    · exact Classical.byContradiction fun q => h.ap t s ht hs (by rw [p]; exact hj) (by rw [p]; exact fun z => q z.symm) e.symm ha.symm
  · intro s t hs ht he
    exact h.fi s t hs ht (cq s t hs ht he).1
  · intro s t a hs ht ha he f1 f2 hp
    obtain ⟨e1, e2⟩ := cq s t hs ht he
    have f1' : fl (s * M + a) = false ∧ X (dl Nx M s a) = false := Bool.or_eq_false_iff.1 f1
    have f2' : fl (t * M + a) = false ∧ X (dl Nx M t a) = false := Bool.or_eq_false_iff.1 f2
    exact qc _ _ (h.st s t a hs ht ha e1 f1'.1 f2'.1 (fun q => pq s t hs ht e1 e2 (hp q))) (f1'.2.trans f2'.2.symm)
  · intro s t a hs ht ha he f1 f2 hq
    obtain ⟨e1, e2⟩ := cq s t hs ht he
    obtain ⟨g1, g2⟩ := cq _ _ (hd s a hs ha) (hd t a ht ha) hq
    have f2' : fl (t * M + a) = false ∧ X (dl Nx M t a) = false := Bool.or_eq_false_iff.1 f2
    have f1' : fl (s * M + a) = true ∨ X (dl Nx M s a) = true := (Bool.or_eq_true _ _).mp f1
    rcases f1' with f | f
    · exact h.wa s t a hs ht ha e1 f f2'.1 g1
    · rw [g2, f2'.2] at f; cases f
  · intro s t hs ht hp h0
    have a1 : pend s ≠ j := fun e => h0 (if_pos e)
    have a2 : pend t ≠ j := fun e => h0 (by rw [hp]; exact if_pos e)
    have hp' : pend s = pend t := by simpa [a1, a2] using hp
    have e := h.gw s t hs ht hp' (by simpa [a1] using h0)
    exact qc s t e (x4 s t hs ht e ⟨fun z => absurd z a1, fun z => absurd z a2⟩)
  · intro s t hs ht h0 hne he
    have a1 : pend s ≠ j := fun e => h0 (if_pos e)
    refine h.ap s t hs ht (by simpa [a1] using h0) (fun e => hne ?_) (cq s t hs ht he).1
    show (if pend s = j then 0 else pend s) = (if pend t = j then 0 else pend t)
    rw [e]
/-- A group that is its whole class is done with. -/
theorem PInv.done (h : PInv Nx fin N M cl K fl pa pend) (hC : ∀ s t, s < N → t < N → pend s = j → cl t = cl s → pend t = j) :
    PInv Nx fin N M cl K fl pa (fun s => if pend s = j then 0 else pend s) := by
  have x3 : ∀ s t, s < N → t < N → cl s = cl t → (pend s = j ↔ pend t = j) := fun s t hs ht hc => ⟨fun e => hC s t hs ht e hc.symm, fun e => hC t s ht hs e hc⟩
  refine ⟨h.kl, h.ne, h.co, h.fi, ?_, h.wa, ?_, ?_⟩
  · intro s t a hs ht ha he f1 f2 hp
    refine h.st s t a hs ht ha he f1 f2 (fun q => ?_)
    have hp := hp q
    by_cases e : pend s = j
    · rw [e, (x3 s t hs ht he).1 e]
    · rw [if_neg e, if_neg (fun z => e ((x3 s t hs ht he).2 z))] at hp
      exact hp
  · intro s t hs ht hp h0
    have a1 : pend s ≠ j := fun e => h0 (if_pos e)
    have a2 : pend t ≠ j := fun e => h0 (by rw [hp]; exact if_pos e)
    exact h.gw s t hs ht (by simpa [a1, a2] using hp) (by simpa [a1] using h0)
  · intro s t hs ht h0 hne he
    have a1 : pend s ≠ j := fun e => h0 (if_pos e)
    refine h.ap s t hs ht (by simpa [a1] using h0) (fun e => hne ?_) he
    show (if pend s = j then 0 else pend s) = (if pend t = j then 0 else pend t)
    rw [e]
theorem PInv.congr {pend' : Nat → Nat} {fl' : Nat → Bool} {cl' : Nat → Nat} (h : PInv Nx fin N M cl K fl pa pend) (hd : ∀ s a, s < N → a < M → dl Nx M s a < N) (hc : ∀ s, s < N → cl' s = cl s) (hp : ∀ s, s < N → pend' s = pend s) (hf : ∀ p, p < N * M → fl' p = fl p) : PInv Nx fin N M cl' K fl' pa pend' := by
  refine ⟨fun s hs => by rw [hc s hs]; exact h.kl s hs, fun k h1 h2 => ?_, fun s t hs ht => by rw [hc s hs, hc t ht]; exact h.co s t hs ht, fun s t hs ht => by rw [hc s hs, hc t ht]; exact h.fi s t hs ht, fun s t a hs ht ha => ?_, fun s t a hs ht ha => ?_, fun s t hs ht => by rw [hc s hs, hc t ht, hp s hs, hp t ht]; exact h.gw s t hs ht, fun s t hs ht => by rw [hc s hs, hc t ht, hp s hs, hp t ht]; exact h.ap s t hs ht⟩
  · obtain ⟨s, hs, e⟩ := h.ne k h1 h2
    exact ⟨s, hs, by rw [hc s hs]; exact e⟩
  · rw [hc s hs, hc t ht, hp s hs, hp t ht, hf _ (place_lt hs ha), hf _ (place_lt ht ha), hc _ (hd s a hs ha), hc _ (hd t a ht ha)]
    exact h.st s t a hs ht ha
  · rw [hc s hs, hc t ht, hf _ (place_lt hs ha), hf _ (place_lt ht ha), hc _ (hd s a hs ha), hc _ (hd t a ht ha)]
    exact h.wa s t a hs ht ha
theorem mod_place {s a M : Nat} (ha : a < M) : (s * M + a) % M = a := by rw [Nat.mul_comm, Nat.mul_add_mod, Nat.mod_eq_of_lt ha]
theorem div_place {s a M : Nat} (ha : a < M) : (s * M + a) / M = s := by rw [Nat.mul_comm, Nat.mul_add_div (by omega), Nat.div_eq_of_lt ha]; omega
theorem idx_inj {α : Type} [BEq α] [LawfulBEq α] {l : List α} {x y : α} (hx : x ∈ l) (hy : y ∈ l) (e : l.idxOf x = l.idxOf y) : x = y := by
  have h1 := List.getElem_idxOf (List.idxOf_lt_length_iff.2 hx)
  have h2 := List.getElem_idxOf (List.idxOf_lt_length_iff.2 hy)
  rw [← h1, ← h2]
  simp only [e]
/-- The groups of those that wait for a symbol. -/
theorem PInv.group {a : Nat} {W : List Nat} {Ky : List (Nat × Nat)} {pb : Nat} (h : PInv Nx fin N M cl K fl pb (fun _ => 0)) (hd : ∀ s a, s < N → a < M → dl Nx M s a < N) (ha : a < M) (hW : ∀ s, s ∈ W ↔ s < N ∧ fl (s * M + a) = true) (hk : ∀ s, s ∈ W → (cl s, cl (dl Nx M s a)) ∈ Ky) :
    PInv Nx fin N M cl K (fun p => fl p && !decide (p % M = a)) a (fun s => if s ∈ W then Ky.idxOf (cl s, cl (dl Nx M s a)) + 1 else 0) := by
  have hn : ∀ t, t < N → t ∉ W → fl (t * M + a) = false := fun t ht hm => by
    cases e : fl (t * M + a) with
    | false => rfl
    | true => exact absurd ((hW t).2 ⟨ht, e⟩) hm
  have key : ∀ s t, s ∈ W → t ∈ W → Ky.idxOf (cl s, cl (dl Nx M s a)) = Ky.idxOf (cl t, cl (dl Nx M t a)) → cl s = cl t ∧ cl (dl Nx M s a) = cl (dl Nx M t a) := fun s t hs ht e => by
    have := idx_inj (hk s hs) (hk t ht) e
    exact Prod.mk.inj this
  refine ⟨h.kl, h.ne, h.co, h.fi, ?_, ?_, ?_, ?_⟩
  · intro s t b hs ht hb he f1 f2 hp
    try dsimp only at f1 f2 hp
    rw [mod_place hb] at f1 f2
    by_cases e : b = a
    · subst e
      have hp := hp rfl
      by_cases m1 : s ∈ W
      · by_cases m2 : t ∈ W
        · rw [if_pos m1, if_pos m2] at hp
          exact (key s t m1 m2 (by omega)).2
        · rw [if_pos m1, if_neg m2] at hp
          omega
      · by_cases m2 : t ∈ W
        · rw [if_neg m1, if_pos m2] at hp
          omega
        · exact h.st s t b hs ht hb he (hn s hs m1) (hn t ht m2) (fun _ => rfl)
    · exact h.st s t b hs ht hb he (by simpa [e] using f1) (by simpa [e] using f2) (fun _ => rfl)
  · intro s t b hs ht hb he f1 f2
    try dsimp only at f1 f2
    rw [mod_place hb] at f1 f2
    by_cases e : b = a
    · simp [e] at f1
    · exact h.wa s t b hs ht hb he (by simpa [e] using f1) (by simpa [e] using f2)
  · intro s t hs ht hp h0
    try dsimp only at hp h0
    by_cases m1 : s ∈ W
    · by_cases m2 : t ∈ W
      · rw [if_pos m1, if_pos m2] at hp
        exact (key s t m1 m2 (by omega)).1
      · rw [if_pos m1, if_neg m2] at hp
        omega
    · rw [if_neg m1] at h0; exact absurd rfl h0
  · intro s t hs ht h0 hne he hal
    try dsimp only at h0 hne
    by_cases m1 : s ∈ W
    · have e := h.co _ _ (hd s a hs ha) (hd t a ht ha) (hal.step ha)
      by_cases m2 : t ∈ W
      · rw [if_pos m1, if_pos m2, he, e] at hne
        exact hne rfl
      · exact h.wa s t a hs ht ha he ((hW s).1 m1).2 (hn t ht m2) e
    · rw [if_neg m1] at h0; exact h0 rfl
/-- At the beginning: all are still to be asked. -/
theorem PInv.new (Nx : List Int) (fin : Nat → Bool) (N M : Nat) (pa : Nat) : PInv Nx fin N M (fun s => if fin s then 1 else 0) 2 (fun _ => true) pa (fun _ => 0) := by
  refine ⟨fun s _ => ?_, fun k h1 h2 => by omega, fun s t _ _ ha => ?_, fun s t _ _ he => ?_, (fun _ _ _ _ _ _ _ f => (by cases f)), (fun _ _ _ _ _ _ _ _ f => (by cases f)), fun _ _ _ _ _ h => absurd rfl h, fun _ _ _ _ h => absurd rfl h⟩
  · show (if fin s then 1 else 0) < 2
    split <;> omega
  · show (if fin s then 1 else 0) = (if fin t then 1 else 0)
    rw [ha.fin]
  · cases h1 : fin s <;> cases h2 : fin t <;> simp [h1, h2] at he ⊢
/-- At the end: nothing is left to be asked. -/
theorem PInv.last (h : PInv Nx fin N M cl K fl pa (fun _ => 0)) (hd : ∀ s a, s < N → a < M → dl Nx M s a < N) (hf : ∀ s a, s < N → a < M → fl (s * M + a) = false) {s t : Nat} (hs : s < N) (ht : t < N) : cl s = cl t ↔ Ali Nx fin M s t := by
  refine ⟨fun e u => ?_, h.co s t hs ht⟩
  induction u generalizing s t with
  | nil => exact fun _ => h.fi s t hs ht e
  | cons a u ih =>
    intro hu
    have ha := hu a (by simp)
    exact ih (hd s a hs ha) (hd t a ht ha) (h.st s t a hs ht ha e (hf s a hs ha) (hf t a ht ha) (fun _ => rfl)) (fun b hb => hu b (by simp [hb]))
theorem PInv.few (h : PInv Nx fin N M cl K fl pa pend) : K ≤ N + 2 := by
  rcases Nat.lt_or_ge K 2 with hk | hk
  · omega
  have f : ∀ k : Fin (K - 2), ∃ s, s < N ∧ cl s = k.1 + 2 := fun k => h.ne (k.1 + 2) (by omega) (by omega)
  have nd : ((List.finRange (K - 2)).map (fun k => Classical.choose (f k))).Nodup := by
    rw [List.Nodup, List.pairwise_map]
    refine List.Pairwise.imp ?_ (List.nodup_finRange _)
    intro a b hab e
    have h1 := (Classical.choose_spec (f a)).2
    have h2 := (Classical.choose_spec (f b)).2
    rw [e] at h1
    exact hab (Fin.ext (by omega))
  have := nodup_le nd (N := N) (fun q hq => by
    obtain ⟨k, _, rfl⟩ := List.mem_map.1 hq
    exact (Classical.choose_spec (f k)).1)
  simp at this
  omega
end
/-! ### The parting as it lies -/
def updF {α : Type} (f : Nat → α) (i : Nat) (x : α) : Nat → α := fun j => if j = i then x else f j
theorem updF_same {α : Type} (f : Nat → α) (i : Nat) (x : α) : updF f i x i = x := if_pos rfl
theorem updF_ne {α : Type} (f : Nat → α) {i j : Nat} (x : α) (h : j ≠ i) : updF f i x j = f j := if_neg h
theorem row1_set {W : World} {B b n cap : Nat} {e : TypeId} {xs : List Value} (h : W.ownsRow B e 1 (.slice (some ⟨b, 0, none⟩) n cap) n xs) (j : Nat) (u : Value) :
    (W.setCell ⟨b, j, none⟩ u).ownsRow B e 1 (.slice (some ⟨b, 0, none⟩) n cap) n (xs.set j u) := by
  refine ⟨by rw [List.length_set]; exact h.1, ?_⟩
  rcases h.2 with ⟨z, _⟩ | ⟨g, cap', cur, e1, hb, hg, hn, hc, hs, ht⟩
  · cases z
  · cases e1
    refine .inr ⟨b, cap, _, rfl, hb, heap_setCell_same _ _ _ _ e _ hg, hn, hc, by simpa using hs, ?_⟩
    rw [← ht, Array.toList_setIfInBounds, List.take_set]
/-- Where the parting's blocks lie: from B on, none in the zone that is lent. -/
def Rz (B : Nat) (Z : Nat → Prop) : Nat → Prop := fun k => B ≤ k ∧ ¬ Z k
/-- Rows of numbers, each its own. -/
structure Fam (B : Nat) (Z : Nat → Prop) (n gc : Nat) (w : World) (V : Nat → Value) (L : Nat → List Nat) : Prop where
  own : ∀ i, i < n → OwI w B (V i) (natI (L i))
  ap : ∀ i j, i < n → j < n → i ≠ j → ∀ k, (V i).ownBlock = some k → (V j).ownBlock ≠ some k
  ac : ∀ i, i < n → (V i).ownBlock ≠ some gc
  zv : ∀ i, i < n → ∀ k, (V i).ownBlock = some k → Rz B Z k
theorem Fam.only {B n gc : Nat} {Z : Nat → Prop} {w w' : World} {V : Nat → Value} {L : Nat → List Nat} {R : Nat → Prop} (h : Fam B Z n gc w V L) (o : Only w w' R) (hR : ∀ i, i < n → ∀ k, (V i).ownBlock = some k → ¬ R k) : Fam B Z n gc w' V L :=
  ⟨fun i hi => row_only (h.own i hi) o (hR i hi), h.ap, h.ac, h.zv⟩
/-- One of the rows is changed, in its place or anew. -/
theorem Fam.put {B n gc i : Nat} {Z : Nat → Prop} {w w' : World} {V : Nat → Value} {L : Nat → List Nat} {v : Value} {X : List Nat} (h : Fam B Z n gc w V L) (hi' : i < n) (o : Only w w' (fun k => (V i).ownBlock = some k)) (ho : OwI w' B v (natI X)) (hb : ∀ k, v.ownBlock = some k → (V i).ownBlock = some k ∨ w.heap.size ≤ k) (hg : gc < w.heap.size) (hh : ∀ k, Z k → k < w.heap.size) : Fam B Z n gc w' (updF V i v) (updF L i X) := by
  have hlt : ∀ j, j < n → ∀ k, (V j).ownBlock = some k → k < w.heap.size := fun j hj k hk => ((h.own j hj).lt k hk).2
  refine ⟨fun j hj => ?_, fun j j' hj hj' ne k hk hk' => ?_, fun j hj e => ?_, fun j hj k hk => ?_⟩
  · by_cases e : j = i
    · subst e
      rw [updF_same, updF_same]
      exact ho
    · rw [updF_ne _ _ e, updF_ne _ _ e]
      exact row_only (h.own j hj) o (fun k hk q => h.ap j i hj hi' e k hk q)
  · by_cases e : j = i
    · subst e
      rw [updF_same] at hk
      rw [updF_ne _ _ (fun z => ne z.symm)] at hk'
      rcases hb k hk with q | q
      · exact h.ap j j' hj hj' ne k q hk'
      · have := hlt j' hj' k hk'; omega
    · rw [updF_ne _ _ e] at hk
      by_cases e2 : j' = i
      · subst e2
        rw [updF_same] at hk'
        rcases hb k hk' with q | q
        · exact h.ap j j' hj hj' ne k hk q
        · have := hlt j hj k hk; omega
      · rw [updF_ne _ _ e2] at hk'
        exact h.ap j j' hj hj' ne k hk hk'
  · by_cases e2 : j = i
    · subst e2
      rw [updF_same] at e
      rcases hb gc e with q | q
      · exact h.ac j hj q
      · omega
    · rw [updF_ne _ _ e2] at e
      exact h.ac j hj e
  · by_cases e2 : j = i
    · subst e2
      rw [updF_same] at hk
      exact ⟨(ho.lt k hk).1, (hb k hk).elim (fun q => (h.zv j hj k q).2) (fun q z => by have := hh k z; omega)⟩
    · rw [updF_ne _ _ e2] at hk
      exact h.zv j hj k hk
/-- The parting. -/
structure PaR (B : Nat) (Z : Nat → Prop) (w : World) (b N M gf : Nat) (aN : Option Addr) (lN cN gc gw gs gi : Nat) (V : Nat → Value) (L : Nat → List Nat) (cl : Nat → Nat) (fl : Nat → Bool) : Prop where
  bx : w.heap[b]? = some (.cells #[.int .i64 (M : Int), .slice (some ⟨gf, 0, none⟩) N N, .slice aN lN cN, .slice (some ⟨gc, 0, none⟩) N N, V 0, .slice (some ⟨gw, 0, none⟩) M M, .slice (some ⟨gs, 0, none⟩) lN lN, .slice (some ⟨gi, 0, none⟩) N N] 93 (0, 0))
  cr : Mrw w gc 3 N (fun s => .int .i64 ((cl s : Nat) : Int)) N
  wr : Mrw w gw 22 M (fun a => V (1 + a)) M
  sr : Mrw w gs 4 lN (fun p => .bool (fl p)) lN
  ir : Mrw w gi 22 N (fun s => V (1 + M + s)) N
  fam : Fam B Z (1 + M + N) gc w V L
  wi : gw ≠ gi
  zo : Rz B Z b ∧ Rz B Z gc ∧ Rz B Z gw ∧ Rz B Z gs ∧ Rz B Z gi
theorem Mrw.tag {W : World} {H k : Nat} {t t' : TypeId} {N : Nat} {val : Nat → Value} {c : Nat} {cs : Array Value} (h : Mrw W H t N val c) (z : W.heap[k]? = some (.cells cs t' (0, 0))) (ne : t ≠ t') : H ≠ k := fun e => by
  obtain ⟨cur, h1, _⟩ := h
  rw [e, z] at h1
  cases h1
  exact ne rfl
/-- One block is written: what is of another type stays. -/
theorem PaR.kept {B : Nat} {Z : Nat → Prop} {w : World} {b N M gf : Nat} {aN : Option Addr} {lN cN gc gw gs gi : Nat} {V : Nat → Value} {L : Nat → List Nat} {cl : Nat → Nat} {fl : Nat → Bool} {w' : World} {x t : Nat} {cs : Array Value} (h : PaR B Z w b N M gf aN lN cN gc gw gs gi V L cl fl) (hx : w.heap[x]? = some (.cells cs t (0, 0))) (o : Only w w' (fun k => k = x)) :
    (t ≠ 93 → w'.heap[b]? = some (.cells #[.int .i64 (M : Int), .slice (some ⟨gf, 0, none⟩) N N, .slice aN lN cN, .slice (some ⟨gc, 0, none⟩) N N, V 0, .slice (some ⟨gw, 0, none⟩) M M, .slice (some ⟨gs, 0, none⟩) lN lN, .slice (some ⟨gi, 0, none⟩) N N] 93 (0, 0))) ∧ (t ≠ 3 → Mrw w' gc 3 N (fun s => .int .i64 ((cl s : Nat) : Int)) N) ∧ (t ≠ 22 → Mrw w' gw 22 M (fun a => V (1 + a)) M) ∧ (t ≠ 4 → Mrw w' gs 4 lN (fun p => .bool (fl p)) lN) ∧ (t ≠ 22 → Mrw w' gi 22 N (fun s => V (1 + M + s)) N) ∧ (t ≠ 3 → Fam B Z (1 + M + N) gc w' V L) := by
  refine ⟨fun n => ?_, fun n => ?_, fun n => ?_, fun n => ?_, fun n => ?_, fun n => ?_⟩
  · refine (o.block b (Array.getElem?_eq_some_iff.1 h.bx).1 (fun e => ?_)).trans h.bx
    have z := h.bx
    rw [e, hx] at z
    injection z with z
    injection z with _ z _
    exact n z
  · exact h.cr.only o (h.cr.tag hx (fun e => n e.symm))
  · exact h.wr.only o (h.wr.tag hx (fun e => n e.symm))
  · exact h.sr.only o (h.sr.tag hx (fun e => n e.symm))
  · exact h.ir.only o (h.ir.tag hx (fun e => n e.symm))
  · exact h.fam.only o (fun i hi k hk e => by subst e; exact row_tag (h.fam.own i hi) hx n hk)
theorem PaR.on {B : Nat} {Z : Nat → Prop} {w : World} {b N M gf : Nat} {aN : Option Addr} {lN cN gc gw gs gi : Nat} {V : Nat → Value} {L : Nat → List Nat} {cl : Nat → Nat} {fl : Nat → Bool} {w' : World} {R : Nat → Prop} (h : PaR B Z w b N M gf aN lN cN gc gw gs gi V L cl fl) (o : Only w w' R) (hR : ∀ k, Rz B Z k → ¬ R k) : PaR B Z w' b N M gf aN lN cN gc gw gs gi V L cl fl := by
  refine ⟨(o.block b (Array.getElem?_eq_some_iff.1 h.bx).1 (hR _ h.zo.1)).trans h.bx, h.cr.only o (hR _ h.zo.2.1), h.wr.only o (hR _ h.zo.2.2.1), h.sr.only o (hR _ h.zo.2.2.2.1), h.ir.only o (hR _ h.zo.2.2.2.2), h.fam.only o (fun i hi k hk => hR k (h.fam.zv i hi k hk)), h.wi, h.zo⟩
theorem PaR.zone {B : Nat} {Z : Nat → Prop} {w : World} {b N M gf : Nat} {aN : Option Addr} {lN cN gc gw gs gi : Nat} {V : Nat → Value} {L : Nat → List Nat} {cl : Nat → Nat} {fl : Nat → Bool} {Z' : Nat → Prop} (h : PaR B Z w b N M gf aN lN cN gc gw gs gi V L cl fl) (hz : ∀ k, k < w.heap.size → Z' k → Z k) : PaR B Z' w b N M gf aN lN cN gc gw gs gi V L cl fl := by
  have key : ∀ k, k < w.heap.size → Rz B Z k → Rz B Z' k := fun k hk r => ⟨r.1, fun z => r.2 (hz k hk z)⟩
  have f := h.fam
  exact ⟨h.bx, h.cr, h.wr, h.sr, h.ir, ⟨f.own, f.ap, f.ac, fun i hi k hk => key k ((f.own i hi).lt k hk).2 (f.zv i hi k hk)⟩, h.wi, key _ (Array.getElem?_eq_some_iff.1 h.bx).1 h.zo.1, key _ h.cr.lt h.zo.2.1, key _ h.wr.lt h.zo.2.2.1, key _ h.sr.lt h.zo.2.2.2.1, key _ h.ir.lt h.zo.2.2.2.2⟩
theorem PaR.below {B : Nat} {Z : Nat → Prop} {w : World} {b N M gf : Nat} {aN : Option Addr} {lN cN gc gw gs gi : Nat} {V : Nat → Value} {L : Nat → List Nat} {cl : Nat → Nat} {fl : Nat → Bool} {w' : World} (h : PaR B Z w b N M gf aN lN cN gc gw gs gi V L cl fl) (d : Below w.heap.size w w') : PaR B Z w' b N M gf aN lN cN gc gw gs gi V L cl fl := h.on (R := fun _ => False) (Only.ofBelow d) (fun _ _ => id)
/-- A flag is written. -/
theorem PaR.flag {B : Nat} {Z : Nat → Prop} {w : World} {b N M gf : Nat} {aN : Option Addr} {lN cN gc gw gs gi : Nat} {V : Nat → Value} {L : Nat → List Nat} {cl : Nat → Nat} {fl : Nat → Bool} (h : PaR B Z w b N M gf aN lN cN gc gw gs gi V L cl fl) (p : Nat) (y : Bool) : PaR B Z (w.setCell ⟨gs, p, none⟩ (.bool y)) b N M gf aN lN cN gc gw gs gi V L cl (updF fl p y) ∧ Only w (w.setCell ⟨gs, p, none⟩ (.bool y)) (fun k => k = gs) := by
  have o := only_set w gs p (.bool y)
  obtain ⟨cs, hx⟩ : ∃ cs, w.heap[gs]? = some (.cells cs 4 (0, 0)) := by obtain ⟨c, h1, _⟩ := h.sr; exact ⟨c, h1⟩
  have k := h.kept hx o
  refine ⟨⟨k.1 (by decide), k.2.1 (by decide), k.2.2.1 (by decide), ?_, k.2.2.2.2.1 (by decide), k.2.2.2.2.2 (by decide), h.wi, h.zo⟩, o⟩
  exact (h.sr.upd p (.bool y)).congr (fun c _ => by unfold updF; split <;> rfl)
/-- A state's class is written. -/
theorem PaR.move {B : Nat} {Z : Nat → Prop} {w : World} {b N M gf : Nat} {aN : Option Addr} {lN cN gc gw gs gi : Nat} {V : Nat → Value} {L : Nat → List Nat} {cl : Nat → Nat} {fl : Nat → Bool} (h : PaR B Z w b N M gf aN lN cN gc gw gs gi V L cl fl) (s c : Nat) : PaR B Z (w.setCell ⟨gc, s, none⟩ (.int .i64 ((c : Nat) : Int))) b N M gf aN lN cN gc gw gs gi V L (updF cl s c) fl ∧ Only w (w.setCell ⟨gc, s, none⟩ (.int .i64 ((c : Nat) : Int))) (fun k => k = gc) := by
  have o := only_set w gc s (.int .i64 ((c : Nat) : Int))
  obtain ⟨cs, hx⟩ : ∃ cs, w.heap[gc]? = some (.cells cs 3 (0, 0)) := by obtain ⟨c, h1, _⟩ := h.cr; exact ⟨c, h1⟩
  have k := h.kept hx o
  refine ⟨⟨k.1 (by decide), ?_, k.2.2.1 (by decide), k.2.2.2.1 (by decide), k.2.2.2.2.1 (by decide), ?_, h.wi, h.zo⟩, o⟩
  · exact (h.cr.upd s (.int .i64 ((c : Nat) : Int))).congr (fun q _ => by unfold updF; split <;> rfl)
  · exact h.fam.only o (fun i hi k hk e => by subst e; exact h.fam.ac i hi hk)
/-- A row that has been changed is laid into its place: among those that wait. -/
theorem PaR.wait {B : Nat} {Z : Nat → Prop} {w : World} {b N M gf : Nat} {aN : Option Addr} {lN cN gc gw gs gi : Nat} {V : Nat → Value} {L : Nat → List Nat} {cl : Nat → Nat} {fl : Nat → Bool} {w' : World} {a : Nat} {v : Value} {X : List Nat} (h : PaR B Z w b N M gf aN lN cN gc gw gs gi V L cl fl) (ha : a < M) (hh : ∀ k, Z k → k < w.heap.size) (o : Only w w' (fun k => (V (1 + a)).ownBlock = some k)) (ho : OwI w' B v (natI X)) (hb : ∀ k, v.ownBlock = some k → (V (1 + a)).ownBlock = some k ∨ w.heap.size ≤ k) :
    PaR B Z (w'.setCell ⟨gw, a, none⟩ v) b N M gf aN lN cN gc gw gs gi (updF V (1 + a) v) (updF L (1 + a) X) cl fl ∧ Only w (w'.setCell ⟨gw, a, none⟩ v) (Rz B Z) := by
  have hz := h.fam.zv (1 + a) (by omega)
  have nb : ∀ {k t : Nat} {cs : Array Value}, w.heap[k]? = some (.cells cs t (0, 0)) → t ≠ 3 → ¬ (V (1 + a)).ownBlock = some k := fun z ne e => row_tag (h.fam.own (1 + a) (by omega)) z ne e
  have gcl := h.cr.lt
  obtain ⟨cw, hw⟩ : ∃ cs, w.heap[gw]? = some (.cells cs 22 (0, 0)) := by obtain ⟨c, h1, _⟩ := h.wr; exact ⟨c, h1⟩
  obtain ⟨cs, hs⟩ : ∃ cs, w.heap[gs]? = some (.cells cs 4 (0, 0)) := by obtain ⟨c, h1, _⟩ := h.sr; exact ⟨c, h1⟩
  obtain ⟨ci, hi2⟩ : ∃ cs, w.heap[gi]? = some (.cells cs 22 (0, 0)) := by obtain ⟨c, h1, _⟩ := h.ir; exact ⟨c, h1⟩
  have bw : w'.heap[gw]? = some (.cells cw 22 (0, 0)) := (o.block _ (Array.getElem?_eq_some_iff.1 hw).1 (nb hw (by decide))).trans hw
  have q := only_set w' gw a v
  have f1 := h.fam.put (by omega) o ho hb gcl hh
  have bb : w'.heap[b]? = _ := (o.block _ (Array.getElem?_eq_some_iff.1 h.bx).1 (nb h.bx (by decide))).trans h.bx
  have r1 := h.cr.only o (h.fam.ac (1 + a) (by omega))
  have r2 := h.wr.only o (nb hw (by decide))
  have r3 := h.sr.only o (nb hs (by decide))
  have r4 := h.ir.only o (nb hi2 (by decide))
  have e0 : updF V (1 + a) v 0 = V 0 := updF_ne _ _ (by omega)
  have ne : ∀ {k t : Nat} {cs : Array Value}, w'.heap[k]? = some (.cells cs t (0, 0)) → t ≠ 22 → k ≠ gw := fun z n e => by
    rw [e, bw] at z
    injection z with z
    injection z with _ z _
    exact n z.symm
  refine ⟨⟨?_, r1.only q (r1.tag bw (by decide)), ?_, r3.only q (r3.tag bw (by decide)), ?_, ?_, h.wi, h.zo⟩, ?_⟩
  · rw [e0]
    exact (q.block _ (Array.getElem?_eq_some_iff.1 bb).1 (ne bb (by decide))).trans bb
  · exact (r2.upd a v).congr (fun c _ => by
      by_cases e : c = a
      · subst e; rw [if_pos rfl, updF_same]
      · rw [if_neg e, updF_ne _ _ (by omega)])
  · exact (r4.only q (fun e => h.wi e.symm)).congr (fun c _ => by rw [updF_ne _ _ (by omega)])
  · exact f1.only q (fun i hi k hk e => by subst e; exact row_tag (f1.own i hi) bw (by decide) hk)
  · exact (o.mono (fun k _ e => hz k e)).trans (q.mono (fun k _ e => by rw [e]; exact h.zo.2.2.1))
/-! ### wait -/
/-- A row of one number, new. -/
def ox1P (B : Nat) (u : Value) : MkP := fun x lo hi W => x = .slice (some ⟨lo, 0, none⟩) 1 1 ∧ B ≤ lo ∧ lo < hi ∧ W.heap[lo]? = some (.cells #[u] 3 (0, 0))
theorem ox1P_mono {B : Nat} {u : Value} : MonoP (ox1P B u) := fun _ _ _ _ _ hs d ⟨e, l, l2, z⟩ => ⟨e, l, l2, (d.block _ (by omega)).trans z⟩
theorem ox1P_keep {B lo hi : Nat} {u x : Value} {W W' : World} {R : Nat → Prop} (hh : hi ≤ W.heap.size) (h : ox1P B u x lo hi W) (o : Only W W' R) (hR : ∀ k, R k → k < B) : ox1P B u x lo hi W' :=
  ⟨h.1, h.2.1, h.2.2.1, (o.block lo (by have := h.2.2.1; omega) (fun q => by have := hR _ q; have := h.2.1; omega)).trans h.2.2.2⟩
/-- A row of numbers with one behind it: in its place or anew. -/
def apI (B : Nat) (X : List Nat) (r : Option Nat) (n : Nat) : MkP := fun x _ _ W => ∃ v, x = v ∧ OwI W B v (natI X) ∧ ∀ k, v.ownBlock = some k → r = some k ∨ n ≤ k
theorem apI_mono {B n : Nat} {X : List Nat} {r : Option Nat} : MonoP (apI B X r n) := fun _ _ _ _ _ _ d ⟨v, e, h, k⟩ => ⟨v, e, own_below h d, k⟩
/-- One number behind a row: at a step of a region that draws. -/
theorem step_appI {w : World} {ops : Array Oper} {o : Oper} {a : Act} {K : Act → World → Prop} {Q : Exit → Act → World → Prop} {E : Prop} (hgd : o.guard = none) (s x : Operand)
    (ho : o.op = .call { callee := .builtin .append, args := #[s, x], argTypes := #[22, 22] }) (B : Nat) (v : Value) (X : List Nat) (hs : a.eval s = v) (hown : OwI w B v (natI X)) (p y : Nat) (hx : a.eval x = .slice (some ⟨p, 0, none⟩) 1 1) (hp : w.heap[p]? = some (.cells #[.int .i64 (y : Int)] 3 (0, 0))) (hl : X.length ≤ 16777216) (hB : B ≤ w.heap.size)
    (h : ∀ v' w', OwI w' B v' (natI (X ++ [y])) → Hid (Only w w' (fun k => v.ownBlock = some k)) → (∀ k, v'.ownBlock = some k → v.ownBlock = some k ∨ w.heap.size ≤ k) → K (a.put o.dst v') w') :
    if Region.wanted o (yielded ops a.tmps) = true then Oper.wp Try.prog o a w K Q else E := by
  obtain ⟨i3, hi3, hz30, hz31, hz32⟩ := info_parts info3
  have hl2 := natI_len X
  refine step_append_lies w hgd s x 22 ho B 3 i3 _ 1 8 Try.underlying22 hi3 hz30 hz31 hz32 rfl (by omega) v (natI X).length ((natI X).map (Value.int .i64)) hs hown ⟨p, 0, none⟩ 1 1 [.int .i64 (y : Int)] hx rfl (one_cells hp) (by simp [Value.oneCell']) (by omega) (by unfold maxLen; omega) (by omega) hB w.heap.size rfl ?_
  intro g cap w' h1 h2 h3 h4
  refine h _ w' ?_ (hide (grown_only h2)) (fun k hk => ?_)
  · have e : (natI (X ++ [y])) = natI X ++ [(y : Int)] := by simp [natI]
    unfold OwI
    rw [e, List.length_append, List.map_append]
    exact h1
  · cases hk
    rcases h3 with q | q
    · exact Or.inl q
    · exact Or.inr (by rw [q]; exact Nat.le_refl _)
set_option maxRecDepth 100000 in
set_option maxHeartbeats 4000000 in
theorem wait_no (B : Nat) (Z : Nat → Prop) (w : World) (b N M gf : Nat) (aN : Option Addr) (lN cN gc gw gs gi : Nat) (V : Nat → Value) (L : Nat → List Nat) (cl : Nat → Nat) (fl : Nat → Bool) (h : PaR B Z w b N M gf aN lN cN gc gw gs gi V L cl fl) (p : Nat) (hp : p < lN) (hf : fl p = true) :
    Calls Try.prog 70 #[.pointer (some ⟨b, 0, none⟩), .int .i64 (p : Int)] w fun e w' => e = .returned (.tuple #[]) ∧ w' = w := by
  have y0 : w.cell? ⟨b, 6, none⟩ = some (.slice (some ⟨gs, 0, none⟩) lN lN) := cell_of h.bx rfl
  have y1 : w.cell? ⟨gs, p, none⟩ = some (.bool true) := by have := h.sr.at p hp; rwa [hf] at this
  have l0 : (0 : Int) ≤ (p : Int) := by omega
  have l1 : (p : Int) < (lN : Int) := by omega
  clear h hf hp
  go_enter Try.func70, Try.ntmps70
  go_wp2_with fail
  go_end0
  exact ⟨rfl, rfl⟩
set_option maxRecDepth 100000 in
set_option maxHeartbeats 4000000 in
theorem wait_ok (B : Nat) (Z : Nat → Prop) (w : World) (b N M gf : Nat) (aN : Option Addr) (lN cN gc gw gs gi : Nat) (V : Nat → Value) (L : Nat → List Nat) (cl : Nat → Nat) (fl : Nat → Bool) (h : PaR B Z w b N M gf aN lN cN gc gw gs gi V L cl fl) (p : Nat) (hp : p < lN) (hlN : lN = N * M) (bl : lN ≤ 4194304) (hf : fl p = false) (hXl : (L (1 + p % M)).length ≤ 16777216) (hB : B ≤ w.heap.size) (hh : ∀ k, Z k → k < w.heap.size) :
    Calls Try.prog 70 #[.pointer (some ⟨b, 0, none⟩), .int .i64 (p : Int)] w fun e w' => e = .returned (.tuple #[]) ∧ ∃ v, Hid (PaR B Z w' b N M gf aN lN cN gc gw gs gi (updF V (1 + p % M) v) (updF L (1 + p % M) (L (1 + p % M) ++ [p / M])) cl (updF fl p true) ∧ Only w w' (Rz B Z)) := by
  have hM : 0 < M := by
    rcases Nat.eq_zero_or_pos M with e | e
    · rw [hlN, e] at hp; simp at hp
    · exact e
  obtain ⟨a, ha⟩ : ∃ a, p % M = a := ⟨_, rfl⟩
  obtain ⟨s, hs⟩ : ∃ s, p / M = s := ⟨_, rfl⟩
  have haM : a < M := by rw [← ha]; exact Nat.mod_lt _ hM
  have iq : (p : Int).tdiv (M : Int) = (s : Int) := by rw [← hs, ← Int.ofNat_tdiv]
  have ir : (p : Int).tmod (M : Int) = (a : Int) := by rw [← ha, ← Int.ofNat_tmod]
  rw [ha] at hXl
  rw [ha, hs]
  have h3s : Hid (s ≤ p ∧ p ≤ 9223372036854775807) := hide ⟨by rw [← hs]; exact Nat.div_le_self _ _, by omega⟩
  clear ha hs
  have y0 : w.cell? ⟨b, 0, none⟩ = some (.int .i64 (M : Int)) := cell_of h.bx rfl
  have y6 : w.cell? ⟨b, 6, none⟩ = some (.slice (some ⟨gs, 0, none⟩) lN lN) := cell_of h.bx rfl
  have y1 : w.cell? ⟨gs, p, none⟩ = some (.bool false) := by have := h.sr.at p hp; rwa [hf] at this
  have g1 : w.frozen? ⟨gs, p, none⟩ = false := h.sr.fz p
  have l0 : (0 : Int) ≤ (p : Int) := by omega
  have l1 : (p : Int) < (lN : Int) := by omega
  have l2 : (0 : Int) ≤ (a : Int) := by omega
  have l3 : (a : Int) < (M : Int) := by omega
  have nz : ¬ (M : Int) = 0 := by omega
  have nz' : ¬ M = 0 := by omega
  have hsl : s ≤ p := h3s.out.1
  have iws : IntKind.i64.wrap (s : Int) = (s : Int) := by have := h3s.out.2; rw [IntKind.wrap_i64]; omega
  obtain ⟨w3, hw3⟩ : ∃ w3, w.setCell ⟨gs, p, none⟩ (.bool true) = w3 := ⟨_, rfl⟩
  have h3 := h.flag p true
  rw [hw3] at h3
  obtain ⟨h3, o3⟩ := h3
  have z0 : w3.cell? ⟨b, 0, none⟩ = some (.int .i64 (M : Int)) := cell_of h3.bx rfl
  have z5 : w3.cell? ⟨b, 5, none⟩ = some (.slice (some ⟨gw, 0, none⟩) M M) := cell_of h3.bx rfl
  obtain ⟨X, hX⟩ : ∃ X, L (1 + a) = X := ⟨_, rfl⟩
  have hO := h3.fam.own (1 + a) (by omega)
  rw [hX] at hO hXl ⊢
  obtain ⟨t1, c1, hv⟩ := own_slice hO
  have hz := h3.fam.zv (1 + a) (by omega)
  obtain ⟨nX, hnX⟩ : ∃ l, (natI X).length = l := ⟨_, rfl⟩
  have HGWc : w3.cell? ⟨gw, a, none⟩ = some (.slice t1 (natI X).length c1) := by have := h3.wr.at a haM; rw [hv] at this; exact this
  rw [hnX] at HGWc hv
  have hO' := hO
  rw [hv] at hO
  have hB3 : B ≤ w3.heap.size := Nat.le_trans hB o3.size
  have hh3 : ∀ k, Z k → k < w3.heap.size := fun k z => Nat.lt_of_lt_of_le (hh k z) o3.size
  obtain ⟨cw, hcw⟩ : ∃ cs, w3.heap[gw]? = some (.cells cs 22 (0, 0)) := by obtain ⟨c, e1, _⟩ := h3.wr; exact ⟨c, e1⟩
  have HGW : Hid (∀ W bb, JO w3 (fun k => (Value.slice t1 nX c1).ownBlock = some k) bb W → W.cell? ⟨gw, a, none⟩ = some (.slice t1 nX c1)) := hide (fun W bb d => by
    have e := JO_blk d hcw (fun e => row_tag hO hcw (by decide) e)
    rw [World.cell?_of_block (e.trans hcw.symm)]
    exact HGWc)
  have HGF : Hid (∀ W bb, JO w3 (fun k => (Value.slice t1 nX c1).ownBlock = some k) bb W → W.frozen? ⟨gw, a, none⟩ = false) := hide (fun W bb d => fz_of (JO_blk d hcw (fun e => row_tag hO hcw (by decide) e)))
  have HBX := hide (And.intro h3.bx (fun e => row_tag hO h3.bx (by decide) e : ¬ (Value.slice t1 nX c1).ownBlock = some b))
  have HLO := hide (fun k hk => (hO.lt k hk).2 : ∀ k, (Value.slice t1 nX c1).ownBlock = some k → k < w3.heap.size)
  have HOX := hide hO
  have HPW : Hid (∀ W v, Only w3 W (fun k => (Value.slice t1 nX c1).ownBlock = some k) → OwI W B v (natI (X ++ [s])) → (∀ k, v.ownBlock = some k → (Value.slice t1 nX c1).ownBlock = some k ∨ w3.heap.size ≤ k) → PaR B Z (W.setCell ⟨gw, a, none⟩ v) b N M gf aN lN cN gc gw gs gi (updF V (1 + a) v) (updF L (1 + a) (X ++ [s])) cl (updF fl p true) ∧ Only w (W.setCell ⟨gw, a, none⟩ v) (Rz B Z)) := hide (fun W v o ho hb => by
    have q := h3.wait (v := v) (X := X ++ [s]) haM hh3 (by rw [hv]; exact o) ho (by rw [hv]; exact hb)
    exact ⟨q.1, (o3.mono (fun k _ e => by rw [e]; exact h.zo.2.2.2.1)).trans q.2⟩)
  clear hO hO' hz h3 h hf hv hcw HGWc hnX hX hlN
  go_enter Try.func70, Try.ntmps70
  go_upto_region 3 with fail
  have hmo : MonIL 0 [vI 0 (.pointer (some ⟨b, 0, none⟩)), vI 1 (.pointer (some ⟨b, 0, none⟩)), vI 2 (.pointer (some ⟨b, 5, none⟩)), vI 3 (.slice (some ⟨gw, 0, none⟩) M M), vI 4 (.int .i64 (a : Int)), vI 5 (.pointer (some ⟨b, 0, none⟩)), vI 6 (.pointer (some ⟨b, 0, none⟩)), vI 7 (.pointer (some ⟨b, 5, none⟩)), vI 8 (.slice (some ⟨gw, 0, none⟩) M M), vI 9 (.int .i64 (a : Int)), vI 10 (.pointer (some ⟨gw, a, none⟩)), vI 11 (.slice t1 nX c1), vI 12 (.int .i64 (p : Int)), vI 13 (.pointer (some ⟨b, 0, none⟩)), vI 14 (.pointer (some ⟨b, 0, none⟩)), vI 15 (.pointer (some ⟨b, 0, none⟩)), vI 16 (.pointer (some ⟨b, 0, none⟩)), vI 17 (.int .i64 (M : Int)), vI 18 (.int .i64 (s : Int)), pI 19 (ox1P w3.heap.size (.int .i64 (s : Int))), pI 20 (apI B (X ++ [s]) (Value.slice t1 nX c1).ownBlock w3.heap.size)] := ⟨vI_mono _ _, vI_mono _ _, vI_mono _ _, vI_mono _ _, vI_mono _ _, vI_mono _ _, vI_mono _ _, vI_mono _ _, vI_mono _ _, vI_mono _ _, vI_mono _ _, vI_mono _ _, vI_mono _ _, vI_mono _ _, vI_mono _ _, vI_mono _ _, vI_mono _ _, vI_mono _ _, vI_mono _ _, pI_mono ox1P_mono, pI_mono apI_mono, trivial⟩
  refine wp_region_sj (JO w3 (fun k => (Value.slice t1 nX c1).ownBlock = some k)) 20 [vI 0 (.pointer (some ⟨b, 0, none⟩)), vI 1 (.pointer (some ⟨b, 0, none⟩)), vI 2 (.pointer (some ⟨b, 5, none⟩)), vI 3 (.slice (some ⟨gw, 0, none⟩) M M), vI 4 (.int .i64 (a : Int)), vI 5 (.pointer (some ⟨b, 0, none⟩)), vI 6 (.pointer (some ⟨b, 0, none⟩)), vI 7 (.pointer (some ⟨b, 5, none⟩)), vI 8 (.slice (some ⟨gw, 0, none⟩) M M), vI 9 (.int .i64 (a : Int)), vI 10 (.pointer (some ⟨gw, a, none⟩)), vI 11 (.slice t1 nX c1), vI 12 (.int .i64 (p : Int)), vI 13 (.pointer (some ⟨b, 0, none⟩)), vI 14 (.pointer (some ⟨b, 0, none⟩)), vI 15 (.pointer (some ⟨b, 0, none⟩)), vI 16 (.pointer (some ⟨b, 0, none⟩)), vI 17 (.int .i64 (M : Int)), vI 18 (.int .i64 (s : Int)), pI 19 (ox1P w3.heap.size (.int .i64 (s : Int))), pI 20 (apI B (X ++ [s]) (Value.slice t1 nX c1).ownBlock w3.heap.size)] (by kernel_rfl) (JO_first ⟨rfl, rfl, rfl, Nat.le_refl _, fun _ _ => rfl⟩) (by kernel_rfl) (by kernel_rfl) (by kernel_rfl) (by kernel_rfl) hmo ⟨?o0, ?o1, ?o2, ?o3, ?o4, ?o5, ?o6, ?o7, ?o8, ?o9, ?o10, ?o11, ?o12, ?o13, ?o14, ?o15, ?o16, ?o17, ?o18, ?o19, ?o20, trivial⟩ ?fin
  case o0 =>
    intro At yy W bb hy hb hbb d hz hd K hK
    have s0 : At.tmps.getD 0 undef = .pointer (some ⟨b, 0, none⟩) := hb 0 rfl
    have s0' := s0
    rw [Array.getD_eq_getD_getElem?] at s0'
    clear hd hy hb
    go_simp
    exact hK.out _ W (stpj_of hmo d (Below.refl _ _)) (if_pos rfl)
  case o1 =>
    intro At yy W bb hy hb hbb d hz hd K hK
    have e0 : yy 0 = .pointer (some ⟨b, 0, none⟩) := by obtain ⟨_, _, _, _, e⟩ := hd ⟨0, .data⟩ (by simp) rfl rfl; exact e
    have s26 := (hy 0 _ 26 rfl rfl).trans e0
    have s26' := s26
    rw [Array.getD_eq_getD_getElem?] at s26'
    clear hd hy hb
    go_simp
    exact hK.out _ W (stpj_of hmo d (Below.refl _ _)) (if_pos rfl)
  case o2 =>
    intro At yy W bb hy hb hbb d hz hd K hK
    have e1 : yy 1 = .pointer (some ⟨b, 0, none⟩) := by obtain ⟨_, _, _, _, e⟩ := hd ⟨1, .data⟩ (by simp) rfl rfl; exact e
    have s27 := (hy 1 _ 27 rfl rfl).trans e1
    have s27' := s27
    rw [Array.getD_eq_getD_getElem?] at s27'
    clear hd hy hb
    go_simp
    exact hK.out _ W (stpj_of hmo d (Below.refl _ _)) (if_pos rfl)
  case o3 =>
    intro At yy W bb hy hb hbb d hz hd K hK
    have e2 : yy 2 = .pointer (some ⟨b, 5, none⟩) := by obtain ⟨_, _, _, _, e⟩ := hd ⟨2, .data⟩ (by simp) rfl rfl; exact e
    have s28 := (hy 2 _ 28 rfl rfl).trans e2
    have s28' := s28
    rw [Array.getD_eq_getD_getElem?] at s28'
    clear hd hy hb
    have y5 : W.cell? ⟨b, 5, none⟩ = some (.slice (some ⟨gw, 0, none⟩) M M) := cell_of (JO_blk d HBX.out.1 HBX.out.2) rfl
    go_simp
    exact hK.out _ W (stpj_of hmo d (Below.refl _ _)) (if_pos rfl)
  case o4 =>
    intro At yy W bb hy hb hbb d hz hd K hK
    have s4 : At.tmps.getD 4 undef = .int .i64 (a : Int) := hb 4 rfl
    have s4' := s4
    rw [Array.getD_eq_getD_getElem?] at s4'
    clear hd hy hb
    go_simp
    exact hK.out _ W (stpj_of hmo d (Below.refl _ _)) (if_pos rfl)
  case o5 =>
    intro At yy W bb hy hb hbb d hz hd K hK
    have s0 : At.tmps.getD 0 undef = .pointer (some ⟨b, 0, none⟩) := hb 0 rfl
    have s0' := s0
    rw [Array.getD_eq_getD_getElem?] at s0'
    clear hd hy hb
    go_simp
    exact hK.out _ W (stpj_of hmo d (Below.refl _ _)) (if_pos rfl)
  case o6 =>
    intro At yy W bb hy hb hbb d hz hd K hK
    have e5 : yy 5 = .pointer (some ⟨b, 0, none⟩) := by obtain ⟨_, _, _, _, e⟩ := hd ⟨5, .data⟩ (by simp) rfl rfl; exact e
    have s31 := (hy 5 _ 31 rfl rfl).trans e5
    have s31' := s31
    rw [Array.getD_eq_getD_getElem?] at s31'
    clear hd hy hb
    go_simp
    exact hK.out _ W (stpj_of hmo d (Below.refl _ _)) (if_pos rfl)
  case o7 =>
    intro At yy W bb hy hb hbb d hz hd K hK
    have e6 : yy 6 = .pointer (some ⟨b, 0, none⟩) := by obtain ⟨_, _, _, _, e⟩ := hd ⟨6, .data⟩ (by simp) rfl rfl; exact e
    have s32 := (hy 6 _ 32 rfl rfl).trans e6
    have s32' := s32
    rw [Array.getD_eq_getD_getElem?] at s32'
    clear hd hy hb
    go_simp
    exact hK.out _ W (stpj_of hmo d (Below.refl _ _)) (if_pos rfl)
  case o8 =>
    intro At yy W bb hy hb hbb d hz hd K hK
    have e7 : yy 7 = .pointer (some ⟨b, 5, none⟩) := by obtain ⟨_, _, _, _, e⟩ := hd ⟨7, .data⟩ (by simp) rfl rfl; exact e
    have s33 := (hy 7 _ 33 rfl rfl).trans e7
    have s33' := s33
    rw [Array.getD_eq_getD_getElem?] at s33'
    clear hd hy hb
    have y5 : W.cell? ⟨b, 5, none⟩ = some (.slice (some ⟨gw, 0, none⟩) M M) := cell_of (JO_blk d HBX.out.1 HBX.out.2) rfl
    go_simp
    exact hK.out _ W (stpj_of hmo d (Below.refl _ _)) (if_pos rfl)
  case o9 =>
    intro At yy W bb hy hb hbb d hz hd K hK
    have s4 : At.tmps.getD 4 undef = .int .i64 (a : Int) := hb 4 rfl
    have s4' := s4
    rw [Array.getD_eq_getD_getElem?] at s4'
    clear hd hy hb
    go_simp
    exact hK.out _ W (stpj_of hmo d (Below.refl _ _)) (if_pos rfl)
  case o10 =>
    intro At yy W bb hy hb hbb d hz hd K hK
    have e8 : yy 8 = .slice (some ⟨gw, 0, none⟩) M M := by obtain ⟨_, _, _, _, e⟩ := hd ⟨8, .data⟩ (by simp) rfl rfl; exact e
    have e9 : yy 9 = .int .i64 (a : Int) := by obtain ⟨_, _, _, _, e⟩ := hd ⟨9, .data⟩ (by simp) rfl rfl; exact e
    have s34 := (hy 8 _ 34 rfl rfl).trans e8
    have s34' := s34
    rw [Array.getD_eq_getD_getElem?] at s34'
    have s35 := (hy 9 _ 35 rfl rfl).trans e9
    have s35' := s35
    rw [Array.getD_eq_getD_getElem?] at s35'
    clear hd hy hb
    go_simp
    exact hK.out _ W (stpj_of hmo d (Below.refl _ _)) (if_pos rfl)
  case o11 =>
    intro At yy W bb hy hb hbb d hz hd K hK
    have e10 : yy 10 = .pointer (some ⟨gw, a, none⟩) := by obtain ⟨_, _, _, _, e⟩ := hd ⟨10, .data⟩ (by simp) rfl rfl; exact e
    have s36 := (hy 10 _ 36 rfl rfl).trans e10
    have s36' := s36
    rw [Array.getD_eq_getD_getElem?] at s36'
    clear hd hy hb
    have y : W.cell? ⟨gw, a, none⟩ = some (.slice t1 nX c1) := (HGW.out W _ d)
    go_simp
    exact hK.out _ W (stpj_of hmo d (Below.refl _ _)) (if_pos rfl)
  case o12 =>
    intro At yy W bb hy hb hbb d hz hd K hK
    have s1 : At.tmps.getD 1 undef = .int .i64 (p : Int) := hb 1 rfl
    have s1' := s1
    rw [Array.getD_eq_getD_getElem?] at s1'
    clear hd hy hb
    go_simp
    exact hK.out _ W (stpj_of hmo d (Below.refl _ _)) (if_pos rfl)
  case o13 =>
    intro At yy W bb hy hb hbb d hz hd K hK
    have s0 : At.tmps.getD 0 undef = .pointer (some ⟨b, 0, none⟩) := hb 0 rfl
    have s0' := s0
    rw [Array.getD_eq_getD_getElem?] at s0'
    clear hd hy hb
    go_simp
    exact hK.out _ W (stpj_of hmo d (Below.refl _ _)) (if_pos rfl)
  case o14 =>
    intro At yy W bb hy hb hbb d hz hd K hK
    have e13 : yy 13 = .pointer (some ⟨b, 0, none⟩) := by obtain ⟨_, _, _, _, e⟩ := hd ⟨13, .data⟩ (by simp) rfl rfl; exact e
    have s39 := (hy 13 _ 39 rfl rfl).trans e13
    have s39' := s39
    rw [Array.getD_eq_getD_getElem?] at s39'
    clear hd hy hb
    go_simp
    exact hK.out _ W (stpj_of hmo d (Below.refl _ _)) (if_pos rfl)
  case o15 =>
    intro At yy W bb hy hb hbb d hz hd K hK
    have e14 : yy 14 = .pointer (some ⟨b, 0, none⟩) := by obtain ⟨_, _, _, _, e⟩ := hd ⟨14, .data⟩ (by simp) rfl rfl; exact e
    have s40 := (hy 14 _ 40 rfl rfl).trans e14
    have s40' := s40
    rw [Array.getD_eq_getD_getElem?] at s40'
    clear hd hy hb
    go_simp
    exact hK.out _ W (stpj_of hmo d (Below.refl _ _)) (if_pos rfl)
  case o16 =>
    intro At yy W bb hy hb hbb d hz hd K hK
    have e15 : yy 15 = .pointer (some ⟨b, 0, none⟩) := by obtain ⟨_, _, _, _, e⟩ := hd ⟨15, .data⟩ (by simp) rfl rfl; exact e
    have s41 := (hy 15 _ 41 rfl rfl).trans e15
    have s41' := s41
    rw [Array.getD_eq_getD_getElem?] at s41'
    clear hd hy hb
    go_simp
    exact hK.out _ W (stpj_of hmo d (Below.refl _ _)) (if_pos rfl)
  case o17 =>
    intro At yy W bb hy hb hbb d hz hd K hK
    have e16 : yy 16 = .pointer (some ⟨b, 0, none⟩) := by obtain ⟨_, _, _, _, e⟩ := hd ⟨16, .data⟩ (by simp) rfl rfl; exact e
    have s42 := (hy 16 _ 42 rfl rfl).trans e16
    have s42' := s42
    rw [Array.getD_eq_getD_getElem?] at s42'
    clear hd hy hb
    have y0 : W.cell? ⟨b, 0, none⟩ = some (.int .i64 (M : Int)) := cell_of (JO_blk d HBX.out.1 HBX.out.2) rfl
    go_simp
    exact hK.out _ W (stpj_of hmo d (Below.refl _ _)) (if_pos rfl)
  case o18 =>
    intro At yy W bb hy hb hbb d hz hd K hK
    have e12 : yy 12 = .int .i64 (p : Int) := by obtain ⟨_, _, _, _, e⟩ := hd ⟨12, .data⟩ (by simp) rfl rfl; exact e
    have e17 : yy 17 = .int .i64 (M : Int) := by obtain ⟨_, _, _, _, e⟩ := hd ⟨17, .data⟩ (by simp) rfl rfl; exact e
    have s38 := (hy 12 _ 38 rfl rfl).trans e12
    have s38' := s38
    rw [Array.getD_eq_getD_getElem?] at s38'
    have s43 := (hy 17 _ 43 rfl rfl).trans e17
    have s43' := s43
    rw [Array.getD_eq_getD_getElem?] at s43'
    clear hd hy hb
    go_simp
    exact hK.out _ W (stpj_of hmo d (Below.refl _ _)) (if_pos rfl)
  case o19 =>
    intro At yy W bb hy hb hbb d hz hd K hK
    have e18 : yy 18 = .int .i64 (s : Int) := by obtain ⟨_, _, _, _, e⟩ := hd ⟨18, .data⟩ (by simp) rfl rfl; exact e
    have s44 := (hy 18 _ 44 rfl rfl).trans e18
    have s44' := s44
    rw [Array.getD_eq_getD_getElem?] at s44'
    clear hd hy hb
    go_simp
    exact hK.out _ _ (stpj_of hmo (JO_on d ((Below.refl _ _).alloc (Nat.le_refl _) _)) ((Below.refl _ _).alloc (Nat.le_refl _) _)) ⟨if_pos rfl, hz, by simp, World.alloc_heap_new _ _⟩
  case o20 =>
    intro At yy W bb hy hb hbb d hz hd K hK
    have e11 : yy 11 = .slice t1 nX c1 := by obtain ⟨_, _, _, _, e⟩ := hd ⟨11, .data⟩ (by simp) rfl rfl; exact e
    have f19 := hd ⟨19, .data⟩ (by simp) rfl rfl
    obtain ⟨lo2, hi2, hl2, hh2, e19, b2, l2, z2⟩ := f19
    have s37 := (hy 11 _ 37 rfl rfl).trans e11
    have s37' := s37
    rw [Array.getD_eq_getD_getElem?] at s37'
    have s45 := (hy 19 _ 45 rfl rfl).trans e19
    have s45' := s45
    rw [Array.getD_eq_getD_getElem?] at s45'
    clear hd hb
    have hb0 := hbb rfl
    subst hb0
    refine step_appI rfl _ _ rfl B (.slice t1 nX c1) X s37 (own_below HOX.out (d.1 rfl)) lo2 s s45 z2 hXl (Nat.le_trans hB3 hz) ?_
    intro v4 w4 ho4 hg4 hv4
    exact hK.out _ w4 (stpj_keeps [] rfl (JO_put d hg4.out) hg4.out.size ⟨.inr (fun _ _ _ h => h), .inr (fun _ _ _ h => h), .inr (fun _ _ _ h => h), .inr (fun _ _ _ h => h), .inr (fun _ _ _ h => h), .inr (fun _ _ _ h => h), .inr (fun _ _ _ h => h), .inr (fun _ _ _ h => h), .inr (fun _ _ _ h => h), .inr (fun _ _ _ h => h), .inr (fun _ _ _ h => h), .inr (fun _ _ _ h => h), .inr (fun _ _ _ h => h), .inr (fun _ _ _ h => h), .inr (fun _ _ _ h => h), .inr (fun _ _ _ h => h), .inr (fun _ _ _ h => h), .inr (fun _ _ _ h => h), .inr (fun _ _ _ h => h), .inr (fun _ _ hh h => ox1P_keep hh h hg4.out HLO.out), .inl (by simp), trivial⟩) ⟨v4, if_pos rfl, ho4, fun k hk => (hv4 k hk).imp id (Nat.le_trans hz)⟩
  case fin =>
    intro yy lo hi W hM
    show wpList _ _ _ [_, _] _ _
    have e0 : yy 0 = .pointer (some ⟨b, 0, none⟩) := hM.fact 0 (by simp) rfl (notR_all 0 rfl)
    have e1 : yy 1 = .pointer (some ⟨b, 0, none⟩) := hM.fact 1 (by simp) rfl (notR_all 1 rfl)
    have e2 : yy 2 = .pointer (some ⟨b, 5, none⟩) := hM.fact 2 (by simp) rfl (notR_all 2 rfl)
    have e3 : yy 3 = .slice (some ⟨gw, 0, none⟩) M M := hM.fact 3 (by simp) rfl (notR_all 3 rfl)
    have e4 : yy 4 = .int .i64 (a : Int) := hM.fact 4 (by simp) rfl (notR_all 4 rfl)
    have e5 : yy 5 = .pointer (some ⟨b, 0, none⟩) := hM.fact 5 (by simp) rfl (notR_all 5 rfl)
    have e6 : yy 6 = .pointer (some ⟨b, 0, none⟩) := hM.fact 6 (by simp) rfl (notR_all 6 rfl)
    have e7 : yy 7 = .pointer (some ⟨b, 5, none⟩) := hM.fact 7 (by simp) rfl (notR_all 7 rfl)
    have e8 : yy 8 = .slice (some ⟨gw, 0, none⟩) M M := hM.fact 8 (by simp) rfl (notR_all 8 rfl)
    have e9 : yy 9 = .int .i64 (a : Int) := hM.fact 9 (by simp) rfl (notR_all 9 rfl)
    have e10 : yy 10 = .pointer (some ⟨gw, a, none⟩) := hM.fact 10 (by simp) rfl (notR_all 10 rfl)
    have e11 : yy 11 = .slice t1 nX c1 := hM.fact 11 (by simp) rfl (notR_all 11 rfl)
    have e12 : yy 12 = .int .i64 (p : Int) := hM.fact 12 (by simp) rfl (notR_all 12 rfl)
    have e13 : yy 13 = .pointer (some ⟨b, 0, none⟩) := hM.fact 13 (by simp) rfl (notR_all 13 rfl)
    have e14 : yy 14 = .pointer (some ⟨b, 0, none⟩) := hM.fact 14 (by simp) rfl (notR_all 14 rfl)
    have e15 : yy 15 = .pointer (some ⟨b, 0, none⟩) := hM.fact 15 (by simp) rfl (notR_all 15 rfl)
    have e16 : yy 16 = .pointer (some ⟨b, 0, none⟩) := hM.fact 16 (by simp) rfl (notR_all 16 rfl)
    have e17 : yy 17 = .int .i64 (M : Int) := hM.fact 17 (by simp) rfl (notR_all 17 rfl)
    have e18 : yy 18 = .int .i64 (s : Int) := hM.fact 18 (by simp) rfl (notR_all 18 rfl)
    obtain ⟨v4, e20, O20, B20⟩ := hM.fact 20 (by simp) rfl (notR_all 20 rfl)
    obtain ⟨e19, _, _, _⟩ := hM.fact 19 (by simp) rfl (notR_all 19 rfl)
    have dd : JO w3 (fun k => (Value.slice t1 nX c1).ownBlock = some k) true W := hM.d
    simp only [fills, Act.put, List.take, List.length, List.setIfInBounds_toArray, List.set_cons_zero, List.set_cons_succ, e0, e1, e2, e3, e4, e5, e6, e7, e8, e9, e10, e11, e12, e13, e14, e15, e16, e17, e18, e19, e20]
    generalize lo 19 = p8
    obtain ⟨b4, c4, e4⟩ := own_slice O20
    subst e4
    clear hM hmo e0 e1 e2 e3 e4 e5 e6 e7 e8 e9 e10 e11 e12 e13 e14 e15 e16 e17 e18 e19 e20
    have HF := HPW.out W (.slice b4 (natI (X ++ [s])).length c4) dd.2 O20 B20
    have y6 : W.cell? ⟨gw, a, none⟩ = some (.slice t1 nX c1) := HGW.out W _ dd
    have g6 : W.frozen? ⟨gw, a, none⟩ = false := HGF.out W _ dd
    clear O20 B20 dd
    go_wp2_with fail
    go_end0
    exact ⟨rfl, _, hide HF⟩
/-! ### others -/
/-- Those that wait are those whose flag is set, each once. -/
def WtOk (N M : Nat) (L : Nat → List Nat) (fl : Nat → Bool) : Prop := ∀ a, a < M → (L (1 + a)).Nodup ∧ ∀ s, s ∈ L (1 + a) ↔ s < N ∧ fl (s * M + a) = true
theorem place_div {p M : Nat} : p / M * M + p % M = p := by rw [Nat.mul_comm]; exact Nat.div_add_mod p M
theorem WtOk.put {N M p : Nat} {L : Nat → List Nat} {fl : Nat → Bool} (h : WtOk N M L fl) (hp : p < N * M) (hf : fl p = false) : WtOk N M (updF L (1 + p % M) (L (1 + p % M) ++ [p / M])) (updF fl p true) := fun a ha => by
  obtain ⟨h1, h2⟩ := h a ha
  have hM : 0 < M := by omega
  have hs : p / M < N := Nat.div_lt_of_lt_mul (by rw [Nat.mul_comm]; exact hp)
  by_cases e : a = p % M
  · subst e
    rw [updF_same]
    refine ⟨List.nodup_append.2 ⟨h1, by simp, fun x hx y hy e => ?_⟩, fun s => ?_⟩
    · rw [List.mem_singleton] at hy
      subst hy
      subst e
      have := ((h2 _).1 hx).2
      rw [place_div, hf] at this
      cases this
    · rw [List.mem_append, List.mem_singleton, h2 s]
      by_cases e : s = p / M
      · subst e
        rw [place_div]
        exact ⟨fun _ => ⟨hs, updF_same _ _ _⟩, fun _ => Or.inr rfl⟩
      · rw [updF_ne _ _ (fun z => e (by rw [← z]; exact (div_place ha).symm))]
        exact ⟨fun z => z.resolve_right e, Or.inl⟩
  · rw [updF_ne _ _ (by omega)]
    refine ⟨h1, fun s => ?_⟩
    rw [updF_ne _ _ (fun z => e (by rw [← z]; exact (mod_place ha).symm))]
    exact h2 s
theorem WtOk.few {N M a : Nat} {L : Nat → List Nat} {fl : Nat → Bool} (h : WtOk N M L fl) (ha : a < M) : (L (1 + a)).length ≤ N := nodup_le (h a ha).1 (fun q hq => (((h a ha).2 q).1 hq).1)
theorem updF_eq {α : Type} {f : Nat → α} {i : Nat} {x : α} (h : f i = x) : updF f i x = f := funext fun j => by
  by_cases e : j = i
  · subst e; rw [updF_same, h]
  · exact updF_ne _ _ e
theorem wait_any (B : Nat) (Z : Nat → Prop) (w : World) (b N M gf : Nat) (aN : Option Addr) (lN cN gc gw gs gi : Nat) (V : Nat → Value) (L : Nat → List Nat) (cl : Nat → Nat) (fl : Nat → Bool) (h : PaR B Z w b N M gf aN lN cN gc gw gs gi V L cl fl) (hW : WtOk N M L fl) (p : Nat) (hp : p < lN) (hlN : lN = N * M) (bl : lN ≤ 4194304) (bN : N ≤ 16777216) (hB : B ≤ w.heap.size) (hh : ∀ k, Z k → k < w.heap.size) :
    Calls Try.prog 70 #[.pointer (some ⟨b, 0, none⟩), .int .i64 (p : Int)] w fun e w' => e = .returned (.tuple #[]) ∧ ∃ V' L', Hid (PaR B Z w' b N M gf aN lN cN gc gw gs gi V' L' cl (updF fl p true) ∧ WtOk N M L' (updF fl p true) ∧ (V' 0 = V 0 ∧ L' 0 = L 0) ∧ (∀ s, V' (1 + M + s) = V (1 + M + s) ∧ L' (1 + M + s) = L (1 + M + s)) ∧ Only w w' (Rz B Z)) := by
  cases hf : fl p with
  | true =>
    refine (wait_no B Z w b N M gf aN lN cN gc gw gs gi V L cl fl h p hp hf).mono ?_
    rintro e w' ⟨rfl, e2⟩
    obtain rfl := e2.symm
    exact ⟨rfl, V, L, hide ⟨by rw [updF_eq hf]; exact h, by rw [updF_eq hf]; exact hW, ⟨rfl, rfl⟩, fun _ => ⟨rfl, rfl⟩, Only.ofBelow (Below.refl _ _)⟩⟩
  | false =>
    have hpp : p < N * M := by rw [← hlN]; exact hp
    have hM : p % M < M := Nat.mod_lt _ (by
      rcases Nat.eq_zero_or_pos M with e | e
      · rw [e, Nat.mul_zero] at hpp; omega
      · exact e)
    refine (wait_ok B Z w b N M gf aN lN cN gc gw gs gi V L cl fl h p hp hlN bl hf (by have := hW.few hM; omega) hB hh).mono ?_
    rintro e w' ⟨rfl, v, H⟩
    refine ⟨rfl, _, _, hide ⟨H.out.1, hW.put hpp hf, ⟨updF_ne _ _ (by omega), updF_ne _ _ (by omega)⟩, fun s => ⟨updF_ne _ _ (by omega), updF_ne _ _ (by omega)⟩, H.out.2⟩⟩
/-- The states of a class that are not in a group. -/
def othL (N : Nat) (cl : Nat → Nat) (C : Nat) (G : List Nat) : List Nat := (List.range N).filter (fun s => decide (cl s = C) && !decide (s ∈ G))
theorem othL_le (N : Nat) (cl : Nat → Nat) (C : Nat) (G : List Nat) : (othL N cl C G).length ≤ N := by
  unfold othL
  exact Nat.le_trans (List.length_filter_le _ _) (by simp)
theorem othL_succ (N : Nat) (cl : Nat → Nat) (C : Nat) (G : List Nat) : othL (N + 1) cl C G = othL N cl C G ++ (if cl N = C ∧ N ∉ G then [N] else []) := by
  unfold othL
  rw [List.range_succ, List.filter_append]
  congr 1
  by_cases h1 : cl N = C
  · by_cases h2 : N ∈ G
    · simp [h1, h2]
    · simp [h1, h2]
  · simp [h1]
theorem natI_get (T : List Nat) (i : Nat) (h : i < T.length) : (natI T)[i]'(by rw [natI_len]; exact h) = ((T[i] : Nat) : Int) := by simp [natI]
theorem natI_rd {W : World} {ao : Option Addr} {T : List Nat} (h : RdN W ao (natI T)) (i : Nat) (hi : i < T.length) : ∃ g o, ao = some ⟨g, o, none⟩ ∧ W.cell? ⟨g, o + i, none⟩ = some (.int .i64 ((T[i] : Nat) : Int)) := by
  obtain ⟨g, o, e, c⟩ := h i (by rw [natI_len]; exact hi)
  rw [natI_get T i hi] at c
  exact ⟨g, o, e, c⟩
theorem mrw_own {W : World} {B g t n : Nat} {z : Value} (hz : z.cells = #[z]) (h : W.ownsRow B t 1 (.slice (some ⟨g, 0, none⟩) n n) n (madeCells z.cells (n * 1)).toList) : Mrw W g t n (fun _ => z) n := by
  rcases h.2 with ⟨e, _⟩ | ⟨g', cap, cur, e, hb, hg, hn, hc, hs, ht⟩
  · cases e
  · cases e
    refine ⟨cur, hg, by omega, fun j hj => ?_⟩
    rw [hz, Nat.mul_one, toList_madeCells_one] at ht
    have q : (cur.toList.take n)[j]? = some z := by rw [ht, List.getElem?_replicate, if_pos hj]
    rw [List.getElem?_take_of_lt hj] at q
    simpa using q
set_option maxRecDepth 100000 in
set_option maxHeartbeats 4000000 in
theorem others_any (B : Nat) (Z : Nat → Prop) (w : World) (b N M gf : Nat) (aN : Option Addr) (lN cN gc gw gs gi : Nat) (V : Nat → Value) (L : Nat → List Nat) (cl : Nat → Nat) (fl : Nat → Bool) (h : PaR B Z w b N M gf aN lN cN gc gw gs gi V L cl fl) (C n cg : Nat) (ag : Option Addr) (G : List Nat) (hG : RdN w ag (natI G)) (hn : G.length = n) (hGN : ∀ s ∈ G, s < N) (bn : n ≤ 4194304) (bN : N ≤ 4194304) :
    Calls Try.prog 77 #[.pointer (some ⟨b, 0, none⟩), .int .i64 (C : Int), .slice ag n cg] w fun e w' => ∃ b' m c', e = .returned (.slice b' m c') ∧ Hid (OwI w' w.heap.size (.slice b' m c') (natI (othL N cl C G))) ∧ Below w.heap.size w w' := by
  obtain ⟨i4, hi4, hz40, hz41, hz42⟩ := info_parts info4
  have y3 : w.cell? ⟨b, 3, none⟩ = some (.slice (some ⟨gc, 0, none⟩) N N) := cell_of h.bx rfl
  have HX := hide (And.intro h.bx (And.intro h.cr hG))
  clear h hG
  go_enter Try.func77, Try.ntmps77
  go_upto_region 2 with fail
  go_upto_region 3 with (at_make; refine wpList_make_full _ rfl _ _ 58 rfl w.heap.size 4 i4 (.bool false) 1 Try.underlying58 hi4 hz40 hz41 _ _ _ _ N rfl rfl rfl rfl (by rw [hz42]; omega) (by unfold maxLen; omega) (Nat.le_refl _) ?_; intro w1 ho hg)
  have D1 : Below w.heap.size w w1 := (Below.refl _ _).grown hg (Nat.le_refl _) (by intro k hk; cases hk)
  obtain ⟨gm, hgm⟩ : ∃ g, w.heap.size = g := ⟨_, rfl⟩
  have M0 : Mrw w1 gm 4 N (fun s => .bool (decide (s ∈ G.take 0))) N := by
    rw [hgm] at ho
    exact (mrw_own rfl ho).congr (fun c _ => by simp)
  rw [hgm]
  have HS := hide hgm
  have J0 := hide (And.intro M0 (Only.ofBelow (R := fun k => k = gm) (Below.refl w1.heap.size w1)))
  have HD1 := hide D1
  have gml : gm < w1.heap.size := M0.lt
  clear D1 M0 ho hg hgm y3 hi4 hz40 hz41 hz42
  go_wp2_with fail
  go_loopw [21] (fun iv wr => ∃ i : Nat, i ≤ n ∧ iv = .int .i64 (i : Int) ∧ Hid (Mrw wr gm 4 N (fun s => .bool (decide (s ∈ G.take i))) N ∧ Only w1 wr (fun k => k = gm))) (fun iv _ => n - (intOf iv).toNat)
  case atStart => exact ⟨0, Nat.zero_le _, rfl, J0⟩
  case round =>
    clear J0
    obtain ⟨i, hi, rfl, HY⟩ := hrel
    by_cases hlt : i < n
    · have l0 : (i : Int) < (n : Int) := by omega
      have l1 : (0 : Int) ≤ (i : Int) := by omega
      have hil : i < G.length := by omega
      have hrd := (HX.out.2.2).on HD1.out
      obtain ⟨g, o, eg, c⟩ := natI_rd HX.out.2.2 i hil
      have hne : g ≠ gm := by
        have z : g < w.heap.size := World.block_lt_of_cell? w _ c
        have := HS.out
        omega
      obtain ⟨x, hx⟩ : ∃ x, G[i] = x := ⟨_, rfl⟩
      rw [hx] at c
      have hxN : x < N := by rw [← hx]; exact hGN _ (List.getElem_mem hil)
      have c1 : wr.cell? ⟨g, o + i, none⟩ = some (.int .i64 (x : Int)) := by
        have z1 := (HD1.out.cell (p := ⟨g, o + i, none⟩) (World.block_lt_of_cell? w _ c)).trans c
        have lt1 := World.block_lt_of_cell? w1 _ z1
        rw [World.cell?_of_block (HY.out.2.block g lt1 hne)]
        exact z1
      subst eg
      have x0 : (0 : Int) ≤ (x : Int) := by omega
      have x1 : (x : Int) < (N : Int) := by omega
      have f := HY.out.1.fz x
      have HG' : Hid (G[i]? = some x) := hide (by rw [List.getElem?_eq_getElem hil, hx])
      obtain ⟨u9, c9⟩ := HY.out.1.cell x hxN
      clear hrd c hx hil hne
      go_wp2_with fail
      go_roundw
      case rel =>
        refine ⟨i + 1, by omega, by go_num, hide ⟨?_, HY.out.2.trans (only_set _ gm x (.bool true))⟩⟩
        refine (HY.out.1.upd x (.bool true)).congr (fun c hc => ?_)
        rw [List.take_add_one, HG'.out]
        by_cases e : c = x
        · subst e; simp
        · simp [e]
      case measure => simp [intOf]; omega
    · have l0 : ¬ (i : Int) < (n : Int) := by omega
      obtain rfl : i = n := by omega
      have M2 : Mrw wr gm 4 N (fun s => .bool (decide (s ∈ G))) N := by
        have := HY.out.1
        rw [← hn, List.take_length] at this
        exact this
      obtain ⟨w2, hw2⟩ : ∃ w2, wr = w2 := ⟨_, rfl⟩
      subst hw2
      have O1 := HY.out.2
      have hBX : wr.heap[b]? = _ := (O1.block b (by have := (Array.getElem?_eq_some_iff.1 (blk_on HX.out.1 HD1.out)).1; exact this) (by have := (Array.getElem?_eq_some_iff.1 HX.out.1).1; have := HS.out; omega)).trans (blk_on HX.out.1 HD1.out)
      have hCR : Mrw wr gc 3 N (fun s => .int .i64 ((cl s : Nat) : Int)) N := (HX.out.2.1.below HD1.out HX.out.2.1.lt).only O1 (by have := HX.out.2.1.lt; have := HS.out; omega)
      have D2 : Below w.heap.size w wr := HD1.out.trans (O1.toBelow HD1.out.size (fun k hk => by have := HS.out; omega))
      have HZ := hide (And.intro M2 (And.intro hCR D2))
      have y3 : wr.cell? ⟨b, 3, none⟩ = some (.slice (some ⟨gc, 0, none⟩) N N) := cell_of hBX rfl
      rename World => w2
      clear HY M2 O1 hBX hCR D2
      have K0 : Hid (OwI w2 w2.heap.size (.slice none 0 0) (natI (othL 0 cl C G)) ∧ Below w2.heap.size w2 w2) := hide ⟨owI_nil _ _, Below.refl _ _⟩
      go_wp2_with fail
      clear y3
      go_loopw [7, 34] (fun v iv wr => ∃ s : Nat, s ≤ N ∧ iv = .int .i64 (s : Int) ∧ ∃ b1 m1 k1, v = .slice b1 m1 k1 ∧ Hid (OwI wr w2.heap.size (.slice b1 m1 k1) (natI (othL s cl C G)) ∧ Below w2.heap.size w2 wr)) (fun _ iv _ => N - (intOf iv).toNat)
      case atStart => exact ⟨0, Nat.zero_le _, rfl, none, 0, 0, rfl, K0⟩
      case round =>
        clear K0
        obtain ⟨s, hs, rfl, b1, m1, k1, rfl, HY⟩ := hrel
        by_cases hlt : s < N
        · have l0 : (s : Int) < (N : Int) := by omega
          have l1 : (0 : Int) ≤ (s : Int) := by omega
          have HW := hide (HZ.out.2.1.below HY.out.2 HZ.out.2.1.lt)
          have c1 : wr.cell? ⟨gc, s, none⟩ = some (.int .i64 ((cl s : Nat) : Int)) := HW.out.at s hlt
          have HV := hide (HZ.out.1.below HY.out.2 HZ.out.1.lt)
          have c2 : wr.cell? ⟨gm, s, none⟩ = some (.bool (decide (s ∈ G))) := HV.out.at s hlt
          have hsc := othL_succ s cl C G
          by_cases e1 : cl s = C
          · by_cases e2 : s ∈ G
            · rw [decide_eq_true e2] at c2
              rw [if_neg (fun z => z.2 e2), List.append_nil] at hsc
              have HE := hide (And.intro e2 hsc)
              rw [e1] at c1
              clear e1 e2 hsc
              go_wp2_with fail
              go_roundw
              case rel => exact ⟨s + 1, by omega, by go_num, b1, m1, k1, rfl, hide ⟨by rw [HE.out.2]; exact HY.out.1, HY.out.2⟩⟩
              case measure => simp [intOf]; omega
            · rw [decide_eq_false e2] at c2
              rw [if_pos ⟨e1, e2⟩] at hsc
              have HE := hide (And.intro e2 hsc)
              rw [e1] at c1
              clear e1 e2 hsc
              have hle := othL_le s cl C G
              have dA : ∀ o : Obj, Below wr.heap.size wr (wr.alloc o) := fun o => (Below.refl _ _).alloc (Nat.le_refl _) _
              have hB := HY.out.2.size
              go_wp2_with (at_builtin; refine wpList_appI rfl (.tmp 49) (.tmp 51) rfl w2.heap.size (.slice b1 m1 k1) (natI (othL s cl C G)) rfl (own_below HY.out.1 (dA _)) wr.heap.size (s : Int) rfl (World.alloc_heap_new _ _) (by rw [natI_len]; omega) (by simp <;> omega) ?_; intro b2 m2 k2 w4 h1 h2 h3 h4; have HN := hide (And.intro h1.out ((HY.out.2.trans ((dA (.cells #[.int .i64 (s : Int)] 3)).mono hB)).trans (h3.out.toBelow (by simp <;> omega) (fun q hq => (HY.out.1.lt q hq).1)))); clear h1 h2 h3 h4)
              go_roundw
              case rel => exact ⟨s + 1, by omega, by go_num, b2, m2, k2, rfl, hide ⟨by rw [HE.out.2, natI_snoc]; exact HN.out.1, HN.out.2⟩⟩
              case measure => simp [intOf]; omega
          · have e3 : ¬ ((cl s : Nat) : Int) = (C : Int) := by omega
            rw [if_neg (fun z => e1 z.1), List.append_nil] at hsc
            have HE := hide hsc
            have HE1 := hide e1
            obtain ⟨q, hq⟩ : ∃ q, cl s = q := ⟨_, rfl⟩
            rw [hq] at e3 c1 e1
            clear hsc hq c2
            go_wp2_with fail
            go_roundw
            case rel => exact ⟨s + 1, by omega, by go_num, b1, m1, k1, rfl, hide ⟨by rw [HE.out]; exact HY.out.1, HY.out.2⟩⟩
            case measure => simp [intOf]; omega
        · have l0 : ¬ (s : Int) < (N : Int) := by omega
          obtain rfl : s = N := by omega
          go_wp2_with fail
          go_ret
          exact ⟨b1, m1, k1, rfl, hide (owns_down HY.out.1 HZ.out.2.2.size), HZ.out.2.2.trans (HY.out.2.mono HZ.out.2.2.size)⟩
/-! ### The sizes of the classes -/
theorem sub_len {α : Type} [BEq α] [LawfulBEq α] : ∀ (A B : List α), A.Nodup → (∀ x ∈ A, x ∈ B) → A.length ≤ B.length
  | [], _, _, _ => Nat.zero_le _
  | x :: A, B, hn, h => by
    have hx := h x (by simp)
    have h1 := sub_len A (B.erase x) (List.nodup_cons.1 hn).2 (fun y hy => (List.mem_erase_of_ne (fun e => (List.nodup_cons.1 hn).1 (by rw [← e]; exact hy))).2 (h y (by simp [hy])))
    have h2 := List.length_erase_of_mem hx
    have h3 := List.length_pos_of_mem hx
    simp only [List.length_cons]
    omega
theorem same_len {α : Type} [BEq α] [LawfulBEq α] {A B : List α} (ha : A.Nodup) (hb : B.Nodup) (h : ∀ x, x ∈ A ↔ x ∈ B) : A.length = B.length :=
  Nat.le_antisymm (sub_len A B ha (fun x hx => (h x).1 hx)) (sub_len B A hb (fun x hx => (h x).2 hx))
/-- How many states a class has. -/
def clN (N : Nat) (cl : Nat → Nat) (k : Nat) : Nat := ((List.range N).filter (fun s => decide (cl s = k))).length
theorem nodup_filter_range (N : Nat) (p : Nat → Bool) : ((List.range N).filter p).Nodup := List.Nodup.sublist List.filter_sublist List.nodup_range
theorem cN_le (N : Nat) (cl : Nat → Nat) (k : Nat) : clN N cl k ≤ N := by
  unfold clN
  exact Nat.le_trans (List.length_filter_le _ _) (by simp)
theorem cN_oth {N C : Nat} {cl : Nat → Nat} {G : List Nat} (hG : G.Nodup) (hg : ∀ s ∈ G, s < N ∧ cl s = C) : clN N cl C = G.length + (othL N cl C G).length := by
  have hd : (G ++ othL N cl C G).Nodup := List.nodup_append.2 ⟨hG, nodup_filter_range _ _, fun x hx y hy e => by
    subst e
    have := (List.mem_filter.1 hy).2
    simp at this
    exact this.2 hx⟩
  rw [← List.length_append]
  refine same_len (nodup_filter_range _ _) hd (fun x => ?_)
  unfold othL
  simp only [List.mem_filter, List.mem_range, List.mem_append, decide_eq_true_eq, Bool.and_eq_true, Bool.not_eq_true', decide_eq_false_iff_not]
  constructor
  · intro h
    by_cases e : x ∈ G
    · exact Or.inl e
    · exact Or.inr ⟨h.1, h.2, e⟩
  · intro h
    rcases h with h | h
    · exact hg x h
    · exact ⟨h.1, h.2.1⟩
/-- The sizes are those of the classes. -/
def SzOk (N K : Nat) (cl : Nat → Nat) (S : List Nat) : Prop := S.length = K ∧ ∀ k, k < K → S.getD k 0 = clN N cl k
theorem SzOk.split {N K C : Nat} {cl : Nat → Nat} {S X : List Nat} (h : SzOk N K cl S) (hC : C < K) (kl : ∀ s, s < N → cl s < K) (hX : X.Nodup) (hx : ∀ s ∈ X, s < N ∧ cl s = C) : SzOk N (K + 1) (fun s => if decide (s ∈ X) then K else cl s) (S.set C (S.getD C 0 - X.length) ++ [X.length]) := by
  obtain ⟨h1, h2⟩ := h
  refine ⟨by simp [h1], fun k hk => ?_⟩
  have hcl : ∀ s, s ∈ X → s < N := fun s hs => (hx s hs).1
  by_cases e : k = K
  · subst e
    have e1 : (S.set C (S.getD C 0 - X.length) ++ [X.length]).getD k 0 = X.length := by
      rw [List.getD_eq_getElem?_getD, List.getElem?_append_right (by simp [h1])]
      simp [h1]
    rw [e1]
    unfold clN
    refine same_len hX (nodup_filter_range _ _) (fun x => ?_)
    simp only [List.mem_filter, List.mem_range, decide_eq_true_eq]
    constructor
    · intro hxm
      exact ⟨hcl x hxm, by rw [if_pos hxm]⟩
    · intro hh
      refine Classical.byContradiction fun hxm => ?_
      rw [if_neg hxm] at hh
      have := kl x hh.1
      omega
  · have hk2 : k < K := by omega
    have e1 : (S.set C (S.getD C 0 - X.length) ++ [X.length]).getD k 0 = (S.set C (S.getD C 0 - X.length)).getD k 0 := by
      rw [List.getD_eq_getElem?_getD, List.getElem?_append_left (by simp [h1]; omega), ← List.getD_eq_getElem?_getD]
    rw [e1]
    by_cases e2 : k = C
    · subst e2
      have e3 : (S.set k (S.getD k 0 - X.length)).getD k 0 = S.getD k 0 - X.length := by
        rw [List.getD_eq_getElem?_getD, List.getElem?_set_self (by omega)]
        rfl
      rw [e3, h2 k hk2]
      have hd : ((List.range N).filter (fun s => decide ((if decide (s ∈ X) then K else cl s) = k)) ++ X).Nodup := List.nodup_append.2 ⟨nodup_filter_range _ _, hX, fun x hx' y hy e => by
        subst e
        have := (List.mem_filter.1 hx').2
        simp only [decide_eq_true_eq] at this
        rw [if_pos hy] at this
        omega⟩
      have hl := same_len (nodup_filter_range N (fun s => decide (cl s = k))) hd (fun x => by
        simp only [List.mem_filter, List.mem_range, List.mem_append, decide_eq_true_eq]
        constructor
        · intro hh
          by_cases hm : x ∈ X
          · exact Or.inr hm
          · exact Or.inl ⟨hh.1, by rw [if_neg hm]; exact hh.2⟩
        · intro hh
          rcases hh with hh | hh
          · by_cases hm : x ∈ X
            · exact hx x hm
            · rw [if_neg hm] at hh; exact hh
          · exact hx x hh)
      rw [List.length_append] at hl
      have e9 : clN N (fun s => if decide (s ∈ X) then K else cl s) k = ((List.range N).filter (fun s => decide ((if decide (s ∈ X) then K else cl s) = k))).length := rfl
      rw [e9]
      unfold clN
      omega
    · have e3 : (S.set C (S.getD C 0 - X.length)).getD k 0 = S.getD k 0 := by
        rw [List.getD_eq_getElem?_getD, List.getElem?_set_ne (fun z => e2 z.symm), ← List.getD_eq_getElem?_getD]
      rw [e3, h2 k hk2]
      unfold clN
      refine same_len (nodup_filter_range _ _) (nodup_filter_range _ _) (fun x => ?_)
      simp only [List.mem_filter, List.mem_range, decide_eq_true_eq]
      by_cases hm : x ∈ X
      · rw [if_pos hm, (hx x hm).2]
        constructor
        · intro hh; omega
        · intro hh; omega
      · rw [if_neg hm]
theorem natI_set (T : List Nat) (j x : Nat) : (natI T).set j (x : Int) = natI (T.set j x) := by
  unfold natI
  rw [List.map_set]
/-- A size is written. -/
theorem PaR.size {B : Nat} {Z : Nat → Prop} {w : World} {b N M gf : Nat} {aN : Option Addr} {lN cN gc gw gs gi : Nat} {V : Nat → Value} {L : Nat → List Nat} {cl : Nat → Nat} {fl : Nat → Bool} {gk : Nat} {n c : Nat} (h : PaR B Z w b N M gf aN lN cN gc gw gs gi V L cl fl) (hV : V 0 = .slice (some ⟨gk, 0, none⟩) n c) (j x : Nat) :
    PaR B Z (w.setCell ⟨gk, j, none⟩ (.int .i64 (x : Int))) b N M gf aN lN cN gc gw gs gi V (updF L 0 ((L 0).set j x)) cl fl ∧ Only w (w.setCell ⟨gk, j, none⟩ (.int .i64 (x : Int))) (fun k => k = gk) ∧ Rz B Z gk := by
  have o := only_set w gk j (.int .i64 (x : Int))
  have hz := h.fam.zv 0 (by omega) gk (by rw [hV]; rfl)
  have h0 := h.fam.own 0 (by omega)
  obtain ⟨cs, fr, hx⟩ := own_ty h0 (k := gk) (by rw [hV]; rfl)
  have fr0 : fr = (0, 0) := by
    rcases h0.2 with ⟨e, _⟩ | ⟨g, cap, cur, e, hb, hg, _⟩
    · rw [hV] at e; cases e
    · rw [hV] at e; cases e
      rw [hx] at hg
      injection hg with hg
      injection hg
  rw [fr0] at hx
  have k := h.kept hx o
  refine ⟨⟨k.1 (by decide), ?_, k.2.2.1 (by decide), k.2.2.2.1 (by decide), k.2.2.2.2.1 (by decide), ⟨fun i hi => ?_, h.fam.ap, h.fam.ac, h.fam.zv⟩, h.wi, h.zo⟩, o, hz⟩
  · exact h.cr.only o (fun e => h.fam.ac 0 (by omega) (by rw [hV, e]; rfl))
  · by_cases e : i = 0
    · subst e
      rw [updF_same]
      unfold OwI at h0 ⊢
      rw [← natI_set, List.length_set, List.map_set]
      rw [hV] at h0 ⊢
      have en : n = (natI (L 0)).length := by
        rcases h0.2 with ⟨e, _⟩ | ⟨g, cap, cur, e, _⟩
        · cases e
        · cases e; rfl
      subst en
      exact row1_set h0 j _
    · rw [updF_ne _ _ e]
      exact row_only (h.fam.own i hi) o (fun k hk q => h.fam.ap i 0 hi (by omega) e k hk (by rw [hV, q]; rfl))
/-- The sizes grow by one. -/
theorem PaR.grow {B : Nat} {Z : Nat → Prop} {w : World} {b N M gf : Nat} {aN : Option Addr} {lN cN gc gw gs gi : Nat} {V : Nat → Value} {L : Nat → List Nat} {cl : Nat → Nat} {fl : Nat → Bool} {w' : World} {v : Value} {X : List Nat} (h : PaR B Z w b N M gf aN lN cN gc gw gs gi V L cl fl) (hh : ∀ k, Z k → k < w.heap.size) (o : Only w w' (fun k => (V 0).ownBlock = some k)) (ho : OwI w' B v (natI X)) (hb : ∀ k, v.ownBlock = some k → (V 0).ownBlock = some k ∨ w.heap.size ≤ k) :
    PaR B Z (w'.setCell ⟨b, 4, none⟩ v) b N M gf aN lN cN gc gw gs gi (updF V 0 v) (updF L 0 X) cl fl ∧ Only w (w'.setCell ⟨b, 4, none⟩ v) (Rz B Z) := by
  have hz := h.fam.zv 0 (by omega)
  have nb : ∀ {k t : Nat} {cs : Array Value}, w.heap[k]? = some (.cells cs t (0, 0)) → t ≠ 3 → ¬ (V 0).ownBlock = some k := fun z ne e => row_tag (h.fam.own 0 (by omega)) z ne e
  have gcl := h.cr.lt
  obtain ⟨cw, hw⟩ : ∃ cs, w.heap[gw]? = some (.cells cs 22 (0, 0)) := by obtain ⟨c, h1, _⟩ := h.wr; exact ⟨c, h1⟩
  obtain ⟨cs, hs⟩ : ∃ cs, w.heap[gs]? = some (.cells cs 4 (0, 0)) := by obtain ⟨c, h1, _⟩ := h.sr; exact ⟨c, h1⟩
  obtain ⟨ci, hi2⟩ : ∃ cs, w.heap[gi]? = some (.cells cs 22 (0, 0)) := by obtain ⟨c, h1, _⟩ := h.ir; exact ⟨c, h1⟩
  have q := only_set w' b 4 v
  have f1 := h.fam.put (by omega) o ho hb gcl hh
  have bb : w'.heap[b]? = _ := (o.block _ (Array.getElem?_eq_some_iff.1 h.bx).1 (nb h.bx (by decide))).trans h.bx
  have r1 := h.cr.only o (h.fam.ac 0 (by omega))
  have r2 := h.wr.only o (nb hw (by decide))
  have r3 := h.sr.only o (nb hs (by decide))
  have r4 := h.ir.only o (nb hi2 (by decide))
  refine ⟨⟨?_, r1.only q (r1.tag bb (by decide)), ?_, r3.only q (r3.tag bb (by decide)), ?_, ?_, h.wi, h.zo⟩, ?_⟩
  · exact heap_setCell_same _ _ 4 _ 93 _ bb
  · exact (r2.only q (r2.tag bb (by decide))).congr (fun c _ => by rw [updF_ne _ _ (by omega)])
  · exact (r4.only q (r4.tag bb (by decide))).congr (fun c _ => by rw [updF_ne _ _ (by omega)])
  · exact f1.only q (fun i hi k hk e => by subst e; exact row_tag (f1.own i hi) bb (by decide) hk)
  · exact (o.mono (fun k _ e => hz k e)).trans (q.mono (fun k _ e => by rw [e]; exact h.zo.1))
theorem PaR.alike {B : Nat} {Z : Nat → Prop} {w : World} {b N M gf : Nat} {aN : Option Addr} {lN cN gc gw gs gi : Nat} {V : Nat → Value} {L : Nat → List Nat} {cl : Nat → Nat} {fl : Nat → Bool} {cl' : Nat → Nat} {fl' : Nat → Bool} (h : PaR B Z w b N M gf aN lN cN gc gw gs gi V L cl fl) (hc : ∀ s, s < N → cl' s = cl s) (hf : ∀ p, p < lN → fl' p = fl p) : PaR B Z w b N M gf aN lN cN gc gw gs gi V L cl' fl' :=
  ⟨h.bx, h.cr.congr (fun c q => by rw [hc c q]), h.wr, h.sr.congr (fun c q => by rw [hf c q]), h.ir, h.fam, h.wi, h.zo⟩
theorem WtOk.alike {N M : Nat} {L L' : Nat → List Nat} {fl fl' : Nat → Bool} (h : WtOk N M L fl) (hl : ∀ a, a < M → L' (1 + a) = L (1 + a)) (hf : ∀ p, p < N * M → fl' p = fl p) : WtOk N M L' fl' := fun a ha => by
  obtain ⟨h1, h2⟩ := h a ha
  rw [hl a ha]
  refine ⟨h1, fun s => ?_⟩
  rw [h2 s]
  constructor
  · intro q; exact ⟨q.1, by rw [hf _ (place_lt q.1 ha)]; exact q.2⟩
  · intro q; exact ⟨q.1, by rw [← hf _ (place_lt q.1 ha)]; exact q.2⟩
/-- Of each state the places that lead to it. -/
def InOk (N M : Nat) (Nx : List Int) (L : Nat → List Nat) : Prop := ∀ s, s < N → (L (1 + M + s)).Nodup ∧ ∀ p, p ∈ L (1 + M + s) ↔ p < N * M ∧ nxt Nx p = s
open Go.Shelf
/-! ### Pairs as keys -/
/-- A kind of items: a type whose values may be keys, and how a value lies in memory. -/
structure Kd (α : Type) where
  ty : Nat
  sz : Nat
  val : α → Value
  cs : α → List Value
  key : α → Lit
  ok : α → Prop
  kmk : ∀ a, ok a → keyOf Try.prog ty (val a) = some (key a)
  inj : ∀ a b, ok a → ok b → key a = key b → a = b
  lit : ∀ a, WideAt.IsKeyLit (key a)
  len : ∀ a, (cs a).length = sz
  one : ∀ a, ∀ u ∈ cs a, u.oneCell' = true
  law : Keyed Try.prog ty
section
variable {α : Type} (K : Kd α)
/-- A map says at which place each item stands. -/
structure IsPl (D : DataW Unit) (l : List α) : Prop where
  tidy : Tidy D
  has : ∀ s, K.ok s → (Maps.has D (K.key s) = true ↔ s ∈ l)
  at_ : ∀ i (h : i < l.length) z, D.atKey (K.key l[i]) z = .lit (.int .i64 (i : Nat))
theorem isPl_nil : IsPl K (.map []) [] := ⟨tidy_empty, fun s _ => (by constructor <;> intro h <;> cases h), fun i h => (by simp at h)⟩
variable {K}
theorem IsPl.new {D : DataW Unit} {l : List α} {s : α} (h : IsPl K D l) (hok : ∀ x ∈ l, K.ok x) (hs : s ∉ l) (ho : K.ok s) : IsPl K (D.put (K.key s) (.lit (.int .i64 (l.length : Nat)))) (l ++ [s]) := by
  refine ⟨h.tidy.put (K.lit s) _, fun t ht => ?_, fun i hi z => ?_⟩
  · by_cases e : t = s
    · subst e; rw [has_put_same h.tidy.isMap (K.lit _)]; simp
    · rw [has_put_other (fun h => e (K.inj _ _ ht ho h)), h.has t ht]; simp [e]
  · by_cases e : i < l.length
    · rw [List.getElem_append_left e]
      have hm : l[i] ∈ l := List.getElem_mem e
      rw [atKey_put_other (fun h => hs (by rw [← K.inj _ _ (hok _ hm) ho h]; exact hm)), h.at_ i e z]
    · have : i = l.length := by simp at hi; omega
      subst this
      rw [List.getElem_append_right (Nat.le_refl _)]
      simp only [Nat.sub_self, List.getElem_cons_zero]
      rw [atKey_put_same h.tidy.isMap (K.lit _)]
end
theorem laidOutP : laidOutB Try.prog = true := by kernel_rfl
theorem row69 : (69 : TypeId) < Try.prog.types.size := of_decide_eq_true (by kernel_rfl)
theorem wide69 : (match Try.prog.underlying 69 with | some (.array _ _) | some (.struct _) => true | _ => false) = true := by rw [Try.underlying69]
set_option maxRecDepth 100000 in
theorem law69 : Keyed Try.prog 69 := Keyed.of_law (deep_law_laid laidOutP (m := 2) (by omega) row69 (by kernel_rfl) wide69)
theorem keyTy69 : Try.prog.keyType 69 = true := by kernel_rfl
theorem cells69 : Try.prog.cellsOf 69 = 2 := by kernel_rfl
theorem cells3' : Try.prog.cellsOf 3 = 1 := by kernel_rfl
theorem key_pair {Q : Program} {k a : TypeId} (hu : Q.underlying k = some (.array 2 a)) (ua : Q.underlying a = some (.int .i64)) (ca : Q.cellsOf a = 1) (ck : Q.cellsOf k = 2) (hkt : Q.keyType k = true) (hk0 : k < Q.types.size) (p r : Int) (w1 : (Lit.int .i64 p).wf = true) (w2 : (Lit.int .i64 r).wf = true) : keyOf Q k (.agg #[.int .i64 p, .int .i64 r]) = some (.string (keyBytes [.int .i64 p, .int .i64 r])) := by
  obtain ⟨n, hn⟩ : ∃ n, Q.types.size = n + 1 := ⟨Q.types.size - 1, (Nat.sub_add_cancel (Nat.lt_of_le_of_lt (Nat.zero_le _) hk0)).symm⟩
  unfold keyOf
  rw [hu]
  simp only [hkt, Value.formed, hu, ck, Value.cells, hn, Program.keyLits]
  simp [ua, ca, w1, w2, List.range, List.range.loop]
abbrev PrT := Nat × Nat
def prV (s : PrT) : Value := .agg #[.int .i64 (s.1 : Int), .int .i64 (s.2 : Int)]
def prC (s : PrT) : List Value := [.int .i64 (s.1 : Int), .int .i64 (s.2 : Int)]
def kPr (s : PrT) : Lit := .string (keyBytes [.int .i64 (s.1 : Int), .int .i64 (s.2 : Int)])
def okPr (s : PrT) : Prop := s.1 ≤ 1099511627776 ∧ s.2 ≤ 1099511627776
theorem keyPr (s : PrT) (h : okPr s) : keyOf Try.prog 69 (prV s) = some (kPr s) :=
  key_pair Try.underlying69 Try.underlying3 cells3' cells69 keyTy69 row69 (s.1 : Int) (s.2 : Int) (WalkArith.wf_i64 (by have := h.1; omega)) (WalkArith.wf_i64 (by have := h.2; omega))
theorem kPr_inj (s t : PrT) (hs : okPr s) (ht : okPr t) (h : kPr s = kPr t) : s = t := by
  have := law69.inj (keyPr s hs) (by rw [h]; exact keyPr t ht)
  obtain ⟨p, r⟩ := s
  obtain ⟨p', r'⟩ := t
  simp only [prV, Value.agg.injEq, Array.mk.injEq, List.cons.injEq, Value.int.injEq, true_and, and_true] at this
  exact Prod.ext (Int.ofNat_inj.1 this.1) (Int.ofNat_inj.1 this.2)
/-- Pairs as items. -/
def kPrs : Kd PrT where
  ty := 69
  sz := 2
  val := prV
  cs := prC
  key := kPr
  ok := okPr
  kmk := keyPr
  inj := kPr_inj
  lit := fun _ => trivial
  len := fun _ => rfl
  one := fun s u hu => by
    simp only [prC, List.mem_cons, List.not_mem_nil, or_false] at hu
    rcases hu with rfl | rfl <;> rfl
  law := law69
theorem look_in_run {α : Type} (K : Kd α) (w : World) (mt : TypeId) (ht : Try.prog.underlying mt = some (.map K.ty 3)) (b : Nat) (l : List α) (i : Nat) (hi : i < l.length) (D : DataW Unit) (hown : w.ownsMap Try.prog K.ty (plainElem Try.prog 3) b l.length D) (hp : IsPl K D l) (ho : K.ok l[i]) :
    (Instr.lookup mt (.map (some b)) (K.val l[i]) true).run Try.prog w = .ok (.tuple #[.int .i64 (i : Nat), .bool true]) w := by
  obtain ⟨v, ps, hrun, hv⟩ := hown.look_ok K.law ht (z := .int .i64 0) (by kernel_rfl) (plainElem_int Try.underlying3 (by decide)) (K.kmk _ ho)
  obtain ⟨c, rfl, hc, _⟩ := plainElem_int_inv Try.underlying3 hv
  have e : D.atKey (K.key l[i]) (.lit (.int .i64 0)) = .lit (.int .i64 c) := congrArg Prod.fst hc
  rw [hp.at_ i hi] at e
  simp only [DataW.lit.injEq, Lit.int.injEq, true_and] at e
  rw [hrun, (hp.has _ ho).2 (List.getElem_mem hi), ← e]
theorem look_out_run {α : Type} (K : Kd α) (w : World) (mt : TypeId) (ht : Try.prog.underlying mt = some (.map K.ty 3)) (b : Nat) (l : List α) (s : α) (hs : s ∉ l) (D : DataW Unit) (hown : w.ownsMap Try.prog K.ty (plainElem Try.prog 3) b l.length D) (hp : IsPl K D l) (ho : K.ok s) :
    ∃ c : Int, (Instr.lookup mt (.map (some b)) (K.val s) true).run Try.prog w = .ok (.tuple #[.int .i64 c, .bool false]) w := by
  obtain ⟨v, ps, hrun, hv⟩ := hown.look_ok K.law ht (z := .int .i64 0) (by kernel_rfl) (plainElem_int Try.underlying3 (by decide)) (K.kmk _ ho)
  obtain ⟨c, rfl, hc, _⟩ := plainElem_int_inv Try.underlying3 hv
  have : Maps.has D (K.key s) = false := by
    rw [Bool.eq_false_iff]; intro e; exact hs ((hp.has s ho).1 e)
  rw [this] at hrun
  exact ⟨c, hrun⟩
theorem map_only {W W' : World} {k e : TypeId} {b n : Nat} {Dm : DataW Unit} {R : Nat → Prop} (o : W.ownsMap Try.prog k (plainElem Try.prog e) b n Dm) (h : Only W W' R) (hn : ¬ R b) : W'.ownsMap Try.prog k (plainElem Try.prog e) b n Dm := by
  have hlt := o.lt
  obtain ⟨es, ck, h1, h2⟩ := o
  exact ⟨es, ck, (h.block b hlt hn).trans h1, h2⟩
/-! ### Groups -/
/-- Groups: a row of rows. -/
structure GrS (H gx : Nat) (w : World) (vg : Value) (n : Nat) (val : Nat → Value) (GL : Nat → List Nat) : Prop where
  row : w.ownsRow H 22 1 vg n ((List.range n).map val)
  fam : Fam H (fun _ => False) n gx w val GL
theorem GrS.only {H gx n : Nat} {w w' : World} {vg : Value} {val : Nat → Value} {GL : Nat → List Nat} {R : Nat → Prop} (h : GrS H gx w vg n val GL) (o : Only w w' R) (hR : ∀ k, H ≤ k → k < w.heap.size → ¬ R k) : GrS H gx w' vg n val GL :=
  ⟨row_only h.row o (fun k hk => hR k (h.row.lt k hk).1 (h.row.lt k hk).2), h.fam.only o (fun i hi k hk => hR k ((h.fam.own i hi).lt k hk).1 ((h.fam.own i hi).lt k hk).2)⟩
theorem GrS.off {H gx n : Nat} {w w' : World} {vg : Value} {val : Nat → Value} {GL : Nat → List Nat} {R : Nat → Prop} (h : GrS H gx w vg n val GL) (o : Only w w' R) (hR : ∀ k, (vg.ownBlock = some k ∨ ∃ i, i < n ∧ (val i).ownBlock = some k) → ¬ R k) : GrS H gx w' vg n val GL :=
  ⟨row_only h.row o (fun k hk => hR k (Or.inl hk)), h.fam.only o (fun i hi k hk => hR k (Or.inr ⟨i, hi, hk⟩))⟩
theorem GrS.below {H gx n : Nat} {w w' : World} {vg : Value} {val : Nat → Value} {GL : Nat → List Nat} (h : GrS H gx w vg n val GL) (d : Below w.heap.size w w') : GrS H gx w' vg n val GL := h.only (R := fun _ => False) (Only.ofBelow d) (fun _ _ _ => id)
theorem range_new (val : Nat → Value) (n : Nat) (x : Value) : (List.range (n + 1)).map (updF val n x) = (List.range n).map val ++ [x] := by
  rw [List.range_succ, List.map_append, List.map_singleton, updF_same]
  congr 1
  refine List.map_congr_left (fun i hi => updF_ne _ _ ?_)
  have := List.mem_range.1 hi
  omega
theorem range_put (val : Nat → Value) (n i : Nat) (x : Value) : ((List.range n).map val).set i x = (List.range n).map (updF val i x) := by
  refine List.ext_getElem? (fun j => ?_)
  rw [List.getElem?_set, List.getElem?_map]
  by_cases hj : j < n
  · rw [List.getElem?_map, List.getElem?_range hj]
    by_cases e : i = j
    · subst e
      rw [if_pos rfl, if_pos (by simpa using hj)]
      simp [updF]
    · rw [if_neg e]
      simp [updF]
      exact fun z => absurd z.symm e
  · rw [List.getElem?_map, List.getElem?_eq_none (by simpa using hj)]
    by_cases e : i = j
    · subst e
      rw [if_pos rfl, if_neg (by simpa using hj)]
      rfl
    · rw [if_neg e]
      rfl
/-- A group that is empty so far. -/
theorem GrS.new {H gx n : Nat} {w w' : World} {vg vg' : Value} {val : Nat → Value} {GL : Nat → List Nat} (h : GrS H gx w vg n val GL) (o : Only w w' (fun k => vg.ownBlock = some k)) (ho : w'.ownsRow H 22 1 vg' (n + 1) ((List.range n).map val ++ [.slice none 0 0])) : GrS H gx w' vg' (n + 1) (updF val n (.slice none 0 0)) (updF GL n []) := by
  have f := h.fam.only o (fun i hi k hk e => by
    obtain ⟨cs, fr, hx⟩ := own_ty (h.fam.own i hi) hk
    exact row_tag h.row hx (by decide) e)
  have nb : ∀ k, (Value.slice none 0 0).ownBlock = some k → False := fun k hk => by cases hk
  refine ⟨by rw [range_new]; exact ho, ⟨fun i hi => ?_, fun i j hi hj ne k hk hk' => ?_, fun i hi e => ?_, fun i hi k hk => ?_⟩⟩
  · by_cases e : i = n
    · subst e; rw [updF_same, updF_same]; exact owI_nil _ _
    · rw [updF_ne _ _ e, updF_ne _ _ e]; exact f.own i (by omega)
  · by_cases e : i = n
    · subst e; rw [updF_same] at hk; exact nb k hk
    · by_cases e2 : j = n
      · subst e2; rw [updF_same] at hk'; exact nb k hk'
      · rw [updF_ne _ _ e] at hk; rw [updF_ne _ _ e2] at hk'; exact f.ap i j (by omega) (by omega) ne k hk hk'
  · by_cases e2 : i = n
    · subst e2; rw [updF_same] at e; exact nb _ e
    · rw [updF_ne _ _ e2] at e; exact f.ac i (by omega) e
  · by_cases e : i = n
    · subst e; rw [updF_same] at hk; exact (nb _ hk).elim
    · rw [updF_ne _ _ e] at hk; exact f.zv i (by omega) k hk
/-- A group that grows. -/
theorem GrS.put {H gx n i gg c : Nat} {w w' : World} {val : Nat → Value} {GL : Nat → List Nat} {v : Value} {X : List Nat} (h : GrS H gx w (.slice (some ⟨gg, 0, none⟩) n c) n val GL) (hi : i < n) (o : Only w w' (fun k => (val i).ownBlock = some k)) (ho : OwI w' H v (natI X)) (hb : ∀ k, v.ownBlock = some k → (val i).ownBlock = some k ∨ w.heap.size ≤ k) (hg : gx < w.heap.size) :
    GrS H gx (w'.setCell ⟨gg, i, none⟩ v) (.slice (some ⟨gg, 0, none⟩) n c) n (updF val i v) (updF GL i X) ∧ Only w (w'.setCell ⟨gg, i, none⟩ v) (fun k => (val i).ownBlock = some k ∨ k = gg) := by
  have f := h.fam.put hi o ho hb hg (fun _ z => z.elim)
  have hgg := h.row.lt gg rfl
  have r := row_only h.row o (fun k hk e => by
    obtain ⟨cs, fr, hx⟩ := own_ty (h.fam.own i hi) e
    exact row_tag h.row hx (by decide) hk)
  have q := only_set w' gg i v
  obtain ⟨cs, fr, hx⟩ := own_ty r (k := gg) rfl
  refine ⟨⟨by rw [← range_put]; exact row1_set r i v, f.only q (fun j hj k hk e => by subst e; exact row_tag (f.own j hj) hx (by decide) hk)⟩, ?_⟩
  exact (o.mono (fun k _ e => Or.inl e)).trans (q.mono (fun k _ e => Or.inr e))
theorem row_cell {W : World} {B g n c j : Nat} {t : TypeId} {xs : List Value} {u : Value} (h : W.ownsRow B t 1 (.slice (some ⟨g, 0, none⟩) n c) n xs) (hu : xs[j]? = some u) : W.cell? ⟨g, j, none⟩ = some u ∧ W.frozen? ⟨g, j, none⟩ = false := by
  rcases h.2 with ⟨e, _⟩ | ⟨g', cap, cur, e, hb, hg, hn, hc, hs, ht⟩
  · cases e
  · cases e
    have hj : j < n := by
      have := (List.getElem?_eq_some_iff.1 hu).1
      have h0 := h.1
      omega
    rw [← ht, Nat.mul_one, List.getElem?_take_of_lt hj] at hu
    exact ⟨cell_of hg (by simpa using hu), fz_of hg⟩
theorem row_nomap {W : World} {B sz n k m : Nat} {t kt e : TypeId} {v : Value} {xs : List Value} {D : DataW Unit} (h : W.ownsRow B t sz v n xs) (hk : v.ownBlock = some k) (o : W.ownsMap Try.prog kt (plainElem Try.prog e) k m D) : False := by
  obtain ⟨cs, fr, hx⟩ := own_ty h hk
  obtain ⟨es, ck, h1, _⟩ := o
  rw [hx] at h1
  cases h1
theorem row_some {W : World} {B t n : Nat} {v : Value} {xs : List Value} (h : W.ownsRow B t 1 v n xs) (hn : 0 < n) : ∃ g c, v = .slice (some ⟨g, 0, none⟩) n c := by
  rcases h.2 with ⟨_, e⟩ | ⟨g, cap, cur, e, _⟩
  · omega
  · exact ⟨g, cap, e⟩
def kbP (B : Nat) : MkP := fun x lo hi W => x = .pointer (some ⟨lo, 0, none⟩) ∧ B ≤ lo ∧ lo < hi ∧ W.heap[lo]? = some (.cells #[.int .i64 0, .int .i64 0] 69 (0, 0))
theorem kbP_mono {B : Nat} : MonoP (kbP B) := fun _ _ _ _ _ hs d ⟨e, l, l2, z⟩ => ⟨e, l, l2, (d.block _ (by omega)).trans z⟩
/-- What the groups are: of those in P, by their keys. -/
structure GrK (ky : Nat → Nat × Nat) (P : List Nat) (Ky : List (Nat × Nat)) (GL : Nat → List Nat) : Prop where
  nd : Ky.Nodup
  gl : ∀ j (h : j < Ky.length), GL j = P.filter (fun s => decide (ky s = Ky[j]))
  kin : ∀ s ∈ P, ky s ∈ Ky
  ex : ∀ k ∈ Ky, ∃ s ∈ P, ky s = k
theorem nodup_inj {α : Type} {l : List α} (h : l.Nodup) {i j : Nat} (hi : i < l.length) (hj : j < l.length) (e : l[i] = l[j]) : i = j := by
  have q := List.pairwise_iff_getElem.1 h
  rcases Nat.lt_trichotomy i j with g | g | g
  · exact absurd e (q i j hi hj g)
  · exact g
  · exact absurd e.symm (q j i hj hi g)
theorem GrK.old {ky : Nat → Nat × Nat} {P : List Nat} {Ky : List (Nat × Nat)} {GL : Nat → List Nat} {s j0 : Nat} (h : GrK ky P Ky GL) (hj : j0 < Ky.length) (e : Ky[j0] = ky s) : GrK ky (P ++ [s]) Ky (updF GL j0 (GL j0 ++ [s])) := by
  refine ⟨h.nd, fun j hj2 => ?_, fun t ht => ?_, fun k hk => ?_⟩
  · rw [List.filter_append]
    by_cases q : j = j0
    · subst q
      rw [updF_same, h.gl j hj2]
      simp [e]
    · rw [updF_ne _ _ q, h.gl j hj2]
      have : ¬ ky s = Ky[j] := fun z => q (nodup_inj h.nd hj2 hj (by rw [← z]; exact e.symm))
      simp [this]
  · rcases List.mem_append.1 ht with q | q
    · exact h.kin t q
    · rw [List.mem_singleton] at q; subst q; rw [← e]; exact List.getElem_mem hj
  · obtain ⟨t, ht, q⟩ := h.ex k hk
    exact ⟨t, by simp [ht], q⟩
theorem GrK.new {ky : Nat → Nat × Nat} {P : List Nat} {Ky : List (Nat × Nat)} {GL : Nat → List Nat} {s : Nat} (h : GrK ky P Ky GL) (hs : ky s ∉ Ky) : GrK ky (P ++ [s]) (Ky ++ [ky s]) (updF (updF GL Ky.length []) Ky.length [s]) := by
  have e0 : P.filter (fun t => decide (ky t = ky s)) = [] := by
    rw [List.filter_eq_nil_iff]
    intro t ht q
    exact hs (by rw [← of_decide_eq_true q]; exact h.kin t ht)
  refine ⟨List.nodup_append.2 ⟨h.nd, by simp, fun a ha b hb e => by rw [List.mem_singleton] at hb; subst hb; subst e; exact hs ha⟩, fun j hj => ?_, fun t ht => ?_, fun k hk => ?_⟩
  · rw [List.filter_append]
    by_cases q : j = Ky.length
    · subst q
      rw [updF_same]
      simp only [List.getElem_append_right (Nat.le_refl _), Nat.sub_self, List.getElem_cons_zero]
      rw [e0]
      simp
    · have hj2 : j < Ky.length := by simp at hj; omega
      rw [updF_ne _ _ q, updF_ne _ _ q, h.gl j hj2]
      simp only [List.getElem_append_left hj2]
      have : ¬ ky s = Ky[j] := fun z => hs (by rw [z]; exact List.getElem_mem hj2)
      simp [this]
  · rcases List.mem_append.1 ht with q | q
    · exact List.mem_append.2 (Or.inl (h.kin t q))
    · rw [List.mem_singleton] at q; subst q; simp
  · rcases List.mem_append.1 hk with q | q
    · obtain ⟨t, ht, z⟩ := h.ex k q
      exact ⟨t, by simp [ht], z⟩
    · rw [List.mem_singleton] at q; exact ⟨s, by simp, q.symm⟩
end Go.Proofs.Ytocoghljmlpdeaa
