import Derived.Test.YtocoghljmlpdeaaQah
namespace Go.Proofs.Ytocoghljmlpdeaa
open Go.RowKit Go.Maps
attribute [local go_sem] Oper.semAt_some
/-! ### The reference: the pairs, breadth first -/
/-- What is given to a word doesn't change when more is met. -/
theorem wdF_more {M e : Nat} {K : List Nat} (h : ∀ i, i < K.length → K.getD i 0 / M ≤ i) : ∀ (f i : Nat), i ≤ K.length → wdF M (K ++ [e]) f i = wdF M K f i
  | 0, _, _ => rfl
  | _ + 1, 0, _ => rfl
  | f + 1, i + 1, hi => by
    show wdF M (K ++ [e]) f ((K ++ [e]).getD i 0 / M) ++ _ = wdF M K f (K.getD i 0 / M) ++ _
    rw [getD_snoc_lt (by omega), wdF_more h f _ (by have := h i (by omega); omega)]
theorem wdK_more {M e : Nat} {K : List Nat} (h : ∀ i, i < K.length → K.getD i 0 / M ≤ i) {i : Nat} (hi : i ≤ K.length) : wdK M (K ++ [e]) i = wdK M K i := wdF_more h i i hi
theorem wdK_new {M e : Nat} {K : List Nat} (h : ∀ i, i < K.length → K.getD i 0 / M ≤ i) (he : e / M ≤ K.length) : wdK M (K ++ [e]) (K.length + 1) = wdK M K (e / M) ++ [((e % M : Nat) : Int)] := by
  show wdF M (K ++ [e]) K.length ((K ++ [e]).getD K.length 0 / M) ++ [(((K ++ [e]).getD K.length 0 % M : Nat) : Int)] = _
  rw [getD_snoc_eq, wdF_more h _ _ he, wdF_eq h K.length (e / M) he he]
  rfl
section
variable {α : Type} {φ : α → Nat → α} {M : Nat} {first : α} {T : List α} {K : List Nat}
/-- A word leads to what is looked at already, under a number whose word is no later, or the next one's word is no later. -/
theorem Wk.leastOr {i : Nat} (h : Wk φ M first T K (i * M)) (hc : Cv φ M T K (i * M)) (hM : 0 < M) (hi : i < T.length) : ∀ (n : Nat) (u : List Nat), u.length = n → (∀ a ∈ u, a < M) → (∃ j, j < i ∧ T[j]? = some (u.foldl φ first) ∧ rk M (wnK M K j) ≤ rk M u) ∨ rk M (wnK M K i) ≤ rk M u := by
  have hil : i ≤ K.length := by have := h.l; omega
  intro n
  induction n with
  | zero =>
    intro u hu _
    obtain rfl := List.eq_nil_of_length_eq_zero hu
    rcases Nat.eq_zero_or_pos i with e | e
    · subst e
      exact .inr (Nat.le_refl _)
    · exact .inl ⟨0, e, h.z, Nat.le_refl _⟩
  | succ n ih =>
    intro u hu ha
    obtain ⟨v, a, rfl⟩ : ∃ v a, u = v ++ [a] := by
      rcases List.eq_nil_or_concat u with e | ⟨v, a, e⟩
      · subst e; simp at hu
      · exact ⟨v, a, by rw [e, List.concat_eq_append]⟩
    have ham := ha a (by simp)
    rcases ih v (by simpa using hu) (fun b hb => ha b (by simp [hb])) with ⟨j, hj, h1, h2⟩ | h2
    · have d1 : (j * M + a) / M = j := by rw [Nat.mul_comm, Nat.mul_add_div hM, Nat.div_eq_of_lt ham]; omega
      have d2 : (j * M + a) % M = a := by rw [Nat.mul_comm, Nat.mul_add_mod, Nat.mod_eq_of_lt ham]
      have hlt : j * M + a < i * M := by
        have : (j + 1) * M ≤ i * M := Nat.mul_le_mul_right M hj
        rw [Nat.succ_mul] at this
        omega
      obtain ⟨k, h3, h4⟩ := hc (j * M + a) hlt _ (by rw [d1]; exact h1)
      rw [d2] at h3
      have hk : k ≤ K.length := by
        have := (List.getElem?_eq_some_iff.1 h3).1
        have := h.l
        omega
      have hle : rk M (wnK M K k) ≤ rk M (v ++ [a]) := by
        rw [rk_snoc]
        cases k with
        | zero => show 0 ≤ _; omega
        | succ k =>
          rw [wnK_succ h.q (by omega), rk_snoc]
          have hq := h4 k rfl
          have dm := Nat.div_add_mod (K.getD k 0) M
          have mm := Nat.mod_lt (K.getD k 0) hM
          have hkj : K.getD k 0 / M ≤ j := by
            have := Nat.div_le_div_right (c := M) hq
            rw [d1] at this
            exact this
          rcases Nat.lt_or_ge (K.getD k 0 / M) j with q | q
          · have hr := h.up hM j (K.getD k 0 / M) q (by omega)
            have : M * (rk M (wnK M K (K.getD k 0 / M)) + 1) ≤ M * rk M v := Nat.mul_le_mul_left M (Nat.le_trans hr h2)
            rw [Nat.mul_add] at this
            omega
          · have e : K.getD k 0 / M = j := by omega
            rw [e] at dm ⊢
            have : M * rk M (wnK M K j) ≤ M * rk M v := Nat.mul_le_mul_left M h2
            have e2 : M * j = j * M := Nat.mul_comm _ _
            omega
      rcases Nat.lt_trichotomy k i with q | q | q
      · exact .inl ⟨k, q, by rw [List.foldl_append]; exact h3, hle⟩
      · rw [q] at hle
        exact .inr hle
      · have := h.up hM k i q hk
        exact .inr (by omega)
    · refine .inr ?_
      rw [rk_snoc]
      have : 1 * rk M v ≤ M * rk M v := Nat.mul_le_mul_right _ hM
      omega
end
theorem rk_inj {M : Nat} : ∀ (n : Nat) (u v : List Nat), u.length = n → (∀ a ∈ u, a < M) → (∀ a ∈ v, a < M) → rk M u = rk M v → u = v := by
  intro n
  induction n with
  | zero =>
    intro u v hu _ hv e
    obtain rfl := List.eq_nil_of_length_eq_zero hu
    rcases List.eq_nil_or_concat v with q | ⟨v', b, q⟩
    · exact q.symm
    · rw [List.concat_eq_append] at q
      subst q
      rw [rk_snoc] at e
      exact absurd e (by show ¬ 0 = _; omega)
  | succ n ih =>
    intro u v hu ha hv e
    obtain ⟨u', a, rfl⟩ : ∃ u' a, u = u' ++ [a] := by
      rcases List.eq_nil_or_concat u with q | ⟨u', a, q⟩
      · subst q; simp at hu
      · exact ⟨u', a, by rw [q, List.concat_eq_append]⟩
    rcases List.eq_nil_or_concat v with q | ⟨v', b, q⟩
    · subst q
      rw [rk_snoc] at e
      exact absurd e (by show ¬ _ = 0; omega)
    · rw [List.concat_eq_append] at q
      subst q
      rw [rk_snoc, rk_snoc] at e
      have h1 := ha a (by simp)
      have h2 := hv b (by simp)
      have hM : 0 < M := by omega
      have e1 : (M * rk M u' + a) / M = rk M u' := by rw [Nat.mul_add_div hM, Nat.div_eq_of_lt h1]; omega
      have e2 : (M * rk M v' + b) / M = rk M v' := by rw [Nat.mul_add_div hM, Nat.div_eq_of_lt h2]; omega
      have e3 : M * rk M u' + a = M * rk M v' + b := by omega
      have er : rk M u' = rk M v' := by rw [← e1, ← e2, e3]
      have ea : a = b := by rw [er] at e3; omega
      rw [ih u' v' (by simpa using hu) (fun x hx => ha x (by simp [hx])) (fun x hx => hv x (by simp [hx])) er, ea]
/-- The least word that tells two beginnings apart. -/
def TlU (F1 X1 F2 X2 : List Int) (M s1 s2 : Nat) (u : List Nat) : Prop := (∀ a ∈ u, a < M) ∧ inF F1 (dls X1 M s1 u) ≠ inF F2 (dls X2 M s2 u) ∧ ∀ v : List Nat, (∀ a ∈ v, a < M) → inF F1 (dls X1 M s1 v) ≠ inF F2 (dls X2 M s2 v) → rk M u ≤ rk M v
theorem tlU_one {F1 X1 F2 X2 : List Int} {M s1 s2 : Nat} {u v : List Nat} (h : TlU F1 X1 F2 X2 M s1 s2 u) (k : TlU F1 X1 F2 X2 M s1 s2 v) : u = v :=
  rk_inj _ u v rfl h.1 k.1 (Nat.le_antisymm (h.2.2 v k.1 k.2.1) (k.2.2 u h.1 h.2.1))
theorem tlU_no {F1 X1 F2 X2 : List Int} {M s1 s2 : Nat} {u : List Nat} (h : TlU F1 X1 F2 X2 M s1 s2 u) : ¬ Eqv F1 X1 F2 X2 M s1 s2 := fun k => h.2.1 (k u h.1)
theorem tlE_tlU {F1 X1 F2 X2 : List Int} {N M s1 s2 : Nat} {u : List Nat} (h : TlE F1 X1 F2 X2 N M s1 s2 u) : TlU F1 X1 F2 X2 M s1 s2 u := ⟨h.1, h.2.1, h.2.2.2⟩
/-- A step of a pair. -/
def st2 (X1 X2 : List Int) (M : Nat) (x : Nat × Nat) (a : Nat) : Nat × Nat := (dl X1 M x.1 a, dl X2 M x.2 a)
theorem st2_fold {X1 X2 : List Int} {M : Nat} : ∀ (u : List Nat) (x : Nat × Nat), u.foldl (st2 X1 X2 M) x = (dls X1 M x.1 u, dls X2 M x.2 u)
  | [], _ => rfl
  | a :: u, x => by
    rw [List.foldl_cons, st2_fold u]
    rfl
/-- Do the ends of a pair differ? -/
def dfB (F1 F2 : List Int) (x : Nat × Nat) : Bool := inF F1 x.1 != inF F2 x.2
theorem ap_told {F1 X1 F2 X2 : List Int} {M s1 s2 i : Nat} {T : List (Nat × Nat)} {K : List Nat} (h : Wk (st2 X1 X2 M) M (s1, s2) T K (i * M)) (hc : Cv (st2 X1 X2 M) M T K (i * M)) (hi : i < T.length) (hn : ∀ (j : Nat), j < i → ∀ x, T[j]? = some x → dfB F1 F2 x = false) (hd : dfB F1 F2 T[i] = true) : TlU F1 X1 F2 X2 M s1 s2 (wnK M K i) := by
  have hil : i ≤ K.length := by have := h.l; omega
  have hlead := h.leads i T[i] (List.getElem?_eq_getElem hi)
  rw [st2_fold] at hlead
  rw [← hlead] at hd
  have hdf : inF F1 (dls X1 M s1 (wnK M K i)) ≠ inF F2 (dls X2 M s2 (wnK M K i)) := by simpa [dfB] using hd
  rcases Nat.eq_zero_or_pos M with e | hM
  · subst e
    have hK : K.length = 0 := by
      rcases Nat.eq_zero_or_pos K.length with q | q
      · exact q
      · have := (h.s 0 q).1
        rw [Nat.mul_zero] at this
        omega
    obtain rfl : i = 0 := by omega
    exact ⟨fun a ha => (List.not_mem_nil ha).elim, hdf, fun v _ _ => Nat.zero_le _⟩
  · refine ⟨h.syms hM i hil, hdf, fun v hv hne => ?_⟩
    rcases h.leastOr hc hM hi v.length v rfl hv with ⟨j, hj, h1, _⟩ | q
    · have := hn j hj _ h1
      rw [st2_fold] at this
      exact absurd (by simpa [dfB] using this) hne
    · exact q
theorem ap_none {F1 X1 F2 X2 : List Int} {M s1 s2 : Nat} {T : List (Nat × Nat)} {K : List Nat} (h : Wk (st2 X1 X2 M) M (s1, s2) T K (T.length * M)) (hc : Cv (st2 X1 X2 M) M T K (T.length * M)) (hn : ∀ (j : Nat), j < T.length → ∀ x, T[j]? = some x → dfB F1 F2 x = false) : Eqv F1 X1 F2 X2 M s1 s2 := by
  intro u hu
  have key : ∃ j : Nat, T[j]? = some (u.foldl (st2 X1 X2 M) (s1, s2)) := by
    rcases Nat.eq_zero_or_pos M with e | hM
    · subst e
      have : u = [] := by
        cases u with
        | nil => rfl
        | cons a u => exact absurd (hu a (by simp)) (by omega)
      subst this
      exact ⟨0, h.z⟩
    · obtain ⟨j, h1, _⟩ := h.least hc hM u.length u rfl hu
      exact ⟨j, h1⟩
  obtain ⟨j, h1⟩ := key
  have := hn j (List.getElem?_eq_some_iff.1 h1).1 _ h1
  rw [st2_fold] at this
  simpa [dfB] using this
theorem pair_le {N1 N2 : Nat} {T : List (Nat × Nat)} (hn : T.Nodup) (hr : ∀ x ∈ T, x.1 < N1 ∧ x.2 < N2) : T.length ≤ N1 * N2 := by
  have hm : (T.map fun x => x.1 * N2 + x.2).Nodup := by
    rw [List.nodup_iff_pairwise_ne, List.pairwise_map]
    refine (List.nodup_iff_pairwise_ne.1 hn).imp_of_mem fun {a b} ha hb hne e => hne ?_
    have h1 := hr a ha
    have h2 := hr b hb
    have d1 : (a.1 * N2 + a.2) / N2 = a.1 := by rw [Nat.mul_comm, Nat.mul_add_div (by omega), Nat.div_eq_of_lt h1.2]; omega
    have d2 : (b.1 * N2 + b.2) / N2 = b.1 := by rw [Nat.mul_comm, Nat.mul_add_div (by omega), Nat.div_eq_of_lt h2.2]; omega
    have e' : a.1 * N2 + a.2 = b.1 * N2 + b.2 := e
    have e1 : a.1 = b.1 := by rw [← d1, ← d2, e']
    rw [e1] at e'
    exact Prod.ext e1 (by omega)
  have := nodup_le (N := N1 * N2) hm (fun q hq => by
    obtain ⟨x, hx, rfl⟩ := List.mem_map.1 hq
    have h := hr x hx
    have : (x.1 + 1) * N2 ≤ N1 * N2 := Nat.mul_le_mul_right _ h.1
    rw [Nat.succ_mul] at this
    show x.1 * N2 + x.2 < _
    omega)
  simpa using this
/-! ### The reference: apart -/
theorem info103 : (Try.prog.info? 103).map (fun i => (i.zero, i.size, i.bytes)) = some (some (.agg #[.int .i64 0, .int .i64 0, .slice none 0 0]), 3, 40) := by kernel_rfl
def encQ (x : (Nat × Nat) × Value) : List Value := [.int .i64 (x.1.1 : Int), .int .i64 (x.1.2 : Int), x.2]
theorem encQ_len (x : (Nat × Nat) × Value) : (encQ x).length = 3 := rfl
def OwQ (W : World) (B : Nat) (v : Value) (L : List ((Nat × Nat) × Value)) : Prop := W.ownsRow B 103 3 v L.length (L.flatMap encQ)
theorem owQ_rd {W : World} {B c : Nat} {b : Option Addr} {n : Nat} {X : List ((Nat × Nat) × Value)} (h : OwQ W B (.slice b n c) X) : n = X.length ∧ ∀ (j : Nat) (hj : j < X.length), ∃ g o, b = some ⟨g, o, none⟩ ∧ W.cell? ⟨g, o + j * 3, none⟩ = some (.int .i64 (X[j].1.1 : Int)) ∧ W.cell? ⟨g, o + j * 3 + 1, none⟩ = some (.int .i64 (X[j].1.2 : Int)) ∧ W.cell? ⟨g, o + j * 3 + 2, none⟩ = some X[j].2 := by
  unfold OwQ at h
  rcases h.2 with ⟨hv, hn⟩ | ⟨g, cap, cur, hv, hB, hg, h1, h2, h3, h4⟩
  · cases hv
    exact ⟨hn.symm, fun j hj => by omega⟩
  · cases hv
    have key : ∀ i, i < 3 → ∀ j (hj : j < X.length), W.cell? ⟨g, j * 3 + i, none⟩ = (encQ X[j])[i]? := fun i hi j hj => by
      have q : (cur.toList.take (X.length * 3))[j * 3 + i]? = (X.flatMap encQ)[j * 3 + i]? := by rw [h4]
      rw [List.getElem?_take_of_lt (by omega), flat_get encQ 3 encQ_len X j i hj hi] at q
      have e : ∃ v, (encQ X[j])[i]? = some v := ⟨_, List.getElem?_eq_getElem (by rw [encQ_len]; exact hi)⟩
      obtain ⟨v, hv⟩ := e
      rw [hv] at q ⊢
      exact cell_of hg (by simpa using q)
    refine ⟨rfl, fun j hj => ⟨g, 0, rfl, ?_, ?_, ?_⟩⟩
    · have := key 0 (by omega) j hj
      simpa [encQ] using this
    · have := key 1 (by omega) j hj
      simpa [encQ] using this
    · have := key 2 (by omega) j hj
      simpa [encQ] using this
/-- What the search holds. -/
structure ApS (B : Nat) (w : World) (N2 NN M b1 b2 g : Nat) (V1 V2 : Array Value) (vQ : Value) (L : List ((Nat × Nat) × Value)) (K : List Nat) : Prop where
  b1 : w.heap[b1]? = some (.cells V1 24 (0, 0))
  b2 : w.heap[b2]? = some (.cells V2 24 (0, 0))
  q : OwQ w B vQ L
  wd : ∀ (j : Nat) (h : j < L.length), OwI w B L[j].2 (wdK M K j)
  s : Mrw w g 4 NN (fun k => .bool (decide ((k / N2, k % N2) ∈ L.map Prod.fst))) NN
  lg : B ≤ g
theorem ApS.on {B : Nat} {w w' : World} {N2 NN M b1 b2 g : Nat} {V1 V2 : Array Value} {vQ : Value} {L : List ((Nat × Nat) × Value)} {K : List Nat} (h : ApS B w N2 NN M b1 b2 g V1 V2 vQ L K) (d : Below w.heap.size w w') : ApS B w' N2 NN M b1 b2 g V1 V2 vQ L K :=
  ⟨blk_on h.b1 d, blk_on h.b2 d, own_below h.q d, fun j hj => own_below (h.wd j hj) d, h.s.below d h.s.lt, h.lg⟩
def ApA (w : World) (F1 X1 F2 X2 : List Int) (M p q : Nat) : Ending → World → Prop := fun e w' => ∃ b n c told, e = .returned (.tuple #[.slice b n c, .bool told]) ∧ Hid (Below w.heap.size w w' ∧ (told = true → ∃ u, OwI w' w.heap.size (.slice b n c) (natI u) ∧ TlU F1 X1 F2 X2 M p q u) ∧ (told = false → b = none ∧ n = 0 ∧ c = 0 ∧ Eqv F1 X1 F2 X2 M p q))
theorem Mrw.ofFull {W : World} {b H : Nat} {t : TypeId} {n : Nat} {xs : List Value} {val : Nat → Value} (h : W.ownsRow b t 1 (.slice (some ⟨H, 0, none⟩) n n) n xs) (hv : ∀ j, j < n → xs[j]? = some (val j)) : Mrw W H t n val n := by
  obtain ⟨h0, h1⟩ := h
  rcases h1 with ⟨e, _⟩ | ⟨g, cap, cur, e, h2, h3, h4, h5, h6, h7⟩
  · cases e
  · cases e
    refine ⟨cur, h3, by omega, fun j hj => ?_⟩
    rw [← hv j hj, ← h7, List.getElem?_take_of_lt (by omega), Array.getElem?_toList]
theorem pair_at {N2 a b c : Nat} (hb : b < N2) : (c / N2, c % N2) = (a, b) ↔ c = a * N2 + b := by
  have hN : 0 < N2 := by omega
  constructor
  · intro e
    obtain ⟨e1, e2⟩ := Prod.mk.inj e
    have := Nat.div_add_mod c N2
    rw [e1, e2] at this
    have z : N2 * a = a * N2 := Nat.mul_comm _ _
    omega
  · rintro rfl
    rw [Nat.mul_comm, Nat.mul_add_div hN, Nat.div_eq_of_lt hb, Nat.mul_add_mod, Nat.mod_eq_of_lt hb]
    simp
theorem seen_put {N2 a b : Nat} {T : List (Nat × Nat)} (hb : b < N2) (j : Nat) : (if j = a * N2 + b then Value.bool true else Value.bool (decide ((j / N2, j % N2) ∈ T))) = Value.bool (decide ((j / N2, j % N2) ∈ T ++ [(a, b)])) := by
  by_cases h : j = a * N2 + b
  · rw [if_pos h, decide_eq_true (by rw [(pair_at hb).2 h]; simp)]
  · rw [if_neg h]
    have : ¬ (j / N2, j % N2) = (a, b) := fun e => h ((pair_at hb).1 e)
    congr 1
    simp [this]
theorem owQ_one {W : World} {B g p q : Nat} (hB : B ≤ g) (h : W.heap[g]? = some (.cells #[.int .i64 (p : Int), .int .i64 (q : Int), .slice none 0 0] 103 (0, 0))) : OwQ W B (.slice (some ⟨g, 0, none⟩) 1 1) [((p, q), .slice none 0 0)] :=
  ⟨rfl, .inr ⟨g, 1, _, rfl, hB, h, Nat.le_refl _, by unfold maxLen; omega, rfl, rfl⟩⟩
/-- The start. -/
theorem apS_first {B gq g N2 NN M b1 b2 p q : Nat} {V1 V2 : Array Value} {w1 : World} {val : Nat → Value} (hb1 : w1.heap[b1]? = some (.cells V1 24 (0, 0))) (hb2 : w1.heap[b2]? = some (.cells V2 24 (0, 0))) (hq : w1.heap[gq]? = some (.cells #[.int .i64 (p : Int), .int .i64 (q : Int), .slice none 0 0] 103 (0, 0))) (hB : B ≤ gq) (hg : gq < g) (hB1 : b1 < gq) (hB2 : b2 < gq) (hs : Mrw w1 g 4 NN val NN) (hval : ∀ j, j < NN → val j = .bool false) (hqN : q < N2) :
    ApS B (w1.setCell ⟨g, p * N2 + q, none⟩ (.bool true)) N2 NN M b1 b2 g V1 V2 (.slice (some ⟨gq, 0, none⟩) 1 1) [((p, q), .slice none 0 0)] [] := by
  have o := only_set w1 g (p * N2 + q) (.bool true)
  have keep : ∀ {k : Nat} {b : Obj}, w1.heap[k]? = some b → k < g → (w1.setCell ⟨g, p * N2 + q, none⟩ (.bool true)).heap[k]? = some b := fun {k b} h hk => (o.block k (Array.getElem?_eq_some_iff.1 h).1 (by omega)).trans h
  refine ⟨keep hb1 (by omega), keep hb2 (by omega), owQ_one hB (keep hq hg), fun j hj => ?_, ?_, by omega⟩
  · obtain rfl : j = 0 := by simpa using hj
    exact owI_nil _ _
  · refine (hs.upd _ _).congr fun j hj => ?_
    have z := seen_put (N2 := N2) (a := p) (b := q) (T := []) hqN j
    rw [hval j hj]
    simpa using z
theorem only_blk {w w' : World} {B n sz k : Nat} {e t : TypeId} {v : Value} {xs : List Value} {cs : Array Value} (o : Only w w' (fun k => v.ownBlock = some k)) (h : w.ownsRow B e sz v n xs) (hk : w.heap[k]? = some (.cells cs t (0, 0))) (ne : t ≠ e) : w'.heap[k]? = some (.cells cs t (0, 0)) :=
  (o.block k (Array.getElem?_eq_some_iff.1 hk).1 (fun e => row_tag h hk ne e)).trans hk
theorem only_row {w w' : World} {B B' n m sz sz' : Nat} {e e' : TypeId} {v u : Value} {xs ys : List Value} (o : Only w w' (fun k => v.ownBlock = some k)) (h : w.ownsRow B e sz v n xs) (h' : w.ownsRow B' e' sz' u m ys) (ne : e' ≠ e) : w'.ownsRow B' e' sz' u m ys :=
  row_only h' o (fun _ hk e => own_tags h h' ne e hk)
theorem only_mrw {w w' : World} {B n sz g N : Nat} {e t : TypeId} {v : Value} {xs : List Value} {f : Nat → Value} (o : Only w w' (fun k => v.ownBlock = some k)) (h : w.ownsRow B e sz v n xs) (hM : Mrw w g t N f N) (ne : t ≠ e) : Mrw w' g t N f N := by
  obtain ⟨cur, h1, h2⟩ := hM
  exact ⟨cur, only_blk o h h1 ne, h2⟩
/-- The search while it goes. -/
structure ApI (w : World) (N1 N2 NN M p q g : Nat) (V1 V2 : Array Value) (F1 X1 F2 X2 : List Int) (c i : Nat) (wr : World) (vQ : Value) (L : List ((Nat × Nat) × Value)) (K : List Nat) : Prop where
  a : ApS w.heap.size wr N2 NN M w.heap.size (w.heap.size + 1) g V1 V2 vQ L K
  wk : Wk (st2 X1 X2 M) M (p, q) (L.map Prod.fst) K c
  cv : Cv (st2 X1 X2 M) M (L.map Prod.fst) K c
  nd : (L.map Prod.fst).Nodup
  rg : ∀ x ∈ L.map Prod.fst, x.1 < N1 ∧ x.2 < N2
  df : ∀ (j : Nat), j < i → ∀ x, (L.map Prod.fst)[j]? = some x → dfB F1 F2 x = false
  d : Below w.heap.size w wr
theorem ApI.on {w : World} {N1 N2 NN M p q g : Nat} {V1 V2 : Array Value} {F1 X1 F2 X2 : List Int} {c i : Nat} {wr w' : World} {vQ : Value} {L : List ((Nat × Nat) × Value)} {K : List Nat} (h : ApI w N1 N2 NN M p q g V1 V2 F1 X1 F2 X2 c i wr vQ L K) (d : Below wr.heap.size wr w') : ApI w N1 N2 NN M p q g V1 V2 F1 X1 F2 X2 c i w' vQ L K :=
  ⟨h.a.on d, h.wk, h.cv, h.nd, h.rg, h.df, h.d.trans (d.mono h.d.size)⟩
/-- A follower that was met already. -/
theorem ApI.old {w : World} {N1 N2 NN M p q g : Nat} {V1 V2 : Array Value} {F1 X1 F2 X2 : List Int} {c i : Nat} {wr : World} {vQ : Value} {L : List ((Nat × Nat) × Value)} {K : List Nat} {x : Nat × Nat} (h : ApI w N1 N2 NN M p q g V1 V2 F1 X1 F2 X2 c i wr vQ L K) (hx : (L.map Prod.fst)[c / M]? = some x) (hm : st2 X1 X2 M x (c % M) ∈ L.map Prod.fst) : ApI w N1 N2 NN M p q g V1 V2 F1 X1 F2 X2 (c + 1) i wr vQ L K :=
  ⟨h.a, h.wk.more (Nat.le_succ _), h.cv.old h.wk hx hm, h.nd, h.rg, h.df, h.d⟩
/-- A follower that is new. -/
theorem ApI.put {w : World} {N1 N2 NN M p q g : Nat} {V1 V2 : Array Value} {F1 X1 F2 X2 : List Int} {c i a b : Nat} {wr wb wd : World} {vQ vQ' v : Value} {L : List ((Nat × Nat) × Value)} {K : List Nat} {x : Nat × Nat} (h : ApI w N1 N2 NN M p q g V1 V2 F1 X1 F2 X2 c i wr vQ L K) (hx : (L.map Prod.fst)[c / M]? = some x) (hst : st2 X1 X2 M x (c % M) = (a, b)) (hm : (a, b) ∉ L.map Prod.fst) (ha : a < N1) (hb : b < N2) (hi : i ≤ L.length)
    (d1 : Below wr.heap.size (wr.setCell ⟨g, a * N2 + b, none⟩ (.bool true)) wb) (hv : OwI wb wr.heap.size v (wdK M K (c / M) ++ [((c % M : Nat) : Int)]))
    (o : Only (wb.alloc (.cells #[.int .i64 (a : Int), .int .i64 (b : Int), v] 103)) wd (fun k => vQ.ownBlock = some k)) (hq : OwQ wd w.heap.size vQ' (L ++ [((a, b), v)])) :
    ApI w N1 N2 NN M p q g V1 V2 F1 X1 F2 X2 (c + 1) i wd vQ' (L ++ [((a, b), v)]) (K ++ [c]) := by
  have hgl := h.a.s.lt
  have O1 := only_set wr g (a * N2 + b) (.bool true)
  have s1 : (wr.setCell ⟨g, a * N2 + b, none⟩ (.bool true)).heap.size = wr.heap.size := by simp [World.setCell]
  have d1' : Below (wr.setCell ⟨g, a * N2 + b, none⟩ (.bool true)).heap.size (wr.setCell ⟨g, a * N2 + b, none⟩ (.bool true)) wb := by rw [s1]; exact d1
  have d2 : Below wb.heap.size wb (wb.alloc (.cells #[.int .i64 (a : Int), .int .i64 (b : Int), v] 103)) := (Below.refl _ _).alloc (Nat.le_refl _) _
  have d3 := d1'.trans (d2.mono d1'.size)
  obtain ⟨gcs, hgb⟩ := h.a.s.blk
  have blk : ∀ {k : Nat} {cs : Array Value} {t : TypeId}, wr.heap[k]? = some (.cells cs t (0, 0)) → t ≠ 4 → t ≠ 103 → wd.heap[k]? = some (.cells cs t (0, 0)) := fun {k cs t} hk n4 nq => by
    have e1 := (O1.block k (Array.getElem?_eq_some_iff.1 hk).1 (fun e => by subst e; rw [hgb] at hk; cases hk; exact n4 rfl)).trans hk
    have e2 := blk_on e1 d3
    refine only_blk o (B := w.heap.size) (xs := L.flatMap encQ) (n := L.length) (sz := 3) (e := 103) ?_ e2 nq
    exact own_below (row_only h.a.q O1 (fun k hk e => by subst e; exact row_tag h.a.q hgb (by decide) hk)) d3
  have hQc : (wb.alloc (.cells #[.int .i64 (a : Int), .int .i64 (b : Int), v] 103)).ownsRow w.heap.size 103 3 vQ L.length (L.flatMap encQ) := own_below (row_only h.a.q O1 (fun k hk e => by subst e; exact row_tag h.a.q hgb (by decide) hk)) d3
  have hcl : c / M ≤ K.length := by
    have := (List.getElem?_eq_some_iff.1 hx).1
    have := h.wk.l
    omega
  have hLl : L.length = K.length + 1 := by have := h.wk.l; simpa using this
  refine ⟨⟨blk h.a.b1 (by decide) (by decide), blk h.a.b2 (by decide) (by decide), hq, fun j hj => ?_, ?_, h.a.lg⟩, ?_, ?_, ?_, ?_, ?_, ?_⟩
  · by_cases e : j < L.length
    · rw [List.getElem_append_left e, wdK_more h.wk.q (by omega)]
      have w1 := h.a.wd j e
      have w2 : OwI (wr.setCell ⟨g, a * N2 + b, none⟩ (.bool true)) w.heap.size L[j].2 (wdK M K j) := row_only w1 O1 (fun k hk e => by subst e; exact row_tag w1 hgb (by decide) hk)
      exact only_row o hQc (own_below w2 d3) (by decide)
    · obtain rfl : j = L.length := by rw [List.length_append, List.length_singleton] at hj; omega
      have e8 : (L ++ [((a, b), v)])[L.length]'hj = ((a, b), v) := by simp
      have e9 : wdK M (K ++ [c]) L.length = wdK M K (c / M) ++ [((c % M : Nat) : Int)] := by rw [hLl]; exact wdK_new h.wk.q hcl
      rw [e8, e9]
      exact only_row o hQc (own_below (owns_down hv h.d.size) d2) (by decide)
  · have m1 := (h.a.s.upd (a * N2 + b) (.bool true)).congr (g := fun k => .bool (decide ((k / N2, k % N2) ∈ (L ++ [((a, b), v)]).map Prod.fst))) fun j hj => by
      rw [List.map_append]
      exact seen_put hb j
    exact only_mrw o hQc (m1.below d3 (by rw [s1]; exact hgl)) (by decide)
  · have z := h.wk.put hx
    rw [hst] at z
    rw [List.map_append]
    exact z
  · have z := h.cv.put h.wk hx
    rw [hst] at z
    rw [List.map_append]
    exact z
  · rw [List.map_append]
    refine List.nodup_append.2 ⟨h.nd, by simp, ?_⟩
    intro y hy z hz e
    simp at hz
    subst hz
    subst e
    exact hm hy
  · intro y hy
    rw [List.map_append] at hy
    rcases List.mem_append.1 hy with e | e
    · exact h.rg y e
    · simp at e
      subst e
      exact ⟨ha, hb⟩
  · intro j hj y hy
    refine h.df j hj y ?_
    rw [List.map_append, List.getElem?_append_left (by rw [List.length_map]; omega)] at hy
    exact hy
  · have b1 : Below w.heap.size wr (wr.setCell ⟨g, a * N2 + b, none⟩ (.bool true)) := O1.toBelow h.d.size (fun k hk => by subst hk; exact h.a.lg)
    have b2 : Below w.heap.size (wb.alloc (.cells #[.int .i64 (a : Int), .int .i64 (b : Int), v] 103)) wd := o.toBelow (by have := h.d.size; have := d3.size; omega) (fun k hk => (h.a.q.lt k hk).1)
    exact ((h.d.trans b1).trans (d3.mono (by rw [s1]; exact h.d.size))).trans b2
theorem three_cells {W : World} {u v x : Value} {t : TypeId} {p : Nat} (z : W.heap[p]? = some (.cells #[u, v, x] t (0, 0))) : ∀ (j : Nat) (y : Value), [u, v, x][j]? = some y → W.cell? ((⟨p, 0, none⟩ : Addr).add j) = some y := fun j y hx => by
  rw [Addr.add_lit]
  match j, hx with
  | 0, hx => exact cell_of z (by simpa using hx)
  | 1, hx => exact cell_of z (by simpa using hx)
  | 2, hx => exact cell_of z (by simpa using hx)
  | (j + 3), hx => simp at hx
set_option maxRecDepth 100000 in
set_option maxHeartbeats 4000000 in
theorem apart_any (w : World) (N1 N2 M : Nat) (z1 z2 : Int) (aF1 aX1 aF2 aX2 : Option Addr) (lF1 cF1 lX1 cX1 lF2 cF2 lX2 cX2 : Nat) (F1 X1 F2 X2 : List Int) (hF1 : RdN w aF1 F1) (hX1 : RdN w aX1 X1) (hF2 : RdN w aF2 F2) (hX2 : RdN w aX2 X2) (e1 : F1.length = lF1) (e2 : X1.length = lX1) (e3 : F2.length = lF2) (e4 : X2.length = lX2) (b1 : lF1 ≤ 4194304) (b3 : lF2 ≤ 4194304) (n1 : N1 ≤ 4096) (n2 : N2 ≤ 4096) (m1 : M ≤ 128) (g1 : X1.length = N1 * M) (g2 : X2.length = N2 * M) (i1 : ∀ x ∈ X1, 0 ≤ x ∧ x < (N1 : Int)) (i2 : ∀ x ∈ X2, 0 ≤ x ∧ x < (N2 : Int)) (p q : Nat) (hp : p < N1) (hq : q < N2) :
    Calls Try.prog 47 #[.agg #[.int .i64 (N1 : Int), .int .i64 (M : Int), .int .i64 z1, .slice aF1 lF1 cF1, .slice aX1 lX1 cX1], .agg #[.int .i64 (N2 : Int), .int .i64 (M : Int), .int .i64 z2, .slice aF2 lF2 cF2, .slice aX2 lX2 cX2], .int .i64 (p : Int), .int .i64 (q : Int)] w (ApA w F1 X1 F2 X2 M p q) := by
  obtain ⟨i4, hi4, hz40, hz41, hz42⟩ := info_parts info4
  obtain ⟨i103, hi103, hzq0, hzq1, hzq2⟩ := info_parts info103
  have HQI := hide (And.intro hi103 (And.intro hzq0 (And.intro hzq1 hzq2)))
  clear hi103 hzq0 hzq1 hzq2
  obtain ⟨W0, hW0⟩ : ∃ W0, (w.alloc (.cells #[.int .i64 (N1 : Int), .int .i64 (M : Int), .int .i64 z1, .slice aF1 lF1 cF1, .slice aX1 lX1 cX1] 24)).alloc (.cells #[.int .i64 (N2 : Int), .int .i64 (M : Int), .int .i64 z2, .slice aF2 lF2 cF2, .slice aX2 lX2 cX2] 24) = W0 := ⟨_, rfl⟩
  have H2 := hide (two_al w #[.int .i64 (N1 : Int), .int .i64 (M : Int), .int .i64 z1, .slice aF1 lF1 cF1, .slice aX1 lX1 cX1] #[.int .i64 (N2 : Int), .int .i64 (M : Int), .int .i64 z2, .slice aF2 lF2 cF2, .slice aX2 lX2 cX2] 24 24)
  rw [hW0] at H2
  have HF := hide (And.intro hF1 (And.intro hX1 (And.intro hF2 hX2)))
  have HB := hide (And.intro e1 (And.intro e2 (And.intro e3 (And.intro e4 (And.intro g1 (And.intro g2 (And.intro i1 (And.intro i2 (And.intro b1 (And.intro b3 (And.intro n1 (And.intro n2 m1))))))))))))
  have hs0 : p * N2 + q < N1 * N2 := place_lt hp hq
  have hNN : N1 * N2 ≤ 16777216 := Nat.mul_le_mul n1 n2
  obtain ⟨NN, hN⟩ : ∃ k, N1 * N2 = k := ⟨_, rfl⟩
  obtain ⟨k0, hk0⟩ : ∃ k, p * N2 = k := ⟨_, rfl⟩
  obtain ⟨k1, hk1⟩ : ∃ k, k0 + q = k := ⟨_, rfl⟩
  have ew1 : IntKind.i64.wrap ((N1 : Int) * (N2 : Int)) = (NN : Int) := by
    rw [show (N1 : Int) * (N2 : Int) = ((N1 * N2 : Nat) : Int) by simp, IntKind.wrap_i64]; omega
  have ew2 : IntKind.i64.wrap ((p : Int) * (N2 : Int)) = (k0 : Int) := by
    rw [show (p : Int) * (N2 : Int) = ((p * N2 : Nat) : Int) by simp, IntKind.wrap_i64]; omega
  have ew3 : IntKind.i64.wrap ((k0 : Int) + (q : Int)) = (k1 : Int) := by rw [IntKind.wrap_i64]; omega
  have v1 : (0 : Int) ≤ (k1 : Int) := by omega
  have v2 : (k1 : Int) < (NN : Int) := by omega
  have HK := hide (And.intro hN (And.intro hk0 (And.intro hk1 (And.intro hp (And.intro hq hNN)))))
  clear hF1 hX1 hF2 hX2 e1 e2 e3 e4 g1 g2 i1 i2 b1 b3 n1 n2 m1 hs0 hk0 hk1 hp hq hNN hN
  have x0 : W0.cell? ⟨w.heap.size, 0, none⟩ = some (.int .i64 (N1 : Int)) := cell_of H2.out.2.1 rfl
  have y0 : W0.cell? ⟨w.heap.size + 1, 0, none⟩ = some (.int .i64 (N2 : Int)) := cell_of H2.out.2.2.1 rfl
  go_enter Try.func47, Try.ntmps47
  go_upto_region 2 with fail
  obtain ⟨wq, hwq⟩ : ∃ W, W0.alloc (.cells #[.int .i64 (p : Int), .int .i64 (q : Int), .slice none 0 0] 103) = W := ⟨_, rfl⟩
  rw [hwq]
  have Dq : Below W0.heap.size W0 wq := by rw [← hwq]; exact (Below.refl _ _).alloc (Nat.le_refl _) _
  have Xq : wq.heap[W0.heap.size]? = some (.cells #[.int .i64 (p : Int), .int .i64 (q : Int), .slice none 0 0] 103 (0, 0)) := by rw [← hwq]; exact World.alloc_heap_new _ _
  have sq : wq.heap.size = W0.heap.size + 1 := by rw [← hwq]; simp
  have HQ1 := hide (And.intro Dq (And.intro Xq sq))
  clear hwq Dq Xq sq x0 y0
  have x0 : wq.cell? ⟨w.heap.size, 0, none⟩ = some (.int .i64 (N1 : Int)) := cell_of (blk_on H2.out.2.1 HQ1.out.1) rfl
  have y0 : wq.cell? ⟨w.heap.size + 1, 0, none⟩ = some (.int .i64 (N2 : Int)) := cell_of (blk_on H2.out.2.2.1 HQ1.out.1) rfl
  go_upto_region 3 with (at_make; refine wpList_make_full _ rfl _ _ 58 rfl wq.heap.size 4 i4 (.bool false) 1 Try.underlying58 hi4 hz40 hz41 _ _ _ _ NN rfl rfl rfl rfl (by rw [hz42]; have := HK.out.2.2.2.2.2; have := HK.out.1; omega) (by unfold maxLen; have := HK.out.2.2.2.2.2; have := HK.out.1; omega) (Nat.le_refl _) ?_; intro w1 ho hg)
  have D1 : Below wq.heap.size wq w1 := (Below.refl _ _).grown hg (Nat.le_refl _) (by intro k hk; cases hk)
  have M0 : Mrw w1 wq.heap.size 4 NN (fun _ => .bool false) NN := Mrw.ofFull ho (fun j hj => by rw [Nat.mul_one]; show (madeCells #[Value.bool false] NN).toList[j]? = _; rw [toList_madeCells_one, List.getElem?_replicate, if_pos hj])
  obtain ⟨gq, hgq⟩ : ∃ x, W0.heap.size = x := ⟨_, rfl⟩
  obtain ⟨g, hgg⟩ : ∃ x, wq.heap.size = x := ⟨_, rfl⟩
  have HG := hide (show gq = w.heap.size + 2 ∧ g = w.heap.size + 3 by have := H2.out.2.2.2; have := HQ1.out.2.2; omega)
  have D01 := HQ1.out.1.trans (D1.mono HQ1.out.1.size)
  have HS := hide (And.intro (blk_on H2.out.2.1 D01) (And.intro (blk_on H2.out.2.2.1 D01) (And.intro (blk_on HQ1.out.2.1 D1) (And.intro M0 (H2.out.1.trans (D01.mono H2.out.1.size))))))
  rw [hgq, hgg] at HS ⊢
  clear D1 M0 D01 ho hg HQ1 hgq hgg x0 y0 hi4 hz40 hz41 hz42 ew1
  have x0 : w1.cell? ⟨w.heap.size + 1, 0, none⟩ = some (.int .i64 (N2 : Int)) := cell_of HS.out.2.1 rfl
  obtain ⟨uz, cz⟩ := HS.out.2.2.2.1.cell k1 (by omega)
  have fz := HS.out.2.2.2.1.fz k1
  go_upto_region 4 with fail
  obtain ⟨W3, hW3⟩ : ∃ W, w1.setCell ⟨g, k1, none⟩ (.bool true) = W := ⟨_, rfl⟩
  rw [hW3]
  have J0 : Hid (ApI w N1 N2 NN M p q g #[.int .i64 (N1 : Int), .int .i64 (M : Int), .int .i64 z1, .slice aF1 lF1 cF1, .slice aX1 lX1 cX1] #[.int .i64 (N2 : Int), .int .i64 (M : Int), .int .i64 z2, .slice aF2 lF2 cF2, .slice aX2 lX2 cX2] F1 X1 F2 X2 (0 * M) 0 W3 (.slice (some ⟨gq, 0, none⟩) 1 1) [((p, q), .slice none 0 0)] []) := hide (by
    rw [← hW3, ← HK.out.2.2.1, ← HK.out.2.1]
    have O := only_set w1 g (p * N2 + q) (.bool true)
    have hgg := HG.out
    refine ⟨apS_first HS.out.1 HS.out.2.1 HS.out.2.2.1 (by omega) (by omega) (by omega) (by omega) HS.out.2.2.2.1 (fun _ _ => rfl) HK.out.2.2.2.2.1, (Wk.one _ _ _).more (Nat.zero_le _), by rw [Nat.zero_mul]; exact Cv.nil _ _ _ _, by simp, fun x hx => ?_, fun j hj => absurd hj (Nat.not_lt_zero _), HS.out.2.2.2.2.trans (O.toBelow HS.out.2.2.2.2.size (fun k hk => by omega))⟩
    obtain rfl : x = (p, q) := by simpa using hx
    exact ⟨HK.out.2.2.2.1, HK.out.2.2.2.2.1⟩)
  clear HS hW3 x0 cz fz ew2 ew3 v1 v2
  go_wp2_with fail
  go_loopw [10, 12] (fun vq iv wr => ∃ (i : Nat) (bq : Option Addr) (cq : Nat) (L : List ((Nat × Nat) × Value)) (K : List Nat), i ≤ L.length ∧ vq = .slice bq L.length cq ∧ iv = .int .i64 (i : Int) ∧ Hid (ApI w N1 N2 NN M p q g #[.int .i64 (N1 : Int), .int .i64 (M : Int), .int .i64 z1, .slice aF1 lF1 cF1, .slice aX1 lX1 cX1] #[.int .i64 (N2 : Int), .int .i64 (M : Int), .int .i64 z2, .slice aF2 lF2 cF2, .slice aX2 lX2 cX2] F1 X1 F2 X2 (i * M) i wr (.slice bq L.length cq) L K)) (fun _ iv _ => NN - (intOf iv).toNat)
  case atStart => exact ⟨0, some ⟨gq, 0, none⟩, 1, [((p, q), .slice none 0 0)], [], Nat.zero_le _, rfl, rfl, J0⟩
  case round =>
    clear J0
    obtain ⟨i, bq, cq, L, K, hi, rfl, rfl, HY⟩ := hrel
    have hLn : L.length ≤ NN := by have := pair_le HY.out.nd HY.out.rg; rw [HK.out.1, List.length_map] at this; exact this
    by_cases hlt : i < L.length
    · have l0 : (i : Int) < (L.length : Int) := by omega
      have l1 : (0 : Int) ≤ (i : Int) := by omega
      obtain ⟨⟨⟨p1, q1⟩, wv⟩, hel⟩ : ∃ x, L[i] = x := ⟨_, rfl⟩
      obtain ⟨_, rd⟩ := owQ_rd HY.out.a.q
      obtain ⟨gv, ov, rfl, c0, c1, c2⟩ := rd i hlt
      rw [hel] at c0 c1 c2
      have ow := HY.out.a.wd i hlt
      rw [hel] at ow
      obtain ⟨nw, hnw⟩ : ∃ l, (wdK M K i).length = l := ⟨_, rfl⟩
      obtain ⟨bw, cw, hwv⟩ : ∃ b c, wv = .slice b nw c := by obtain ⟨b, c, z⟩ := own_slice ow; exact ⟨b, c, by rw [← hnw]; exact z⟩
      subst hwv
      have c0 : wr.cell? ⟨gv, ov + i * 3, none⟩ = some (.int .i64 (p1 : Int)) := c0
      have c1 : wr.cell? ⟨gv, ov + i * 3 + 1, none⟩ = some (.int .i64 (q1 : Int)) := c1
      have c2 : wr.cell? ⟨gv, ov + i * 3 + 2, none⟩ = some (.slice bw nw cw) := c2
      have hT : (L.map Prod.fst)[i]? = some (p1, q1) := by rw [List.getElem?_map, List.getElem?_eq_getElem hlt, hel]; rfl
      have hrg := HY.out.rg (p1, q1) (List.mem_of_getElem? hT)
      have HEL := hide (And.intro hT (And.intro hrg (And.intro hnw (And.intro hlt hLn))))
      clear rd hel hnw hT hrg hi hLn
      go_upto_region 8 with fail
      obtain ⟨xb, hxb⟩ : ∃ x, wr.heap.size = x := ⟨_, rfl⟩
      obtain ⟨w2, hw2⟩ : ∃ W, wr.alloc (.cells #[.int .i64 (p1 : Int), .int .i64 (q1 : Int), .slice bw nw cw] 103) = W := ⟨_, rfl⟩
      rw [hw2]
      try rw [hxb]
      have D2 : Below wr.heap.size wr w2 := by rw [← hw2]; exact (Below.refl _ _).alloc (Nat.le_refl _) _
      have HE := hide (show w2.heap[xb]? = some (.cells #[.int .i64 (p1 : Int), .int .i64 (q1 : Int), .slice bw nw cw] 103 (0, 0)) ∧ ApI w N1 N2 NN M p q g #[.int .i64 (N1 : Int), .int .i64 (M : Int), .int .i64 z1, .slice aF1 lF1 cF1, .slice aX1 lX1 cX1] #[.int .i64 (N2 : Int), .int .i64 (M : Int), .int .i64 z2, .slice aF2 lF2 cF2, .slice aX2 lX2 cX2] F1 X1 F2 X2 (i * M) i w2 (.slice (some ⟨gv, ov, none⟩) L.length cq) L K ∧ OwI w2 w.heap.size (.slice bw nw cw) (wdK M K i) ∧ (Value.slice (some ⟨gv, ov, none⟩) L.length cq).ownBlock ≠ some xb from ⟨by rw [← hw2, ← hxb]; exact World.alloc_heap_new _ _, HY.out.on D2, own_below ow D2, fun e => by have z := (HY.out.a.q.lt xb e).2; omega⟩)
      clear hw2 hxb D2 HY ow c0 c1 c2 l0 l1
      obtain ⟨f1, hf1⟩ : ∃ x, inF F1 p1 = x := ⟨_, rfl⟩
      obtain ⟨f2, hf2⟩ : ∃ x, inF F2 q1 = x := ⟨_, rfl⟩
      obtain ⟨dd9, hd9⟩ : ∃ x, (f1 != f2) = x := ⟨_, rfl⟩
      have HD9 := hide hd9
      have HDF := hide (show dfB F1 F2 (p1, q1) = dd9 by unfold dfB; rw [hf1, hf2]; exact hd9)
      have TI1 : Hid (∀ W, Below w2.heap.size w2 W → Calls Try.prog 49 #[.slice aF1 lF1 cF1, .int .i64 (p1 : Int)] W fun e w' => e = .returned (.bool f1) ∧ Below W.heap.size W w') := hide (fun W d => (in_any W aF1 lF1 cF1 F1 (p1 : Int) ((HF.out.1.on HE.out.2.1.d).on d) HB.out.1 HB.out.2.2.2.2.2.2.2.2.1).mono (fun e w' h => ⟨by rw [h.1, ← hf1]; rfl, by rw [h.2]; exact Below.refl _ _⟩))
      have TI2 : Hid (∀ W, Below w2.heap.size w2 W → Calls Try.prog 49 #[.slice aF2 lF2 cF2, .int .i64 (q1 : Int)] W fun e w' => e = .returned (.bool f2) ∧ Below W.heap.size W w') := hide (fun W d => (in_any W aF2 lF2 cF2 F2 (q1 : Int) ((HF.out.2.2.1.on HE.out.2.1.d).on d) HB.out.2.2.1 HB.out.2.2.2.2.2.2.2.2.2.1).mono (fun e w' h => ⟨by rw [h.1, ← hf2]; rfl, by rw [h.2]; exact Below.refl _ _⟩))
      clear hf1 hf2 hd9
      have hmo : MonIL 0 [vI 0 (.pointer (some ⟨w.heap.size, 3, none⟩)), vI 1 (.slice aF1 lF1 cF1), vI 2 (.pointer (some ⟨xb, 0, none⟩)), vI 3 (.int .i64 (p1 : Int)), vI 4 (.bool f1), vI 5 (.pointer (some ⟨w.heap.size + 1, 3, none⟩)), vI 6 (.slice aF2 lF2 cF2), vI 7 (.pointer (some ⟨xb, 1, none⟩)), vI 8 (.int .i64 (q1 : Int)), vI 9 (.bool f2), vI 10 (.bool dd9)] := ⟨vI_mono _ _, vI_mono _ _, vI_mono _ _, vI_mono _ _, vI_mono _ _, vI_mono _ _, vI_mono _ _, vI_mono _ _, vI_mono _ _, vI_mono _ _, vI_mono _ _, trivial⟩
      refine wp_region_sl [vI 0 (.pointer (some ⟨w.heap.size, 3, none⟩)), vI 1 (.slice aF1 lF1 cF1), vI 2 (.pointer (some ⟨xb, 0, none⟩)), vI 3 (.int .i64 (p1 : Int)), vI 4 (.bool f1), vI 5 (.pointer (some ⟨w.heap.size + 1, 3, none⟩)), vI 6 (.slice aF2 lF2 cF2), vI 7 (.pointer (some ⟨xb, 1, none⟩)), vI 8 (.int .i64 (q1 : Int)), vI 9 (.bool f2), vI 10 (.bool dd9)] (by kernel_rfl) (by kernel_rfl) (by kernel_rfl) (by kernel_rfl) hmo ⟨?o0, ?o1, ?o2, ?o3, ?o4, ?o5, ?o6, ?o7, ?o8, ?o9, ?o10, trivial⟩ ?fin
      case o0 =>
        intro At yy W hy hb d hd K hK
        have s4 : At.tmps.getD 4 undef = .pointer (some ⟨w.heap.size, 0, none⟩) := hb 4 rfl
        have s4' := s4
        rw [Array.getD_eq_getD_getElem?] at s4'
        clear hd hy hb
        go_simp
        exact hK.out _ W (stp_of hmo d (Below.refl _ _)) (if_pos rfl)
      case o1 =>
        intro At yy W hy hb d hd K hK
        have e0 : yy 0 = .pointer (some ⟨w.heap.size, 3, none⟩) := by obtain ⟨_, _, _, _, e⟩ := hd ⟨0, .data⟩ (by simp) rfl rfl; exact e
        have s45 := (hy 0 _ 45 rfl rfl).trans e0
        have s45' := s45
        rw [Array.getD_eq_getD_getElem?] at s45'
        clear hd hy hb
        have y3 : W.cell? ⟨w.heap.size, 3, none⟩ = some (.slice aF1 lF1 cF1) := cell_of (blk_on HE.out.2.1.a.b1 d) rfl
        go_simp
        exact hK.out _ W (stp_of hmo d (Below.refl _ _)) (if_pos rfl)
      case o2 =>
        intro At yy W hy hb d hd K hK
        have s13 : At.tmps.getD 13 undef = .pointer (some ⟨xb, 0, none⟩) := hb 13 rfl
        have s13' := s13
        rw [Array.getD_eq_getD_getElem?] at s13'
        clear hd hy hb
        go_simp
        exact hK.out _ W (stp_of hmo d (Below.refl _ _)) (if_pos rfl)
      case o3 =>
        intro At yy W hy hb d hd K hK
        have e2 : yy 2 = .pointer (some ⟨xb, 0, none⟩) := by obtain ⟨_, _, _, _, e⟩ := hd ⟨2, .data⟩ (by simp) rfl rfl; exact e
        have s47 := (hy 2 _ 47 rfl rfl).trans e2
        have s47' := s47
        rw [Array.getD_eq_getD_getElem?] at s47'
        clear hd hy hb
        have yx0 : W.cell? ⟨xb, 0, none⟩ = some (.int .i64 (p1 : Int)) := cell_of (blk_on HE.out.1 d) rfl
        go_simp
        exact hK.out _ W (stp_of hmo d (Below.refl _ _)) (if_pos rfl)
      case o4 =>
        intro At yy W hy hb d hd K hK
        have e1 : yy 1 = .slice aF1 lF1 cF1 := by obtain ⟨_, _, _, _, e⟩ := hd ⟨1, .data⟩ (by simp) rfl rfl; exact e
        have e3 : yy 3 = .int .i64 (p1 : Int) := by obtain ⟨_, _, _, _, e⟩ := hd ⟨3, .data⟩ (by simp) rfl rfl; exact e
        have s46 := (hy 1 _ 46 rfl rfl).trans e1
        have s46' := s46
        rw [Array.getD_eq_getD_getElem?] at s46'
        have s48 := (hy 3 _ 48 rfl rfl).trans e3
        have s48' := s48
        rw [Array.getD_eq_getD_getElem?] at s48'
        clear hd hy hb
        go_simp
        go_wp2_with (go_at_call 49; refine (TI1.out _ d).mono ?_; rintro e wa ⟨rfl, da⟩)
        exact hK.out _ wa (stp_of hmo d da) (if_pos rfl)
      case o5 =>
        intro At yy W hy hb d hd K hK
        have s5 : At.tmps.getD 5 undef = .pointer (some ⟨w.heap.size + 1, 0, none⟩) := hb 5 rfl
        have s5' := s5
        rw [Array.getD_eq_getD_getElem?] at s5'
        clear hd hy hb
        go_simp
        exact hK.out _ W (stp_of hmo d (Below.refl _ _)) (if_pos rfl)
      case o6 =>
        intro At yy W hy hb d hd K hK
        have e5 : yy 5 = .pointer (some ⟨w.heap.size + 1, 3, none⟩) := by obtain ⟨_, _, _, _, e⟩ := hd ⟨5, .data⟩ (by simp) rfl rfl; exact e
        have s50 := (hy 5 _ 50 rfl rfl).trans e5
        have s50' := s50
        rw [Array.getD_eq_getD_getElem?] at s50'
        clear hd hy hb
        have y4 : W.cell? ⟨w.heap.size + 1, 3, none⟩ = some (.slice aF2 lF2 cF2) := cell_of (blk_on HE.out.2.1.a.b2 d) rfl
        go_simp
        exact hK.out _ W (stp_of hmo d (Below.refl _ _)) (if_pos rfl)
      case o7 =>
        intro At yy W hy hb d hd K hK
        have s13 : At.tmps.getD 13 undef = .pointer (some ⟨xb, 0, none⟩) := hb 13 rfl
        have s13' := s13
        rw [Array.getD_eq_getD_getElem?] at s13'
        clear hd hy hb
        go_simp
        exact hK.out _ W (stp_of hmo d (Below.refl _ _)) (if_pos rfl)
      case o8 =>
        intro At yy W hy hb d hd K hK
        have e7 : yy 7 = .pointer (some ⟨xb, 1, none⟩) := by obtain ⟨_, _, _, _, e⟩ := hd ⟨7, .data⟩ (by simp) rfl rfl; exact e
        have s52 := (hy 7 _ 52 rfl rfl).trans e7
        have s52' := s52
        rw [Array.getD_eq_getD_getElem?] at s52'
        clear hd hy hb
        have yx1 : W.cell? ⟨xb, 1, none⟩ = some (.int .i64 (q1 : Int)) := cell_of (blk_on HE.out.1 d) rfl
        go_simp
        exact hK.out _ W (stp_of hmo d (Below.refl _ _)) (if_pos rfl)
      case o9 =>
        intro At yy W hy hb d hd K hK
        have e6 : yy 6 = .slice aF2 lF2 cF2 := by obtain ⟨_, _, _, _, e⟩ := hd ⟨6, .data⟩ (by simp) rfl rfl; exact e
        have e8 : yy 8 = .int .i64 (q1 : Int) := by obtain ⟨_, _, _, _, e⟩ := hd ⟨8, .data⟩ (by simp) rfl rfl; exact e
        have s51 := (hy 6 _ 51 rfl rfl).trans e6
        have s51' := s51
        rw [Array.getD_eq_getD_getElem?] at s51'
        have s53 := (hy 8 _ 53 rfl rfl).trans e8
        have s53' := s53
        rw [Array.getD_eq_getD_getElem?] at s53'
        clear hd hy hb
        go_simp
        go_wp2_with (go_at_call 49; refine (TI2.out _ d).mono ?_; rintro e wa ⟨rfl, da⟩)
        exact hK.out _ wa (stp_of hmo d da) (if_pos rfl)
      case o10 =>
        intro At yy W hy hb d hd K hK
        have e4 : yy 4 = .bool f1 := by obtain ⟨_, _, _, _, e⟩ := hd ⟨4, .data⟩ (by simp) rfl rfl; exact e
        have e9 : yy 9 = .bool f2 := by obtain ⟨_, _, _, _, e⟩ := hd ⟨9, .data⟩ (by simp) rfl rfl; exact e
        have hbb : (!f1 == f2) = dd9 := HD9.out
        have s49 := (hy 4 _ 49 rfl rfl).trans e4
        have s49' := s49
        rw [Array.getD_eq_getD_getElem?] at s49'
        have s54 := (hy 9 _ 54 rfl rfl).trans e9
        have s54' := s54
        rw [Array.getD_eq_getD_getElem?] at s54'
        clear hd hy hb
        go_simp
        exact hK.out _ W (stp_of hmo d (Below.refl _ _)) (if_pos rfl)
      case fin =>
        intro yy lo hi W hM
        show wpList _ _ _ [] _ _
        have e0 : yy 0 = .pointer (some ⟨w.heap.size, 3, none⟩) := hM.fact 0 (by simp) rfl (notR_all 0 rfl)
        have e1 : yy 1 = .slice aF1 lF1 cF1 := hM.fact 1 (by simp) rfl (notR_all 1 rfl)
        have e2 : yy 2 = .pointer (some ⟨xb, 0, none⟩) := hM.fact 2 (by simp) rfl (notR_all 2 rfl)
        have e3 : yy 3 = .int .i64 (p1 : Int) := hM.fact 3 (by simp) rfl (notR_all 3 rfl)
        have e4 : yy 4 = .bool f1 := hM.fact 4 (by simp) rfl (notR_all 4 rfl)
        have e5 : yy 5 = .pointer (some ⟨w.heap.size + 1, 3, none⟩) := hM.fact 5 (by simp) rfl (notR_all 5 rfl)
        have e6 : yy 6 = .slice aF2 lF2 cF2 := hM.fact 6 (by simp) rfl (notR_all 6 rfl)
        have e7 : yy 7 = .pointer (some ⟨xb, 1, none⟩) := hM.fact 7 (by simp) rfl (notR_all 7 rfl)
        have e8 : yy 8 = .int .i64 (q1 : Int) := hM.fact 8 (by simp) rfl (notR_all 8 rfl)
        have e9 : yy 9 = .bool f2 := hM.fact 9 (by simp) rfl (notR_all 9 rfl)
        have e10 : yy 10 = .bool dd9 := hM.fact 10 (by simp) rfl (notR_all 10 rfl)
        have dd := hM.d
        simp only [fills, Act.put, List.take, List.length, List.setIfInBounds_toArray, List.set_cons_zero, List.set_cons_succ, e0, e1, e2, e3, e4, e5, e6, e7, e8, e9, e10]
        clear hM hmo e0 e1 e2 e3 e4 e5 e6 e7 e8 e9 e10 TI1 TI2
        have HE := hide (show W.heap[xb]? = some (.cells #[.int .i64 (p1 : Int), .int .i64 (q1 : Int), .slice bw nw cw] 103 (0, 0)) ∧ ApI w N1 N2 NN M p q g #[.int .i64 (N1 : Int), .int .i64 (M : Int), .int .i64 z1, .slice aF1 lF1 cF1, .slice aX1 lX1 cX1] #[.int .i64 (N2 : Int), .int .i64 (M : Int), .int .i64 z2, .slice aF2 lF2 cF2, .slice aX2 lX2 cX2] F1 X1 F2 X2 (i * M) i W (.slice (some ⟨gv, ov, none⟩) L.length cq) L K ∧ OwI W w.heap.size (.slice bw nw cw) (wdK M K i) ∧ (Value.slice (some ⟨gv, ov, none⟩) L.length cq).ownBlock ≠ some xb from ⟨blk_on HE.out.1 dd, HE.out.2.1.on dd, own_below HE.out.2.2.1 dd, HE.out.2.2.2⟩)
        clear dd HD9
        cases dd9 with
        | true =>
          have y2 : W.cell? ⟨xb, 2, none⟩ = some (.slice bw nw cw) := cell_of HE.out.1 rfl
          go_wp2_with fail
          go_ret2
          refine ⟨bw, nw, cw, true, rfl, hide ⟨HE.out.2.1.d, (fun _ => ⟨wnK M K i, ?_, ?_⟩), fun h => by cases h⟩⟩
          · show OwI _ _ _ ((wnK M K i).map _)
            rw [wnK_map]
            exact HE.out.2.2.1
          · have hiT : i < (L.map Prod.fst).length := by rw [List.length_map]; exact HEL.out.2.2.2.1
            refine ap_told HE.out.2.1.wk HE.out.2.1.cv hiT HE.out.2.1.df ?_
            have e := HEL.out.1
            rw [List.getElem?_eq_getElem hiT] at e
            injection e with e
            rw [e]
            exact HDF.out
        | false =>
          have HDF2 := HDF
          obtain ⟨hT, hrg, hnw, hlt0, hLn0⟩ := HEL.out
          have hi0 : i < L.length := hlt0
          have hKL : i ≤ K.length := by have := HE.out.2.1.wk.l; rw [List.length_map] at this; omega
          have J1 : Hid (W.heap[xb]? = some (.cells #[.int .i64 (p1 : Int), .int .i64 (q1 : Int), .slice bw nw cw] 103 (0, 0)) ∧ ApI w N1 N2 NN M p q g #[.int .i64 (N1 : Int), .int .i64 (M : Int), .int .i64 z1, .slice aF1 lF1 cF1, .slice aX1 lX1 cX1] #[.int .i64 (N2 : Int), .int .i64 (M : Int), .int .i64 z2, .slice aF2 lF2 cF2, .slice aX2 lX2 cX2] F1 X1 F2 X2 (i * M + 0) (i + 1) W (.slice (some ⟨gv, ov, none⟩) L.length cq) L K ∧ OwI W w.heap.size (.slice bw nw cw) (wdK M K i) ∧ (L.map Prod.fst)[i]? = some (p1, q1) ∧ (Value.slice (some ⟨gv, ov, none⟩) L.length cq).ownBlock ≠ some xb) := hide ⟨HE.out.1, ⟨HE.out.2.1.a, HE.out.2.1.wk, HE.out.2.1.cv, HE.out.2.1.nd, HE.out.2.1.rg, fun j hj x hx => by
            by_cases e : j = i
            · subst e
              rw [hT] at hx
              injection hx with hx
              rw [← hx]
              exact HDF.out
            · exact HE.out.2.1.df j (by omega) x hx, HE.out.2.1.d⟩, HE.out.2.2.1, hT, HE.out.2.2.2⟩
          have HPR := hide hrg
          clear hT hrg hnw hlt0 hLn0 HE HEL HDF HDF2
          go_wp2_with fail
          go_loopw [10, 14] (fun vq kv wr => ∃ (k : Nat) (bq : Option Addr) (cq : Nat) (L : List ((Nat × Nat) × Value)) (K : List Nat), k ≤ M ∧ i < L.length ∧ i ≤ K.length ∧ vq = .slice bq L.length cq ∧ kv = .int .i64 (k : Int) ∧ Hid (wr.heap[xb]? = some (.cells #[.int .i64 (p1 : Int), .int .i64 (q1 : Int), .slice bw nw cw] 103 (0, 0)) ∧ ApI w N1 N2 NN M p q g #[.int .i64 (N1 : Int), .int .i64 (M : Int), .int .i64 z1, .slice aF1 lF1 cF1, .slice aX1 lX1 cX1] #[.int .i64 (N2 : Int), .int .i64 (M : Int), .int .i64 z2, .slice aF2 lF2 cF2, .slice aX2 lX2 cX2] F1 X1 F2 X2 (i * M + k) (i + 1) wr (.slice bq L.length cq) L K ∧ OwI wr w.heap.size (.slice bw nw cw) (wdK M K i) ∧ (L.map Prod.fst)[i]? = some (p1, q1) ∧ (Value.slice bq L.length cq).ownBlock ≠ some xb)) (fun _ kv _ => M - (intOf kv).toNat)
          case atStart => exact ⟨0, some ⟨gv, ov, none⟩, cq, L, K, Nat.zero_le _, hi0, hKL, rfl, rfl, J1⟩
          case round =>
            clear J1 hi0 hKL
            obtain ⟨k, bq, cq, L, K, hk, hiL, hiK, rfl, rfl, HY⟩ := hrel
            have yM : wr.cell? ⟨w.heap.size, 1, none⟩ = some (.int .i64 (M : Int)) := cell_of HY.out.2.1.a.b1 rfl
            by_cases hkM : k < M
            · have l0 : (k : Int) < (M : Int) := by omega
              obtain ⟨h1, e1, r1⟩ := dl_spec HB.out.2.2.2.2.1 HB.out.2.2.2.2.2.2.1 HPR.out.1 hkM
              obtain ⟨h2, e2, r2⟩ := dl_spec HB.out.2.2.2.2.2.1 HB.out.2.2.2.2.2.2.2.1 HPR.out.2 hkM
              obtain ⟨ga, oa, ea, ca⟩ := (HF.out.2.1.on HY.out.2.1.d) _ h1
              obtain ⟨gb, ob, eb, cb⟩ := (HF.out.2.2.2.on HY.out.2.1.d) _ h2
              rw [e1] at ca
              rw [e2] at cb
              have hl1 : p1 * M + k < lX1 := by rw [← HB.out.2.1]; exact h1
              have hl2 : q1 * M + k < lX2 := by rw [← HB.out.2.2.2.1]; exact h2
              have hm1 : p1 * M ≤ 4096 * 128 := Nat.mul_le_mul (by have := HPR.out.1; have := HB.out.2.2.2.2.2.2.2.2.2.2.1; omega) HB.out.2.2.2.2.2.2.2.2.2.2.2.2
              have hm2 : q1 * M ≤ 4096 * 128 := Nat.mul_le_mul (by have := HPR.out.2; have := HB.out.2.2.2.2.2.2.2.2.2.2.2.1; omega) HB.out.2.2.2.2.2.2.2.2.2.2.2.2
              have hMM : M ≤ 128 := HB.out.2.2.2.2.2.2.2.2.2.2.2.2
              obtain ⟨p2, hp2⟩ : ∃ x, dl X1 M p1 k = x := ⟨_, rfl⟩
              obtain ⟨q2, hq2⟩ : ∃ x, dl X2 M q1 k = x := ⟨_, rfl⟩
              rw [hp2] at ca r1
              rw [hq2] at cb r2
              have hst : st2 X1 X2 M (p1, q1) k = (p2, q2) := by unfold st2; rw [hp2, hq2]
              have hs4 : p2 * N2 + q2 < N1 * N2 := place_lt r1 r2
              obtain ⟨m1, hm1e⟩ : ∃ x, p1 * M = x := ⟨_, rfl⟩
              obtain ⟨m2, hm2e⟩ : ∃ x, q1 * M = x := ⟨_, rfl⟩
              obtain ⟨m3, hm3e⟩ : ∃ x, p2 * N2 = x := ⟨_, rfl⟩
              obtain ⟨a1, ha1⟩ : ∃ x, m1 + k = x := ⟨_, rfl⟩
              obtain ⟨a2, ha2⟩ : ∃ x, m2 + k = x := ⟨_, rfl⟩
              obtain ⟨a3, ha3⟩ : ∃ x, m3 + q2 = x := ⟨_, rfl⟩
              rw [hm1e, ha1] at ca hl1
              rw [hm2e, ha2] at cb hl2
              have hNN := HK.out.2.2.2.2.2
              have hNe := HK.out.1
              have w1e : IntKind.i64.wrap ((p1 : Int) * (M : Int)) = (m1 : Int) := by rw [show (p1 : Int) * (M : Int) = ((p1 * M : Nat) : Int) by simp, IntKind.wrap_i64]; omega
              have w2e : IntKind.i64.wrap ((q1 : Int) * (M : Int)) = (m2 : Int) := by rw [show (q1 : Int) * (M : Int) = ((q1 * M : Nat) : Int) by simp, IntKind.wrap_i64]; omega
              have w3e : IntKind.i64.wrap ((p2 : Int) * (N2 : Int)) = (m3 : Int) := by rw [show (p2 : Int) * (N2 : Int) = ((p2 * N2 : Nat) : Int) by simp, IntKind.wrap_i64]; omega
              have w4e : IntKind.i64.wrap ((m1 : Int) + (k : Int)) = (a1 : Int) := by rw [IntKind.wrap_i64]; omega
              have w5e : IntKind.i64.wrap ((m2 : Int) + (k : Int)) = (a2 : Int) := by rw [IntKind.wrap_i64]; omega
              have w6e : IntKind.i64.wrap ((m3 : Int) + (q2 : Int)) = (a3 : Int) := by rw [IntKind.wrap_i64]; omega
              have b1 : (0 : Int) ≤ (a1 : Int) := by omega
              have b2 : (a1 : Int) < (lX1 : Int) := by omega
              have b3 : (0 : Int) ≤ (a2 : Int) := by omega
              have b4 : (a2 : Int) < (lX2 : Int) := by omega
              have b5 : (0 : Int) ≤ (a3 : Int) := by omega
              have b6 : (a3 : Int) < (NN : Int) := by omega
              have hdm : (i * M + k) / M = i ∧ (i * M + k) % M = k := ⟨by rw [Nat.mul_comm, Nat.mul_add_div (by omega), Nat.div_eq_of_lt hkM]; omega, by rw [Nat.mul_comm, Nat.mul_add_mod, Nat.mod_eq_of_lt hkM]⟩
              have H3 := hide (show p2 * N2 + q2 = a3 ∧ st2 X1 X2 M (p1, q1) k = (p2, q2) ∧ p2 < N1 ∧ q2 < N2 ∧ (i * M + k) / M = i ∧ (i * M + k) % M = k from ⟨by omega, hst, r1, r2, hdm.1, hdm.2⟩)
              have hseen := HY.out.2.1.a.s.at a3 (by omega)
              have hpa := (pair_at (N2 := N2) (a := p2) (c := a3) r2).2 (by omega)
              simp only [hpa] at hseen
              have fz := HY.out.2.1.a.s.fz a3
              have yx0 : wr.cell? ⟨xb, 0, none⟩ = some (.int .i64 (p1 : Int)) := cell_of HY.out.1 rfl
              have yx1 : wr.cell? ⟨xb, 1, none⟩ = some (.int .i64 (q1 : Int)) := cell_of HY.out.1 rfl
              have yL1 : wr.cell? ⟨w.heap.size, 4, none⟩ = some (.slice aX1 lX1 cX1) := cell_of HY.out.2.1.a.b1 rfl
              have yL2 : wr.cell? ⟨w.heap.size + 1, 4, none⟩ = some (.slice aX2 lX2 cX2) := cell_of HY.out.2.1.a.b2 rfl
              have yM2 : wr.cell? ⟨w.heap.size + 1, 1, none⟩ = some (.int .i64 (M : Int)) := cell_of HY.out.2.1.a.b2 rfl
              have yN2 : wr.cell? ⟨w.heap.size + 1, 0, none⟩ = some (.int .i64 (N2 : Int)) := cell_of HY.out.2.1.a.b2 rfl
              rw [ea] at yL1
              rw [eb] at yL2
              clear h1 h2 e1 e2 r1 r2 ea eb hl1 hl2 hm1 hm2 hp2 hq2 hst hs4 hm1e hm2e hm3e ha1 ha2 ha3 hNN hNe hdm hpa
              by_cases hmem : (p2, q2) ∈ L.map Prod.fst
              · rw [decide_eq_true hmem] at hseen
                have HM := hide hmem
                clear hmem
                go_wp2_with fail
                go_roundw
                case rel =>
                  refine ⟨k + 1, bq, cq, L, K, by omega, hiL, hiK, rfl, by go_num, hide ⟨HY.out.1, ?_, HY.out.2.2⟩⟩
                  have hx : (L.map Prod.fst)[(i * M + k) / M]? = some (p1, q1) := by rw [H3.out.2.2.2.2.1]; exact HY.out.2.2.2.1
                  have hy : st2 X1 X2 M (p1, q1) ((i * M + k) % M) ∈ L.map Prod.fst := by rw [H3.out.2.2.2.2.2, H3.out.2.1]; exact HM.out
                  exact HY.out.2.1.old hx hy
                case measure => simp [intOf]; omega
              · rw [decide_eq_false hmem] at hseen
                have HM := hide hmem
                clear hmem
                go_upto_region 17 with fail
                clear yx0 yx1 yL1 yL2 yM2 yN2 hseen fz ca cb w1e w2e w3e w4e w5e w6e b1 b2 b3 b4 b5 b6 yM
                obtain ⟨wa, hwa⟩ : ∃ W, wr.setCell ⟨g, a3, none⟩ (.bool true) = W := ⟨_, rfl⟩
                rw [hwa]
                obtain ⟨gcs, hgb⟩ := HY.out.2.1.a.s.blk
                have O1 := only_set wr g a3 (.bool true)
                rw [hwa] at O1
                have swa : wa.heap.size = wr.heap.size := by rw [← hwa]; simp [World.setCell]
                have X2 : wa.heap[xb]? = some (.cells #[.int .i64 (p1 : Int), .int .i64 (q1 : Int), .slice bw nw cw] 103 (0, 0)) := (O1.block xb (Array.getElem?_eq_some_iff.1 HY.out.1).1 (fun e => by subst e; rw [hgb] at HY; exact absurd HY.out.1 (by simp))).trans HY.out.1
                have ow : OwI wa w.heap.size (.slice bw nw cw) (wdK M K i) := row_only HY.out.2.2.1 O1 (fun k hk e => by subst e; exact row_tag HY.out.2.2.1 hgb (by decide) hk)
                have oq : OwQ wa w.heap.size (.slice bq L.length cq) L := row_only HY.out.2.1.a.q O1 (fun k hk e => by subst e; exact row_tag HY.out.2.1.a.q hgb (by decide) hk)
                have HWA := hide (And.intro hwa (And.intro O1 (And.intro swa (And.intro X2 (And.intro ow oq)))))
                have yx2 : wa.cell? ⟨xb, 2, none⟩ = some (.slice bw nw cw) := cell_of X2 rfl
                have hwl : (wdK M K i).length = nw := (owI_rd ow).1.symm
                have hnl : nw ≤ 16777215 := by
                  have z1 := wnK_len HY.out.2.1.wk.q i hiK
                  have z2 := pair_le HY.out.2.1.nd HY.out.2.1.rg
                  have z3 := HY.out.2.1.wk.l
                  have z4 := HK.out.2.2.2.2.2
                  rw [← hwl, ← wnK_map, List.length_map]
                  omega
                have T67 := longer_any wa bw (wdK M K i) cw nw (k : Int) (hide (owI_rd ow).2) hwl hnl
                have HLB := hide (show L.length ≤ 16777216 ∧ nw ≤ 16777215 from ⟨by have z2 := pair_le HY.out.2.1.nd HY.out.2.1.rg; have z4 := HK.out.2.2.2.2.2; rw [List.length_map] at z2; omega, hnl⟩)
                clear hwa O1 swa X2 ow oq hwl hgb hnl
                go_wp2_with (first | (go_at_call 67; refine T67.mono ?_; rintro e wb ⟨b5, c5, rfl, HV5⟩; clear yx2) | (at_builtin; refine wpList_append_own_at _ rfl _ _ _ rfl w.heap.size 103 i103 _ 3 40 Try.underlying104 HQI.out.1 HQI.out.2.1 HQI.out.2.2.1 HQI.out.2.2.2 rfl (by omega) (.slice bq L.length cq) L.length (L.flatMap encQ) rfl (own_below (own_below HWA.out.2.2.2.2.2 HV5.out.2) ((Below.refl _ _).alloc (Nat.le_refl _) _)) ⟨wb.heap.size, 0, none⟩ 1 1 [.int .i64 (p2 : Int), .int .i64 (q2 : Int), .slice b5 (nw + 1) c5] rfl rfl (three_cells (World.alloc_heap_new _ _)) (by simp [Value.oneCell']) (by unfold maxLen; have := HLB.out.1; omega) (by have := HLB.out.1; omega) (by have z1 := HY.out.2.1.d.size; have z2 := HWA.out.2.2.1; have z3 := HV5.out.2.size; simp; omega) ?_; intro v6 w6 ho hgr hnil hloc; have HO6 := hide (And.intro ho (And.intro hgr hloc)); clear ho hgr hnil hloc))
                obtain ⟨b6, c6, hv6⟩ := own_slice HO6.out.1
                subst hv6
                go_roundw
                case rel =>
                  have hx : (L.map Prod.fst)[(i * M + k) / M]? = some (p1, q1) := by rw [H3.out.2.2.2.2.1]; exact HY.out.2.2.2.1
                  have hy : st2 X1 X2 M (p1, q1) ((i * M + k) % M) = (p2, q2) := by rw [H3.out.2.2.2.2.2]; exact H3.out.2.1
                  have dW : Below wr.heap.size (wr.setCell ⟨g, p2 * N2 + q2, none⟩ (.bool true)) wb := by rw [H3.out.1, HWA.out.1, ← HWA.out.2.2.1]; exact HV5.out.2
                  have hv : OwI wb wr.heap.size (.slice b5 (nw + 1) c5) (wdK M K ((i * M + k) / M) ++ [(((i * M + k) % M : Nat) : Int)]) := by rw [H3.out.2.2.2.2.1, H3.out.2.2.2.2.2, ← HWA.out.2.2.1]; exact HV5.out.1
                  have hq : OwQ w6 w.heap.size (.slice b6 (L.length + 1) c6) (L ++ [((p2, q2), .slice b5 (nw + 1) c5)]) := by
                    unfold OwQ
                    rw [List.length_append, List.flatMap_append]
                    simpa [encQ] using HO6.out.1
                  have z := HY.out.2.1.put hx hy HM.out H3.out.2.2.1 H3.out.2.2.2.1 hiL dW hv (grown_only HO6.out.2.1) hq
                  have dA := (HV5.out.2.trans (((Below.refl _ _).alloc (Nat.le_refl _) (.cells #[.int .i64 (p2 : Int), .int .i64 (q2 : Int), .slice b5 (nw + 1) c5] 103)).mono HV5.out.2.size))
                  have X6 : (wb.alloc (.cells #[.int .i64 (p2 : Int), .int .i64 (q2 : Int), .slice b5 (nw + 1) c5] 103)).heap[xb]? = some (.cells #[.int .i64 (p1 : Int), .int .i64 (q1 : Int), .slice bw nw cw] 103 (0, 0)) := blk_on HWA.out.2.2.2.1 dA
                  have oq := own_below HWA.out.2.2.2.2.2 dA
                  have ow := own_below HWA.out.2.2.2.2.1 dA
                  refine ⟨k + 1, b6, c6, L ++ [((p2, q2), .slice b5 (nw + 1) c5)], K ++ [i * M + k], by omega, by rw [List.length_append]; omega, by rw [List.length_append]; omega, by rw [List.length_append]; rfl, by go_num, hide ⟨?_, ?_, ?_, ?_, ?_⟩⟩
                  · exact ((grown_only HO6.out.2.1).block xb (Array.getElem?_eq_some_iff.1 X6).1 (fun e => HY.out.2.2.2.2 e)).trans X6
                  · rw [List.length_append]
                    exact z
                  · rw [wdK_more HY.out.2.1.wk.q hiK]
                    exact only_row (grown_only HO6.out.2.1) oq ow (by decide)
                  · rw [List.map_append, List.getElem?_append_left (by rw [List.length_map]; omega)]
                    exact HY.out.2.2.2.1
                  · rw [List.length_append]
                    rcases HO6.out.2.2 with e | e
                    · intro h
                      exact HY.out.2.2.2.2 (e.symm.trans h)
                    · intro h
                      have h2 := e.symm.trans h
                      have z1 := (Array.getElem?_eq_some_iff.1 HWA.out.2.2.2.1).1
                      have z3 := HV5.out.2.size
                      simp at h2
                      omega
                case measure => simp [intOf]; omega
            · have l0 : ¬ (k : Int) < (M : Int) := by omega
              obtain rfl : k = M := by omega
              have hLn : L.length ≤ NN := by have := pair_le HY.out.2.1.nd HY.out.2.1.rg; rw [HK.out.1, List.length_map] at this; exact this
              have hN6 : NN ≤ 16777216 := by rw [← HK.out.1]; exact HK.out.2.2.2.2.2
              go_wp2_with fail
              go_roundw
              case rel =>
                refine ⟨i + 1, bq, cq, L, K, by omega, rfl, by go_num, hide ?_⟩
                have e : (i + 1) * k = i * k + k := Nat.succ_mul _ _
                rw [e]
                exact HY.out.2.1
              case measure => simp [intOf]; omega
    · have l0 : ¬ (i : Int) < (L.length : Int) := by omega
      obtain rfl : i = L.length := by omega
      clear hi hlt
      go_wp2_with fail
      go_ret2
      refine ⟨none, 0, 0, false, rfl, hide ⟨HY.out.d, (fun h => by cases h), fun _ => ⟨rfl, rfl, rfl, ?_⟩⟩⟩
      exact ap_none (T := L.map Prod.fst) (K := K) (by rw [List.length_map]; exact HY.out.wk) (by rw [List.length_map]; exact HY.out.cv) (fun j hj => HY.out.df j (by rw [List.length_map] at hj; exact hj))
/-! ### The reference: may it be? -/
set_option maxRecDepth 100000 in
set_option maxHeartbeats 4000000 in
/-- May the automaton be? -/
theorem maybe_any (w : World) (N M st : Int) (aF aN : Option Addr) (lF cF lN cN : Nat) (Fi Nx : List Int) (hF : RdN w aF Fi) (hN : RdN w aN Nx) (hlF : Fi.length = lF) (hlN : Nx.length = lN) (bF : lF ≤ 4194304) (bN : lN ≤ 4194304) :
    Calls Try.prog 46 #[.agg #[.int .i64 N, .int .i64 M, .int .i64 st, .slice aF lF cF, .slice aN lN cN]] w fun e w' => e = .returned (.bool (vd N M st Fi Nx)) ∧ Below w.heap.size w w' := by
  obtain ⟨W0, hW0⟩ : ∃ W0, w.alloc (.cells #[.int .i64 N, .int .i64 M, .int .i64 st, .slice aF lF cF, .slice aN lN cN] 24) = W0 := ⟨_, rfl⟩
  have d0 : Below w.heap.size w W0 := by rw [← hW0]; exact (Below.refl _ _).alloc (Nat.le_refl _) _
  have B0 : W0.heap[w.heap.size]? = some (.cells #[.int .i64 N, .int .i64 M, .int .i64 st, .slice aF lF cF, .slice aN lN cN] 24 (0, 0)) := by rw [← hW0]; exact World.alloc_heap_new _ _
  have k0 : W0.cell? ⟨w.heap.size, 0, none⟩ = some (.int .i64 N) := cell_of B0 rfl
  have k1 : W0.cell? ⟨w.heap.size, 1, none⟩ = some (.int .i64 M) := cell_of B0 rfl
  have k2 : W0.cell? ⟨w.heap.size, 2, none⟩ = some (.int .i64 st) := cell_of B0 rfl
  have k3 : W0.cell? ⟨w.heap.size, 3, none⟩ = some (.slice aF lF cF) := cell_of B0 rfl
  have k4 : W0.cell? ⟨w.heap.size, 4, none⟩ = some (.slice aN lN cN) := cell_of B0 rfl
  have HD := hide d0
  have H := hide (And.intro (hF.on d0) (And.intro (hN.on d0) (And.intro hlF hlN)))
  have HV : Hid (vd N M st Fi Nx = (decide (1 ≤ N) && decide (N ≤ 4096) && inB 129 M && inB N st && decide ((lN : Int) = N * M) && Nx.all (inB N) && Fi.all (inB N))) := hide (by subst hlN; rfl)
  generalize vd N M st Fi Nx = vv at *
  have B1 := hide B0
  clear B0
  have B0 := B1
  clear d0 B1 hF hN hlF hlN
  by_cases a1 : N < 1
  · have : vv = false := by rw [HV.out]; simp; omega
    subst this
    go_enter Try.func46, Try.ntmps46
    go_wp2
    go_ret
    exact ⟨rfl, HD.out⟩
  by_cases a2 : 4096 < N
  · have : vv = false := by rw [HV.out]; simp; omega
    subst this
    go_enter Try.func46, Try.ntmps46
    go_wp2
    go_ret
    exact ⟨rfl, HD.out⟩
  by_cases a3 : M < 0
  · have : vv = false := by rw [HV.out, show inB 129 M = false from inB_not.2 (by omega)]; simp
    subst this
    go_enter Try.func46, Try.ntmps46
    go_wp2
    go_ret
    exact ⟨rfl, HD.out⟩
  by_cases a4 : 128 < M
  · have : vv = false := by rw [HV.out, show inB 129 M = false from inB_not.2 (by omega)]; simp
    subst this
    go_enter Try.func46, Try.ntmps46
    go_wp2
    go_ret
    exact ⟨rfl, HD.out⟩
  by_cases a5 : st < 0
  · have : vv = false := by rw [HV.out, show inB N st = false from inB_not.2 (by omega)]; simp
    subst this
    go_enter Try.func46, Try.ntmps46
    go_wp2
    go_ret
    exact ⟨rfl, HD.out⟩
  by_cases a6 : N ≤ st
  · have : vv = false := by rw [HV.out, show inB N st = false from inB_not.2 (by omega)]; simp
    subst this
    go_enter Try.func46, Try.ntmps46
    go_wp2
    go_ret
    exact ⟨rfl, HD.out⟩
  have hw : IntKind.i64.wrap (N * M) = N * M := by
    have h1 : 0 ≤ N * M := Int.mul_nonneg (by omega) (by omega)
    have h2 : N * M ≤ 4096 * 129 := Int.mul_le_mul (by omega) (by omega) (by omega) (by omega)
    rw [IntKind.wrap_i64]; omega
  by_cases hl : (lN : Int) = N * M
  · have HV2 : Hid (vv = (Nx.all (inB N) && Fi.all (inB N))) := hide (by
      rw [HV.out, show inB 129 M = true from inB_iff.2 (by omega), show inB N st = true from inB_iff.2 (by omega), decide_eq_true (show 1 ≤ N by omega), decide_eq_true (show N ≤ 4096 by omega), decide_eq_true hl]
      simp)
    clear HV
    have HV := HV2
    clear HV2
    rw [← hl] at hw
    have a7 : st < N := by omega
    go_enter Try.func46, Try.ntmps46
    go_wp2_with fail
    clear hw hl a1 a2 a3 a4 a5 a6 a7 k0 k1 k2 k3 k4
    go_loopw [3] (fun iv wr => ∃ i : Nat, i ≤ lF ∧ iv = .int .i64 i ∧ Hid ((Fi.take i).all (inB N) = true ∧ Below W0.heap.size W0 wr)) (fun iv _ => lF - (intOf iv).toNat)
    case atStart => exact ⟨0, Nat.zero_le _, rfl, hide ⟨by simp, Below.refl _ _⟩⟩
    case round =>
      obtain ⟨i, hi, rfl, HY⟩ := hrel
      have x0 : wr.cell? ⟨w.heap.size, 0, none⟩ = some (.int .i64 N) := cell_of (blk_on B0.out HY.out.2) rfl
      have x3 : wr.cell? ⟨w.heap.size, 3, none⟩ = some (.slice aF lF cF) := cell_of (blk_on B0.out HY.out.2) rfl
      by_cases hlt : i < lF
      · have l0 : (i : Int) < (lF : Int) := by omega
        have l1 : (0 : Int) ≤ (i : Int) := by omega
        have hiA : i < Fi.length := by have := H.out.2.2.1; omega
        obtain ⟨g, o, rfl, ce⟩ := (H.out.1.on HY.out.2) i hiA
        by_cases hx : Fi[i] < 0 ∨ N ≤ Fi[i]
        · have hno : Fi.all (inB N) = false := by
            refine Bool.eq_false_iff.2 fun h => ?_
            have z := inB_iff.1 (List.all_eq_true.1 h _ (List.getElem_mem hiA))
            omega
          have : vv = false := by rw [HV.out, hno]; simp
          subst this
          clear hno
          generalize Fi[i] = x at *
          by_cases hx1 : x < 0
          · go_wp2_with fail
            go_quiet (fail)
            go_wp2
            go_ret
            exact ⟨rfl, HD.out.trans ((below_drewN2 HY.out.2 _).mono HD.out.size)⟩
          · have hx2 : N ≤ x := by omega
            go_wp2_with fail
            go_quiet (fail)
            go_wp2
            go_ret
            exact ⟨rfl, HD.out.trans ((below_drewN2 HY.out.2 _).mono HD.out.size)⟩
        · have hx1 : ¬ Fi[i] < 0 := by omega
          have hx2 : ¬ N ≤ Fi[i] := by omega
          have HX := hide (show (Fi.take (i + 1)).all (inB N) = true by
            rw [List.take_add_one, List.getElem?_eq_getElem hiA, List.all_append, HY.out.1]
            simp [inB]
            omega)
          clear hx
          generalize Fi[i] = x at *
          have hx3 : x < N := by omega
          go_wp2_with fail
          go_quiet (fail)
          go_wp2
          go_roundw
          case rel => exact ⟨i + 1, by omega, by go_num, hide ⟨HX.out, below_drewN2 HY.out.2 _⟩⟩
          case measure => simp [intOf]; omega
      · have l0 : ¬ (i : Int) < (lF : Int) := by omega
        obtain rfl : i = lF := by omega
        have ht := HY.out.1
        rw [List.take_of_length_le (by have := H.out.2.2.1; omega)] at ht
        have HT := hide ht
        clear ht
        go_wp2_with fail
        clear x0 x3 l0
        go_loopw [4] (fun iv wr => ∃ i : Nat, i ≤ lN ∧ iv = .int .i64 i ∧ Hid ((Nx.take i).all (inB N) = true ∧ Below W0.heap.size W0 wr)) (fun iv _ => lN - (intOf iv).toNat)
        case atStart => exact ⟨0, Nat.zero_le _, rfl, hide ⟨by simp, HY.out.2⟩⟩
        case round =>
          obtain ⟨i, hi, rfl, HY⟩ := hrel
          have x0 : wr.cell? ⟨w.heap.size, 0, none⟩ = some (.int .i64 N) := cell_of (blk_on B0.out HY.out.2) rfl
          have x4 : wr.cell? ⟨w.heap.size, 4, none⟩ = some (.slice aN lN cN) := cell_of (blk_on B0.out HY.out.2) rfl
          by_cases hlt : i < lN
          · have l0 : (i : Int) < (lN : Int) := by omega
            have l1 : (0 : Int) ≤ (i : Int) := by omega
            have hiA : i < Nx.length := by have := H.out.2.2.2; omega
            obtain ⟨g, o, rfl, ce⟩ := (H.out.2.1.on HY.out.2) i hiA
            by_cases hx : Nx[i] < 0 ∨ N ≤ Nx[i]
            · have hno : Nx.all (inB N) = false := by
                refine Bool.eq_false_iff.2 fun h => ?_
                have z := inB_iff.1 (List.all_eq_true.1 h _ (List.getElem_mem hiA))
                omega
              have : vv = false := by rw [HV.out, hno]; simp
              subst this
              clear hno
              generalize Nx[i] = x at *
              by_cases hx1 : x < 0
              · go_wp2_with fail
                go_quiet (fail)
                go_wp2
                go_ret
                exact ⟨rfl, HD.out.trans ((below_drewN2 HY.out.2 _).mono HD.out.size)⟩
              · have hx2 : N ≤ x := by omega
                go_wp2_with fail
                go_quiet (fail)
                go_wp2
                go_ret
                exact ⟨rfl, HD.out.trans ((below_drewN2 HY.out.2 _).mono HD.out.size)⟩
            · have hx1 : ¬ Nx[i] < 0 := by omega
              have hx2 : ¬ N ≤ Nx[i] := by omega
              have HX := hide (show (Nx.take (i + 1)).all (inB N) = true by
                rw [List.take_add_one, List.getElem?_eq_getElem hiA, List.all_append, HY.out.1]
                simp [inB]
                omega)
              clear hx
              generalize Nx[i] = x at *
              have hx3 : x < N := by omega
              go_wp2_with fail
              go_quiet (fail)
              go_wp2
              go_roundw
              case rel => exact ⟨i + 1, by omega, by go_num, hide ⟨HX.out, below_drewN2 HY.out.2 _⟩⟩
              case measure => simp [intOf]; omega
          · have l0 : ¬ (i : Int) < (lN : Int) := by omega
            obtain rfl : i = lN := by omega
            have ht := HY.out.1
            rw [List.take_of_length_le (by have := H.out.2.2.2; omega)] at ht
            have : vv = true := by rw [HV.out, HT.out, ht]; rfl
            subst this
            clear ht
            go_wp2
            go_ret
            exact ⟨rfl, HD.out.trans (HY.out.2.mono HD.out.size)⟩
  · have : vv = false := by rw [HV.out]; simp [hl]
    subst this
    have a7 : st < N := by omega
    go_enter Try.func46, Try.ntmps46
    go_wp2
    go_ret
    exact ⟨rfl, HD.out⟩
/-! ### Tell, and the reference -/
/-- The answer of a question for a list. -/
def LsA (w : World) (L : List Int) (er : Int) : Ending → World → Prop := fun e w' => ∃ b n c, e = .returned (.tuple #[.slice b n c, .int .i64 er]) ∧ Hid (OwI w' w.heap.size (.slice b n c) L ∧ Below w.heap.size w w')
def LsB (w : World) (L : List Int) (er : Int) : Ending → World → Prop := fun e w' => ∃ b n c, e = .returned (.tuple #[.slice b n c, .int .i64 er]) ∧ Hid (OwI w' w.heap.size (.slice b n c) L ∧ Below w.heap.size w w' ∧ L.length ≤ 8192)
open Classical in
/-- The least word that tells two beginnings apart, if there is one. -/
noncomputable def tlX (F1 X1 F2 X2 : List Int) (M s1 s2 : Nat) : List Int := if h : ∃ u, TlU F1 X1 F2 X2 M s1 s2 u then natI h.choose else []
theorem tlX_of {F1 X1 F2 X2 : List Int} {M s1 s2 : Nat} {u : List Nat} (h : TlU F1 X1 F2 X2 M s1 s2 u) : tlX F1 X1 F2 X2 M s1 s2 = natI u := by
  have k : ∃ u, TlU F1 X1 F2 X2 M s1 s2 u := ⟨u, h⟩
  unfold tlX
  rw [dif_pos k, tlU_one k.choose_spec h]
theorem tlX_none {F1 X1 F2 X2 : List Int} {M s1 s2 : Nat} (h : Eqv F1 X1 F2 X2 M s1 s2) : tlX F1 X1 F2 X2 M s1 s2 = [] := by
  unfold tlX
  rw [dif_neg (fun k => tlU_no k.choose_spec h)]
open Classical in
/-- Tell's error, and its word. -/
noncomputable def tlE (N M st : Int) (Fi Nx : List Int) (S T : Int) : Int := if vd N M st Fi Nx = true then if inB N S = true ∧ inB N T = true then if Eqv Fi Nx Fi Nx M.toNat S.toNat T.toNat then 60 else 0 else 1 else 3
open Classical in
noncomputable def tlL (N M st : Int) (Fi Nx : List Int) (S T : Int) : List Int := if vd N M st Fi Nx = true ∧ inB N S = true ∧ inB N T = true then tlX Fi Nx Fi Nx M.toNat S.toNat T.toNat else []
theorem tl_bad {N M st : Int} {Fi Nx : List Int} (S T : Int) (h : vd N M st Fi Nx = false) : tlE N M st Fi Nx S T = 3 ∧ tlL N M st Fi Nx S T = [] := by
  unfold tlE tlL
  rw [h]
  exact ⟨if_neg (by simp), if_neg (by simp)⟩
theorem tl_arg {N M st : Int} {Fi Nx : List Int} {S T : Int} (h : vd N M st Fi Nx = true) (hs : ¬ (inB N S = true ∧ inB N T = true)) : tlE N M st Fi Nx S T = 1 ∧ tlL N M st Fi Nx S T = [] := by
  unfold tlE tlL
  rw [if_pos h, if_neg hs]
  exact ⟨rfl, if_neg (fun k => hs k.2)⟩
theorem tl_same {N M st p q : Nat} {Fi Nx : List Int} (h : vd N M st Fi Nx = true) (hp : p < N) (hq : q < N) (he : Eqv Fi Nx Fi Nx M p q) : tlE N M st Fi Nx p q = 60 ∧ tlL N M st Fi Nx p q = [] := by
  have hs : inB (N : Int) (p : Int) = true ∧ inB (N : Int) (q : Int) = true := ⟨inB_iff.2 ⟨by omega, by omega⟩, inB_iff.2 ⟨by omega, by omega⟩⟩
  refine ⟨?_, ?_⟩
  · unfold tlE
    rw [if_pos h, if_pos hs]
    exact if_pos he
  · unfold tlL
    exact (if_pos ⟨h, hs⟩).trans (tlX_none he)
theorem tl_told {N M st p q : Nat} {Fi Nx : List Int} {u : List Nat} (h : vd N M st Fi Nx = true) (hp : p < N) (hq : q < N) (ht : TlU Fi Nx Fi Nx M p q u) : tlE N M st Fi Nx p q = 0 ∧ tlL N M st Fi Nx p q = natI u := by
  have hs : inB (N : Int) (p : Int) = true ∧ inB (N : Int) (q : Int) = true := ⟨inB_iff.2 ⟨by omega, by omega⟩, inB_iff.2 ⟨by omega, by omega⟩⟩
  refine ⟨?_, ?_⟩
  · unfold tlE
    rw [if_pos h, if_pos hs]
    exact if_neg (tlU_no ht)
  · unfold tlL
    exact (if_pos ⟨h, hs⟩).trans (tlX_of ht)
theorem lsA_nil {w w' : World} {L : List Int} {er : Int} (h : L = []) (d : Below w.heap.size w w') : LsA w L er (.returned (.tuple #[.slice none 0 0, .int .i64 er])) w' := ⟨none, 0, 0, rfl, hide ⟨by rw [h]; exact owI_nil _ _, d⟩⟩
theorem lsB_nil {w w' : World} {L : List Int} {er : Int} (h : L = []) (d : Below w.heap.size w w') : LsB w L er (.returned (.tuple #[.slice none 0 0, .int .i64 er])) w' := ⟨none, 0, 0, rfl, hide ⟨by rw [h]; exact owI_nil _ _, d, by rw [h]; exact Nat.zero_le _⟩⟩
/-- Tell, whatever it is asked. -/
theorem tell_uni (w : World) (N M st : Int) (aF aN : Option Addr) (lF cF lN cN : Nat) (Fi Nx : List Int) (hF : RdN w aF Fi) (hN : RdN w aN Nx) (hlF : Fi.length = lF) (hlN : Nx.length = lN) (bF : lF ≤ 4194304) (bN : lN ≤ 4194304) (S T : Int) :
    Calls Try.prog 15 #[.agg #[.int .i64 N, .int .i64 M, .int .i64 st, .slice aF lF cF, .slice aN lN cN], .int .i64 S, .int .i64 T] w (LsB w (tlL N M st Fi Nx S T) (tlE N M st Fi Nx S T)) := by
  cases hv : vd N M st Fi Nx with
  | false =>
    rw [(tl_bad S T hv).1]
    refine (tell_bad w N M st aF aN lF cF lN cN Fi Nx hF hN hlF hlN bF bN hv S T).mono ?_
    rintro e w' ⟨rfl, d⟩
    exact lsB_nil (tl_bad S T hv).2 d
  | true =>
    obtain ⟨n, m, s, rfl, rfl, rfl, _⟩ := vd_nat hv
    by_cases hs : inB n S = true ∧ inB n T = true
    · have h1 := inB_iff.1 hs.1
      have h2 := inB_iff.1 hs.2
      obtain ⟨p, rfl⟩ := Int.eq_ofNat_of_zero_le h1.1
      obtain ⟨q, rfl⟩ := Int.eq_ofNat_of_zero_le h2.1
      refine (tell_ok w n m s aF aN lF cF lN cN Fi Nx hF hN hlF hlN bF bN hv p q (by omega) (by omega)).mono ?_
      rintro e w' ⟨b, k, c, er, rfl, H⟩
      rcases H.out with ⟨d, ⟨rfl, rfl, rfl, rfl, h⟩ | ⟨rfl, u, o, t⟩⟩
      · have z := tl_same hv (by omega : p < n) (by omega : q < n) h
        rw [show tlE n m s Fi Nx p q = 60 from z.1]
        exact lsB_nil z.2 d
      · have z := tl_told hv (by omega : p < n) (by omega : q < n) (show TlU Fi Nx Fi Nx m p q u from ⟨t.1, t.2.1, t.2.2.2⟩)
        rw [show tlE n m s Fi Nx p q = 0 from z.1]
        exact ⟨b, k, c, rfl, hide ⟨by rw [show tlL n m s Fi Nx p q = natI u from z.2]; exact o, d, by rw [show tlL n m s Fi Nx p q = natI u from z.2, natI_len]; have := t.2.2.1; omega⟩⟩
    · rw [(tl_arg hv hs).1]
      refine (tell_arg w n m s aF aN lF cF lN cN Fi Nx hF hN hlF hlN bF bN hv S T hs).mono ?_
      rintro e w' ⟨rfl, d⟩
      exact lsB_nil (tl_arg hv hs).2 d
set_option maxRecDepth 100000 in
set_option maxHeartbeats 4000000 in
theorem rtell_bad (w : World) (N M st : Int) (aF aN : Option Addr) (lF cF lN cN : Nat) (Fi Nx : List Int) (hF : RdN w aF Fi) (hN : RdN w aN Nx) (hlF : Fi.length = lF) (hlN : Nx.length = lN) (bF : lF ≤ 4194304) (bN : lN ≤ 4194304) (hv : vd N M st Fi Nx = false) (S T : Int) :
    Calls Try.prog 22 #[.agg #[.int .i64 N, .int .i64 M, .int .i64 st, .slice aF lF cF, .slice aN lN cN], .int .i64 S, .int .i64 T] w fun e w' => e = .returned (.tuple #[.slice none 0 0, .int .i64 3]) ∧ Below w.heap.size w w' := by
  obtain ⟨W0, hW0⟩ : ∃ W0, w.alloc (.cells #[.int .i64 N, .int .i64 M, .int .i64 st, .slice aF lF cF, .slice aN lN cN] 24) = W0 := ⟨_, rfl⟩
  have d0 : Below w.heap.size w W0 := by rw [← hW0]; exact (Below.refl _ _).alloc (Nat.le_refl _) _
  have B0 : W0.heap[w.heap.size]? = some (.cells #[.int .i64 N, .int .i64 M, .int .i64 st, .slice aF lF cF, .slice aN lN cN] 24 (0, 0)) := by rw [← hW0]; exact World.alloc_heap_new _ _
  have k0 : W0.cell? ⟨w.heap.size, 0, none⟩ = some (.int .i64 N) := cell_of B0 rfl
  have k1 : W0.cell? ⟨w.heap.size, 1, none⟩ = some (.int .i64 M) := cell_of B0 rfl
  have k2 : W0.cell? ⟨w.heap.size, 2, none⟩ = some (.int .i64 st) := cell_of B0 rfl
  have k3 : W0.cell? ⟨w.heap.size, 3, none⟩ = some (.slice aF lF cF) := cell_of B0 rfl
  have k4 : W0.cell? ⟨w.heap.size, 4, none⟩ = some (.slice aN lN cN) := cell_of B0 rfl
  have TM := maybe_any W0 N M st aF aN lF cF lN cN Fi Nx (hF.on d0) (hN.on d0) hlF hlN bF bN
  rw [hv] at TM
  have HD := hide d0
  clear d0 B0 hF hN hlF hlN bF bN hv
  go_enter Try.func22, Try.ntmps22
  go_wp2_with (go_at_call 46; refine TM.mono ?_; rintro e w2 ⟨rfl, d2⟩; have HD2 := hide (HD.out.trans (d2.mono HD.out.size)); clear d2 k0 k1 k2 k3 k4)
  go_ret2
  exact ⟨rfl, HD2.out⟩
set_option maxRecDepth 100000 in
set_option maxHeartbeats 4000000 in
theorem rtell_arg (w : World) (N M st : Nat) (aF aN : Option Addr) (lF cF lN cN : Nat) (Fi Nx : List Int) (hF : RdN w aF Fi) (hN : RdN w aN Nx) (hlF : Fi.length = lF) (hlN : Nx.length = lN) (bF : lF ≤ 4194304) (bN : lN ≤ 4194304) (hv : vd N M st Fi Nx = true) (S T : Int) (hs : ¬ (inB N S = true ∧ inB N T = true)) :
    Calls Try.prog 22 #[.agg #[.int .i64 (N : Int), .int .i64 (M : Int), .int .i64 (st : Int), .slice aF lF cF, .slice aN lN cN], .int .i64 S, .int .i64 T] w fun e w' => e = .returned (.tuple #[.slice none 0 0, .int .i64 1]) ∧ Below w.heap.size w w' := by
  obtain ⟨W0, hW0⟩ : ∃ W0, w.alloc (.cells #[.int .i64 (N : Int), .int .i64 (M : Int), .int .i64 (st : Int), .slice aF lF cF, .slice aN lN cN] 24) = W0 := ⟨_, rfl⟩
  have d0 : Below w.heap.size w W0 := by rw [← hW0]; exact (Below.refl _ _).alloc (Nat.le_refl _) _
  have B0 : W0.heap[w.heap.size]? = some (.cells #[.int .i64 (N : Int), .int .i64 (M : Int), .int .i64 (st : Int), .slice aF lF cF, .slice aN lN cN] 24 (0, 0)) := by rw [← hW0]; exact World.alloc_heap_new _ _
  have k0 : W0.cell? ⟨w.heap.size, 0, none⟩ = some (.int .i64 (N : Int)) := cell_of B0 rfl
  have k1 : W0.cell? ⟨w.heap.size, 1, none⟩ = some (.int .i64 (M : Int)) := cell_of B0 rfl
  have k2 : W0.cell? ⟨w.heap.size, 2, none⟩ = some (.int .i64 (st : Int)) := cell_of B0 rfl
  have k3 : W0.cell? ⟨w.heap.size, 3, none⟩ = some (.slice aF lF cF) := cell_of B0 rfl
  have k4 : W0.cell? ⟨w.heap.size, 4, none⟩ = some (.slice aN lN cN) := cell_of B0 rfl
  have TM := maybe_any W0 N M st aF aN lF cF lN cN Fi Nx (hF.on d0) (hN.on d0) hlF hlN bF bN
  rw [hv] at TM
  have HD := hide d0
  have HB0 := hide B0
  have hno : S < 0 ∨ T < 0 ∨ S ≥ (N : Int) ∨ T ≥ (N : Int) := by
    refine Classical.byContradiction fun z => hs ⟨inB_iff.2 ⟨by omega, by omega⟩, inB_iff.2 ⟨by omega, by omega⟩⟩
  clear d0 B0 hF hN hlF hlN bF bN hv hs
  by_cases c1 : S < 0
  · clear hno
    go_enter Try.func22, Try.ntmps22
    go_wp2_with (go_at_call 46; refine TM.mono ?_; rintro e w2 ⟨rfl, d2⟩; have HD2 := hide (HD.out.trans (d2.mono HD.out.size)); have y0 : w2.cell? ⟨w.heap.size, 0, none⟩ = some (.int .i64 (N : Int)) := cell_of (blk_on HB0.out d2) rfl; clear d2 k0 k1 k2 k3 k4)
    go_ret2
    exact ⟨rfl, HD2.out⟩
  · by_cases c3 : S ≥ (N : Int)
    · have c3' : (N : Int) ≤ S := c3
      clear hno
      go_enter Try.func22, Try.ntmps22
      go_wp2_with (go_at_call 46; refine TM.mono ?_; rintro e w2 ⟨rfl, d2⟩; have HD2 := hide (HD.out.trans (d2.mono HD.out.size)); have y0 : w2.cell? ⟨w.heap.size, 0, none⟩ = some (.int .i64 (N : Int)) := cell_of (blk_on HB0.out d2) rfl; clear d2 k0 k1 k2 k3 k4)
      go_ret2
      exact ⟨rfl, HD2.out⟩
    · have c3' : S < (N : Int) := by omega
      by_cases c2 : T < 0
      · clear hno
        go_enter Try.func22, Try.ntmps22
        go_wp2_with (go_at_call 46; refine TM.mono ?_; rintro e w2 ⟨rfl, d2⟩; have HD2 := hide (HD.out.trans (d2.mono HD.out.size)); have y0 : w2.cell? ⟨w.heap.size, 0, none⟩ = some (.int .i64 (N : Int)) := cell_of (blk_on HB0.out d2) rfl; clear d2 k0 k1 k2 k3 k4)
        go_ret2
        exact ⟨rfl, HD2.out⟩
      · have c4 : T ≥ (N : Int) := by omega
        have c4' : (N : Int) ≤ T := c4
        clear hno
        go_enter Try.func22, Try.ntmps22
        go_wp2_with (go_at_call 46; refine TM.mono ?_; rintro e w2 ⟨rfl, d2⟩; have HD2 := hide (HD.out.trans (d2.mono HD.out.size)); have y0 : w2.cell? ⟨w.heap.size, 0, none⟩ = some (.int .i64 (N : Int)) := cell_of (blk_on HB0.out d2) rfl; clear d2 k0 k1 k2 k3 k4)
        go_ret2
        exact ⟨rfl, HD2.out⟩
set_option maxRecDepth 100000 in
set_option maxHeartbeats 4000000 in
theorem rtell_ok (w : World) (N M st : Nat) (aF aN : Option Addr) (lF cF lN cN : Nat) (Fi Nx : List Int) (hF : RdN w aF Fi) (hN : RdN w aN Nx) (hlF : Fi.length = lF) (hlN : Nx.length = lN) (bF : lF ≤ 4194304) (bN : lN ≤ 4194304) (hv : vd N M st Fi Nx = true) (p q : Nat) (hp : p < N) (hq : q < N) :
    Calls Try.prog 22 #[.agg #[.int .i64 (N : Int), .int .i64 (M : Int), .int .i64 (st : Int), .slice aF lF cF, .slice aN lN cN], .int .i64 (p : Int), .int .i64 (q : Int)] w (LsA w (tlL N M st Fi Nx p q) (tlE N M st Fi Nx p q)) := by
  obtain ⟨n0, m0, s0, en, em, es, n1, n2, m1, s1, e1, i1, i2⟩ := vd_nat hv
  obtain rfl : N = n0 := by omega
  obtain rfl : M = m0 := by omega
  obtain ⟨W0, hW0⟩ : ∃ W0, w.alloc (.cells #[.int .i64 (N : Int), .int .i64 (M : Int), .int .i64 (st : Int), .slice aF lF cF, .slice aN lN cN] 24) = W0 := ⟨_, rfl⟩
  have d0 : Below w.heap.size w W0 := by rw [← hW0]; exact (Below.refl _ _).alloc (Nat.le_refl _) _
  have B0 : W0.heap[w.heap.size]? = some (.cells #[.int .i64 (N : Int), .int .i64 (M : Int), .int .i64 (st : Int), .slice aF lF cF, .slice aN lN cN] 24 (0, 0)) := by rw [← hW0]; exact World.alloc_heap_new _ _
  have k0 : W0.cell? ⟨w.heap.size, 0, none⟩ = some (.int .i64 (N : Int)) := cell_of B0 rfl
  have k1 : W0.cell? ⟨w.heap.size, 1, none⟩ = some (.int .i64 (M : Int)) := cell_of B0 rfl
  have k2 : W0.cell? ⟨w.heap.size, 2, none⟩ = some (.int .i64 (st : Int)) := cell_of B0 rfl
  have k3 : W0.cell? ⟨w.heap.size, 3, none⟩ = some (.slice aF lF cF) := cell_of B0 rfl
  have k4 : W0.cell? ⟨w.heap.size, 4, none⟩ = some (.slice aN lN cN) := cell_of B0 rfl
  have TM := maybe_any W0 N M st aF aN lF cF lN cN Fi Nx (hF.on d0) (hN.on d0) hlF hlN bF bN
  rw [hv] at TM
  have TA : Hid (∀ W, Below W0.heap.size W0 W → Calls Try.prog 47 #[.agg #[.int .i64 (N : Int), .int .i64 (M : Int), .int .i64 (st : Int), .slice aF lF cF, .slice aN lN cN], .agg #[.int .i64 (N : Int), .int .i64 (M : Int), .int .i64 (st : Int), .slice aF lF cF, .slice aN lN cN], .int .i64 (p : Int), .int .i64 (q : Int)] W (ApA W Fi Nx Fi Nx M p q)) := hide (fun W d => apart_any W N N M st st aF aN aF aN lF cF lN cN lF cF lN cN Fi Nx Fi Nx ((hF.on d0).on d) ((hN.on d0).on d) ((hF.on d0).on d) ((hN.on d0).on d) hlF hlN hlF hlN bF bF n2 n2 (by omega) e1 e1 i1 i1 p q hp hq)
  have HD := hide d0
  have HB0 := hide B0
  have HV := hide (And.intro hv (And.intro hp hq))
  have c1 : ¬ ((p : Int) < 0) := by omega
  have c2 : ¬ ((q : Int) < 0) := by omega
  have c3 : (p : Int) < (N : Int) := by omega
  have c4 : (q : Int) < (N : Int) := by omega
  clear d0 B0 hF hN hlF hlN bF bN hv hp hq en em es n1 n2 m1 s1 e1 i1 i2
  go_enter Try.func22, Try.ntmps22
  go_upto_region 5 with (go_at_call 46; refine TM.mono ?_; rintro e w2 ⟨rfl, d2⟩; have HD2 := hide d2; have y0 : w2.cell? ⟨w.heap.size, 0, none⟩ = some (.int .i64 (N : Int)) := cell_of (blk_on HB0.out d2) rfl; clear d2 k0 k1 k2 k3 k4)
  clear y0
  have Z := blk_on HB0.out HD2.out
  have y0 : w2.cell? ⟨w.heap.size, 0, none⟩ = some (.int .i64 (N : Int)) := cell_of Z rfl
  have y1 : w2.cell? ⟨w.heap.size, 1, none⟩ = some (.int .i64 (M : Int)) := cell_of Z rfl
  have y2 : w2.cell? ⟨w.heap.size, 2, none⟩ = some (.int .i64 (st : Int)) := cell_of Z rfl
  have y3 : w2.cell? ⟨w.heap.size, 3, none⟩ = some (.slice aF lF cF) := cell_of Z rfl
  have y4 : w2.cell? ⟨w.heap.size, 4, none⟩ = some (.slice aN lN cN) := cell_of Z rfl
  clear Z
  go_wp2_with fail
  go_at_call 47
  refine (TA.out _ HD2.out).mono ?_
  rintro e w3 ⟨b, n, c, told, rfl, HA⟩
  have HD3 := hide (HD.out.trans ((HD2.out.trans (HA.out.1.mono HD2.out.size)).mono HD.out.size))
  clear y0 y1 y2 y3 y4 c1 c2 c3 c4
  cases told with
  | true =>
    obtain ⟨u, o, t⟩ := HA.out.2.1 rfl
    have HU := hide (And.intro o t)
    clear o t
    go_wp2_with fail
    go_ret2
    have z := tl_told HV.out.1 HV.out.2.1 HV.out.2.2 HU.out.2
    rw [z.1]
    exact ⟨b, n, c, rfl, hide ⟨by rw [z.2]; exact owns_down HU.out.1 (Nat.le_trans HD.out.size HD2.out.size), HD3.out⟩⟩
  | false =>
    obtain ⟨rfl, rfl, rfl, he⟩ := HA.out.2.2 rfl
    have HU := hide he
    clear he
    go_wp2_with fail
    go_ret2
    have z := tl_same HV.out.1 HV.out.2.1 HV.out.2.2 HU.out
    rw [z.1]
    exact lsA_nil z.2 HD3.out
/-- The reference's Tell, whatever it is asked. -/
theorem rtell_uni (w : World) (N M st : Int) (aF aN : Option Addr) (lF cF lN cN : Nat) (Fi Nx : List Int) (hF : RdN w aF Fi) (hN : RdN w aN Nx) (hlF : Fi.length = lF) (hlN : Nx.length = lN) (bF : lF ≤ 4194304) (bN : lN ≤ 4194304) (S T : Int) :
    Calls Try.prog 22 #[.agg #[.int .i64 N, .int .i64 M, .int .i64 st, .slice aF lF cF, .slice aN lN cN], .int .i64 S, .int .i64 T] w (LsA w (tlL N M st Fi Nx S T) (tlE N M st Fi Nx S T)) := by
  cases hv : vd N M st Fi Nx with
  | false =>
    rw [(tl_bad S T hv).1]
    refine (rtell_bad w N M st aF aN lF cF lN cN Fi Nx hF hN hlF hlN bF bN hv S T).mono ?_
    rintro e w' ⟨rfl, d⟩
    exact lsA_nil (tl_bad S T hv).2 d
  | true =>
    obtain ⟨n, m, s, rfl, rfl, rfl, _⟩ := vd_nat hv
    by_cases hs : inB n S = true ∧ inB n T = true
    · have h1 := inB_iff.1 hs.1
      have h2 := inB_iff.1 hs.2
      obtain ⟨p, rfl⟩ := Int.eq_ofNat_of_zero_le h1.1
      obtain ⟨q, rfl⟩ := Int.eq_ofNat_of_zero_le h2.1
      exact rtell_ok w n m s aF aN lF cF lN cN Fi Nx hF hN hlF hlN bF bN hv p q (by omega) (by omega)
    · rw [(tl_arg hv hs).1]
      refine (rtell_arg w n m s aF aN lF cF lN cN Fi Nx hF hN hlF hlN bF bN hv S T hs).mono ?_
      rintro e w' ⟨rfl, d⟩
      exact lsA_nil (tl_arg hv hs).2 d
/-! ### Classes, and the reference -/
/-- The least state that is like one. -/
def LeA (Fi Nx : List Int) (M s t : Nat) : Prop := t ≤ s ∧ Eqv Fi Nx Fi Nx M s t ∧ ∀ r, r < t → ¬ Eqv Fi Nx Fi Nx M s r
theorem leA_one {Fi Nx : List Int} {M s t r : Nat} (h : LeA Fi Nx M s t) (k : LeA Fi Nx M s r) : t = r := by
  rcases Nat.lt_trichotomy t r with q | q | q
  · exact absurd h.2.1 (k.2.2 t q)
  · exact q
  · exact absurd k.2.1 (h.2.2 r q)
open Classical in
noncomputable def alC (Fi Nx : List Int) (M s : Nat) : Nat := if h : ∃ t, LeA Fi Nx M s t then h.choose else 0
theorem alC_of {Fi Nx : List Int} {M s t : Nat} (h : LeA Fi Nx M s t) : alC Fi Nx M s = t := by
  have k : ∃ t, LeA Fi Nx M s t := ⟨t, h⟩
  unfold alC
  rw [dif_pos k]
  exact leA_one k.choose_spec h
theorem cl_alC {Fi Nx : List Int} {N M : Nat} {al : Nat → Nat} (h : ClA Nx (inF Fi) N M al) {s : Nat} (hs : s < N) : alC Fi Nx M s = al s := by
  obtain ⟨h1, h2, h3⟩ := h s hs
  refine alC_of ⟨h1, h2, fun r hr hE => ?_⟩
  have := h3 r (by omega) hE
  omega
/-- Classes' error and list. -/
def clE (N M st : Int) (Fi Nx : List Int) : Int := if vd N M st Fi Nx = true then 0 else 3
noncomputable def clL (N M st : Int) (Fi Nx : List Int) : List Int := if vd N M st Fi Nx = true then natI ((List.range N.toNat).map (alC Fi Nx M.toNat)) else []
theorem cl_bad {N M st : Int} {Fi Nx : List Int} (h : vd N M st Fi Nx = false) : clE N M st Fi Nx = 3 ∧ clL N M st Fi Nx = [] := by
  unfold clE clL
  rw [h]
  exact ⟨rfl, rfl⟩
theorem cl_ok {N M st : Nat} {Fi Nx : List Int} (h : vd N M st Fi Nx = true) : clE N M st Fi Nx = 0 ∧ clL N M st Fi Nx = natI ((List.range N).map (alC Fi Nx M)) := by
  unfold clE clL
  rw [h]
  exact ⟨rfl, rfl⟩
/-- Classes, whatever it is asked. -/
theorem classes_uni (w : World) (N M st : Int) (aF aN : Option Addr) (lF cF lN cN : Nat) (Fi Nx : List Int) (hF : RdN w aF Fi) (hN : RdN w aN Nx) (hlF : Fi.length = lF) (hlN : Nx.length = lN) (bF : lF ≤ 4194304) (bN : lN ≤ 4194304) :
    Calls Try.prog 14 #[.agg #[.int .i64 N, .int .i64 M, .int .i64 st, .slice aF lF cF, .slice aN lN cN]] w (LsA w (clL N M st Fi Nx) (clE N M st Fi Nx)) := by
  cases hv : vd N M st Fi Nx with
  | false =>
    rw [(cl_bad hv).1]
    refine (classes_bad w N M st aF aN lF cF lN cN Fi Nx hF hN hlF hlN bF bN hv).mono ?_
    rintro e w' ⟨rfl, d⟩
    exact lsA_nil (cl_bad hv).2 d
  | true =>
    obtain ⟨n, m, s, rfl, rfl, rfl, n1, n2, _⟩ := vd_nat hv
    rw [(cl_ok hv).1, (cl_ok hv).2]
    refine (classes_ok w n m s aF aN lF cF lN cN Fi Nx hF hN hlF hlN bF bN hv).mono ?_
    rintro e w' ⟨h, rfl, al, H⟩
    refine ⟨_, _, _, rfl, hide ⟨?_, H.out.2.2.2⟩⟩
    have hl : (natI ((List.range n).map (alC Fi Nx m))).length = n := by rw [natI_len]; simp
    have z := mrw_row (B := w.heap.size) (K := natI ((List.range n).map (alC Fi Nx m))) (H.out.1.congr fun c hc => by
      rw [List.getD_eq_getElem?_getD, show (natI ((List.range n).map (alC Fi Nx m)))[c]? = some ((alC Fi Nx m c : Nat) : Int) by
        unfold natI
        rw [List.getElem?_map, List.getElem?_map, List.getElem?_range hc]
        rfl, cl_alC H.out.2.2.1 hc]
      rfl) hl H.out.2.1 (by unfold maxLen; omega)
    unfold OwI
    rw [hl]
    exact z
set_option maxRecDepth 100000 in
set_option maxHeartbeats 4000000 in
theorem rclasses_bad (w : World) (N M st : Int) (aF aN : Option Addr) (lF cF lN cN : Nat) (Fi Nx : List Int) (hF : RdN w aF Fi) (hN : RdN w aN Nx) (hlF : Fi.length = lF) (hlN : Nx.length = lN) (bF : lF ≤ 4194304) (bN : lN ≤ 4194304) (hv : vd N M st Fi Nx = false) :
    Calls Try.prog 20 #[.agg #[.int .i64 N, .int .i64 M, .int .i64 st, .slice aF lF cF, .slice aN lN cN]] w fun e w' => e = .returned (.tuple #[.slice none 0 0, .int .i64 3]) ∧ Below w.heap.size w w' := by
  obtain ⟨W0, hW0⟩ : ∃ W0, w.alloc (.cells #[.int .i64 N, .int .i64 M, .int .i64 st, .slice aF lF cF, .slice aN lN cN] 24) = W0 := ⟨_, rfl⟩
  have d0 : Below w.heap.size w W0 := by rw [← hW0]; exact (Below.refl _ _).alloc (Nat.le_refl _) _
  have B0 : W0.heap[w.heap.size]? = some (.cells #[.int .i64 N, .int .i64 M, .int .i64 st, .slice aF lF cF, .slice aN lN cN] 24 (0, 0)) := by rw [← hW0]; exact World.alloc_heap_new _ _
  have k0 : W0.cell? ⟨w.heap.size, 0, none⟩ = some (.int .i64 N) := cell_of B0 rfl
  have k1 : W0.cell? ⟨w.heap.size, 1, none⟩ = some (.int .i64 M) := cell_of B0 rfl
  have k2 : W0.cell? ⟨w.heap.size, 2, none⟩ = some (.int .i64 st) := cell_of B0 rfl
  have k3 : W0.cell? ⟨w.heap.size, 3, none⟩ = some (.slice aF lF cF) := cell_of B0 rfl
  have k4 : W0.cell? ⟨w.heap.size, 4, none⟩ = some (.slice aN lN cN) := cell_of B0 rfl
  have TM := maybe_any W0 N M st aF aN lF cF lN cN Fi Nx (hF.on d0) (hN.on d0) hlF hlN bF bN
  rw [hv] at TM
  have HD := hide d0
  clear d0 B0 hF hN hlF hlN bF bN hv
  go_enter Try.func20, Try.ntmps20
  go_wp2_with (go_at_call 46; refine TM.mono ?_; rintro e w2 ⟨rfl, d2⟩; have HD2 := hide (HD.out.trans (d2.mono HD.out.size)); clear d2 k0 k1 k2 k3 k4)
  go_ret2
  exact ⟨rfl, HD2.out⟩
set_option maxRecDepth 100000 in
set_option maxHeartbeats 4000000 in
theorem rclasses_ok (w : World) (N M st : Nat) (aF aN : Option Addr) (lF cF lN cN : Nat) (Fi Nx : List Int) (hF : RdN w aF Fi) (hN : RdN w aN Nx) (hlF : Fi.length = lF) (hlN : Nx.length = lN) (bF : lF ≤ 4194304) (bN : lN ≤ 4194304) (hv : vd N M st Fi Nx = true) :
    Calls Try.prog 20 #[.agg #[.int .i64 (N : Int), .int .i64 (M : Int), .int .i64 (st : Int), .slice aF lF cF, .slice aN lN cN]] w (LsA w (natI ((List.range N).map (alC Fi Nx M))) 0) := by
  obtain ⟨n0, m0, s0, en, em, es, n1, n2, m1, s1, e1, i1, i2⟩ := vd_nat hv
  obtain rfl : N = n0 := by omega
  obtain rfl : M = m0 := by omega
  obtain ⟨W0, hW0⟩ : ∃ W0, w.alloc (.cells #[.int .i64 (N : Int), .int .i64 (M : Int), .int .i64 (st : Int), .slice aF lF cF, .slice aN lN cN] 24) = W0 := ⟨_, rfl⟩
  have d0 : Below w.heap.size w W0 := by rw [← hW0]; exact (Below.refl _ _).alloc (Nat.le_refl _) _
  have B0 : W0.heap[w.heap.size]? = some (.cells #[.int .i64 (N : Int), .int .i64 (M : Int), .int .i64 (st : Int), .slice aF lF cF, .slice aN lN cN] 24 (0, 0)) := by rw [← hW0]; exact World.alloc_heap_new _ _
  have k0 : W0.cell? ⟨w.heap.size, 0, none⟩ = some (.int .i64 (N : Int)) := cell_of B0 rfl
  have k1 : W0.cell? ⟨w.heap.size, 1, none⟩ = some (.int .i64 (M : Int)) := cell_of B0 rfl
  have k2 : W0.cell? ⟨w.heap.size, 2, none⟩ = some (.int .i64 (st : Int)) := cell_of B0 rfl
  have k3 : W0.cell? ⟨w.heap.size, 3, none⟩ = some (.slice aF lF cF) := cell_of B0 rfl
  have k4 : W0.cell? ⟨w.heap.size, 4, none⟩ = some (.slice aN lN cN) := cell_of B0 rfl
  have TM := maybe_any W0 N M st aF aN lF cF lN cN Fi Nx (hF.on d0) (hN.on d0) hlF hlN bF bN
  rw [hv] at TM
  have TA : Hid (∀ W p q, Below W0.heap.size W0 W → p < N → q < N → Calls Try.prog 47 #[.agg #[.int .i64 (N : Int), .int .i64 (M : Int), .int .i64 (st : Int), .slice aF lF cF, .slice aN lN cN], .agg #[.int .i64 (N : Int), .int .i64 (M : Int), .int .i64 (st : Int), .slice aF lF cF, .slice aN lN cN], .int .i64 ((p : Nat) : Int), .int .i64 ((q : Nat) : Int)] W (ApA W Fi Nx Fi Nx M p q)) := hide (fun W p q d hp hq => apart_any W N N M st st aF aN aF aN lF cF lN cN lF cF lN cN Fi Nx Fi Nx ((hF.on d0).on d) ((hN.on d0).on d) ((hF.on d0).on d) ((hN.on d0).on d) hlF hlN hlF hlN bF bF n2 n2 (by omega) e1 e1 i1 i1 p q hp hq)
  have HD := hide d0
  have HB0 := hide B0
  clear d0 B0 hF hN hlF hlN bF bN hv en em es m1 s1 e1 i1 i2
  go_enter Try.func20, Try.ntmps20
  go_wp2_with (go_at_call 46; refine TM.mono ?_; rintro e w2 ⟨rfl, d2⟩; have HD2 := hide d2; clear d2 k0 k1 k2 k3 k4)
  have J0 : Hid (OwI w2 W0.heap.size (.slice none 0 0) (natI ((List.range 0).map (alC Fi Nx M))) ∧ Below W0.heap.size W0 w2) := hide ⟨owI_nil _ _, HD2.out⟩
  clear HD2
  go_loopw [4, 5] (fun ov sv wr => ∃ (s : Nat) (b : Option Addr) (c : Nat), s ≤ N ∧ ov = .slice b s c ∧ sv = .int .i64 (s : Int) ∧ Hid (OwI wr W0.heap.size (.slice b s c) (natI ((List.range s).map (alC Fi Nx M))) ∧ Below W0.heap.size W0 wr)) (fun _ sv _ => N - (intOf sv).toNat)
  case atStart => exact ⟨0, none, 0, Nat.zero_le _, rfl, rfl, J0⟩
  case round =>
    clear J0
    obtain ⟨s, b, c, hs, rfl, rfl, HY⟩ := hrel
    have y0 : wr.cell? ⟨w.heap.size, 0, none⟩ = some (.int .i64 (N : Int)) := cell_of (blk_on HB0.out HY.out.2) rfl
    by_cases hsN : s < N
    · have l0 : (s : Int) < (N : Int) := by omega
      go_wp2_with fail
      clear y0 l0
      have J1 : Hid (OwI wr W0.heap.size (.slice b s c) (natI ((List.range s).map (alC Fi Nx M))) ∧ Below W0.heap.size W0 wr) := HY
      clear HY
      go_loopw [6, 7] (fun lv tv wq => ∃ (l t : Nat), t ≤ s ∧ lv = .int .i64 (l : Int) ∧ tv = .int .i64 (t : Int) ∧ ((l = s ∧ Hid (∀ r, r < t → ¬ Eqv Fi Nx Fi Nx M s r)) ∨ (l < s ∧ Hid (LeA Fi Nx M s l))) ∧ Hid (OwI wq W0.heap.size (.slice b s c) (natI ((List.range s).map (alC Fi Nx M))) ∧ Below W0.heap.size W0 wq)) (fun _ tv _ => s - (intOf tv).toNat)
      case atStart => exact ⟨s, 0, Nat.zero_le _, rfl, rfl, Or.inl ⟨rfl, hide fun r hr => absurd hr (Nat.not_lt_zero _)⟩, J1⟩
      case round =>
        clear J1
        obtain ⟨l, t, hts, rfl, rfl, hlt, HZ⟩ := hrel
        by_cases hgo : t < s ∧ l = s
        · obtain ⟨ht, rfl⟩ := hgo
          have hne : Hid (∀ r, r < t → ¬ Eqv Fi Nx Fi Nx M l r) := by
            rcases hlt with h | h
            · exact h.2
            · omega
          have l1 : (t : Int) < (l : Int) := by omega
          have Z := blk_on HB0.out HZ.out.2
          have y0 : wr.cell? ⟨w.heap.size, 0, none⟩ = some (.int .i64 (N : Int)) := cell_of Z rfl
          have y1 : wr.cell? ⟨w.heap.size, 1, none⟩ = some (.int .i64 (M : Int)) := cell_of Z rfl
          have y2 : wr.cell? ⟨w.heap.size, 2, none⟩ = some (.int .i64 (st : Int)) := cell_of Z rfl
          have y3 : wr.cell? ⟨w.heap.size, 3, none⟩ = some (.slice aF lF cF) := cell_of Z rfl
          have y4 : wr.cell? ⟨w.heap.size, 4, none⟩ = some (.slice aN lN cN) := cell_of Z rfl
          have HC := hide (TA.out wr l t HZ.out.2 hsN (by omega))
          clear Z hlt
          go_wp2_with fail
          go_at_call 47
          refine HC.out.mono ?_
          rintro e w3 ⟨b3, n3, c3, told, rfl, HA⟩
          have HD3 := hide HA.out.1
          clear y0 y1 y2 y3 y4
          cases told with
          | true =>
            obtain ⟨u, o, tt⟩ := HA.out.2.1 rfl
            have HU := hide (tlU_no tt)
            clear o tt
            go_wp2_with fail
            go_roundw
            case rel =>
              refine ⟨l, t + 1, by omega, rfl, by go_num, Or.inl ⟨rfl, hide fun r hr => ?_⟩, hide ⟨own_below HZ.out.1 HD3.out, HZ.out.2.trans (HD3.out.mono HZ.out.2.size)⟩⟩
              by_cases e : r = t
              · rw [e]; exact HU.out
              · exact hne.out r (by omega)
            case measure => simp [intOf]; omega
          | false =>
            obtain ⟨rfl, rfl, rfl, he⟩ := HA.out.2.2 rfl
            have HU := hide he
            clear he
            go_wp2_with fail
            go_roundw
            case rel => exact ⟨t, t + 1, by omega, rfl, by go_num, Or.inr ⟨ht, hide ⟨by omega, HU.out, hne.out⟩⟩, hide ⟨own_below HZ.out.1 HD3.out, HZ.out.2.trans (HD3.out.mono HZ.out.2.size)⟩⟩
            case measure => simp [intOf]; omega
        · have HL : Hid (LeA Fi Nx M s l) := by
            rcases hlt with h | h
            · obtain ⟨rfl, h⟩ := h
              have : t = l := by omega
              subst this
              exact hide ⟨Nat.le_refl _, fun _ _ => rfl, h.out⟩
            · exact h.2
          have HQ : Hid (alC Fi Nx M s = l) := hide (alC_of HL.out)
          have hfin : (¬ (t : Int) < (s : Int)) ∨ ((t : Int) < (s : Int) ∧ ¬ (l : Int) = (s : Int)) := by omega
          have hlt0 := HL.out.1
          clear hlt hgo HL
          have dA := hide ((Below.refl wr.heap.size wr).alloc (Nat.le_refl _) (.cells #[.int .i64 (l : Int)] 3))
          have hlen : (natI ((List.range s).map (alC Fi Nx M))).length = s := by rw [natI_len]; simp
          have hB9 := HZ.out.2.size
          rcases hfin with l1 | ⟨l1, l2⟩
          all_goals
            go_wp2_with (at_builtin; refine wpList_appI rfl (.tmp 41) (.tmp 43) rfl W0.heap.size _ (natI ((List.range s).map (alC Fi Nx M))) rfl (own_below HZ.out.1 dA.out) wr.heap.size (l : Int) rfl (World.alloc_heap_new _ _) (by omega) (by simp; omega) ?_; intro b2 m2 k2 w2' h1 h2 h3 h4; have HN := hide (And.intro h1.out (And.intro h2.out h3.out)); clear h1 h2 h3 h4)
            go_roundw
            case rel =>
              have hb := HZ.out.1.lt
              have hm2 : m2 = s + 1 := by rw [HN.out.2.1, hlen]
              subst hm2
              refine ⟨s + 1, b2, k2, by omega, rfl, by go_num, hide ⟨?_, (HZ.out.2.trans (dA.out.mono hB9)).trans (HN.out.2.2.toBelow (by simp; omega) (fun k hk => (hb k hk).1))⟩⟩
              rw [List.range_succ, List.map_append, show natI (List.map (alC Fi Nx M) (List.range s) ++ List.map (alC Fi Nx M) [s]) = natI (List.map (alC Fi Nx M) (List.range s)) ++ [(l : Int)] by rw [← HQ.out]; exact natI_snoc _ _]
              exact HN.out.1
            case measure => simp [intOf]; omega
    · have l0 : ¬ (s : Int) < (N : Int) := by omega
      obtain rfl : s = N := by omega
      go_wp2_with fail
      go_ret2
      exact ⟨b, s, c, rfl, hide ⟨owns_down HY.out.1 HD.out.size, HD.out.trans (HY.out.2.mono HD.out.size)⟩⟩
/-- The reference's Classes, whatever it is asked. -/
theorem rclasses_uni (w : World) (N M st : Int) (aF aN : Option Addr) (lF cF lN cN : Nat) (Fi Nx : List Int) (hF : RdN w aF Fi) (hN : RdN w aN Nx) (hlF : Fi.length = lF) (hlN : Nx.length = lN) (bF : lF ≤ 4194304) (bN : lN ≤ 4194304) :
    Calls Try.prog 20 #[.agg #[.int .i64 N, .int .i64 M, .int .i64 st, .slice aF lF cF, .slice aN lN cN]] w (LsA w (clL N M st Fi Nx) (clE N M st Fi Nx)) := by
  cases hv : vd N M st Fi Nx with
  | false =>
    rw [(cl_bad hv).1]
    refine (rclasses_bad w N M st aF aN lF cF lN cN Fi Nx hF hN hlF hlN bF bN hv).mono ?_
    rintro e w' ⟨rfl, d⟩
    exact lsA_nil (cl_bad hv).2 d
  | true =>
    obtain ⟨n, m, s, rfl, rfl, rfl, n1, n2, _⟩ := vd_nat hv
    rw [(cl_ok hv).1, (cl_ok hv).2]
    exact rclasses_ok w n m s aF aN lF cF lN cN Fi Nx hF hN hlF hlN bF bN hv
end Go.Proofs.Ytocoghljmlpdeaa
