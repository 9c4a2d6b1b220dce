import Derived.Test.YtfoahpideglghaaGreatDoorBs
namespace Go.Proofs.YtfoahpideglghaaGreatDoor
open Go.RowKit Go.Maps

/-! ### Edges in order, each once -/
def SsE (l : List EdT) : Prop := l.Pairwise fun a b => ltE a b = true
theorem ltE_ir (x : EdT) : ltE x x = false := swoE.irrefl x
theorem ltE_as {x y : EdT} (h : ltE x y = true) (k : ltE y x = true) : False := by rw [ltE_iff] at h k; omega
theorem ss_eq : ∀ (A B : List EdT), SsE A → SsE B → (∀ x, x ∈ A ↔ x ∈ B) → A = B
  | [], [], _, _, _ => rfl
  | [], b :: B, _, _, h => absurd ((h b).2 (by simp)) (by simp)
  | a :: A, [], _, _, h => absurd ((h a).1 (by simp)) (by simp)
  | a :: A, b :: B, hA, hB, h => by
    unfold SsE at hA hB
    rw [List.pairwise_cons] at hA hB
    have e : a = b := by
      rcases List.mem_cons.1 ((h a).1 (by simp)) with q | q
      · exact q
      · rcases List.mem_cons.1 ((h b).2 (by simp)) with r | r
        · exact r.symm
        · exact (ltE_as (hB.1 a q) (hA.1 b r)).elim
    subst e
    congr 1
    refine ss_eq A B hA.2 hB.2 fun x => ⟨fun q => ?_, fun q => ?_⟩
    · rcases List.mem_cons.1 ((h x).1 (by simp [q])) with r | r
      · subst r; have := hA.1 x q; rw [ltE_ir] at this; cases this
      · exact r
    · rcases List.mem_cons.1 ((h x).2 (by simp [q])) with r | r
      · subst r; have := hB.1 x q; rw [ltE_ir] at this; cases this
      · exact r
theorem cp_mem {α : Type} [Inhabited α] [DecidableEq α] {zs : List α} {x : α} (h : x ∈ Lib.compact zs) : x ∈ zs := by
  unfold Lib.compact Lib.compactUpTo at h
  obtain ⟨j, hj, rfl⟩ := List.mem_map.1 h
  have hj' := List.mem_range.1 (List.mem_filter.1 hj).1
  rw [getElem!_pos _ j (by simpa using hj')]
  simp
theorem cp_has {α : Type} [Inhabited α] [DecidableEq α] {zs : List α} : ∀ (j : Nat) (h : j < zs.length), zs[j] ∈ Lib.compact zs
  | 0, h => by
    unfold Lib.compact Lib.compactUpTo
    refine List.mem_map.2 ⟨0, List.mem_filter.2 ⟨List.mem_range.2 h, by simp [Lib.keeps]⟩, ?_⟩
    simp [h]
  | j + 1, h => by
    by_cases e : zs[j + 1] = zs[j]
    · rw [e]; exact cp_has j (by omega)
    · unfold Lib.compact Lib.compactUpTo
      refine List.mem_map.2 ⟨j + 1, List.mem_filter.2 ⟨List.mem_range.2 h, ?_⟩, ?_⟩
      · unfold Lib.keeps
        rw [decide_eq_true_eq]
        right
        rw [getElem!_pos _ (j + 1) (by simpa using h), getElem!_pos _ (j + 1 - 1) (by simp; omega)]
        simpa using e
      · simp [h]
theorem cpE_ss {zs : List EdT} (hs : zs.Pairwise fun a b => ltE b a = false) : SsE (Lib.compact zs) := by
  have key : ∀ m, m ≤ zs.length → (Lib.compactUpTo zs.toArray m).Pairwise (fun a b => ltE a b = true) ∧ (∀ x ∈ Lib.compactUpTo zs.toArray m, ∃ j, j < m ∧ ∃ h : j < zs.length, x = zs[j]) := by
    intro m
    induction m with
    | zero => intro _; exact ⟨by simp [Lib.compactUpTo], fun x hx => by simp [Lib.compactUpTo] at hx⟩
    | succ m ih =>
      intro hm
      obtain ⟨k1, k2⟩ := ih (by omega)
      rw [Lib.compactUpTo_succ]
      by_cases hk : Lib.keeps zs.toArray m = true
      · rw [if_pos hk]
        have hm' : m < zs.length := by omega
        have em : zs.toArray[m]! = zs[m] := by simp [hm']
        refine ⟨?_, fun x hx => ?_⟩
        · rw [List.pairwise_append]
          refine ⟨k1, by simp, fun x hx y hy => ?_⟩
          rw [List.mem_singleton.1 hy, em]
          obtain ⟨j, hj, hjl, rfl⟩ := k2 x hx
          unfold Lib.keeps at hk
          rw [decide_eq_true_eq] at hk
          have hm0 : m ≠ 0 := by omega
          have hk2 := hk.resolve_left hm0
          have e1 : zs.toArray[m - 1]! = zs[m - 1] := by simp [show m - 1 < zs.length by omega]
          rw [em, e1] at hk2
          have l1 : ltE zs[m] zs[m - 1] = false := (List.pairwise_iff_getElem.1 hs) (m - 1) m (by omega) hm' (by omega)
          have l3 : ltE zs[m - 1] zs[m] = true := by
            cases q : ltE zs[m - 1] zs[m]
            · exact absurd (totE _ _ l1 q) hk2
            · rfl
          rcases Nat.lt_or_ge j (m - 1) with q | q
          · have l2 : ltE zs[m - 1] zs[j] = false := (List.pairwise_iff_getElem.1 hs) j (m - 1) hjl (by omega) q
            rw [ltE_iff] at l3 ⊢
            rw [ltE_not] at l2
            omega
          · have : j = m - 1 := by omega
            subst this; exact l3
        · rcases List.mem_append.1 hx with hx | hx
          · obtain ⟨j, hj, q⟩ := k2 x hx
            exact ⟨j, by omega, q⟩
          · rw [List.mem_singleton.1 hx]; exact ⟨m, by omega, hm', em⟩
      · rw [if_neg hk, List.append_nil]
        exact ⟨k1, fun x hx => by obtain ⟨j, hj, q⟩ := k2 x hx; exact ⟨j, by omega, q⟩⟩
  exact (key zs.length (Nat.le_refl _)).1
theorem sortE_up (L : List EdT) : (sortE L).Pairwise fun a b => ltE b a = false := by
  have hp : (sortE L).Pairwise fun a b => (!ltE b a) = true := List.pairwise_mergeSort (le := fun x y => !ltE y x) (fun a b c h1 h2 => by
    simp only [Bool.not_eq_true', ltE_not] at *
    omega) (fun a b => by
    cases h1 : ltE b a
    · simp
    · cases h2 : ltE a b
      · simp
      · exact (ltE_as h1 h2).elim) L
  exact hp.imp fun q => by simpa using q
theorem riseE_ss (L : List EdT) : SsE (riseE L) := cpE_ss (sortE_up L)
theorem riseE_iff (L : List EdT) (x : EdT) : x ∈ riseE L ↔ x ∈ L := by
  constructor
  · intro h
    have := cp_mem h
    unfold sortE at this
    exact List.mem_mergeSort.1 this
  · intro h
    have h' : x ∈ sortE L := by unfold sortE; exact List.mem_mergeSort.2 h
    obtain ⟨j, hj, rfl⟩ := List.getElem_of_mem h'
    exact cp_has j hj
theorem riseE_len (L : List EdT) : (riseE L).length ≤ L.length := Nat.le_trans (compact_len _) (Nat.le_of_eq (sortE_len L))
theorem riseL_iff (L : List Int) (x : Int) : x ∈ riseL L ↔ x ∈ L := by
  constructor
  · intro h
    have := cp_mem h
    unfold sortI at this
    exact List.mem_mergeSort.1 this
  · intro h
    have h' : x ∈ sortI L := by unfold sortI; exact List.mem_mergeSort.2 h
    obtain ⟨j, hj, rfl⟩ := List.getElem_of_mem h'
    exact cp_has j hj
theorem riseL_len (L : List Int) : (riseL L).length ≤ L.length := Nat.le_trans (compact_len _) (Nat.le_of_eq (sortI_len L))

/-! ### The edges from a state by a symbol -/
theorem pre_count {α : Type} (P : α → Bool) : ∀ (L : List α), (L.Pairwise fun a b => P b = true → P a = true) → ∀ (i : Nat) (h : i < L.length), (P L[i] = true ↔ i < (L.filter P).length)
  | [], _, i, h => absurd h (Nat.not_lt_zero i)
  | a :: L, hp, i, h => by
    rw [List.pairwise_cons] at hp
    cases ha : P a
    · have hn : ∀ b ∈ L, P b = false := fun b hb => by
        cases hb2 : P b
        · rfl
        · rw [hp.1 b hb hb2] at ha; cases ha
      have hf : (a :: L).filter P = [] := by
        rw [List.filter_eq_nil_iff]
        intro b hb
        rcases List.mem_cons.1 hb with rfl | hb
        · simp [ha]
        · simp [hn b hb]
      rw [hf]
      cases i with
      | zero => simp [ha]
      | succ i =>
        have h2 : i < L.length := by simpa using h
        simp [hn L[i] (List.getElem_mem h2)]
    · rw [List.filter_cons_of_pos ha, List.length_cons]
      cases i with
      | zero => simp [ha]
      | succ i =>
        have h2 : i < L.length := by simpa using h
        have := pre_count P L hp.2 i h2
        rw [List.getElem_cons_succ, this]
        omega
theorem lessC_at {Es : List EdT} (hS : SsE Es) (c i : Nat) (h : i < Es.length) : Es[i].1 < (c : Int) ↔ i < lessC Es c := by
  have := pre_count (fun e : EdT => decide (e.1 < (c : Int))) Es (hS.imp fun {a b} hab hb => by
    rw [ltE_iff] at hab
    rw [decide_eq_true_eq] at hb ⊢
    omega) i h
  unfold lessC
  rw [← this, decide_eq_true_eq]
def fromL (Es : List EdT) (p : Nat) (y : Int) : List EdT := Es.filter fun e => decide (e.1 = (p : Int) ∧ e.2.1 = y)
theorem fromL_iff {Es : List EdT} {p : Nat} {y : Int} {x : EdT} : x ∈ fromL Es p y ↔ x ∈ Es ∧ x.1 = (p : Int) ∧ x.2.1 = y := by
  unfold fromL
  rw [List.mem_filter, decide_eq_true_eq]
theorem fromL_ss {Es : List EdT} (hS : SsE Es) (p : Nat) (y : Int) : SsE (fromL Es p y) := List.Pairwise.filter _ hS
/-- A part of a list. -/
def subL (Es : List EdT) (lo hi : Nat) : List EdT := (Es.drop lo).take (hi - lo)
theorem subL_len {Es : List EdT} {lo hi : Nat} (h : hi ≤ Es.length) : (subL Es lo hi).length = hi - lo := by
  unfold subL; rw [List.length_take, List.length_drop]; omega
theorem subL_get {Es : List EdT} {lo hi : Nat} (t : Nat) (h : t < (subL Es lo hi).length) : ∃ h2 : lo + t < Es.length, (subL Es lo hi)[t] = Es[lo + t] := by
  unfold subL at h ⊢
  rw [List.length_take, List.length_drop] at h
  refine ⟨by omega, ?_⟩
  rw [List.getElem_take, List.getElem_drop]
theorem subL_ss {Es : List EdT} (hS : SsE Es) (lo hi : Nat) : SsE (subL Es lo hi) := List.Pairwise.sublist ((List.take_sublist _ _).trans (List.drop_sublist _ _)) hS
theorem subL_rd {w : World} {g o : Nat} {Es : List EdT} (h : RdE w (some ⟨g, o, none⟩) Es) (lo hi : Nat) : RdE w (some ⟨g, o + lo * 3, none⟩) (subL Es lo hi) := fun j hj => by
  obtain ⟨h2, e⟩ := subL_get j hj
  obtain ⟨g', o', he, q1, q2, q3⟩ := h (lo + j) h2
  cases he
  rw [e]
  have z : o + lo * 3 + j * 3 = o + (lo + j) * 3 := by omega
  exact ⟨g, o + lo * 3, rfl, by rw [z]; exact q1, by rw [z]; exact q2, by rw [z]; exact q3⟩
/-- The part between a state's beginning and the next one's has the state's edges. -/
theorem part_from {Es : List EdT} (hS : SsE Es) {p t : Nat} (h : t < (subL Es (lessC Es p) (lessC Es (p + 1))).length) : (subL Es (lessC Es p) (lessC Es (p + 1)))[t].1 = (p : Int) := by
  obtain ⟨h2, e⟩ := subL_get t h
  rw [subL_len (lessC_le _ _)] at h
  have a1 := lessC_at hS p _ h2
  have a2 := lessC_at hS (p + 1) _ h2
  rw [e]
  have b1 : ¬ Es[lessC Es p + t].1 < (p : Int) := fun q => by have := a1.1 q; omega
  have b2 := a2.2 (by omega)
  omega
theorem part_up {Es : List EdT} (hS : SsE Es) {p : Nat} : ∀ i j (hi : i < (subL Es (lessC Es p) (lessC Es (p + 1))).length) (hj : j < (subL Es (lessC Es p) (lessC Es (p + 1))).length), i ≤ j → (subL Es (lessC Es p) (lessC Es (p + 1)))[i].2.1 ≤ (subL Es (lessC Es p) (lessC Es (p + 1)))[j].2.1 := fun i j hi hj hij => by
  rcases Nat.eq_or_lt_of_le hij with rfl | hlt
  · exact Int.le_refl _
  · have h := (List.pairwise_iff_getElem.1 (subL_ss hS _ _)) i j hi hj hlt
    have e1 := part_from hS hi
    have e2 := part_from hS hj
    rw [ltE_iff] at h
    omega
theorem from_eq {Es : List EdT} (hS : SsE Es) {p k z : Nat} {y : Int} {L : List EdT} (hL : subL Es (lessC Es p) (lessC Es (p + 1)) = L)
    (hk : ∀ t (h : t < L.length), L[t].2.1 < y ↔ t < k) (hkz : k ≤ z) (hm : ∀ t (h : t < L.length), k ≤ t → t < z → L[t].2.1 = y) (he : ∀ h : z < L.length, L[z].2.1 ≠ y) : subL L k z = fromL Es p y := by
  subst hL
  refine ss_eq _ _ (subL_ss (subL_ss hS _ _) _ _) (fromL_ss hS _ _) fun x => ⟨fun hx => ?_, fun hx => ?_⟩
  · obtain ⟨t, ht, rfl⟩ := List.getElem_of_mem hx
    obtain ⟨h2, e⟩ := subL_get t ht
    have hz : t < z - k := by
      have : (subL (subL Es (lessC Es p) (lessC Es (p + 1))) k z).length ≤ z - k := by unfold subL; exact List.length_take_le _ _
      omega
    rw [e, fromL_iff]
    exact ⟨List.mem_of_mem_drop (List.mem_of_mem_take (List.getElem_mem h2)), part_from hS h2, hm _ h2 (by omega) (by omega)⟩
  · rw [fromL_iff] at hx
    obtain ⟨hx, h1, h2⟩ := hx
    obtain ⟨i, hi, rfl⟩ := List.getElem_of_mem hx
    have a1 := lessC_at hS p i hi
    have a2 := lessC_at hS (p + 1) i hi
    have b1 : lessC Es p ≤ i := Nat.le_of_not_lt fun q => by have := a1.2 q; omega
    have b2 := a2.1 (by omega)
    obtain ⟨t, rfl⟩ : ∃ t, i = lessC Es p + t := ⟨i - lessC Es p, by omega⟩
    have ht : t < (subL Es (lessC Es p) (lessC Es (p + 1))).length := by rw [subL_len (lessC_le _ _)]; omega
    obtain ⟨h3, e⟩ := subL_get t ht
    rw [← e] at h2 ⊢
    have k1 : k ≤ t := Nat.le_of_not_lt fun q => by have := (hk t ht).2 q; omega
    have z1 : t < z := Nat.lt_of_not_le fun q => by
      have hzl : z < (subL Es (lessC Es p) (lessC Es (p + 1))).length := by omega
      have q1 := he hzl
      have q2 := part_up hS z t hzl ht q
      have q3 : ¬ (subL Es (lessC Es p) (lessC Es (p + 1)))[z].2.1 < y := fun q4 => by have := (hk z hzl).1 q4; omega
      omega
    generalize subL Es (lessC Es p) (lessC Es (p + 1)) = L at *
    have hl2 : t - k < (subL L k z).length := by unfold subL; rw [List.length_take, List.length_drop]; omega
    obtain ⟨h4, e4⟩ := subL_get (t - k) hl2
    have : L[t] = (subL L k z)[t - k] := by
      rw [e4]
      congr 1
      omega
    rw [this]
    exact List.getElem_mem hl2
end Go.Proofs.YtfoahpideglghaaGreatDoor
namespace Go.Proofs.YtfoahpideglghaaGreatDoor
open Go.RowKit Go.Maps
attribute [local go_sem] Oper.semAt_some

set_option maxRecDepth 100000 in
set_option maxHeartbeats 1000000 in
theorem from_any (w : World) (N p : Nat) (m y : Int) (a1 a2 : Option Addr) (l1 l2 c1 c2 g3 k3 gf : Nat) (Es : List EdT) (hE : Hid (RdE w (some ⟨g3, 0, none⟩) Es)) (hk : Es.length ≤ k3) (hM : Hid (Mrw w gf 3 (N + 1) (fun c => .int .i64 (lessC Es c : Nat)) (N + 1))) (hp : p < N) (hN : N ≤ 4096) (hS : Hid (SsE Es)) (hl : Es.length ≤ 4194304) :
    Calls Tryz.prog 92 #[.agg #[.int .i64 (N : Int), .int .i64 m, .slice a1 l1 c1, .slice a2 l2 c2, .slice (some ⟨g3, 0, none⟩) Es.length k3, .slice (some ⟨gf, 0, none⟩) (N + 1) (N + 1)], .int .i64 (p : Int), .int .i64 y] w fun e w' => ∃ o c, e = .returned (.slice (some ⟨g3, o, none⟩) (fromL Es p y).length c) ∧ Hid (RdE w (some ⟨g3, o, none⟩) (fromL Es p y)) ∧ Below w.heap.size w w' := by
  obtain ⟨W0, hW0⟩ : ∃ W0, w.alloc (.cells #[.int .i64 (N : Int), .int .i64 m, .slice a1 l1 c1, .slice a2 l2 c2, .slice (some ⟨g3, 0, none⟩) Es.length k3, .slice (some ⟨gf, 0, none⟩) (N + 1) (N + 1)] 80) = W0 := ⟨_, rfl⟩
  have HD : Hid (Below w.heap.size w W0) := hide (by rw [← hW0]; exact (Below.refl _ _).alloc (Nat.le_refl _) _)
  have b0 : W0.heap[w.heap.size]? = some (.cells #[.int .i64 (N : Int), .int .i64 m, .slice a1 l1 c1, .slice a2 l2 c2, .slice (some ⟨g3, 0, none⟩) Es.length k3, .slice (some ⟨gf, 0, none⟩) (N + 1) (N + 1)] 80 (0, 0)) := by rw [← hW0]; exact World.alloc_heap_new _ _
  have k4 : W0.cell? ⟨w.heap.size, 4, none⟩ = some (.slice (some ⟨g3, 0, none⟩) Es.length k3) := cell_of b0 rfl
  have k5 : W0.cell? ⟨w.heap.size, 5, none⟩ = some (.slice (some ⟨gf, 0, none⟩) (N + 1) (N + 1)) := cell_of b0 rfl
  have HM := hide (hM.out.below HD.out hM.out.lt)
  have HE := hide (hE.out.on HD.out)
  have r0 := HM.out.at p (by omega)
  have r1 := HM.out.at (p + 1) (by omega)
  have u0 := lessC_le Es p
  have u1 := lessC_le Es (p + 1)
  have u2 : lessC Es p ≤ lessC Es (p + 1) := by rw [lessC_succ]; omega
  have HL := hide (subL_len (Es := Es) (lo := lessC Es p) u1)
  have HR := hide (subL_rd hE.out (lessC Es p) (lessC Es (p + 1)))
  have HU0 : ∀ L, subL Es (lessC Es p) (lessC Es (p + 1)) = L → ∀ i j (hi : i < L.length) (hj : j < L.length), i ≤ j → L[i].2.1 ≤ L[j].2.1 := fun L hL => by subst hL; exact part_up hS.out (p := p)
  have HQ := hide (fun (k z : Nat) (L : List EdT) (hL : subL Es (lessC Es p) (lessC Es (p + 1)) = L) => from_eq (y := y) hS.out (k := k) (z := z) hL)
  obtain ⟨L, hL⟩ : ∃ L, subL Es (lessC Es p) (lessC Es (p + 1)) = L := ⟨_, rfl⟩
  have HU := hide (HU0 L hL)
  clear HU0
  simp only [hL] at HL HR HQ
  replace HQ := hide (fun (k z : Nat) => HQ.out k z L rfl)
  generalize fromL Es p y = F at HQ ⊢
  simp only [Nat.zero_add] at HR
  generalize lessC Es p = lo at *
  generalize lessC Es (p + 1) = hi at *
  have v0 : (0 : Int) ≤ (p : Int) := by omega
  have v1 : (p : Int) < (N : Int) + 1 := by omega
  have v2 : (p : Int) + 1 < (N : Int) + 1 := by omega
  have v3 : (lo : Int) ≤ (hi : Int) := by omega
  have v4 : (hi : Int) ≤ (k3 : Int) := by omega
  have v5 : (p : Int) ≤ 4096 := by omega
  clear b0 hM hE hL
  go_enter Tryz.func92, Tryz.ntmps92
  go_upto_region 1 with fail
  go_cut [7] from 7 to 26 (fun v W => ∃ o c, v = .slice (some ⟨g3, o, none⟩) L.length c ∧ L.length ≤ c ∧ Hid (RdE w (some ⟨g3, o, none⟩) L) ∧ Hid (Below W0.heap.size W0 W))
  case first =>
    refine wp_region_phase 14 #[true, true, true, true, true, true, true, true, true, true, true, true, true, true, false, false] (by kernel_rfl) (by kernel_rfl) ?_
    simp only [List.take_succ_cons, List.take_zero, List.drop_succ_cons, List.drop_zero]
    repeat (go_big_quiet_step (fail))
    refine wpQuiet_nil ?_
    intro wz hzz
    obtain ⟨nq, rfl⟩ := hzz
    go_wp2_with fail
    · rename k3 = lo => hkl
      subst hkl
      go_meet
      have hn : L = [] := List.eq_nil_of_length_eq_zero (by have := HL.out; omega)
      exact ⟨0, 0, by rw [HL.out], by rw [hn]; simp, hide (by rw [hn]; intro j hj; simp at hj), hide (below_drewN2 (Below.refl _ _) nq)⟩
    · go_meet
      exact ⟨lo * 3, k3 - lo, by rw [HL.out], by rw [HL.out]; omega, HR, hide (below_drewN2 (Below.refl _ _) nq)⟩
  case rest =>
    obtain ⟨o, c, rfl, hc, HR2, HB⟩ := hcut
    rename World => wx
    have TS := search_any wx (some ⟨g3, o, none⟩) L c y (hide (HR2.out.on (HD.out.trans (HB.out.mono HD.out.size)))) (by have := HL.out; omega) HU
    have hll : L.length ≤ 4194304 := by have := HL.out; omega
    clear k4 k5 r0 r1 HR HU HL
    go_wp2_with (go_at_call 114; refine TS.mono ?_; rintro e w2 ⟨k, rfl, hkl, hkk, d2⟩)
    have HK := hide hkk
    have HB2 := hide (HB.out.trans (d2.mono HB.out.size))
    clear hkk d2 TS
    go_loopw [11] (fun ev wr => ∃ z : Nat, k ≤ z ∧ z ≤ L.length ∧ ev = .int .i64 z ∧ Hid (∀ t (h : t < L.length), k ≤ t → t < z → L[t].2.1 = y) ∧ Hid (Below W0.heap.size W0 wr)) (fun ev _ => L.length - (intOf ev).toNat)
    case atStart => exact ⟨k, Nat.le_refl _, hkl, rfl, hide (fun t _ h1 h2 => absurd h1 (by omega)), HB2⟩
    case round =>
      obtain ⟨z, hkz, hzl, rfl, HZ, HW⟩ := hrel
      clear HB2
      have fin : Hid ((∀ h : z < L.length, L[z].2.1 ≠ y) → subL L k z = F) := hide (fun he => HQ.out k z HK.out hkz HZ.out he)
      by_cases hz : z < L.length
      · obtain ⟨g', o', he, q0, q1, q2⟩ := (HR2.out.on (HD.out.trans (HW.out.mono HD.out.size))) z hz
        cases he
        have i0 : (0 : Int) ≤ (z : Int) := by omega
        have i1 : (z : Int) < (L.length : Int) := by omega
        by_cases hy : L[z].2.1 = y
        · have hy2 : (L[z].2.1 == y) = true := by simpa using hy
          have HZ2 : Hid (∀ t (h : t < L.length), k ≤ t → t < z + 1 → L[t].2.1 = y) := hide (fun t ht h1 h2 => by
            rcases Nat.lt_or_ge t z with h3 | h3
            · exact HZ.out t ht h1 h3
            · obtain rfl : t = z := by omega
              exact hy)
          rw [hy] at q1
          clear hy hy2
          go_wp2
          exact ⟨⟨z + 1, by omega, by omega, by go_num, HZ2, HW⟩, by simp [intOf]; omega⟩
        · have hy2 : (L[z].2.1 == y) = false := by simpa using hy
          have FN := hide (fin.out (fun _ => hy))
          generalize L[z].2.1 = x1 at q1 hy hy2
          have k0 : (k : Int) ≤ (z : Int) := by omega
          have k1 : (z : Int) ≤ (c : Int) := by omega
          go_wp2
          refine bodyPost_ret (results_tmp rfl _ _ _) rfl ?_
          exact ⟨o + k * 3, c - k, by rw [← FN.out, subL_len hzl]; rfl, hide (by rw [← FN.out]; exact subL_rd HR2.out k z), HD.out.trans (HW.out.mono HD.out.size)⟩
      · have FN := hide (fin.out (fun q => absurd q hz))
        have i1 : ¬ (z : Int) < (L.length : Int) := by omega
        have k0 : (k : Int) ≤ (z : Int) := by omega
        have k1 : (z : Int) ≤ (c : Int) := by omega
        by_cases hck : c = k
        · have hn : F = [] := by rw [← FN.out]; exact List.eq_nil_of_length_eq_zero (by rw [subL_len hzl]; omega)
          have e0 : z - k = 0 := by omega
          go_wp2
          refine bodyPost_ret (results_tmp rfl _ _ _) rfl ?_
          subst hn
          simp only
          exact ⟨o, ⟨0, rfl⟩, hide (by intro j hj; simp at hj), HD.out.trans (HW.out.mono HD.out.size)⟩
        · go_wp2
          refine bodyPost_ret (results_tmp rfl _ _ _) rfl ?_
          exact ⟨o + k * 3, ⟨c - k, by rw [← FN.out, subL_len hzl]; rfl⟩, hide (by rw [← FN.out]; exact subL_rd HR2.out k z), HD.out.trans (HW.out.mono HD.out.size)⟩
end Go.Proofs.YtfoahpideglghaaGreatDoor
