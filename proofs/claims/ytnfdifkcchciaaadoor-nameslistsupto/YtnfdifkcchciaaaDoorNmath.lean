import Derived.Test.YtnfdifkcchciaaaDoorLiv
namespace Go.Proofs.YtnfdifkcchciaaaDoor
open Go.RowKit Go.Maps

/-- What is known of a merged list and its two maps. -/
structure MF (a b M : List ByteArray) (P Q : List Nat) : Prop where
  lp : P.length = a.length
  lq : Q.length = b.length
  p : ∀ i (h1 : i < P.length) (h2 : i < a.length), ∃ h3 : P[i] < M.length, M[P[i]] = a[i]
  q : ∀ i (h1 : i < Q.length) (h2 : i < b.length), ∃ h3 : Q[i] < M.length, M[Q[i]] = b[i]
  la : a.length ≤ M.length
  ta : M.take a.length = a
  hit : ∀ j, j < M.length → 1 ≤ (P ++ Q).count j
  nod : M.Nodup
  val : M.all vld = true
  len : M.length ≤ a.length + b.length
  sub : ∀ s ∈ b, s ∈ M
  sml : (∀ s ∈ a, s.size ≤ 1048576) → (∀ s ∈ b, s.size ≤ 1048576) → ∀ s ∈ M, s.size ≤ 1048576

theorem mf_of (a b : List ByteArray) (h1 : a.all vld = true) (h2 : b.all vld = true) (n1 : a.Nodup) (n2 : b.Nodup) : MF a b (mrg a b) (List.range a.length) (qOf a b) := by
  have hla : a.length ≤ (mrg a b).length := by simp [mrg]
  have hgp : ∀ i (hi : i < a.length), (mrg a b)[i]'(by omega) = a[i] := fun i hi => by
    simp only [mrg]; rw [List.getElem_append_left hi]
  have hq : ∀ i (h1 : i < (qOf a b).length) (h2 : i < b.length), ∃ h3 : (qOf a b)[i] < (mrg a b).length, (mrg a b)[(qOf a b)[i]] = b[i] := fun i h1 h2 => by
    have e : (qOf a b)[i] = (mrg a b).idxOf b[i] := by simp [qOf]
    have hm : b[i] ∈ mrg a b := mem_mrg.2 (.inr (List.getElem_mem h2))
    have hl := ix_lt.2 hm
    refine ⟨by rw [e]; exact hl, ?_⟩
    simp only [e]
    exact ix_get hl
  refine ⟨by simp, qOf_length a b, fun i h1 h2 => ⟨by simp; omega, by simp only [List.getElem_range]; exact hgp i h2⟩, hq, hla, by simp [mrg], fun j hj => ?_, mrg_nodup n1 n2, ?_, mrg_len a b, fun s hs => mem_mrg.2 (.inr hs), fun ha hb s hs => ?_⟩
  · by_cases hja : j < a.length
    · have : j ∈ List.range a.length ++ qOf a b := by simp [hja]
      exact List.count_pos_iff.2 this
    · have hm : (mrg a b)[j] ∈ b := by
        simp only [mrg]
        rw [List.getElem_append_right (by omega)]
        exact (List.mem_filter.1 (List.getElem_mem _)).1
      have : j ∈ List.range a.length ++ qOf a b := by
        rw [List.mem_append]
        right
        unfold qOf
        rw [List.mem_map]
        exact ⟨(mrg a b)[j], hm, (nodup_iff _).1 (mrg_nodup n1 n2) j hj⟩
      exact List.count_pos_iff.2 this
  · rw [List.all_eq_true] at *
    intro s hs
    rcases mem_mrg.1 hs with h | h
    · exact h1 s h
    · exact h2 s h
  · rcases mem_mrg.1 hs with h | h
    · exact ha s h
    · exact hb s h

theorem mrg_sub {a b : List ByteArray} (h : ∀ s ∈ b, s ∈ a) : mrg a b = a := by
  unfold mrg
  rw [List.filter_eq_nil_iff.2 (fun s hs => by simp [mem_c.2 (h s hs)]), List.append_nil]

/-- How often each place stands in a list. -/
def hits (L : List Nat) (n : Nat) : List Nat := (List.range n).map fun j => L.count j
theorem hits_length (L : List Nat) (n : Nat) : (hits L n).length = n := by simp [hits]
theorem hits_nil (n : Nat) : intV (hits [] n) = List.replicate n (.int .i64 0) := by
  apply List.ext_getElem?
  intro j
  simp only [intV, hits, List.map_map, List.getElem?_map, List.getElem?_replicate]
  by_cases h : j < n
  · simp [h]
  · simp [h]
theorem hits_get (L : List Nat) (n x : Nat) (h : x < n) : (intV (hits L n))[x]? = some (.int .i64 (L.count x : Nat)) := by
  simp [intV, hits, h]
theorem hits_snoc (L : List Nat) (n x : Nat) (v : Int) (hv : v = ((L.count x + 1 : Nat) : Int)) : (intV (hits L n)).set x (.int .i64 v) = intV (hits (L ++ [x]) n) := by
  apply List.ext_getElem?
  intro j
  rw [List.getElem?_set]
  simp only [intV, hits, List.map_map, List.getElem?_map, List.length_map, List.length_range]
  by_cases e : x = j
  · subst e
    rw [if_pos rfl]
    by_cases h : x < n
    · rw [if_pos h, List.getElem?_range h]; simp [hv]
    · rw [if_neg h, List.getElem?_eq_none (by simp; omega)]; rfl
  · rw [if_neg e]
    by_cases h : j < n
    · rw [List.getElem?_range h]
      simp [List.count_singleton, e]
    · rw [List.getElem?_eq_none (by simp; omega)]; rfl

set_option maxRecDepth 100000 in
set_option maxHeartbeats 1000000 in
theorem same_q (v1 v2 : Value) (l : List ByteArray) (w : World) (h1 : StrS w v1 l) (h2 : StrS w v2 l) (hs : l.length ≤ 4194304) :
    Calls Tryd.prog 15 #[v1, v2] w fun e w' => e = .returned (.bool true) ∧ ∃ q, w' = w.drewN q := by
  obtain ⟨a1, c1, rfl, r1⟩ := h1
  obtain ⟨a2, c2, rfl, r2⟩ := h2
  have HR := hide (And.intro r1 r2)
  clear r1 r2
  go_enter Tryd.func15, Tryd.ntmps15
  go_wp2
  go_loopw [13] (fun i wr => ∃ k q : Nat, k ≤ l.length ∧ i = .int .i64 k ∧ wr = w.drewN q) (fun i _ => l.length - (intOf i).toNat)
  case atStart => exact ⟨0, 0, Nat.zero_le _, rfl, rfl⟩
  case round =>
    obtain ⟨k, q, hk, rfl, rfl⟩ := hrel
    by_cases hlt : k < l.length
    · obtain ⟨g1, o1, rfl, q1⟩ := HR.out.1 k hlt
      obtain ⟨g2, o2, rfl, q2⟩ := HR.out.2 k hlt
      have i0 : (0 : Int) ≤ (k : Int) := by omega
      have i2 : (k : Int) < (l.length : Int) := by omega
      generalize l[k] = s at q1 q2
      go_wp2_with fail
      go_quiet (fail)
      go_wp2
      go_roundw
      case rel => exact ⟨k + 1, _, by omega, by go_num, rfl⟩
      case measure => simp [intOf]; omega
    · have i2 : ¬ (k : Int) < (l.length : Int) := by omega
      go_wp2
      go_ret
      exact ⟨rfl, q, rfl⟩

set_option maxRecDepth 100000 in
set_option maxHeartbeats 1000000 in
theorem place_q (v va vl : Value) (all : List ByteArray) (at' : List Nat) (l : List ByteArray) (w : World) (h : StrS w v all) (ha : IntS w va at') (hl : StrS w vl l)
    (hlen : at'.length = l.length) (hat : ∀ i (h1 : i < at'.length) (h2 : i < l.length), ∃ h3 : at'[i] < all.length, all[at'[i]] = l[i]) (_hs : all.length ≤ 4194304) (hs2 : l.length ≤ 4194304) :
    Calls Tryd.prog 17 #[v, va, vl] w fun e w' => e = .returned (.bool true) ∧ ∃ q, w' = w.drewN q := by
  obtain ⟨a1, c1, rfl, r1⟩ := h
  obtain ⟨a2, c2, rfl, r2⟩ := ha
  obtain ⟨a3, c3, rfl, r3⟩ := hl
  have HR := hide (And.intro r1 (And.intro r2 r3))
  have HA := hide (And.intro hlen hat)
  rw [hlen]
  clear r1 r2 r3 hat hlen
  go_enter Tryd.func17, Tryd.ntmps17
  go_wp2
  go_loopw [15] (fun i wr => ∃ k q : Nat, k ≤ l.length ∧ i = .int .i64 k ∧ wr = w.drewN q) (fun i _ => l.length - (intOf i).toNat)
  case atStart => exact ⟨0, 0, Nat.zero_le _, rfl, rfl⟩
  case round =>
    obtain ⟨k, q, hk, rfl, rfl⟩ := hrel
    by_cases hlt : k < l.length
    · have hlt2 : k < at'.length := by have := HA.out.1; omega
      obtain ⟨h3, h4⟩ := HA.out.2 k hlt2 hlt
      obtain ⟨g2, o2, rfl, q2⟩ := HR.out.2.1 k hlt2
      obtain ⟨g3, o3, rfl, q3⟩ := HR.out.2.2 k hlt
      obtain ⟨g1, o1, rfl, q1⟩ := HR.out.1 _ h3
      rw [h4] at q1
      generalize l[k] = s at q1 q3 h4
      generalize at'[k] = x at q1 q2 h3 h4
      clear h4
      have i0 : (0 : Int) ≤ (k : Int) := by omega
      have i2 : (k : Int) < (l.length : Int) := by omega
      have j0 : (0 : Int) ≤ (x : Int) := by omega
      have j1 : ¬ (x : Int) < 0 := by omega
      have j2 : (x : Int) < (all.length : Int) := by omega
      have j3 : ¬ (x : Int) ≥ (all.length : Int) := by omega
      go_wp2_with fail
      go_quiet (fail)
      go_wp2
      go_roundw
      case rel => exact ⟨k + 1, _, by omega, by go_num, rfl⟩
      case measure => simp [intOf]; omega
    · have i2 : ¬ (k : Int) < (l.length : Int) := by omega
      go_wp2
      go_ret
      exact ⟨rfl, q, rfl⟩

/-- all[:m]. -/
theorem cut_at (ao : Option Addr) (n cp m : Nat) (M : List ByteArray) (w : World) (h : StrS w (.slice ao n cp) M) (hm : m ≤ M.length) (hc : n ≤ cp) :
    ∃ vs, (∀ W : World, (Instr.slice 22 (.slice ao n cp) none (some (.int .i64 (m : Int))) none).run Tryd.prog W = .ok vs W) ∧ StrS w vs (M.take m) := by
  obtain ⟨ao', cp', e, hr⟩ := h
  simp only [Value.slice.injEq] at e
  obtain ⟨rfl, rfl, rfl⟩ := e
  refine ⟨.slice (if cp = 0 then ao else ao.map (·.add (0 * 1))) m cp, fun W => ?_, ?_⟩
  · have h1 : (0 : Int) ≤ (m : Int) ∧ (m : Int) ≤ (cp : Int) := by omega
    simp [Instr.slice, run_underlying Tryd.underlying22, Instr.sliceBounds, Instr.sliceBound, asIntOf, h1]
    intro h; omega
  · refine ⟨_, cp, by rw [List.length_take, Nat.min_eq_left hm], fun k hk => ?_⟩
    have hk' : k < M.length := by simp at hk; omega
    obtain ⟨g, o, rfl, hq⟩ := hr k hk'
    refine ⟨g, o, ?_, by rw [List.getElem_take]; exact hq⟩
    by_cases h0 : cp = 0
    · rw [if_pos h0]
    · rw [if_neg h0]; simp [Addr.add_lit]

end Go.Proofs.YtnfdifkcchciaaaDoor
