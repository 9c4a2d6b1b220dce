import Derived.Test.YtojnlpicgemlaaaGreatDoorWc
namespace Go.Proofs.YtojnlpicgemlaaaGreatDoor
open Go.RowKit Go.Maps Go.Shelf
attribute [local go_sem] Oper.semAt_some

/-! ### Trim: both answer the same -/
theorem uL_mem {U : Nat → Bool} {N q : Nat} : q ∈ uL U N ↔ q < N ∧ U q = true := by
  unfold uL
  rw [List.mem_filter, List.mem_range]
theorem uL_idx {U : Nat → Bool} {N : Nat} : ∀ {q : Nat}, q < N → U q = true → (uL U N).idxOf q = (uL U q).length := by
  induction N with
  | zero => intro q hq; omega
  | succ N ih =>
    intro q hq hu
    by_cases e : q = N
    · subst e
      rw [uL_yes hu, List.idxOf_append, if_neg (fun h => by have := (uL_mem.1 h).1; omega)]
      simp
    · have hq' : q < N := by omega
      cases hN : U N
      · rw [uL_no hN]; exact ih hq' hu
      · rw [uL_yes hN, List.idxOf_append, if_pos (uL_mem.2 ⟨hq', hu⟩)]; exact ih hq' hu
theorem numT_uN {U : Nat → Bool} {N q : Nat} (hq : q < N) (hu : U q = true) : numT (uL U N) q = uN U q := by
  unfold numT numA uN
  rw [if_pos hu, List.take_length, if_pos (uL_mem.2 ⟨hq, hu⟩), uL_idx hq hu]
theorem use_uL {U : Nat → Bool} {N : Nat} {St Fi : List Int} {Ed : List EdT} (h : ∀ q, q < N → (U q = true ↔ useP St Fi Ed q)) : elems N (useX N St Fi Ed) = uL U N := by
  unfold elems uL
  refine List.filter_congr (fun q hq => ?_)
  have hq' := List.mem_range.1 hq
  rw [Bool.eq_iff_iff, useX_test, h q hq']
  exact ⟨fun h => h.2, fun h => ⟨hq', h⟩⟩
theorem use_has {U : Nat → Bool} {N q : Nat} {St Fi : List Int} {Ed : List EdT} (h : ∀ q, q < N → (U q = true ↔ useP St Fi Ed q)) (hq : q < N) : hasB (useX N St Fi Ed) (q : Int) = U q := by
  have : (useX N St Fi Ed).testBit q = U q := by
    rw [Bool.eq_iff_iff, useX_test, h q hq]
    exact ⟨fun h => h.2, fun h => ⟨hq, h⟩⟩
  rw [← this]
  simp [hasB]
theorem ren_dL {U : Nat → Bool} {N : Nat} {St Fi L : List Int} {Ed : List EdT} (h : ∀ q, q < N → (U q = true ↔ useP St Fi Ed q)) (hL : ∀ x ∈ L, ∃ q : Nat, q < N ∧ x = (q : Int)) : renL (useX N St Fi Ed) (numT (uL U N)) L = dL U L := by
  unfold renL dL
  have e1 : L.filter (fun p => hasB (useX N St Fi Ed) p) = L.filter (fun x => U x.toNat) := List.filter_congr (fun x hx => by
    obtain ⟨q, hq, rfl⟩ := hL x hx
    rw [use_has h hq, Int.toNat_natCast])
  rw [e1]
  refine List.map_congr_left (fun x hx => ?_)
  have h1 := List.mem_filter.1 hx
  obtain ⟨q, hq, rfl⟩ := hL x h1.1
  rw [Int.toNat_natCast]
  exact numT_uN hq (by simpa using h1.2)
theorem ren_dE {U : Nat → Bool} {N : Nat} {St Fi : List Int} {Ed L : List EdT} (h : ∀ q, q < N → (U q = true ↔ useP St Fi Ed q)) (hL : ∀ e ∈ L, ∃ p r : Nat, p < N ∧ r < N ∧ e.1 = (p : Int) ∧ e.2.2 = (r : Int)) : renE (useX N St Fi Ed) (numT (uL U N)) L = dE U L := by
  unfold renE dE
  have e1 : L.filter (fun e => hasB (useX N St Fi Ed) e.1 && hasB (useX N St Fi Ed) e.2.2) = L.filter (fun e => U e.1.toNat && U e.2.2.toNat) := List.filter_congr (fun e he => by
    obtain ⟨p, r, hp, hr, h1, h2⟩ := hL e he
    rw [h1, h2, use_has h hp, use_has h hr, Int.toNat_natCast, Int.toNat_natCast])
  rw [e1]
  refine List.map_congr_left (fun e he => ?_)
  have h1 := List.mem_filter.1 he
  obtain ⟨p, r, hp, hr, h2, h3⟩ := hL e h1.1
  have h4 := h1.2
  rw [h2, h3, Int.toNat_natCast, Int.toNat_natCast, Bool.and_eq_true] at h4
  rw [h2, h3, Int.toNat_natCast, Int.toNat_natCast, numT_uN hp h4.1, numT_uN hr h4.2]
theorem uN_up {U : Nat → Bool} {p q : Nat} (hp : U p = true) (hq : U q = true) (h : p < q) : uN U p < uN U q := by
  have h1 := uN_lt hp h
  unfold uN at *
  rw [if_pos hp] at *
  rw [if_pos hq]
  exact h1.2
/-- What is renamed in order is in order. -/
theorem rise_dL {U : Nat → Bool} {N : Nat} {L : List Int} (hL : ∀ x ∈ L, ∃ q : Nat, q < N ∧ x = (q : Int)) : riseL (dL U L) = dL U (riseL L) := by
  refine up_eqI _ _ (riseL_ss _) ?_ (fun x => ?_)
  · unfold dL
    rw [List.pairwise_map]
    have h1 : ((riseL L).filter fun x => U x.toNat).Pairwise (· < ·) := (riseL_ss L).filter _
    refine List.Pairwise.imp_of_mem ?_ h1
    intro a b ha hb hab
    have ha' := List.mem_filter.1 ha
    have hb' := List.mem_filter.1 hb
    obtain ⟨p, hp, rfl⟩ := hL a ((riseL_iff L a).1 ha'.1)
    obtain ⟨q, hq, rfl⟩ := hL b ((riseL_iff L b).1 hb'.1)
    rw [Int.toNat_natCast, Int.toNat_natCast]
    exact uN_up (by simpa using ha'.2) (by simpa using hb'.2) (by omega)
  · rw [riseL_iff]
    unfold dL
    rw [List.mem_map, List.mem_map]
    refine exists_congr (fun y => and_congr ?_ Iff.rfl)
    rw [List.mem_filter, List.mem_filter, riseL_iff]
theorem rise_dE {U : Nat → Bool} {N : Nat} {L : List EdT} (hL : ∀ e ∈ L, ∃ p r : Nat, p < N ∧ r < N ∧ e.1 = (p : Int) ∧ e.2.2 = (r : Int)) : riseE (dE U L) = dE U (riseE L) := by
  refine ss_eq _ _ (riseE_ss _) ?_ (fun x => ?_)
  · unfold SsE dE
    rw [List.pairwise_map]
    have h1 : ((riseE L).filter fun e => U e.1.toNat && U e.2.2.toNat).Pairwise (fun a b => ltE a b = true) := (riseE_ss L).filter _
    refine List.Pairwise.imp_of_mem ?_ h1
    intro a b ha hb hab
    have ha' := List.mem_filter.1 ha
    have hb' := List.mem_filter.1 hb
    obtain ⟨p, r, hp, hr, a1, a2⟩ := hL a ((riseE_iff L a).1 ha'.1)
    obtain ⟨p', r', hp', hr', b1, b2⟩ := hL b ((riseE_iff L b).1 hb'.1)
    have ua := ha'.2
    have ub := hb'.2
    rw [a1, a2, Int.toNat_natCast, Int.toNat_natCast, Bool.and_eq_true] at ua
    rw [b1, b2, Int.toNat_natCast, Int.toNat_natCast, Bool.and_eq_true] at ub
    rw [ltE_iff] at hab ⊢
    simp only [a1, a2, b1, b2, Int.toNat_natCast] at hab ⊢
    rcases hab with h | ⟨h, h'⟩
    · exact .inl (uN_up ua.1 ub.1 (by omega))
    · have e : p = p' := by omega
      subst e
      rcases h' with h' | ⟨h', h''⟩
      · exact .inr ⟨rfl, .inl h'⟩
      · exact .inr ⟨rfl, .inr ⟨h', uN_up ua.2 ub.2 (by omega)⟩⟩
  · rw [riseE_iff]
    unfold dE
    rw [List.mem_map, List.mem_map]
    refine exists_congr (fun y => and_congr ?_ Iff.rfl)
    rw [List.mem_filter, List.mem_filter, riseE_iff]
end Go.Proofs.YtojnlpicgemlaaaGreatDoor
namespace Go.Proofs.YtojnlpicgemlaaaGreatDoor
open Go.RowKit Go.Maps Go.Shelf
attribute [local go_sem] Oper.semAt_some

/-! ### trims -/
/-- An automaton, a list and an error, answered. -/
def AnsT (w' : World) (K m' : Int) (S F : List Int) (E : List EdT) (L : List Int) (er : Int) (e : Ending) : Prop := ∃ a1 a2 a3 ao c1 c2 c3 co, e = .returned (.tuple #[.agg #[.int .i64 K, .int .i64 m', .slice a1 S.length c1, .slice a2 F.length c2, .slice a3 E.length c3], .slice ao L.length co, .int .i64 er]) ∧ RdA w' a1 a2 a3 S F E ∧ RdN w' ao L
theorem ansT_own {B : Nat} {w' : World} {K m' : Int} {S F L : List Int} {E : List EdT} {v1 v2 v3 vo : Value} (o1 : OwnL B w' v1 S) (o2 : OwnL B w' v2 F) (o3 : w'.ownsRow B 42 3 v3 E.length (E.flatMap encE)) (o4 : OwnL B w' vo L) : AnsT w' K m' S F E L 0 (.returned (.tuple #[.agg #[.int .i64 K, .int .i64 m', v1, v2, v3], vo, .int .i64 0])) := by
  obtain ⟨a1, c1, rfl, r1⟩ := la_own o1
  obtain ⟨a2, c2, rfl, r2⟩ := la_own o2
  obtain ⟨a3, c3, rfl⟩ := own_slice o3
  obtain ⟨ao, co, rfl, r4⟩ := la_own o4
  exact ⟨a1, a2, a3, ao, c1, c2, c3, co, rfl, ⟨r1, r2, own_rdE o3⟩, r4⟩
end Go.Proofs.YtojnlpicgemlaaaGreatDoor
