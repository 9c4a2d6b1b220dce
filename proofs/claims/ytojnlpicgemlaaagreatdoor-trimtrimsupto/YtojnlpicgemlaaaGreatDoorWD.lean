import Derived.Test.YtojnlpicgemlaaaGreatDoorWc
namespace Go.Proofs.YtojnlpicgemlaaaGreatDoor
open Go.RowKit Go.Maps Go.Shelf
attribute [local go_sem] Oper.semAt_some

/-! ### Trim: both answer the same -/
theorem uL_mem {U : Nat → Bool} {N q : Nat} : q ∈ uL U N ↔ q < N ∧ U q = true := by
  unfold uL
  rw [List.mem_filter, List.mem_range]
theorem uL_idx {U : Nat → Bool} {N : Nat} : ∀ {q : Nat}, q < N → U q = true → (uL U N).idxOf q = (uL U q).length := by
  induction N with
  | zero => intro q hq; omega
  | succ N ih =>
    intro q hq hu
    by_cases e : q = N
    · subst e
      rw [uL_yes hu, List.idxOf_append, if_neg (fun h => by have := (uL_mem.1 h).1; omega)]
      simp
    · have hq' : q < N := by omega
      cases hN : U N
      · rw [uL_no hN]; exact ih hq' hu
      · rw [uL_yes hN, List.idxOf_append, if_pos (uL_mem.2 ⟨hq', hu⟩)]; exact ih hq' hu
theorem numT_uN {U : Nat → Bool} {N q : Nat} (hq : q < N) (hu : U q = true) : numT (uL U N) q = uN U q := by
  unfold numT numA uN
  rw [if_pos hu, List.take_length, if_pos (uL_mem.2 ⟨hq, hu⟩), uL_idx hq hu]
theorem use_uL {U : Nat → Bool} {N : Nat} {St Fi : List Int} {Ed : List EdT} (h : ∀ q, q < N → (U q = true ↔ useP St Fi Ed q)) : elems N (useX N St Fi Ed) = uL U N := by
  unfold elems uL
  refine List.filter_congr (fun q hq => ?_)
  have hq' := List.mem_range.1 hq
  rw [Bool.eq_iff_iff, useX_test, h q hq']
  exact ⟨fun h => h.2, fun h => ⟨hq', h⟩⟩
theorem use_has {U : Nat → Bool} {N q : Nat} {St Fi : List Int} {Ed : List EdT} (h : ∀ q, q < N → (U q = true ↔ useP St Fi Ed q)) (hq : q < N) : hasB (useX N St Fi Ed) (q : Int) = U q := by
  have : (useX N St Fi Ed).testBit q = U q := by
    rw [Bool.eq_iff_iff, useX_test, h q hq]
    exact ⟨fun h => h.2, fun h => ⟨hq, h⟩⟩
  rw [← this]
  simp [hasB]
theorem ren_dL {U : Nat → Bool} {N : Nat} {St Fi L : List Int} {Ed : List EdT} (h : ∀ q, q < N → (U q = true ↔ useP St Fi Ed q)) (hL : ∀ x ∈ L, ∃ q : Nat, q < N ∧ x = (q : Int)) : renL (useX N St Fi Ed) (numT (uL U N)) L = dL U L := by
  unfold renL dL
  have e1 : L.filter (fun p => hasB (useX N St Fi Ed) p) = L.filter (fun x => U x.toNat) := List.filter_congr (fun x hx => by
    obtain ⟨q, hq, rfl⟩ := hL x hx
    rw [use_has h hq, Int.toNat_natCast])
  rw [e1]
  refine List.map_congr_left (fun x hx => ?_)
  have h1 := List.mem_filter.1 hx
  obtain ⟨q, hq, rfl⟩ := hL x h1.1
  rw [Int.toNat_natCast]
  exact numT_uN hq (by simpa using h1.2)
theorem ren_dE {U : Nat → Bool} {N : Nat} {St Fi : List Int} {Ed L : List EdT} (h : ∀ q, q < N → (U q = true ↔ useP St Fi Ed q)) (hL : ∀ e ∈ L, ∃ p r : Nat, p < N ∧ r < N ∧ e.1 = (p : Int) ∧ e.2.2 = (r : Int)) : renE (useX N St Fi Ed) (numT (uL U N)) L = dE U L := by
  unfold renE dE
  have e1 : L.filter (fun e => hasB (useX N St Fi Ed) e.1 && hasB (useX N St Fi Ed) e.2.2) = L.filter (fun e => U e.1.toNat && U e.2.2.toNat) := List.filter_congr (fun e he => by
    obtain ⟨p, r, hp, hr, h1, h2⟩ := hL e he
    rw [h1, h2, use_has h hp, use_has h hr, Int.toNat_natCast, Int.toNat_natCast])
  rw [e1]
  refine List.map_congr_left (fun e he => ?_)
  have h1 := List.mem_filter.1 he
  obtain ⟨p, r, hp, hr, h2, h3⟩ := hL e h1.1
  have h4 := h1.2
  rw [h2, h3, Int.toNat_natCast, Int.toNat_natCast, Bool.and_eq_true] at h4
  rw [h2, h3, Int.toNat_natCast, Int.toNat_natCast, numT_uN hp h4.1, numT_uN hr h4.2]
theorem uN_up {U : Nat → Bool} {p q : Nat} (hp : U p = true) (hq : U q = true) (h : p < q) : uN U p < uN U q := by
  have h1 := uN_lt hp h
  unfold uN at *
  rw [if_pos hp] at *
  rw [if_pos hq]
  exact h1.2
/-- What is renamed in order is in order. -/
theorem rise_dL {U : Nat → Bool} {N : Nat} {L : List Int} (hL : ∀ x ∈ L, ∃ q : Nat, q < N ∧ x = (q : Int)) : riseL (dL U L) = dL U (riseL L) := by
  refine up_eqI _ _ (riseL_ss _) ?_ (fun x => ?_)
  · unfold dL
    rw [List.pairwise_map]
    have h1 : ((riseL L).filter fun x => U x.toNat).Pairwise (· < ·) := (riseL_ss L).filter _
    refine List.Pairwise.imp_of_mem ?_ h1
    intro a b ha hb hab
    have ha' := List.mem_filter.1 ha
    have hb' := List.mem_filter.1 hb
    obtain ⟨p, hp, rfl⟩ := hL a ((riseL_iff L a).1 ha'.1)
    obtain ⟨q, hq, rfl⟩ := hL b ((riseL_iff L b).1 hb'.1)
    rw [Int.toNat_natCast, Int.toNat_natCast]
    exact uN_up (by simpa using ha'.2) (by simpa using hb'.2) (by omega)
  · rw [riseL_iff]
    unfold dL
    rw [List.mem_map, List.mem_map]
    refine exists_congr (fun y => and_congr ?_ Iff.rfl)
    rw [List.mem_filter, List.mem_filter, riseL_iff]
theorem rise_dE {U : Nat → Bool} {N : Nat} {L : List EdT} (hL : ∀ e ∈ L, ∃ p r : Nat, p < N ∧ r < N ∧ e.1 = (p : Int) ∧ e.2.2 = (r : Int)) : riseE (dE U L) = dE U (riseE L) := by
  refine ss_eq _ _ (riseE_ss _) ?_ (fun x => ?_)
  · unfold SsE dE
    rw [List.pairwise_map]
    have h1 : ((riseE L).filter fun e => U e.1.toNat && U e.2.2.toNat).Pairwise (fun a b => ltE a b = true) := (riseE_ss L).filter _
    refine List.Pairwise.imp_of_mem ?_ h1
    intro a b ha hb hab
    have ha' := List.mem_filter.1 ha
    have hb' := List.mem_filter.1 hb
    obtain ⟨p, r, hp, hr, a1, a2⟩ := hL a ((riseE_iff L a).1 ha'.1)
    obtain ⟨p', r', hp', hr', b1, b2⟩ := hL b ((riseE_iff L b).1 hb'.1)
    have ua := ha'.2
    have ub := hb'.2
    rw [a1, a2, Int.toNat_natCast, Int.toNat_natCast, Bool.and_eq_true] at ua
    rw [b1, b2, Int.toNat_natCast, Int.toNat_natCast, Bool.and_eq_true] at ub
    rw [ltE_iff] at hab ⊢
    simp only [a1, a2, b1, b2, Int.toNat_natCast] at hab ⊢
    rcases hab with h | ⟨h, h'⟩
    · exact .inl (uN_up ua.1 ub.1 (by omega))
    · have e : p = p' := by omega
      subst e
      rcases h' with h' | ⟨h', h''⟩
      · exact .inr ⟨rfl, .inl h'⟩
      · exact .inr ⟨rfl, .inr ⟨h', uN_up ua.2 ub.2 (by omega)⟩⟩
  · rw [riseE_iff]
    unfold dE
    rw [List.mem_map, List.mem_map]
    refine exists_congr (fun y => and_congr ?_ Iff.rfl)
    rw [List.mem_filter, List.mem_filter, riseE_iff]
end Go.Proofs.YtojnlpicgemlaaaGreatDoor
namespace Go.Proofs.YtojnlpicgemlaaaGreatDoor
open Go.RowKit Go.Maps Go.Shelf
attribute [local go_sem] Oper.semAt_some

/-! ### trims -/
/-- An automaton, a list and an error, answered. -/
def AnsT (w' : World) (K m' : Int) (S F : List Int) (E : List EdT) (L : List Int) (er : Int) (e : Ending) : Prop := ∃ a1 a2 a3 ao c1 c2 c3 co, e = .returned (.tuple #[.agg #[.int .i64 K, .int .i64 m', .slice a1 S.length c1, .slice a2 F.length c2, .slice a3 E.length c3], .slice ao L.length co, .int .i64 er]) ∧ RdA w' a1 a2 a3 S F E ∧ RdN w' ao L
theorem ansT_own {B : Nat} {w' : World} {K m' : Int} {S F L : List Int} {E : List EdT} {v1 v2 v3 vo : Value} (o1 : OwnL B w' v1 S) (o2 : OwnL B w' v2 F) (o3 : w'.ownsRow B 42 3 v3 E.length (E.flatMap encE)) (o4 : OwnL B w' vo L) : AnsT w' K m' S F E L 0 (.returned (.tuple #[.agg #[.int .i64 K, .int .i64 m', v1, v2, v3], vo, .int .i64 0])) := by
  obtain ⟨a1, c1, rfl, r1⟩ := la_own o1
  obtain ⟨a2, c2, rfl, r2⟩ := la_own o2
  obtain ⟨a3, c3, rfl⟩ := own_slice o3
  obtain ⟨ao, co, rfl, r4⟩ := la_own o4
  exact ⟨a1, a2, a3, ao, c1, c2, c3, co, rfl, ⟨r1, r2, own_rdE o3⟩, r4⟩
theorem ansT_nil (w' : World) : AnsT w' 0 0 [] [] [] [] 2 (.returned (.tuple #[.agg #[.int .i64 0, .int .i64 0, .slice none 0 0, .slice none 0 0, .slice none 0 0], .slice none 0 0, .int .i64 2])) :=
  ⟨none, none, none, none, 0, 0, 0, 0, rfl, ⟨fun j hj => absurd hj (Nat.not_lt_zero j), fun j hj => absurd hj (Nat.not_lt_zero j), fun j hj => absurd hj (Nat.not_lt_zero j)⟩, fun j hj => absurd hj (Nat.not_lt_zero j)⟩
def RefT (n mv : Int) (St Fi : List Int) (Ed : List EdT) (K m' : Int) (S F : List Int) (E : List EdT) (L : List Int) (er : Int) : Prop := ∀ (W : World) (y1 y2 y3 : Option Addr) (k1 k2 k3 : Nat), RdA W y1 y2 y3 St Fi Ed → Calls Tryz.prog 40 #[.agg #[.int .i64 n, .int .i64 mv, .slice y1 St.length k1, .slice y2 Fi.length k2, .slice y3 Ed.length k3]] W fun e W' => AnsT W' K m' S F E L er e ∧ Below W.heap.size W W'
theorem trim_u (w : World) (n mv : Int) (a1 a2 a3 : Option Addr) (c1 c2 c3 : Nat) (St Fi : List Int) (Ed : List EdT) (hA : RdA w a1 a2 a3 St Fi Ed) (h1 : St.length ≤ 4194304) (h2 : Fi.length ≤ 4194304) (h3 : Ed.length ≤ 4194304) (hT : TabAt w) (h0 : 0 < w.heap.size) :
    Calls Tryz.prog 12 #[.agg #[.int .i64 n, .int .i64 mv, .slice a1 St.length c1, .slice a2 Fi.length c2, .slice a3 Ed.length c3]] w fun e w' => ∃ K m' S F E L er, AnsT w' K m' S F E L er e ∧ Below w.heap.size w w' ∧ Hid (RefT n mv St Fi Ed K m' S F E L er) ∧ S.length ≤ 4194304 ∧ F.length ≤ 4194304 ∧ E.length ≤ 4194304 ∧ L.length ≤ 4194304 := by
  by_cases hm : mayA n mv St Fi Ed = true
  · obtain ⟨N, rfl, hG⟩ := arg_of hA h1 h2 hm
    refine (trim_ok w N mv a1 a2 a3 c1 c2 c3 St Fi Ed (hide hA) h1 h2 h3 (hide hT) h0 hm).mono ?_
    rintro e w' ⟨v1, v2, v3, vo, rfl, o1, o2, o3, o4, d⟩
    refine ⟨_, _, _, _, _, _, 0, ansT_own o1 o2 o3 o4, d, hide ?_, ?_, ?_, ?_, ?_⟩
    · intro W y1 y2 y3 k1 k2 k3 hR
      refine (rtrim_ok W N mv y1 y2 y3 k1 k2 k3 St Fi Ed (hide hR) h1 h2 h3 hm).mono ?_
      rintro e W' ⟨U, hU, v1', v2', v3', vo', rfl, p1, p2, p3, p4, d'⟩
      have hrs : ∀ x ∈ riseL St, ∃ q : Nat, q < N ∧ x = (q : Int) := fun x hx => hG.ins x ((riseL_iff St x).1 hx)
      have hrf : ∀ x ∈ riseL Fi, ∃ q : Nat, q < N ∧ x = (q : Int) := fun x hx => hG.inf x ((riseL_iff Fi x).1 hx)
      have hre : ∀ e ∈ riseE Ed, ∃ p r : Nat, p < N ∧ r < N ∧ e.1 = (p : Int) ∧ e.2.2 = (r : Int) := fun e he => hG.prs e ((riseE_iff Ed e).1 he)
      rw [use_uL hU, ren_dL hU hrs, ren_dL hU hrf, ren_dE hU hre, ← rise_dL hG.ins, ← rise_dL hG.inf, ← rise_dE hG.prs]
      exact ⟨ansT_own p1 p2 p3 p4, d'⟩
    · exact Nat.le_trans (renL_len _ _ _) (Nat.le_trans (riseL_len St) h1)
    · exact Nat.le_trans (renL_len _ _ _) (Nat.le_trans (riseL_len Fi) h2)
    · exact Nat.le_trans (renE_len _ _ _) (Nat.le_trans (riseE_len Ed) h3)
    · rw [natL_len]
      unfold elems
      exact Nat.le_trans (List.length_filter_le _ _) (by have := hG.hN; simp; omega)
  · have hm' : mayA n mv St Fi Ed = false := by simpa using hm
    refine (trim_bad w n mv a1 a2 a3 c1 c2 c3 St Fi Ed (hide hA) h1 h2 h3 hm').mono ?_
    rintro e w' ⟨rfl, d⟩
    refine ⟨0, 0, [], [], [], [], 2, ansT_nil _, d, hide ?_, by simp, by simp, by simp, by simp⟩
    intro W y1 y2 y3 k1 k2 k3 hR
    refine (rtrim_bad W n mv y1 y2 y3 k1 k2 k3 St Fi Ed (hide hR) h1 h2 h3 hm').mono ?_
    rintro e W' ⟨rfl, d'⟩
    exact ⟨ansT_nil _, d'⟩
set_option maxRecDepth 100000 in
set_option maxHeartbeats 2000000 in
theorem trims_any (w : World) (n mv : Int) (x1 x2 x3 a1 a2 a3 : Option Addr) (c1 c2 c3 e1 e2 e3 : Nat) (St Fi : List Int) (Ed : List EdT) (hX : Hid (RdA w x1 x2 x3 St Fi Ed)) (hA : Hid (RdA w a1 a2 a3 St Fi Ed)) (h1 : St.length ≤ 4194304) (h2 : Fi.length ≤ 4194304) (h3 : Ed.length ≤ 4194304) (hT : Hid (TabAt w)) (h0 : 0 < w.heap.size) :
    Calls Tryz.prog 20 #[.agg #[.int .i64 n, .int .i64 mv, .slice x1 St.length c1, .slice x2 Fi.length c2, .slice x3 Ed.length c3], .agg #[.int .i64 n, .int .i64 mv, .slice a1 St.length e1, .slice a2 Fi.length e2, .slice a3 Ed.length e3]] w fun e w' => e = .returned (.bool true) ∧ Below w.heap.size w w' := by
  obtain ⟨W0, hW0⟩ : ∃ W0, (w.alloc (.cells #[.int .i64 n, .int .i64 mv, .slice x1 St.length c1, .slice x2 Fi.length c2, .slice x3 Ed.length c3] 25)).alloc (.cells #[.int .i64 n, .int .i64 mv, .slice a1 St.length e1, .slice a2 Fi.length e2, .slice a3 Ed.length e3] 25) = W0 := ⟨_, rfl⟩
  have HB : Hid (W0.heap[w.heap.size]? = some (.cells #[.int .i64 n, .int .i64 mv, .slice x1 St.length c1, .slice x2 Fi.length c2, .slice x3 Ed.length c3] 25 (0, 0)) ∧ W0.heap[w.heap.size + 1]? = some (.cells #[.int .i64 n, .int .i64 mv, .slice a1 St.length e1, .slice a2 Fi.length e2, .slice a3 Ed.length e3] 25 (0, 0)) ∧ Below w.heap.size w W0) := hide (by
    have hb := box2 w #[.int .i64 n, .int .i64 mv, .slice x1 St.length c1, .slice x2 Fi.length c2, .slice x3 Ed.length c3] #[.int .i64 n, .int .i64 mv, .slice a1 St.length e1, .slice a2 Fi.length e2, .slice a3 Ed.length e3] 25
    rw [hW0] at hb
    exact ⟨hb.2.1, hb.2.2.1, hb.1⟩)
  go_enter Tryz.func20, Tryz.ntmps20
  have T := trim_u W0 n mv x1 x2 x3 c1 c2 c3 St Fi Ed (hX.out.on HB.out.2.2) h1 h2 h3 (hT.out.below HB.out.2.2 h0) (Nat.lt_of_lt_of_le h0 HB.out.2.2.size)
  have q0 : W0.cell? ⟨w.heap.size, 0, none⟩ = some (.int .i64 n) := cell_of (HB.out.1) rfl
  have q1 : W0.cell? ⟨w.heap.size, 1, none⟩ = some (.int .i64 mv) := cell_of (HB.out.1) rfl
  have q2 : W0.cell? ⟨w.heap.size, 2, none⟩ = some (.slice x1 St.length c1) := cell_of (HB.out.1) rfl
  have q3 : W0.cell? ⟨w.heap.size, 3, none⟩ = some (.slice x2 Fi.length c2) := cell_of (HB.out.1) rfl
  have q4 : W0.cell? ⟨w.heap.size, 4, none⟩ = some (.slice x3 Ed.length c3) := cell_of (HB.out.1) rfl
  go_wp2_with fail
  refine T.mono ?_
  rintro e w1 ⟨K, m', S, F, E, L, er, ⟨s1, s2, s3, so, k1, k2, k3, ko, rfl, RA, RO⟩, d, HRf, hS, hF, hE, hL⟩
  clear hW0
  replace HB : Hid (w1.heap[w.heap.size]? = some (.cells #[.int .i64 n, .int .i64 mv, .slice x1 St.length c1, .slice x2 Fi.length c2, .slice x3 Ed.length c3] 25 (0, 0)) ∧ w1.heap[w.heap.size + 1]? = some (.cells #[.int .i64 n, .int .i64 mv, .slice a1 St.length e1, .slice a2 Fi.length e2, .slice a3 Ed.length e3] 25 (0, 0)) ∧ Below w.heap.size w w1) := hide ⟨blk_on HB.out.1 d, blk_on HB.out.2.1 d, HB.out.2.2.trans (d.mono HB.out.2.2.size)⟩
  have H1 := hide (And.intro RA RO)
  clear d RA RO T q0 q1 q2 q3 q4
  go_upto_region 2 with fail
  obtain ⟨b5, hb5⟩ : ∃ x, w1.heap.size = x := ⟨_, rfl⟩
  rw [hb5]
  obtain ⟨w2, hw2⟩ : ∃ W, w1.alloc (.cells #[.int .i64 K, .int .i64 m', .slice s1 S.length k1, .slice s2 F.length k2, .slice s3 E.length k3] 25) = W := ⟨_, rfl⟩
  rw [hw2]
  have H2 : Hid (w2.heap[b5]? = some (.cells #[.int .i64 K, .int .i64 m', .slice s1 S.length k1, .slice s2 F.length k2, .slice s3 E.length k3] 25 (0, 0)) ∧ RdA w2 s1 s2 s3 S F E ∧ RdN w2 so L) := hide (by
    have d : Below w1.heap.size w1 w2 := by rw [← hw2]; exact (Below.refl _ _).alloc (Nat.le_refl _) _
    exact ⟨by rw [← hw2, ← hb5]; exact World.alloc_heap_new _ _, H1.out.1.on d, H1.out.2.on d⟩)
  replace HB : Hid (w2.heap[w.heap.size]? = some (.cells #[.int .i64 n, .int .i64 mv, .slice x1 St.length c1, .slice x2 Fi.length c2, .slice x3 Ed.length c3] 25 (0, 0)) ∧ w2.heap[w.heap.size + 1]? = some (.cells #[.int .i64 n, .int .i64 mv, .slice a1 St.length e1, .slice a2 Fi.length e2, .slice a3 Ed.length e3] 25 (0, 0)) ∧ Below w.heap.size w w2) := hide (by
    have d : Below w1.heap.size w1 w2 := by rw [← hw2]; exact (Below.refl _ _).alloc (Nat.le_refl _) _
    exact ⟨blk_on HB.out.1 d, blk_on HB.out.2.1 d, HB.out.2.2.trans (d.mono HB.out.2.2.size)⟩)
  clear hw2 hb5 H1
  have T := HRf.out w2 a1 a2 a3 e1 e2 e3 (hA.out.on HB.out.2.2)
  have q0 : w2.cell? ⟨w.heap.size + 1, 0, none⟩ = some (.int .i64 n) := cell_of (HB.out.2.1) rfl
  have q1 : w2.cell? ⟨w.heap.size + 1, 1, none⟩ = some (.int .i64 mv) := cell_of (HB.out.2.1) rfl
  have q2 : w2.cell? ⟨w.heap.size + 1, 2, none⟩ = some (.slice a1 St.length e1) := cell_of (HB.out.2.1) rfl
  have q3 : w2.cell? ⟨w.heap.size + 1, 3, none⟩ = some (.slice a2 Fi.length e2) := cell_of (HB.out.2.1) rfl
  have q4 : w2.cell? ⟨w.heap.size + 1, 4, none⟩ = some (.slice a3 Ed.length e3) := cell_of (HB.out.2.1) rfl
  go_wp2_with fail
  refine T.mono ?_
  rintro e w3 ⟨⟨u1, u2, u3, uo, l1, l2, l3, lo, rfl, RA, RO⟩, d⟩
  have H3 : Hid (w3.heap[b5]? = some (.cells #[.int .i64 K, .int .i64 m', .slice s1 S.length k1, .slice s2 F.length k2, .slice s3 E.length k3] 25 (0, 0)) ∧ (RdA w3 s1 s2 s3 S F E ∧ RdN w3 so L) ∧ (RdA w3 u1 u2 u3 S F E ∧ RdN w3 uo L) ∧ Below w.heap.size w w3) := hide ⟨blk_on H2.out.1 d, ⟨H2.out.2.1.on d, H2.out.2.2.on d⟩, ⟨RA, RO⟩, HB.out.2.2.trans (d.mono HB.out.2.2.size)⟩
  clear d RA RO T q0 q1 q2 q3 q4 H2 HB HRf
  go_upto_region 3 with fail
  obtain ⟨b8, hb8⟩ : ∃ x, w3.heap.size = x := ⟨_, rfl⟩
  rw [hb8]
  obtain ⟨w4, hw4⟩ : ∃ W, w3.alloc (.cells #[.int .i64 K, .int .i64 m', .slice u1 S.length l1, .slice u2 F.length l2, .slice u3 E.length l3] 25) = W := ⟨_, rfl⟩
  rw [hw4]
  have H4 : Hid (w4.heap[b5]? = some (.cells #[.int .i64 K, .int .i64 m', .slice s1 S.length k1, .slice s2 F.length k2, .slice s3 E.length k3] 25 (0, 0)) ∧ w4.heap[b8]? = some (.cells #[.int .i64 K, .int .i64 m', .slice u1 S.length l1, .slice u2 F.length l2, .slice u3 E.length l3] 25 (0, 0)) ∧ (RdA w4 s1 s2 s3 S F E ∧ RdN w4 so L) ∧ (RdA w4 u1 u2 u3 S F E ∧ RdN w4 uo L) ∧ Below w.heap.size w w4) := hide (by
    have d : Below w3.heap.size w3 w4 := by rw [← hw4]; exact (Below.refl _ _).alloc (Nat.le_refl _) _
    exact ⟨blk_on H3.out.1 d, by rw [← hw4, ← hb8]; exact World.alloc_heap_new _ _, ⟨H3.out.2.1.1.on d, H3.out.2.1.2.on d⟩, ⟨H3.out.2.2.1.1.on d, H3.out.2.2.1.2.on d⟩, H3.out.2.2.2.trans (d.mono H3.out.2.2.2.size)⟩)
  clear hw4 hb8 H3
  have T1 := sameAutoZ_eq w4 K m' S F E s1 s2 s3 u1 u2 u3 k1 k2 k3 l1 l2 l3 (hide ⟨H4.out.2.2.1.1.s, H4.out.2.2.1.1.f, H4.out.2.2.1.1.e⟩) (hide ⟨H4.out.2.2.2.1.1.s, H4.out.2.2.2.1.1.f, H4.out.2.2.2.1.1.e⟩) hS hF hE
  have F5 := H4.out.1
  have F8 := H4.out.2.1
  have q0 : w4.cell? ⟨b5, 0, none⟩ = some (.int .i64 K) := cell_of F5 rfl
  have q1 : w4.cell? ⟨b5, 1, none⟩ = some (.int .i64 m') := cell_of F5 rfl
  have q2 : w4.cell? ⟨b5, 2, none⟩ = some (.slice s1 S.length k1) := cell_of F5 rfl
  have q3 : w4.cell? ⟨b5, 3, none⟩ = some (.slice s2 F.length k2) := cell_of F5 rfl
  have q4 : w4.cell? ⟨b5, 4, none⟩ = some (.slice s3 E.length k3) := cell_of F5 rfl
  have p0 : w4.cell? ⟨b8, 0, none⟩ = some (.int .i64 K) := cell_of F8 rfl
  have p1 : w4.cell? ⟨b8, 1, none⟩ = some (.int .i64 m') := cell_of F8 rfl
  have p2 : w4.cell? ⟨b8, 2, none⟩ = some (.slice u1 S.length l1) := cell_of F8 rfl
  have p3 : w4.cell? ⟨b8, 3, none⟩ = some (.slice u2 F.length l2) := cell_of F8 rfl
  have p4 : w4.cell? ⟨b8, 4, none⟩ = some (.slice u3 E.length l3) := cell_of F8 rfl
  clear F5 F8
  go_wp2_with fail
  refine T1.mono ?_
  rintro e w5 ⟨rfl, d5⟩
  have T2 := same7_any w5 so uo ko lo L L (H4.out.2.2.1.2.on d5) (H4.out.2.2.2.1.2.on d5) hL
  rw [decide_eq_true (rfl : L = L)] at T2
  have H5 := hide (H4.out.2.2.2.2.trans (d5.mono H4.out.2.2.2.2.size))
  clear d5 T1 H4 q0 q1 q2 q3 q4 p0 p1 p2 p3 p4
  go_wp2_with fail
  refine T2.mono ?_
  rintro e w6 ⟨rfl, d6⟩
  have H6 := hide (H5.out.trans (d6.mono H5.out.size))
  clear d6 T2
  go_wp2_with fail
  go_ret
  exact ⟨rfl, H6.out⟩
end Go.Proofs.YtojnlpicgemlaaaGreatDoor
namespace Go.Proofs.YtojnlpicgemlaaaGreatDoor
open Go.RowKit Go.Maps Go.Shelf
attribute [local go_sem] Oper.semAt_some

/-! ### The statement, walked -/
set_option maxRecDepth 100000 in
set_option maxHeartbeats 4000000 in
theorem ttrims_any (w : World) (n mv : Int) (a1 a2 a3 : Option Addr) (c1 c2 c3 : Nat) (St Fi : List Int) (Ed : List EdT) (hA : Hid (RdA w a1 a2 a3 St Fi Ed)) (h1 : St.length ≤ 4194304) (h2 : Fi.length ≤ 4194304) (h3 : Ed.length ≤ 4194304) (hT : Hid (TabAt w)) (h0 : 0 < w.heap.size) :
    Calls Tryz.prog 5 #[.agg #[.int .i64 n, .int .i64 mv, .slice a1 St.length c1, .slice a2 Fi.length c2, .slice a3 Ed.length c3]] w fun e w' => e = .returned (.bool true) ∧ Below w.heap.size w w' := by
  obtain ⟨n1, e1⟩ : ∃ n, St.length = n := ⟨_, rfl⟩
  obtain ⟨n2, e2⟩ : ∃ n, Fi.length = n := ⟨_, rfl⟩
  obtain ⟨n3, e3⟩ : ∃ n, Ed.length = n := ⟨_, rfl⟩
  rw [e1, e2, e3]
  have HE := hide (And.intro e1 (And.intro e2 e3))
  have HL := hide (And.intro h1 (And.intro h2 h3))
  obtain ⟨k1, hk1⟩ : ∃ k, n1 + 64 = k := ⟨_, rfl⟩
  obtain ⟨k2, hk2⟩ : ∃ k, n2 + 64 = k := ⟨_, rfl⟩
  obtain ⟨k3, hk3⟩ : ∃ k, n3 + 64 = k := ⟨_, rfl⟩
  have HK := hide (And.intro hk1 (And.intro hk2 hk3))
  obtain ⟨W0, hW0⟩ : ∃ W0, w.alloc (.cells #[.int .i64 n, .int .i64 mv, .slice a1 n1 c1, .slice a2 n2 c2, .slice a3 n3 c3] 25) = W0 := ⟨_, rfl⟩
  have HB : Hid (Below w.heap.size w W0 ∧ W0.heap[w.heap.size]? = some (.cells #[.int .i64 n, .int .i64 mv, .slice a1 n1 c1, .slice a2 n2 c2, .slice a3 n3 c3] 25 (0, 0)) ∧ W0.heap.size = w.heap.size + 1) := hide (by rw [← hW0]; exact ⟨(Below.refl _ _).alloc (Nat.le_refl _) _, World.alloc_heap_new _ _, by simp⟩)
  have TW := twinA_any W0 n mv St Fi Ed a1 a2 a3 c1 c2 c3 (hide ⟨hA.out.s.on HB.out.1, hA.out.f.on HB.out.1, hA.out.e.on HB.out.1⟩) h1 h2 h3
  rw [e1, e2, e3, hk1, hk2, hk3] at TW
  have F0 := HB.out.2.1
  have q0 : W0.cell? ⟨w.heap.size, 0, none⟩ = some (.int .i64 n) := cell_of F0 rfl
  have q1 : W0.cell? ⟨w.heap.size, 1, none⟩ = some (.int .i64 mv) := cell_of F0 rfl
  have q2 : W0.cell? ⟨w.heap.size, 2, none⟩ = some (.slice a1 n1 c1) := cell_of F0 rfl
  have q3 : W0.cell? ⟨w.heap.size, 3, none⟩ = some (.slice a2 n2 c2) := cell_of F0 rfl
  have q4 : W0.cell? ⟨w.heap.size, 4, none⟩ = some (.slice a3 n3 c3) := cell_of F0 rfl
  clear F0 e1 e2 e3 hk1 hk2 hk3 h1 h2 h3
  go_enter Tryz.func5, Tryz.ntmps5
  go_upto_region 2 with (go_at_call 7; refine TW.mono ?_; rintro e w1 ⟨b1, b2, b3, rfl, hTw, hbb, d1⟩)
  obtain ⟨bx, hbx⟩ : ∃ k, w1.heap.size = k := ⟨_, rfl⟩
  rw [hbx]
  obtain ⟨w2, hw2⟩ : ∃ W, w1.alloc (.cells #[.int .i64 n, .int .i64 mv, .slice (some ⟨b1, 0, none⟩) n1 k1, .slice (some ⟨b2, 0, none⟩) n2 k2, .slice (some ⟨b3, 0, none⟩) n3 k3] 25) = W := ⟨_, rfl⟩
  rw [hw2]
  have H2 : Hid (w2.heap[bx]? = some (.cells #[.int .i64 n, .int .i64 mv, .slice (some ⟨b1, 0, none⟩) n1 k1, .slice (some ⟨b2, 0, none⟩) n2 k2, .slice (some ⟨b3, 0, none⟩) n3 k3] 25 (0, 0)) ∧ w2.heap[w.heap.size]? = some (.cells #[.int .i64 n, .int .i64 mv, .slice a1 n1 c1, .slice a2 n2 c2, .slice a3 n3 c3] 25 (0, 0)) ∧ TwA w2 b1 b2 b3 St Fi Ed ∧ Below w.heap.size w w2 ∧ (w.heap.size < b1 ∧ w.heap.size < b2 ∧ w.heap.size < b3) ∧ (b1 < bx ∧ b2 < bx ∧ b3 < bx)) := hide (by
    have d : Below w1.heap.size w1 w2 := by rw [← hw2]; exact (Below.refl _ _).alloc (Nat.le_refl _) _
    have s0 := HB.out.2.2
    have s1 := hTw.s.lt
    have s2 := hTw.f.lt
    have s3 := hTw.e.lt
    exact ⟨by rw [← hw2, ← hbx]; exact World.alloc_heap_new _ _, blk_on (blk_on HB.out.2.1 d1) d, hTw.on d, (HB.out.1.trans (d1.mono HB.out.1.size)).trans (d.mono (by have := d1.size; omega)), by omega, by omega⟩)
  clear hw2 hbx hTw hbb d1 TW hW0 HB q0 q1 q2 q3 q4
  have T1 := trims_any w2 n mv (some ⟨b1, 0, none⟩) (some ⟨b2, 0, none⟩) (some ⟨b3, 0, none⟩) a1 a2 a3 k1 k2 k3 c1 c2 c3 St Fi Ed (hide ⟨padN_reads H2.out.2.2.1.s, padN_reads H2.out.2.2.1.f, edPad_reads H2.out.2.2.1.e⟩) (hide (hA.out.on H2.out.2.2.2.1)) HL.out.1 HL.out.2.1 HL.out.2.2 (hide (hT.out.below H2.out.2.2.2.1 h0)) (Nat.lt_of_lt_of_le h0 H2.out.2.2.2.1.size)
  rw [HE.out.1, HE.out.2.1, HE.out.2.2] at T1
  have F0 := H2.out.1
  have F1 := H2.out.2.1
  have p0 : w2.cell? ⟨bx, 0, none⟩ = some (.int .i64 n) := cell_of F0 rfl
  have p1 : w2.cell? ⟨bx, 1, none⟩ = some (.int .i64 mv) := cell_of F0 rfl
  have p2 : w2.cell? ⟨bx, 2, none⟩ = some (.slice (some ⟨b1, 0, none⟩) n1 k1) := cell_of F0 rfl
  have p3 : w2.cell? ⟨bx, 3, none⟩ = some (.slice (some ⟨b2, 0, none⟩) n2 k2) := cell_of F0 rfl
  have p4 : w2.cell? ⟨bx, 4, none⟩ = some (.slice (some ⟨b3, 0, none⟩) n3 k3) := cell_of F0 rfl
  have q0 : w2.cell? ⟨w.heap.size, 0, none⟩ = some (.int .i64 n) := cell_of F1 rfl
  have q1 : w2.cell? ⟨w.heap.size, 1, none⟩ = some (.int .i64 mv) := cell_of F1 rfl
  have q2 : w2.cell? ⟨w.heap.size, 2, none⟩ = some (.slice a1 n1 c1) := cell_of F1 rfl
  have q3 : w2.cell? ⟨w.heap.size, 3, none⟩ = some (.slice a2 n2 c2) := cell_of F1 rfl
  have q4 : w2.cell? ⟨w.heap.size, 4, none⟩ = some (.slice a3 n3 c3) := cell_of F1 rfl
  clear F0 F1
  go_wp2_with fail
  refine T1.mono ?_
  rintro e w3 ⟨rfl, d3⟩
  have H3 : Hid (w3.heap[bx]? = some (.cells #[.int .i64 n, .int .i64 mv, .slice (some ⟨b1, 0, none⟩) n1 k1, .slice (some ⟨b2, 0, none⟩) n2 k2, .slice (some ⟨b3, 0, none⟩) n3 k3] 25 (0, 0)) ∧ w3.heap[w.heap.size]? = some (.cells #[.int .i64 n, .int .i64 mv, .slice a1 n1 c1, .slice a2 n2 c2, .slice a3 n3 c3] 25 (0, 0)) ∧ TwA w3 b1 b2 b3 St Fi Ed ∧ Below w.heap.size w w3) := hide ⟨blk_on H2.out.1 d3, blk_on H2.out.2.1 d3, H2.out.2.2.1.on d3, H2.out.2.2.2.1.trans (d3.mono H2.out.2.2.2.1.size)⟩
  have HN := hide (And.intro H2.out.2.2.2.2.1 (And.intro H2.out.2.2.2.2.2 (Nat.lt_of_lt_of_le (Array.getElem?_eq_some_iff.1 H2.out.1).1 d3.size)))
  clear d3 T1 H2 p0 p1 p2 p3 p4 q0 q1 q2 q3 q4
  have T2 := autoLeft_any w3 n mv St Fi Ed b1 b2 b3 a1 a2 a3 c1 c2 c3 (hide H3.out.2.2.1) (hide ⟨hA.out.s.on H3.out.2.2.2, hA.out.f.on H3.out.2.2.2, hA.out.e.on H3.out.2.2.2⟩) HL.out.1 HL.out.2.1 HL.out.2.2
  rw [HE.out.1, HE.out.2.1, HE.out.2.2, HK.out.1, HK.out.2.1, HK.out.2.2] at T2
  have F0 := H3.out.1
  have F1 := H3.out.2.1
  have p0 : w3.cell? ⟨bx, 0, none⟩ = some (.int .i64 n) := cell_of F0 rfl
  have p1 : w3.cell? ⟨bx, 1, none⟩ = some (.int .i64 mv) := cell_of F0 rfl
  have p2 : w3.cell? ⟨bx, 2, none⟩ = some (.slice (some ⟨b1, 0, none⟩) n1 k1) := cell_of F0 rfl
  have p3 : w3.cell? ⟨bx, 3, none⟩ = some (.slice (some ⟨b2, 0, none⟩) n2 k2) := cell_of F0 rfl
  have p4 : w3.cell? ⟨bx, 4, none⟩ = some (.slice (some ⟨b3, 0, none⟩) n3 k3) := cell_of F0 rfl
  have q0 : w3.cell? ⟨w.heap.size, 0, none⟩ = some (.int .i64 n) := cell_of F1 rfl
  have q1 : w3.cell? ⟨w.heap.size, 1, none⟩ = some (.int .i64 mv) := cell_of F1 rfl
  have q2 : w3.cell? ⟨w.heap.size, 2, none⟩ = some (.slice a1 n1 c1) := cell_of F1 rfl
  have q3 : w3.cell? ⟨w.heap.size, 3, none⟩ = some (.slice a2 n2 c2) := cell_of F1 rfl
  have q4 : w3.cell? ⟨w.heap.size, 4, none⟩ = some (.slice a3 n3 c3) := cell_of F1 rfl
  clear F0 F1
  go_wp2_with fail
  refine T2.mono ?_
  rintro e w4 ⟨rfl, d4⟩
  have H4 : Hid (w4.heap[bx]? = some (.cells #[.int .i64 n, .int .i64 mv, .slice (some ⟨b1, 0, none⟩) n1 k1, .slice (some ⟨b2, 0, none⟩) n2 k2, .slice (some ⟨b3, 0, none⟩) n3 k3] 25 (0, 0)) ∧ TwA w4 b1 b2 b3 St Fi Ed ∧ Below w.heap.size w w4) := hide ⟨blk_on H3.out.1 d4, H3.out.2.2.1.on d4, H3.out.2.2.2.trans (d4.mono H3.out.2.2.2.size)⟩
  clear d4 T2 H3 p0 p1 p2 p3 p4 q0 q1 q2 q3 q4
  have T3 := overA_any w4 n mv St Fi Ed b1 b2 b3 (hide H4.out.2.1) HL.out.1 HL.out.2.1 HL.out.2.2
  rw [HE.out.1, HE.out.2.1, HE.out.2.2, HK.out.1, HK.out.2.1, HK.out.2.2] at T3
  have HM : Hid ((St.map (ovN n)).length = n1 ∧ (Fi.map (ovN n)).length = n2 ∧ (Ed.map flE).length = n3) := hide ⟨by rw [List.length_map]; exact HE.out.1, by rw [List.length_map]; exact HE.out.2.1, by rw [List.length_map]; exact HE.out.2.2⟩
  have HLM : Hid ((St.map (ovN n)).length ≤ 4194304 ∧ (Fi.map (ovN n)).length ≤ 4194304 ∧ (Ed.map flE).length ≤ 4194304) := hide ⟨by rw [List.length_map]; exact HL.out.1, by rw [List.length_map]; exact HL.out.2.1, by rw [List.length_map]; exact HL.out.2.2⟩
  generalize St.map (ovN n) = S2 at T3 HM HLM
  generalize Fi.map (ovN n) = F2 at T3 HM HLM
  generalize Ed.map flE = E2 at T3 HM HLM
  have F0 := H4.out.1
  have p0 : w4.cell? ⟨bx, 0, none⟩ = some (.int .i64 n) := cell_of F0 rfl
  have p1 : w4.cell? ⟨bx, 1, none⟩ = some (.int .i64 mv) := cell_of F0 rfl
  have p2 : w4.cell? ⟨bx, 2, none⟩ = some (.slice (some ⟨b1, 0, none⟩) n1 k1) := cell_of F0 rfl
  have p3 : w4.cell? ⟨bx, 3, none⟩ = some (.slice (some ⟨b2, 0, none⟩) n2 k2) := cell_of F0 rfl
  have p4 : w4.cell? ⟨bx, 4, none⟩ = some (.slice (some ⟨b3, 0, none⟩) n3 k3) := cell_of F0 rfl
  clear F0
  go_upto_region 4 with fail
  go_upto_region 5 with (go_at_call 10; refine T3.mono ?_; rintro e w5 ⟨g1, g2, g3, rfl, hX5, hG5, o5⟩)
  obtain ⟨by5, hby⟩ : ∃ k, w5.heap.size = k := ⟨_, rfl⟩
  rw [hby]
  obtain ⟨w6, hw6⟩ : ∃ W, w5.alloc (.cells #[.int .i64 n, .int .i64 mv, .slice (some ⟨g1, 0, none⟩) n1 k1, .slice (some ⟨g2, 0, none⟩) n2 k2, .slice (some ⟨g3, 0, none⟩) n3 k3] 25) = W := ⟨_, rfl⟩
  rw [hw6]
  have H6 : Hid (w6.heap[bx]? = some (.cells #[.int .i64 n, .int .i64 mv, .slice (some ⟨b1, 0, none⟩) n1 k1, .slice (some ⟨b2, 0, none⟩) n2 k2, .slice (some ⟨b3, 0, none⟩) n3 k3] 25 (0, 0)) ∧ w6.heap[by5]? = some (.cells #[.int .i64 n, .int .i64 mv, .slice (some ⟨g1, 0, none⟩) n1 k1, .slice (some ⟨g2, 0, none⟩) n2 k2, .slice (some ⟨g3, 0, none⟩) n3 k3] 25 (0, 0)) ∧ TwA w6 b1 b2 b3 S2 F2 E2 ∧ TwA w6 g1 g2 g3 S2 F2 E2 ∧ Below w.heap.size w w6) := hide (by
    have d : Below w5.heap.size w5 w6 := by rw [← hw6]; exact (Below.refl _ _).alloc (Nat.le_refl _) _
    have hn := HN.out
    have d5 : Below w.heap.size w w5 := H4.out.2.2.trans (o5.toBelow H4.out.2.2.size (fun k hk => by omega))
    exact ⟨blk_on ((o5.block _ (Array.getElem?_eq_some_iff.1 H4.out.1).1 (by omega)).trans H4.out.1) d, by rw [← hw6, ← hby]; exact World.alloc_heap_new _ _, hX5.on d, hG5.on d, d5.trans (d.mono d5.size)⟩)
  clear hw6 hby hX5 hG5 o5 T3 H4 p0 p1 p2 p3 p4
  have T4 := trims_any w6 n mv (some ⟨b1, 0, none⟩) (some ⟨b2, 0, none⟩) (some ⟨b3, 0, none⟩) (some ⟨g1, 0, none⟩) (some ⟨g2, 0, none⟩) (some ⟨g3, 0, none⟩) k1 k2 k3 k1 k2 k3 S2 F2 E2 (hide ⟨padN_reads H6.out.2.2.1.s, padN_reads H6.out.2.2.1.f, edPad_reads H6.out.2.2.1.e⟩) (hide ⟨padN_reads H6.out.2.2.2.1.s, padN_reads H6.out.2.2.2.1.f, edPad_reads H6.out.2.2.2.1.e⟩) HLM.out.1 HLM.out.2.1 HLM.out.2.2 (hide (hT.out.below H6.out.2.2.2.2 h0)) (Nat.lt_of_lt_of_le h0 H6.out.2.2.2.2.size)
  rw [HM.out.1, HM.out.2.1, HM.out.2.2] at T4
  have F0 := H6.out.1
  have F1 := H6.out.2.1
  have p0 : w6.cell? ⟨bx, 0, none⟩ = some (.int .i64 n) := cell_of F0 rfl
  have p1 : w6.cell? ⟨bx, 1, none⟩ = some (.int .i64 mv) := cell_of F0 rfl
  have p2 : w6.cell? ⟨bx, 2, none⟩ = some (.slice (some ⟨b1, 0, none⟩) n1 k1) := cell_of F0 rfl
  have p3 : w6.cell? ⟨bx, 3, none⟩ = some (.slice (some ⟨b2, 0, none⟩) n2 k2) := cell_of F0 rfl
  have p4 : w6.cell? ⟨bx, 4, none⟩ = some (.slice (some ⟨b3, 0, none⟩) n3 k3) := cell_of F0 rfl
  have q0 : w6.cell? ⟨by5, 0, none⟩ = some (.int .i64 n) := cell_of F1 rfl
  have q1 : w6.cell? ⟨by5, 1, none⟩ = some (.int .i64 mv) := cell_of F1 rfl
  have q2 : w6.cell? ⟨by5, 2, none⟩ = some (.slice (some ⟨g1, 0, none⟩) n1 k1) := cell_of F1 rfl
  have q3 : w6.cell? ⟨by5, 3, none⟩ = some (.slice (some ⟨g2, 0, none⟩) n2 k2) := cell_of F1 rfl
  have q4 : w6.cell? ⟨by5, 4, none⟩ = some (.slice (some ⟨g3, 0, none⟩) n3 k3) := cell_of F1 rfl
  clear F0 F1
  go_wp2_with fail
  refine T4.mono ?_
  rintro e w7 ⟨rfl, d7⟩
  have H7 := hide (H6.out.2.2.2.2.trans (d7.mono H6.out.2.2.2.2.size))
  have T5 := known_any w7 (hide (hT.out.below H7.out h0)) (Nat.lt_of_lt_of_le h0 H7.out.size)
  clear d7 T4 H6 p0 p1 p2 p3 p4 q0 q1 q2 q3 q4
  go_wp2_with fail
  refine T5.mono ?_
  rintro e w8 ⟨rfl, d8⟩
  have H8 := hide (H7.out.trans (d8.mono H7.out.size))
  clear d8 T5
  go_wp2_with fail
  go_ret
  exact ⟨rfl, H8.out⟩
end Go.Proofs.YtojnlpicgemlaaaGreatDoor
