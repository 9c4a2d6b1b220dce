import Derived.Test.YtojnlpicgemlaaaDoorXC
namespace Go.Proofs.YtojnlpicgemlaaaDoor
open Go.RowKit Go.Maps Go.Shelf

/-! ### Lengths by their own rule -/
/-- The least length of a state by its edges so far. -/
def StQ (len : Nat → Int) (L : List EdT) (p : Nat) (x : Int) : Prop := (x = -1 ∧ ∀ e ∈ L, e.1 = (p : Int) → len e.2.2.toNat < 0) ∨ ∃ e ∈ L, e.1 = (p : Int) ∧ 0 ≤ len e.2.2.toNat ∧ x = len e.2.2.toNat + 1 ∧ ∀ e' ∈ L, e'.1 = (p : Int) → 0 ≤ len e'.2.2.toNat → x ≤ len e'.2.2.toNat + 1
theorem StQ.other {len : Nat → Int} {L : List EdT} {e : EdT} {p : Nat} {x : Int} (h : StQ len L p x) (hp : e.1 ≠ (p : Int)) : StQ len (L ++ [e]) p x := by
  rcases h with ⟨h1, h2⟩ | ⟨e0, h0, h1, h2, h3, h4⟩
  · refine .inl ⟨h1, fun e' he' hp' => ?_⟩
    rcases List.mem_append.1 he' with he' | he'
    · exact h2 e' he' hp'
    · rw [List.mem_singleton] at he'; subst he'; exact absurd hp' hp
  · refine .inr ⟨e0, List.mem_append.2 (.inl h0), h1, h2, h3, fun e' he' hp' => ?_⟩
    rcases List.mem_append.1 he' with he' | he'
    · exact h4 e' he' hp'
    · rw [List.mem_singleton] at he'; subst he'; exact absurd hp' hp
theorem StQ.low {len : Nat → Int} {L : List EdT} {e : EdT} {p : Nat} {x : Int} (h : StQ len L p x) (hv : len e.2.2.toNat < 0) : StQ len (L ++ [e]) p x := by
  rcases h with ⟨h1, h2⟩ | ⟨e0, h0, h1, h2, h3, h4⟩
  · refine .inl ⟨h1, fun e' he' hp' => ?_⟩
    rcases List.mem_append.1 he' with he' | he'
    · exact h2 e' he' hp'
    · rw [List.mem_singleton] at he'; subst he'; exact hv
  · refine .inr ⟨e0, List.mem_append.2 (.inl h0), h1, h2, h3, fun e' he' hp' hl => ?_⟩
    rcases List.mem_append.1 he' with he' | he'
    · exact h4 e' he' hp' hl
    · rw [List.mem_singleton] at he'; subst he'; omega
theorem StQ.keep {len : Nat → Int} {L : List EdT} {e : EdT} {p : Nat} {x : Int} (h : StQ len L p x) (hx : ¬ x < 0) (hv : ¬ len e.2.2.toNat + 1 < x) : StQ len (L ++ [e]) p x := by
  rcases h with ⟨h1, h2⟩ | ⟨e0, h0, h1, h2, h3, h4⟩
  · omega
  · refine .inr ⟨e0, List.mem_append.2 (.inl h0), h1, h2, h3, fun e' he' hp' hl => ?_⟩
    rcases List.mem_append.1 he' with he' | he'
    · exact h4 e' he' hp' hl
    · rw [List.mem_singleton] at he'; subst he'; omega
theorem StQ.put {len : Nat → Int} {L : List EdT} {e : EdT} {p : Nat} {x : Int} (h : StQ len L p x) (hp : e.1 = (p : Int)) (hv : 0 ≤ len e.2.2.toNat) (hx : x < 0 ∨ len e.2.2.toNat + 1 < x) : StQ len (L ++ [e]) p (len e.2.2.toNat + 1) := by
  refine .inr ⟨e, List.mem_append.2 (.inr (List.mem_singleton.2 rfl)), hp, hv, rfl, fun e' he' hp' hl => ?_⟩
  rcases List.mem_append.1 he' with he' | he'
  · rcases h with ⟨h1, h2⟩ | ⟨e0, h0, h1, h2, h3, h4⟩
    · have := h2 e' he' hp'; omega
    · have := h4 e' he' hp' hl; omega
  · rw [List.mem_singleton] at he'; subst he'; exact Int.le_refl _
theorem Bfs.steps {N : Nat} {Fi : List Int} {Ed : List EdT} {len : Nat → Int} (h : Bfs N (fun q => (q : Int) ∈ Fi) (stepE true Ed) [] len) (hS : ∀ q : Nat, (q : Int) ∈ Fi → q < N) (hE : ∀ p q, stepE true Ed p q → q < N) (hed : ∀ e ∈ Ed, ∃ p r : Nat, p < N ∧ r < N ∧ e.1 = (p : Int) ∧ e.2.2 = (r : Int)) {q : Nat} {x : Int} (hq : q < N) (hf : (q : Int) ∉ Fi) (hx : StQ len Ed q x) : x = len q := by
  have hcl : ∀ e ∈ Ed, e.1 = (q : Int) → 0 ≤ len e.2.2.toNat → 0 ≤ len q ∧ len q ≤ len e.2.2.toNat + 1 := fun e he h1 h2 => by
    obtain ⟨p, r, hp, hr, a1, a2⟩ := hed e he
    rw [a2, Int.toNat_natCast] at h2 ⊢
    exact h.closed r q hr ⟨e, he, Prod.ext a2 h1⟩ h2 (by simp)
  by_cases hl : 0 ≤ len q
  · have hw := h.sound q hq hl
    obtain ⟨k, hk⟩ := Int.eq_ofNat_of_zero_le hl
    rw [hk, Int.toNat_natCast] at hw
    cases k with
    | zero => exact absurd hw hf
    | succ k =>
      obtain ⟨p, hp, e, he, hend⟩ := hw
      have b1 : e.2.2 = (p : Int) := congrArg Prod.fst hend
      have b2 : e.1 = (q : Int) := congrArg Prod.snd hend
      obtain ⟨hpN, p1, p2⟩ := h.done hS hE k p hp
      have h3 := hcl e he b2 (by rw [b1, Int.toNat_natCast]; exact p1)
      rw [b1, Int.toNat_natCast] at h3
      rcases hx with ⟨_, h2⟩ | ⟨e0, h0, h1, h2, h4, h5⟩
      · have := h2 e he b2
        rw [b1, Int.toNat_natCast] at this
        omega
      · have h6 := h5 e he b2 (by rw [b1, Int.toNat_natCast]; exact p1)
        rw [b1, Int.toNat_natCast] at h6
        have h7 := (hcl e0 h0 h1 h2).2
        have h8 : len q = ((k + 1 : Nat) : Int) := hk
        omega
  · have hm := h.ge q
    rcases hx with ⟨h1, _⟩ | ⟨e0, h0, h1, h2, h4, h5⟩
    · omega
    · have := (hcl e0 h0 h1 h2).1
      omega
/-- How many states ahead of one can end; which stands there. -/
theorem uL_get {U : Nat → Bool} {N q : Nat} (hq : q < N) (hu : U q = true) : ∃ h : (uL U q).length < (uL U N).length, (uL U N)[(uL U q).length] = q := by
  have hm : q ∈ uL U N := uL_mem.2 ⟨hq, hu⟩
  have h1 := uL_idx (N := N) hq hu
  have h2 := List.idxOf_lt_length_iff.2 hm
  refine ⟨by rw [← h1]; exact h2, ?_⟩
  have h3 := List.getElem_idxOf h2
  exact Option.some.inj ((List.getElem?_eq_getElem (by rw [← h1]; exact h2)).symm.trans (by rw [← h1, List.getElem?_eq_getElem h2, h3]))
theorem uL_succ (U : Nat → Bool) (q : Nat) : (uL U (q + 1)).length = (uL U q).length + if U q = true then 1 else 0 := by
  unfold uL
  rw [List.range_succ, List.filter_append, List.length_append]
  cases h : U q <;> simp [h]
theorem uL_sy {U : Nat → Bool} {q : Nat} (h : U q = true) : (uL U (q + 1)).length = (uL U q).length + 1 := by rw [uL_succ, if_pos h]
theorem uL_sn {U : Nat → Bool} {q : Nat} (h : U q = false) : (uL U (q + 1)).length = (uL U q).length := by rw [uL_succ, if_neg (by rw [h]; decide)]; rfl
theorem natL_at {L : List Nat} {k q : Nat} (h : k < L.length) (e : L[k] = q) : (natL L)[k]'(by rw [natL_len]; exact h) = (q : Int) := by simp [natL, e]
/-- Coreach, beside the lengths. -/
theorem core_is {N : Nat} {mv : Int} {St Fi : List Int} {Ed : List EdT} {len : Nat → Int} (hm : mayA (N : Int) mv St Fi Ed = true) (h : Bfs N (fun q => (q : Int) ∈ Fi) (stepE true Ed) [] len) (hS : ∀ q : Nat, (q : Int) ∈ Fi → q < N) (hE : ∀ p q, stepE true Ed p q → q < N) : rchL true (N : Int) mv St Fi Ed = natL (uL (fun q => decide (0 ≤ len q)) N) := by
  unfold rchL
  rw [if_pos hm, Int.toNat_natCast]
  show natL _ = natL _
  refine congrArg natL (List.filter_congr (fun q hq => ?_))
  rw [List.mem_range] at hq
  rw [Bool.eq_iff_iff, @decide_eq_true_iff _ (Classical.propDecidable _), decide_eq_true_iff]
  constructor
  · rintro ⟨k, hk⟩
    exact (h.done hS hE k q hk).2.1
  · intro hl
    exact ⟨_, h.sound q hq hl⟩
end Go.Proofs.YtojnlpicgemlaaaDoor
namespace Go.Proofs.YtojnlpicgemlaaaDoor
open Go.RowKit Go.Maps Go.Shelf
attribute [local go_sem] Oper.semAt_some

theorem blk_on2 {W W' : World} {g : Nat} {o : Obj} (d : Below W.heap.size W W') (h : W.heap[g]? = some o) : W'.heap[g]? = some o := blk_on h d
set_option maxRecDepth 100000 in
set_option maxHeartbeats 8000000 in
theorem tsteps_bad (w : World) (n : Int) (mv : Int) (a1 a2 a3 : Option Addr) (c1 c2 c3 : Nat) (St Fi : List Int) (Ed : List EdT) (hA : Hid (RdA w a1 a2 a3 St Fi Ed)) (h1 : St.length ≤ 4194304) (h2 : Fi.length ≤ 4194304) (h3 : Ed.length ≤ 4194304) (hT : Hid (TabAt w)) (h0 : 0 < w.heap.size) (hm : mayA n mv St Fi Ed = false) :
    Calls Tryd.prog 3 #[.agg #[.int .i64 n, .int .i64 mv, .slice a1 St.length c1, .slice a2 Fi.length c2, .slice a3 Ed.length c3]] w fun e w' => e = .returned (.bool true) ∧ Below w.heap.size w w' := by
  obtain ⟨n1, e1⟩ : ∃ n, St.length = n := ⟨_, rfl⟩
  obtain ⟨n2, e2⟩ : ∃ n, Fi.length = n := ⟨_, rfl⟩
  obtain ⟨n3, e3⟩ : ∃ n, Ed.length = n := ⟨_, rfl⟩
  rw [e1, e2, e3]
  have HE := hide (And.intro e1 (And.intro e2 e3))
  have HL := hide (And.intro h1 (And.intro h2 h3))
  have HM := hide hm
  obtain ⟨kk1, hk1⟩ : ∃ k, n1 + 64 = k := ⟨_, rfl⟩
  obtain ⟨kk2, hk2⟩ : ∃ k, n2 + 64 = k := ⟨_, rfl⟩
  obtain ⟨kk3, hk3⟩ : ∃ k, n3 + 64 = k := ⟨_, rfl⟩
  have HK := hide (And.intro hk1 (And.intro hk2 hk3))
  obtain ⟨W0, hW0⟩ : ∃ W0, w.alloc (.cells #[.int .i64 n, .int .i64 mv, .slice a1 n1 c1, .slice a2 n2 c2, .slice a3 n3 c3] 25) = W0 := ⟨_, rfl⟩
  have HB : Hid (W0.heap[w.heap.size]? = some (.cells #[.int .i64 n, .int .i64 mv, .slice a1 n1 c1, .slice a2 n2 c2, .slice a3 n3 c3] 25 (0, 0)) ∧ Below w.heap.size w W0) := hide (by rw [← hW0]; exact ⟨World.alloc_heap_new _ _, (Below.refl _ _).alloc (Nat.le_refl _) _⟩)
  have TTW : Hid (∀ W, Below w.heap.size w W → Calls Tryd.prog 6 #[.agg #[.int .i64 n, .int .i64 mv, .slice a1 n1 c1, .slice a2 n2 c2, .slice a3 n3 c3]] W fun e w' => ∃ b1 b2 b3, e = .returned (.agg #[.int .i64 n, .int .i64 mv, .slice (some ⟨b1, 0, none⟩) n1 kk1, .slice (some ⟨b2, 0, none⟩) n2 kk2, .slice (some ⟨b3, 0, none⟩) n3 kk3]) ∧ Hid (RdA w' (some ⟨b1, 0, none⟩) (some ⟨b2, 0, none⟩) (some ⟨b3, 0, none⟩) St Fi Ed) ∧ Below W.heap.size W w') := hide (fun W d => by
    have TW := twinA_any W n mv St Fi Ed a1 a2 a3 c1 c2 c3 (hide ⟨hA.out.s.on d, hA.out.f.on d, hA.out.e.on d⟩) HL.out.1 HL.out.2.1 HL.out.2.2
    rw [HE.out.1, HE.out.2.1, HE.out.2.2, HK.out.1, HK.out.2.1, HK.out.2.2] at TW
    refine TW.mono ?_
    rintro e w' ⟨b1, b2, b3, he, hTw, _, dd⟩
    exact ⟨b1, b2, b3, he, hide ⟨padN_reads hTw.s, padN_reads hTw.f, edPad_reads hTw.e⟩, dd⟩)
  have q0 : W0.cell? ⟨w.heap.size, 0, none⟩ = some (.int .i64 n) := cell_of HB.out.1 rfl
  have q1 : W0.cell? ⟨w.heap.size, 1, none⟩ = some (.int .i64 mv) := cell_of HB.out.1 rfl
  have q2 : W0.cell? ⟨w.heap.size, 2, none⟩ = some (.slice a1 n1 c1) := cell_of HB.out.1 rfl
  have q3 : W0.cell? ⟨w.heap.size, 3, none⟩ = some (.slice a2 n2 c2) := cell_of HB.out.1 rfl
  have q4 : W0.cell? ⟨w.heap.size, 4, none⟩ = some (.slice a3 n3 c3) := cell_of HB.out.1 rfl
  clear e1 e2 e3 hk1 hk2 hk3 h1 h2 h3 hm
  go_enter Tryd.func3, Tryd.ntmps3
  go_wp2_with fail
  refine (TTW.out W0 HB.out.2).mono ?_
  rintro e w1 ⟨b1, b2, b3, rfl, HR1, d1⟩
  have H1 : Hid (w1.heap[w.heap.size]? = some (.cells #[.int .i64 n, .int .i64 mv, .slice a1 n1 c1, .slice a2 n2 c2, .slice a3 n3 c3] 25 (0, 0)) ∧ Below w.heap.size w w1) := hide ⟨blk_on HB.out.1 d1, HB.out.2.trans (d1.mono HB.out.2.size)⟩
  clear d1 HB hW0 q0 q1 q2 q3 q4
  have T1 := pdist_bad w1 n mv (some ⟨b1, 0, none⟩) (some ⟨b2, 0, none⟩) (some ⟨b3, 0, none⟩) kk1 kk2 kk3 St Fi Ed HR1.out HL.out.1 HL.out.2.1 HL.out.2.2 HM.out
  rw [HE.out.1, HE.out.2.1, HE.out.2.2] at T1
  clear HR1
  go_wp2_with fail
  refine T1.mono ?_
  rintro e w2 ⟨rfl, d2⟩
  have H2 : Hid (w2.heap[w.heap.size]? = some (.cells #[.int .i64 n, .int .i64 mv, .slice a1 n1 c1, .slice a2 n2 c2, .slice a3 n3 c3] 25 (0, 0)) ∧ Below w.heap.size w w2) := hide ⟨blk_on H1.out.1 d2, H1.out.2.trans (d2.mono H1.out.2.size)⟩
  clear T1 d2 H1
  have q0 : w2.cell? ⟨w.heap.size, 0, none⟩ = some (.int .i64 n) := cell_of H2.out.1 rfl
  have q1 : w2.cell? ⟨w.heap.size, 1, none⟩ = some (.int .i64 mv) := cell_of H2.out.1 rfl
  have q2 : w2.cell? ⟨w.heap.size, 2, none⟩ = some (.slice a1 n1 c1) := cell_of H2.out.1 rfl
  have q3 : w2.cell? ⟨w.heap.size, 3, none⟩ = some (.slice a2 n2 c2) := cell_of H2.out.1 rfl
  have q4 : w2.cell? ⟨w.heap.size, 4, none⟩ = some (.slice a3 n3 c3) := cell_of H2.out.1 rfl
  go_wp2_with fail
  refine (TTW.out w2 H2.out.2).mono ?_
  rintro e w3 ⟨y1, y2, y3, rfl, HR3, d3⟩
  have H3 : Hid (w3.heap[w.heap.size]? = some (.cells #[.int .i64 n, .int .i64 mv, .slice a1 n1 c1, .slice a2 n2 c2, .slice a3 n3 c3] 25 (0, 0)) ∧ Below w.heap.size w w3) := hide ⟨blk_on H2.out.1 d3, H2.out.2.trans (d3.mono H2.out.2.size)⟩
  have T3 := pcoreach_bad w3 n mv (some ⟨y1, 0, none⟩) (some ⟨y2, 0, none⟩) (some ⟨y3, 0, none⟩) kk1 kk2 kk3 St Fi Ed HR3.out HL.out.1 HL.out.2.1 HL.out.2.2 HM.out
  rw [HE.out.1, HE.out.2.1, HE.out.2.2] at T3
  clear d3 H2 HR3 q0 q1 q2 q3 q4
  go_wp2_with fail
  refine T3.mono ?_
  rintro e w4 ⟨rfl, d4⟩
  have H5 : Hid (w4.heap[w.heap.size]? = some (.cells #[.int .i64 n, .int .i64 mv, .slice a1 n1 c1, .slice a2 n2 c2, .slice a3 n3 c3] 25 (0, 0)) ∧ Below w.heap.size w w4) := hide ⟨blk_on H3.out.1 d4, H3.out.2.trans (d4.mono H3.out.2.size)⟩
  have T5 := rmay_any w4 n mv St Fi Ed a1 a2 a3 c1 c2 c3 (hide ⟨hA.out.s.on H5.out.2, hA.out.f.on H5.out.2, hA.out.e.on H5.out.2⟩) HL.out.1 HL.out.2.1 HL.out.2.2
  rw [HE.out.1, HE.out.2.1, HE.out.2.2, mayF_is, HM.out] at T5
  clear T3 d4 H3 TTW
  have q0 : w4.cell? ⟨w.heap.size, 0, none⟩ = some (.int .i64 n) := cell_of H5.out.1 rfl
  have q1 : w4.cell? ⟨w.heap.size, 1, none⟩ = some (.int .i64 mv) := cell_of H5.out.1 rfl
  have q2 : w4.cell? ⟨w.heap.size, 2, none⟩ = some (.slice a1 n1 c1) := cell_of H5.out.1 rfl
  have q3 : w4.cell? ⟨w.heap.size, 3, none⟩ = some (.slice a2 n2 c2) := cell_of H5.out.1 rfl
  have q4 : w4.cell? ⟨w.heap.size, 4, none⟩ = some (.slice a3 n3 c3) := cell_of H5.out.1 rfl
  go_wp2_with fail
  refine T5.mono ?_
  rintro e w6 ⟨rfl, d6⟩
  have H6 := hide (H5.out.2.trans (d6.mono H5.out.2.size))
  have T6 := known_any w6 (hide (hT.out.below H6.out h0)) (Nat.lt_of_lt_of_le h0 H6.out.size)
  clear d6 T5 H5 q0 q1 q2 q3 q4
  go_wp2_with fail
  refine T6.mono ?_
  rintro e w7 ⟨rfl, d7⟩
  have H7 := hide (H6.out.trans (d7.mono H6.out.size))
  clear d7 T6
  go_wp2_with fail
  go_ret
  exact ⟨rfl, H7.out⟩
set_option maxRecDepth 100000 in
set_option maxHeartbeats 8000000 in
theorem tsteps_ok (w : World) (N : Nat) (mv : Int) (a1 a2 a3 : Option Addr) (c1 c2 c3 : Nat) (St Fi : List Int) (Ed : List EdT) (hA : Hid (RdA w a1 a2 a3 St Fi Ed)) (h1 : St.length ≤ 4194304) (h2 : Fi.length ≤ 4194304) (h3 : Ed.length ≤ 4194304) (hT : Hid (TabAt w)) (h0 : 0 < w.heap.size) (hm : mayA (N : Int) mv St Fi Ed = true) :
    Calls Tryd.prog 3 #[.agg #[.int .i64 (N : Int), .int .i64 mv, .slice a1 St.length c1, .slice a2 Fi.length c2, .slice a3 Ed.length c3]] w fun e w' => e = .returned (.bool true) ∧ Below w.heap.size w w' := by
  obtain ⟨n1, e1⟩ : ∃ n, St.length = n := ⟨_, rfl⟩
  obtain ⟨n2, e2⟩ : ∃ n, Fi.length = n := ⟨_, rfl⟩
  obtain ⟨n3, e3⟩ : ∃ n, Ed.length = n := ⟨_, rfl⟩
  rw [e1, e2, e3]
  have HE := hide (And.intro e1 (And.intro e2 e3))
  have HL := hide (And.intro h1 (And.intro h2 h3))
  have HM := hide hm
  obtain ⟨kk1, hk1⟩ : ∃ k, n1 + 64 = k := ⟨_, rfl⟩
  obtain ⟨kk2, hk2⟩ : ∃ k, n2 + 64 = k := ⟨_, rfl⟩
  obtain ⟨kk3, hk3⟩ : ∃ k, n3 + 64 = k := ⟨_, rfl⟩
  have HK := hide (And.intro hk1 (And.intro hk2 hk3))
  obtain ⟨W0, hW0⟩ : ∃ W0, w.alloc (.cells #[.int .i64 (N : Int), .int .i64 mv, .slice a1 n1 c1, .slice a2 n2 c2, .slice a3 n3 c3] 25) = W0 := ⟨_, rfl⟩
  have HB : Hid (W0.heap[w.heap.size]? = some (.cells #[.int .i64 (N : Int), .int .i64 mv, .slice a1 n1 c1, .slice a2 n2 c2, .slice a3 n3 c3] 25 (0, 0)) ∧ Below w.heap.size w W0) := hide (by rw [← hW0]; exact ⟨World.alloc_heap_new _ _, (Below.refl _ _).alloc (Nat.le_refl _) _⟩)
  have TTW : Hid (∀ W, Below w.heap.size w W → Calls Tryd.prog 6 #[.agg #[.int .i64 (N : Int), .int .i64 mv, .slice a1 n1 c1, .slice a2 n2 c2, .slice a3 n3 c3]] W fun e w' => ∃ b1 b2 b3, e = .returned (.agg #[.int .i64 (N : Int), .int .i64 mv, .slice (some ⟨b1, 0, none⟩) n1 kk1, .slice (some ⟨b2, 0, none⟩) n2 kk2, .slice (some ⟨b3, 0, none⟩) n3 kk3]) ∧ Hid (RdA w' (some ⟨b1, 0, none⟩) (some ⟨b2, 0, none⟩) (some ⟨b3, 0, none⟩) St Fi Ed) ∧ Below W.heap.size W w') := hide (fun W d => by
    have TW := twinA_any W (N : Int) mv St Fi Ed a1 a2 a3 c1 c2 c3 (hide ⟨hA.out.s.on d, hA.out.f.on d, hA.out.e.on d⟩) HL.out.1 HL.out.2.1 HL.out.2.2
    rw [HE.out.1, HE.out.2.1, HE.out.2.2, HK.out.1, HK.out.2.1, HK.out.2.2] at TW
    refine TW.mono ?_
    rintro e w' ⟨b1, b2, b3, he, hTw, _, dd⟩
    exact ⟨b1, b2, b3, he, hide ⟨padN_reads hTw.s, padN_reads hTw.f, edPad_reads hTw.e⟩, dd⟩)
  have q0 : W0.cell? ⟨w.heap.size, 0, none⟩ = some (.int .i64 (N : Int)) := cell_of HB.out.1 rfl
  have q1 : W0.cell? ⟨w.heap.size, 1, none⟩ = some (.int .i64 mv) := cell_of HB.out.1 rfl
  have q2 : W0.cell? ⟨w.heap.size, 2, none⟩ = some (.slice a1 n1 c1) := cell_of HB.out.1 rfl
  have q3 : W0.cell? ⟨w.heap.size, 3, none⟩ = some (.slice a2 n2 c2) := cell_of HB.out.1 rfl
  have q4 : W0.cell? ⟨w.heap.size, 4, none⟩ = some (.slice a3 n3 c3) := cell_of HB.out.1 rfl
  clear e1 e2 e3 hk1 hk2 hk3 h1 h2 h3 hm
  go_enter Tryd.func3, Tryd.ntmps3
  go_wp2_with fail
  refine (TTW.out W0 HB.out.2).mono ?_
  rintro e w1 ⟨b1, b2, b3, rfl, HR1, d1⟩
  have H1 : Hid (w1.heap[w.heap.size]? = some (.cells #[.int .i64 (N : Int), .int .i64 mv, .slice a1 n1 c1, .slice a2 n2 c2, .slice a3 n3 c3] 25 (0, 0)) ∧ Below w.heap.size w w1) := hide ⟨blk_on HB.out.1 d1, HB.out.2.trans (d1.mono HB.out.2.size)⟩
  clear d1 HB hW0 q0 q1 q2 q3 q4
  have T1 := pdist_ok w1 N mv (some ⟨b1, 0, none⟩) (some ⟨b2, 0, none⟩) (some ⟨b3, 0, none⟩) kk1 kk2 kk3 St Fi Ed ⟨HM.out, HR1.out.s, HR1.out.f, HR1.out.e, HL.out.1, HL.out.2.1⟩
  have HG : Hid ((∀ q : Nat, (q : Int) ∈ Fi → q < N) ∧ (∀ p q, stepE true Ed p q → q < N) ∧ (∀ e ∈ Ed, ∃ p r : Nat, p < N ∧ r < N ∧ e.1 = (p : Int) ∧ e.2.2 = (r : Int)) ∧ (∀ x ∈ Fi, ∃ q : Nat, q < N ∧ x = (q : Int))) := hide (by
    have g : ArgA w1 N mv (some ⟨b1, 0, none⟩) (some ⟨b2, 0, none⟩) (some ⟨b3, 0, none⟩) St Fi Ed := ⟨HM.out, HR1.out.s, HR1.out.f, HR1.out.e, HL.out.1, HL.out.2.1⟩
    exact ⟨g.hS true, g.hE true, g.prs, g.inf⟩)
  have hN : N ≤ 4096 := by have := (may_parts HM.out).1; omega
  rw [HE.out.1, HE.out.2.1, HE.out.2.2] at T1
  clear HR1
  go_wp2_with fail
  refine T1.mono ?_
  rintro e w2 ⟨v2, rfl, ⟨len, gl, rfl, _, MD, hbf, hlt⟩, d2⟩
  have H2 : Hid (w2.heap[w.heap.size]? = some (.cells #[.int .i64 (N : Int), .int .i64 mv, .slice a1 n1 c1, .slice a2 n2 c2, .slice a3 n3 c3] 25 (0, 0)) ∧ Mrw w2 gl 3 N (fun c => .int .i64 (len c)) N ∧ Below w.heap.size w w2) := hide ⟨blk_on H1.out.1 d2, MD, H1.out.2.trans (d2.mono H1.out.2.size)⟩
  have HBF := hide (And.intro hbf hlt)
  clear T1 d2 H1 MD hbf hlt
  have q0 : w2.cell? ⟨w.heap.size, 0, none⟩ = some (.int .i64 (N : Int)) := cell_of H2.out.1 rfl
  have q1 : w2.cell? ⟨w.heap.size, 1, none⟩ = some (.int .i64 mv) := cell_of H2.out.1 rfl
  have q2 : w2.cell? ⟨w.heap.size, 2, none⟩ = some (.slice a1 n1 c1) := cell_of H2.out.1 rfl
  have q3 : w2.cell? ⟨w.heap.size, 3, none⟩ = some (.slice a2 n2 c2) := cell_of H2.out.1 rfl
  have q4 : w2.cell? ⟨w.heap.size, 4, none⟩ = some (.slice a3 n3 c3) := cell_of H2.out.1 rfl
  go_wp2_with fail
  refine (TTW.out w2 H2.out.2.2).mono ?_
  rintro e w3 ⟨y1, y2, y3, rfl, HR3, d3⟩
  have H3 : Hid (w3.heap[w.heap.size]? = some (.cells #[.int .i64 (N : Int), .int .i64 mv, .slice a1 n1 c1, .slice a2 n2 c2, .slice a3 n3 c3] 25 (0, 0)) ∧ Mrw w3 gl 3 N (fun c => .int .i64 (len c)) N ∧ Below w.heap.size w w3) := hide ⟨blk_on H2.out.1 d3, H2.out.2.1.below d3 H2.out.2.1.lt, H2.out.2.2.trans (d3.mono H2.out.2.2.size)⟩
  have T3 := pcoreach_u w3 (N : Int) mv (some ⟨y1, 0, none⟩) (some ⟨y2, 0, none⟩) (some ⟨y3, 0, none⟩) kk1 kk2 kk3 St Fi Ed HR3.out HL.out.1 HL.out.2.1 HL.out.2.2 (hT.out.below H3.out.2.2 h0) (Nat.lt_of_lt_of_le h0 H3.out.2.2.size)
  rw [HE.out.1, HE.out.2.1, HE.out.2.2, errN_ok HM.out, core_is HM.out HBF.out.1 HG.out.1 HG.out.2.1] at T3
  clear d3 H2 HR3 q0 q1 q2 q3 q4 TTW
  go_wp2_with fail
  refine T3.mono ?_
  rintro e w4 ⟨v4, rfl, ⟨ac, cc, rfl, RC⟩, d4⟩
  obtain ⟨m, hm⟩ : ∃ m, (natL (uL (fun q => decide (0 ≤ len q)) N)).length = m := ⟨_, rfl⟩
  rw [hm]
  have H4 : Hid (w4.heap[w.heap.size]? = some (.cells #[.int .i64 (N : Int), .int .i64 mv, .slice a1 n1 c1, .slice a2 n2 c2, .slice a3 n3 c3] 25 (0, 0)) ∧ Mrw w4 gl 3 N (fun c => .int .i64 (len c)) N ∧ Below w.heap.size w w4) := hide ⟨blk_on H3.out.1 d4, H3.out.2.1.below d4 H3.out.2.1.lt, H3.out.2.2.trans (d4.mono H3.out.2.2.size)⟩
  have HC4 := hide (And.intro hm RC)
  have T5 := rmay_any w4 (N : Int) mv St Fi Ed a1 a2 a3 c1 c2 c3 (hide ⟨hA.out.s.on H4.out.2.2, hA.out.f.on H4.out.2.2, hA.out.e.on H4.out.2.2⟩) HL.out.1 HL.out.2.1 HL.out.2.2
  rw [HE.out.1, HE.out.2.1, HE.out.2.2, mayF_is, HM.out] at T5
  clear T3 d4 H3 hm RC
  have q0 : w4.cell? ⟨w.heap.size, 0, none⟩ = some (.int .i64 (N : Int)) := cell_of H4.out.1 rfl
  have q1 : w4.cell? ⟨w.heap.size, 1, none⟩ = some (.int .i64 mv) := cell_of H4.out.1 rfl
  have q2 : w4.cell? ⟨w.heap.size, 2, none⟩ = some (.slice a1 n1 c1) := cell_of H4.out.1 rfl
  have q3 : w4.cell? ⟨w.heap.size, 3, none⟩ = some (.slice a2 n2 c2) := cell_of H4.out.1 rfl
  have q4 : w4.cell? ⟨w.heap.size, 4, none⟩ = some (.slice a3 n3 c3) := cell_of H4.out.1 rfl
  have kK : ((N : Int) != (N : Int)) = false := by simp
  go_upto_region 5 with fail
  go_wp2_with fail
  refine T5.mono ?_
  rintro e w5 ⟨rfl, d5⟩
  have H5 : Hid (w5.heap[w.heap.size]? = some (.cells #[.int .i64 (N : Int), .int .i64 mv, .slice a1 n1 c1, .slice a2 n2 c2, .slice a3 n3 c3] 25 (0, 0)) ∧ Below w.heap.size w w5) := hide ⟨blk_on H4.out.1 d5, H4.out.2.2.trans (d5.mono H4.out.2.2.size)⟩
  have HD5 : Hid (Mrw w5 gl 3 N (fun c => .int .i64 (len c)) N ∧ gl < w5.heap.size ∧ Bfs N (fun q => (q : Int) ∈ Fi) (stepE true Ed) [] len ∧ (∀ q, q < N → len q < N)) := hide ⟨H4.out.2.1.below d5 H4.out.2.1.lt, Nat.lt_of_lt_of_le H4.out.2.1.lt d5.size, HBF.out⟩
  have HC : Hid ((natL (uL (fun q => decide (0 ≤ len q)) N)).length = m ∧ RdN w5 ac (natL (uL (fun q => decide (0 ≤ len q)) N))) := hide ⟨HC4.out.1, HC4.out.2.on d5⟩
  clear T5 d5 H4 HBF HC4 q0 q1 q2 q3 q4
  obtain ⟨i3, hi3, hz30, hz31, hz32⟩ := info_parts info3
  have q0 : w5.cell? ⟨w.heap.size, 0, none⟩ = some (.int .i64 (N : Int)) := cell_of H5.out.1 rfl
  go_upto_region 8 with (at_make; refine wpList_make_full _ rfl _ _ 22 rfl w5.heap.size 3 i3 (.int .i64 0) 1 Tryd.underlying22 hi3 hz30 hz31 _ _ _ _ N rfl rfl (by go_num) (by go_num) (by rw [hz32]; omega) (by unfold maxLen; omega) (Nat.le_refl _) ?_; intro w6 ho hg)
  have D6 : Below w5.heap.size w5 w6 := (Below.refl _ _).grown hg (Nat.le_refl _) (by intro k hk; cases hk)
  have M6 : Mrw w6 w5.heap.size 3 (N * 1) (fun _ => .int .i64 (-1)) 0 := Mrw.ofRow _ ho
  rw [Nat.mul_one] at M6
  have H6 := hide (And.intro M6 D6)
  clear ho hg D6 M6 q0
  go_wp2_with fail
  go_loopw [8] (fun iv wr => ∃ i : Nat, i ≤ N ∧ iv = .int .i64 (i : Int) ∧ Hid (Mrw wr w5.heap.size 3 N (fun _ => .int .i64 (-1)) i ∧ Below w5.heap.size w5 wr)) (fun iv _ => N - (intOf iv).toNat)
  case atStart => exact ⟨0, Nat.zero_le _, rfl, H6⟩
  case round =>
    obtain ⟨i, hi, rfl, HY⟩ := hrel
    clear H6
    have B1 := blk_on2 HY.out.2 H5.out.1
    have k0 : wr.cell? ⟨w.heap.size, 0, none⟩ = some (.int .i64 (N : Int)) := cell_of B1 rfl
    clear B1
    by_cases hlt : i < N
    · have l0 : (i : Int) < (N : Int) := by omega
      have i0 : (0 : Int) ≤ (i : Int) := by omega
      obtain ⟨u, cu⟩ := HY.out.1.cell i hlt
      have zu : wr.frozen? ⟨w5.heap.size, i, none⟩ = false := HY.out.1.fz i
      have J : Hid (Mrw (wr.setCell ⟨w5.heap.size, i, none⟩ (.int .i64 (-1))) w5.heap.size 3 N (fun _ => .int .i64 (-1)) (i + 1) ∧ Below w5.heap.size w5 (wr.setCell ⟨w5.heap.size, i, none⟩ (.int .i64 (-1)))) := hide ⟨HY.out.1.put hlt _ rfl, HY.out.2.setCell (Nat.le_refl _) _⟩
      clear HY
      go_wp2_with fail
      go_roundw
      case rel => exact ⟨i + 1, by omega, by go_num, J⟩
      case measure => simp [intOf]; omega
    · have l0 : ¬ (i : Int) < (N : Int) := by omega
      go_upto_region 12 with fail
      rename World => wb
      have hiN : i = N := by omega
      have hb3 : n3 ≤ 4194304 := by rw [← HE.out.2.2]; exact HL.out.2.2
      have hb2 : n2 ≤ 4194304 := by rw [← HE.out.2.1]; exact HL.out.2.1
      have HI : Hid (∃ out : Nat → Int, Mrw wb w5.heap.size 3 N (fun c => .int .i64 (out c)) N ∧ (∀ p, p < N → StQ len (Ed.take 0) p (out p)) ∧ Below w5.heap.size w5 wb) := hide ⟨fun _ => -1, by rw [← hiN]; rw [hiN] at HY ⊢; exact HY.out.1, fun p _ => .inl ⟨rfl, fun e he => by simp at he⟩, HY.out.2⟩
      clear HY k0
      go_wp2_with fail
      go_loopw [9, 10, 11] (fun iv _ _ wr => ∃ i : Nat, i ≤ n3 ∧ iv = .int .i64 (i : Int) ∧ Hid (∃ out : Nat → Int, Mrw wr w5.heap.size 3 N (fun c => .int .i64 (out c)) N ∧ (∀ p, p < N → StQ len (Ed.take i) p (out p)) ∧ Below w5.heap.size w5 wr)) (fun iv _ _ _ => n3 - (intOf iv).toNat)
      case atStart => exact ⟨0, Nat.zero_le _, rfl, HI⟩
      case round =>
        obtain ⟨j, hj, rfl, HZ⟩ := hrel
        clear HI
        have B1 := blk_on2 (by obtain ⟨_, _, _, d⟩ := HZ.out; exact d) H5.out.1
        have k0 : wr.cell? ⟨w.heap.size, 0, none⟩ = some (.int .i64 (N : Int)) := cell_of B1 rfl
        have k4 : wr.cell? ⟨w.heap.size, 4, none⟩ = some (.slice a3 n3 c3) := cell_of B1 rfl
        clear B1
        by_cases hlt : j < n3
        · have l0 : (j : Int) < (n3 : Int) := by omega
          have j0 : (0 : Int) ≤ (j : Int) := by omega
          have hjl : j < Ed.length := by have := HE.out.2.2; omega
          obtain ⟨out, hO, hF, hD⟩ := HZ.out
          obtain ⟨g3, o3, ea, ca1, _, ca3⟩ := (hA.out.e.on (H5.out.2.trans (hD.mono H5.out.2.size))) j hjl
          obtain ⟨p, r, hp, hr, ep, er⟩ := HG.out.2.2.1 _ (List.getElem_mem hjl)
          have HT := hide (List.take_succ_eq_append_getElem hjl)
          have HEd := hide (And.intro ep er)
          rw [ep] at ca1
          rw [er] at ca3
          subst ea
          have p0 : (0 : Int) ≤ (p : Int) := by omega
          have p1 : (p : Int) < (N : Int) := by omega
          have r0 : (0 : Int) ≤ (r : Int) := by omega
          have r1 : (r : Int) < (N : Int) := by omega
          have x2 : wr.cell? ⟨gl, r, none⟩ = some (.int .i64 (len r)) := (HD5.out.1.below hD HD5.out.2.1).at r hr
          have hvN := HD5.out.2.2.2 r hr
          have zu : wr.frozen? ⟨w5.heap.size, p, none⟩ = false := hO.fz p
          have cu := hO.at p hp
          have HO := hide (And.intro hO (And.intro hF hD))
          clear HZ hO hF hD
          have HLr : Hid (len (Ed[j]).2.2.toNat = len r) := hide (by rw [HEd.out.2, Int.toNat_natCast])
          obtain ⟨v, hv⟩ : ∃ v, len r = v := ⟨_, rfl⟩
          rw [hv] at x2 hvN HLr
          clear hv
          obtain ⟨x, hx⟩ : ∃ x, out p = x := ⟨_, rfl⟩
          have HOx := hide hx
          rw [hx] at cu
          clear hx
          have HKeep : Hid ((v < 0 ∨ (¬ x < 0 ∧ ¬ v + 1 < x)) → Hid (∃ out : Nat → Int, Mrw wr w5.heap.size 3 N (fun c => .int .i64 (out c)) N ∧ (∀ p, p < N → StQ len (Ed.take (j + 1)) p (out p)) ∧ Below w5.heap.size w5 wr)) := hide (fun hc => hide (by
            refine ⟨out, HO.out.1, fun s hs => ?_, HO.out.2.2⟩
            rw [HT.out]
            rcases hc with hc | ⟨hc1, hc2⟩
            · exact (HO.out.2.1 s hs).low (by rw [HLr.out]; exact hc)
            · by_cases e : s = p
              · subst e
                exact (HO.out.2.1 s hs).keep (by rw [HOx.out]; exact hc1) (by rw [HLr.out, HOx.out]; exact hc2)
              · exact (HO.out.2.1 s hs).other (by rw [HEd.out.1]; omega)))
          have HPut : Hid (0 ≤ v → (x < 0 ∨ v + 1 < x) → Hid (∃ out : Nat → Int, Mrw (wr.setCell ⟨w5.heap.size, p, none⟩ (.int .i64 (v + 1))) w5.heap.size 3 N (fun c => .int .i64 (out c)) N ∧ (∀ p, p < N → StQ len (Ed.take (j + 1)) p (out p)) ∧ Below w5.heap.size w5 (wr.setCell ⟨w5.heap.size, p, none⟩ (.int .i64 (v + 1))))) := hide (fun hv hc => hide (by
            refine ⟨fun c => if c = p then v + 1 else out c, (HO.out.1.upd p (.int .i64 (v + 1))).congr (fun c _ => by by_cases e : c = p <;> simp [e]), fun s hs => ?_, HO.out.2.2.setCell (Nat.le_refl _) _⟩
            rw [HT.out]
            show StQ len _ s (if s = p then v + 1 else out s)
            by_cases e : s = p
            · subst e
              rw [if_pos rfl, ← HLr.out]
              exact (HO.out.2.1 s hs).put HEd.out.1 (by rw [HLr.out]; exact hv) (by rw [HLr.out, HOx.out]; exact hc)
            · rw [if_neg e]
              exact (HO.out.2.1 s hs).other (by rw [HEd.out.1]; omega)))
          clear HO HT HEd HLr HOx
          by_cases hv0 : 0 ≤ v
          · have hw : IntKind.i64.wrap (v + 1) = v + 1 := by rw [IntKind.wrap_i64]; omega
            by_cases hx0 : x < 0
            · have J := HPut.out hv0 (.inl hx0)
              clear HPut HKeep
              go_wp2_with fail
              go_roundw
              case rel => exact ⟨j + 1, by omega, by go_num, J⟩
              case measure => simp [intOf]; omega
            · have hx1 : 0 ≤ x := by omega
              by_cases hxv : v + 1 < x
              · have J := HPut.out hv0 (.inr hxv)
                clear HPut HKeep
                go_wp2_with fail
                go_roundw
                case rel => exact ⟨j + 1, by omega, by go_num, J⟩
                case measure => simp [intOf]; omega
              · have J := HKeep.out (.inr ⟨hx0, hxv⟩)
                clear HPut HKeep
                go_wp2_with fail
                go_roundw
                case rel => exact ⟨j + 1, by omega, by go_num, J⟩
                case measure => simp [intOf]; omega
          · have J := HKeep.out (.inl (by omega))
            have hv1 : v < 0 := by omega
            clear HPut HKeep
            go_wp2_with fail
            go_roundw
            case rel => exact ⟨j + 1, by omega, by go_num, J⟩
            case measure => simp [intOf]; omega
        · have l0 : ¬ (j : Int) < (n3 : Int) := by omega
          have hiE : j = n3 := by omega
          go_upto_region 19 with fail
          rename World => wc
          have HI : Hid (∃ out : Nat → Int, Mrw wc w5.heap.size 3 N (fun c => .int .i64 (out c)) N ∧ (∀ p, p < N → ((p : Int) ∈ Fi.take 0 ∧ out p = 0) ∨ ((p : Int) ∉ Fi.take 0 ∧ StQ len Ed p (out p))) ∧ Below w5.heap.size w5 wc) := hide (by
            obtain ⟨out, hO, hF, hD⟩ := HZ.out
            refine ⟨out, hO, fun p hp => .inr ⟨by simp, ?_⟩, hD⟩
            have := hF p hp
            rw [hiE, List.take_of_length_le (by have := HE.out.2.2; omega)] at this
            exact this)
          clear HZ k0 k4
          go_wp2_with fail
          go_loopw [12] (fun iv wr => ∃ i : Nat, i ≤ n2 ∧ iv = .int .i64 (i : Int) ∧ Hid (∃ out : Nat → Int, Mrw wr w5.heap.size 3 N (fun c => .int .i64 (out c)) N ∧ (∀ p, p < N → ((p : Int) ∈ Fi.take i ∧ out p = 0) ∨ ((p : Int) ∉ Fi.take i ∧ StQ len Ed p (out p))) ∧ Below w5.heap.size w5 wr)) (fun iv _ => n2 - (intOf iv).toNat)
          case atStart => exact ⟨0, Nat.zero_le _, rfl, HI⟩
          case round =>
            obtain ⟨j, hj, rfl, HX⟩ := hrel
            clear HI
            have B1 := blk_on2 (by obtain ⟨_, _, _, d⟩ := HX.out; exact d) H5.out.1
            have k0 : wr.cell? ⟨w.heap.size, 0, none⟩ = some (.int .i64 (N : Int)) := cell_of B1 rfl
            have k3 : wr.cell? ⟨w.heap.size, 3, none⟩ = some (.slice a2 n2 c2) := cell_of B1 rfl
            clear B1
            by_cases hlt : j < n2
            · have l0 : (j : Int) < (n2 : Int) := by omega
              have j0 : (0 : Int) ≤ (j : Int) := by omega
              have hjl : j < Fi.length := by have := HE.out.2.1; omega
              obtain ⟨out, hO, hF, hD⟩ := HX.out
              obtain ⟨g2, o2, ea, ca⟩ := (hA.out.f.on (H5.out.2.trans (hD.mono H5.out.2.size))) j hjl
              obtain ⟨f, hf, ef⟩ := HG.out.2.2.2 _ (List.getElem_mem hjl)
              rw [ef] at ca
              have f0 : (0 : Int) ≤ (f : Int) := by omega
              have f1 : (f : Int) < (N : Int) := by omega
              have zu : wr.frozen? ⟨w5.heap.size, f, none⟩ = false := hO.fz f
              have cu := hO.at f hf
              subst ea
              have J : Hid (∃ out : Nat → Int, Mrw (wr.setCell ⟨w5.heap.size, f, none⟩ (.int .i64 0)) w5.heap.size 3 N (fun c => .int .i64 (out c)) N ∧ (∀ p, p < N → ((p : Int) ∈ Fi.take (j + 1) ∧ out p = 0) ∨ ((p : Int) ∉ Fi.take (j + 1) ∧ StQ len Ed p (out p))) ∧ Below w5.heap.size w5 (wr.setCell ⟨w5.heap.size, f, none⟩ (.int .i64 0))) := hide (by
                refine ⟨fun c => if c = f then 0 else out c, (hO.upd f (.int .i64 0)).congr (fun c _ => by by_cases e : c = f <;> simp [e]), fun p hp => ?_, hD.setCell (Nat.le_refl _) _⟩
                have ht : ∀ z : Int, z ∈ Fi.take (j + 1) ↔ z ∈ Fi.take j ∨ z = (f : Int) := fun z => by rw [List.take_succ_eq_append_getElem hjl, List.mem_append, List.mem_singleton, ef]
                by_cases e : p = f
                · exact .inl ⟨(ht _).2 (.inr (by rw [e])), if_pos e⟩
                · rcases hF p hp with ⟨h1, h2⟩ | ⟨h1, h2⟩
                  · exact .inl ⟨(ht _).2 (.inl h1), (if_neg e).trans h2⟩
                  · refine .inr ⟨fun h => ?_, ?_⟩
                    · rcases (ht _).1 h with h | h
                      · exact h1 h
                      · omega
                    · show StQ len Ed p (if p = f then 0 else out p)
                      rw [if_neg e]; exact h2)
              clear HX hO hF hD
              go_wp2_with fail
              go_roundw
              case rel => exact ⟨j + 1, by omega, by go_num, J⟩
              case measure => simp [intOf]; omega
            · have l0 : ¬ (j : Int) < (n2 : Int) := by omega
              have hiF : j = n2 := by omega
              go_upto_region 24 with fail
              rename World => wd
              have HU : Hid (Mrw wd w5.heap.size 3 N (fun c => .int .i64 (len c)) N ∧ Below w5.heap.size w5 wd) := hide (by
                obtain ⟨out, hO, hF, hD⟩ := HX.out
                refine ⟨hO.congr (fun q hq => ?_), hD⟩
                have e : out q = len q := by
                  rcases hF q hq with ⟨hf, e⟩ | ⟨hf, hs⟩
                  · rw [hiF, List.take_of_length_le (by have := HE.out.2.1; omega)] at hf
                    exact e.trans (HD5.out.2.2.1.start q hf).symm
                  · rw [hiF, List.take_of_length_le (by have := HE.out.2.1; omega)] at hf
                    exact HD5.out.2.2.1.steps HG.out.1 HG.out.2.1 HG.out.2.2.1 hq hf hs
                exact congrArg (Value.int .i64) e)
              clear HX k0 k3
              go_wp2_with fail
              go_loopw [13, 14] (fun kv qv wr => ∃ q k : Nat, q ≤ N ∧ kv = .int .i64 (k : Int) ∧ qv = .int .i64 (q : Int) ∧ k ≤ q ∧ Hid (k = (uL (fun q => decide (0 ≤ len q)) q).length ∧ Mrw wr w5.heap.size 3 N (fun c => .int .i64 (len c)) N ∧ Below w5.heap.size w5 wr)) (fun _ qv _ => N - (intOf qv).toNat)
              case atStart => exact ⟨0, 0, Nat.zero_le _, rfl, rfl, Nat.le_refl _, hide ⟨rfl, HU.out⟩⟩
              case round =>
                obtain ⟨q, k, hq, rfl, rfl, hkq, HY⟩ := hrel
                clear HU
                have B1 := blk_on2 HY.out.2.2 H5.out.1
                have k0 : wr.cell? ⟨w.heap.size, 0, none⟩ = some (.int .i64 (N : Int)) := cell_of B1 rfl
                clear B1
                by_cases hlt : q < N
                · have l0 : (q : Int) < (N : Int) := by omega
                  have j0 : (0 : Int) ≤ (q : Int) := by omega
                  have x1 : wr.cell? ⟨w5.heap.size, q, none⟩ = some (.int .i64 (len q)) := HY.out.2.1.at q hlt
                  have x2 : wr.cell? ⟨gl, q, none⟩ = some (.int .i64 (len q)) := (HD5.out.1.below HY.out.2.2 HD5.out.2.1).at q hlt
                  have HK2 : Hid (0 ≤ len q → ∃ h : k < (uL (fun q => decide (0 ≤ len q)) N).length, (uL (fun q => decide (0 ≤ len q)) N)[k] = q) := hide (fun h => by
                    have e := HY.out.1
                    subst e
                    exact uL_get hlt (decide_eq_true h))
                  obtain ⟨x, hx⟩ : ∃ x, len q = x := ⟨_, rfl⟩
                  have HX2 := hide hx
                  rw [hx] at x1 x2
                  clear hx
                  have xx : (x != x) = false := by simp
                  by_cases hl : 0 ≤ x
                  · obtain ⟨hk1, hk2⟩ := HK2.out (by rw [HX2.out]; exact hl)
                    have hkc : k < m := by rw [← HC.out.1, natL_len]; exact hk1
                    have hkn : k < (natL (uL (fun q => decide (0 ≤ len q)) N)).length := by rw [natL_len]; exact hk1
                    obtain ⟨gc, oc, ec, cc⟩ := (HC.out.2.on HY.out.2.2) k hkn
                    have cc2 : wr.cell? ⟨gc, oc + k, none⟩ = some (.int .i64 (q : Int)) := by
                      rw [cc]
                      have := natL_at hk1 hk2
                      rw [this]
                    subst ec
                    clear cc hk2
                    have J : Hid (k + 1 = (uL (fun q => decide (0 ≤ len q)) (q + 1)).length) := hide (by rw [uL_sy (decide_eq_true (by rw [HX2.out]; exact hl)), ← HY.out.1])
                    have c1 : ¬ (m : Int) ≤ (k : Int) := by omega
                    have c2 : ¬ m ≤ k := by omega
                    have c3 : decide (m ≤ k) = false := decide_eq_false c2
                    have c4 : (k : Int) < (m : Int) := by omega
                    have c5 : (0 : Int) ≤ (k : Int) := by omega
                    have c6 : ((q : Int) != (q : Int)) = false := by simp
                    have HY2 := hide HY.out.2
                    clear HK2 HY hk1 hkn
                    go_upto_region 27 with fail
                    go_quiet (fail)
                    go_upto_region 29 with fail
                    go_upto_region 30 with fail
                    go_wp2_with fail
                    go_roundw
                    case rel => exact ⟨q + 1, k + 1, by omega, by go_num, by go_num, by omega, hide ⟨J.out, HY2.out.1.below (below_drewN2 (Below.refl _ _) _) HY2.out.1.lt, below_drewN2 HY2.out.2 _⟩⟩
                    case measure => simp [intOf]; omega
                  · have J : Hid (k = (uL (fun q => decide (0 ≤ len q)) (q + 1)).length) := hide (by rw [uL_sn (decide_eq_false (by rw [HX2.out]; exact hl)), ← HY.out.1])
                    have HY2 := hide HY.out.2
                    have c1 : decide (0 ≤ x) = false := decide_eq_false hl
                    clear HK2 HY
                    go_upto_region 27 with fail
                    go_quiet (fail)
                    go_wp2_with fail
                    go_roundw
                    case rel => exact ⟨q + 1, k, by omega, rfl, by go_num, by omega, hide ⟨J.out, HY2.out.1.below (below_drewN2 (Below.refl _ _) _) HY2.out.1.lt, below_drewN2 HY2.out.2 _⟩⟩
                    case measure => simp [intOf]; omega
                · have l0 : ¬ (q : Int) < (N : Int) := by omega
                  have hqN : q = N := by omega
                  have hkm : k = m := by rw [HY.out.1, hqN, ← HC.out.1, natL_len]
                  have kk : ((k : Int) == (m : Int)) = true := by rw [hkm]; simp
                  have HGz := hide (H5.out.2.trans (HY.out.2.2.mono H5.out.2.size))
                  have TKn := known_any wr (hide (hT.out.below HGz.out h0)) (Nat.lt_of_lt_of_le h0 HGz.out.size)
                  subst hkm
                  clear hqN HY
                  go_wp2_with fail
                  refine TKn.mono ?_
                  rintro e wz ⟨rfl, dz⟩
                  have HZ := hide (HGz.out.trans (dz.mono HGz.out.size))
                  clear dz TKn
                  go_wp2_with fail
                  go_ret
                  exact ⟨rfl, HZ.out⟩
theorem tsteps_any (w : World) (n mv : Int) (a1 a2 a3 : Option Addr) (c1 c2 c3 : Nat) (St Fi : List Int) (Ed : List EdT) (hA : Hid (RdA w a1 a2 a3 St Fi Ed)) (h1 : St.length ≤ 4194304) (h2 : Fi.length ≤ 4194304) (h3 : Ed.length ≤ 4194304) (hT : Hid (TabAt w)) (h0 : 0 < w.heap.size) :
    Calls Tryd.prog 3 #[.agg #[.int .i64 n, .int .i64 mv, .slice a1 St.length c1, .slice a2 Fi.length c2, .slice a3 Ed.length c3]] w fun e w' => e = .returned (.bool true) ∧ Below w.heap.size w w' := by
  by_cases hm : mayA n mv St Fi Ed = true
  · obtain ⟨N, rfl, _⟩ := arg_of hA.out h1 h2 hm
    exact tsteps_ok w N mv a1 a2 a3 c1 c2 c3 St Fi Ed hA h1 h2 h3 hT h0 hm
  · exact tsteps_bad w n mv a1 a2 a3 c1 c2 c3 St Fi Ed hA h1 h2 h3 hT h0 (by simpa using hm)
end Go.Proofs.YtojnlpicgemlaaaDoor
