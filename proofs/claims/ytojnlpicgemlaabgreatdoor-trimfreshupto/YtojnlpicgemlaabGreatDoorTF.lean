import Derived.Test.YtojnlpicgemlaabGreatDoorTe
namespace Go.Proofs.YtojnlpicgemlaabGreatDoor
open Go.RowKit Go.Maps
attribute [local go_sem] Oper.semAt_some

/-! ### The document's Reach and Coreach -/
/-- The states that some way leads to, in a list of its own. -/
def AnsG (w w' : World) (v : Value) (N : Nat) (S : Nat → Prop) (E : Nat → Nat → Prop) : Prop := ∃ M, OwnL w.heap.size w' v (maskL N M) ∧ ∀ q, q < N → (M q = true ↔ ∃ k, Wlk S E k q)
theorem ArgA.prs {w : World} {N : Nat} {mv : Int} {a1 a2 a3 : Option Addr} {St Fi : List Int} {Ed : List EdT} (h : ArgA w N mv a1 a2 a3 St Fi Ed) : ∀ e ∈ Ed, ∃ p r : Nat, p < N ∧ r < N ∧ e.1 = (p : Int) ∧ e.2.2 = (r : Int) := fun e he => by
  obtain ⟨p, r, h1, h2, h3⟩ := h.ends false e he
  exact ⟨p, r, h1, h2, congrArg Prod.fst h3, congrArg Prod.snd h3⟩
/-- The program's answer is the document's. -/
theorem ansR_is {w w' : World} {v : Value} {N : Nat} {S : Nat → Prop} {E : Nat → Nat → Prop} {M : Nat → Bool} (h : AnsR w w' v N S E) (hS : ∀ q, S q → q < N) (hE : ∀ p q, E p q → q < N) (hM : ∀ q, q < N → (M q = true ↔ ∃ k, Wlk S E k q)) : OwnL w.heap.size w' v (maskL N M) := by
  obtain ⟨len, gl, cl, rfl, ho, hb⟩ := h
  have e : elems N (metX len N) = (List.range N).filter M := by
    unfold elems
    apply List.filter_congr
    intro q hq
    have hq : q < N := by simpa using hq
    rw [metX_test, Bool.eq_iff_iff, decide_eq_true_eq, hM q hq]
    constructor
    · rintro ⟨_, h⟩
      exact ⟨_, hb.sound q hq (by have := hb.ge q; omega)⟩
    · rintro ⟨k, h⟩
      have := hb.done hS hE k q h
      exact ⟨hq, by omega⟩
  unfold OwnL maskL natL
  rw [← e, List.length_map, List.map_map]
  exact ho
set_option maxRecDepth 100000 in
set_option maxHeartbeats 1000000 in
theorem rreach_ok (w : World) (N : Nat) (mv : Int) (a1 a2 a3 : Option Addr) (c1 c2 c3 : Nat) (St Fi : List Int) (Ed : List EdT) (hA : ArgA w N mv a1 a2 a3 St Fi Ed) :
    Calls Tryz.prog 22 #[.agg #[.int .i64 (N : Int), .int .i64 mv, .slice a1 St.length c1, .slice a2 Fi.length c2, .slice a3 Ed.length c3]] w fun e w' => ∃ v, e = .returned (.tuple #[v, .int .i64 0]) ∧ AnsG w w' v N (fun q => (q : Int) ∈ St) (stepE false Ed) ∧ Below w.heap.size w w' := by
  obtain ⟨n1, e1⟩ : ∃ n, St.length = n := ⟨_, rfl⟩
  obtain ⟨n2, e2⟩ : ∃ n, Fi.length = n := ⟨_, rfl⟩
  obtain ⟨n3, e3⟩ : ∃ n, Ed.length = n := ⟨_, rfl⟩
  obtain ⟨W0, hW0⟩ : ∃ W0, w.alloc (.cells #[.int .i64 (N : Int), .int .i64 mv, .slice a1 n1 c1, .slice a2 n2 c2, .slice a3 n3 c3] 25) = W0 := ⟨_, rfl⟩
  have d0 : Below w.heap.size w W0 := by rw [← hW0]; exact (Below.refl _ _).alloc (Nat.le_refl _) _
  have B0 : W0.heap[w.heap.size]? = some (.cells #[.int .i64 (N : Int), .int .i64 mv, .slice a1 n1 c1, .slice a2 n2 c2, .slice a3 n3 c3] 25 (0, 0)) := by rw [← hW0]; exact World.alloc_heap_new _ _
  have k0 : W0.cell? ⟨w.heap.size, 0, none⟩ = some (.int .i64 (N : Int)) := cell_of B0 rfl
  have k1 : W0.cell? ⟨w.heap.size, 1, none⟩ = some (.int .i64 mv) := cell_of B0 rfl
  have k2 : W0.cell? ⟨w.heap.size, 2, none⟩ = some (.slice a1 n1 c1) := cell_of B0 rfl
  have k3 : W0.cell? ⟨w.heap.size, 3, none⟩ = some (.slice a2 n2 c2) := cell_of B0 rfl
  have k4 : W0.cell? ⟨w.heap.size, 4, none⟩ = some (.slice a3 n3 c3) := cell_of B0 rfl
  have hA0 := argA_rd (hA.on d0)
  have TV := rmay_any W0 (N : Int) mv St Fi Ed a1 a2 a3 c1 c2 c3 (hide ⟨hA0.s, hA0.f, hA0.e⟩) hA.ls hA.lf (Nat.le_trans hA.le (by decide))
  rw [mayF_is, hA.may, e1, e2, e3] at TV
  have HQ := hide (And.intro hA (And.intro e1 (And.intro e2 e3)))
  rw [e1, e2, e3]
  have HD := hide (And.intro d0 B0)
  clear d0 B0 e1 e2 e3 hA hA0
  go_enter Tryz.func22, Tryz.ntmps22
  go_wp2_with (go_at_call 39; refine TV.mono ?_; rintro e w5 ⟨rfl, d5⟩; have B5 := (d5.block _ (Array.getElem?_eq_some_iff.1 HD.out.2).1).trans HD.out.2; have q0 : w5.cell? ⟨w.heap.size, 0, none⟩ = some (.int .i64 (N : Int)) := cell_of B5 rfl; have q1 : w5.cell? ⟨w.heap.size, 1, none⟩ = some (.int .i64 mv) := cell_of B5 rfl; have q2 : w5.cell? ⟨w.heap.size, 2, none⟩ = some (.slice a1 n1 c1) := cell_of B5 rfl; have q3 : w5.cell? ⟨w.heap.size, 3, none⟩ = some (.slice a2 n2 c2) := cell_of B5 rfl; have q4 : w5.cell? ⟨w.heap.size, 4, none⟩ = some (.slice a3 n3 c3) := cell_of B5 rfl; have H5 := hide (HD.out.1.trans (d5.mono HD.out.1.size)); clear d5 B5)
  have hA5 := HQ.out.1.on H5.out
  have TC := grow_fwd w5 N mv a1 a2 a3 a1 n1 n2 c1 c2 c3 c1 Ed St (Nat.le_trans hA5.hN (by decide)) hA5.re hA5.rs (Nat.le_trans hA5.le (by decide)) hA5.ls hA5.prs hA5.ins
  rw [HQ.out.2.1, HQ.out.2.2.2] at TC
  have hN := hA5.hN
  clear hA5
  go_wp2_with (go_at_call 46; refine TC.mono ?_; rintro e w6 ⟨g, rfl, hR, d6⟩; have H6 := hide (And.intro hR (H5.out.trans (d6.mono H5.out.size))); clear hR d6)
  obtain ⟨M, hM, hi⟩ := H6.out.1
  have TL := rlist_any w6 g N M _ hM (Nat.le_trans hN (by decide))
  have HM := hide hi
  clear hM hi TC TV
  go_wp2_with (go_at_call 45; refine TL.mono ?_; rintro e w7 ⟨v, rfl, hL, d7⟩; have H7 := hide (And.intro hL d7); clear hL d7)
  go_ret2
  exact ⟨_, rfl, ⟨M, own_lower H7.out.1 H6.out.2.size, HM.out⟩, H6.out.2.trans (H7.out.2.mono H6.out.2.size)⟩
set_option maxRecDepth 100000 in
set_option maxHeartbeats 1000000 in
theorem rcoreach_ok (w : World) (N : Nat) (mv : Int) (a1 a2 a3 : Option Addr) (c1 c2 c3 : Nat) (St Fi : List Int) (Ed : List EdT) (hA : ArgA w N mv a1 a2 a3 St Fi Ed) :
    Calls Tryz.prog 23 #[.agg #[.int .i64 (N : Int), .int .i64 mv, .slice a1 St.length c1, .slice a2 Fi.length c2, .slice a3 Ed.length c3]] w fun e w' => ∃ v, e = .returned (.tuple #[v, .int .i64 0]) ∧ AnsG w w' v N (fun q => (q : Int) ∈ Fi) (stepE true Ed) ∧ Below w.heap.size w w' := by
  obtain ⟨n1, e1⟩ : ∃ n, St.length = n := ⟨_, rfl⟩
  obtain ⟨n2, e2⟩ : ∃ n, Fi.length = n := ⟨_, rfl⟩
  obtain ⟨n3, e3⟩ : ∃ n, Ed.length = n := ⟨_, rfl⟩
  obtain ⟨W0, hW0⟩ : ∃ W0, w.alloc (.cells #[.int .i64 (N : Int), .int .i64 mv, .slice a1 n1 c1, .slice a2 n2 c2, .slice a3 n3 c3] 25) = W0 := ⟨_, rfl⟩
  have d0 : Below w.heap.size w W0 := by rw [← hW0]; exact (Below.refl _ _).alloc (Nat.le_refl _) _
  have B0 : W0.heap[w.heap.size]? = some (.cells #[.int .i64 (N : Int), .int .i64 mv, .slice a1 n1 c1, .slice a2 n2 c2, .slice a3 n3 c3] 25 (0, 0)) := by rw [← hW0]; exact World.alloc_heap_new _ _
  have k0 : W0.cell? ⟨w.heap.size, 0, none⟩ = some (.int .i64 (N : Int)) := cell_of B0 rfl
  have k1 : W0.cell? ⟨w.heap.size, 1, none⟩ = some (.int .i64 mv) := cell_of B0 rfl
  have k2 : W0.cell? ⟨w.heap.size, 2, none⟩ = some (.slice a1 n1 c1) := cell_of B0 rfl
  have k3 : W0.cell? ⟨w.heap.size, 3, none⟩ = some (.slice a2 n2 c2) := cell_of B0 rfl
  have k4 : W0.cell? ⟨w.heap.size, 4, none⟩ = some (.slice a3 n3 c3) := cell_of B0 rfl
  have hA0 := argA_rd (hA.on d0)
  have TV := rmay_any W0 (N : Int) mv St Fi Ed a1 a2 a3 c1 c2 c3 (hide ⟨hA0.s, hA0.f, hA0.e⟩) hA.ls hA.lf (Nat.le_trans hA.le (by decide))
  rw [mayF_is, hA.may, e1, e2, e3] at TV
  have HQ := hide (And.intro hA (And.intro e1 (And.intro e2 e3)))
  rw [e1, e2, e3]
  have HD := hide (And.intro d0 B0)
  clear d0 B0 e1 e2 e3 hA hA0
  go_enter Tryz.func23, Tryz.ntmps23
  go_wp2_with (go_at_call 39; refine TV.mono ?_; rintro e w5 ⟨rfl, d5⟩; have B5 := (d5.block _ (Array.getElem?_eq_some_iff.1 HD.out.2).1).trans HD.out.2; have q0 : w5.cell? ⟨w.heap.size, 0, none⟩ = some (.int .i64 (N : Int)) := cell_of B5 rfl; have q1 : w5.cell? ⟨w.heap.size, 1, none⟩ = some (.int .i64 mv) := cell_of B5 rfl; have q2 : w5.cell? ⟨w.heap.size, 2, none⟩ = some (.slice a1 n1 c1) := cell_of B5 rfl; have q3 : w5.cell? ⟨w.heap.size, 3, none⟩ = some (.slice a2 n2 c2) := cell_of B5 rfl; have q4 : w5.cell? ⟨w.heap.size, 4, none⟩ = some (.slice a3 n3 c3) := cell_of B5 rfl; have H5 := hide (HD.out.1.trans (d5.mono HD.out.1.size)); clear d5 B5)
  have hA5 := HQ.out.1.on H5.out
  have TC := grow_bwd w5 N mv a1 a2 a3 a2 n1 n2 c1 c2 c3 c2 Ed Fi (Nat.le_trans hA5.hN (by decide)) hA5.re hA5.rf (Nat.le_trans hA5.le (by decide)) hA5.lf hA5.prs hA5.inf
  rw [HQ.out.2.2.1, HQ.out.2.2.2] at TC
  have hN := hA5.hN
  clear hA5
  go_wp2_with (go_at_call 46; refine TC.mono ?_; rintro e w6 ⟨g, rfl, hR, d6⟩; have H6 := hide (And.intro hR (H5.out.trans (d6.mono H5.out.size))); clear hR d6)
  obtain ⟨M, hM, hi⟩ := H6.out.1
  have TL := rlist_any w6 g N M _ hM (Nat.le_trans hN (by decide))
  have HM := hide hi
  clear hM hi TC TV
  go_wp2_with (go_at_call 45; refine TL.mono ?_; rintro e w7 ⟨v, rfl, hL, d7⟩; have H7 := hide (And.intro hL d7); clear hL d7)
  go_ret2
  exact ⟨_, rfl, ⟨M, own_lower H7.out.1 H6.out.2.size, HM.out⟩, H6.out.2.trans (H7.out.2.mono H6.out.2.size)⟩
end Go.Proofs.YtojnlpicgemlaabGreatDoor
namespace Go.Proofs.YtojnlpicgemlaabGreatDoor
open Go.RowKit Go.Maps
attribute [local go_sem] Oper.semAt_some

/-! ### The document's Dist -/
/-- What is known of the shortest ways when all shorter than n were looked at. -/
def DstQ (W : Nat → Nat → Prop) (n q : Nat) (x : Int) : Prop := (x = -1 ∧ ∀ k, k < n → ¬ W k q) ∨ ∃ k : Nat, k < n ∧ x = (k : Int) ∧ W k q ∧ ∀ j, j < k → ¬ W j q
theorem DstQ.next {W : Nat → Nat → Prop} {n q : Nat} {x : Int} (h : DstQ W n q x) (hw : W n q → 0 ≤ x) : DstQ W (n + 1) q x := by
  rcases h with ⟨h1, h2⟩ | ⟨k, h1, h2, h3, h4⟩
  · refine .inl ⟨h1, fun k hk hW => ?_⟩
    by_cases e : k = n
    · subst e; have := hw hW; omega
    · exact h2 k (by omega) hW
  · exact .inr ⟨k, by omega, h2, h3, h4⟩
theorem DstQ.put {W : Nat → Nat → Prop} {n q : Nat} {x : Int} (h : DstQ W n q x) (hx : x < 0) (hw : W n q) : DstQ W (n + 1) q (n : Int) := by
  rcases h with ⟨h1, h2⟩ | ⟨k, h1, h2, h3, h4⟩
  · exact .inr ⟨n, by omega, rfl, hw, h2⟩
  · omega
theorem ahead_wlk {Ed : List EdT} {S : Nat → Prop} {n : Nat} {M : Nat → Bool} (hE : ∀ e ∈ Ed, ∃ p r : Nat, e.1 = (p : Int) ∧ e.2.2 = (r : Int)) (hM : ∀ q, M q = true ↔ Wlk S (stepE true Ed) n q) (q : Nat) : aheadM Ed M q = true ↔ Wlk S (stepE true Ed) (n + 1) q := by
  unfold aheadM
  rw [List.any_eq_true]
  constructor
  · rintro ⟨e, he, h⟩
    simp only [Bool.and_eq_true, decide_eq_true_eq] at h
    obtain ⟨p, r, e1, e2⟩ := hE e he
    rw [e2, Int.toNat_natCast] at h
    exact ⟨r, (hM r).1 h.1, e, he, Prod.ext e2 h.2⟩
  · rintro ⟨p, hp, e, he, h⟩
    have h1 : e.2.2 = (p : Int) := congrArg Prod.fst h
    have h2 : e.1 = (q : Int) := congrArg Prod.snd h
    refine ⟨e, he, ?_⟩
    simp only [Bool.and_eq_true, decide_eq_true_eq]
    exact ⟨by rw [h1, Int.toNat_natCast]; exact (hM p).2 hp, h2⟩
/-- Between the rounds. -/
def DisA (W0 w : World) (gl gm N n : Nat) (Wk : Nat → Nat → Prop) : Prop := ∃ (out : Nat → Int) (M : Nat → Bool), W0.heap.size ≤ gl ∧ gl < gm ∧ Mrw w gl 3 N (fun c => .int .i64 (out c)) N ∧ MaskG W0.heap.size w gm N M ∧ (∀ q, M q = true ↔ Wk n q) ∧ (∀ q, q < N → DstQ Wk n q (out q)) ∧ Below W0.heap.size W0 w
/-- Within a round. -/
def DisB (W0 w : World) (gl gm N n i : Nat) (Wk : Nat → Nat → Prop) : Prop := ∃ (out : Nat → Int) (M : Nat → Bool), W0.heap.size ≤ gl ∧ gl < gm ∧ Mrw w gl 3 N (fun c => .int .i64 (out c)) N ∧ MaskG W0.heap.size w gm N M ∧ (∀ q, M q = true ↔ Wk n q) ∧ (∀ q, q < N → DstQ Wk (if q < i then n + 1 else n) q (out q)) ∧ Below W0.heap.size W0 w
theorem disB_keep {W0 wr : World} {gl gm N n j : Nat} {Wk : Nat → Nat → Prop} {out : Nat → Int} {M : Nat → Bool} (hO : Mrw wr gl 3 N (fun c => .int .i64 (out c)) N) (hM : MaskG W0.heap.size wr gm N M) (hW : ∀ q, M q = true ↔ Wk n q) (hQ : ∀ q, q < N → DstQ Wk (if q < j then n + 1 else n) q (out q)) (hD : Below W0.heap.size W0 wr) (g1 : W0.heap.size ≤ gl) (g2 : gl < gm) (h : DstQ Wk (n + 1) j (out j)) : DisB W0 wr gl gm N n (j + 1) Wk := by
  refine ⟨out, M, g1, g2, hO, hM, hW, fun q hq => ?_, hD⟩
  by_cases e : q = j
  · subst e
    rw [if_pos (Nat.lt_succ_self _)]
    exact h
  · have := hQ q hq
    by_cases e2 : q < j
    · rw [if_pos e2] at this; rw [if_pos (by omega)]; exact this
    · rw [if_neg e2] at this; rw [if_neg (by omega)]; exact this
theorem disB_put {W0 wr : World} {gl gm N n j : Nat} {Wk : Nat → Nat → Prop} {out : Nat → Int} {M : Nat → Bool} (hO : Mrw wr gl 3 N (fun c => .int .i64 (out c)) N) (hM : MaskG W0.heap.size wr gm N M) (hW : ∀ q, M q = true ↔ Wk n q) (hQ : ∀ q, q < N → DstQ Wk (if q < j then n + 1 else n) q (out q)) (hD : Below W0.heap.size W0 wr) (g1 : W0.heap.size ≤ gl) (g2 : gl < gm) (h : DstQ Wk (n + 1) j (n : Int)) : DisB W0 (wr.setCell ⟨gl, j, none⟩ (.int .i64 (n : Int))) gl gm N n (j + 1) Wk := by
  refine ⟨putL out j (n : Int), M, g1, g2, ?_, ⟨hM.1, hM.2.far (by omega) _ _⟩, hW, fun q hq => ?_, hD.setCell g1 _⟩
  · refine (hO.upd j _).congr fun c _ => ?_
    by_cases e : c = j
    · simp [e, putL]
    · simp [e, putL]
  · by_cases e : q = j
    · subst e
      rw [if_pos (Nat.lt_succ_self _), putL_same]
      exact h
    · rw [putL_ne _ _ e]
      have := hQ q hq
      by_cases e2 : q < j
      · rw [if_pos e2] at this; rw [if_pos (by omega)]; exact this
      · rw [if_neg e2] at this; rw [if_neg (by omega)]; exact this
theorem disA_next {W0 wr w8 : World} {gl g8 N n : Nat} {S : Nat → Prop} {Ed : List EdT} {out : Nat → Int} {M : Nat → Bool} (hO : Mrw wr gl 3 N (fun c => .int .i64 (out c)) N) (hW : ∀ q, M q = true ↔ Wlk S (stepE true Ed) n q) (hQ : ∀ q, q < N → DstQ (Wlk S (stepE true Ed)) (if q < N then n + 1 else n) q (out q)) (hD : Below W0.heap.size W0 wr) (hP : ∀ e ∈ Ed, ∃ p r : Nat, p < N ∧ r < N ∧ e.1 = (p : Int) ∧ e.2.2 = (r : Int)) (hM : MaskG wr.heap.size w8 g8 N (aheadM Ed M)) (d8 : Below wr.heap.size wr w8) (g1 : W0.heap.size ≤ gl) : DisA W0 w8 gl g8 N (n + 1) (Wlk S (stepE true Ed)) :=
  ⟨out, aheadM Ed M, g1, Nat.lt_of_lt_of_le hO.lt hM.1, hO.below d8 hO.lt, hM.lower hD.size, ahead_wlk (fun e he => by
    obtain ⟨p, r, _, _, h1, h2⟩ := hP e he
    exact ⟨p, r, h1, h2⟩) hW, fun q hq => by have := hQ q hq; rw [if_pos hq] at this; exact this, hD.trans (d8.mono hD.size)⟩
/-- The lengths, in a list of its own. -/
def AnsE (w w' : World) (v : Value) (N : Nat) (Wk : Nat → Nat → Prop) : Prop := ∃ (out : Nat → Int) (gl : Nat), v = .slice (some ⟨gl, 0, none⟩) N N ∧ w.heap.size ≤ gl ∧ Mrw w' gl 3 N (fun c => .int .i64 (out c)) N ∧ ∀ q, q < N → DstQ Wk N q (out q)
set_option maxRecDepth 100000 in
set_option maxHeartbeats 2000000 in
theorem rdist_ok (w : World) (N : Nat) (mv : Int) (a1 a2 a3 : Option Addr) (c1 c2 c3 : Nat) (St Fi : List Int) (Ed : List EdT) (hA : ArgA w N mv a1 a2 a3 St Fi Ed) :
    Calls Tryz.prog 24 #[.agg #[.int .i64 (N : Int), .int .i64 mv, .slice a1 St.length c1, .slice a2 Fi.length c2, .slice a3 Ed.length c3]] w fun e w' => ∃ v, e = .returned (.tuple #[v, .int .i64 0]) ∧ AnsE w w' v N (Wlk (fun q => (q : Int) ∈ Fi) (stepE true Ed)) ∧ Below w.heap.size w w' := by
  obtain ⟨n1, e1⟩ : ∃ n, St.length = n := ⟨_, rfl⟩
  obtain ⟨n2, e2⟩ : ∃ n, Fi.length = n := ⟨_, rfl⟩
  obtain ⟨n3, e3⟩ : ∃ n, Ed.length = n := ⟨_, rfl⟩
  obtain ⟨W0, hW0⟩ : ∃ W0, w.alloc (.cells #[.int .i64 (N : Int), .int .i64 mv, .slice a1 n1 c1, .slice a2 n2 c2, .slice a3 n3 c3] 25) = W0 := ⟨_, rfl⟩
  have d0 : Below w.heap.size w W0 := by rw [← hW0]; exact (Below.refl _ _).alloc (Nat.le_refl _) _
  have B0 : W0.heap[w.heap.size]? = some (.cells #[.int .i64 (N : Int), .int .i64 mv, .slice a1 n1 c1, .slice a2 n2 c2, .slice a3 n3 c3] 25 (0, 0)) := by rw [← hW0]; exact World.alloc_heap_new _ _
  have k0 : W0.cell? ⟨w.heap.size, 0, none⟩ = some (.int .i64 (N : Int)) := cell_of B0 rfl
  have k1 : W0.cell? ⟨w.heap.size, 1, none⟩ = some (.int .i64 mv) := cell_of B0 rfl
  have k2 : W0.cell? ⟨w.heap.size, 2, none⟩ = some (.slice a1 n1 c1) := cell_of B0 rfl
  have k3 : W0.cell? ⟨w.heap.size, 3, none⟩ = some (.slice a2 n2 c2) := cell_of B0 rfl
  have k4 : W0.cell? ⟨w.heap.size, 4, none⟩ = some (.slice a3 n3 c3) := cell_of B0 rfl
  have hA0 := argA_rd (hA.on d0)
  have TV := rmay_any W0 (N : Int) mv St Fi Ed a1 a2 a3 c1 c2 c3 (hide ⟨hA0.s, hA0.f, hA0.e⟩) hA.ls hA.lf (Nat.le_trans hA.le (by decide))
  rw [mayF_is, hA.may, e1, e2, e3] at TV
  have HQ := hide (And.intro hA (And.intro e1 (And.intro e2 e3)))
  rw [e1, e2, e3]
  have HD := hide (And.intro d0 B0)
  have hN := hA.hN
  obtain ⟨i3, hi3, hz30, hz31, hz32⟩ := info_parts info3
  clear d0 B0 e1 e2 e3 hA hA0
  go_enter Tryz.func24, Tryz.ntmps24
  go_wp2_with (first | (go_at_call 39; refine TV.mono ?_; rintro e w5 ⟨rfl, d5⟩; have B5 := (d5.block _ (Array.getElem?_eq_some_iff.1 HD.out.2).1).trans HD.out.2; have q0 : w5.cell? ⟨w.heap.size, 0, none⟩ = some (.int .i64 (N : Int)) := cell_of B5 rfl; have q1 : w5.cell? ⟨w.heap.size, 1, none⟩ = some (.int .i64 mv) := cell_of B5 rfl; have q2 : w5.cell? ⟨w.heap.size, 2, none⟩ = some (.slice a1 n1 c1) := cell_of B5 rfl; have q3 : w5.cell? ⟨w.heap.size, 3, none⟩ = some (.slice a2 n2 c2) := cell_of B5 rfl; have q4 : w5.cell? ⟨w.heap.size, 4, none⟩ = some (.slice a3 n3 c3) := cell_of B5 rfl; have H5 := hide (And.intro (HD.out.1.trans (d5.mono HD.out.1.size)) B5); clear d5 B5) | (at_make; refine wpList_make_full _ rfl _ _ 22 rfl w5.heap.size 3 i3 (.int .i64 0) 1 Tryz.underlying22 hi3 hz30 hz31 _ _ _ _ N rfl rfl (by go_num) (by go_num) (by rw [hz32]; omega) (by unfold maxLen; omega) (Nat.le_refl _) ?_))
  intro w6 ho hg
  have D6 : Below w5.heap.size w5 w6 := (Below.refl _ _).grown hg (Nat.le_refl _) (by intro k hk; cases hk)
  have M6 : Mrw w6 w5.heap.size 3 (N * 1) (fun _ => .int .i64 (-1)) 0 := Mrw.ofRow _ ho
  rw [Nat.mul_one] at M6
  have H6 := hide (And.intro M6 D6)
  clear ho hg D6 M6 TV k0 k1 k2 k3 k4 hW0
  go_wp2_with fail
  go_loopw [6] (fun iv wr => ∃ i : Nat, i ≤ N ∧ iv = .int .i64 (i : Int) ∧ Hid (Mrw wr w5.heap.size 3 N (fun _ => .int .i64 (-1)) i ∧ Below w5.heap.size w5 wr)) (fun iv _ => N - (intOf iv).toNat)
  case atStart => exact ⟨0, Nat.zero_le _, rfl, H6⟩
  case round =>
    obtain ⟨i, hi, rfl, HY⟩ := hrel
    have hqs : w.heap.size < w5.heap.size := (Array.getElem?_eq_some_iff.1 H5.out.2).1
    have B1 := (HY.out.2.block _ hqs).trans H5.out.2
    have k0 : wr.cell? ⟨w.heap.size, 0, none⟩ = some (.int .i64 (N : Int)) := cell_of B1 rfl
    have k3 : wr.cell? ⟨w.heap.size, 3, none⟩ = some (.slice a2 n2 c2) := cell_of B1 rfl
    clear B1
    by_cases hlt : i < N
    · have l0 : (i : Int) < (N : Int) := by omega
      have i0 : (0 : Int) ≤ (i : Int) := by omega
      obtain ⟨u, cu⟩ := HY.out.1.cell i hlt
      have zu : wr.frozen? ⟨w5.heap.size, i, none⟩ = false := HY.out.1.fz i
      have J : Hid (Mrw (wr.setCell ⟨w5.heap.size, i, none⟩ (.int .i64 (-1))) w5.heap.size 3 N (fun _ => .int .i64 (-1)) (i + 1) ∧ Below w5.heap.size w5 (wr.setCell ⟨w5.heap.size, i, none⟩ (.int .i64 (-1)))) := hide ⟨HY.out.1.put hlt _ rfl, HY.out.2.setCell (Nat.le_refl _) _⟩
      clear HY
      go_wp2_with fail
      go_roundw
      case rel => exact ⟨i + 1, by omega, by go_num, J⟩
      case measure => simp [intOf]; omega
    · have l0 : ¬ (i : Int) < (N : Int) := by omega
      have hiN : i = N := by omega
      rw [hiN] at HY
      rename World => wb
      have DB : Below w.heap.size w wb := H5.out.1.trans (HY.out.2.mono H5.out.1.size)
      have hAb := HQ.out.1.on DB
      have TM := mask_any wb a2 c2 N Fi hAb.rf hAb.inf hAb.lf (Nat.le_trans hN (by decide))
      rw [HQ.out.2.2.1] at TM
      clear hAb DB
      go_wp2_with (go_at_call 40; refine TM.mono ?_; rintro e w7 ⟨gm, rfl, hM, dM⟩; have H7 : Hid (DisA w5 w7 w5.heap.size gm N 0 (Wlk (fun q => (q : Int) ∈ Fi) (stepE true Ed))) := hide ⟨fun _ => -1, inL Fi, Nat.le_refl _, Nat.lt_of_lt_of_le HY.out.1.lt hM.1, HY.out.1.below dM HY.out.1.lt, hM.lower HY.out.2.size, fun q => (by unfold inL; rw [decide_eq_true_eq]; exact Iff.rfl), fun q _ => .inl ⟨rfl, fun k hk => absurd hk (Nat.not_lt_zero k)⟩, HY.out.2.trans (dM.mono HY.out.2.size)⟩; clear hM dM)
      clear TM HY k0 k3
      go_loopw [7, 8] (fun mv nv wr => ∃ (n gm : Nat), n ≤ N ∧ mv = .slice (some ⟨gm, 0, none⟩) N N ∧ nv = .int .i64 (n : Int) ∧ Hid (DisA w5 wr w5.heap.size gm N n (Wlk (fun q => (q : Int) ∈ Fi) (stepE true Ed)))) (fun _ nv _ => N - (intOf nv).toNat)
      case atStart => exact ⟨0, gm, Nat.zero_le _, rfl, rfl, H7⟩
      case round =>
        obtain ⟨n, gm, hn, rfl, rfl, HZ⟩ := hrel
        obtain ⟨out, M, g1, g2, hO, hM, hW, hQ', hD⟩ := HZ.out
        have B1 := (hD.block _ hqs).trans H5.out.2
        have k0 : wr.cell? ⟨w.heap.size, 0, none⟩ = some (.int .i64 (N : Int)) := cell_of B1 rfl
        clear B1
        by_cases hlt : n < N
        · have l1 : (n : Int) < (N : Int) := by omega
          have HI : Hid (DisB w5 wr w5.heap.size gm N n 0 (Wlk (fun q => (q : Int) ∈ Fi) (stepE true Ed))) := hide ⟨out, M, g1, g2, hO, hM, hW, fun q hq => by rw [if_neg (Nat.not_lt_zero q)]; exact hQ' q hq, hD⟩
          clear HZ hO hM hW hQ' hD
          rename World => wc
          go_wp2_with fail
          clear k0
          go_loopw [9] (fun iv wr => ∃ j : Nat, j ≤ N ∧ iv = .int .i64 (j : Int) ∧ Hid (DisB w5 wr w5.heap.size gm N n j (Wlk (fun q => (q : Int) ∈ Fi) (stepE true Ed)))) (fun iv _ => N - (intOf iv).toNat)
          case atStart => exact ⟨0, Nat.zero_le _, rfl, HI⟩
          case round =>
            obtain ⟨j, hj, rfl, HX⟩ := hrel
            obtain ⟨out, M, _, _, hO, hM, hW, hQ', hD⟩ := HX.out
            have B1 := (hD.block _ hqs).trans H5.out.2
            have k0 : wr.cell? ⟨w.heap.size, 0, none⟩ = some (.int .i64 (N : Int)) := cell_of B1 rfl
            have k1 : wr.cell? ⟨w.heap.size, 1, none⟩ = some (.int .i64 mv) := cell_of B1 rfl
            have k2 : wr.cell? ⟨w.heap.size, 2, none⟩ = some (.slice a1 n1 c1) := cell_of B1 rfl
            have k3 : wr.cell? ⟨w.heap.size, 3, none⟩ = some (.slice a2 n2 c2) := cell_of B1 rfl
            have k4 : wr.cell? ⟨w.heap.size, 4, none⟩ = some (.slice a3 n3 c3) := cell_of B1 rfl
            clear B1
            by_cases hjt : j < N
            · have l2 : (j : Int) < (N : Int) := by omega
              have j0 : (0 : Int) ≤ (j : Int) := by omega
              have cm : wr.cell? ⟨gm, j, none⟩ = some (.bool (M j)) := hM.2.at j hjt
              have co : wr.cell? ⟨w5.heap.size, j, none⟩ = some (.int .i64 (out j)) := hO.at j hjt
              have zo : wr.frozen? ⟨w5.heap.size, j, none⟩ = false := hO.fz j
              have hj2 := hQ' j hjt
              rw [if_neg (Nat.lt_irrefl j)] at hj2
              by_cases hm : M j = true
              · rw [hm] at cm
                by_cases ho : out j < 0
                · have J := hide (disB_put hO hM hW hQ' hD g1 g2 (hj2.put ho ((hW j).1 hm)))
                  clear HX hO hM hW hQ' hD
                  go_wp2_with fail
                  go_roundw
                  case rel => exact ⟨j + 1, by omega, by go_num, J⟩
                  case measure => simp [intOf]; omega
                · have J := hide (disB_keep hO hM hW hQ' hD g1 g2 (hj2.next (fun _ => by omega)))
                  clear HX hO hM hW hQ' hD
                  go_wp2_with fail
                  go_roundw
                  case rel => exact ⟨j + 1, by omega, by go_num, J⟩
                  case measure => simp [intOf]; omega
              · have hmf : M j = false := by simpa using hm
                rw [hmf] at cm
                have J := hide (disB_keep hO hM hW hQ' hD g1 g2 (hj2.next (fun h => absurd ((hW j).2 h) hm)))
                clear HX hO hM hW hQ' hD
                go_wp2_with fail
                go_roundw
                case rel => exact ⟨j + 1, by omega, by go_num, J⟩
                case measure => simp [intOf]; omega
            · have l2 : ¬ (j : Int) < (N : Int) := by omega
              have hjN : j = N := by omega
              rw [hjN] at hQ'
              have DW : Below w.heap.size w wr := H5.out.1.trans (hD.mono H5.out.1.size)
              have hAb := HQ.out.1.on DW
              have TA := ahead_any wr N mv a1 a2 a3 n1 n2 c1 c2 c3 Ed gm _ M (Nat.le_trans hN (by decide)) hAb.re (Nat.le_trans hAb.le (by decide)) hAb.prs hM
              rw [HQ.out.2.2.2] at TA
              have HP := hide hAb.prs
              have HX2 := hide (And.intro hO (And.intro hW (And.intro hQ' hD)))
              clear hAb DW HX hO hM hW hQ' hD
              go_wp2_with (go_at_call 42; refine TA.mono ?_; rintro e w8 ⟨g8, rfl, hM8, d8⟩; have J : Hid (DisA w5 w8 w5.heap.size g8 N (n + 1) (Wlk (fun q => (q : Int) ∈ Fi) (stepE true Ed))) := hide (disA_next HX2.out.1 HX2.out.2.1 HX2.out.2.2.1 HX2.out.2.2.2 HP.out hM8 d8 g1); clear hM8 d8)
              go_roundw
              case rel => exact ⟨n + 1, g8, by omega, rfl, by go_num, J⟩
              case measure => simp [intOf]; omega
        · have l1 : ¬ (n : Int) < (N : Int) := by omega
          have hnN : n = N := by omega
          rw [hnN] at hQ'
          have HE := hide (And.intro hO (And.intro hQ' hD))
          clear HZ hO hM hW hQ' hD
          go_wp2_with fail
          go_ret2
          exact ⟨_, rfl, ⟨out, w5.heap.size, rfl, H5.out.1.size, HE.out.1, HE.out.2.1⟩, H5.out.1.trans (HE.out.2.2.mono H5.out.1.size)⟩
end Go.Proofs.YtojnlpicgemlaabGreatDoor
namespace Go.Proofs.YtojnlpicgemlaabGreatDoor
open Go.RowKit Go.Maps
attribute [local go_sem] Oper.semAt_some

/-! ### Lists that are the same -/
set_option maxRecDepth 100000 in
set_option maxHeartbeats 1000000 in
theorem same7_any (w : World) (aa ab : Option Addr) (ca cb : Nat) (A C : List Int) (ha : RdN w aa A) (hb : RdN w ab C) (hl : A.length ≤ 4194304) :
    Calls Tryz.prog 10 #[.slice aa A.length ca, .slice ab C.length cb] w fun e w' => e = .returned (.bool (decide (A = C))) ∧ Below w.heap.size w w' := by
  have HQ := hide (And.intro ha hb)
  clear ha hb
  by_cases hn : A.length = C.length
  · have u1 : ((A.length : Nat) : Int) = ((C.length : Nat) : Int) := by omega
    obtain ⟨L, eL⟩ : ∃ L, A.length = L := ⟨_, rfl⟩
    have eC : C.length = L := by omega
    rw [eL, eC]
    rw [eL] at hl
    have HE := hide (And.intro eL eC)
    clear hn u1 eL eC
    go_enter Tryz.func10, Tryz.ntmps10
    go_wp2_with fail
    go_loopw [5] (fun iv wr => ∃ i : Nat, i ≤ L ∧ iv = .int .i64 (i : Int) ∧ Hid (A.take i = C.take i ∧ Below w.heap.size w wr)) (fun iv _ => L - (intOf iv).toNat)
    case atStart => exact ⟨0, Nat.zero_le _, rfl, hide ⟨rfl, Below.refl _ _⟩⟩
    case round =>
      obtain ⟨i, hi, rfl, HY⟩ := hrel
      by_cases hlt : i < L
      · have l0 : (i : Int) < (L : Int) := by omega
        have i0 : (0 : Int) ≤ (i : Int) := by omega
        have hia : i < A.length := by have := HE.out.1; omega
        have hic : i < C.length := by have := HE.out.2; omega
        obtain ⟨g, o, rfl, r1⟩ := (HQ.out.1.on HY.out.2) i hia
        obtain ⟨g', o', rfl, r2⟩ := (HQ.out.2.on HY.out.2) i hic
        have HT : Hid (A[i] = C[i] → A.take (i + 1) = C.take (i + 1)) := hide (fun e => by rw [List.take_succ_eq_append_getElem hia, List.take_succ_eq_append_getElem hic, HY.out.1, e])
        have HN : Hid (A[i] ≠ C[i] → A ≠ C) := hide (fun h e => by subst e; exact h rfl)
        generalize A[i] = x at r1 HT HN
        generalize C[i] = y at r2 HT HN
        go_wp2_with fail
        go_quiet (fail)
        by_cases e : x = y
        · have J := HT.out e
          subst e
          clear HT HN
          go_wp2_with fail
          go_roundw
          case rel => exact ⟨i + 1, by omega, by go_num, hide ⟨J, below_drewN2 HY.out.2 _⟩⟩
          case measure => simp [intOf]; omega
        · have J := hide (HN.out e)
          clear HT HN
          go_wp2_with fail
          go_ret
          exact ⟨by rw [decide_eq_false J.out]; rfl, below_drewN2 HY.out.2 _⟩
      · have l0 : ¬ (i : Int) < (L : Int) := by omega
        have e : A = C := by
          have := HY.out.1
          rw [List.take_of_length_le (by have := HE.out.1; omega), List.take_of_length_le (by have := HE.out.2; omega)] at this
          exact this
        have J := hide e
        clear e
        go_wp2_with fail
        go_ret
        exact ⟨by rw [decide_eq_true J.out]; rfl, HY.out.2⟩
  · have u1 : ¬ ((A.length : Nat) : Int) = ((C.length : Nat) : Int) := by omega
    have J := hide (show A ≠ C from fun e => hn (by rw [e]))
    clear hn
    go_enter Tryz.func10, Tryz.ntmps10
    go_wp2_with fail
    go_ret
    exact ⟨by rw [decide_eq_false J.out]; rfl, Below.refl _ _⟩
set_option maxRecDepth 100000 in
set_option maxHeartbeats 1000000 in
theorem same4_any (w : World) (aa ab : Option Addr) (ca cb : Nat) (A C : List Int) (ha : RdN w aa A) (hb : RdN w ab C) (hl : A.length ≤ 4194304) :
    Calls Tryz.prog 25 #[.slice aa A.length ca, .slice ab C.length cb] w fun e w' => e = .returned (.bool (decide (A = C))) ∧ Below w.heap.size w w' := by
  have HQ := hide (And.intro ha hb)
  clear ha hb
  by_cases hn : A.length = C.length
  · have u1 : ((A.length : Nat) : Int) = ((C.length : Nat) : Int) := by omega
    obtain ⟨L, eL⟩ : ∃ L, A.length = L := ⟨_, rfl⟩
    have eC : C.length = L := by omega
    rw [eL, eC]
    rw [eL] at hl
    have HE := hide (And.intro eL eC)
    clear hn u1 eL eC
    go_enter Tryz.func25, Tryz.ntmps25
    go_wp2_with fail
    go_loopw [5] (fun iv wr => ∃ i : Nat, i ≤ L ∧ iv = .int .i64 (i : Int) ∧ Hid (A.take i = C.take i ∧ Below w.heap.size w wr)) (fun iv _ => L - (intOf iv).toNat)
    case atStart => exact ⟨0, Nat.zero_le _, rfl, hide ⟨rfl, Below.refl _ _⟩⟩
    case round =>
      obtain ⟨i, hi, rfl, HY⟩ := hrel
      by_cases hlt : i < L
      · have l0 : (i : Int) < (L : Int) := by omega
        have i0 : (0 : Int) ≤ (i : Int) := by omega
        have hia : i < A.length := by have := HE.out.1; omega
        have hic : i < C.length := by have := HE.out.2; omega
        obtain ⟨g, o, rfl, r1⟩ := (HQ.out.1.on HY.out.2) i hia
        obtain ⟨g', o', rfl, r2⟩ := (HQ.out.2.on HY.out.2) i hic
        have HT : Hid (A[i] = C[i] → A.take (i + 1) = C.take (i + 1)) := hide (fun e => by rw [List.take_succ_eq_append_getElem hia, List.take_succ_eq_append_getElem hic, HY.out.1, e])
        have HN : Hid (A[i] ≠ C[i] → A ≠ C) := hide (fun h e => by subst e; exact h rfl)
        generalize A[i] = x at r1 HT HN
        generalize C[i] = y at r2 HT HN
        go_wp2_with fail
        go_quiet (fail)
        by_cases e : x = y
        · have J := HT.out e
          subst e
          clear HT HN
          go_wp2_with fail
          go_roundw
          case rel => exact ⟨i + 1, by omega, by go_num, hide ⟨J, below_drewN2 HY.out.2 _⟩⟩
          case measure => simp [intOf]; omega
        · have J := hide (HN.out e)
          clear HT HN
          go_wp2_with fail
          go_ret
          exact ⟨by rw [decide_eq_false J.out]; rfl, below_drewN2 HY.out.2 _⟩
      · have l0 : ¬ (i : Int) < (L : Int) := by omega
        have e : A = C := by
          have := HY.out.1
          rw [List.take_of_length_le (by have := HE.out.1; omega), List.take_of_length_le (by have := HE.out.2; omega)] at this
          exact this
        have J := hide e
        clear e
        go_wp2_with fail
        go_ret
        exact ⟨by rw [decide_eq_true J.out]; rfl, HY.out.2⟩
  · have u1 : ¬ ((A.length : Nat) : Int) = ((C.length : Nat) : Int) := by omega
    have J := hide (show A ≠ C from fun e => hn (by rw [e]))
    clear hn
    go_enter Tryz.func25, Tryz.ntmps25
    go_wp2_with fail
    go_ret
    exact ⟨by rw [decide_eq_false J.out]; rfl, Below.refl _ _⟩
end Go.Proofs.YtojnlpicgemlaabGreatDoor
