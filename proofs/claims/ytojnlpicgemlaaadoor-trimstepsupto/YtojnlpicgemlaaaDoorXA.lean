import Derived.Test.YtojnlpicgemlaaaDoorWA
import Derived.Test.YtojnlpicgemlaaaDoorTK
import Derived.Test.YtojnlpicgemlaaaDoorVa
namespace Go.Proofs.YtojnlpicgemlaaaDoor
open Go.RowKit Go.Maps

/-! ### What Trim keeps -/
/-- An automaton's useful states. -/
structure TrU (N : Nat) (U : Nat → Bool) (St Fi : List Int) (Ed : List EdT) : Prop where
  us : ∀ q, q < N → (U q = true ↔ useP St Fi Ed q)
  ed : ∀ e ∈ Ed, ∃ p r : Nat, p < N ∧ r < N ∧ e.1 = (p : Int) ∧ e.2.2 = (r : Int)
  st : ∀ x ∈ St, ∃ q : Nat, q < N ∧ x = (q : Int)
  fi : ∀ x ∈ Fi, ∃ q : Nat, q < N ∧ x = (q : Int)
theorem mem_dL {U : Nat → Bool} {L : List Int} {z : Int} : z ∈ dL U (riseL L) ↔ ∃ x ∈ L, U x.toNat = true ∧ uN U x.toNat = z := by
  unfold dL
  rw [List.mem_map]
  refine exists_congr (fun x => ?_)
  rw [List.mem_filter, riseL_iff]
  exact and_assoc
theorem mem_dE {U : Nat → Bool} {L : List EdT} {z : EdT} : z ∈ dE U (riseE L) ↔ ∃ e ∈ L, (U e.1.toNat = true ∧ U e.2.2.toNat = true) ∧ (uN U e.1.toNat, e.2.1, uN U e.2.2.toNat) = z := by
  unfold dE
  rw [List.mem_map]
  refine exists_congr (fun x => ?_)
  rw [List.mem_filter, riseE_iff, Bool.and_eq_true]
  exact and_assoc
theorem uN_inj {U : Nat → Bool} {p q : Nat} (hp : U p = true) (hq : U q = true) (h : uN U p = uN U q) : p = q := by
  rcases Nat.lt_trichotomy p q with k | k | k
  · have := uN_up hp hq k; omega
  · exact k
  · have := uN_up hq hp k; omega
theorem uN_nat {U : Nat → Bool} {q : Nat} (hu : U q = true) : uN U q = ((uN U q).toNat : Int) := by
  have : 0 ≤ uN U q := by unfold uN; rw [if_pos hu]; omega
  omega
theorem TrU.at {N : Nat} {U : Nat → Bool} {St Fi : List Int} {Ed : List EdT} (_h : TrU N U St Fi Ed) {j : Nat} (hj : j < (uL U N).length) : ∃ q, q < N ∧ U q = true ∧ uN U q = (j : Int) := by
  have hm := List.getElem_mem hj
  obtain ⟨h1, h2⟩ := uL_mem.1 hm
  have hs : (uL U N).Pairwise (· < ·) := List.Pairwise.filter _ List.pairwise_lt_range
  refine ⟨_, h1, h2, ?_⟩
  have h3 := uL_idx h1 h2
  rw [idx_at (hs.imp (fun h => by omega)) hj] at h3
  unfold uN
  rw [if_pos h2, ← h3]
/-- A way to a useful state is a way in the useful part. -/
theorem TrU.fwd {N : Nat} {U : Nat → Bool} {St Fi : List Int} {Ed : List EdT} (h : TrU N U St Fi Ed) : ∀ (k q : Nat), q < N → U q = true → Wlk (fun q => (q : Int) ∈ St) (stepE false Ed) k q → Wlk (fun q => (q : Int) ∈ dL U (riseL St)) (stepE false (dE U (riseE Ed))) k (uN U q).toNat
  | 0, q, hq, hu, hw => by
    show ((uN U q).toNat : Int) ∈ _
    rw [← uN_nat hu]
    exact mem_dL.2 ⟨_, hw, by rw [Int.toNat_natCast]; exact hu, by rw [Int.toNat_natCast]⟩
  | k + 1, q, hq, hu, ⟨p, hw, e, he, hend⟩ => by
    obtain ⟨p', r', hp', hr', a1, a2⟩ := h.ed e he
    have b1 : e.1 = (p : Int) := congrArg Prod.fst hend
    have b2 : e.2.2 = (q : Int) := congrArg Prod.snd hend
    have hpN : p < N := by omega
    obtain ⟨_, kb, hb⟩ := (h.us q hq).1 hu
    have hup : U p = true := (h.us p hpN).2 ⟨⟨k, hw⟩, kb + 1, q, hb, e, he, Prod.ext b2 b1⟩
    refine ⟨(uN U p).toNat, TrU.fwd h k p hpN hup hw, (uN U p, e.2.1, uN U q), mem_dE.2 ⟨e, he, ⟨by rw [b1, Int.toNat_natCast]; exact hup, by rw [b2, Int.toNat_natCast]; exact hu⟩, by rw [b1, b2, Int.toNat_natCast, Int.toNat_natCast]⟩, ?_⟩
    exact Prod.ext (uN_nat hup) (uN_nat hu)
theorem TrU.bwd {N : Nat} {U : Nat → Bool} {St Fi : List Int} {Ed : List EdT} (h : TrU N U St Fi Ed) : ∀ (k q : Nat), q < N → U q = true → Wlk (fun q => (q : Int) ∈ Fi) (stepE true Ed) k q → Wlk (fun q => (q : Int) ∈ dL U (riseL Fi)) (stepE true (dE U (riseE Ed))) k (uN U q).toNat
  | 0, q, hq, hu, hw => by
    show ((uN U q).toNat : Int) ∈ _
    rw [← uN_nat hu]
    exact mem_dL.2 ⟨_, hw, by rw [Int.toNat_natCast]; exact hu, by rw [Int.toNat_natCast]⟩
  | k + 1, q, hq, hu, ⟨p, hw, e, he, hend⟩ => by
    obtain ⟨p', r', hp', hr', a1, a2⟩ := h.ed e he
    have b1 : e.2.2 = (p : Int) := congrArg Prod.fst hend
    have b2 : e.1 = (q : Int) := congrArg Prod.snd hend
    have hpN : p < N := by omega
    obtain ⟨⟨kf, hf⟩, _⟩ := (h.us q hq).1 hu
    have hup : U p = true := (h.us p hpN).2 ⟨⟨kf + 1, q, hf, e, he, Prod.ext b2 b1⟩, k, hw⟩
    refine ⟨(uN U p).toNat, TrU.bwd h k p hpN hup hw, (uN U q, e.2.1, uN U p), mem_dE.2 ⟨e, he, ⟨by rw [b2, Int.toNat_natCast]; exact hu, by rw [b1, Int.toNat_natCast]; exact hup⟩, by rw [b1, b2, Int.toNat_natCast, Int.toNat_natCast]⟩, ?_⟩
    exact Prod.ext (uN_nat hup) (uN_nat hu)
/-- All states of the useful part are useful. -/
theorem TrU.all {N : Nat} {U : Nat → Bool} {St Fi : List Int} {Ed : List EdT} (h : TrU N U St Fi Ed) (j : Nat) (hj : j < (uL U N).length) : useP (dL U (riseL St)) (dL U (riseL Fi)) (dE U (riseE Ed)) j := by
  obtain ⟨q, hq, hu, e⟩ := h.at hj
  obtain ⟨⟨k, hk⟩, l, hl⟩ := (h.us q hq).1 hu
  have h1 := h.fwd k q hq hu hk
  have h2 := h.bwd l q hq hu hl
  rw [e, Int.toNat_natCast] at h1 h2
  exact ⟨⟨k, h1⟩, l, h2⟩
theorem wordM_snoc (Ed : List EdT) (M : Nat → Bool) (Wd : List Int) (s : Int) : wordM Ed M (Wd ++ [s]) = postM Ed (wordM Ed M Wd) s := by simp [wordM]
theorem TrU.rch {N : Nat} {U : Nat → Bool} {St Fi : List Int} {Ed : List EdT} (h : TrU N U St Fi Ed) : ∀ (n : Nat) (Wd : List Int), Wd.length = n → ∀ q, wordM Ed (inL St) Wd q = true → q < N ∧ Wlk (fun q => (q : Int) ∈ St) (stepE false Ed) n q := by
  intro n
  induction n with
  | zero =>
    intro Wd hn q hq
    obtain rfl := List.eq_nil_of_length_eq_zero hn
    have hq' : (q : Int) ∈ St := by simpa [wordM, inL] using hq
    obtain ⟨p, hp, e⟩ := h.st _ hq'
    exact ⟨by omega, hq'⟩
  | succ n ih =>
    intro Wd hn q hq
    rcases List.eq_nil_or_concat Wd with rfl | ⟨W, s, rfl⟩
    · simp at hn
    · rw [List.concat_eq_append] at hn hq
      rw [wordM_snoc] at hq
      obtain ⟨e, he, h1, h2, h3⟩ := (postM_iff _ _ _ _).1 hq
      obtain ⟨p, r, hp, hr, a1, a2⟩ := h.ed e he
      rw [a1, Int.toNat_natCast] at h2
      have := ih W (by simpa using hn) p h2
      exact ⟨by omega, p, this.2, e, he, Prod.ext a1 h3⟩
theorem TrU.mask {N : Nat} {U : Nat → Bool} {St Fi : List Int} {Ed : List EdT} (h : TrU N U St Fi Ed) : ∀ (n : Nat) (Wd : List Int), Wd.length = n → ∀ q, q < N → U q = true → (wordM (dE U (riseE Ed)) (inL (dL U (riseL St))) Wd (uN U q).toNat = true ↔ wordM Ed (inL St) Wd q = true) := by
  intro n
  induction n with
  | zero =>
    intro Wd hn q hq hu
    obtain rfl := List.eq_nil_of_length_eq_zero hn
    show inL (dL U (riseL St)) (uN U q).toNat = true ↔ inL St q = true
    unfold inL
    rw [decide_eq_true_eq, decide_eq_true_eq, ← uN_nat hu, mem_dL]
    constructor
    · rintro ⟨x, hx, h1, h2⟩
      obtain ⟨p, hp, rfl⟩ := h.st x hx
      rw [Int.toNat_natCast] at h1 h2
      obtain rfl := uN_inj h1 hu h2
      exact hx
    · intro hx
      exact ⟨_, hx, by rw [Int.toNat_natCast]; exact hu, by rw [Int.toNat_natCast]⟩
  | succ n ih =>
    intro Wd hn q hq hu
    rcases List.eq_nil_or_concat Wd with rfl | ⟨W, s, rfl⟩
    · simp at hn
    · rw [List.concat_eq_append] at hn ⊢
      have hW : W.length = n := by simpa using hn
      rw [wordM_snoc, wordM_snoc, postM_iff, postM_iff]
      constructor
      · rintro ⟨z, hz, h1, h2, h3⟩
        obtain ⟨e, he, ⟨u1, u2⟩, rfl⟩ := mem_dE.1 hz
        obtain ⟨p, r, hp, hr, a1, a2⟩ := h.ed e he
        rw [a1, Int.toNat_natCast] at u1
        rw [a2, Int.toNat_natCast] at u2
        simp only [a1, a2, Int.toNat_natCast] at h1 h2 h3
        have h4 : r = q := uN_inj u2 hu (by rw [h3, ← uN_nat hu])
        exact ⟨e, he, h1, by rw [a1, Int.toNat_natCast]; exact (ih W hW p hp u1).1 h2, by rw [a2, h4]⟩
      · rintro ⟨e, he, h1, h2, h3⟩
        obtain ⟨p, r, hp, hr, a1, a2⟩ := h.ed e he
        rw [a1, Int.toNat_natCast] at h2
        obtain ⟨_, kb, hb⟩ := (h.us q hq).1 hu
        have hup : U p = true := (h.us p hp).2 ⟨⟨n, (h.rch n W hW p h2).2⟩, kb + 1, q, hb, e, he, Prod.ext h3 a1⟩
        refine ⟨(uN U p, e.2.1, uN U q), mem_dE.2 ⟨e, he, ⟨by rw [a1, Int.toNat_natCast]; exact hup, by rw [h3, Int.toNat_natCast]; exact hu⟩, by rw [a1, h3, Int.toNat_natCast, Int.toNat_natCast]⟩, h1, (ih W hW p hp hup).2 h2, uN_nat hu⟩
/-- Trim keeps the words. -/
theorem TrU.keeps {N : Nat} {U : Nat → Bool} {St Fi : List Int} {Ed : List EdT} (h : TrU N U St Fi Ed) (Wd : List Int) : bothM (uL U N).length (wordM (dE U (riseE Ed)) (inL (dL U (riseL St))) Wd) (inL (dL U (riseL Fi))) = bothM N (wordM Ed (inL St) Wd) (inL Fi) := by
  rw [Bool.eq_iff_iff, bothM_iff, bothM_iff]
  constructor
  · rintro ⟨j, hj, h1, h2⟩
    obtain ⟨q, hq, hu, e⟩ := h.at hj
    have ej : (uN U q).toNat = j := by omega
    rw [← ej] at h1
    refine ⟨q, hq, (h.mask _ Wd rfl q hq hu).1 h1, ?_⟩
    unfold inL at h2 ⊢
    rw [decide_eq_true_eq] at h2 ⊢
    obtain ⟨x, hx, u1, e1⟩ := mem_dL.1 h2
    obtain ⟨p, hp, rfl⟩ := h.fi x hx
    rw [Int.toNat_natCast] at u1 e1
    obtain rfl := uN_inj u1 hu (by omega)
    exact hx
  · rintro ⟨q, hq, h1, h2⟩
    unfold inL at h2
    rw [decide_eq_true_eq] at h2
    have hu : U q = true := (h.us q hq).2 ⟨⟨_, (h.rch _ Wd rfl q h1).2⟩, 0, h2⟩
    have hl := uN_lt hu hq
    refine ⟨(uN U q).toNat, by omega, (h.mask _ Wd rfl q hq hu).2 h1, ?_⟩
    unfold inL
    rw [decide_eq_true_eq, ← uN_nat hu]
    exact mem_dL.2 ⟨_, h2, by rw [Int.toNat_natCast]; exact hu, by rw [Int.toNat_natCast]⟩
end Go.Proofs.YtojnlpicgemlaaaDoor
namespace Go.Proofs.YtojnlpicgemlaaaDoor
open Go.RowKit Go.Maps Go.Shelf
attribute [local go_sem] Oper.semAt_some

/-! ### Words: a list of words, whichever -/
/-- A word that can be read. -/
def WdV (W : World) (n : Nat) (x : Value) : Prop := ∃ a c, ∃ L : List Int, x = .slice a L.length c ∧ RdN W a L ∧ (∀ g o, a = some ⟨g, o, none⟩ → ∃ cs fr, W.heap[g]? = some (.cells cs 3 fr)) ∧ L.length < n
/-- A list of n words in memory of its own. -/
def WlA (B : Nat) (W : World) (v : Value) (n : Nat) : Prop := ∃ vals : List Value, vals.length = n ∧ W.ownsRow B 22 1 v n vals ∧ ∀ x ∈ vals, WdV W n x
theorem WdV.on {W W' : World} {n m : Nat} {x : Value} {R : Nat → Prop} (h : WdV W n x) (o : Only W W' R) (hR : ∀ g cs fr, W.heap[g]? = some (.cells cs 3 fr) → ¬ R g) (hm : n ≤ m) : WdV W' m x := by
  obtain ⟨a, c, L, e, hr, ht, hl⟩ := h
  have hk : ∀ g o', a = some ⟨g, o', none⟩ → W'.heap[g]? = W.heap[g]? := fun g o' e' => by
    obtain ⟨cs, fr, e2⟩ := ht g o' e'
    exact o.block g (Array.getElem?_eq_some_iff.1 e2).1 (hR g cs fr e2)
  refine ⟨a, c, L, e, fun j hj => ?_, fun g o' e' => ?_, by omega⟩
  · obtain ⟨g, o', e', hc⟩ := hr j hj
    exact ⟨g, o', e', (cell_same (hk g o' e') _).trans hc⟩
  · obtain ⟨cs, fr, e2⟩ := ht g o' e'
    exact ⟨cs, fr, (hk g o' e').trans e2⟩
theorem WlA.on {B : Nat} {W W' : World} {v : Value} {n : Nat} (h : WlA B W v n) (d : Below W.heap.size W W') : WlA B W' v n := by
  obtain ⟨vals, h1, h2, h3⟩ := h
  exact ⟨vals, h1, own_below h2 d, fun x hx => (h3 x hx).on (Only.ofBelow (R := fun _ => False) d) (fun _ _ _ _ => id) (Nat.le_refl _)⟩
end Go.Proofs.YtojnlpicgemlaaaDoor
