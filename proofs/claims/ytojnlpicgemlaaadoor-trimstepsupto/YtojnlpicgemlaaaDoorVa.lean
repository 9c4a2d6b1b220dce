import Derived.Test.YtojnlpicgemlaaaDoorTx
import Derived.Test.YtojnlpicgemlaaaDoorTK
import Derived.Test.YtojnlpicgemlaaaDoorFE
namespace Go.Proofs.YtojnlpicgemlaaaDoor
open Go.RowKit Go.Maps

/-! ### The least word: the document's way is the program's -/
theorem bothM_iff (N : Nat) (M M' : Nat → Bool) : bothM N M M' = true ↔ ∃ q, q < N ∧ M q = true ∧ M' q = true := by
  unfold bothM
  rw [List.any_eq_true]
  constructor
  · rintro ⟨q, hq, h⟩
    rw [Bool.and_eq_true] at h
    exact ⟨q, List.mem_range.1 hq, h⟩
  · rintro ⟨q, hq, h⟩
    exact ⟨q, List.mem_range.2 hq, by rw [Bool.and_eq_true]; exact h⟩
theorem postM_iff (Ed : List EdT) (M : Nat → Bool) (s : Int) (q : Nat) : postM Ed M s q = true ↔ ∃ e ∈ Ed, e.2.1 = s ∧ M e.1.toNat = true ∧ e.2.2 = (q : Int) := by
  unfold postM
  rw [List.any_eq_true]
  constructor
  · rintro ⟨e, he, h⟩
    simp only [Bool.and_eq_true, decide_eq_true_eq] at h
    exact ⟨e, he, h.1.1, h.1.2, h.2⟩
  · rintro ⟨e, he, h1, h2, h3⟩
    exact ⟨e, he, by simp only [Bool.and_eq_true, decide_eq_true_eq]; exact ⟨⟨h1, h2⟩, h3⟩⟩
/-- What is known of the least symbol so far. -/
structure LsQ (want : Nat → Bool) (mv : Int) (L : List EdT) (s : Int × Nat) : Prop where
  le : ∀ e ∈ L, want e.2.2.toNat = true → s.1 ≤ e.2.1
  is : s.1 = mv ∨ ∃ e ∈ L, want e.2.2.toNat = true ∧ e.2.1 = s.1
  tb : ∀ q, s.2.testBit q = true ↔ ∃ e ∈ L, want e.2.2.toNat = true ∧ e.2.1 = s.1 ∧ e.2.2.toNat = q
/-- An automaton that may be, with its lengths. -/
structure Lng (N : Nat) (mv : Int) (St Fi : List Int) (Ed : List EdT) (len : Nat → Int) : Prop where
  ed : ∀ e ∈ Ed, ∃ p r : Nat, p < N ∧ r < N ∧ e.1 = (p : Int) ∧ e.2.2 = (r : Int)
  sy : ∀ e ∈ Ed, 0 ≤ e.2.1 ∧ e.2.1 < mv
  st : ∀ x ∈ St, ∃ q : Nat, q < N ∧ x = (q : Int)
  bf : Bfs N (fun q => (q : Int) ∈ Fi) (stepE true Ed) [] len
  lt : ∀ q, q < N → len q < N
  hS : ∀ q : Nat, (q : Int) ∈ Fi → q < N
  hE : ∀ p q, stepE true Ed p q → q < N
theorem Lng.f2 {N : Nat} {mv : Int} {St Fi : List Int} {Ed : List EdT} {len : Nat → Int} (h : Lng N mv St Fi Ed len) (k q : Nat) (hw : Wlk (fun q => (q : Int) ∈ Fi) (stepE true Ed) k q) : q < N ∧ 0 ≤ len q ∧ len q ≤ k := h.bf.done h.hS h.hE k q hw
theorem Lng.f1 {N : Nat} {mv : Int} {St Fi : List Int} {Ed : List EdT} {len : Nat → Int} (h : Lng N mv St Fi Ed len) {q c : Nat} (hq : q < N) (hl : len q = (c : Int)) : Wlk (fun q => (q : Int) ∈ Fi) (stepE true Ed) c q := by
  have := h.bf.sound q hq (by omega)
  rw [hl, Int.toNat_natCast] at this
  exact this
theorem Lng.f3 {Fi : List Int} {Ed : List EdT} {e : EdT} (he : e ∈ Ed) {p r k : Nat} (h1 : e.1 = (p : Int)) (h2 : e.2.2 = (r : Int)) (hw : Wlk (fun q => (q : Int) ∈ Fi) (stepE true Ed) k r) : Wlk (fun q => (q : Int) ∈ Fi) (stepE true Ed) (k + 1) p := ⟨r, hw, e, he, Prod.ext h2 h1⟩
structure Inv (N : Nat) (Fi : List Int) (Ed : List EdT) (len : Nat → Int) (d i X : Nat) (M : Nat → Bool) : Prop where
  a : ∀ q, M q = true → q < N ∧ ∀ k, Wlk (fun q => (q : Int) ∈ Fi) (stepE true Ed) k q → d ≤ i + k
  b : ∀ q, X.testBit q = true → M q = true
  c : ∀ q, M q = true → len q = ((d - i : Nat) : Int) → X.testBit q = true
  e : ∃ q, M q = true ∧ len q = ((d - i : Nat) : Int)
end Go.Proofs.YtojnlpicgemlaaaDoor
