import Derived.Test.YtojnlpicgemlaaaDoorTx
import Derived.Test.YtojnlpicgemlaaaDoorTK
import Derived.Test.YtojnlpicgemlaaaDoorFE
namespace Go.Proofs.YtojnlpicgemlaaaDoor
open Go.RowKit Go.Maps

/-! ### The least word: the document's way is the program's -/
theorem ahN_wlk {Ed : List EdT} {Fi : List Int} (hE : ∀ e ∈ Ed, ∃ p r : Nat, e.1 = (p : Int) ∧ e.2.2 = (r : Int)) : ∀ (k q : Nat), ahN Ed (inL Fi) k q = true ↔ Wlk (fun q => (q : Int) ∈ Fi) (stepE true Ed) k q
  | 0, q => by simp [ahN, inL, Wlk]
  | k + 1, q => by
    rw [ahN]
    exact ahead_wlk hE (ahN_wlk hE k) q
theorem bothM_iff (N : Nat) (M M' : Nat → Bool) : bothM N M M' = true ↔ ∃ q, q < N ∧ M q = true ∧ M' q = true := by
  unfold bothM
  rw [List.any_eq_true]
  constructor
  · rintro ⟨q, hq, h⟩
    rw [Bool.and_eq_true] at h
    exact ⟨q, List.mem_range.1 hq, h⟩
  · rintro ⟨q, hq, h⟩
    exact ⟨q, List.mem_range.2 hq, by rw [Bool.and_eq_true]; exact h⟩
theorem postM_iff (Ed : List EdT) (M : Nat → Bool) (s : Int) (q : Nat) : postM Ed M s q = true ↔ ∃ e ∈ Ed, e.2.1 = s ∧ M e.1.toNat = true ∧ e.2.2 = (q : Int) := by
  unfold postM
  rw [List.any_eq_true]
  constructor
  · rintro ⟨e, he, h⟩
    simp only [Bool.and_eq_true, decide_eq_true_eq] at h
    exact ⟨e, he, h.1.1, h.1.2, h.2⟩
  · rintro ⟨e, he, h1, h2, h3⟩
    exact ⟨e, he, by simp only [Bool.and_eq_true, decide_eq_true_eq]; exact ⟨⟨h1, h2⟩, h3⟩⟩
theorem min_le (len : Nat → Int) : ∀ (Fr : List Int) (acc : Int), (acc ≠ -1 → Fr.foldl (minF len) acc ≠ -1 ∧ Fr.foldl (minF len) acc ≤ acc) ∧ ∀ x ∈ Fr, len x.toNat ≠ -1 → Fr.foldl (minF len) acc ≠ -1 ∧ Fr.foldl (minF len) acc ≤ len x.toNat
  | [], acc => ⟨fun h => ⟨h, Int.le_refl _⟩, fun x hx => by cases hx⟩
  | y :: Fr, acc => by
    rw [List.foldl_cons]
    obtain ⟨h1, h2⟩ := min_le len Fr (minF len acc y)
    have key : (acc ≠ -1 → minF len acc y ≠ -1 ∧ minF len acc y ≤ acc) ∧ (len y.toNat ≠ -1 → minF len acc y ≠ -1 ∧ minF len acc y ≤ len y.toNat) := by
      unfold minF
      split
      · rename_i hc
        exact ⟨fun h => ⟨hc.1, by omega⟩, fun h => ⟨h, Int.le_refl _⟩⟩
      · rename_i hc
        refine ⟨fun h => ⟨h, Int.le_refl _⟩, fun h => ?_⟩
        have h' : ¬ (acc = -1 ∨ len y.toNat < acc) := fun k => hc ⟨h, k⟩
        omega
    refine ⟨fun h => ?_, fun x hx hl => ?_⟩
    · have k := key.1 h
      have := h1 k.1
      exact ⟨this.1, by omega⟩
    · rcases List.mem_cons.1 hx with rfl | hx
      · have k := key.2 hl
        have := h1 k.1
        exact ⟨this.1, by omega⟩
      · exact h2 x hx hl
/-- What is known of the least symbol so far. -/
structure LsQ (want : Nat → Bool) (mv : Int) (L : List EdT) (s : Int × Nat) : Prop where
  le : ∀ e ∈ L, want e.2.2.toNat = true → s.1 ≤ e.2.1
  is : s.1 = mv ∨ ∃ e ∈ L, want e.2.2.toNat = true ∧ e.2.1 = s.1
  tb : ∀ q, s.2.testBit q = true ↔ ∃ e ∈ L, want e.2.2.toNat = true ∧ e.2.1 = s.1 ∧ e.2.2.toNat = q
theorem lsQ_all (want : Nat → Bool) (mv : Int) : ∀ (L : List EdT), (∀ e ∈ L, e.2.1 < mv) → ∀ (K : List EdT) (s : Int × Nat), LsQ want mv K s → (∀ e ∈ K, e.2.1 < mv) → LsQ want mv (K ++ L) (L.foldl (lsS want) s)
  | [], _, K, s, h, _ => by rw [List.append_nil]; exact h
  | e :: L, hL, K, s, h, hK => by
    rw [List.foldl_cons, show K ++ e :: L = (K ++ [e]) ++ L by simp]
    refine lsQ_all want mv L (fun x hx => hL x (by simp [hx])) (K ++ [e]) _ ?_ (fun x hx => by
      rcases List.mem_append.1 hx with hx | hx
      · exact hK x hx
      · rw [List.mem_singleton] at hx; subst hx; exact hL x (by simp))
    have hm : ∀ x, x ∈ K ++ [e] ↔ x ∈ K ∨ x = e := fun x => by simp
    unfold lsS
    split
    · rename_i hc
      refine ⟨fun x hx hw => ?_, ?_, fun q => ?_⟩
      · rcases (hm x).1 hx with hx | rfl
        · exact h.le x hx hw
        · rcases hc with hc | hc
          · omega
          · rw [hw] at hc; cases hc
      · rcases h.is with h' | ⟨x, hx, h'⟩
        · exact .inl h'
        · exact .inr ⟨x, (hm x).2 (.inl hx), h'⟩
      · rw [h.tb q]
        constructor
        · rintro ⟨x, hx, h'⟩
          exact ⟨x, (hm x).2 (.inl hx), h'⟩
        · rintro ⟨x, hx, hw, h1, h2⟩
          rcases (hm x).1 hx with hx | rfl
          · exact ⟨x, hx, hw, h1, h2⟩
          · rcases hc with hc | hc
            · omega
            · rw [hw] at hc; cases hc
    · rename_i hc
      have hw : want e.2.2.toNat = true := by
        cases hq : want e.2.2.toNat
        · exact absurd (.inr hq) hc
        · rfl
      have hle : e.2.1 ≤ s.1 := by
        have : ¬ s.1 < e.2.1 := fun k => hc (.inl k)
        omega
      split
      · rename_i hlt
        refine ⟨fun x hx hwx => ?_, .inr ⟨e, (hm e).2 (.inr rfl), hw, rfl⟩, fun q => ?_⟩
        · rcases (hm x).1 hx with hx | rfl
          · have := h.le x hx hwx
            show e.2.1 ≤ x.2.1
            omega
          · exact Int.le_refl _
        · show (0 ||| 2 ^ e.2.2.toNat).testBit q = true ↔ _
          rw [Nat.zero_or, Nat.testBit_two_pow, decide_eq_true_eq]
          constructor
          · intro h'
            exact ⟨e, (hm e).2 (.inr rfl), hw, rfl, h'⟩
          · rintro ⟨x, hx, hwx, h1, h2⟩
            rcases (hm x).1 hx with hx | rfl
            · have := h.le x hx hwx
              have h1 : x.2.1 = e.2.1 := h1
              omega
            · exact h2
      · rename_i hlt
        have hes : e.2.1 = s.1 := by omega
        refine ⟨fun x hx hwx => ?_, .inr ⟨e, (hm e).2 (.inr rfl), hw, hes⟩, fun q => ?_⟩
        · rcases (hm x).1 hx with hx | rfl
          · exact h.le x hx hwx
          · exact Int.le_of_eq hes.symm
        · show (s.2 ||| 2 ^ e.2.2.toNat).testBit q = true ↔ _
          rw [Nat.testBit_or, Bool.or_eq_true, h.tb q, Nat.testBit_two_pow, decide_eq_true_eq]
          constructor
          · rintro (⟨x, hx, h'⟩ | h')
            · exact ⟨x, (hm x).2 (.inl hx), h'⟩
            · exact ⟨e, (hm e).2 (.inr rfl), hw, hes, h'⟩
          · rintro ⟨x, hx, hwx, h1, h2⟩
            rcases (hm x).1 hx with hx | rfl
            · exact .inl ⟨x, hx, hwx, h1, h2⟩
            · exact .inr h2
theorem lsR_flat (want : Nat → Bool) (row : Nat → List EdT) : ∀ (L : List Nat) (s : Int × Nat), lsR want row s L = (L.flatMap row).foldl (lsS want) s
  | [], _ => rfl
  | p :: L, s => by
    have := lsR_flat want row L ((row p).foldl (lsS want) s)
    rw [List.flatMap_cons, List.foldl_append, ← this]
    rfl
theorem lsR_q (want : Nat → Bool) (mv : Int) (row : Nat → List EdT) (L : List Nat) (h : ∀ p ∈ L, ∀ e ∈ row p, e.2.1 < mv) : LsQ want mv (L.flatMap row) (lsR want row (mv, 0) L) := by
  rw [lsR_flat]
  have := lsQ_all want mv (L.flatMap row) (fun e he => by obtain ⟨p, hp, he⟩ := List.mem_flatMap.1 he; exact h p hp e he) [] (mv, 0) ⟨fun e he => (by cases he), .inl rfl, fun q => (by simp)⟩ (fun e he => (by cases he))
  simpa using this
/-- The symbol of a step. -/
def symI (len : Nat → Int) (N : Nat) (mv : Int) (St : List Int) (Ed : List EdT) (d i : Nat) : Int := (lsR (fun p => decide (len p = ((d - (i + 1) : Nat) : Int))) (rowI false Ed) (mv, 0) (elems N (lwS len (rowI false Ed) N mv d (setI N St) i).2)).1
/-- The document's set after so many symbols. -/
def mS (Ed : List EdT) (bs : Nat → Int) (M0 : Nat → Bool) : Nat → Nat → Bool
  | 0 => M0
  | i + 1 => postM Ed (mS Ed bs M0 i) (bs i)
/-- An automaton that may be, with its lengths. -/
structure Lng (N : Nat) (mv : Int) (St Fi : List Int) (Ed : List EdT) (len : Nat → Int) : Prop where
  ed : ∀ e ∈ Ed, ∃ p r : Nat, p < N ∧ r < N ∧ e.1 = (p : Int) ∧ e.2.2 = (r : Int)
  sy : ∀ e ∈ Ed, 0 ≤ e.2.1 ∧ e.2.1 < mv
  st : ∀ x ∈ St, ∃ q : Nat, q < N ∧ x = (q : Int)
  bf : Bfs N (fun q => (q : Int) ∈ Fi) (stepE true Ed) [] len
  lt : ∀ q, q < N → len q < N
  hS : ∀ q : Nat, (q : Int) ∈ Fi → q < N
  hE : ∀ p q, stepE true Ed p q → q < N
theorem Lng.f2 {N : Nat} {mv : Int} {St Fi : List Int} {Ed : List EdT} {len : Nat → Int} (h : Lng N mv St Fi Ed len) (k q : Nat) (hw : Wlk (fun q => (q : Int) ∈ Fi) (stepE true Ed) k q) : q < N ∧ 0 ≤ len q ∧ len q ≤ k := h.bf.done h.hS h.hE k q hw
theorem Lng.f1 {N : Nat} {mv : Int} {St Fi : List Int} {Ed : List EdT} {len : Nat → Int} (h : Lng N mv St Fi Ed len) {q c : Nat} (hq : q < N) (hl : len q = (c : Int)) : Wlk (fun q => (q : Int) ∈ Fi) (stepE true Ed) c q := by
  have := h.bf.sound q hq (by omega)
  rw [hl, Int.toNat_natCast] at this
  exact this
theorem Lng.f3 {Fi : List Int} {Ed : List EdT} {e : EdT} (he : e ∈ Ed) {p r k : Nat} (h1 : e.1 = (p : Int)) (h2 : e.2.2 = (r : Int)) (hw : Wlk (fun q => (q : Int) ∈ Fi) (stepE true Ed) k r) : Wlk (fun q => (q : Int) ∈ Fi) (stepE true Ed) (k + 1) p := ⟨r, hw, e, he, Prod.ext h2 h1⟩
structure Inv (N : Nat) (Fi : List Int) (Ed : List EdT) (len : Nat → Int) (d i X : Nat) (M : Nat → Bool) : Prop where
  a : ∀ q, M q = true → q < N ∧ ∀ k, Wlk (fun q => (q : Int) ∈ Fi) (stepE true Ed) k q → d ≤ i + k
  b : ∀ q, X.testBit q = true → M q = true
  c : ∀ q, M q = true → len q = ((d - i : Nat) : Int) → X.testBit q = true
  e : ∃ q, M q = true ∧ len q = ((d - i : Nat) : Int)
theorem inv_zero {N : Nat} {mv : Int} {St Fi : List Int} {Ed : List EdT} {len : Nat → Int} (h : Lng N mv St Fi Ed len) {d : Nat} (hd : lenMin len St = (d : Int)) : Inv N Fi Ed len d 0 (setI N St) (inL St) := by
  have hm := (min_le len St (-1)).2
  have key : ∀ q : Nat, (setI N St).testBit q = true ↔ inL St q = true := fun q => by
    rw [setI_test]
    unfold inL
    rw [decide_eq_true_eq]
    constructor
    · rintro ⟨x, hx, h1, h2⟩
      have : x = (q : Int) := by omega
      rw [← this]; exact hx
    · intro hq
      obtain ⟨p, hp, e⟩ := h.st _ hq
      exact ⟨_, hq, by omega, by omega⟩
  refine ⟨fun q hq => ?_, fun q hq => (key q).1 hq, fun q hq _ => (key q).2 hq, ?_⟩
  · unfold inL at hq
    rw [decide_eq_true_eq] at hq
    obtain ⟨p, hp, e⟩ := h.st _ hq
    refine ⟨by omega, fun k hw => ?_⟩
    obtain ⟨_, h1, h2⟩ := h.f2 k q hw
    have h3 := hm _ hq (by rw [Int.toNat_natCast]; omega)
    rw [Int.toNat_natCast] at h3
    have h4 : (d : Int) ≤ len q := by rw [← hd]; exact h3.2
    omega
  · rcases lenMin_cases len St with h1 | ⟨x, hx, h1, h2⟩
    · omega
    · obtain ⟨p, hp, rfl⟩ := h.st x hx
      rw [Int.toNat_natCast] at h1
      refine ⟨p, ?_, by rw [Nat.sub_zero, ← hd, h1]⟩
      unfold inL
      rw [decide_eq_true_eq]
      exact hx
/-- A step: the document finds the same symbol; what is known stays known. -/
theorem inv_step {N : Nat} {mv : Int} {St Fi : List Int} {Ed : List EdT} {len : Nat → Int} (h : Lng N mv St Fi Ed len) {d i X : Nat} {M : Nat → Bool} (hi : i < d) (hI : Inv N Fi Ed len d i X M) {s : Int × Nat} (hs : s = lsR (fun p => decide (len p = ((d - (i + 1) : Nat) : Int))) (rowI false Ed) (mv, 0) (elems N X)) :
    ∃ b : Nat, s.1 = (b : Int) ∧ (b : Int) < mv ∧ (∀ t : Nat, t < b → bothM N (postM Ed M (t : Int)) (ahN Ed (inL Fi) (d - (i + 1))) = false) ∧ bothM N (postM Ed M (b : Int)) (ahN Ed (inL Fi) (d - (i + 1))) = true ∧ Inv N Fi Ed len d (i + 1) s.2 (postM Ed M s.1) := by
  obtain ⟨c, hc⟩ : ∃ c, d - (i + 1) = c := ⟨_, rfl⟩
  rw [hc] at hs
  have hc1 : d - i = c + 1 := by omega
  have hed : ∀ e ∈ Ed, ∃ p r : Nat, e.1 = (p : Int) ∧ e.2.2 = (r : Int) := fun e he => by
    obtain ⟨p, r, _, _, h1, h2⟩ := h.ed e he
    exact ⟨p, r, h1, h2⟩
  have hQ := lsR_q (fun p => decide (len p = (c : Int))) mv (rowI false Ed) (elems N X) (fun p _ e he => (h.sy e (List.mem_filter.1 he).1).2)
  rw [← hs] at hQ
  have hmem : ∀ e, e ∈ (elems N X).flatMap (rowI false Ed) ↔ e ∈ Ed ∧ X.testBit e.1.toNat = true := fun e => by
    rw [List.mem_flatMap]
    constructor
    · rintro ⟨p, hp, he⟩
      have h1 := List.mem_filter.1 he
      have h2 : e.1 = (p : Int) := by simpa [ends] using h1.2
      refine ⟨h1.1, ?_⟩
      rw [h2, Int.toNat_natCast]
      unfold elems at hp
      exact (List.mem_filter.1 hp).2
    · rintro ⟨he, hx⟩
      obtain ⟨p, r, hp, hr, h1, h2⟩ := h.ed e he
      rw [h1, Int.toNat_natCast] at hx
      refine ⟨p, ?_, ?_⟩
      · unfold elems
        exact List.mem_filter.2 ⟨List.mem_range.2 hp, hx⟩
      · refine List.mem_filter.2 ⟨he, ?_⟩
        simp [ends, h1]
  have hE : ∀ e ∈ Ed, M e.1.toNat = true → Wlk (fun q => (q : Int) ∈ Fi) (stepE true Ed) c e.2.2.toNat → e ∈ (elems N X).flatMap (rowI false Ed) ∧ len e.2.2.toNat = (c : Int) := fun e he hm hw => by
    obtain ⟨p, r, hp, hr, h1, h2⟩ := h.ed e he
    rw [h1, Int.toNat_natCast] at hm
    rw [h2, Int.toNat_natCast] at hw ⊢
    obtain ⟨_, l1, l2⟩ := h.f2 c r hw
    have ha := (hI.a p hm).2
    have hk : len r = ((len r).toNat : Int) := by omega
    have w1 := ha _ (Lng.f3 he h1 h2 (h.f1 hr hk))
    have w2 := Lng.f3 he h1 h2 hw
    obtain ⟨_, l3, l4⟩ := h.f2 _ p w2
    have hk2 : len p = ((len p).toNat : Int) := by omega
    have w3 := ha _ (h.f1 hp hk2)
    refine ⟨(hmem e).2 ⟨he, ?_⟩, by omega⟩
    rw [h1, Int.toNat_natCast]
    exact hI.c p hm (by omega)
  have hF : ∀ e ∈ (elems N X).flatMap (rowI false Ed), len e.2.2.toNat = (c : Int) → e ∈ Ed ∧ M e.1.toNat = true ∧ Wlk (fun q => (q : Int) ∈ Fi) (stepE true Ed) c e.2.2.toNat := fun e he hl => by
    obtain ⟨h1, h2⟩ := (hmem e).1 he
    obtain ⟨p, r, hp, hr, h3, h4⟩ := h.ed e h1
    refine ⟨h1, hI.b _ h2, ?_⟩
    rw [h4, Int.toNat_natCast] at hl ⊢
    exact h.f1 hr hl
  obtain ⟨q0, hq0, hl0⟩ := hI.e
  rw [hc1] at hl0
  obtain ⟨r0, hw0, e1, he1, hend⟩ := h.f1 (hI.a q0 hq0).1 hl0
  have he1a : e1.2.2 = (r0 : Int) := congrArg Prod.fst hend
  have he1b : e1.1 = (q0 : Int) := congrArg Prod.snd hend
  have hin := hE e1 he1 (by rw [he1b, Int.toNat_natCast]; exact hq0) (by rw [he1a, Int.toNat_natCast]; exact hw0)
  have hle := hQ.le e1 hin.1 (by simpa using hin.2)
  have hs1 := h.sy e1 he1
  obtain ⟨e0, h0m, h0w, h0s⟩ : ∃ e ∈ (elems N X).flatMap (rowI false Ed), len e.2.2.toNat = (c : Int) ∧ e.2.1 = s.1 := by
    rcases hQ.is with h1 | ⟨e, he, hw, h1⟩
    · omega
    · exact ⟨e, he, by simpa using hw, h1⟩
  obtain ⟨h0e, h0M, h0W⟩ := hF e0 h0m h0w
  have h0r := h.sy e0 h0e
  obtain ⟨p0, r1, hp0, hr1, e0a, e0b⟩ := h.ed e0 h0e
  rw [e0b, Int.toNat_natCast] at h0W h0w
  obtain ⟨b, hb⟩ := Int.eq_ofNat_of_zero_le (show 0 ≤ s.1 by omega)
  have hpost : postM Ed M s.1 r1 = true := (postM_iff _ _ _ _).2 ⟨e0, h0e, h0s, h0M, e0b⟩
  rw [hc]
  refine ⟨b, hb, by omega, fun t ht => ?_, ?_, ?_⟩
  · rw [Bool.eq_false_iff]
    intro hbt
    obtain ⟨q, hq, h1, h2⟩ := (bothM_iff _ _ _).1 hbt
    obtain ⟨e, he, h3, h4, h5⟩ := (postM_iff _ _ _ _).1 h1
    have h6 := (ahN_wlk hed c q).1 h2
    have h7 := hE e he h4 (by rw [h5, Int.toNat_natCast]; exact h6)
    have := hQ.le e h7.1 (by simpa using h7.2)
    omega
  · rw [← show s.1 = (b : Int) from hb]
    exact (bothM_iff _ _ _).2 ⟨r1, hr1, hpost, (ahN_wlk hed c r1).2 h0W⟩
  · refine ⟨fun q hq => ?_, fun q hq => ?_, fun q hq hl => ?_, ⟨r1, hpost, by rw [hc]; exact h0w⟩⟩
    · obtain ⟨e, he, h3, h4, h5⟩ := (postM_iff _ _ _ _).1 hq
      obtain ⟨p, r, hp, hr, h6, h7⟩ := h.ed e he
      have hqr : q = r := by omega
      subst hqr
      refine ⟨hr, fun k hw => ?_⟩
      rw [h6, Int.toNat_natCast] at h4
      have := (hI.a p h4).2 _ (Lng.f3 he h6 h7 hw)
      omega
    · obtain ⟨e, he, hw, h3, h4⟩ := (hQ.tb q).1 hq
      obtain ⟨h5, h6, h7⟩ := hF e he (by simpa using hw)
      obtain ⟨p, r, hp, hr, h8, h9⟩ := h.ed e h5
      exact (postM_iff _ _ _ _).2 ⟨e, h5, h3, h6, by omega⟩
    · rw [hc] at hl
      obtain ⟨e, he, h3, h4, h5⟩ := (postM_iff _ _ _ _).1 hq
      obtain ⟨p, r, hp, hr, h6, h7⟩ := h.ed e he
      have hqr : q = r := by omega
      subst hqr
      have h8 := hE e he h4 (by rw [h5, Int.toNat_natCast]; exact h.f1 hr hl)
      exact (hQ.tb q).2 ⟨e, h8.1, by simpa using h8.2, h3, by rw [h5, Int.toNat_natCast]⟩
theorem inv_all {N : Nat} {mv : Int} {St Fi : List Int} {Ed : List EdT} {len : Nat → Int} (h : Lng N mv St Fi Ed len) {d : Nat} (hd : lenMin len St = (d : Int)) : ∀ i, i ≤ d → Inv N Fi Ed len d i (lwS len (rowI false Ed) N mv d (setI N St) i).2 (mS Ed (symI len N mv St Ed d) (inL St) i)
  | 0, _ => inv_zero h hd
  | i + 1, hi => by
    obtain ⟨b, _, _, _, _, hI⟩ := inv_step h (by omega) (inv_all h hd i (by omega)) (s := (lsR (fun p => decide (len p = ((d - (i + 1) : Nat) : Int))) (rowI false Ed) (mv, 0) (elems N (lwS len (rowI false Ed) N mv d (setI N St) i).2))) rfl
    exact hI
/-- What the document's greedy way finds at each place. -/
theorem greedy {N : Nat} {mv : Int} {St Fi : List Int} {Ed : List EdT} {len : Nat → Int} (h : Lng N mv St Fi Ed len) {d : Nat} (hd : lenMin len St = (d : Int)) (i : Nat) (hi : i < d) :
    ∃ b : Nat, symI len N mv St Ed d i = (b : Int) ∧ (b : Int) < mv ∧ (∀ t : Nat, t < b → bothM N (postM Ed (mS Ed (symI len N mv St Ed d) (inL St) i) (t : Int)) (ahN Ed (inL Fi) (d - (i + 1))) = false) ∧ bothM N (postM Ed (mS Ed (symI len N mv St Ed d) (inL St) i) (b : Int)) (ahN Ed (inL Fi) (d - (i + 1))) = true := by
  obtain ⟨b, h1, h2, h3, h4, _⟩ := inv_step h hi (inv_all h hd i (by omega)) (s := (lsR (fun p => decide (len p = ((d - (i + 1) : Nat) : Int))) (rowI false Ed) (mv, 0) (elems N (lwS len (rowI false Ed) N mv d (setI N St) i).2))) rfl
  exact ⟨b, h1, h2, h3, h4⟩
/-- The search for the least length. -/
theorem search_no {N : Nat} {mv : Int} {St Fi : List Int} {Ed : List EdT} {len : Nat → Int} (h : Lng N mv St Fi Ed len) (j : Nat) (hj : lenMin len St = -1 ∨ (j : Int) < lenMin len St) : bothM N (inL St) (ahN Ed (inL Fi) j) = false := by
  rw [Bool.eq_false_iff]
  intro hb
  obtain ⟨q, hq, h1, h2⟩ := (bothM_iff _ _ _).1 hb
  have hw := (ahN_wlk (fun e he => by obtain ⟨p, r, _, _, h1, h2⟩ := h.ed e he; exact ⟨p, r, h1, h2⟩) j q).1 h2
  obtain ⟨_, l1, l2⟩ := h.f2 j q hw
  unfold inL at h1
  rw [decide_eq_true_eq] at h1
  have := (min_le len St (-1)).2 _ h1 (by rw [Int.toNat_natCast]; omega)
  rw [Int.toNat_natCast] at this
  have h3 : lenMin len St ≠ -1 ∧ lenMin len St ≤ len q := this
  omega
theorem lwS_word (len : Nat → Int) (Ed : List EdT) (N : Nat) (mv : Int) (St : List Int) (d : Nat) : ∀ i, (lwS len (rowI false Ed) N mv d (setI N St) i).1 = (List.range i).map (symI len N mv St Ed d)
  | 0 => rfl
  | i + 1 => by
    rw [lwS, List.range_succ, List.map_append, lwS_word len Ed N mv St d i]
    rfl
end Go.Proofs.YtojnlpicgemlaaaDoor
