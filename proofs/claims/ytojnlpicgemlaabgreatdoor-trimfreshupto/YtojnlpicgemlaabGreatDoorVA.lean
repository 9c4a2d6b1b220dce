import Derived.Test.YtojnlpicgemlaabGreatDoorTx
import Derived.Test.YtojnlpicgemlaabGreatDoorTK
import Derived.Test.YtojnlpicgemlaabGreatDoorFE
namespace Go.Proofs.YtojnlpicgemlaabGreatDoor
open Go.RowKit Go.Maps

/-! ### The least word: the document's way is the program's -/
theorem ahN_wlk {Ed : List EdT} {Fi : List Int} (hE : ∀ e ∈ Ed, ∃ p r : Nat, e.1 = (p : Int) ∧ e.2.2 = (r : Int)) : ∀ (k q : Nat), ahN Ed (inL Fi) k q = true ↔ Wlk (fun q => (q : Int) ∈ Fi) (stepE true Ed) k q
  | 0, q => by simp [ahN, inL, Wlk]
  | k + 1, q => by
    rw [ahN]
    exact ahead_wlk hE (ahN_wlk hE k) q
theorem bothM_iff (N : Nat) (M M' : Nat → Bool) : bothM N M M' = true ↔ ∃ q, q < N ∧ M q = true ∧ M' q = true := by
  unfold bothM
  rw [List.any_eq_true]
  constructor
  · rintro ⟨q, hq, h⟩
    rw [Bool.and_eq_true] at h
    exact ⟨q, List.mem_range.1 hq, h⟩
  · rintro ⟨q, hq, h⟩
    exact ⟨q, List.mem_range.2 hq, by rw [Bool.and_eq_true]; exact h⟩
theorem postM_iff (Ed : List EdT) (M : Nat → Bool) (s : Int) (q : Nat) : postM Ed M s q = true ↔ ∃ e ∈ Ed, e.2.1 = s ∧ M e.1.toNat = true ∧ e.2.2 = (q : Int) := by
  unfold postM
  rw [List.any_eq_true]
  constructor
  · rintro ⟨e, he, h⟩
    simp only [Bool.and_eq_true, decide_eq_true_eq] at h
    exact ⟨e, he, h.1.1, h.1.2, h.2⟩
  · rintro ⟨e, he, h1, h2, h3⟩
    exact ⟨e, he, by simp only [Bool.and_eq_true, decide_eq_true_eq]; exact ⟨⟨h1, h2⟩, h3⟩⟩
theorem min_le (len : Nat → Int) : ∀ (Fr : List Int) (acc : Int), (acc ≠ -1 → Fr.foldl (minF len) acc ≠ -1 ∧ Fr.foldl (minF len) acc ≤ acc) ∧ ∀ x ∈ Fr, len x.toNat ≠ -1 → Fr.foldl (minF len) acc ≠ -1 ∧ Fr.foldl (minF len) acc ≤ len x.toNat
  | [], acc => ⟨fun h => ⟨h, Int.le_refl _⟩, fun x hx => by cases hx⟩
  | y :: Fr, acc => by
    rw [List.foldl_cons]
    obtain ⟨h1, h2⟩ := min_le len Fr (minF len acc y)
    have key : (acc ≠ -1 → minF len acc y ≠ -1 ∧ minF len acc y ≤ acc) ∧ (len y.toNat ≠ -1 → minF len acc y ≠ -1 ∧ minF len acc y ≤ len y.toNat) := by
      unfold minF
      split
      · rename_i hc
        exact ⟨fun h => ⟨hc.1, by omega⟩, fun h => ⟨h, Int.le_refl _⟩⟩
      · rename_i hc
        refine ⟨fun h => ⟨h, Int.le_refl _⟩, fun h => ?_⟩
        have h' : ¬ (acc = -1 ∨ len y.toNat < acc) := fun k => hc ⟨h, k⟩
        omega
    refine ⟨fun h => ?_, fun x hx hl => ?_⟩
    · have k := key.1 h
      have := h1 k.1
      exact ⟨this.1, by omega⟩
    · rcases List.mem_cons.1 hx with rfl | hx
      · have k := key.2 hl
        have := h1 k.1
        exact ⟨this.1, by omega⟩
      · exact h2 x hx hl
/-- What is known of the least symbol so far. -/
structure LsQ (want : Nat → Bool) (mv : Int) (L : List EdT) (s : Int × Nat) : Prop where
  le : ∀ e ∈ L, want e.2.2.toNat = true → s.1 ≤ e.2.1
  is : s.1 = mv ∨ ∃ e ∈ L, want e.2.2.toNat = true ∧ e.2.1 = s.1
  tb : ∀ q, s.2.testBit q = true ↔ ∃ e ∈ L, want e.2.2.toNat = true ∧ e.2.1 = s.1 ∧ e.2.2.toNat = q
theorem lsQ_all (want : Nat → Bool) (mv : Int) : ∀ (L : List EdT), (∀ e ∈ L, e.2.1 < mv) → ∀ (K : List EdT) (s : Int × Nat), LsQ want mv K s → (∀ e ∈ K, e.2.1 < mv) → LsQ want mv (K ++ L) (L.foldl (lsS want) s)
  | [], _, K, s, h, _ => by rw [List.append_nil]; exact h
  | e :: L, hL, K, s, h, hK => by
    rw [List.foldl_cons, show K ++ e :: L = (K ++ [e]) ++ L by simp]
    refine lsQ_all want mv L (fun x hx => hL x (by simp [hx])) (K ++ [e]) _ ?_ (fun x hx => by
      rcases List.mem_append.1 hx with hx | hx
      · exact hK x hx
      · rw [List.mem_singleton] at hx; subst hx; exact hL x (by simp))
    have hm : ∀ x, x ∈ K ++ [e] ↔ x ∈ K ∨ x = e := fun x => by simp
    unfold lsS
    split
    · rename_i hc
      refine ⟨fun x hx hw => ?_, ?_, fun q => ?_⟩
      · rcases (hm x).1 hx with hx | rfl
        · exact h.le x hx hw
        · rcases hc with hc | hc
          · omega
          · rw [hw] at hc; cases hc
      · rcases h.is with h' | ⟨x, hx, h'⟩
        · exact .inl h'
        · exact .inr ⟨x, (hm x).2 (.inl hx), h'⟩
      · rw [h.tb q]
        constructor
        · rintro ⟨x, hx, h'⟩
          exact ⟨x, (hm x).2 (.inl hx), h'⟩
        · rintro ⟨x, hx, hw, h1, h2⟩
          rcases (hm x).1 hx with hx | rfl
          · exact ⟨x, hx, hw, h1, h2⟩
          · rcases hc with hc | hc
            · omega
            · rw [hw] at hc; cases hc
    · rename_i hc
      have hw : want e.2.2.toNat = true := by
        cases hq : want e.2.2.toNat
        · exact absurd (.inr hq) hc
        · rfl
      have hle : e.2.1 ≤ s.1 := by
        have : ¬ s.1 < e.2.1 := fun k => hc (.inl k)
        omega
      split
      · rename_i hlt
        refine ⟨fun x hx hwx => ?_, .inr ⟨e, (hm e).2 (.inr rfl), hw, rfl⟩, fun q => ?_⟩
        · rcases (hm x).1 hx with hx | rfl
          · have := h.le x hx hwx
            show e.2.1 ≤ x.2.1
            omega
          · exact Int.le_refl _
        · show (0 ||| 2 ^ e.2.2.toNat).testBit q = true ↔ _
          rw [Nat.zero_or, Nat.testBit_two_pow, decide_eq_true_eq]
          constructor
          · intro h'
            exact ⟨e, (hm e).2 (.inr rfl), hw, rfl, h'⟩
          · rintro ⟨x, hx, hwx, h1, h2⟩
            rcases (hm x).1 hx with hx | rfl
            · have := h.le x hx hwx
              have h1 : x.2.1 = e.2.1 := h1
              omega
            · exact h2
      · rename_i hlt
        have hes : e.2.1 = s.1 := by omega
        refine ⟨fun x hx hwx => ?_, .inr ⟨e, (hm e).2 (.inr rfl), hw, hes⟩, fun q => ?_⟩
        · rcases (hm x).1 hx with hx | rfl
          · exact h.le x hx hwx
          · exact Int.le_of_eq hes.symm
        · show (s.2 ||| 2 ^ e.2.2.toNat).testBit q = true ↔ _
          rw [Nat.testBit_or, Bool.or_eq_true, h.tb q, Nat.testBit_two_pow, decide_eq_true_eq]
          constructor
          · rintro (⟨x, hx, h'⟩ | h')
            · exact ⟨x, (hm x).2 (.inl hx), h'⟩
            · exact ⟨e, (hm e).2 (.inr rfl), hw, hes, h'⟩
          · rintro ⟨x, hx, hwx, h1, h2⟩
            rcases (hm x).1 hx with hx | rfl
            · exact .inl ⟨x, hx, hwx, h1, h2⟩
            · exact .inr h2
theorem lsR_flat (want : Nat → Bool) (row : Nat → List EdT) : ∀ (L : List Nat) (s : Int × Nat), lsR want row s L = (L.flatMap row).foldl (lsS want) s
  | [], _ => rfl
  | p :: L, s => by
    have := lsR_flat want row L ((row p).foldl (lsS want) s)
    rw [List.flatMap_cons, List.foldl_append, ← this]
    rfl
theorem lsR_q (want : Nat → Bool) (mv : Int) (row : Nat → List EdT) (L : List Nat) (h : ∀ p ∈ L, ∀ e ∈ row p, e.2.1 < mv) : LsQ want mv (L.flatMap row) (lsR want row (mv, 0) L) := by
  rw [lsR_flat]
  have := lsQ_all want mv (L.flatMap row) (fun e he => by obtain ⟨p, hp, he⟩ := List.mem_flatMap.1 he; exact h p hp e he) [] (mv, 0) ⟨fun e he => (by cases he), .inl rfl, fun q => (by simp)⟩ (fun e he => (by cases he))
  simpa using this
/-- The symbol of a step. -/
def symI (len : Nat → Int) (N : Nat) (mv : Int) (St : List Int) (Ed : List EdT) (d i : Nat) : Int := (lsR (fun p => decide (len p = ((d - (i + 1) : Nat) : Int))) (rowI false Ed) (mv, 0) (elems N (lwS len (rowI false Ed) N mv d (setI N St) i).2)).1
/-- The document's set after so many symbols. -/
def mS (Ed : List EdT) (bs : Nat → Int) (M0 : Nat → Bool) : Nat → Nat → Bool
  | 0 => M0
  | i + 1 => postM Ed (mS Ed bs M0 i) (bs i)
/-- An automaton that may be, with its lengths. -/
structure Lng (N : Nat) (mv : Int) (St Fi : List Int) (Ed : List EdT) (len : Nat → Int) : Prop where
  ed : ∀ e ∈ Ed, ∃ p r : Nat, p < N ∧ r < N ∧ e.1 = (p : Int) ∧ e.2.2 = (r : Int)
  sy : ∀ e ∈ Ed, 0 ≤ e.2.1 ∧ e.2.1 < mv
  st : ∀ x ∈ St, ∃ q : Nat, q < N ∧ x = (q : Int)
  bf : Bfs N (fun q => (q : Int) ∈ Fi) (stepE true Ed) [] len
  lt : ∀ q, q < N → len q < N
  hS : ∀ q : Nat, (q : Int) ∈ Fi → q < N
  hE : ∀ p q, stepE true Ed p q → q < N
theorem Lng.f2 {N : Nat} {mv : Int} {St Fi : List Int} {Ed : List EdT} {len : Nat → Int} (h : Lng N mv St Fi Ed len) (k q : Nat) (hw : Wlk (fun q => (q : Int) ∈ Fi) (stepE true Ed) k q) : q < N ∧ 0 ≤ len q ∧ len q ≤ k := h.bf.done h.hS h.hE k q hw
theorem Lng.f1 {N : Nat} {mv : Int} {St Fi : List Int} {Ed : List EdT} {len : Nat → Int} (h : Lng N mv St Fi Ed len) {q c : Nat} (hq : q < N) (hl : len q = (c : Int)) : Wlk (fun q => (q : Int) ∈ Fi) (stepE true Ed) c q := by
  have := h.bf.sound q hq (by omega)
  rw [hl, Int.toNat_natCast] at this
  exact this
theorem Lng.f3 {Fi : List Int} {Ed : List EdT} {e : EdT} (he : e ∈ Ed) {p r k : Nat} (h1 : e.1 = (p : Int)) (h2 : e.2.2 = (r : Int)) (hw : Wlk (fun q => (q : Int) ∈ Fi) (stepE true Ed) k r) : Wlk (fun q => (q : Int) ∈ Fi) (stepE true Ed) (k + 1) p := ⟨r, hw, e, he, Prod.ext h2 h1⟩
structure Inv (N : Nat) (Fi : List Int) (Ed : List EdT) (len : Nat → Int) (d i X : Nat) (M : Nat → Bool) : Prop where
  a : ∀ q, M q = true → q < N ∧ ∀ k, Wlk (fun q => (q : Int) ∈ Fi) (stepE true Ed) k q → d ≤ i + k
  b : ∀ q, X.testBit q = true → M q = true
  c : ∀ q, M q = true → len q = ((d - i : Nat) : Int) → X.testBit q = true
  e : ∃ q, M q = true ∧ len q = ((d - i : Nat) : Int)
theorem inv_zero {N : Nat} {mv : Int} {St Fi : List Int} {Ed : List EdT} {len : Nat → Int} (h : Lng N mv St Fi Ed len) {d : Nat} (hd : lenMin len St = (d : Int)) : Inv N Fi Ed len d 0 (setI N St) (inL St) := by
  have hm := (min_le len St (-1)).2
  have key : ∀ q : Nat, (setI N St).testBit q = true ↔ inL St q = true := fun q => by
    rw [setI_test]
    unfold inL
    rw [decide_eq_true_eq]
    constructor
    · rintro ⟨x, hx, h1, h2⟩
      have : x = (q : Int) := by omega
      rw [← this]; exact hx
    · intro hq
      obtain ⟨p, hp, e⟩ := h.st _ hq
      exact ⟨_, hq, by omega, by omega⟩
  refine ⟨fun q hq => ?_, fun q hq => (key q).1 hq, fun q hq _ => (key q).2 hq, ?_⟩
  · unfold inL at hq
    rw [decide_eq_true_eq] at hq
    obtain ⟨p, hp, e⟩ := h.st _ hq
    refine ⟨by omega, fun k hw => ?_⟩
    obtain ⟨_, h1, h2⟩ := h.f2 k q hw
    have h3 := hm _ hq (by rw [Int.toNat_natCast]; omega)
    rw [Int.toNat_natCast] at h3
    have h4 : (d : Int) ≤ len q := by rw [← hd]; exact h3.2
    omega
  · rcases lenMin_cases len St with h1 | ⟨x, hx, h1, h2⟩
    · omega
    · obtain ⟨p, hp, rfl⟩ := h.st x hx
      rw [Int.toNat_natCast] at h1
      refine ⟨p, ?_, by rw [Nat.sub_zero, ← hd, h1]⟩
      unfold inL
      rw [decide_eq_true_eq]
      exact hx
/-- A step: the document finds the same symbol; what is known stays known. -/
theorem inv_step {N : Nat} {mv : Int} {St Fi : List Int} {Ed : List EdT} {len : Nat → Int} (h : Lng N mv St Fi Ed len) {d i X : Nat} {M : Nat → Bool} (hi : i < d) (hI : Inv N Fi Ed len d i X M) {s : Int × Nat} (hs : s = lsR (fun p => decide (len p = ((d - (i + 1) : Nat) : Int))) (rowI false Ed) (mv, 0) (elems N X)) :
    ∃ b : Nat, s.1 = (b : Int) ∧ (b : Int) < mv ∧ (∀ t : Nat, t < b → bothM N (postM Ed M (t : Int)) (ahN Ed (inL Fi) (d - (i + 1))) = false) ∧ bothM N (postM Ed M (b : Int)) (ahN Ed (inL Fi) (d - (i + 1))) = true ∧ Inv N Fi Ed len d (i + 1) s.2 (postM Ed M s.1) := by
  obtain ⟨c, hc⟩ : ∃ c, d - (i + 1) = c := ⟨_, rfl⟩
  rw [hc] at hs
  have hc1 : d - i = c + 1 := by omega
  have hed : ∀ e ∈ Ed, ∃ p r : Nat, e.1 = (p : Int) ∧ e.2.2 = (r : Int) := fun e he => by
    obtain ⟨p, r, _, _, h1, h2⟩ := h.ed e he
    exact ⟨p, r, h1, h2⟩
  have hQ := lsR_q (fun p => decide (len p = (c : Int))) mv (rowI false Ed) (elems N X) (fun p _ e he => (h.sy e (List.mem_filter.1 he).1).2)
  rw [← hs] at hQ
  have hmem : ∀ e, e ∈ (elems N X).flatMap (rowI false Ed) ↔ e ∈ Ed ∧ X.testBit e.1.toNat = true := fun e => by
    rw [List.mem_flatMap]
    constructor
    · rintro ⟨p, hp, he⟩
      have h1 := List.mem_filter.1 he
      have h2 : e.1 = (p : Int) := by simpa [ends] using h1.2
      refine ⟨h1.1, ?_⟩
      rw [h2, Int.toNat_natCast]
      unfold elems at hp
      exact (List.mem_filter.1 hp).2
    · rintro ⟨he, hx⟩
      obtain ⟨p, r, hp, hr, h1, h2⟩ := h.ed e he
      rw [h1, Int.toNat_natCast] at hx
      refine ⟨p, ?_, ?_⟩
      · unfold elems
        exact List.mem_filter.2 ⟨List.mem_range.2 hp, hx⟩
      · refine List.mem_filter.2 ⟨he, ?_⟩
        simp [ends, h1]
  have hE : ∀ e ∈ Ed, M e.1.toNat = true → Wlk (fun q => (q : Int) ∈ Fi) (stepE true Ed) c e.2.2.toNat → e ∈ (elems N X).flatMap (rowI false Ed) ∧ len e.2.2.toNat = (c : Int) := fun e he hm hw => by
    obtain ⟨p, r, hp, hr, h1, h2⟩ := h.ed e he
    rw [h1, Int.toNat_natCast] at hm
    rw [h2, Int.toNat_natCast] at hw ⊢
    obtain ⟨_, l1, l2⟩ := h.f2 c r hw
    have ha := (hI.a p hm).2
    have hk : len r = ((len r).toNat : Int) := by omega
    have w1 := ha _ (Lng.f3 he h1 h2 (h.f1 hr hk))
    have w2 := Lng.f3 he h1 h2 hw
    obtain ⟨_, l3, l4⟩ := h.f2 _ p w2
    have hk2 : len p = ((len p).toNat : Int) := by omega
    have w3 := ha _ (h.f1 hp hk2)
    refine ⟨(hmem e).2 ⟨he, ?_⟩, by omega⟩
    rw [h1, Int.toNat_natCast]
    exact hI.c p hm (by omega)
  have hF : ∀ e ∈ (elems N X).flatMap (rowI false Ed), len e.2.2.toNat = (c : Int) → e ∈ Ed ∧ M e.1.toNat = true ∧ Wlk (fun q => (q : Int) ∈ Fi) (stepE true Ed) c e.2.2.toNat := fun e he hl => by
    obtain ⟨h1, h2⟩ := (hmem e).1 he
    obtain ⟨p, r, hp, hr, h3, h4⟩ := h.ed e h1
    refine ⟨h1, hI.b _ h2, ?_⟩
    rw [h4, Int.toNat_natCast] at hl ⊢
    exact h.f1 hr hl
  obtain ⟨q0, hq0, hl0⟩ := hI.e
  rw [hc1] at hl0
  obtain ⟨r0, hw0, e1, he1, hend⟩ := h.f1 (hI.a q0 hq0).1 hl0
  have he1a : e1.2.2 = (r0 : Int) := congrArg Prod.fst hend
  have he1b : e1.1 = (q0 : Int) := congrArg Prod.snd hend
  have hin := hE e1 he1 (by rw [he1b, Int.toNat_natCast]; exact hq0) (by rw [he1a, Int.toNat_natCast]; exact hw0)
  have hle := hQ.le e1 hin.1 (by simpa using hin.2)
  have hs1 := h.sy e1 he1
  obtain ⟨e0, h0m, h0w, h0s⟩ : ∃ e ∈ (elems N X).flatMap (rowI false Ed), len e.2.2.toNat = (c : Int) ∧ e.2.1 = s.1 := by
    rcases hQ.is with h1 | ⟨e, he, hw, h1⟩
    · omega
    · exact ⟨e, he, by simpa using hw, h1⟩
  obtain ⟨h0e, h0M, h0W⟩ := hF e0 h0m h0w
  have h0r := h.sy e0 h0e
  obtain ⟨p0, r1, hp0, hr1, e0a, e0b⟩ := h.ed e0 h0e
  rw [e0b, Int.toNat_natCast] at h0W h0w
  obtain ⟨b, hb⟩ := Int.eq_ofNat_of_zero_le (show 0 ≤ s.1 by omega)
  have hpost : postM Ed M s.1 r1 = true := (postM_iff _ _ _ _).2 ⟨e0, h0e, h0s, h0M, e0b⟩
  rw [hc]
  refine ⟨b, hb, by omega, fun t ht => ?_, ?_, ?_⟩
  · rw [Bool.eq_false_iff]
    intro hbt
    obtain ⟨q, hq, h1, h2⟩ := (bothM_iff _ _ _).1 hbt
    obtain ⟨e, he, h3, h4, h5⟩ := (postM_iff _ _ _ _).1 h1
    have h6 := (ahN_wlk hed c q).1 h2
    have h7 := hE e he h4 (by rw [h5, Int.toNat_natCast]; exact h6)
    have := hQ.le e h7.1 (by simpa using h7.2)
    omega
  · rw [← show s.1 = (b : Int) from hb]
    exact (bothM_iff _ _ _).2 ⟨r1, hr1, hpost, (ahN_wlk hed c r1).2 h0W⟩
  · refine ⟨fun q hq => ?_, fun q hq => ?_, fun q hq hl => ?_, ⟨r1, hpost, by rw [hc]; exact h0w⟩⟩
    · obtain ⟨e, he, h3, h4, h5⟩ := (postM_iff _ _ _ _).1 hq
      obtain ⟨p, r, hp, hr, h6, h7⟩ := h.ed e he
      have hqr : q = r := by omega
      subst hqr
      refine ⟨hr, fun k hw => ?_⟩
      rw [h6, Int.toNat_natCast] at h4
      have := (hI.a p h4).2 _ (Lng.f3 he h6 h7 hw)
      omega
    · obtain ⟨e, he, hw, h3, h4⟩ := (hQ.tb q).1 hq
      obtain ⟨h5, h6, h7⟩ := hF e he (by simpa using hw)
      obtain ⟨p, r, hp, hr, h8, h9⟩ := h.ed e h5
      exact (postM_iff _ _ _ _).2 ⟨e, h5, h3, h6, by omega⟩
    · rw [hc] at hl
      obtain ⟨e, he, h3, h4, h5⟩ := (postM_iff _ _ _ _).1 hq
      obtain ⟨p, r, hp, hr, h6, h7⟩ := h.ed e he
      have hqr : q = r := by omega
      subst hqr
      have h8 := hE e he h4 (by rw [h5, Int.toNat_natCast]; exact h.f1 hr hl)
      exact (hQ.tb q).2 ⟨e, h8.1, by simpa using h8.2, h3, by rw [h5, Int.toNat_natCast]⟩
theorem inv_all {N : Nat} {mv : Int} {St Fi : List Int} {Ed : List EdT} {len : Nat → Int} (h : Lng N mv St Fi Ed len) {d : Nat} (hd : lenMin len St = (d : Int)) : ∀ i, i ≤ d → Inv N Fi Ed len d i (lwS len (rowI false Ed) N mv d (setI N St) i).2 (mS Ed (symI len N mv St Ed d) (inL St) i)
  | 0, _ => inv_zero h hd
  | i + 1, hi => by
    obtain ⟨b, _, _, _, _, hI⟩ := inv_step h (by omega) (inv_all h hd i (by omega)) (s := (lsR (fun p => decide (len p = ((d - (i + 1) : Nat) : Int))) (rowI false Ed) (mv, 0) (elems N (lwS len (rowI false Ed) N mv d (setI N St) i).2))) rfl
    exact hI
/-- What the document's greedy way finds at each place. -/
theorem greedy {N : Nat} {mv : Int} {St Fi : List Int} {Ed : List EdT} {len : Nat → Int} (h : Lng N mv St Fi Ed len) {d : Nat} (hd : lenMin len St = (d : Int)) (i : Nat) (hi : i < d) :
    ∃ b : Nat, symI len N mv St Ed d i = (b : Int) ∧ (b : Int) < mv ∧ (∀ t : Nat, t < b → bothM N (postM Ed (mS Ed (symI len N mv St Ed d) (inL St) i) (t : Int)) (ahN Ed (inL Fi) (d - (i + 1))) = false) ∧ bothM N (postM Ed (mS Ed (symI len N mv St Ed d) (inL St) i) (b : Int)) (ahN Ed (inL Fi) (d - (i + 1))) = true := by
  obtain ⟨b, h1, h2, h3, h4, _⟩ := inv_step h hi (inv_all h hd i (by omega)) (s := (lsR (fun p => decide (len p = ((d - (i + 1) : Nat) : Int))) (rowI false Ed) (mv, 0) (elems N (lwS len (rowI false Ed) N mv d (setI N St) i).2))) rfl
  exact ⟨b, h1, h2, h3, h4⟩
/-- The search for the least length. -/
theorem search_no {N : Nat} {mv : Int} {St Fi : List Int} {Ed : List EdT} {len : Nat → Int} (h : Lng N mv St Fi Ed len) (j : Nat) (hj : lenMin len St = -1 ∨ (j : Int) < lenMin len St) : bothM N (inL St) (ahN Ed (inL Fi) j) = false := by
  rw [Bool.eq_false_iff]
  intro hb
  obtain ⟨q, hq, h1, h2⟩ := (bothM_iff _ _ _).1 hb
  have hw := (ahN_wlk (fun e he => by obtain ⟨p, r, _, _, h1, h2⟩ := h.ed e he; exact ⟨p, r, h1, h2⟩) j q).1 h2
  obtain ⟨_, l1, l2⟩ := h.f2 j q hw
  unfold inL at h1
  rw [decide_eq_true_eq] at h1
  have := (min_le len St (-1)).2 _ h1 (by rw [Int.toNat_natCast]; omega)
  rw [Int.toNat_natCast] at this
  have h3 : lenMin len St ≠ -1 ∧ lenMin len St ≤ len q := this
  omega
theorem search_yes {N : Nat} {mv : Int} {St Fi : List Int} {Ed : List EdT} {len : Nat → Int} (h : Lng N mv St Fi Ed len) {d : Nat} (hd : lenMin len St = (d : Int)) : bothM N (inL St) (ahN Ed (inL Fi) d) = true ∧ d < N := by
  obtain ⟨q, hq, hl⟩ := (inv_zero h hd).e
  have hqN := ((inv_zero h hd).a q hq).1
  rw [Nat.sub_zero] at hl
  exact ⟨(bothM_iff _ _ _).2 ⟨q, hqN, hq, (ahN_wlk (fun e he => by obtain ⟨p, r, _, _, h1, h2⟩ := h.ed e he; exact ⟨p, r, h1, h2⟩) d q).2 (h.f1 hqN hl)⟩, by have := h.lt q hqN; omega⟩
theorem lwS_word (len : Nat → Int) (Ed : List EdT) (N : Nat) (mv : Int) (St : List Int) (d : Nat) : ∀ i, (lwS len (rowI false Ed) N mv d (setI N St) i).1 = (List.range i).map (symI len N mv St Ed d)
  | 0 => rfl
  | i + 1 => by
    rw [lwS, List.range_succ, List.map_append, lwS_word len Ed N mv St d i]
    rfl
end Go.Proofs.YtojnlpicgemlaabGreatDoor
namespace Go.Proofs.YtojnlpicgemlaabGreatDoor
open Go.RowKit Go.Maps Go.Shelf
attribute [local go_sem] Oper.semAt_some

/-! ### The document's Empty -/
set_option maxRecDepth 100000 in
set_option maxHeartbeats 4000000 in
theorem rempty_ok (w : World) (N : Nat) (mv : Int) (a1 a2 a3 : Option Addr) (c1 c2 c3 : Nat) (St Fi : List Int) (Ed : List EdT) (hA : Hid (RdA w a1 a2 a3 St Fi Ed)) (h1 : St.length ≤ 4194304) (h2 : Fi.length ≤ 4194304) (h3 : Ed.length ≤ 4194304) (em : mayA (N : Int) mv St Fi Ed = true) (len : Nat → Int) (hL : Hid (Lng N mv St Fi Ed len)) :
    Calls Tryz.prog 21 #[.agg #[.int .i64 (N : Int), .int .i64 mv, .slice a1 St.length c1, .slice a2 Fi.length c2, .slice a3 Ed.length c3]] w fun e w' => ((lenMin len St = -1 ∧ e = .returned (.tuple #[.bool true, .slice none 0 0, .int .i64 0])) ∨ (0 ≤ lenMin len St ∧ ∃ vw, e = .returned (.tuple #[.bool false, vw, .int .i64 0]) ∧ OwnL w.heap.size w' vw (lwS len (rowI false Ed) N mv (lenMin len St).toNat (setI N St) (lenMin len St).toNat).1)) ∧ Below w.heap.size w w' := by
  obtain ⟨i3, hi3, hz30, hz31, hz32⟩ := info_parts info3
  have HG : Hid (∀ W, Below w.heap.size w W → ArgA W N mv a1 a2 a3 St Fi Ed) := hide (fun W d => ⟨em, hA.out.s.on d, hA.out.f.on d, hA.out.e.on d, h1, h2⟩)
  have hN : N ≤ 4096 := (HG.out w (Below.refl _ _)).hN
  have hle := (HG.out w (Below.refl _ _)).le
  obtain ⟨Q, hQ⟩ : ∃ Q : Ending → World → Prop, (fun e w' => ((lenMin len St = -1 ∧ e = .returned (.tuple #[.bool true, .slice none 0 0, .int .i64 0])) ∨ (0 ≤ lenMin len St ∧ ∃ vw, e = .returned (.tuple #[.bool false, vw, .int .i64 0]) ∧ OwnL w.heap.size w' vw (lwS len (rowI false Ed) N mv (lenMin len St).toNat (setI N St) (lenMin len St).toNat).1)) ∧ Below w.heap.size w w') = Q := ⟨_, rfl⟩
  obtain ⟨K, hK⟩ : ∃ K : Nat, K ≤ N ∧ (∀ j, j < K → bothM N (inL St) (ahN Ed (inL Fi) j) = false) ∧ ((K = N ∧ lenMin len St = -1) ∨ (K < N ∧ bothM N (inL St) (ahN Ed (inL Fi) K) = true ∧ lenMin len St = (K : Int))) := by
    rcases lenMin_cases len St with h | ⟨x, hx, h, h'⟩
    · exact ⟨N, Nat.le_refl _, fun j _ => search_no hL.out j (.inl h), .inl ⟨rfl, h⟩⟩
    · obtain ⟨d, hd⟩ := Int.eq_ofNat_of_zero_le (show 0 ≤ lenMin len St by rw [h]; have := hL.out.bf.ge x.toNat; omega)
      have hy := search_yes hL.out hd
      exact ⟨d, by omega, fun j hj => search_no hL.out j (.inr (by rw [hd]; omega)), .inr ⟨hy.2, hy.1, hd⟩⟩
  have HP1 : Hid (∀ (e : Ending) (w' : World), lenMin len St = -1 → e = .returned (.tuple #[.bool true, .slice none 0 0, .int .i64 0]) → Below w.heap.size w w' → Q e w') := hide (fun e w' h1 h2 h3 => by rw [← hQ]; exact ⟨.inl ⟨h1, h2⟩, h3⟩)
  have HP2 : Hid (∀ (d : Nat), lenMin len St = (d : Int) → ∀ (e : Ending) (w' : World) (vw : Value), e = .returned (.tuple #[.bool false, vw, .int .i64 0]) → OwnL w.heap.size w' vw (lwS len (rowI false Ed) N mv d (setI N St) d).1 → Below w.heap.size w w' → Q e w') := hide (fun d hd e w' vw h1 h2 h3 => by rw [← hQ]; exact ⟨.inr ⟨by omega, vw, h1, by rw [hd, Int.toNat_natCast]; exact h2⟩, h3⟩)
  rw [hQ]
  clear hQ
  obtain ⟨n1, e1⟩ : ∃ n, St.length = n := ⟨_, rfl⟩
  obtain ⟨n2, e2⟩ : ∃ n, Fi.length = n := ⟨_, rfl⟩
  obtain ⟨n3, e3⟩ : ∃ n, Ed.length = n := ⟨_, rfl⟩
  rw [e1, e2, e3]
  obtain ⟨W0, hW0⟩ : ∃ W0, w.alloc (.cells #[.int .i64 (N : Int), .int .i64 mv, .slice a1 n1 c1, .slice a2 n2 c2, .slice a3 n3 c3] 25) = W0 := ⟨_, rfl⟩
  have HB : Hid (Below w.heap.size w W0 ∧ W0.heap[w.heap.size]? = some (.cells #[.int .i64 (N : Int), .int .i64 mv, .slice a1 n1 c1, .slice a2 n2 c2, .slice a3 n3 c3] 25 (0, 0))) := hide (by rw [← hW0]; exact ⟨(Below.refl _ _).alloc (Nat.le_refl _) _, World.alloc_heap_new _ _⟩)
  have hA0 := hA.out.on HB.out.1
  have TV := rmay_any W0 (N : Int) mv St Fi Ed a1 a2 a3 c1 c2 c3 (hide ⟨hA0.s, hA0.f, hA0.e⟩) h1 h2 h3
  rw [mayF_is, em, e1, e2, e3] at TV
  have B0 := HB.out.2
  have q0 : W0.cell? ⟨w.heap.size, 0, none⟩ = some (.int .i64 (N : Int)) := cell_of B0 rfl
  have q1 : W0.cell? ⟨w.heap.size, 1, none⟩ = some (.int .i64 mv) := cell_of B0 rfl
  have q2 : W0.cell? ⟨w.heap.size, 2, none⟩ = some (.slice a1 n1 c1) := cell_of B0 rfl
  have q3 : W0.cell? ⟨w.heap.size, 3, none⟩ = some (.slice a2 n2 c2) := cell_of B0 rfl
  have q4 : W0.cell? ⟨w.heap.size, 4, none⟩ = some (.slice a3 n3 c3) := cell_of B0 rfl
  clear B0 hA0
  have HE := hide (And.intro e1 (And.intro e2 e3))
  have HK := hide hK
  have hKN := hK.1
  clear e1 e2 e3 em hK
  go_enter Tryz.func21, Tryz.ntmps21
  go_upto_region 4 with (go_at_call 39; refine TV.mono ?_; rintro e w5 ⟨rfl, d5⟩)
  have H5 : Hid (Below w.heap.size w w5 ∧ w5.heap[w.heap.size]? = some (.cells #[.int .i64 (N : Int), .int .i64 mv, .slice a1 n1 c1, .slice a2 n2 c2, .slice a3 n3 c3] 25 (0, 0))) := hide ⟨HB.out.1.trans (d5.mono HB.out.1.size), blk_on HB.out.2 d5⟩
  clear d5 TV HB hW0
  clear q0 q1 q2 q3 q4
  have TM := mask_any w5 a1 c1 N St ((HG.out w5 H5.out.1).rs) (HG.out w5 H5.out.1).ins (HG.out w5 H5.out.1).ls (by omega)
  rw [HE.out.1] at TM
  have B0 := H5.out.2
  have q0 : w5.cell? ⟨w.heap.size, 0, none⟩ = some (.int .i64 (N : Int)) := cell_of B0 rfl
  have q1 : w5.cell? ⟨w.heap.size, 1, none⟩ = some (.int .i64 mv) := cell_of B0 rfl
  have q2 : w5.cell? ⟨w.heap.size, 2, none⟩ = some (.slice a1 n1 c1) := cell_of B0 rfl
  have q3 : w5.cell? ⟨w.heap.size, 3, none⟩ = some (.slice a2 n2 c2) := cell_of B0 rfl
  have q4 : w5.cell? ⟨w.heap.size, 4, none⟩ = some (.slice a3 n3 c3) := cell_of B0 rfl
  clear B0
  go_upto_region 6 with (go_at_call 40; refine TM.mono ?_; rintro e w6 ⟨gm, rfl, hM6, d6⟩)
  have H6 : Hid (Below w.heap.size w w6 ∧ w6.heap[w.heap.size]? = some (.cells #[.int .i64 (N : Int), .int .i64 mv, .slice a1 n1 c1, .slice a2 n2 c2, .slice a3 n3 c3] 25 (0, 0)) ∧ MaskG w.heap.size w6 gm N (inL St)) := hide ⟨H5.out.1.trans (d6.mono H5.out.1.size), blk_on H5.out.2 d6, hM6.lower H5.out.1.size⟩
  clear d6 hM6 TM H5
  clear q0 q1 q2 q3 q4
  have TM := mask_any w6 a2 c2 N Fi ((HG.out w6 H6.out.1).rf) (HG.out w6 H6.out.1).inf (HG.out w6 H6.out.1).lf (by omega)
  rw [HE.out.2.1] at TM
  have B0 := H6.out.2.1
  have q0 : w6.cell? ⟨w.heap.size, 0, none⟩ = some (.int .i64 (N : Int)) := cell_of B0 rfl
  have q1 : w6.cell? ⟨w.heap.size, 1, none⟩ = some (.int .i64 mv) := cell_of B0 rfl
  have q2 : w6.cell? ⟨w.heap.size, 2, none⟩ = some (.slice a1 n1 c1) := cell_of B0 rfl
  have q3 : w6.cell? ⟨w.heap.size, 3, none⟩ = some (.slice a2 n2 c2) := cell_of B0 rfl
  have q4 : w6.cell? ⟨w.heap.size, 4, none⟩ = some (.slice a3 n3 c3) := cell_of B0 rfl
  clear B0
  go_wp2_with (go_at_call 40; refine TM.mono ?_; rintro e w7 ⟨gf, rfl, hM7, d7⟩)
  have H7 : Hid (Below w.heap.size w w7 ∧ w7.heap[w.heap.size]? = some (.cells #[.int .i64 (N : Int), .int .i64 mv, .slice a1 n1 c1, .slice a2 n2 c2, .slice a3 n3 c3] 25 (0, 0)) ∧ MaskG w.heap.size w7 gm N (inL St) ∧ MaskG w.heap.size w7 gf N (ahN Ed (inL Fi) 0)) := hide ⟨H6.out.1.trans (d7.mono H6.out.1.size), blk_on H6.out.2.1 d7, H6.out.2.2.below d7, hM7.lower H6.out.1.size⟩
  clear d7 hM7 TM H6
  clear q0 q1 q2 q3 q4
  go_loopw [7, 8] (fun nv fv wr => ∃ n g, n ≤ K ∧ nv = .int .i64 (n : Int) ∧ fv = .slice (some ⟨g, 0, none⟩) N N ∧ Hid (MaskG w.heap.size wr g N (ahN Ed (inL Fi) n) ∧ Below w7.heap.size w7 wr)) (fun nv _ _ => K - (intOf nv).toNat)
  case atStart => exact ⟨0, gf, Nat.zero_le _, rfl, rfl, hide ⟨H7.out.2.2.2, Below.refl _ _⟩⟩
  case round =>
    obtain ⟨n, g, hn, rfl, rfl, HY⟩ := hrel
    have HR : Hid (Below w.heap.size w wr ∧ wr.heap[w.heap.size]? = some (.cells #[.int .i64 (N : Int), .int .i64 mv, .slice a1 n1 c1, .slice a2 n2 c2, .slice a3 n3 c3] 25 (0, 0)) ∧ MaskG w.heap.size wr gm N (inL St)) := hide ⟨H7.out.1.trans (HY.out.2.mono H7.out.1.size), blk_on H7.out.2.1 HY.out.2, H7.out.2.2.1.below HY.out.2⟩
    have TB := rboth_any wr gm g N _ _ (inL St) (ahN Ed (inL Fi) n) HR.out.2.2 HY.out.1 (by omega)
    have B0 := HR.out.2.1
    have q0 : wr.cell? ⟨w.heap.size, 0, none⟩ = some (.int .i64 (N : Int)) := cell_of B0 rfl
    have q1 : wr.cell? ⟨w.heap.size, 1, none⟩ = some (.int .i64 mv) := cell_of B0 rfl
    have q2 : wr.cell? ⟨w.heap.size, 2, none⟩ = some (.slice a1 n1 c1) := cell_of B0 rfl
    have q3 : wr.cell? ⟨w.heap.size, 3, none⟩ = some (.slice a2 n2 c2) := cell_of B0 rfl
    have q4 : wr.cell? ⟨w.heap.size, 4, none⟩ = some (.slice a3 n3 c3) := cell_of B0 rfl
    clear B0
    by_cases hlt : n < K
    · have l0 : (n : Int) < (N : Int) := by omega
      rw [HK.out.2.1 n hlt] at TB
      have TA := ahead_any wr N mv a1 a2 a3 n1 n2 c1 c2 c3 Ed g _ (ahN Ed (inL Fi) n) (by omega) ((HG.out wr HR.out.1).re) (by omega) (HG.out wr HR.out.1).prs HY.out.1
      rw [HE.out.2.2] at TA
      go_wp2_with (first | (go_at_call 41; refine TB.mono ?_; rintro e w8 ⟨rfl, hw8⟩; subst hw8) | (go_at_call 42; refine TA.mono ?_; rintro e w9 ⟨g', rfl, hM9, d9⟩))
      have J : Hid (MaskG w.heap.size w9 g' N (ahN Ed (inL Fi) (n + 1)) ∧ Below w7.heap.size w7 w9) := hide ⟨hM9.lower HR.out.1.size, HY.out.2.trans (d9.mono HY.out.2.size)⟩
      clear hM9 d9
      go_roundw
      case rel => exact ⟨n + 1, g', by omega, by go_num, rfl, J⟩
      case measure => simp [intOf]; omega
    · obtain rfl : n = K := by omega
      clear hn hlt
      rcases HK.out.2.2 with ⟨hKe, hmin⟩ | ⟨hKl, hyes, hmin⟩
      · have l0 : ¬ (n : Int) < (N : Int) := by omega
        have l1 : (N : Int) ≤ (n : Int) := by omega
        have HMN := hide hmin
        have HKE := hide hKe
        clear hKe hmin TB
        go_wp2_with fail
        refine bodyPost_ret (results_tmp3 rfl _ _ _) rfl ?_
        exact HP1.out _ _ HMN.out rfl HR.out.1
      · have l0 : (n : Int) < (N : Int) := by omega
        have l1 : ¬ (N : Int) ≤ (n : Int) := by omega
        rw [hyes] at TB
        have HMN := hide hmin
        clear hyes hmin
        go_wp2_with (go_at_call 41; refine TB.mono ?_; rintro e w8 ⟨rfl, hw8⟩; subst hw8)
        obtain ⟨wz, rfl⟩ : ∃ z, z = w8 := ⟨_, rfl⟩
        have l2 : decide (N ≤ n) = false := decide_eq_false (by omega)
        rw [l2]
        clear TB q0 q1 q2 q3 q4 l0 l1 hKl l2
        go_loopw [6, 9] (fun mvv wv wr => ∃ i g y z, i ≤ n ∧ mvv = .slice (some ⟨g, 0, none⟩) N N ∧ wv = .slice y i z ∧ Hid (MaskG w.heap.size wr g N (mS Ed (symI len N mv St Ed n) (inL St) i) ∧ wr.ownsRow wz.heap.size 3 1 (.slice y i z) i ((lwS len (rowI false Ed) N mv n (setI N St) i).1.map (Value.int .i64)) ∧ Below wz.heap.size wz wr)) (fun _ wv _ => n - sliceLen wv)
        case atStart => exact ⟨0, gm, none, 0, Nat.zero_le _, rfl, rfl, hide ⟨HR.out.2.2, World.ownsRow_nil _ _ _ _, Below.refl _ _⟩⟩
        case round =>
          obtain ⟨i, g2, y, z, hi, rfl, rfl, HY2⟩ := hrel
          have HR2 : Hid (Below w.heap.size w wr ∧ wr.heap[w.heap.size]? = some (.cells #[.int .i64 (N : Int), .int .i64 mv, .slice a1 n1 c1, .slice a2 n2 c2, .slice a3 n3 c3] 25 (0, 0))) := hide ⟨HR.out.1.trans (HY2.out.2.2.mono HR.out.1.size), blk_on HR.out.2.1 HY2.out.2.2⟩
          by_cases hlt : i < n
          · have l0 : (i : Int) < (n : Int) := by omega
            obtain ⟨b, hb, hbm, hno, hyes⟩ := greedy hL.out HMN.out i hlt
            have hbL : b ≤ 128 := by have := (may_parts (HG.out w (Below.refl _ _)).may).2.1; omega
            obtain ⟨m1, hm1⟩ : ∃ m, n - i = m := ⟨_, rfl⟩
            obtain ⟨c, hc⟩ : ∃ m, n - (i + 1) = m := ⟨_, rfl⟩
            rw [hc] at hno hyes
            have ew1 : IntKind.i64.wrap ((n : Int) - (i : Int)) = (m1 : Int) := by rw [IntKind.wrap_i64]; omega
            have ew2 : IntKind.i64.wrap ((m1 : Int) - 1) = (c : Int) := by rw [IntKind.wrap_i64]; omega
            have HGr := hide (And.intro hb (And.intro hno hyes))
            have HEW := hide (And.intro (show (n : Int) - (i : Int) = (m1 : Int) by omega) (And.intro (show (m1 : Int) - 1 = (c : Int) by omega) (show c ≤ 100000 by omega)))
            have hm1b : m1 ≤ 4096 := by omega
            have hcb : c ≤ 4096 := by omega
            clear hb hno hyes hm1 hc ew1 ew2
            go_wp2_with fail
            obtain ⟨wo, rfl⟩ : ∃ z, z = wr := ⟨_, rfl⟩
            go_loopw [6, 9, 10] (fun m6 w9 sv ws => ∃ t : Nat, t ≤ b ∧ m6 = .slice (some ⟨g2, 0, none⟩) N N ∧ w9 = .slice y i z ∧ sv = .int .i64 (t : Int) ∧ Hid (Below wo.heap.size wo ws)) (fun _ _ sv _ => b - (intOf sv).toNat)
            case atStart => exact ⟨0, Nat.zero_le _, rfl, rfl, rfl, hide (Below.refl _ _)⟩
            case round =>
              obtain ⟨t, ht, rfl, rfl, rfl, HS⟩ := hrel
              have HD : Hid (Below w.heap.size w wr ∧ wr.heap[w.heap.size]? = some (.cells #[.int .i64 (N : Int), .int .i64 mv, .slice a1 n1 c1, .slice a2 n2 c2, .slice a3 n3 c3] 25 (0, 0)) ∧ MaskG w.heap.size wr g2 N (mS Ed (symI len N mv St Ed n) (inL St) i)) := hide ⟨HR2.out.1.trans (HS.out.mono HR2.out.1.size), blk_on HR2.out.2 HS.out, HY2.out.1.below HS.out⟩
              have TP := rpost_any wr N mv a1 a2 a3 n1 n2 c1 c2 c3 Ed g2 _ (mS Ed (symI len N mv St Ed n) (inL St) i) (t : Int) (by omega) ((HG.out wr HD.out.1).re) (by omega) (HG.out wr HD.out.1).prs HD.out.2.2
              rw [HE.out.2.2] at TP
              have l1 : (t : Int) < mv := by omega
              have B0 := HD.out.2.1
              have q0 : wr.cell? ⟨w.heap.size, 0, none⟩ = some (.int .i64 (N : Int)) := cell_of B0 rfl
              have q1 : wr.cell? ⟨w.heap.size, 1, none⟩ = some (.int .i64 mv) := cell_of B0 rfl
              have q2 : wr.cell? ⟨w.heap.size, 2, none⟩ = some (.slice a1 n1 c1) := cell_of B0 rfl
              have q3 : wr.cell? ⟨w.heap.size, 3, none⟩ = some (.slice a2 n2 c2) := cell_of B0 rfl
              have q4 : wr.cell? ⟨w.heap.size, 4, none⟩ = some (.slice a3 n3 c3) := cell_of B0 rfl
              clear B0
              go_wp2_with fail
              refine TP.mono ?_
              rintro e w9 ⟨g9, rfl, hM9, d9⟩
              have H9 : Hid (Below w.heap.size w w9 ∧ w9.heap[w.heap.size]? = some (.cells #[.int .i64 (N : Int), .int .i64 mv, .slice a1 n1 c1, .slice a2 n2 c2, .slice a3 n3 c3] 25 (0, 0)) ∧ MaskG w.heap.size w9 g9 N (postM Ed (mS Ed (symI len N mv St Ed n) (inL St) i) (t : Int)) ∧ Below wo.heap.size wo w9) := hide ⟨HD.out.1.trans (d9.mono HD.out.1.size), blk_on HD.out.2.1 d9, hM9.lower HD.out.1.size, HS.out.trans (d9.mono HS.out.size)⟩
              clear hM9 d9 TP HD q0 q1 q2 q3 q4
              have TG := longer_any w9 N mv a1 a2 a3 c1 c2 c3 St Fi Ed g9 _ c (postM Ed (mS Ed (symI len N mv St Ed n) (inL St) i) (t : Int)) (HG.out w9 H9.out.1) H9.out.2.2.1 HEW.out.2.2
              rw [HE.out.1, HE.out.2.1, HE.out.2.2] at TG
              have B0 := H9.out.2.1
              have q0 : w9.cell? ⟨w.heap.size, 0, none⟩ = some (.int .i64 (N : Int)) := cell_of B0 rfl
              have q1 : w9.cell? ⟨w.heap.size, 1, none⟩ = some (.int .i64 mv) := cell_of B0 rfl
              have q2 : w9.cell? ⟨w.heap.size, 2, none⟩ = some (.slice a1 n1 c1) := cell_of B0 rfl
              have q3 : w9.cell? ⟨w.heap.size, 3, none⟩ = some (.slice a2 n2 c2) := cell_of B0 rfl
              have q4 : w9.cell? ⟨w.heap.size, 4, none⟩ = some (.slice a3 n3 c3) := cell_of B0 rfl
              clear B0
              have ew1 := HEW.out.1
              have ew2 := HEW.out.2.1
              by_cases htb : t < b
              · rw [HGr.out.2.1 t htb] at TG
                go_wp2_with fail
                refine TG.mono ?_
                rintro e w10 ⟨rfl, d10⟩
                have J : Hid (Below wo.heap.size wo w10) := hide (H9.out.2.2.2.trans (d10.mono H9.out.2.2.2.size))
                clear d10 TG H9 q0 q1 q2 q3 q4 ew1 ew2
                go_wp2_with fail
                go_roundw
                case rel => exact ⟨t + 1, by omega, rfl, rfl, by go_num, J⟩
                case measure => simp [intOf]; omega
              · obtain rfl : t = b := by omega
                rw [HGr.out.2.2] at TG
                go_wp2_with fail
                refine TG.mono ?_
                rintro e w10 ⟨rfl, d10⟩
                have H10 : Hid (MaskG w.heap.size w10 g9 N (mS Ed (symI len N mv St Ed n) (inL St) (i + 1)) ∧ w10.ownsRow wz.heap.size 3 1 (.slice y i z) i ((lwS len (rowI false Ed) N mv n (setI N St) i).1.map (Value.int .i64)) ∧ Below wz.heap.size wz w10) := hide (by
                  have dd := H9.out.2.2.2.trans (d10.mono H9.out.2.2.2.size)
                  refine ⟨?_, own_below HY2.out.2.1 dd, HY2.out.2.2.trans (dd.mono HY2.out.2.2.size)⟩
                  have hm := H9.out.2.2.1.below d10
                  rw [← HGr.out.1] at hm
                  exact hm)
                clear d10 TG H9 q0 q1 q2 q3 q4 ew1 ew2
                have hsz := H10.out.2.2.size
                go_wp2_with ((at_builtin; refine wpList_append_lies _ rfl _ _ _ rfl wz.heap.size 3 i3 _ 1 8 Tryz.underlying22 hi3 hz30 hz31 hz32 rfl (by omega) (.slice y i z) i ((lwS len (rowI false Ed) N mv n (setI N St) i).1.map (Value.int .i64)) rfl (H10.out.2.1.alloc _) ⟨w10.heap.size, 0, none⟩ 1 1 [.int .i64 (t : Int)] rfl rfl (World.news_of_block (cs := #[.int .i64 (t : Int)]) (t := 3) (fr := (0, 0)) (heap_alloc_new w10 _)) (by simp [Value.oneCell']) (by omega) (by unfold maxLen; omega) (by omega) (by simp; omega) (w10.heap.size + 1) (by simp) ?_; intro ga ca w11 ho hg ha hl))
                have J : Hid (MaskG w.heap.size w11 g9 N (mS Ed (symI len N mv St Ed n) (inL St) (i + 1)) ∧ w11.ownsRow wz.heap.size 3 1 (.slice (some ⟨ga, 0, none⟩) (i + 1) ca) (i + 1) ((lwS len (rowI false Ed) N mv n (setI N St) (i + 1)).1.map (Value.int .i64)) ∧ Below wz.heap.size wz w11) := hide (by
                  have o9 : Only w10 w11 (fun k => (Value.slice y i z).ownBlock = some k) := ⟨hg.os, hg.tape, hg.output, by have := hg.size; rw [World.size_alloc] at this; omega, fun k hk hn => (hg.block k (by rw [World.size_alloc]; omega) (fun e => hn e.symm)).trans (Below.heap_alloc _ _ _ hk)⟩
                  have hlt2 := H10.out.2.1.lt
                  refine ⟨⟨H10.out.1.1, H10.out.1.2.only o9 (fun e => ?_)⟩, ?_, H10.out.2.2.trans (o9.toBelow H10.out.2.2.size (fun k hk => (hlt2 k hk).1))⟩
                  · rcases H10.out.2.1.2 with ⟨hv, _⟩ | ⟨g', cap', cur, hv, _, hgc, _⟩
                    · rw [hv] at e; cases e
                    · rw [hv] at e
                      cases e
                      obtain ⟨cs, h1, _⟩ := H10.out.1.2
                      rw [hgc] at h1
                      cases h1
                  · rw [lwS_word, List.range_succ, List.map_append, List.map_append, ← lwS_word]
                    rw [show [i].map (symI len N mv St Ed n) = [(t : Int)] by rw [List.map_singleton, HGr.out.1]]
                    exact ho)
                clear ho hg ha hl H10
                go_wp2_with fail
                go_roundw
                case rel => exact ⟨i + 1, g9, some ⟨ga, 0, none⟩, ca, by omega, rfl, rfl, J⟩
                case measure => simp [sliceLen]; omega
          · have l0 : ¬ (i : Int) < (n : Int) := by omega
            obtain rfl : i = n := by omega
            have hLn := lwS_len len (rowI false Ed) N mv i (setI N St) i
            have J : Hid (OwnL w.heap.size wr (.slice y i z) (lwS len (rowI false Ed) N mv i (setI N St) i).1 ∧ Below w.heap.size w wr) := hide (by
              refine ⟨?_, HR2.out.1⟩
              unfold OwnL
              rw [hLn]
              exact owns_down HY2.out.2.1 HR.out.1.size)
            clear hLn
            go_wp2_with fail
            refine bodyPost_ret (results_tmp3 rfl _ _ _) rfl ?_
            exact HP2.out i HMN.out _ _ _ rfl J.out.1 J.out.2
end Go.Proofs.YtojnlpicgemlaabGreatDoor
namespace Go.Proofs.YtojnlpicgemlaabGreatDoor
open Go.RowKit Go.Maps Go.Shelf
attribute [local go_sem] Oper.semAt_some

/-! ### Empty: both answer the same -/
theorem lng_of {w : World} {N : Nat} {mv : Int} {a1 a2 a3 : Option Addr} {St Fi : List Int} {Ed : List EdT} {len : Nat → Int} (hG : ArgA w N mv a1 a2 a3 St Fi Ed) (hb : Bfs N (fun q => (q : Int) ∈ Fi) (stepE true Ed) [] len) (hl : ∀ q, q < N → len q < N) : Lng N mv St Fi Ed len :=
  ⟨hG.prs, fun e he => ((may_parts hG.may).2.2.2.2.2 e he).2.1, hG.ins, hb, hl, hG.hS true, hG.hE true⟩
end Go.Proofs.YtojnlpicgemlaabGreatDoor
