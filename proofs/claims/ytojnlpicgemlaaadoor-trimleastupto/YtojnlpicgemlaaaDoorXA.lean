import Derived.Test.YtojnlpicgemlaaaDoorWA
import Derived.Test.YtojnlpicgemlaaaDoorTK
import Derived.Test.YtojnlpicgemlaaaDoorVa
namespace Go.Proofs.YtojnlpicgemlaaaDoor
open Go.RowKit Go.Maps

/-! ### What Trim keeps -/
/-- An automaton's useful states. -/
structure TrU (N : Nat) (U : Nat → Bool) (St Fi : List Int) (Ed : List EdT) : Prop where
  us : ∀ q, q < N → (U q = true ↔ useP St Fi Ed q)
  ed : ∀ e ∈ Ed, ∃ p r : Nat, p < N ∧ r < N ∧ e.1 = (p : Int) ∧ e.2.2 = (r : Int)
  st : ∀ x ∈ St, ∃ q : Nat, q < N ∧ x = (q : Int)
  fi : ∀ x ∈ Fi, ∃ q : Nat, q < N ∧ x = (q : Int)
theorem mem_dL {U : Nat → Bool} {L : List Int} {z : Int} : z ∈ dL U (riseL L) ↔ ∃ x ∈ L, U x.toNat = true ∧ uN U x.toNat = z := by
  unfold dL
  rw [List.mem_map]
  refine exists_congr (fun x => ?_)
  rw [List.mem_filter, riseL_iff]
  exact and_assoc
theorem mem_dE {U : Nat → Bool} {L : List EdT} {z : EdT} : z ∈ dE U (riseE L) ↔ ∃ e ∈ L, (U e.1.toNat = true ∧ U e.2.2.toNat = true) ∧ (uN U e.1.toNat, e.2.1, uN U e.2.2.toNat) = z := by
  unfold dE
  rw [List.mem_map]
  refine exists_congr (fun x => ?_)
  rw [List.mem_filter, riseE_iff, Bool.and_eq_true]
  exact and_assoc
theorem uN_inj {U : Nat → Bool} {p q : Nat} (hp : U p = true) (hq : U q = true) (h : uN U p = uN U q) : p = q := by
  rcases Nat.lt_trichotomy p q with k | k | k
  · have := uN_up hp hq k; omega
  · exact k
  · have := uN_up hq hp k; omega
theorem uN_nat {U : Nat → Bool} {q : Nat} (hu : U q = true) : uN U q = ((uN U q).toNat : Int) := by
  have : 0 ≤ uN U q := by unfold uN; rw [if_pos hu]; omega
  omega
theorem TrU.at {N : Nat} {U : Nat → Bool} {St Fi : List Int} {Ed : List EdT} (_h : TrU N U St Fi Ed) {j : Nat} (hj : j < (uL U N).length) : ∃ q, q < N ∧ U q = true ∧ uN U q = (j : Int) := by
  have hm := List.getElem_mem hj
  obtain ⟨h1, h2⟩ := uL_mem.1 hm
  have hs : (uL U N).Pairwise (· < ·) := List.Pairwise.filter _ List.pairwise_lt_range
  refine ⟨_, h1, h2, ?_⟩
  have h3 := uL_idx h1 h2
  rw [idx_at (hs.imp (fun h => by omega)) hj] at h3
  unfold uN
  rw [if_pos h2, ← h3]
/-- A way to a useful state is a way in the useful part. -/
theorem TrU.fwd {N : Nat} {U : Nat → Bool} {St Fi : List Int} {Ed : List EdT} (h : TrU N U St Fi Ed) : ∀ (k q : Nat), q < N → U q = true → Wlk (fun q => (q : Int) ∈ St) (stepE false Ed) k q → Wlk (fun q => (q : Int) ∈ dL U (riseL St)) (stepE false (dE U (riseE Ed))) k (uN U q).toNat
  | 0, q, hq, hu, hw => by
    show ((uN U q).toNat : Int) ∈ _
    rw [← uN_nat hu]
    exact mem_dL.2 ⟨_, hw, by rw [Int.toNat_natCast]; exact hu, by rw [Int.toNat_natCast]⟩
  | k + 1, q, hq, hu, ⟨p, hw, e, he, hend⟩ => by
    obtain ⟨p', r', hp', hr', a1, a2⟩ := h.ed e he
    have b1 : e.1 = (p : Int) := congrArg Prod.fst hend
    have b2 : e.2.2 = (q : Int) := congrArg Prod.snd hend
    have hpN : p < N := by omega
    obtain ⟨_, kb, hb⟩ := (h.us q hq).1 hu
    have hup : U p = true := (h.us p hpN).2 ⟨⟨k, hw⟩, kb + 1, q, hb, e, he, Prod.ext b2 b1⟩
    refine ⟨(uN U p).toNat, TrU.fwd h k p hpN hup hw, (uN U p, e.2.1, uN U q), mem_dE.2 ⟨e, he, ⟨by rw [b1, Int.toNat_natCast]; exact hup, by rw [b2, Int.toNat_natCast]; exact hu⟩, by rw [b1, b2, Int.toNat_natCast, Int.toNat_natCast]⟩, ?_⟩
    exact Prod.ext (uN_nat hup) (uN_nat hu)
theorem TrU.bwd {N : Nat} {U : Nat → Bool} {St Fi : List Int} {Ed : List EdT} (h : TrU N U St Fi Ed) : ∀ (k q : Nat), q < N → U q = true → Wlk (fun q => (q : Int) ∈ Fi) (stepE true Ed) k q → Wlk (fun q => (q : Int) ∈ dL U (riseL Fi)) (stepE true (dE U (riseE Ed))) k (uN U q).toNat
  | 0, q, hq, hu, hw => by
    show ((uN U q).toNat : Int) ∈ _
    rw [← uN_nat hu]
    exact mem_dL.2 ⟨_, hw, by rw [Int.toNat_natCast]; exact hu, by rw [Int.toNat_natCast]⟩
  | k + 1, q, hq, hu, ⟨p, hw, e, he, hend⟩ => by
    obtain ⟨p', r', hp', hr', a1, a2⟩ := h.ed e he
    have b1 : e.2.2 = (p : Int) := congrArg Prod.fst hend
    have b2 : e.1 = (q : Int) := congrArg Prod.snd hend
    have hpN : p < N := by omega
    obtain ⟨⟨kf, hf⟩, _⟩ := (h.us q hq).1 hu
    have hup : U p = true := (h.us p hpN).2 ⟨⟨kf + 1, q, hf, e, he, Prod.ext b2 b1⟩, k, hw⟩
    refine ⟨(uN U p).toNat, TrU.bwd h k p hpN hup hw, (uN U q, e.2.1, uN U p), mem_dE.2 ⟨e, he, ⟨by rw [b2, Int.toNat_natCast]; exact hu, by rw [b1, Int.toNat_natCast]; exact hup⟩, by rw [b1, b2, Int.toNat_natCast, Int.toNat_natCast]⟩, ?_⟩
    exact Prod.ext (uN_nat hup) (uN_nat hu)
/-- All states of the useful part are useful. -/
theorem TrU.all {N : Nat} {U : Nat → Bool} {St Fi : List Int} {Ed : List EdT} (h : TrU N U St Fi Ed) (j : Nat) (hj : j < (uL U N).length) : useP (dL U (riseL St)) (dL U (riseL Fi)) (dE U (riseE Ed)) j := by
  obtain ⟨q, hq, hu, e⟩ := h.at hj
  obtain ⟨⟨k, hk⟩, l, hl⟩ := (h.us q hq).1 hu
  have h1 := h.fwd k q hq hu hk
  have h2 := h.bwd l q hq hu hl
  rw [e, Int.toNat_natCast] at h1 h2
  exact ⟨⟨k, h1⟩, l, h2⟩
theorem wordM_snoc (Ed : List EdT) (M : Nat → Bool) (Wd : List Int) (s : Int) : wordM Ed M (Wd ++ [s]) = postM Ed (wordM Ed M Wd) s := by simp [wordM]
theorem TrU.rch {N : Nat} {U : Nat → Bool} {St Fi : List Int} {Ed : List EdT} (h : TrU N U St Fi Ed) : ∀ (n : Nat) (Wd : List Int), Wd.length = n → ∀ q, wordM Ed (inL St) Wd q = true → q < N ∧ Wlk (fun q => (q : Int) ∈ St) (stepE false Ed) n q := by
  intro n
  induction n with
  | zero =>
    intro Wd hn q hq
    obtain rfl := List.eq_nil_of_length_eq_zero hn
    have hq' : (q : Int) ∈ St := by simpa [wordM, inL] using hq
    obtain ⟨p, hp, e⟩ := h.st _ hq'
    exact ⟨by omega, hq'⟩
  | succ n ih =>
    intro Wd hn q hq
    rcases List.eq_nil_or_concat Wd with rfl | ⟨W, s, rfl⟩
    · simp at hn
    · rw [List.concat_eq_append] at hn hq
      rw [wordM_snoc] at hq
      obtain ⟨e, he, h1, h2, h3⟩ := (postM_iff _ _ _ _).1 hq
      obtain ⟨p, r, hp, hr, a1, a2⟩ := h.ed e he
      rw [a1, Int.toNat_natCast] at h2
      have := ih W (by simpa using hn) p h2
      exact ⟨by omega, p, this.2, e, he, Prod.ext a1 h3⟩
theorem TrU.mask {N : Nat} {U : Nat → Bool} {St Fi : List Int} {Ed : List EdT} (h : TrU N U St Fi Ed) : ∀ (n : Nat) (Wd : List Int), Wd.length = n → ∀ q, q < N → U q = true → (wordM (dE U (riseE Ed)) (inL (dL U (riseL St))) Wd (uN U q).toNat = true ↔ wordM Ed (inL St) Wd q = true) := by
  intro n
  induction n with
  | zero =>
    intro Wd hn q hq hu
    obtain rfl := List.eq_nil_of_length_eq_zero hn
    show inL (dL U (riseL St)) (uN U q).toNat = true ↔ inL St q = true
    unfold inL
    rw [decide_eq_true_eq, decide_eq_true_eq, ← uN_nat hu, mem_dL]
    constructor
    · rintro ⟨x, hx, h1, h2⟩
      obtain ⟨p, hp, rfl⟩ := h.st x hx
      rw [Int.toNat_natCast] at h1 h2
      obtain rfl := uN_inj h1 hu h2
      exact hx
    · intro hx
      exact ⟨_, hx, by rw [Int.toNat_natCast]; exact hu, by rw [Int.toNat_natCast]⟩
  | succ n ih =>
    intro Wd hn q hq hu
    rcases List.eq_nil_or_concat Wd with rfl | ⟨W, s, rfl⟩
    · simp at hn
    · rw [List.concat_eq_append] at hn ⊢
      have hW : W.length = n := by simpa using hn
      rw [wordM_snoc, wordM_snoc, postM_iff, postM_iff]
      constructor
      · rintro ⟨z, hz, h1, h2, h3⟩
        obtain ⟨e, he, ⟨u1, u2⟩, rfl⟩ := mem_dE.1 hz
        obtain ⟨p, r, hp, hr, a1, a2⟩ := h.ed e he
        rw [a1, Int.toNat_natCast] at u1
        rw [a2, Int.toNat_natCast] at u2
        simp only [a1, a2, Int.toNat_natCast] at h1 h2 h3
        have h4 : r = q := uN_inj u2 hu (by rw [h3, ← uN_nat hu])
        exact ⟨e, he, h1, by rw [a1, Int.toNat_natCast]; exact (ih W hW p hp u1).1 h2, by rw [a2, h4]⟩
      · rintro ⟨e, he, h1, h2, h3⟩
        obtain ⟨p, r, hp, hr, a1, a2⟩ := h.ed e he
        rw [a1, Int.toNat_natCast] at h2
        obtain ⟨_, kb, hb⟩ := (h.us q hq).1 hu
        have hup : U p = true := (h.us p hp).2 ⟨⟨n, (h.rch n W hW p h2).2⟩, kb + 1, q, hb, e, he, Prod.ext h3 a1⟩
        refine ⟨(uN U p, e.2.1, uN U q), mem_dE.2 ⟨e, he, ⟨by rw [a1, Int.toNat_natCast]; exact hup, by rw [h3, Int.toNat_natCast]; exact hu⟩, by rw [a1, h3, Int.toNat_natCast, Int.toNat_natCast]⟩, h1, (ih W hW p hp hup).2 h2, uN_nat hu⟩
/-- Trim keeps the words. -/
theorem TrU.keeps {N : Nat} {U : Nat → Bool} {St Fi : List Int} {Ed : List EdT} (h : TrU N U St Fi Ed) (Wd : List Int) : bothM (uL U N).length (wordM (dE U (riseE Ed)) (inL (dL U (riseL St))) Wd) (inL (dL U (riseL Fi))) = bothM N (wordM Ed (inL St) Wd) (inL Fi) := by
  rw [Bool.eq_iff_iff, bothM_iff, bothM_iff]
  constructor
  · rintro ⟨j, hj, h1, h2⟩
    obtain ⟨q, hq, hu, e⟩ := h.at hj
    have ej : (uN U q).toNat = j := by omega
    rw [← ej] at h1
    refine ⟨q, hq, (h.mask _ Wd rfl q hq hu).1 h1, ?_⟩
    unfold inL at h2 ⊢
    rw [decide_eq_true_eq] at h2 ⊢
    obtain ⟨x, hx, u1, e1⟩ := mem_dL.1 h2
    obtain ⟨p, hp, rfl⟩ := h.fi x hx
    rw [Int.toNat_natCast] at u1 e1
    obtain rfl := uN_inj u1 hu (by omega)
    exact hx
  · rintro ⟨q, hq, h1, h2⟩
    unfold inL at h2
    rw [decide_eq_true_eq] at h2
    have hu : U q = true := (h.us q hq).2 ⟨⟨_, (h.rch _ Wd rfl q h1).2⟩, 0, h2⟩
    have hl := uN_lt hu hq
    refine ⟨(uN U q).toNat, by omega, (h.mask _ Wd rfl q hq hu).2 h1, ?_⟩
    unfold inL
    rw [decide_eq_true_eq, ← uN_nat hu]
    exact mem_dL.2 ⟨_, h2, by rw [Int.toNat_natCast]; exact hu, by rw [Int.toNat_natCast]⟩
end Go.Proofs.YtojnlpicgemlaaaDoor
namespace Go.Proofs.YtojnlpicgemlaaaDoor
open Go.RowKit Go.Maps Go.Shelf
attribute [local go_sem] Oper.semAt_some

/-! ### Words: a list of words, whichever -/
theorem info22 : (Tryd.prog.info? 22).map (fun i => (i.zero, i.size, i.bytes)) = some (some (.slice none 0 0), 1, 24) := by kernel_rfl
/-- A word that can be read. -/
def WdV (W : World) (n : Nat) (x : Value) : Prop := ∃ a c, ∃ L : List Int, x = .slice a L.length c ∧ RdN W a L ∧ (∀ g o, a = some ⟨g, o, none⟩ → ∃ cs fr, W.heap[g]? = some (.cells cs 3 fr)) ∧ L.length < n
/-- A list of n words in memory of its own. -/
def WlA (B : Nat) (W : World) (v : Value) (n : Nat) : Prop := ∃ vals : List Value, vals.length = n ∧ W.ownsRow B 22 1 v n vals ∧ ∀ x ∈ vals, WdV W n x
theorem WdV.on {W W' : World} {n m : Nat} {x : Value} {R : Nat → Prop} (h : WdV W n x) (o : Only W W' R) (hR : ∀ g cs fr, W.heap[g]? = some (.cells cs 3 fr) → ¬ R g) (hm : n ≤ m) : WdV W' m x := by
  obtain ⟨a, c, L, e, hr, ht, hl⟩ := h
  have hk : ∀ g o', a = some ⟨g, o', none⟩ → W'.heap[g]? = W.heap[g]? := fun g o' e' => by
    obtain ⟨cs, fr, e2⟩ := ht g o' e'
    exact o.block g (Array.getElem?_eq_some_iff.1 e2).1 (hR g cs fr e2)
  refine ⟨a, c, L, e, fun j hj => ?_, fun g o' e' => ?_, by omega⟩
  · obtain ⟨g, o', e', hc⟩ := hr j hj
    exact ⟨g, o', e', (cell_same (hk g o' e') _).trans hc⟩
  · obtain ⟨cs, fr, e2⟩ := ht g o' e'
    exact ⟨cs, fr, (hk g o' e').trans e2⟩
theorem WlA.on {B : Nat} {W W' : World} {v : Value} {n : Nat} (h : WlA B W v n) (d : Below W.heap.size W W') : WlA B W' v n := by
  obtain ⟨vals, h1, h2, h3⟩ := h
  exact ⟨vals, h1, own_below h2 d, fun x hx => (h3 x hx).on (Only.ofBelow (R := fun _ => False) d) (fun _ _ _ _ => id) (Nat.le_refl _)⟩
theorem wl_next {w wr w15 w16 : World} {gy k z q1 : Nat} {vals : List Value} {L : List Int} {s : Int} {y5 : Option Addr} {z5 : Nat} {v16 : Value} (d0 : Below w.heap.size w wr) (hV : vals.length = k ∧ wr.ownsRow w.heap.size 22 1 (.slice (some ⟨gy, 0, none⟩) k z) k vals ∧ ∀ x ∈ vals, WdV wr k x) (h15 : w15.ownsRow wr.heap.size 3 1 (.slice y5 q1 z5) q1 ((L ++ [s]).map (Value.int .i64)) ∧ Below wr.heap.size wr w15) (O15 : w15.ownsRow w.heap.size 22 1 (.slice (some ⟨gy, 0, none⟩) k z) k vals) (hq : (L ++ [s]).length = q1) (hk : q1 < k + 1) (ho6 : w16.ownsRow w.heap.size 22 1 v16 (k + 1) (vals ++ [.slice y5 q1 z5])) (hg6 : (w15.alloc (.cells #[.slice y5 q1 z5] 22)).grownBy w16 (Value.slice (some ⟨gy, 0, none⟩) k z).ownBlock) : WlA w.heap.size w16 v16 (k + 1) ∧ Below w.heap.size w w16 := by
  subst hq
  have o9 : Only w15 w16 (fun x => (Value.slice (some ⟨gy, 0, none⟩) k z).ownBlock = some x) := ⟨hg6.os, hg6.tape, hg6.output, by have := hg6.size; rw [World.size_alloc] at this; omega, fun x hx hn => (hg6.block x (by rw [World.size_alloc]; omega) (fun e => hn e.symm)).trans (Below.heap_alloc _ _ _ hx)⟩
  have hR : ∀ g cs fr, w15.heap[g]? = some (.cells cs 3 fr) → ¬ (Value.slice (some ⟨gy, 0, none⟩) k z).ownBlock = some g := fun g cs fr hg hx => by
    rcases O15.2 with ⟨hv, _⟩ | ⟨g', cap', cur', hv, _, hgc, _⟩
    · cases hv
    · cases hv
      cases hx
      rw [hgc] at hg
      cases hg
  have d15 := d0.trans (h15.2.mono d0.size)
  refine ⟨⟨vals ++ [.slice y5 (L ++ [s]).length z5], by rw [List.length_append, hV.1]; rfl, ho6, fun x hx => ?_⟩, d15.trans (o9.toBelow d15.size (fun x hx => (O15.lt x hx).1))⟩
  rcases List.mem_append.1 hx with hx | hx
  · exact ((hV.2.2 x hx).on (Only.ofBelow (R := fun _ => False) h15.2) (fun _ _ _ _ => id) (Nat.le_refl _)).on o9 hR (by omega)
  · rw [List.mem_singleton] at hx
    subst hx
    obtain ⟨a', c', e', r'⟩ := la_own (L := L ++ [s]) h15.1
    cases e'
    have hw : WdV w15 (k + 1) (.slice y5 (L ++ [s]).length z5) := ⟨y5, z5, L ++ [s], rfl, r', fun g o e => by
      subst e
      rcases h15.1.2 with ⟨hv, _⟩ | ⟨g', cap', cur', hv, _, hgc, _⟩
      · cases hv
      · cases hv
        exact ⟨_, _, hgc⟩, hk⟩
    exact hw.on o9 hR (Nat.le_refl _)
theorem rdN_news {W : World} {ad : Addr} {L : List Int} (h : RdN W (some ad) L) : ∀ (j : Nat) (u : Value), (L.map (Value.int .i64))[j]? = some u → W.cell? (ad.add j) = some u := fun j u hu => by
  rw [List.getElem?_map] at hu
  cases hj : L[j]? with
  | none => rw [hj] at hu; cases hu
  | some x =>
    rw [hj] at hu
    obtain rfl : Value.int .i64 x = u := by simpa using hu
    obtain ⟨hlt, e⟩ := List.getElem?_eq_some_iff.1 hj
    obtain ⟨g, o, ea, hc⟩ := h j hlt
    cases ea
    rw [Addr.add_lit, hc, e]
/-- What Words answers. -/
def WdsP (w w' : World) (e : Ending) : Prop := ∃ v n, e = .returned v ∧ WlA w.heap.size w' v n ∧ n ≤ 60 ∧ Below w.heap.size w w'
set_option maxRecDepth 100000 in
set_option maxHeartbeats 4000000 in
theorem words_any (w : World) (m : Int) :
    Calls Tryd.prog 13 #[.int .i64 m, .int .i64 4, .int .i64 60] w fun e w' => WdsP w w' e := by
  obtain ⟨i3, hi3, hz30, hz31, hz32⟩ := info_parts info3
  obtain ⟨i2, hi2, hz20, hz21, hz22⟩ := info_parts info22
  go_enter Tryd.func13, Tryd.ntmps13
  go_wp2_with fail
  have H0 : Hid (WlA w.heap.size (w.alloc (.cells #[.slice none 0 0] 22)) (.slice (some ⟨w.heap.size, 0, none⟩) 1 1) 1 ∧ Below w.heap.size w (w.alloc (.cells #[.slice none 0 0] 22))) := hide (by
    refine ⟨⟨[.slice none 0 0], rfl, ⟨rfl, .inr ⟨_, 1, _, rfl, Nat.le_refl _, World.alloc_heap_new _ _, by omega, by decide, rfl, rfl⟩⟩, fun x hx => ?_⟩, (Below.refl _ _).alloc (Nat.le_refl _) _⟩
    rw [List.mem_singleton] at hx
    subst hx
    exact ⟨none, 0, [], rfl, fun j hj => absurd hj (Nat.not_lt_zero j), fun g o e => (by cases e), by simp⟩)
  go_loopw [7, 8, 9] (fun ov fv nv wr => ∃ (c f n : Nat) (y : Option Addr) (z : Nat), ov = .slice y c z ∧ fv = .int .i64 (f : Int) ∧ nv = .int .i64 (n : Int) ∧ n ≤ 4 ∧ f ≤ c ∧ c ≤ 60 ∧ Hid (WlA w.heap.size wr (.slice y c z) c ∧ Below w.heap.size w wr)) (fun _ _ nv _ => 4 - (intOf nv).toNat)
  case atStart => exact ⟨1, 0, 0, _, _, rfl, rfl, rfl, by omega, by omega, by omega, H0⟩
  case round =>
    obtain ⟨c, f, n, y, z, rfl, rfl, rfl, hn, hf, hc, HY⟩ := hrel
    clear H0
    by_cases hlt : n < 4
    · have l0 : (n : Int) < 4 := by omega
      go_wp2_with fail
      obtain ⟨wo, rfl⟩ : ∃ z, z = wr := ⟨_, rfl⟩
      go_loopw [7, 11] (fun ov iv wr => ∃ (k i : Nat) (y : Option Addr) (z : Nat), ov = .slice y k z ∧ iv = .int .i64 (i : Int) ∧ i ≤ c ∧ c ≤ k ∧ k ≤ 60 ∧ Hid (WlA w.heap.size wr (.slice y k z) k ∧ Below w.heap.size w wr)) (fun _ iv _ => c - (intOf iv).toNat)
      case atStart => exact ⟨c, f, y, z, rfl, rfl, by omega, by omega, by omega, HY⟩
      case round =>
        obtain ⟨k, i, y, z, rfl, rfl, hi, hck, hk, HY2⟩ := hrel
        by_cases hlt2 : i < c
        · have l1 : (i : Int) < (c : Int) := by omega
          go_wp2_with fail
          obtain ⟨wp, rfl⟩ : ∃ z, z = wr := ⟨_, rfl⟩
          go_loopw [7, 12] (fun ov sv wr => ∃ (k s : Nat) (y : Option Addr) (z : Nat), ov = .slice y k z ∧ sv = .int .i64 (s : Int) ∧ s ≤ 60 ∧ c ≤ k ∧ k ≤ 60 ∧ s ≤ k ∧ Hid (WlA w.heap.size wr (.slice y k z) k ∧ Below w.heap.size w wr)) (fun ov _ _ => 60 - sliceLen ov)
          case atStart => exact ⟨k, 0, y, z, rfl, rfl, by omega, by omega, by omega, by omega, HY2⟩
          case round =>
            obtain ⟨k, s, y, z, rfl, rfl, hs, hck, hk, hsk, HY3⟩ := hrel
            by_cases hb : (s : Int) < m ∧ k < 60
            · obtain ⟨b1, b2⟩ := hb
              have b3 : (k : Int) < 60 := by omega
              obtain ⟨vals, hv1, hv2, hv3⟩ := HY3.out.1
              have HVL : Hid (vals.length = k ∧ wr.ownsRow w.heap.size 22 1 (.slice y k z) k vals ∧ ∀ x ∈ vals, WdV wr k x) := hide ⟨hv1, hv2, hv3⟩
              rcases hv2.2 with ⟨hv, h0⟩ | ⟨gy, cap, cur, hv, hB, hb2, hn2, hcap, hsz, hxs⟩
              · omega
              · cases hv
                have hil : i < vals.length := by omega
                obtain ⟨a, ca, L, ex, hr, ht, hl⟩ := hv3 _ (List.getElem_mem hil)
                have i0 : (0 : Int) ≤ (i : Int) := by omega
                have i1 : (i : Int) < (k : Int) := by omega
                have cx : wr.cell? ⟨gy, i, none⟩ = some (.slice a L.length ca) := by
                  refine cell_of hb2 ?_
                  have h1 : (cur.toList.take (k * 1))[i]? = some (.slice a L.length ca) := by rw [hxs, List.getElem?_eq_getElem hil, ex]
                  rw [List.getElem?_take_of_lt (by omega)] at h1
                  simpa using h1
                have HRd := hide hr
                obtain ⟨q, hq⟩ : ∃ q, L.length = q := ⟨_, rfl⟩
                rw [hq] at cx hl
                have HQ := hide hq
                clear hq
                clear hv1 hv2 hv3 hB hb2 hn2 hcap hsz hxs ex hr ht hil
                cases a with
                | none =>
                  have hq0 : q = 0 := by
                    rw [← HQ.out]
                    cases L with
                    | nil => rfl
                    | cons x l => obtain ⟨g, o, e, _⟩ := HRd.out 0 (by simp); cases e
                  subst hq0
                  have hL : L = [] := List.eq_nil_of_length_eq_zero HQ.out
                  have HV0 : Hid (wr.ownsRow wr.heap.size 3 1 (.slice none 0 0) 0 (L.map (Value.int .i64)) ∧ Below wr.heap.size wr wr) := hide ⟨by rw [hL]; exact World.ownsRow_nil _ _ _ _, Below.refl _ _⟩
                  clear hL
                  have sB := HV0.out.2.size
                  have sW := HY3.out.2.size
                  go_wp2_with (at_builtin; first
                    | (refine wpList_append_own_at _ rfl _ _ 22 rfl wr.heap.size 3 i3 _ 1 8 Tryd.underlying22 hi3 hz30 hz31 hz32 rfl (by omega) (.slice none 0 0) 0 (L.map (Value.int .i64)) rfl (HV0.out.1.alloc _) ⟨wr.heap.size, 0, none⟩ 1 1 [.int .i64 (s : Int)] rfl rfl (World.news_of_block (cs := #[.int .i64 (s : Int)]) (t := 3) (fr := (0, 0)) (heap_alloc_new wr _)) (by simp [Value.oneCell']) (by unfold maxLen; omega) (by omega) (by rw [World.size_alloc]; omega) ?_; intro v15 w15 ho5 hg5 hn5 hl5; have H15 : Hid (w15.ownsRow wr.heap.size 3 1 v15 1 ((L ++ [(s : Int)]).map (Value.int .i64)) ∧ Below wr.heap.size wr w15) := hide ⟨by rw [List.map_append]; exact ho5, HV0.out.2.grown ((World.grownBy_alloc _ _ _).trans hg5) (by omega) (fun x hx => (HV0.out.1.lt x hx).1)⟩; obtain ⟨y5, z5, e5⟩ := own_slice H15.out.1; subst e5; clear ho5 hg5 hn5 hl5; have O15 : Hid (w15.ownsRow w.heap.size 22 1 (.slice (some ⟨gy, 0, none⟩) k z) k vals) := hide (own_below HVL.out.2.1 H15.out.2); have s15 := H15.out.2.size)
                    | (refine wpList_append_own_at _ rfl _ _ 41 rfl w.heap.size 22 i2 _ 1 24 Tryd.underlying41 hi2 hz20 hz21 hz22 rfl (by omega) (.slice (some ⟨gy, 0, none⟩) k z) k vals rfl (O15.out.alloc _) ⟨w15.heap.size, 0, none⟩ 1 1 [.slice y5 1 z5] rfl rfl (World.news_of_block (cs := #[.slice y5 1 z5]) (t := 22) (fr := (0, 0)) (heap_alloc_new w15 _)) (by simp [Value.oneCell']) (by unfold maxLen; omega) (by omega) (by rw [World.size_alloc]; omega) ?_; intro v16 w16 ho6 hg6 hn6 hl6))
                  have J : Hid (WlA w.heap.size w16 v16 (k + 1) ∧ Below w.heap.size w w16) := hide (wl_next HY3.out.2 HVL.out H15.out O15.out (by rw [List.length_append, HQ.out]; rfl) (by omega) ho6 hg6)
                  obtain ⟨y6, z6, e6⟩ : ∃ b c, v16 = .slice b (k + 1) c := by
                    obtain ⟨vv, h1, h2, h3⟩ := J.out.1
                    exact own_slice h2
                  subst e6
                  clear ho6 hg6 hn6 hl6 H15 O15 HV0
                  go_wp2_with fail
                  go_roundw
                  case rel => exact ⟨k + 1, s + 1, y6, z6, rfl, by go_num, by omega, by omega, by omega, by omega, J⟩
                  case measure => simp [sliceLen]; omega
                | some ad =>
                  go_upto_region 15 with (at_builtin; refine wpList_append_own_at _ rfl _ _ 22 rfl wr.heap.size 3 i3 _ 1 8 Tryd.underlying22 hi3 hz30 hz31 hz32 rfl (by omega) (.slice none 0 0) 0 [] rfl (World.ownsRow_nil _ _ _ _) ad q ca (L.map (Value.int .i64)) rfl (by rw [List.length_map, HQ.out, Nat.mul_one]) (rdN_news HRd.out) (by simp [Value.oneCell']) (by unfold maxLen; omega) (by omega) (Nat.le_refl _) ?_; intro v13 w13 ho3 hg3 hn3 hl3)
                  have HV0 : Hid (w13.ownsRow wr.heap.size 3 1 v13 q (L.map (Value.int .i64)) ∧ Below wr.heap.size wr w13) := hide ⟨by simpa using ho3, (Below.refl _ _).grown hg3 (Nat.le_refl _) (fun x hx => by cases hx)⟩
                  obtain ⟨y3, z3, e3⟩ := own_slice HV0.out.1
                  subst e3
                  clear ho3 hg3 hn3 hl3
                  have sB := HV0.out.2.size
                  have sW := HY3.out.2.size
                  go_wp2_with (at_builtin; first
                    | (refine wpList_append_own_at _ rfl _ _ 22 rfl wr.heap.size 3 i3 _ 1 8 Tryd.underlying22 hi3 hz30 hz31 hz32 rfl (by omega) (.slice y3 q z3) q (L.map (Value.int .i64)) rfl (HV0.out.1.alloc _) ⟨w13.heap.size, 0, none⟩ 1 1 [.int .i64 (s : Int)] rfl rfl (World.news_of_block (cs := #[.int .i64 (s : Int)]) (t := 3) (fr := (0, 0)) (heap_alloc_new w13 _)) (by simp [Value.oneCell']) (by unfold maxLen; omega) (by omega) (by rw [World.size_alloc]; omega) ?_; intro v15 w15 ho5 hg5 hn5 hl5; have H15 : Hid (w15.ownsRow wr.heap.size 3 1 v15 (q + 1) ((L ++ [(s : Int)]).map (Value.int .i64)) ∧ Below wr.heap.size wr w15) := hide ⟨by rw [List.map_append]; exact ho5, HV0.out.2.grown ((World.grownBy_alloc _ _ _).trans hg5) (by omega) (fun x hx => (HV0.out.1.lt x hx).1)⟩; obtain ⟨y5, z5, e5⟩ := own_slice H15.out.1; subst e5; clear ho5 hg5 hn5 hl5; have O15 : Hid (w15.ownsRow w.heap.size 22 1 (.slice (some ⟨gy, 0, none⟩) k z) k vals) := hide (own_below HVL.out.2.1 H15.out.2); have s15 := H15.out.2.size)
                    | (refine wpList_append_own_at _ rfl _ _ 41 rfl w.heap.size 22 i2 _ 1 24 Tryd.underlying41 hi2 hz20 hz21 hz22 rfl (by omega) (.slice (some ⟨gy, 0, none⟩) k z) k vals rfl (O15.out.alloc _) ⟨w15.heap.size, 0, none⟩ 1 1 [.slice y5 (q + 1) z5] rfl rfl (World.news_of_block (cs := #[.slice y5 (q + 1) z5]) (t := 22) (fr := (0, 0)) (heap_alloc_new w15 _)) (by simp [Value.oneCell']) (by unfold maxLen; omega) (by omega) (by rw [World.size_alloc]; omega) ?_; intro v16 w16 ho6 hg6 hn6 hl6))
                  have J : Hid (WlA w.heap.size w16 v16 (k + 1) ∧ Below w.heap.size w w16) := hide (wl_next HY3.out.2 HVL.out H15.out O15.out (by rw [List.length_append, HQ.out]; rfl) (by omega) ho6 hg6)
                  obtain ⟨y6, z6, e6⟩ : ∃ b c, v16 = .slice b (k + 1) c := by
                    obtain ⟨vv, h1, h2, h3⟩ := J.out.1
                    exact own_slice h2
                  subst e6
                  clear ho6 hg6 hn6 hl6 H15 O15 HV0
                  go_wp2_with fail
                  go_roundw
                  case rel => exact ⟨k + 1, s + 1, y6, z6, rfl, by go_num, by omega, by omega, by omega, by omega, J⟩
                  case measure => simp [sliceLen]; omega
            · have hb' : ¬ (s : Int) < m ∨ ¬ (k : Int) < 60 := by
                by_cases h : (s : Int) < m
                · exact .inr (fun h2 => hb ⟨h, by omega⟩)
                · exact .inl h
              by_cases b1 : (s : Int) < m
              · have b2 : ¬ (k : Int) < 60 := hb'.resolve_left (fun h => h b1)
                clear hb hb'
                go_wp2_with fail
                go_roundw
                case rel => exact ⟨k, i + 1, y, z, rfl, by go_num, by omega, by omega, by omega, HY3⟩
                case measure => simp [intOf]; omega
              · clear hb hb'
                go_wp2_with fail
                go_roundw
                case rel => exact ⟨k, i + 1, y, z, rfl, by go_num, by omega, by omega, by omega, HY3⟩
                case measure => simp [intOf]; omega
        · have l1 : ¬ (i : Int) < (c : Int) := by omega
          go_wp2_with fail
          go_roundw
          case rel => exact ⟨k, c, n + 1, y, z, rfl, rfl, by go_num, by omega, by omega, by omega, HY2⟩
          case measure => simp [intOf]; omega
    · have l0 : ¬ (n : Int) < 4 := by omega
      go_wp2_with fail
      go_ret
      exact ⟨_, c, rfl, HY.out.1, hc, HY.out.2⟩
end Go.Proofs.YtojnlpicgemlaaaDoor
