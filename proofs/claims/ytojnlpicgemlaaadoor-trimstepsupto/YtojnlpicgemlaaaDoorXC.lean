import Derived.Test.YtojnlpicgemlaaaDoorWA
import Derived.Test.YtojnlpicgemlaaaDoorXA
import Derived.Test.YtojnlpicgemlaaaDoorTx
namespace Go.Proofs.YtojnlpicgemlaaaDoor
open Go.RowKit Go.Maps Go.Shelf
attribute [local go_sem] Oper.semAt_some

/-! ### trims -/
/-- An automaton, a list and an error, answered. -/
def AnsT (w' : World) (K m' : Int) (S F : List Int) (E : List EdT) (L : List Int) (er : Int) (e : Ending) : Prop := ∃ a1 a2 a3 ao c1 c2 c3 co, e = .returned (.tuple #[.agg #[.int .i64 K, .int .i64 m', .slice a1 S.length c1, .slice a2 F.length c2, .slice a3 E.length c3], .slice ao L.length co, .int .i64 er]) ∧ RdA w' a1 a2 a3 S F E ∧ RdN w' ao L
end Go.Proofs.YtojnlpicgemlaaaDoor
namespace Go.Proofs.YtojnlpicgemlaaaDoor
open Go.RowKit Go.Maps

/-! ### Trim of what Trim answered -/
theorem rise_riseL (L : List Int) : riseL (riseL L) = riseL L := up_eqI _ _ (riseL_ss _) (riseL_ss _) (fun x => by rw [riseL_iff])
theorem rise_riseE (L : List EdT) : riseE (riseE L) = riseE L := ss_eq _ _ (riseE_ss _) (riseE_ss _) (fun x => by rw [riseE_iff])
theorem TrU.rs {N : Nat} {U : Nat → Bool} {St Fi : List Int} {Ed : List EdT} (h : TrU N U St Fi Ed) : riseL (dL U (riseL St)) = dL U (riseL St) := by
  rw [rise_dL (N := N) (fun x hx => h.st x ((riseL_iff St x).1 hx)), rise_riseL]
theorem TrU.rf {N : Nat} {U : Nat → Bool} {St Fi : List Int} {Ed : List EdT} (h : TrU N U St Fi Ed) : riseL (dL U (riseL Fi)) = dL U (riseL Fi) := by
  rw [rise_dL (N := N) (fun x hx => h.fi x ((riseL_iff Fi x).1 hx)), rise_riseL]
theorem TrU.re {N : Nat} {U : Nat → Bool} {St Fi : List Int} {Ed : List EdT} (h : TrU N U St Fi Ed) : riseE (dE U (riseE Ed)) = dE U (riseE Ed) := by
  rw [rise_dE (N := N) (fun x hx => h.ed x ((riseE_iff Ed x).1 hx)), rise_riseE]
theorem filt_all {α : Type} (L : List α) : L.filter (fun _ => true) = L := List.filter_eq_self.2 (fun _ _ => rfl)
/-- The states of the useful part are its states. -/
theorem TrU.ins {N : Nat} {U : Nat → Bool} {St Fi : List Int} {Ed : List EdT} (_h : TrU N U St Fi Ed) {L : List Int} (hL : ∀ x ∈ L, ∃ q : Nat, q < N ∧ x = (q : Int)) : ∀ x ∈ dL U (riseL L), ∃ q : Nat, q < (uL U N).length ∧ x = (q : Int) := by
  intro x hx
  obtain ⟨y, hy, u, rfl⟩ := mem_dL.1 hx
  obtain ⟨q, hq, rfl⟩ := hL y hy
  rw [Int.toNat_natCast] at u ⊢
  have := uN_lt u hq
  exact ⟨(uN U q).toNat, by omega, by omega⟩
theorem TrU.prs {N : Nat} {U : Nat → Bool} {St Fi : List Int} {Ed : List EdT} (h : TrU N U St Fi Ed) : ∀ e ∈ dE U (riseE Ed), ∃ p r : Nat, p < (uL U N).length ∧ r < (uL U N).length ∧ e.1 = (p : Int) ∧ e.2.2 = (r : Int) := by
  intro e he
  obtain ⟨y, hy, ⟨u1, u2⟩, rfl⟩ := mem_dE.1 he
  obtain ⟨p, r, hp, hr, a1, a2⟩ := h.ed y hy
  simp only [a1, a2, Int.toNat_natCast] at u1 u2 ⊢
  have b1 := uN_lt u1 hp
  have b2 := uN_lt u2 hr
  exact ⟨(uN U p).toNat, (uN U r).toNat, by omega, by omega, by omega, by omega⟩
theorem uN_all (q : Nat) : uN (fun _ => true) q = (q : Int) := by
  unfold uN uL
  rw [if_pos rfl, filt_all, List.length_range]
theorem uL_all (K : Nat) : uL (fun _ => true) K = List.range K := by
  exact filt_all _
theorem dL_all {K : Nat} {L : List Int} (hL : ∀ x ∈ L, ∃ q : Nat, q < K ∧ x = (q : Int)) : dL (fun _ => true) L = L := by
  show ((L.filter fun _ => true).map fun x => uN (fun _ => true) x.toNat) = L
  rw [filt_all]
  refine (List.map_congr_left (g := id) (fun x hx => ?_)).trans (List.map_id L)
  obtain ⟨q, _, rfl⟩ := hL x hx
  rw [Int.toNat_natCast, uN_all]
  rfl
theorem dE_all {K : Nat} {L : List EdT} (hL : ∀ e ∈ L, ∃ p r : Nat, p < K ∧ r < K ∧ e.1 = (p : Int) ∧ e.2.2 = (r : Int)) : dE (fun _ => true) L = L := by
  unfold dE
  simp only [Bool.and_self]
  rw [filt_all]
  refine (List.map_congr_left (g := id) (fun e he => ?_)).trans (List.map_id L)
  obtain ⟨p, r, _, _, a1, a2⟩ := hL e he
  rw [a1, a2, Int.toNat_natCast, Int.toNat_natCast, uN_all, uN_all, ← a1, ← a2]
  rfl
/-- Trim of the useful part is the useful part. -/
theorem TrU.again {N : Nat} {U : Nat → Bool} {St Fi : List Int} {Ed : List EdT} (h : TrU N U St Fi Ed) {K : Nat} {S F : List Int} {E : List EdT} (hK : K = (uL U N).length) (hS : S = dL U (riseL St)) (hF : F = dL U (riseL Fi)) (hE : E = dE U (riseE Ed)) :
    elems K (useX K S F E) = List.range K ∧ renL (useX K S F E) (numT (elems K (useX K S F E))) (riseL S) = S ∧ renL (useX K S F E) (numT (elems K (useX K S F E))) (riseL F) = F ∧ renE (useX K S F E) (numT (elems K (useX K S F E))) (riseE E) = E := by
  subst hK hS hF hE
  have hU : ∀ q, q < (uL U N).length → ((fun _ : Nat => true) q = true ↔ useP (dL U (riseL St)) (dL U (riseL Fi)) (dE U (riseE Ed)) q) := fun q hq => ⟨fun _ => h.all q hq, fun _ => rfl⟩
  rw [h.rs, h.rf, h.re, use_uL hU, ren_dL hU (h.ins h.st), ren_dL hU (h.ins h.fi), ren_dE hU h.prs, dL_all (h.ins h.st), dL_all (h.ins h.fi), dE_all h.prs, uL_all]
  exact ⟨rfl, rfl, rfl, rfl⟩
/-- The useful part may be an automaton. -/
theorem TrU.may {N : Nat} {U : Nat → Bool} {St Fi : List Int} {Ed : List EdT} (h : TrU N U St Fi Ed) {mv : Int} (hm : mayA (N : Int) mv St Fi Ed = true) : mayA ((uL U N).length : Int) mv (dL U (riseL St)) (dL U (riseL Fi)) (dE U (riseE Ed)) = true := by
  have hl : (uL U N).length ≤ N := by
    unfold uL
    exact Nat.le_trans (List.length_filter_le _ _) (Nat.le_of_eq List.length_range)
  unfold mayA at hm ⊢
  simp only [Bool.and_eq_true, List.all_eq_true, decide_eq_true_eq, inB_iff] at hm ⊢
  obtain ⟨⟨⟨⟨⟨a, b⟩, c⟩, _⟩, _⟩, f⟩ := hm
  refine ⟨⟨⟨⟨⟨by omega, b⟩, Nat.le_trans (dE_len _ _) (Nat.le_trans (riseE_len Ed) c)⟩, fun x hx => ?_⟩, fun x hx => ?_⟩, fun e he => ?_⟩
  · obtain ⟨q, hq, rfl⟩ := h.ins h.st x hx
    omega
  · obtain ⟨q, hq, rfl⟩ := h.ins h.fi x hx
    omega
  · obtain ⟨p, r, hp, hr, a1, a2⟩ := h.prs e he
    obtain ⟨y, hy, _, rfl⟩ := mem_dE.1 he
    have hf := f y hy
    unfold edOk at hf ⊢
    simp only [Bool.and_eq_true, inB_iff] at hf ⊢
    simp only at a1 a2
    refine ⟨⟨by omega, hf.1.2⟩, by omega⟩
/-- Reach and Coreach of the useful part: all. -/
theorem TrU.full {N : Nat} {U : Nat → Bool} {St Fi : List Int} {Ed : List EdT} (h : TrU N U St Fi Ed) (b : Bool) {mv : Int} (hm : mayA (N : Int) mv St Fi Ed = true) : (rchL b ((uL U N).length : Int) mv (dL U (riseL St)) (dL U (riseL Fi)) (dE U (riseE Ed))).length = (uL U N).length := by
  unfold rchL
  rw [if_pos (h.may hm), Int.toNat_natCast]
  have e : maskL (uL U N).length (fun q => @decide (∃ k, Wlk (fun q => (q : Int) ∈ if b then dL U (riseL Fi) else dL U (riseL St)) (stepE b (dE U (riseE Ed))) k q) (Classical.propDecidable _)) = natL (List.range (uL U N).length) := by
    unfold maskL
    rw [List.filter_eq_self.2 (fun q hq => ?_)]
    have := h.all q (List.mem_range.1 hq)
    cases b
    · exact @decide_eq_true _ (Classical.propDecidable _) this.1
    · exact @decide_eq_true _ (Classical.propDecidable _) this.2
  rw [e, natL_len, List.length_range]
end Go.Proofs.YtojnlpicgemlaaaDoor
namespace Go.Proofs.YtojnlpicgemlaaaDoor
open Go.RowKit Go.Maps Go.Shelf

/-! ### Trim, and Trim of what it answered -/
end Go.Proofs.YtojnlpicgemlaaaDoor
namespace Go.Proofs.YtojnlpicgemlaaaDoor
open Go.RowKit Go.Maps Go.Shelf

/-! ### What is asked of Trim's answer -/
structure TkF (N K : Nat) (mv : Int) (St Fi : List Int) (Ed : List EdT) (S F : List Int) (E : List EdT) (O : List Int) : Prop where
  may : mayA (K : Int) mv S F E = true
  l1 : S.length ≤ 4194304
  l2 : F.length ≤ 4194304
  l3 : E.length ≤ 4194304
  kN : K ≤ 4096
  ol : O.length = K
  rs : riseL S = S
  rf : riseL F = F
  re : riseE E = E
  bs : ∀ z ∈ S, 0 ≤ z ∧ z < (K : Int)
  bf : ∀ z ∈ F, 0 ≤ z ∧ z < (K : Int)
  keep : ∀ Wd, bothM K (wordM E (inL S) Wd) (inL F) = bothM N (wordM Ed (inL St) Wd) (inL Fi)
  full : ∀ b, (rchL b (K : Int) mv S F E).length = K
  oin : ∀ x ∈ O, 0 ≤ x ∧ x < (N : Int)
  oup : O.Pairwise (· < ·)
  again : ∀ (W : World) (t1 t2 t3 : Option Addr) (k1 k2 k3 : Nat), RdA W t1 t2 t3 S F E → TabAt W → 0 < W.heap.size → Calls Tryd.prog 11 #[.agg #[.int .i64 (K : Int), .int .i64 mv, .slice t1 S.length k1, .slice t2 F.length k2, .slice t3 E.length k3]] W fun e w' => AnsT w' (K : Int) mv S F E (natL (List.range K)) 0 e ∧ Below W.heap.size W w'
end Go.Proofs.YtojnlpicgemlaaaDoor
