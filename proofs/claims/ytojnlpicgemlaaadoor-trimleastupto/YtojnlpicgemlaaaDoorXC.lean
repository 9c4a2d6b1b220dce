import Derived.Test.YtojnlpicgemlaaaDoorWA
import Derived.Test.YtojnlpicgemlaaaDoorXA
import Derived.Test.YtojnlpicgemlaaaDoorTx
namespace Go.Proofs.YtojnlpicgemlaaaDoor
open Go.RowKit Go.Maps Go.Shelf
attribute [local go_sem] Oper.semAt_some

/-! ### trims -/
/-- An automaton, a list and an error, answered. -/
def AnsT (w' : World) (K m' : Int) (S F : List Int) (E : List EdT) (L : List Int) (er : Int) (e : Ending) : Prop := ∃ a1 a2 a3 ao c1 c2 c3 co, e = .returned (.tuple #[.agg #[.int .i64 K, .int .i64 m', .slice a1 S.length c1, .slice a2 F.length c2, .slice a3 E.length c3], .slice ao L.length co, .int .i64 er]) ∧ RdA w' a1 a2 a3 S F E ∧ RdN w' ao L
theorem ansT_own {B : Nat} {w' : World} {K m' : Int} {S F L : List Int} {E : List EdT} {v1 v2 v3 vo : Value} (o1 : OwnL B w' v1 S) (o2 : OwnL B w' v2 F) (o3 : w'.ownsRow B 33 3 v3 E.length (E.flatMap encE)) (o4 : OwnL B w' vo L) : AnsT w' K m' S F E L 0 (.returned (.tuple #[.agg #[.int .i64 K, .int .i64 m', v1, v2, v3], vo, .int .i64 0])) := by
  obtain ⟨a1, c1, rfl, r1⟩ := la_own o1
  obtain ⟨a2, c2, rfl, r2⟩ := la_own o2
  obtain ⟨a3, c3, rfl⟩ := own_slice o3
  obtain ⟨ao, co, rfl, r4⟩ := la_own o4
  exact ⟨a1, a2, a3, ao, c1, c2, c3, co, rfl, ⟨r1, r2, own_rdE o3⟩, r4⟩
end Go.Proofs.YtojnlpicgemlaaaDoor
namespace Go.Proofs.YtojnlpicgemlaaaDoor
open Go.RowKit Go.Maps

/-! ### Trim of what Trim answered -/
theorem rise_riseL (L : List Int) : riseL (riseL L) = riseL L := up_eqI _ _ (riseL_ss _) (riseL_ss _) (fun x => by rw [riseL_iff])
theorem rise_riseE (L : List EdT) : riseE (riseE L) = riseE L := ss_eq _ _ (riseE_ss _) (riseE_ss _) (fun x => by rw [riseE_iff])
theorem TrU.rs {N : Nat} {U : Nat → Bool} {St Fi : List Int} {Ed : List EdT} (h : TrU N U St Fi Ed) : riseL (dL U (riseL St)) = dL U (riseL St) := by
  rw [rise_dL (N := N) (fun x hx => h.st x ((riseL_iff St x).1 hx)), rise_riseL]
theorem TrU.rf {N : Nat} {U : Nat → Bool} {St Fi : List Int} {Ed : List EdT} (h : TrU N U St Fi Ed) : riseL (dL U (riseL Fi)) = dL U (riseL Fi) := by
  rw [rise_dL (N := N) (fun x hx => h.fi x ((riseL_iff Fi x).1 hx)), rise_riseL]
theorem TrU.re {N : Nat} {U : Nat → Bool} {St Fi : List Int} {Ed : List EdT} (h : TrU N U St Fi Ed) : riseE (dE U (riseE Ed)) = dE U (riseE Ed) := by
  rw [rise_dE (N := N) (fun x hx => h.ed x ((riseE_iff Ed x).1 hx)), rise_riseE]
theorem filt_all {α : Type} (L : List α) : L.filter (fun _ => true) = L := List.filter_eq_self.2 (fun _ _ => rfl)
/-- The states of the useful part are its states. -/
theorem TrU.ins {N : Nat} {U : Nat → Bool} {St Fi : List Int} {Ed : List EdT} (_h : TrU N U St Fi Ed) {L : List Int} (hL : ∀ x ∈ L, ∃ q : Nat, q < N ∧ x = (q : Int)) : ∀ x ∈ dL U (riseL L), ∃ q : Nat, q < (uL U N).length ∧ x = (q : Int) := by
  intro x hx
  obtain ⟨y, hy, u, rfl⟩ := mem_dL.1 hx
  obtain ⟨q, hq, rfl⟩ := hL y hy
  rw [Int.toNat_natCast] at u ⊢
  have := uN_lt u hq
  exact ⟨(uN U q).toNat, by omega, by omega⟩
theorem TrU.prs {N : Nat} {U : Nat → Bool} {St Fi : List Int} {Ed : List EdT} (h : TrU N U St Fi Ed) : ∀ e ∈ dE U (riseE Ed), ∃ p r : Nat, p < (uL U N).length ∧ r < (uL U N).length ∧ e.1 = (p : Int) ∧ e.2.2 = (r : Int) := by
  intro e he
  obtain ⟨y, hy, ⟨u1, u2⟩, rfl⟩ := mem_dE.1 he
  obtain ⟨p, r, hp, hr, a1, a2⟩ := h.ed y hy
  simp only [a1, a2, Int.toNat_natCast] at u1 u2 ⊢
  have b1 := uN_lt u1 hp
  have b2 := uN_lt u2 hr
  exact ⟨(uN U p).toNat, (uN U r).toNat, by omega, by omega, by omega, by omega⟩
theorem uN_all (q : Nat) : uN (fun _ => true) q = (q : Int) := by
  unfold uN uL
  rw [if_pos rfl, filt_all, List.length_range]
theorem uL_all (K : Nat) : uL (fun _ => true) K = List.range K := by
  exact filt_all _
theorem dL_all {K : Nat} {L : List Int} (hL : ∀ x ∈ L, ∃ q : Nat, q < K ∧ x = (q : Int)) : dL (fun _ => true) L = L := by
  show ((L.filter fun _ => true).map fun x => uN (fun _ => true) x.toNat) = L
  rw [filt_all]
  refine (List.map_congr_left (g := id) (fun x hx => ?_)).trans (List.map_id L)
  obtain ⟨q, _, rfl⟩ := hL x hx
  rw [Int.toNat_natCast, uN_all]
  rfl
theorem dE_all {K : Nat} {L : List EdT} (hL : ∀ e ∈ L, ∃ p r : Nat, p < K ∧ r < K ∧ e.1 = (p : Int) ∧ e.2.2 = (r : Int)) : dE (fun _ => true) L = L := by
  unfold dE
  simp only [Bool.and_self]
  rw [filt_all]
  refine (List.map_congr_left (g := id) (fun e he => ?_)).trans (List.map_id L)
  obtain ⟨p, r, _, _, a1, a2⟩ := hL e he
  rw [a1, a2, Int.toNat_natCast, Int.toNat_natCast, uN_all, uN_all, ← a1, ← a2]
  rfl
/-- Trim of the useful part is the useful part. -/
theorem TrU.again {N : Nat} {U : Nat → Bool} {St Fi : List Int} {Ed : List EdT} (h : TrU N U St Fi Ed) {K : Nat} {S F : List Int} {E : List EdT} (hK : K = (uL U N).length) (hS : S = dL U (riseL St)) (hF : F = dL U (riseL Fi)) (hE : E = dE U (riseE Ed)) :
    elems K (useX K S F E) = List.range K ∧ renL (useX K S F E) (numT (elems K (useX K S F E))) (riseL S) = S ∧ renL (useX K S F E) (numT (elems K (useX K S F E))) (riseL F) = F ∧ renE (useX K S F E) (numT (elems K (useX K S F E))) (riseE E) = E := by
  subst hK hS hF hE
  have hU : ∀ q, q < (uL U N).length → ((fun _ : Nat => true) q = true ↔ useP (dL U (riseL St)) (dL U (riseL Fi)) (dE U (riseE Ed)) q) := fun q hq => ⟨fun _ => h.all q hq, fun _ => rfl⟩
  rw [h.rs, h.rf, h.re, use_uL hU, ren_dL hU (h.ins h.st), ren_dL hU (h.ins h.fi), ren_dE hU h.prs, dL_all (h.ins h.st), dL_all (h.ins h.fi), dE_all h.prs, uL_all]
  exact ⟨rfl, rfl, rfl, rfl⟩
/-- The useful part may be an automaton. -/
theorem TrU.may {N : Nat} {U : Nat → Bool} {St Fi : List Int} {Ed : List EdT} (h : TrU N U St Fi Ed) {mv : Int} (hm : mayA (N : Int) mv St Fi Ed = true) : mayA ((uL U N).length : Int) mv (dL U (riseL St)) (dL U (riseL Fi)) (dE U (riseE Ed)) = true := by
  have hl : (uL U N).length ≤ N := by
    unfold uL
    exact Nat.le_trans (List.length_filter_le _ _) (Nat.le_of_eq List.length_range)
  unfold mayA at hm ⊢
  simp only [Bool.and_eq_true, List.all_eq_true, decide_eq_true_eq, inB_iff] at hm ⊢
  obtain ⟨⟨⟨⟨⟨a, b⟩, c⟩, _⟩, _⟩, f⟩ := hm
  refine ⟨⟨⟨⟨⟨by omega, b⟩, Nat.le_trans (dE_len _ _) (Nat.le_trans (riseE_len Ed) c)⟩, fun x hx => ?_⟩, fun x hx => ?_⟩, fun e he => ?_⟩
  · obtain ⟨q, hq, rfl⟩ := h.ins h.st x hx
    omega
  · obtain ⟨q, hq, rfl⟩ := h.ins h.fi x hx
    omega
  · obtain ⟨p, r, hp, hr, a1, a2⟩ := h.prs e he
    obtain ⟨y, hy, _, rfl⟩ := mem_dE.1 he
    have hf := f y hy
    unfold edOk at hf ⊢
    simp only [Bool.and_eq_true, inB_iff] at hf ⊢
    simp only at a1 a2
    refine ⟨⟨by omega, hf.1.2⟩, by omega⟩
/-- Reach and Coreach of the useful part: all. -/
theorem TrU.full {N : Nat} {U : Nat → Bool} {St Fi : List Int} {Ed : List EdT} (h : TrU N U St Fi Ed) (b : Bool) {mv : Int} (hm : mayA (N : Int) mv St Fi Ed = true) : (rchL b ((uL U N).length : Int) mv (dL U (riseL St)) (dL U (riseL Fi)) (dE U (riseE Ed))).length = (uL U N).length := by
  unfold rchL
  rw [if_pos (h.may hm), Int.toNat_natCast]
  have e : maskL (uL U N).length (fun q => @decide (∃ k, Wlk (fun q => (q : Int) ∈ if b then dL U (riseL Fi) else dL U (riseL St)) (stepE b (dE U (riseE Ed))) k q) (Classical.propDecidable _)) = natL (List.range (uL U N).length) := by
    unfold maskL
    rw [List.filter_eq_self.2 (fun q hq => ?_)]
    have := h.all q (List.mem_range.1 hq)
    cases b
    · exact @decide_eq_true _ (Classical.propDecidable _) this.1
    · exact @decide_eq_true _ (Classical.propDecidable _) this.2
  rw [e, natL_len, List.length_range]
end Go.Proofs.YtojnlpicgemlaaaDoor
namespace Go.Proofs.YtojnlpicgemlaaaDoor
open Go.RowKit Go.Maps Go.Shelf

/-! ### Trim, and Trim of what it answered -/
/-- An automaton that may be has its useful states. -/
theorem tru_of {w : World} {N : Nat} {mv : Int} {a1 a2 a3 : Option Addr} {St Fi : List Int} {Ed : List EdT} (hG : ArgA w N mv a1 a2 a3 St Fi Ed) : TrU N (fun q => @decide (useP St Fi Ed q) (Classical.propDecidable _)) St Fi Ed :=
  ⟨fun _ _ => @decide_eq_true_iff _ (Classical.propDecidable _), hG.prs, hG.ins, hG.inf⟩
theorem trim_t (w : World) (N : Nat) (mv : Int) (a1 a2 a3 : Option Addr) (c1 c2 c3 : Nat) (St Fi : List Int) (Ed : List EdT) (hA : RdA w a1 a2 a3 St Fi Ed) (h1 : St.length ≤ 4194304) (h2 : Fi.length ≤ 4194304) (h3 : Ed.length ≤ 4194304) (hT : TabAt w) (h0 : 0 < w.heap.size) (hm : mayA (N : Int) mv St Fi Ed = true) :
    Calls Tryd.prog 11 #[.agg #[.int .i64 (N : Int), .int .i64 mv, .slice a1 St.length c1, .slice a2 Fi.length c2, .slice a3 Ed.length c3]] w fun e w' => ∃ U, Hid (TrU N U St Fi Ed) ∧ AnsT w' ((uL U N).length : Int) mv (dL U (riseL St)) (dL U (riseL Fi)) (dE U (riseE Ed)) (natL (uL U N)) 0 e ∧ Below w.heap.size w w' := by
  have hG : ArgA w N mv a1 a2 a3 St Fi Ed := ⟨hm, hA.s, hA.f, hA.e, h1, h2⟩
  have hR := tru_of hG
  generalize (fun q => @decide (useP St Fi Ed q) (Classical.propDecidable _)) = U at hR
  refine (trim_ok w N mv a1 a2 a3 c1 c2 c3 St Fi Ed (hide hA) h1 h2 h3 (hide hT) h0 hm).mono ?_
  rintro e w' ⟨v1, v2, v3, vo, rfl, o1, o2, o3, o4, d⟩
  have hrs : ∀ x ∈ riseL St, ∃ q : Nat, q < N ∧ x = (q : Int) := fun x hx => hG.ins x ((riseL_iff St x).1 hx)
  have hrf : ∀ x ∈ riseL Fi, ∃ q : Nat, q < N ∧ x = (q : Int) := fun x hx => hG.inf x ((riseL_iff Fi x).1 hx)
  have hre : ∀ e ∈ riseE Ed, ∃ p r : Nat, p < N ∧ r < N ∧ e.1 = (p : Int) ∧ e.2.2 = (r : Int) := fun e he => hG.prs e ((riseE_iff Ed e).1 he)
  rw [use_uL hR.us] at o1 o2 o3 o4 ⊢
  rw [ren_dL hR.us hrs] at o1
  rw [ren_dL hR.us hrf] at o2
  rw [ren_dE hR.us hre] at o3
  exact ⟨U, hide hR, ansT_own o1 o2 o3 o4, d⟩
end Go.Proofs.YtojnlpicgemlaaaDoor
namespace Go.Proofs.YtojnlpicgemlaaaDoor
open Go.RowKit Go.Maps Go.Shelf

/-! ### What is asked of Trim's answer -/
structure TkF (N K : Nat) (mv : Int) (St Fi : List Int) (Ed : List EdT) (S F : List Int) (E : List EdT) (O : List Int) : Prop where
  may : mayA (K : Int) mv S F E = true
  l1 : S.length ≤ 4194304
  l2 : F.length ≤ 4194304
  l3 : E.length ≤ 4194304
  kN : K ≤ 4096
  ol : O.length = K
  rs : riseL S = S
  rf : riseL F = F
  re : riseE E = E
  bs : ∀ z ∈ S, 0 ≤ z ∧ z < (K : Int)
  bf : ∀ z ∈ F, 0 ≤ z ∧ z < (K : Int)
  keep : ∀ Wd, bothM K (wordM E (inL S) Wd) (inL F) = bothM N (wordM Ed (inL St) Wd) (inL Fi)
  full : ∀ b, (rchL b (K : Int) mv S F E).length = K
  oin : ∀ x ∈ O, 0 ≤ x ∧ x < (N : Int)
  oup : O.Pairwise (· < ·)
  again : ∀ (W : World) (t1 t2 t3 : Option Addr) (k1 k2 k3 : Nat), RdA W t1 t2 t3 S F E → TabAt W → 0 < W.heap.size → Calls Tryd.prog 11 #[.agg #[.int .i64 (K : Int), .int .i64 mv, .slice t1 S.length k1, .slice t2 F.length k2, .slice t3 E.length k3]] W fun e w' => AnsT w' (K : Int) mv S F E (natL (List.range K)) 0 e ∧ Below W.heap.size W w'
/-- The words of Words and the given one: each can be read. -/
def WdR (W : World) (x : Value) : Prop := ∃ a c, ∃ L : List Int, x = .slice a L.length c ∧ RdN W a L ∧ L.length ≤ 4194304
theorem wl_last {w w7 w8 w10 : World} {v : Value} {n cw : Nat} {vals : List Value} {aw : Option Addr} {Wd : List Int} (hV : vals.length = n ∧ w8.ownsRow w7.heap.size 22 1 v n vals ∧ ∀ x ∈ vals, WdV w8 n x) (h8 : Below w7.heap.size w7 w8) (h7 : Below w.heap.size w w7) (hd : RdN w aw Wd) (hl : Wd.length ≤ 4194304) (hn : n ≤ 60)
    (hg : (w8.alloc (.cells #[.slice aw Wd.length cw] 22)).grownBy w10 v.ownBlock) : (∀ x ∈ vals ++ [.slice aw Wd.length cw], WdR w10 x) ∧ Below w7.heap.size w7 w10 := by
  have o9 : Only w8 w10 (fun x => v.ownBlock = some x) := ⟨hg.os, hg.tape, hg.output, by have := hg.size; rw [World.size_alloc] at this; omega, fun x hx hn => (hg.block x (by rw [World.size_alloc]; omega) (fun e => hn e.symm)).trans (Below.heap_alloc _ _ _ hx)⟩
  have hR : ∀ g cs fr, w8.heap[g]? = some (.cells cs 3 fr) → ¬ v.ownBlock = some g := fun g cs fr hg hx => by
    rcases hV.2.1.2 with ⟨hv, _⟩ | ⟨g', cap', cur', hv, _, hgc, _⟩
    · subst hv
      cases hx
    · subst hv
      cases hx
      rw [hgc] at hg
      cases hg
  have d10 : Below w7.heap.size w7 w10 := h8.trans (o9.toBelow h8.size (fun x hx => (hV.2.1.lt x hx).1))
  refine ⟨fun x hx => ?_, d10⟩
  rcases List.mem_append.1 hx with hx | hx
  · obtain ⟨a, c, L, e, hr, _, hl⟩ := (hV.2.2 x hx).on o9 hR (Nat.le_refl _)
    exact ⟨a, c, L, e, hr, by omega⟩
  · rw [List.mem_singleton] at hx
    exact ⟨aw, cw, Wd, hx, hd.on (h7.trans (d10.mono h7.size)), hl⟩
end Go.Proofs.YtojnlpicgemlaaaDoor
