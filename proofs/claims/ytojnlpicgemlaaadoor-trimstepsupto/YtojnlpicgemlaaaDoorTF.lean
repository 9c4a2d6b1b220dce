import Derived.Test.YtojnlpicgemlaaaDoorTe
namespace Go.Proofs.YtojnlpicgemlaaaDoor
open Go.RowKit Go.Maps
attribute [local go_sem] Oper.semAt_some

/-! ### The document's Reach and Coreach -/
theorem ArgA.prs {w : World} {N : Nat} {mv : Int} {a1 a2 a3 : Option Addr} {St Fi : List Int} {Ed : List EdT} (h : ArgA w N mv a1 a2 a3 St Fi Ed) : ∀ e ∈ Ed, ∃ p r : Nat, p < N ∧ r < N ∧ e.1 = (p : Int) ∧ e.2.2 = (r : Int) := fun e he => by
  obtain ⟨p, r, h1, h2, h3⟩ := h.ends false e he
  exact ⟨p, r, h1, h2, congrArg Prod.fst h3, congrArg Prod.snd h3⟩
/-- The program's answer is the document's. -/
theorem ansR_is {w w' : World} {v : Value} {N : Nat} {S : Nat → Prop} {E : Nat → Nat → Prop} {M : Nat → Bool} (h : AnsR w w' v N S E) (hS : ∀ q, S q → q < N) (hE : ∀ p q, E p q → q < N) (hM : ∀ q, q < N → (M q = true ↔ ∃ k, Wlk S E k q)) : OwnL w.heap.size w' v (maskL N M) := by
  obtain ⟨len, gl, cl, rfl, ho, hb⟩ := h
  have e : elems N (metX len N) = (List.range N).filter M := by
    unfold elems
    apply List.filter_congr
    intro q hq
    have hq : q < N := by simpa using hq
    rw [metX_test, Bool.eq_iff_iff, decide_eq_true_eq, hM q hq]
    constructor
    · rintro ⟨_, h⟩
      exact ⟨_, hb.sound q hq (by have := hb.ge q; omega)⟩
    · rintro ⟨k, h⟩
      have := hb.done hS hE k q h
      exact ⟨hq, by omega⟩
  unfold OwnL maskL natL
  rw [← e, List.length_map, List.map_map]
  exact ho
end Go.Proofs.YtojnlpicgemlaaaDoor
namespace Go.Proofs.YtojnlpicgemlaaaDoor
open Go.RowKit Go.Maps
attribute [local go_sem] Oper.semAt_some

/-! ### The document's Dist -/
/-- What is known of the shortest ways when all shorter than n were looked at. -/
def DstQ (W : Nat → Nat → Prop) (n q : Nat) (x : Int) : Prop := (x = -1 ∧ ∀ k, k < n → ¬ W k q) ∨ ∃ k : Nat, k < n ∧ x = (k : Int) ∧ W k q ∧ ∀ j, j < k → ¬ W j q
theorem DstQ.put {W : Nat → Nat → Prop} {n q : Nat} {x : Int} (h : DstQ W n q x) (hx : x < 0) (hw : W n q) : DstQ W (n + 1) q (n : Int) := by
  rcases h with ⟨h1, h2⟩ | ⟨k, h1, h2, h3, h4⟩
  · exact .inr ⟨n, by omega, rfl, hw, h2⟩
  · omega
end Go.Proofs.YtojnlpicgemlaaaDoor
namespace Go.Proofs.YtojnlpicgemlaaaDoor
open Go.RowKit Go.Maps
attribute [local go_sem] Oper.semAt_some

/-! ### Lists that are the same -/
set_option maxRecDepth 100000 in
set_option maxHeartbeats 1000000 in
theorem same7_any (w : World) (aa ab : Option Addr) (ca cb : Nat) (A C : List Int) (ha : RdN w aa A) (hb : RdN w ab C) (hl : A.length ≤ 4194304) :
    Calls Tryd.prog 22 #[.slice aa A.length ca, .slice ab C.length cb] w fun e w' => e = .returned (.bool (decide (A = C))) ∧ Below w.heap.size w w' := by
  have HQ := hide (And.intro ha hb)
  clear ha hb
  by_cases hn : A.length = C.length
  · have u1 : ((A.length : Nat) : Int) = ((C.length : Nat) : Int) := by omega
    obtain ⟨L, eL⟩ : ∃ L, A.length = L := ⟨_, rfl⟩
    have eC : C.length = L := by omega
    rw [eL, eC]
    rw [eL] at hl
    have HE := hide (And.intro eL eC)
    clear hn u1 eL eC
    go_enter Tryd.func22, Tryd.ntmps22
    go_wp2_with fail
    go_loopw [5] (fun iv wr => ∃ i : Nat, i ≤ L ∧ iv = .int .i64 (i : Int) ∧ Hid (A.take i = C.take i ∧ Below w.heap.size w wr)) (fun iv _ => L - (intOf iv).toNat)
    case atStart => exact ⟨0, Nat.zero_le _, rfl, hide ⟨rfl, Below.refl _ _⟩⟩
    case round =>
      obtain ⟨i, hi, rfl, HY⟩ := hrel
      by_cases hlt : i < L
      · have l0 : (i : Int) < (L : Int) := by omega
        have i0 : (0 : Int) ≤ (i : Int) := by omega
        have hia : i < A.length := by have := HE.out.1; omega
        have hic : i < C.length := by have := HE.out.2; omega
        obtain ⟨g, o, rfl, r1⟩ := (HQ.out.1.on HY.out.2) i hia
        obtain ⟨g', o', rfl, r2⟩ := (HQ.out.2.on HY.out.2) i hic
        have HT : Hid (A[i] = C[i] → A.take (i + 1) = C.take (i + 1)) := hide (fun e => by rw [List.take_succ_eq_append_getElem hia, List.take_succ_eq_append_getElem hic, HY.out.1, e])
        have HN : Hid (A[i] ≠ C[i] → A ≠ C) := hide (fun h e => by subst e; exact h rfl)
        generalize A[i] = x at r1 HT HN
        generalize C[i] = y at r2 HT HN
        go_wp2_with fail
        go_quiet (fail)
        by_cases e : x = y
        · have J := HT.out e
          subst e
          clear HT HN
          go_wp2_with fail
          go_roundw
          case rel => exact ⟨i + 1, by omega, by go_num, hide ⟨J, below_drewN2 HY.out.2 _⟩⟩
          case measure => simp [intOf]; omega
        · have J := hide (HN.out e)
          clear HT HN
          go_wp2_with fail
          go_ret
          exact ⟨by rw [decide_eq_false J.out]; rfl, below_drewN2 HY.out.2 _⟩
      · have l0 : ¬ (i : Int) < (L : Int) := by omega
        have e : A = C := by
          have := HY.out.1
          rw [List.take_of_length_le (by have := HE.out.1; omega), List.take_of_length_le (by have := HE.out.2; omega)] at this
          exact this
        have J := hide e
        clear e
        go_wp2_with fail
        go_ret
        exact ⟨by rw [decide_eq_true J.out]; rfl, HY.out.2⟩
  · have u1 : ¬ ((A.length : Nat) : Int) = ((C.length : Nat) : Int) := by omega
    have J := hide (show A ≠ C from fun e => hn (by rw [e]))
    clear hn
    go_enter Tryd.func22, Tryd.ntmps22
    go_wp2_with fail
    go_ret
    exact ⟨by rw [decide_eq_false J.out]; rfl, Below.refl _ _⟩
end Go.Proofs.YtojnlpicgemlaaaDoor
