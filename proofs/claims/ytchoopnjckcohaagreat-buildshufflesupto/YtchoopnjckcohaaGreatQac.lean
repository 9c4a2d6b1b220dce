import Derived.Test.YtchoopnjckcohaaGreatQab
import Derived.Shelf.Sort.Plain
import Derived.Shelf.Slices.Clone
import Derived.Shelf.Slices.In.SortNone
import Derived.Laws.IdiomStrings
import Derived.Laws.AppendOwnNone
namespace Go.Proofs.YtchoopnjckcohaaGreat
open Go.RowKit Go.Maps Go.Shelf
attribute [local go_sem] Oper.semAt_some
/-! ### The law's own automata -/
def mrkE (k : Nat) : List EdT := (List.range k).map fun (i : Nat) => (-1000 - (i : Int), 0, 0)
/-- Edges with their marks, in a row of their own. -/
structure MkE (B : Nat) (w : World) (g c : Nat) (L : List EdT) : Prop where
  le : L.length + 70 ≤ c
  rw : w.ownsRow B 50 3 (.slice (some ⟨g, 0, none⟩) (L.length + 70) c) (L.length + 70) ((L ++ mrkE 70).flatMap encE)
theorem MkE.on {B C : Nat} {w w' : World} {g c : Nat} {L : List EdT} (h : MkE B w g c L) (d : Below C w w') (hg : g < C) : MkE B w' g c L := ⟨h.le, own_on h.rw d hg⟩
theorem MkE.rd {B : Nat} {w : World} {g c : Nat} {L : List EdT} (h : MkE B w g c L) : RdE w (some ⟨g, 0, none⟩) L := fun j hj => by
  have hl : (L ++ mrkE 70).length = L.length + 70 := by simp [mrkE]
  have hr := h.rw
  rw [← hl] at hr
  have q := rdE_cells hr j (by rw [hl]; omega)
  have e : (L ++ mrkE 70)[j]'(by rw [hl]; omega) = L[j] := List.getElem_append_left hj
  rw [e] at q
  exact ⟨g, 0, rfl, by simpa using q⟩
/-- An automaton whose lists are its own, marks behind them. -/
structure TwN (B : Nat) (w : World) (g1 k1 g2 k2 g3 k3 : Nat) (St Fi : List Int) (Ed : List EdT) : Prop where
  s : Mk B w g1 k1 St
  f : Mk B w g2 k2 Fi
  e : MkE B w g3 k3 Ed
  n12 : g1 ≠ g2
  n13 : g1 ≠ g3
  n23 : g2 ≠ g3
theorem TwN.rd {B : Nat} {w : World} {g1 k1 g2 k2 g3 k3 : Nat} {St Fi : List Int} {Ed : List EdT} (h : TwN B w g1 k1 g2 k2 g3 k3 St Fi Ed) : RdA w (some ⟨g1, 0, none⟩) (some ⟨g2, 0, none⟩) (some ⟨g3, 0, none⟩) St Fi Ed := ⟨h.s.rd, h.f.rd, h.e.rd⟩
theorem Mk.lt {B : Nat} {w : World} {g c : Nat} {L : List Int} (h : Mk B w g c L) : B ≤ g ∧ g < w.heap.size := own_at h.rw
theorem MkE.lt {B : Nat} {w : World} {g c : Nat} {L : List EdT} (h : MkE B w g c L) : B ≤ g ∧ g < w.heap.size := own_at h.rw
theorem TwN.on {B : Nat} {w w' : World} {g1 k1 g2 k2 g3 k3 : Nat} {St Fi : List Int} {Ed : List EdT} (h : TwN B w g1 k1 g2 k2 g3 k3 St Fi Ed) (d : Below w.heap.size w w') : TwN B w' g1 k1 g2 k2 g3 k3 St Fi Ed := ⟨h.s.on d h.s.lt.2, h.f.on d h.f.lt.2, h.e.on d h.e.lt.2, h.n12, h.n13, h.n23⟩
theorem Mk.only {B q : Nat} {w w' : World} {g c : Nat} {L : List Int} (h : Mk B w g c L) (o : Only w w' (fun k => k = q)) (hq : g ≠ q) : Mk B w' g c L := ⟨h.le, own_only h.rw o hq⟩
theorem MkE.only {B q : Nat} {w w' : World} {g c : Nat} {L : List EdT} (h : MkE B w g c L) (o : Only w w' (fun k => k = q)) (hq : g ≠ q) : MkE B w' g c L := ⟨h.le, own_only h.rw o hq⟩
theorem Mk.down {B C : Nat} {w : World} {g c : Nat} {L : List Int} (h : Mk B w g c L) (hC : C ≤ B) : Mk C w g c L := ⟨h.le, owns_down h.rw hC⟩
theorem MkE.down {B C : Nat} {w : World} {g c : Nat} {L : List EdT} (h : MkE B w g c L) (hC : C ≤ B) : MkE C w g c L := ⟨h.le, owns_down h.rw hC⟩
/-! ### The law's and the document's questions about lists -/
set_option maxRecDepth 100000 in
set_option maxHeartbeats 1000000 in
theorem in60 (w : World) (ao : Option Addr) (L : List Int) (c : Nat) (x : Int) (hr : Hid (RdN w ao L)) (hl : L.length ≤ 4194304) :
    Calls Tryz.prog 65 #[.slice ao L.length c, .int .i64 x] w fun e w' => e = .returned (.bool (decide (x ∈ L))) ∧ w' = w := by
  go_enter Tryz.func65, Tryz.ntmps65
  go_wp2
  go_loopw [5] (fun iv wr => ∃ i : Nat, i ≤ L.length ∧ iv = .int .i64 i ∧ Hid (∀ t (h : t < L.length), t < i → L[t] ≠ x) ∧ wr = w) (fun iv _ => L.length - (intOf iv).toNat)
  case atStart => exact ⟨0, Nat.zero_le _, rfl, hide (fun t _ h => absurd h (Nat.not_lt_zero t)), rfl⟩
  case round =>
    obtain ⟨i, hi, rfl, HY, hw⟩ := hrel
    obtain rfl := hw.symm
    clear hw
    by_cases hlt : i < L.length
    · have l0 : (i : Int) < (L.length : Int) := by omega
      have l1 : (0 : Int) ≤ (i : Int) := by omega
      obtain ⟨g, o, rfl, q⟩ := hr.out i hlt
      by_cases he : L[i] = x
      · have hm : x ∈ L := he ▸ List.getElem_mem hlt
        rw [he] at q
        have hd : Hid (decide (x ∈ L) = true) := hide (by simpa using hm)
        clear he hm
        go_wp2
        refine bodyPost_ret (results_tmp rfl _ _ _) rfl ?_
        exact ⟨by rw [hd.out]; rfl, rfl⟩
      · have HN : Hid (∀ t (h : t < L.length), t < i + 1 → L[t] ≠ x) := hide (fun t ht h2 => by
          rcases Nat.lt_or_ge t i with h3 | h3
          · exact HY.out t ht h3
          · obtain rfl : t = i := by omega
            exact he)
        have hb : (L[i] == x) = false := by simpa using he
        generalize L[i] = y at q he hb
        go_wp2
        go_roundw
        case rel => exact ⟨i + 1, by omega, by go_num, HN, by simp⟩
        case measure => simp [intOf]; omega
    · have l0 : ¬ (i : Int) < (L.length : Int) := by omega
      have hd : Hid (decide (x ∈ L) = false) := hide (by
        rw [decide_eq_false_iff_not]
        intro hm
        obtain ⟨t, ht, e⟩ := List.getElem_of_mem hm
        exact HY.out t ht (by omega) e)
      go_wp2
      refine bodyPost_ret (results_tmp rfl _ _ _) rfl ?_
      exact ⟨by rw [hd.out]; rfl, rfl⟩
set_option maxRecDepth 100000 in
set_option maxHeartbeats 1000000 in
theorem meets18 (w : World) (ao bo : Option Addr) (A B : List Int) (c d : Nat) (hA : Hid (RdN w ao A)) (hB : Hid (RdN w bo B)) (hl : A.length ≤ 4194304) (hk : B.length ≤ 4194304) :
    Calls Tryz.prog 43 #[.slice ao A.length c, .slice bo B.length d] w fun e w' => e = .returned (.bool (A.any fun x => decide (x ∈ B))) ∧ w' = w := by
  go_enter Tryz.func43, Tryz.ntmps43
  go_wp2
  go_loopw [5] (fun iv wr => ∃ i : Nat, i ≤ A.length ∧ iv = .int .i64 i ∧ Hid (∀ t (h : t < A.length), t < i → A[t] ∉ B) ∧ wr = w) (fun iv _ => A.length - (intOf iv).toNat)
  case atStart => exact ⟨0, Nat.zero_le _, rfl, hide (fun t _ h => absurd h (Nat.not_lt_zero t)), rfl⟩
  case round =>
    obtain ⟨i, hi, rfl, HY, hw⟩ := hrel
    obtain rfl := hw.symm
    clear hw
    by_cases hlt : i < A.length
    · have l0 : (i : Int) < (A.length : Int) := by omega
      have l1 : (0 : Int) ≤ (i : Int) := by omega
      obtain ⟨g, o, rfl, q⟩ := hA.out i hlt
      have T := in60 w bo B d A[i] hB hk
      by_cases he : A[i] ∈ B
      · have hd : Hid ((A.any fun x => decide (x ∈ B)) = true) := hide (List.any_eq_true.2 ⟨A[i], List.getElem_mem hlt, by simpa using he⟩)
        rw [show decide (A[i] ∈ B) = true by simpa using he] at T
        generalize A[i] = y at q T
        clear he
        go_wp2_with (go_at_call 65; refine T.mono ?_; rintro e w2 ⟨rfl, hw2⟩; obtain rfl := hw2.symm)
        refine bodyPost_ret (results_tmp rfl _ _ _) rfl ?_
        exact ⟨by rw [hd.out]; rfl, rfl⟩
      · have HN : Hid (∀ t (h : t < A.length), t < i + 1 → A[t] ∉ B) := hide (fun t ht h2 => by
          rcases Nat.lt_or_ge t i with h3 | h3
          · exact HY.out t ht h3
          · obtain rfl : t = i := by omega
            exact he)
        rw [show decide (A[i] ∈ B) = false by simpa using he] at T
        generalize A[i] = y at q T
        clear he
        go_wp2_with (go_at_call 65; refine T.mono ?_; rintro e w2 ⟨rfl, hw2⟩; obtain rfl := hw2.symm)
        go_roundw
        case rel => exact ⟨i + 1, by omega, by go_num, HN, by simp⟩
        case measure => simp [intOf]; omega
    · have l0 : ¬ (i : Int) < (A.length : Int) := by omega
      have hd : Hid ((A.any fun x => decide (x ∈ B)) = false) := hide (by
        rw [List.any_eq_false]
        intro x hx
        obtain ⟨t, ht, e⟩ := List.getElem_of_mem hx
        have := HY.out t ht (by omega)
        rw [e] at this
        simpa using this)
      go_wp2
      refine bodyPost_ret (results_tmp rfl _ _ _) rfl ?_
      exact ⟨by rw [hd.out]; rfl, rfl⟩
set_option maxRecDepth 100000 in
set_option maxHeartbeats 1000000 in
theorem sameInts_any (w : World) (ao bo : Option Addr) (A B : List Int) (c d : Nat) (hA : Hid (RdN w ao A)) (hB : Hid (RdN w bo B)) (hl : A.length ≤ 4194304) (hk : B.length ≤ 4194304) :
    Calls Tryz.prog 26 #[.slice ao A.length c, .slice bo B.length d] w fun e w' => e = .returned (.bool (decide (A = B))) ∧ Below w.heap.size w w' := by
  go_enter Tryz.func26, Tryz.ntmps26
  by_cases hlen : A.length = B.length
  · have hl2 : ((A.length : Int) != (B.length : Int)) = false := by simp [hlen]
    go_wp2
    go_loopw [5] (fun iv wr => ∃ i : Nat, i ≤ A.length ∧ iv = .int .i64 i ∧ Hid (∀ t (h : t < A.length), t < i → A[t] = B[t]'(by omega)) ∧ Hid (Below w.heap.size w wr)) (fun iv _ => A.length - (intOf iv).toNat)
    case atStart => exact ⟨0, Nat.zero_le _, rfl, hide (fun t _ h => absurd h (Nat.not_lt_zero t)), hide (Below.refl _ _)⟩
    case round =>
      obtain ⟨i, hi, rfl, HY, HW⟩ := hrel
      by_cases hlt : i < A.length
      · have l0 : (i : Int) < (A.length : Int) := by omega
        have l1 : (0 : Int) ≤ (i : Int) := by omega
        have hltB : i < B.length := by omega
        have l2 : (i : Int) < (B.length : Int) := by omega
        obtain ⟨g, o, hao, q⟩ := (hA.out.on HW.out) i hlt
        obtain ⟨g', o', hbo, q'⟩ := (hB.out.on HW.out) i hltB
        subst hao hbo
        by_cases he : A[i] = B[i]
        · have HN : Hid (∀ t (h : t < A.length), t < i + 1 → A[t] = B[t]'(by omega)) := hide (fun t ht h2 => by
            rcases Nat.lt_or_ge t i with h3 | h3
            · exact HY.out t ht h3
            · obtain rfl : t = i := by omega
              exact he)
          rw [← he] at q'
          generalize A[i] = x at q q' he
          have hb : (x != x) = false := by simp
          clear he
          go_wp2
          refine wp_region_phase 8 #[true, true, true, true, true, true, true, true, false] (by kernel_rfl) (by kernel_rfl) ?_
          simp only [List.take_succ_cons, List.take_zero, List.drop_succ_cons, List.drop_zero]
          repeat (go_big_quiet_step (fail))
          refine wpQuiet_nil ?_
          intro wz hzz
          obtain ⟨nq, rfl⟩ := hzz
          go_wp2_with fail
          go_roundw
          case rel => exact ⟨i + 1, by omega, by go_num, HN, hide (below_drewN2 HW.out nq)⟩
          case measure => simp [intOf]; omega
        · have hd : Hid (decide (A = B) = false) := hide (by
            rw [decide_eq_false_iff_not]
            intro e
            subst e
            exact he rfl)
          have hb : (A[i] != B[i]) = true := by simpa using he
          generalize A[i] = x at q he hb
          generalize B[i] = y at q' he hb
          go_wp2
          refine wp_region_phase 8 #[true, true, true, true, true, true, true, true, false] (by kernel_rfl) (by kernel_rfl) ?_
          simp only [List.take_succ_cons, List.take_zero, List.drop_succ_cons, List.drop_zero]
          repeat (go_big_quiet_step (fail))
          refine wpQuiet_nil ?_
          intro wz hzz
          obtain ⟨nq, rfl⟩ := hzz
          go_wp2_with fail
          refine bodyPost_ret (results_tmp rfl _ _ _) rfl ?_
          exact ⟨by rw [hd.out]; rfl, below_drewN2 HW.out nq⟩
      · have l0 : ¬ (i : Int) < (A.length : Int) := by omega
        have hd : Hid (decide (A = B) = true) := hide (by
          rw [decide_eq_true_eq]
          exact List.ext_getElem hlen fun t h1 h2 => HY.out t h1 (by omega))
        go_wp2
        refine bodyPost_ret (results_tmp rfl _ _ _) rfl ?_
        exact ⟨by rw [hd.out]; rfl, HW.out⟩
  · have hl2 : ((A.length : Int) != (B.length : Int)) = true := by simp; omega
    have hd : Hid (decide (A = B) = false) := hide (by
      rw [decide_eq_false_iff_not]
      intro e
      exact hlen (by rw [e]))
    go_wp2
    refine bodyPost_ret (results_tmp rfl _ _ _) rfl ?_
    exact ⟨by rw [hd.out]; rfl, Below.refl _ _⟩
/-! ### The small automaton's answers -/
theorem rise_one (x : Int) : riseL [x] = [x] := by
  unfold riseL sortI
  rw [List.mergeSort_singleton]
  apply Lib.compact_all
  intro j hj
  obtain rfl : j = 0 := by simpa using hj
  simp [Lib.keeps]
theorem alloc_below (w : World) (o : Obj) : Below w.heap.size w (w.alloc o) := (Below.refl _ _).alloc (Nat.le_refl _) _
end Go.Proofs.YtchoopnjckcohaaGreat
namespace Go.Proofs.YtchoopnjckcohaaGreat
open Go.RowKit Go.Maps Go.Shelf
/-! ### Paths -/
/-- A word leads from a state to another. -/
def Rch (Ed : List EdT) : List Int → Int → Int → Prop
  | [], p, q => p = q
  | y :: W, p, q => ∃ r, (p, y, r) ∈ Ed ∧ Rch Ed W r q
/-! ### Numbers in order, each once -/
theorem cpL_ss {zs : List Int} (hs : zs.Pairwise (· ≤ ·)) : (Lib.compact zs).Pairwise (· < ·) := by
  have key : ∀ m, m ≤ zs.length → (Lib.compactUpTo zs.toArray m).Pairwise (· < ·) ∧ (∀ x ∈ Lib.compactUpTo zs.toArray m, ∃ j, j < m ∧ ∃ h : j < zs.length, x = zs[j]) := by
    intro m
    induction m with
    | zero => intro _; exact ⟨by simp [Lib.compactUpTo], fun x hx => by simp [Lib.compactUpTo] at hx⟩
    | succ m ih =>
      intro hm
      obtain ⟨k1, k2⟩ := ih (by omega)
      rw [Lib.compactUpTo_succ]
      by_cases hk : Lib.keeps zs.toArray m = true
      · rw [if_pos hk]
        have hm' : m < zs.length := by omega
        have em : zs.toArray[m]! = zs[m] := by simp [hm']
        refine ⟨?_, fun x hx => ?_⟩
        · rw [List.pairwise_append]
          refine ⟨k1, by simp, fun x hx y hy => ?_⟩
          rw [List.mem_singleton.1 hy, em]
          obtain ⟨j, hj, hjl, rfl⟩ := k2 x hx
          unfold Lib.keeps at hk
          rw [decide_eq_true_eq] at hk
          have hm0 : m ≠ 0 := by omega
          have hk2 := hk.resolve_left hm0
          have e1 : zs.toArray[m - 1]! = zs[m - 1] := by simp [show m - 1 < zs.length by omega]
          rw [em, e1] at hk2
          have l1 : zs[m - 1] ≤ zs[m] := (List.pairwise_iff_getElem.1 hs) (m - 1) m (by omega) hm' (by omega)
          rcases Nat.lt_or_ge j (m - 1) with q | q
          · have l2 : zs[j] ≤ zs[m - 1] := (List.pairwise_iff_getElem.1 hs) j (m - 1) hjl (by omega) q
            omega
          · have : j = m - 1 := by omega
            subst this; omega
        · rcases List.mem_append.1 hx with hx | hx
          · obtain ⟨j, hj, q⟩ := k2 x hx
            exact ⟨j, by omega, q⟩
          · rw [List.mem_singleton.1 hx]; exact ⟨m, by omega, hm', em⟩
      · rw [if_neg hk, List.append_nil]
        exact ⟨k1, fun x hx => by obtain ⟨j, hj, q⟩ := k2 x hx; exact ⟨j, by omega, q⟩⟩
  exact (key zs.length (Nat.le_refl _)).1
theorem sortI_up (L : List Int) : (sortI L).Pairwise (· ≤ ·) := by
  have hp : (sortI L).Pairwise fun a b => decide (a ≤ b) = true := List.pairwise_mergeSort (le := fun x y : Int => decide (x ≤ y)) (fun a b c h1 h2 => by
    simp only [decide_eq_true_eq] at *
    omega) (fun a b => by
    simp only [Bool.or_eq_true, decide_eq_true_eq]
    omega) L
  exact hp.imp fun q => by simpa using q
theorem riseL_ss (L : List Int) : (riseL L).Pairwise (· < ·) := cpL_ss (sortI_up L)
theorem ssL_eq : ∀ (A B : List Int), A.Pairwise (· < ·) → B.Pairwise (· < ·) → (∀ x, x ∈ A ↔ x ∈ B) → A = B
  | [], [], _, _, _ => rfl
  | [], b :: B, _, _, h => absurd ((h b).2 (by simp)) (by simp)
  | a :: A, [], _, _, h => absurd ((h a).1 (by simp)) (by simp)
  | a :: A, b :: B, hA, hB, h => by
    rw [List.pairwise_cons] at hA hB
    have e : a = b := by
      rcases List.mem_cons.1 ((h a).1 (by simp)) with q | q
      · exact q
      · rcases List.mem_cons.1 ((h b).2 (by simp)) with r | r
        · exact r.symm
        · have := hB.1 a q; have := hA.1 b r; omega
    subst e
    congr 1
    refine ssL_eq A B hA.2 hB.2 fun x => ⟨fun q => ?_, fun q => ?_⟩
    · rcases List.mem_cons.1 ((h x).1 (by simp [q])) with r | r
      · subst r; have := hA.1 x q; omega
      · exact r
    · rcases List.mem_cons.1 ((h x).2 (by simp [q])) with r | r
      · subst r; have := hB.1 x q; omega
      · exact r
/-! ### Which words are taken -/
theorem may_of {n m : Int} {St Fi : List Int} {Ed : List EdT} (h1 : 0 ≤ n ∧ n ≤ 4096) (h2 : 0 ≤ m ∧ m ≤ 128) (h3 : Ed.length ≤ 65536) (h4 : ∀ x ∈ St, 0 ≤ x ∧ x < n) (h5 : ∀ x ∈ Fi, 0 ≤ x ∧ x < n) (h6 : ∀ e ∈ Ed, (0 ≤ e.1 ∧ e.1 < n) ∧ (0 ≤ e.2.1 ∧ e.2.1 < m) ∧ 0 ≤ e.2.2 ∧ e.2.2 < n) : mayA n m St Fi Ed = true := by
  unfold mayA
  simp only [Bool.and_eq_true, List.all_eq_true, decide_eq_true_eq]
  refine ⟨⟨⟨⟨⟨inB_iff.2 (by omega), inB_iff.2 (by omega)⟩, h3⟩, fun x hx => inB_iff.2 (h4 x hx)⟩, fun x hx => inB_iff.2 (h5 x hx)⟩, fun e he => ?_⟩
  obtain ⟨q1, q2, q3⟩ := h6 e he
  unfold edOk
  rw [inB_iff.2 q1, inB_iff.2 q2, inB_iff.2 q3]
  rfl
theorem may_st {n m : Int} {St Fi : List Int} {Ed : List EdT} (h : mayA n m St Fi Ed = true) : (∀ x ∈ St, 0 ≤ x ∧ x < n) ∧ (∀ x ∈ Fi, 0 ≤ x ∧ x < n) := by
  obtain ⟨_, _, _, h4, h5, _⟩ := may_parts h
  exact ⟨fun x hx => inB_iff.1 (List.all_eq_true.1 h4 x hx), fun x hx => inB_iff.1 (List.all_eq_true.1 h5 x hx)⟩
/-- A word leads from a start to an end. -/
def Tak (St Fi : List Int) (Ed : List EdT) (Wd : List Int) : Prop := ∃ p, p ∈ St ∧ ∃ q, q ∈ Fi ∧ Rch Ed Wd p q
open Classical in
theorem wordErr_iff {n m : Int} {St Fi : List Int} {Ed : List EdT} {Wd : List Int} : wordErr n m St Fi Ed Wd = 0 ↔ mayA n m St Fi Ed = true ∧ Wd.all (inB m) = true :=
  ⟨wordErr_zero, fun ⟨h1, h2⟩ => by unfold wordErr; rw [if_pos h1, if_pos h2]⟩
open Classical in
theorem rch_same {E E' : List EdT} (h : ∀ e, e ∈ E ↔ e ∈ E') : ∀ (W : List Int) (p q : Int), Rch E W p q ↔ Rch E' W p q
  | [], _, _ => Iff.rfl
  | y :: W, p, q => by
    constructor
    · rintro ⟨r, h1, h2⟩; exact ⟨r, (h _).1 h1, (rch_same h W r q).1 h2⟩
    · rintro ⟨r, h1, h2⟩; exact ⟨r, (h _).2 h1, (rch_same h W r q).2 h2⟩
/-- In order, each once: the same words. -/
theorem may_rise {n m : Int} {St Fi : List Int} {Ed : List EdT} (h : mayA n m St Fi Ed = true) : mayA n m (riseL St) (riseL Fi) (riseE Ed) = true := by
  obtain ⟨h1, h2, h3, _, _, h6⟩ := may_parts h
  obtain ⟨h4, h5⟩ := may_st h
  exact may_of h1 h2 (Nat.le_trans (riseE_len Ed) h3) (fun x hx => h4 x ((riseL_iff St x).1 hx)) (fun x hx => h5 x ((riseL_iff Fi x).1 hx)) (fun e he => h6 e ((riseE_iff Ed e).1 he))
def shE (k : Int) (e : EdT) : EdT := (e.1 + k, e.2.1, e.2.2 + k)
end Go.Proofs.YtchoopnjckcohaaGreat
namespace Go.Proofs.YtchoopnjckcohaaGreat
open Go.RowKit Go.Maps Go.Shelf
attribute [local go_sem] Oper.semAt_some
/-! ### Reverse -/
/-! ### The law's takes and turned -/
theorem rd_own {W : World} {B n : Nat} {v : Value} {X : List Int} (h : W.ownsRow B 3 1 v n (X.map (Value.int .i64))) : ∃ ao c, v = .slice ao X.length c ∧ RdN W ao X := by
  have hn : n = X.length := by have := h.1; simpa using this.symm
  subst hn
  rcases h.2 with ⟨hv, h0⟩ | ⟨g, cap, cur, hv, _⟩
  · exact ⟨none, 0, by rw [hv, h0], fun j hj => by omega⟩
  · subst hv
    exact ⟨some ⟨g, 0, none⟩, cap, rfl, rdN_own h (List.prefix_refl X)⟩
/-! ### Lists written over where they lie -/
/-- The first i entries turned, the others as they were. -/
def mixG {α : Type} (f : α → α) (L : List α) (i : Nat) : List α := (L.take i).map f ++ L.drop i
theorem Only.cellK {w w' : World} {R : Nat → Prop} (h : Only w w' R) {b : Nat} {o : Obj} (hb : w.heap[b]? = some o) (hn : ¬ R b) : w'.heap[b]? = some o := (h.block b (Array.getElem?_eq_some_iff.1 hb).1 hn).trans hb
/-- What beside holds while it writes over the second automaton's lists. -/
structure BeI (W0 : World) (B : Nat) (na : Int) (h1 c1 h2 c2 h3 c3 : Nat) (S F : List Int) (E : List EdT) (i j l : Nat) (W : World) : Prop where
  o : Only W0 W (fun k => k = h1 ∨ k = h2 ∨ k = h3)
  s : W.ownsRow B 3 1 (.slice (some ⟨h1, 0, none⟩) S.length c1) S.length ((mixG (· + na) S i).map (Value.int .i64))
  f : W.ownsRow B 3 1 (.slice (some ⟨h2, 0, none⟩) F.length c2) F.length ((mixG (· + na) F j).map (Value.int .i64))
  e : W.ownsRow B 50 3 (.slice (some ⟨h3, 0, none⟩) E.length c3) E.length ((mixG (shE na) E l).flatMap encE)
  n12 : h1 ≠ h2
  n13 : h1 ≠ h3
  n23 : h2 ≠ h3
section
variable {W0 W : World} {B : Nat} {na : Int} {h1 c1 h2 c2 h3 c3 : Nat} {S F : List Int} {E : List EdT} {i j l : Nat}
theorem BeI.alloc (h : BeI W0 B na h1 c1 h2 c2 h3 c3 S F E i j l W) (o : Obj) : BeI W0 B na h1 c1 h2 c2 h3 c3 S F E i j l (W.alloc o) :=
  ⟨h.o.trans (Only.ofBelow ((Below.refl _ _).alloc (Nat.le_refl _) _)), h.s.alloc o, h.f.alloc o, h.e.alloc o, h.n12, h.n13, h.n23⟩
end
theorem grown_blk {W W' : World} {b q : Nat} {o : Obj} (h : W.heap[b]? = some o) (hg : W.grownBy W' (some q)) (hne : b ≠ q) : W'.heap[b]? = some o :=
  (hg.block b (Array.getElem?_eq_some_iff.1 h).1 (by simp; exact hne)).trans h
/-- What beside holds behind its loops. -/
structure BeF (w : World) (B : Nat) (W : World) (v0 v1 v2 v3 v4 : Value) (bb : Array Value) : Prop where
  a : W.heap[w.heap.size]? = some (.cells #[v0, v1, v2, v3, v4] 25 (0, 0))
  b : W.heap[w.heap.size + 1]? = some (.cells bb 25 (0, 0))
  z : W.heap[w.heap.size + 1 + 1]? = some (.cells #[.int .i64 0, .int .i64 0, .slice none 0 0, .slice none 0 0, .slice none 0 0] 25 (0, 0))
  d : Below B w W
  le : w.heap.size + 3 ≤ W.heap.size
section
variable {w W W' : World} {B : Nat} {v0 v1 v2 v3 v4 : Value} {bb : Array Value}
theorem BeF.only (h : BeF w B W v0 v1 v2 v3 v4 bb) (i : Nat) (u : Value) (hB : B ≤ w.heap.size) : (W.setCell ⟨w.heap.size, i, none⟩ u).heap[w.heap.size + 1]? = some (.cells bb 25 (0, 0)) ∧ (W.setCell ⟨w.heap.size, i, none⟩ u).heap[w.heap.size + 1 + 1]? = some (.cells #[.int .i64 0, .int .i64 0, .slice none 0 0, .slice none 0 0, .slice none 0 0] 25 (0, 0)) ∧ Below B w (W.setCell ⟨w.heap.size, i, none⟩ u) ∧ w.heap.size + 3 ≤ (W.setCell ⟨w.heap.size, i, none⟩ u).heap.size := by
  have o := only_set W w.heap.size i u
  exact ⟨o.cellK h.b (by omega), o.cellK h.z (by omega), h.d.trans (o.toBelow (Nat.le_trans hB h.d.size) (fun k hk => by omega)), Nat.le_trans h.le o.size⟩
theorem BeF.set3 (h : BeF w B W v0 v1 v2 v3 v4 bb) (u : Value) (hB : B ≤ w.heap.size) : BeF w B (W.setCell ⟨w.heap.size, 3, none⟩ u) v0 v1 v2 u v4 bb := by
  have q := h.only 3 u hB
  exact ⟨heap_setCell_same _ _ 3 _ 25 _ h.a, q.1, q.2.1, q.2.2.1, q.2.2.2⟩
theorem BeF.grown (h : BeF w B W v0 v1 v2 v3 v4 bb) {q : Nat} (hg : W.grownBy W' (some q)) (hq : B ≤ q ∧ q < w.heap.size) : BeF w B W' v0 v1 v2 v3 v4 bb :=
  ⟨grown_blk h.a hg (by omega), grown_blk h.b hg (by omega), grown_blk h.z hg (by omega), h.d.grown hg (Nat.le_trans (Nat.le_trans hq.1 (Nat.le_of_lt hq.2)) h.d.size) (fun k hk => by cases hk; exact hq.1), Nat.le_trans h.le hg.size⟩
end
end Go.Proofs.YtchoopnjckcohaaGreat
namespace Go.Proofs.YtchoopnjckcohaaGreat
open Go.RowKit Go.Maps Go.Shelf
/-! ### Two automata in order, two boxes for them -/
structure Pre (W0 F : World) (p q : Nat) (g1 k1 g2 k2 g3 k3 h1 c1 h2 c2 h3 c3 : Nat) (S T : List Int) (E : List EdT) (S' T' : List Int) (E' : List EdT) : Prop where
  zp : F.heap[p]? = some (.cells #[.int .i64 0, .int .i64 0, .slice none 0 0, .slice none 0 0, .slice none 0 0] 25 (0, 0))
  zq : F.heap[q]? = some (.cells #[.int .i64 0, .int .i64 0, .slice none 0 0, .slice none 0 0, .slice none 0 0] 25 (0, 0))
  ne : p ≠ q
  o1 : Own W0.heap.size F g1 k1 g2 k2 g3 k3 S T E
  o2 : Own W0.heap.size F h1 c1 h2 c2 h3 c3 S' T' E'
  lt : ∃ C, g1 < C ∧ g2 < C ∧ g3 < C ∧ C ≤ h1 ∧ C ≤ h2 ∧ C ≤ h3
  np : (g1 ≠ p ∧ g2 ≠ p ∧ g3 ≠ p) ∧ h1 ≠ p ∧ h2 ≠ p ∧ h3 ≠ p
  nq : (g1 ≠ q ∧ g2 ≠ q ∧ g3 ≠ q) ∧ h1 ≠ q ∧ h2 ≠ q ∧ h3 ≠ q
  d : Below W0.heap.size W0 F
  lp : W0.heap.size ≤ p ∧ W0.heap.size ≤ q
theorem Own.on {B C : Nat} {w w' : World} {g1 k1 g2 k2 g3 k3 : Nat} {S F : List Int} {E : List EdT} (h : Own C w g1 k1 g2 k2 g3 k3 S F E) (hB : B ≤ C) (d : Below w.heap.size w w') : Own B w' g1 k1 g2 k2 g3 k3 S F E :=
  ⟨owns_down (own_on h.s d (own_at h.s).2) hB, owns_down (own_on h.f d (own_at h.f).2) hB, owns_down (own_on h.e d (own_at h.e).2) hB, h.n12, h.n13, h.n23⟩
theorem Own.only {B q : Nat} {w w' : World} {g1 k1 g2 k2 g3 k3 : Nat} {S F : List Int} {E : List EdT} (h : Own B w g1 k1 g2 k2 g3 k3 S F E) (o : Only w w' (fun k => k = q)) (hq : g1 ≠ q ∧ g2 ≠ q ∧ g3 ≠ q) : Own B w' g1 k1 g2 k2 g3 k3 S F E :=
  ⟨own_only h.s o hq.1, own_only h.f o hq.2.1, own_only h.e o hq.2.2, h.n12, h.n13, h.n23⟩
theorem Own.rd {B : Nat} {w : World} {g1 k1 g2 k2 g3 k3 : Nat} {S F : List Int} {E : List EdT} (h : Own B w g1 k1 g2 k2 g3 k3 S F E) : RdA w (some ⟨g1, 0, none⟩) (some ⟨g2, 0, none⟩) (some ⟨g3, 0, none⟩) S F E := ⟨rdN_own h.s (List.prefix_refl _), rdN_own h.f (List.prefix_refl _), rdE_own h.e⟩
section
variable {W0 W Wc wa Wd wb F : World} {p q g1 k1 g2 k2 g3 k3 h1 c1 h2 c2 h3 c3 : Nat} {S T : List Int} {E : List EdT} {S' T' : List Int} {E' : List EdT}
/-- Both lie in their boxes. -/
structure Lai (W0 W : World) (p q : Nat) (n m n' m' : Int) (g1 k1 g2 k2 g3 k3 h1 c1 h2 c2 h3 c3 : Nat) (S T : List Int) (E : List EdT) (S' T' : List Int) (E' : List EdT) : Prop where
  bp : W.heap[p]? = some (.cells #[.int .i64 n, .int .i64 m, .slice (some ⟨g1, 0, none⟩) S.length k1, .slice (some ⟨g2, 0, none⟩) T.length k2, .slice (some ⟨g3, 0, none⟩) E.length k3] 25 (0, 0))
  bq : W.heap[q]? = some (.cells #[.int .i64 n', .int .i64 m', .slice (some ⟨h1, 0, none⟩) S'.length c1, .slice (some ⟨h2, 0, none⟩) T'.length c2, .slice (some ⟨h3, 0, none⟩) E'.length c3] 25 (0, 0))
  o1 : Own W0.heap.size W g1 k1 g2 k2 g3 k3 S T E
  o2 : Own W0.heap.size W h1 c1 h2 c2 h3 c3 S' T' E'
  lt : ∃ C, g1 < C ∧ g2 < C ∧ g3 < C ∧ C ≤ h1 ∧ C ≤ h2 ∧ C ≤ h3
  d : Below W0.heap.size W0 W
  lp : W0.heap.size ≤ p ∧ W0.heap.size ≤ q
end
/-! ### What a drawn region's calls and boxes make -/
/-- A box for an automaton, with nothing in it yet. -/
def boxP : MkP := fun x lo hi W => x = .pointer (some ⟨lo, 0, none⟩) ∧ lo < hi ∧ W.heap[lo]? = some (.cells #[.int .i64 0, .int .i64 0, .slice none 0 0, .slice none 0 0, .slice none 0 0] 25 (0, 0))
theorem boxP_mono : MonoP boxP := fun _ _ _ _ _ hs d ⟨e, l, z⟩ => ⟨e, l, (d.block _ (by omega)).trans z⟩
theorem row_box {W : World} {B g c n p : Nat} {e t : TypeId} {sz : Nat} {xs : List Value} {cs : Array Value} {fr : Nat × Nat} (h : W.ownsRow B e sz (.slice (some ⟨g, 0, none⟩) n c) n xs) (z : W.heap[p]? = some (.cells cs t fr)) (ne : e ≠ t) : g ≠ p := by
  rcases h.2 with ⟨hv, _⟩ | ⟨g', cap', cur, hv, hb, hg, rest⟩
  · cases hv
  · cases hv
    intro e
    subst e
    rw [z] at hg
    injection hg with hg
    injection hg with _ h2 _
    exact ne h2.symm
theorem Own.box {B : Nat} {W : World} {g1 k1 g2 k2 g3 k3 p : Nat} {S T : List Int} {E : List EdT} {cs : Array Value} (o : Own B W g1 k1 g2 k2 g3 k3 S T E) (z : W.heap[p]? = some (.cells cs 25 (0, 0))) : g1 ≠ p ∧ g2 ≠ p ∧ g3 ≠ p := ⟨row_box o.s z (by decide), row_box o.f z (by decide), row_box o.e z (by decide)⟩
end Go.Proofs.YtchoopnjckcohaaGreat
namespace Go.Proofs.YtchoopnjckcohaaGreat
open Go.RowKit Go.Maps Go.Shelf
attribute [local go_sem] Oper.semAt_some
/-! ### The document's With and Set -/
theorem own_rdN {W : World} {B c : Nat} {b : Option Addr} {X : List Int} (h : W.ownsRow B 3 1 (.slice b X.length c) X.length (X.map (Value.int .i64))) : RdN W b X := by
  obtain ⟨b', c', hv, hD⟩ := rd_own h
  cases hv
  exact hD
/-- Another block written: a row stays. -/
theorem own_keep {W W' : World} {B n sz p : Nat} {e t : TypeId} {v : Value} {xs : List Value} {cs : Array Value} (h : W.ownsRow B e sz v n xs) (z : W.heap[p]? = some (.cells cs t (0, 0))) (ne : e ≠ t) (o : Only W W' (fun k => k = p)) : W'.ownsRow B e sz v n xs := by
  refine ⟨h.1, ?_⟩
  rcases h.2 with h1 | ⟨g, cap, cur, hv, hb, hg, rest⟩
  · exact Or.inl h1
  · refine Or.inr ⟨g, cap, cur, hv, hb, o.cellK hg (fun e2 => ?_), rest⟩
    subst e2
    rw [z] at hg
    injection hg with hg
    injection hg with _ h2 _
    exact ne h2.symm
theorem one_cells {W : World} {v : Value} {t : TypeId} {p : Nat} (z : W.heap[p]? = some (.cells #[v] t (0, 0))) : ∀ (j : Nat) (u : Value), [v][j]? = some u → W.cell? ((⟨p, 0, none⟩ : Addr).add j) = some u := fun j u hu => by
  cases j with
  | zero =>
    obtain rfl : v = u := by simpa using hu
    rw [Addr.add_lit]
    exact cell_of z rfl
  | succ j => simp at hu
/-- A number behind a row of one's own. -/
theorem wpList_appI {ops : Array Oper} {rest : List Oper} {o : Oper} {a : Act} {Q : Exit → Act → World → Prop} {w : World} (hgd : o.guard = none) (s x : Operand)
    (ho : o.op = .call { callee := .builtin .append, args := #[s, x], argTypes := #[22, 22] }) (B : Nat) (v : Value) (X : List Int) (hs : a.eval s = v) (hown : w.ownsRow B 3 1 v X.length (X.map (Value.int .i64))) (p : Nat) (y : Int) (hx : a.eval x = .slice (some ⟨p, 0, none⟩) 1 1) (hp : w.heap[p]? = some (.cells #[.int .i64 y] 3 (0, 0))) (hl : X.length ≤ 16777216) (w0 : World) (D : Below B w0 w) (hB : B ≤ w0.heap.size)
    (h : ∀ v' w', Hid (w'.ownsRow B 3 1 v' (X ++ [y]).length ((X ++ [y]).map (Value.int .i64))) → Hid (Below B w0 w') → wpList Tryz.prog ops Q rest (a.put o.dst v') w') : wpList Tryz.prog ops Q (o :: rest) a w := by
  obtain ⟨i3, hi3, hz30, hz31, hz32⟩ := info_parts info3
  have hs0 := D.size
  refine wpList_append_own_at _ hgd s x 22 ho B 3 i3 _ 1 8 Tryz.underlying22 hi3 hz30 hz31 hz32 rfl (by omega) v X.length (X.map (Value.int .i64)) hs hown ⟨p, 0, none⟩ 1 1 [.int .i64 y] hx rfl (one_cells hp) (by simp [Value.oneCell']) (by unfold maxLen; omega) (by omega) (by omega) ?_
  intro v2 w2 h2 hgr _ _
  have hb := hown.lt
  exact h v2 w2 (hide (by rw [List.map_append, List.length_append]; exact h2)) (hide (D.grown hgr (by omega) (fun k hk => (hb k hk).1)))
def stepW (n : Int) (s : Bool × List Int) (x : Int) : Bool × List Int :=
  let t : Bool × List Int := if s.1 = false ∧ n ≤ x then (true, s.2 ++ [n]) else s
  if x = n then t else (t.1, t.2 ++ [x])
def wS (n : Int) (L : List Int) : Bool × List Int := L.foldl (stepW n) (false, [])
def withF (L : List Int) (n : Int) : List Int := if (wS n L).1 then (wS n L).2 else (wS n L).2 ++ [n]
theorem wS_take {n : Int} {L : List Int} {i : Nat} (h : i < L.length) : wS n (L.take (i + 1)) = stepW n (wS n (L.take i)) L[i] := by
  unfold wS
  rw [List.take_succ_eq_append_getElem h, List.foldl_append]
  rfl
theorem stepW_len (n : Int) (s : Bool × List Int) (x : Int) : (stepW n s x).2.length ≤ s.2.length + 2 := by
  unfold stepW
  simp only
  split <;> split <;> simp <;> omega
theorem foldW_len (n : Int) : ∀ (L : List Int) (s : Bool × List Int), (L.foldl (stepW n) s).2.length ≤ s.2.length + 2 * L.length
  | [], s => by simp
  | x :: L, s => by
    have h1 := stepW_len n s x
    have h2 := foldW_len n L (stepW n s x)
    simp only [List.foldl_cons, List.length_cons]
    omega
theorem wS_len (n : Int) (L : List Int) (i : Nat) : (wS n (L.take i)).2.length ≤ 2 * L.length := by
  have h := foldW_len n (L.take i) (false, [])
  have h2 : (L.take i).length ≤ L.length := by rw [List.length_take]; omega
  unfold wS
  simp only [List.length_nil] at h
  omega
set_option maxRecDepth 100000 in
set_option maxHeartbeats 4000000 in
theorem with_any (w : World) (ao : Option Addr) (L : List Int) (cp : Nat) (n : Int) (hr : Hid (RdN w ao L)) (hl : L.length ≤ 4194304) :
    Calls Tryz.prog 80 #[.slice ao L.length cp, .int .i64 n] w fun e w' => ∃ b c, e = .returned (.slice b (withF L n).length c) ∧ Hid (w'.ownsRow w.heap.size 3 1 (.slice b (withF L n).length c) (withF L n).length ((withF L n).map (Value.int .i64))) ∧ Below w.heap.size w w' := by
  go_enter Tryz.func80, Tryz.ntmps80
  go_wp2
  go_loopw [5, 6, 7] (fun ov pv iv wr => ∃ i : Nat, i ≤ L.length ∧ pv = .bool (wS n (L.take i)).1 ∧ iv = .int .i64 i ∧ Hid (wr.ownsRow w.heap.size 3 1 ov (wS n (L.take i)).2.length ((wS n (L.take i)).2.map (Value.int .i64)) ∧ Below w.heap.size w wr)) (fun _ _ iv _ => L.length - (intOf iv).toNat)
  case atStart => exact ⟨0, Nat.zero_le _, rfl, rfl, hide ⟨World.ownsRow_nil _ _ _ _, Below.refl _ _⟩⟩
  case round =>
    obtain ⟨i, hi, rfl, rfl, HY⟩ := hrel
    by_cases hlt : i < L.length
    · have i0 : (i : Int) < (L.length : Int) := by omega
      have i1 : (0 : Int) ≤ (i : Int) := by omega
      have iw : IntKind.i64.wrap ((i : Int) + 1) = (i : Int) + 1 := by rw [IntKind.wrap_i64]; omega
      have HLn : Hid ((wS n (L.take i)).2.length ≤ 8388608) := hide (by have := wS_len n L i; omega)
      obtain ⟨g, o, hao, q0⟩ := hr.out i hlt
      subst hao
      have QC0 : Hid (∀ w2, Below w.heap.size w w2 → w2.cell? ⟨g, o + i, none⟩ = some (.int .i64 L[i])) := hide (fun w2 d => (d.cell (p := ⟨g, o + i, none⟩) (World.block_lt_of_cell? w _ q0)).trans q0)
      have q := QC0.out wr HY.out.2
      clear q0
      have HS := hide (wS_take (n := n) hlt)
      generalize L[i] = x at q HS QC0
      generalize wS n (L.take i) = s at HY HS HLn ⊢
      obtain ⟨p, X⟩ := s
      simp only at HY HLn ⊢
      have NX : Hid (∀ (p2 : Bool) (X2 : List Int) (v2 : Value) (w2 : World), stepW n (p, X) x = (p2, X2) → w2.ownsRow w.heap.size 3 1 v2 X2.length (X2.map (Value.int .i64)) → Below w.heap.size w w2 → ∃ j : Nat, j ≤ L.length ∧ Value.bool p2 = .bool (wS n (L.take j)).1 ∧ Value.int .i64 ((i : Int) + 1) = .int .i64 j ∧ Hid (w2.ownsRow w.heap.size 3 1 v2 (wS n (L.take j)).2.length ((wS n (L.take j)).2.map (Value.int .i64)) ∧ Below w.heap.size w w2)) := hide (fun p2 X2 v2 w2 e o d => ⟨i + 1, by omega, by rw [HS.out, e], by simp, hide ⟨by rw [HS.out, e]; exact o, d⟩⟩)
      have QC := QC0
      cases p with
      | false =>
        by_cases hge : n ≤ x
        · by_cases he : x = n
          · have b0 : (x != n) = false := by simpa using he
            have HN := hide (show stepW n (false, X) x = (true, X ++ [n]) by simp [stepW, he])
            clear he
            go_wp2_with (at_builtin; refine wpList_appI rfl _ _ rfl w.heap.size u5 X rfl (own_below HY.out.1 ((Below.refl _ _).alloc (Nat.le_refl _) _)) wr.heap.size n rfl (World.alloc_heap_new _ _) (by have := HLn.out; (try simp only [List.length_append, List.length_cons, List.length_nil]); omega) w (HY.out.2.alloc HY.out.2.size _) (Nat.le_refl _) ?_; intro v2 w2 HO2 HD2; have q2 := QC.out w2 HD2.out)
            go_roundw
            case rel => exact NX.out _ _ _ _ HN.out HO2.out HD2.out
            case measure => simp [intOf]; omega
          · have b0 : (x != n) = true := by simpa using he
            have HN := hide (show stepW n (false, X) x = (true, X ++ [n] ++ [x]) by simp [stepW, hge, he])
            clear he
            go_wp2_with (first
              | (at_builtin; refine wpList_appI rfl _ _ rfl w.heap.size u5 X rfl (own_below HY.out.1 ((Below.refl _ _).alloc (Nat.le_refl _) _)) wr.heap.size n rfl (World.alloc_heap_new _ _) (by have := HLn.out; (try simp only [List.length_append, List.length_cons, List.length_nil]); omega) w (HY.out.2.alloc HY.out.2.size _) (Nat.le_refl _) ?_; intro v2 w2 HO2 HD2; have q2 := QC.out w2 HD2.out)
              | (at_builtin; refine wpList_appI rfl _ _ rfl w.heap.size v2 (X ++ [n]) rfl (own_below HO2.out ((Below.refl _ _).alloc (Nat.le_refl _) _)) w2.heap.size x rfl (World.alloc_heap_new _ _) (by have := HLn.out; (try simp only [List.length_append, List.length_cons, List.length_nil]); omega) w (HD2.out.alloc HD2.out.size _) (Nat.le_refl _) ?_; intro v3 w3 HO3 HD3))
            go_roundw
            case rel => exact NX.out _ _ _ _ HN.out HO3.out HD3.out
            case measure => simp [intOf]; omega
        · have he : ¬ x = n := by omega
          have b0 : (x != n) = true := by simpa using he
          have HN := hide (show stepW n (false, X) x = (false, X ++ [x]) by simp [stepW, hge, he])
          clear he
          go_wp2_with (at_builtin; refine wpList_appI rfl _ _ rfl w.heap.size u5 X rfl (own_below HY.out.1 ((Below.refl _ _).alloc (Nat.le_refl _) _)) wr.heap.size x rfl (World.alloc_heap_new _ _) (by have := HLn.out; (try simp only [List.length_append, List.length_cons, List.length_nil]); omega) w (HY.out.2.alloc HY.out.2.size _) (Nat.le_refl _) ?_; intro v2 w2 HO2 HD2)
          go_roundw
          case rel => exact NX.out _ _ _ _ HN.out HO2.out HD2.out
          case measure => simp [intOf]; omega
      | true =>
        by_cases he : x = n
        · have b0 : (x != n) = false := by simpa using he
          have HN := hide (show stepW n (true, X) x = (true, X) by simp [stepW, he])
          clear he
          go_wp2_with fail
          go_roundw
          case rel => exact NX.out _ _ _ _ HN.out HY.out.1 HY.out.2
          case measure => simp [intOf]; omega
        · have b0 : (x != n) = true := by simpa using he
          have HN := hide (show stepW n (true, X) x = (true, X ++ [x]) by simp [stepW, he])
          clear he
          go_wp2_with (at_builtin; refine wpList_appI rfl _ _ rfl w.heap.size u5 X rfl (own_below HY.out.1 ((Below.refl _ _).alloc (Nat.le_refl _) _)) wr.heap.size x rfl (World.alloc_heap_new _ _) (by have := HLn.out; (try simp only [List.length_append, List.length_cons, List.length_nil]); omega) w (HY.out.2.alloc HY.out.2.size _) (Nat.le_refl _) ?_; intro v2 w2 HO2 HD2)
          go_roundw
          case rel => exact NX.out _ _ _ _ HN.out HO2.out HD2.out
          case measure => simp [intOf]; omega
    · have i0 : ¬ (i : Int) < (L.length : Int) := by omega
      have etk : L.take i = L := List.take_of_length_le (by omega)
      have HLn : Hid ((wS n (L.take i)).2.length ≤ 8388608) := hide (by have := wS_len n L i; omega)
      rw [etk] at HY HLn ⊢
      have HF : Hid (withF L n = if (wS n L).1 then (wS n L).2 else (wS n L).2 ++ [n]) := hide rfl
      generalize wS n L = s at HY HF HLn ⊢
      obtain ⟨p, X⟩ := s
      simp only at HY HF HLn ⊢
      cases p with
      | false =>
        go_wp2_with (at_builtin; refine wpList_appI rfl _ _ rfl w.heap.size u5 X rfl (own_below HY.out.1 ((Below.refl _ _).alloc (Nat.le_refl _) _)) wr.heap.size n rfl (World.alloc_heap_new _ _) (by have := HLn.out; (try simp only [List.length_append, List.length_cons, List.length_nil]); omega) w (HY.out.2.alloc HY.out.2.size _) (Nat.le_refl _) ?_; intro v2 w2 HO2 HD2; have HF2 := HF.out; simp only [Bool.false_eq_true, if_false] at HF2; obtain ⟨b, c, hv⟩ := own_slice HO2.out; subst hv; have HF3 := hide HF2; clear HF2)
        refine bodyPost_ret (results_tmp rfl _ _ _) rfl ?_
        exact ⟨b, c, by rw [HF3.out, List.length_append]; rfl, by rw [HF3.out]; exact HO2, HD2.out⟩
      | true =>
        have HF2 := HF.out
        simp only [if_true] at HF2
        have HF3 := hide HF2
        clear HF2
        obtain ⟨b, c, hv⟩ := own_slice HY.out.1
        subst hv
        go_wp2_with fail
        refine bodyPost_ret (results_tmp rfl _ _ _) rfl ?_
        exact ⟨b, c, by rw [HF3.out]; rfl, by rw [HF3.out]; exact hide HY.out.1, HY.out.2⟩
theorem foldW_put (n : Int) : ∀ (X O : List Int), X.foldl (stepW n) (true, O) = (true, O ++ X.filter (fun x => decide (x ≠ n)))
  | [], O => by simp
  | x :: X, O => by
    rw [List.foldl_cons]
    by_cases h : x = n
    · rw [show stepW n (true, O) x = (true, O) by simp [stepW, h], foldW_put n X O]
      simp [h]
    · rw [show stepW n (true, O) x = (true, O ++ [x]) by simp [stepW, h], foldW_put n X (O ++ [x])]
      simp [h]
theorem foldW_up (n : Int) : ∀ (X O : List Int), X.Pairwise (· < ·) → (if (X.foldl (stepW n) (false, O)).1 then (X.foldl (stepW n) (false, O)).2 else (X.foldl (stepW n) (false, O)).2 ++ [n]) = O ++ X.filter (fun x => decide (x < n)) ++ [n] ++ X.filter (fun x => decide (n < x))
  | [], O, _ => by simp
  | x :: X, O, h => by
    rw [List.pairwise_cons] at h
    rw [List.foldl_cons]
    by_cases hx : x < n
    · rw [show stepW n (false, O) x = (false, O ++ [x]) by simp [stepW, show ¬ n ≤ x by omega, show ¬ x = n by omega], foldW_up n X (O ++ [x]) h.2]
      simp [hx, show ¬ n < x by omega]
    · have hgt : ∀ y ∈ X, n < y := fun y hy => by have := h.1 y hy; omega
      have f1 : X.filter (fun x => decide (x < n)) = [] := List.filter_eq_nil_iff.2 fun y hy => by have := hgt y hy; simp; omega
      have f2 : X.filter (fun x => decide (n < x)) = X := List.filter_eq_self.2 fun y hy => by simpa using hgt y hy
      have f3 : X.filter (fun x => decide (x ≠ n)) = X := List.filter_eq_self.2 fun y hy => by have := hgt y hy; simp; omega
      by_cases he : x = n
      · rw [show stepW n (false, O) x = (true, O ++ [n]) by simp [stepW, he], foldW_put, f3]
        simp [f1, f2, he]
      · rw [show stepW n (false, O) x = (true, O ++ [n] ++ [x]) by simp [stepW, he, show n ≤ x by omega], foldW_put, f3]
        simp [f1, f2, hx, show n < x by omega]
theorem with_up {X : List Int} (n : Int) (h : X.Pairwise (· < ·)) : withF X n = X.filter (fun x => decide (x < n)) ++ [n] ++ X.filter (fun x => decide (n < x)) := by
  unfold withF wS
  rw [foldW_up n X [] h, List.nil_append]
theorem rise_nil : riseL [] = [] := List.eq_nil_of_length_eq_zero (Nat.le_zero.1 (riseL_len []))
theorem with_rise (A : List Int) (n : Int) : withF (riseL A) n = riseL (A ++ [n]) := by
  have hs := riseL_ss A
  refine ssL_eq _ _ ?_ (riseL_ss _) fun x => ?_
  · rw [with_up n hs, List.append_assoc, List.pairwise_append]
    refine ⟨hs.filter _, ?_, ?_⟩
    · rw [List.singleton_append, List.pairwise_cons]
      exact ⟨fun y hy => by simpa using (List.mem_filter.1 hy).2, hs.filter _⟩
    · intro a ha b hb
      have h1 : a < n := by simpa using (List.mem_filter.1 ha).2
      rw [List.singleton_append, List.mem_cons] at hb
      rcases hb with rfl | hb
      · exact h1
      · have h2 : n < b := by simpa using (List.mem_filter.1 hb).2
        omega
  · rw [with_up n hs, riseL_iff]
    simp only [List.mem_append, List.mem_filter, List.mem_singleton, decide_eq_true_eq, riseL_iff]
    constructor
    · rintro ((⟨h, _⟩ | h) | ⟨h, _⟩)
      · exact Or.inl h
      · exact Or.inr h
      · exact Or.inl h
    · rintro (h | h)
      · rcases Int.lt_trichotomy x n with h1 | h1 | h1
        · exact Or.inl (Or.inl ⟨h, h1⟩)
        · exact Or.inl (Or.inr h1)
        · exact Or.inr ⟨h, h1⟩
      · exact Or.inl (Or.inr h)
set_option maxRecDepth 100000 in
set_option maxHeartbeats 4000000 in
theorem set_any (w : World) (ao : Option Addr) (L : List Int) (cp : Nat) (hr : Hid (RdN w ao L)) (hl : L.length ≤ 4194304) :
    Calls Tryz.prog 63 #[.slice ao L.length cp] w fun e w' => ∃ b c, e = .returned (.slice b (riseL L).length c) ∧ Hid (w'.ownsRow w.heap.size 3 1 (.slice b (riseL L).length c) (riseL L).length ((riseL L).map (Value.int .i64))) ∧ Below w.heap.size w w' := by
  go_enter Tryz.func63, Tryz.ntmps63
  go_wp2
  go_loopw [3, 4] (fun ov iv wr => ∃ i b c, i ≤ L.length ∧ ov = .slice b (riseL (L.take i)).length c ∧ iv = .int .i64 (i : Nat) ∧ Hid (wr.ownsRow w.heap.size 3 1 (.slice b (riseL (L.take i)).length c) (riseL (L.take i)).length ((riseL (L.take i)).map (Value.int .i64)) ∧ Below w.heap.size w wr)) (fun _ iv _ => L.length - (intOf iv).toNat)
  case atStart => exact ⟨0, none, 0, Nat.zero_le _, by rw [List.take_zero, rise_nil]; rfl, rfl, hide ⟨by rw [List.take_zero, rise_nil]; exact World.ownsRow_nil _ _ _ _, Below.refl _ _⟩⟩
  case round =>
    obtain ⟨i, b, c, hi, rfl, rfl, HY⟩ := hrel
    by_cases hlt : i < L.length
    · have i0 : (i : Int) < (L.length : Int) := by omega
      have i1 : (0 : Int) ≤ (i : Int) := by omega
      have iw : IntKind.i64.wrap ((i : Int) + 1) = (i : Int) + 1 := by rw [IntKind.wrap_i64]; omega
      obtain ⟨g, o, hao, q⟩ := (hr.out.on HY.out.2) i hlt
      subst hao
      have hlen : (riseL (L.take i)).length ≤ 4194304 := Nat.le_trans (riseL_len _) (by rw [List.length_take]; omega)
      have T := with_any wr b (riseL (L.take i)) c L[i] (hide (own_rdN HY.out.1)) hlen
      rw [with_rise, ← List.take_succ_eq_append_getElem hlt] at T
      generalize L[i] = x at q T
      generalize riseL (L.take i) = X at HY T ⊢
      clear hlen
      obtain ⟨Y, hY⟩ : ∃ Y, riseL (L.take (i + 1)) = Y := ⟨_, rfl⟩
      rw [hY] at T
      have HE := hide hY
      clear hY
      go_wp2_with (go_at_call 80; refine T.mono ?_; rintro e w2 ⟨b2, c2, rfl, HR, d2⟩; have HD := hide (HY.out.2.trans (d2.mono HY.out.2.size)); have HR2 := hide (owns_down HR.out HY.out.2.size); clear d2 HR)
      go_roundw
      case rel => exact ⟨i + 1, b2, c2, by omega, by rw [HE.out], by go_num, hide ⟨by rw [HE.out]; exact HR2.out, HD.out⟩⟩
      case measure => simp [intOf]; omega
    · have i0 : ¬ (i : Int) < (L.length : Int) := by omega
      have etk : L.take i = L := List.take_of_length_le (by omega)
      rw [etk] at HY ⊢
      go_wp2_with fail
      refine bodyPost_ret (results_tmp rfl _ _ _) rfl ?_
      exact ⟨b, c, rfl, hide HY.out.1, HY.out.2⟩
/-! ### A row of the ends -/
theorem kE_less (m : Nat) (L : List EdT) (c : Nat) : lessC (kE m L) c = (L.filter fun e => decide (e.1 * (m : Int) + e.2.1 < (c : Int))).length := by
  unfold lessC kE
  rw [List.filter_map, List.length_map]
  rfl
theorem key_up {m : Nat} {a b : EdT} (h : ltE a b = true) (ha : a.2.1 < (m : Int)) (hb : 0 ≤ b.2.1) : a.1 * (m : Int) + a.2.1 ≤ b.1 * (m : Int) + b.2.1 := by
  rw [ltE_iff] at h
  by_cases e : a.1 = b.1
  · rw [e]
    omega
  · have h2 : a.1 + 1 ≤ b.1 := by omega
    have h3 := Int.mul_le_mul_of_nonneg_right h2 (show (0 : Int) ≤ (m : Int) by omega)
    rw [Int.add_mul, Int.one_mul] at h3
    omega
theorem key_at {m : Nat} {Ed : List EdT} (hS : SsE Ed) (hF : ∀ e ∈ Ed, 0 ≤ e.2.1 ∧ e.2.1 < (m : Int)) (c i : Nat) (h : i < Ed.length) : Ed[i].1 * (m : Int) + Ed[i].2.1 < (c : Int) ↔ i < lessC (kE m Ed) c := by
  have := pre_count (fun e : EdT => decide (e.1 * (m : Int) + e.2.1 < (c : Int))) Ed (List.Pairwise.imp_of_mem (fun {a b} ha hb hab hc => by
    rw [decide_eq_true_eq] at hc ⊢
    have := key_up (m := m) hab (hF a ha).2 (hF b hb).1
    omega) hS) i h
  rw [kE_less, ← this, decide_eq_true_eq]
theorem key_one {m : Nat} {x1 x2 p s : Int} (hx : 0 ≤ x2 ∧ x2 < (m : Int)) (hs : 0 ≤ s ∧ s < (m : Int)) (h : x1 * (m : Int) + x2 = p * (m : Int) + s) : x1 = p ∧ x2 = s := by
  have m0 : (0 : Int) ≤ (m : Int) := by omega
  by_cases e : x1 = p
  · subst e
    exact ⟨rfl, by omega⟩
  · exfalso
    rcases Int.lt_or_gt_of_ne e with q | q
    · have h3 := Int.mul_le_mul_of_nonneg_right (show x1 + 1 ≤ p by omega) m0
      rw [Int.add_mul, Int.one_mul] at h3
      omega
    · have h3 := Int.mul_le_mul_of_nonneg_right (show p + 1 ≤ x1 by omega) m0
      rw [Int.add_mul, Int.one_mul] at h3
      omega
theorem row_eq {m p s k : Nat} {Ed : List EdT} (hS : SsE Ed) (hF : ∀ e ∈ Ed, 0 ≤ e.2.1 ∧ e.2.1 < (m : Int)) (hs : s < m) (hk : p * m + s = k) : subL Ed (lessC (kE m Ed) k) (lessC (kE m Ed) (k + 1)) = fromL Ed p (s : Int) := by
  have ek : (k : Int) = (p : Int) * (m : Int) + (s : Int) := by rw [← hk]; simp
  have le : lessC (kE m Ed) (k + 1) ≤ Ed.length := Nat.le_trans (lessC_le _ _) (Nat.le_of_eq (kE_len _ _))
  refine ss_eq _ _ (subL_ss hS _ _) (fromL_ss hS _ _) fun x => ⟨fun hx => ?_, fun hx => ?_⟩
  · obtain ⟨t, ht, rfl⟩ := List.getElem_of_mem hx
    obtain ⟨h2, e⟩ := subL_get t ht
    rw [subL_len le] at ht
    have a1 := key_at hS hF k _ h2
    have a2 := key_at hS hF (k + 1) _ h2
    have b1 : ¬ Ed[lessC (kE m Ed) k + t].1 * (m : Int) + Ed[lessC (kE m Ed) k + t].2.1 < (k : Int) := fun q => by have := a1.1 q; omega
    have b2 := a2.2 (by omega)
    have hm := List.getElem_mem h2
    rw [e, fromL_iff]
    exact ⟨hm, key_one (hF _ hm) ⟨by omega, by omega⟩ (by omega)⟩
  · rw [fromL_iff] at hx
    obtain ⟨hx, h1, h2⟩ := hx
    obtain ⟨i, hi, rfl⟩ := List.getElem_of_mem hx
    have a1 := key_at hS hF k i hi
    have a2 := key_at hS hF (k + 1) i hi
    rw [h1, h2] at a1 a2
    have b1 : lessC (kE m Ed) k ≤ i := Nat.le_of_not_lt fun q => by have := a1.2 q; omega
    have b2 := a2.1 (by omega)
    obtain ⟨t, rfl⟩ : ∃ t, i = lessC (kE m Ed) k + t := ⟨i - lessC (kE m Ed) k, by omega⟩
    have ht : t < (subL Ed (lessC (kE m Ed) k) (lessC (kE m Ed) (k + 1))).length := by rw [subL_len le]; omega
    obtain ⟨h3, e⟩ := subL_get t ht
    rw [← e]
    exact List.getElem_mem ht
theorem toL_len (L : List EdT) : (toL L).length = L.length := by simp [toL]
theorem toL_rd {w : World} {g o : Nat} {Ed : List EdT} (h : RdN w (some ⟨g, o, none⟩) (toL Ed)) (lo hi : Nat) : RdN w (some ⟨g, o + lo, none⟩) (toL (subL Ed lo hi)) := fun j hj => by
  have hj' : j < (subL Ed lo hi).length := by rw [toL_len] at hj; exact hj
  obtain ⟨h2, e⟩ := subL_get j hj'
  obtain ⟨g', o', he, q⟩ := h (lo + j) (by rw [toL_len]; exact h2)
  cases he
  refine ⟨g, o + lo, rfl, ?_⟩
  have e1 : (toL Ed)[lo + j]'(by rw [toL_len]; exact h2) = Ed[lo + j].2.2 := by simp [toL]
  have e2 : (toL (subL Ed lo hi))[j] = (subL Ed lo hi)[j].2.2 := by simp [toL]
  rw [show o + lo + j = o + (lo + j) by omega, q, e2, e, e1]
theorem row_cap {W : World} {B n c sz : Nat} {e : TypeId} {b : Option Addr} {xs : List Value} (h : W.ownsRow B e sz (.slice b n c) n xs) : (b = none ∧ n = 0 ∧ c = 0) ∨ ∃ g, b = some ⟨g, 0, none⟩ ∧ n ≤ c ∧ B ≤ g := by
  rcases h.2 with ⟨hv, hn⟩ | ⟨g', cap', cur', hv, hb, _, hc, _⟩
  · cases hv
    exact .inl ⟨rfl, rfl, rfl⟩
  · cases hv
    exact .inr ⟨g', rfl, hc, hb⟩
set_option maxRecDepth 100000 in
set_option maxHeartbeats 1000000 in
theorem of_any (w : World) (B m R p s n k : Nat) (aE : Option Addr) (cE g : Nat) (Ed : List EdT) (hn : Ed.length = n) (hA : Hid (RwA B w m R Ed aE n cE g)) (hS : Hid (SsE Ed)) (hF : Hid (∀ e ∈ Ed, 0 ≤ e.2.1 ∧ e.2.1 < (m : Int))) (hs : s < m) (hk : p * m + s = k) (hkR : k < R) (hR : R ≤ 524288) (hl : n ≤ 4194304) :
    Calls Tryz.prog 41 #[.agg #[.int .i64 (m : Int), .slice aE n cE, .slice (some ⟨g, 0, none⟩) (R + 1) (R + 1)], .int .i64 (p : Int), .int .i64 (s : Int)] w fun e w' => ∃ a c, e = .returned (.slice a (fromL Ed p (s : Int)).length c) ∧ Hid (RdN w a (toL (fromL Ed p (s : Int))) ∧ (fromL Ed p (s : Int)).length ≤ c ∧ Below w.heap.size w w') := by
  obtain ⟨W0, hW0⟩ : ∃ W0, w.alloc (.cells #[.int .i64 (m : Int), .slice aE n cE, .slice (some ⟨g, 0, none⟩) (R + 1) (R + 1)] 67) = W0 := ⟨_, rfl⟩
  have HD : Hid (Below w.heap.size w W0) := hide (by rw [← hW0]; exact (Below.refl _ _).alloc (Nat.le_refl _) _)
  have b0 : W0.heap[w.heap.size]? = some (.cells #[.int .i64 (m : Int), .slice aE n cE, .slice (some ⟨g, 0, none⟩) (R + 1) (R + 1)] 67 (0, 0)) := by rw [← hW0]; exact World.alloc_heap_new _ _
  have k0 : W0.cell? ⟨w.heap.size, 0, none⟩ = some (.int .i64 (m : Int)) := cell_of b0 rfl
  have k1 : W0.cell? ⟨w.heap.size, 1, none⟩ = some (.slice aE n cE) := cell_of b0 rfl
  have k2 : W0.cell? ⟨w.heap.size, 2, none⟩ = some (.slice (some ⟨g, 0, none⟩) (R + 1) (R + 1)) := cell_of b0 rfl
  have HM := hide (hA.out.fi.below HD.out hA.out.fi.lt)
  have r0 := HM.out.at k (by omega)
  have r1 := HM.out.at (k + 1) (by omega)
  have u0 := lessC_le (kE m Ed) k
  have u1 := lessC_le (kE m Ed) (k + 1)
  have u2 : lessC (kE m Ed) k ≤ lessC (kE m Ed) (k + 1) := by rw [lessC_succ]; omega
  rw [kE_len, hn] at u0 u1
  have HL := hide (subL_len (Es := Ed) (lo := lessC (kE m Ed) k) (hi := lessC (kE m Ed) (k + 1)) (by rw [hn]; exact u1))
  have HC := hide (row_cap hA.out.ow)
  have HO : Hid (RdN w aE (toL Ed)) := hide (own_rdN (c := cE) (by rw [toL_len, hn]; exact hA.out.ow))
  have HR : Hid (∀ g', aE = some ⟨g', 0, none⟩ → RdN w (some ⟨g', lessC (kE m Ed) k, none⟩) (toL (subL Ed (lessC (kE m Ed) k) (lessC (kE m Ed) (k + 1))))) := hide (fun g' e => by
    have q := HO.out
    rw [e] at q
    have q2 := toL_rd q (lessC (kE m Ed) k) (lessC (kE m Ed) (k + 1))
    rw [Nat.zero_add] at q2
    exact q2)
  rw [row_eq hS.out hF.out hs hk] at HL HR
  generalize fromL Ed p (s : Int) = F at HL HR ⊢
  generalize lessC (kE m Ed) k = lo at *
  generalize lessC (kE m Ed) (k + 1) = hi at *
  have epm : (p : Int) * (m : Int) = ((p * m : Nat) : Int) := by simp
  have e1 : IntKind.i64.wrap ((p : Int) * (m : Int)) = (p : Int) * (m : Int) := by rw [epm, IntKind.wrap_i64]; omega
  have e2 : IntKind.i64.wrap ((p : Int) * (m : Int) + (s : Int)) = (k : Int) := by rw [epm, IntKind.wrap_i64]; omega
  have e3 : IntKind.i64.wrap ((k : Int) + 1) = (k : Int) + 1 := by rw [IntKind.wrap_i64]; omega
  have v0 : (0 : Int) ≤ (k : Int) := by omega
  have v1 : (k : Int) < (R : Int) + 1 := by omega
  have v2 : (k : Int) + 1 < (R : Int) + 1 := by omega
  have v3 : (lo : Int) ≤ (hi : Int) := by omega
  have v5 : (k : Int) ≤ 524288 := by omega
  have v6 : (0 : Int) ≤ (lo : Int) := by omega
  clear b0 hA hS hF HO HM epm hk hn
  rcases HC.out with ⟨rfl, rfl, rfl⟩ | ⟨gE, rfl, hc, -⟩
  · obtain rfl : lo = 0 := by omega
    obtain rfl : hi = 0 := by omega
    have hn : F = [] := List.eq_nil_of_length_eq_zero (by have := HL.out; omega)
    subst hn
    clear HR HL HC u0 u1 u2
    go_enter Tryz.func41, Tryz.ntmps41
    go_upto_region 2 with fail
    refine wp_region_phase 13 #[true, true, true, true, true, true, true, true, true, true, true, true, true, false, false] (by kernel_rfl) (by kernel_rfl) ?_
    simp only [List.take_succ_cons, List.take_zero, List.drop_succ_cons, List.drop_zero]
    repeat (go_big_quiet_step (fail))
    refine wpQuiet_nil ?_
    intro wz hzz
    obtain ⟨nq, rfl⟩ := hzz
    go_wp2_with fail
    refine bodyPost_ret (results_tmp rfl _ _ _) rfl ?_
    exact ⟨none, 0, rfl, hide ⟨fun j hj => absurd hj (Nat.not_lt_zero _), Nat.le_refl _, below_drewN2 HD.out nq⟩⟩
  · have v4 : (hi : Int) ≤ (cE : Int) := by omega
    have HR2 := hide (HR.out gE rfl)
    clear HR HC
    go_enter Tryz.func41, Tryz.ntmps41
    go_upto_region 2 with fail
    refine wp_region_phase 13 #[true, true, true, true, true, true, true, true, true, true, true, true, true, false, false] (by kernel_rfl) (by kernel_rfl) ?_
    simp only [List.take_succ_cons, List.take_zero, List.drop_succ_cons, List.drop_zero]
    repeat (go_big_quiet_step (fail))
    refine wpQuiet_nil ?_
    intro wz hzz
    obtain ⟨nq, rfl⟩ := hzz
    go_wp2_with fail
    · rename cE = lo => hkl
      subst hkl
      refine bodyPost_ret (results_tmp rfl _ _ _) rfl ?_
      have hn : F = [] := List.eq_nil_of_length_eq_zero (by have := HL.out; omega)
      refine ⟨some ⟨gE, 0, none⟩, 0, by rw [HL.out]; rfl, hide ⟨by rw [hn]; intro j hj; exact absurd hj (Nat.not_lt_zero _), by rw [hn]; exact Nat.le_refl _, below_drewN2 HD.out nq⟩⟩
    · refine bodyPost_ret (results_tmp rfl _ _ _) rfl ?_
      exact ⟨some ⟨gE, lo, none⟩, cE - lo, by rw [HL.out]; rfl, hide ⟨HR2.out, by rw [HL.out]; omega, below_drewN2 HD.out nq⟩⟩
end Go.Proofs.YtchoopnjckcohaaGreat
namespace Go.Proofs
open Go.Shelf Go.RowKit Go.Lib Go.Sort
def Tryz.lays189_ren : Go.Shelf.Ren := ⟨fun | 189 => 86 | 125 => 94 | 257 => 93 | 128 => 108 | 129 => 109 | 294 => 99 | 295 => 100 | 296 => 101 | 297 => 102 | 298 => 103 | 299 => 104 | 216 => 105 | 300 => 106 | 301 => 107 | 328 => 112 | 329 => 113 | 330 => 114 | 331 => 115 | 332 => 116 | 215 => 96 | 343 => 133 | n => n, fun | 28 => 22 | 3 => 3 | 46 => 116 | 0 => 0 | 51 => 127 | 53 => 129 | 4 => 4 | 183 => 121 | 182 => 120 | 131 => 105 | 5 => 5 | 9 => 9 | 218 => 132 | 222 => 136 | 228 => 148 | 229 => 149 | n => n, fun | n => n⟩
theorem Tryz.lays189 : Go.Proofs.Lays.n189 Tryz.prog Tryz.lays189_ren := {
  mixed := by kernel_rfl
  f125 := Tryz.func94.trans (congrArg some (by kernel_rfl))
  f128 := Tryz.func108.trans (congrArg some (by kernel_rfl))
  f129 := Tryz.func109.trans (congrArg some (by kernel_rfl))
  f189 := Tryz.func86.trans (congrArg some (by kernel_rfl))
  f215 := Tryz.func96.trans (congrArg some (by kernel_rfl))
  f216 := Tryz.func105.trans (congrArg some (by kernel_rfl))
  f257 := Tryz.func93.trans (congrArg some (by kernel_rfl))
  f294 := Tryz.func99.trans (congrArg some (by kernel_rfl))
  f295 := Tryz.func100.trans (congrArg some (by kernel_rfl))
  f296 := Tryz.func101.trans (congrArg some (by kernel_rfl))
  f297 := Tryz.func102.trans (congrArg some (by kernel_rfl))
  f298 := Tryz.func103.trans (congrArg some (by kernel_rfl))
  f299 := Tryz.func104.trans (congrArg some (by kernel_rfl))
  f300 := Tryz.func106.trans (congrArg some (by kernel_rfl))
  f301 := Tryz.func107.trans (congrArg some (by kernel_rfl))
  f328 := Tryz.func112.trans (congrArg some (by kernel_rfl))
  f329 := Tryz.func113.trans (congrArg some (by kernel_rfl))
  f330 := Tryz.func114.trans (congrArg some (by kernel_rfl))
  f331 := Tryz.func115.trans (congrArg some (by kernel_rfl))
  f332 := Tryz.func116.trans (congrArg some (by kernel_rfl))
  f343 := Tryz.func133.trans (congrArg some (by kernel_rfl))
  t0 := Tryz.underlying0
  a0 := Tryz.isAgg0
  z0 := Tryz.sizeOf0
  v0 := Tryz.zeroValue0
  t3 := Tryz.underlying3
  a3 := Tryz.isAgg3
  z3 := Tryz.sizeOf3
  v3 := Tryz.zeroValue3
  t4 := Tryz.underlying4
  a4 := Tryz.isAgg4
  z4 := Tryz.sizeOf4
  v4 := Tryz.zeroValue4
  t5 := Tryz.underlying5
  a5 := Tryz.isAgg5
  z5 := Tryz.sizeOf5
  v5 := Tryz.zeroValue5
  t9 := Tryz.underlying9
  a9 := Tryz.isAgg9
  z9 := Tryz.sizeOf9
  v9 := Tryz.zeroValue9
  t28 := Tryz.underlying22
  a28 := Tryz.isAgg22
  z28 := Tryz.sizeOf22
  v28 := Tryz.zeroValue22
  t46 := Tryz.underlying116
  a46 := Tryz.isAgg116
  z46 := Tryz.sizeOf116
  v46 := Tryz.zeroValue116
  t51 := Tryz.underlying127
  a51 := Tryz.isAgg127
  z51 := Tryz.sizeOf127
  v51 := Tryz.zeroValue127
  t53 := Tryz.underlying129
  a53 := Tryz.isAgg129
  z53 := Tryz.sizeOf129
  v53 := Tryz.zeroValue129
  t131 := Tryz.underlying105
  a131 := Tryz.isAgg105
  z131 := Tryz.sizeOf105
  v131 := Tryz.zeroValue105
  t182 := Tryz.underlying120
  a182 := Tryz.isAgg120
  z182 := Tryz.sizeOf120
  v182 := Tryz.zeroValue120
  t183 := Tryz.underlying121
  a183 := Tryz.isAgg121
  z183 := Tryz.sizeOf121
  v183 := Tryz.zeroValue121
  t218 := Tryz.underlying132
  a218 := Tryz.isAgg132
  z218 := Tryz.sizeOf132
  v218 := Tryz.zeroValue132
  t222 := Tryz.underlying136
  a222 := Tryz.isAgg136
  z222 := Tryz.sizeOf136
  v222 := Tryz.zeroValue136
  t228 := Tryz.underlying148
  a228 := Tryz.isAgg148
  z228 := Tryz.sizeOf148
  v228 := Tryz.zeroValue148
  t229 := Tryz.underlying149
  a229 := Tryz.isAgg149
  z229 := Tryz.sizeOf149
  v229 := Tryz.zeroValue149 }
open Go.Sort Go.RowKit in
theorem Tryz.slices_Sort_int (blk off cap : Nat) (zs : List Int) (w : World) (hH : Holds (Value.int .i64) w blk off zs.toArray) (hblk : blk < w.heap.size) (hsz : zs.length < 4611686018427387904) :
    Calls Tryz.prog 86 #[.slice (some ⟨blk, off, none⟩) zs.length cap] w fun e w' =>
      e = .returned (.tuple #[]) ∧ ∃ n os, w' = grow (putRow (Value.int .i64) (Sort.ahead w n) blk off (zs.mergeSort fun x y => decide (x ≤ y)).toArray) os := Any.slices_Sort_int Tryz.lays189 blk off cap zs w hH hblk hsz
def Tryz.laysNm215_ren : Go.Shelf.Ren := ⟨fun | 15 => 73 | n => n, fun | 22 => 22 | 3 => 3 | 4 => 4 | n => n, fun | n => n⟩
theorem Tryz.laysNm215 : Go.Proofs.Lays2.n15 Tryz.prog Tryz.laysNm215_ren := {
  mixed := by kernel_rfl
  f15 := Tryz.func73.trans (congrArg some (by kernel_rfl))
  t3 := Tryz.underlying3
  a3 := Tryz.isAgg3
  z3 := Tryz.sizeOf3
  v3 := Tryz.zeroValue3
  t4 := Tryz.underlying4
  a4 := Tryz.isAgg4
  z4 := Tryz.sizeOf4
  v4 := Tryz.zeroValue4
  t22 := Tryz.underlying22
  a22 := Tryz.isAgg22
  z22 := Tryz.sizeOf22
  v22 := Tryz.zeroValue22
  i3 := by kernel_rfl }
theorem Tryz.slices_Clone_int (b off n c : Nat) (zs : List Int) (w : World) (hz : n ≤ zs.length) (hbig : n * 8 ≤ 140737488355328) (hc : ∀ j, j < zs.length → w.cell? ⟨b, off + j, none⟩ = some (.int .i64 (zs.getD j 0))) :
    Calls Tryz.prog 73 #[.slice (some ⟨b, off, none⟩) n c] w fun e w' => ∃ v', e = .returned v' ∧ w'.ownsRow w.heap.size 3 1 v' n ((zs.take n).map (Value.int .i64)) ∧ v' ≠ .slice none 0 0 ∧ Below w.heap.size w w' := Any.slices_Clone_int Tryz.laysNm215 b off n c zs w hz hbig hc
theorem Tryz.slices_Clone_int_nil (n c : Nat) (w : World) :
    Calls Tryz.prog 73 #[.slice none n c] w fun e w' => e = .returned (.slice none 0 0) ∧ w' = w := Any.slices_Clone_int_nil Tryz.laysNm215 n c w
theorem Tryz.slices_Clone_int_zero (a : Addr) (c : Nat) (w : World) :
    Calls Tryz.prog 73 #[.slice (some a) 0 c] w fun e w' => ∃ v', e = .returned v' ∧ w'.ownsRow w.heap.size 3 1 v' 0 [] ∧ v' ≠ .slice none 0 0 ∧ Below w.heap.size w w' := Any.slices_Clone_int_zero Tryz.laysNm215 a c w
theorem Tryz.slices_Sort_int_none (p : Option Addr) (cap : Nat) (w : World) :
    Calls Tryz.prog 86 #[.slice p 0 cap] w fun e w' => e = .returned (.tuple #[]) ∧ w' = w := Any.slices_Sort_int_none Tryz.lays189 p cap w
end Go.Proofs
namespace Go.Proofs.YtchoopnjckcohaaGreat
open Go.RowKit Go.Maps Go.Sort Go.Proofs
theorem sort_own (W : World) (B n : Nat) (v : Value) (L : List Int) (hn : n = L.length) (hv : W.ownsRow B 3 1 v n (L.map (Value.int .i64))) (hl : n ≤ 4194304) :
    Calls Tryz.prog 86 #[v] W fun e w' => e = .returned (.tuple #[]) ∧ w'.ownsRow B 3 1 v n ((sortI L).map (Value.int .i64)) ∧ W.grownBy w' v.ownBlock := by
  rcases hv.2 with ⟨ev, e0⟩ | ⟨g, cap, cur, rfl, hB, hb, h1, h2, h3, h4⟩
  · subst ev e0
    obtain rfl : L = [] := List.eq_nil_of_length_eq_zero hn.symm
    refine (Tryz.slices_Sort_int_none none 0 W).mono ?_
    rintro e w' ⟨rfl, rfl⟩
    exact ⟨rfl, by rw [show sortI [] = [] from List.mergeSort_nil]; exact hv, rfl, rfl, rfl, Nat.le_refl _, fun _ _ _ => rfl⟩
  · subst hn
    rw [Nat.mul_one] at h4
    refine (Tryz.slices_Sort_int g 0 cap L W (holds_of_blockI hb h4) (Array.getElem?_eq_some_iff.1 hb).1 (by omega)).mono ?_
    rintro e w' ⟨rfl, k, os, rfl⟩
    exact ⟨rfl, ownsRow_sortedI (ts := sortI L) (ss := L) (sortI_len L) hB hb h1 h2 h3, grownBy_sortedI _⟩
theorem compact_own (W : World) (B n : Nat) (v : Value) (L : List Int) (hn : n = L.length) (hv : W.ownsRow B 3 1 v n (L.map (Value.int .i64))) (hl : n ≤ 4194304) :
    Calls Tryz.prog 87 #[v] W fun e w' => ∃ v', e = .returned v' ∧ w'.ownsRow B 3 1 v' (Lib.compact L).length ((Lib.compact L).map (Value.int .i64)) ∧ W.grownBy w' v.ownBlock ∧ v'.ownBlock = v.ownBlock := by
  rcases hv.2 with ⟨ev, e0⟩ | ⟨g, cap, cur, rfl, _⟩
  · subst ev e0
    obtain rfl : L = [] := List.eq_nil_of_length_eq_zero hn.symm
    refine (Tryz.slices_Compact_int_empty none 0 W).mono ?_
    rintro e w' ⟨rfl, rfl⟩
    have : Lib.compact ([] : List Int) = [] := List.eq_nil_of_length_eq_zero (Nat.le_zero.1 (compact_len _))
    rw [this]
    exact ⟨_, rfl, hv, ⟨rfl, rfl, rfl, Nat.le_refl _, fun _ _ _ => rfl⟩, rfl⟩
  · refine (compactI_any W B g cap n L hn hv hl).mono ?_
    rintro e w' ⟨rfl, a, b⟩
    exact ⟨_, rfl, a, b, rfl⟩
theorem clone_own (w : World) (ao : Option Addr) (n c : Nat) (L : List Int) (hn : L.length = n) (hA : Hid (RdN w ao L)) (hl : n ≤ 4194304) :
    Calls Tryz.prog 73 #[.slice ao n c] w fun e w' => ∃ v', e = .returned v' ∧ Hid (w'.ownsRow w.heap.size 3 1 v' n (L.map (Value.int .i64)) ∧ Below w.heap.size w w') := by
  subst hn
  cases ao with
  | none =>
    obtain rfl : L = [] := by
      cases L with
      | nil => rfl
      | cons x L => obtain ⟨g, o, e, _⟩ := hA.out 0 (by simp); cases e
    refine (Tryz.slices_Clone_int_nil _ c w).mono ?_
    rintro e w' ⟨rfl, rfl⟩
    exact ⟨_, rfl, hide ⟨World.ownsRow_nil _ _ _ _, Below.refl _ _⟩⟩
  | some a =>
    by_cases h0 : L.length = 0
    · obtain rfl := List.eq_nil_of_length_eq_zero h0
      refine (Tryz.slices_Clone_int_zero a c w).mono ?_
      rintro e w' ⟨v, rfl, o, _, d⟩
      exact ⟨v, rfl, hide ⟨o, d⟩⟩
    · obtain ⟨g, o, e, _⟩ := hA.out 0 (by omega)
      cases e
      refine (Tryz.slices_Clone_int g o L.length c L w (Nat.le_refl _) (by omega) (fun j hj => by
        obtain ⟨g', o', e, q⟩ := hA.out j hj
        cases e
        rw [q]
        simp [List.getD, List.getElem?_eq_getElem hj])).mono ?_
      rintro e w' ⟨v, rfl, o, _, d⟩
      rw [List.take_length] at o
      exact ⟨v, rfl, hide ⟨o, d⟩⟩
end Go.Proofs.YtchoopnjckcohaaGreat
namespace Go.Proofs.YtchoopnjckcohaaGreat
open Go.RowKit Go.Maps Go.Shelf
attribute [local go_sem] Oper.semAt_some
/-! ### lead: edges behind a row, to each of some ends once -/
/-- The edges, and one from p by s to each of the ends, rising, once. -/
def ledL (E : List EdT) (p s : Int) (C : List Int) : List EdT := E ++ C.map fun q => (p, s, q)
theorem ledL_snoc (E : List EdT) (p s : Int) (C : List Int) (i : Nat) (h : i < C.length) : ledL E p s (C.take (i + 1)) = ledL E p s (C.take i) ++ [(p, s, C[i])] := by
  unfold ledL
  rw [List.take_succ_eq_append_getElem h, List.map_append, ← List.append_assoc]
  rfl
theorem ledL_len (E : List EdT) (p s : Int) (C : List Int) : (ledL E p s C).length = E.length + C.length := by simp [ledL]
theorem grown_only {w w' : World} {r : Option Nat} (h : w.grownBy w' r) : Only w w' (fun k => r = some k) := ⟨h.os, h.tape, h.output, h.size, fun k hk hn => h.block k hk (fun e => hn e.symm)⟩
theorem rows_differ {W : World} {B C n m sz sy : Nat} {e t : TypeId} {v u : Value} {xs ys : List Value} (h : W.ownsRow B e sz v n xs) (h2 : W.ownsRow C t sy u m ys) (hne : t ≠ e) {k : Nat} (hk : v.ownBlock = some k) (hk2 : u.ownBlock = some k) : False := by
  rcases h2.2 with ⟨hv, _⟩ | ⟨g', cap', cur', hv, _, hgc, _⟩
  · subst hv
    cases hk2
  · subst hv
    have e2 : g' = k := by simpa [Value.ownBlock] using hk2
    subst e2
    exact row_tag h hgc hne hk
theorem wpList_appG {ops : Array Oper} {rest : List Oper} {o : Oper} {a : Act} {Q : Exit → Act → World → Prop} {w : World} (hgd : o.guard = none) (s x : Operand)
    (ho : o.op = .call { callee := .builtin .append, args := #[s, x], argTypes := #[23, 23] }) (B : Nat) (v : Value) (X : List EdT) (hs : a.eval s = v) (hown : w.ownsRow B 50 3 v X.length (X.flatMap encE)) (p : Nat) (y : EdT) (hx : a.eval x = .slice (some ⟨p, 0, none⟩) 1 1) (hp : w.heap[p]? = some (.cells #[.int .i64 y.1, .int .i64 y.2.1, .int .i64 y.2.2] 50 (0, 0))) (hl : X.length ≤ 16777216) (hB : B ≤ w.heap.size)
    (h : ∀ v' w', Hid (w'.ownsRow B 50 3 v' (X ++ [y]).length ((X ++ [y]).flatMap encE)) → Hid (Only w w' (fun k => v.ownBlock = some k)) → wpList Tryz.prog ops Q rest (a.put o.dst v') w') : wpList Tryz.prog ops Q (o :: rest) a w := by
  obtain ⟨i5, hi5, hz50, hz51, hz52⟩ := info_parts info59
  refine wpList_append_own_at _ hgd s x 23 ho B 50 i5 _ 3 24 Tryz.underlying23 hi5 hz50 hz51 hz52 rfl (by omega) v X.length (X.flatMap encE) hs hown ⟨p, 0, none⟩ 1 1 (encE y) hx rfl (three_cells hp) (by simp [encE, Value.oneCell']) (by unfold maxLen; omega) (by omega) (by omega) ?_
  intro v2 w2 h2 hgr _ _
  exact h v2 w2 (hide (by rw [List.flatMap_append, List.length_append]; simpa using h2)) (hide (grown_only hgr))
/-- What lead holds. -/
structure LedI (w : World) (B : Nat) (E : List EdT) (p s : Int) (C : List Int) (i : Nat) (vc v : Value) (wr : World) : Prop where
  ed : wr.ownsRow B 50 3 v (ledL E p s (C.take i)).length ((ledL E p s (C.take i)).flatMap encE)
  en : wr.ownsRow B 3 1 vc C.length (C.map (Value.int .i64))
  be : Below B w wr
theorem ledI_next {w wr w5 : World} {B i : Nat} {E : List EdT} {p s : Int} {C : List Int} {vc v v5 : Value} {cs : Array Value} (hB : B ≤ w.heap.size) (h : LedI w B E p s C i vc v wr) (hi : i < C.length) (ho : w5.ownsRow B 50 3 v5 (ledL E p s (C.take i) ++ [(p, s, C[i])]).length ((ledL E p s (C.take i) ++ [(p, s, C[i])]).flatMap encE)) (oo : Only (wr.alloc (.cells cs 50)) w5 (fun k => v.ownBlock = some k)) : LedI w B E p s C (i + 1) vc v5 w5 := by
  have d1 : Below wr.heap.size wr (wr.alloc (.cells cs 50)) := (Below.refl _ _).alloc (Nat.le_refl _) _
  have e1 := own_below h.ed d1
  have c1 := own_below h.en d1
  have b1 := h.be.trans (d1.mono (Nat.le_trans hB h.be.size))
  refine ⟨by rw [ledL_snoc _ _ _ _ _ hi]; exact ho, row_only c1 oo (fun k hk hk2 => rows_differ e1 c1 (by decide) hk2 hk), b1.trans (oo.toBelow (Nat.le_trans hB b1.size) (fun k hk => (e1.lt k hk).1))⟩
set_option maxRecDepth 100000 in
set_option maxHeartbeats 1000000 in
theorem lead_any (w : World) (B : Nat) (vE vL : Value) (E : List EdT) (p s : Int) (n : Nat) (L : List Int) (hn : n = L.length) (hE : Hid (w.ownsRow B 50 3 vE E.length (E.flatMap encE))) (hL : Hid (w.ownsRow B 3 1 vL n (L.map (Value.int .i64)))) (hB : B ≤ w.heap.size) (hl : n ≤ 4194304) (hl2 : E.length ≤ 4194304) :
    Calls Tryz.prog 75 #[vE, .int .i64 p, .int .i64 s, vL] w fun e w' => ∃ v', e = .returned v' ∧ Hid (w'.ownsRow B 50 3 v' (ledL E p s (riseL L)).length ((ledL E p s (riseL L)).flatMap encE) ∧ Below B w w') := by
  have TS := sort_own w B n vL L hn hL.out hl
  obtain ⟨C, hC⟩ : ∃ C, riseL L = C := ⟨_, rfl⟩
  have hCl : C.length ≤ 4194304 := by rw [← hC]; have := riseL_len L; omega
  rw [hC]
  have HC := hide hC
  clear hC
  go_enter Tryz.func75, Tryz.ntmps75
  go_wp2_with (go_at_call 86; refine TS.mono ?_; rintro e w1 ⟨rfl, o1, g1⟩)
  have HO := hide (And.intro o1 g1)
  clear TS o1 g1
  have TC := compact_own w1 B n vL (sortI L) (by rw [sortI_len]; exact hn) HO.out.1 hl
  rw [show Lib.compact (sortI L) = riseL L from rfl, HC.out] at TC
  go_wp2_with (go_at_call 87; refine TC.mono ?_; rintro e w2 ⟨v2, rfl, o2, g2, b2⟩; obtain ⟨ac, cc, rfl⟩ := own_slice o2)
  have H0 : Hid (LedI w B E p s C 0 (.slice ac C.length cc) vE w2) := hide (by
    have e1 := row_only hE.out (grown_only HO.out.2) (fun k hk hk2 => rows_differ hE.out hL.out (by decide) hk hk2)
    have e2 := row_only e1 (grown_only g2) (fun k hk hk2 => rows_differ e1 HO.out.1 (by decide) hk hk2)
    have d1 := (grown_only HO.out.2).toBelow hB (fun k hk => (hL.out.lt k hk).1)
    have d2 := (grown_only g2).toBelow (Nat.le_trans hB d1.size) (fun k hk => (HO.out.1.lt k hk).1)
    have z : ledL E p s (C.take 0) = E := by simp [ledL]
    exact ⟨by rw [z]; exact e2, o2, d1.trans d2⟩)
  clear TC HO o2 g2 b2 hL hE hn HC
  go_loopw [0, 16] (fun ev iv wr => ∃ i : Nat, i ≤ C.length ∧ iv = .int .i64 (i : Int) ∧ Hid (LedI w B E p s C i (.slice ac C.length cc) ev wr)) (fun _ iv _ => C.length - (intOf iv).toNat)
  case atStart => exact ⟨0, Nat.zero_le _, rfl, H0⟩
  case round =>
    obtain ⟨i, hi, rfl, HY⟩ := hrel
    clear H0
    by_cases hil : i < C.length
    · have i0 : (0 : Int) ≤ (i : Int) := by omega
      have i1 : (i : Int) < (C.length : Int) := by omega
      obtain ⟨g, o, rfl, q⟩ := own_rdN HY.out.en i hil
      have hbw : B ≤ wr.heap.size := Nat.le_trans hB HY.out.be.size
      have hll : (ledL E p s (C.take i)).length ≤ 16777216 := by rw [ledL_len, List.length_take]; omega
      obtain ⟨x, hx⟩ : ∃ x, C[i] = x := ⟨_, rfl⟩
      rw [hx] at q
      have HX := hide hx
      clear hx
      go_wp2_with (at_builtin; refine wpList_appG rfl _ _ rfl B u0 (ledL E p s (C.take i)) rfl (own_below HY.out.ed ((Below.refl _ _).alloc (Nat.le_refl _) _)) wr.heap.size (p, s, x) rfl (World.alloc_heap_new _ _) hll (by rw [World.size_alloc]; omega) ?_; intro v5 w5 HO5 HG5)
      refine ⟨⟨i + 1, by omega, by go_num, hide (ledI_next hB HY.out hil (by rw [HX.out]; exact HO5.out) HG5.out)⟩, by simp [intOf]; omega⟩
    · obtain rfl : i = C.length := by omega
      have i1 : ¬ (C.length : Int) < (C.length : Int) := by omega
      go_wp2_with fail
      refine bodyPost_ret (results_tmp rfl _ _ _) rfl ?_
      have z := HY.out.ed
      rw [List.take_length] at z
      exact ⟨_, rfl, hide ⟨z, HY.out.be⟩⟩
theorem Only.grown {w w' : World} {r : Option Nat} {R : Nat → Prop} (h : w.grownBy w' r) (hr : ∀ k, r = some k → R k) : Only w w' R :=
  ⟨h.os, h.tape, h.output, h.size, fun k hk hn => h.block k hk (fun e => hn (hr k e.symm))⟩
/-! ### Several rows that are written full, then grown -/
/-- The first i of a list are marks. -/
def gx {α : Type} (m : Nat → α) (d : α) (L : List α) (i : Nat) : List α := (List.range L.length).map fun j => if j < i then m j else L.getD j d
theorem gx_len {α : Type} (m : Nat → α) (d : α) (L : List α) (i : Nat) : (gx m d L i).length = L.length := by simp [gx]
theorem gx_set {α : Type} (m : Nat → α) (d : α) (L : List α) (i : Nat) : (gx m d L i).set i (m i) = gx m d L (i + 1) := by
  apply List.ext_getElem
  · simp [gx]
  · intro j h1 h2
    have hj : j < L.length := by simpa [gx] using h2
    rw [List.getElem_set]
    by_cases e : i = j
    · subst e; simp [gx]
    · rw [if_neg e]
      simp only [gx, List.getElem_map, List.getElem_range]
      by_cases h : j < i
      · rw [if_pos h, if_pos (by omega)]
      · rw [if_neg h, if_neg (by omega)]
def upd {α : Type} (a : Nat → α) (i : Nat) (y : α) : Nat → α := fun j => if j = i then y else a j
/-- A slice's cells read as a list. -/
def Rv (W : World) (v : Value) (xs : List Value) : Prop := ∀ g, v.ownBlock = some g → ∀ j (h : j < xs.length), W.cell? ⟨g, j, none⟩ = some xs[j]
theorem rv_of {W : World} {B e sz n : Nat} {v : Value} {xs : List Value} (h : W.ownsRow B e sz v n xs) : Rv W v xs := fun g hg j hj => by
  have := h.cells hg j xs[j] (List.getElem?_eq_getElem hj)
  rwa [Addr.add_lit, Nat.zero_add] at this
theorem Rv.only {W W' : World} {v : Value} {xs : List Value} {R : Nat → Prop} (h : Rv W v xs) (o : Only W W' R) (hn : ∀ k, v.ownBlock = some k → ¬ R k) : Rv W' v xs := fun g hg j hj => by
  have c := h g hg j hj
  exact (World.cell?_of_block (w := W) (o.block g (World.block_lt_of_cell? W _ c) (hn g hg))).trans c
/-- What never changes: the rows lie in memory that was there, apart; the boxes lie in new memory. -/
structure Gst (w : World) (N : Nat) (v : Nat → Value) (bx : List (Nat × Array Value × TypeId)) : Prop where
  lt : ∀ i, i < N → ∀ k, (v i).ownBlock = some k → k < w.heap.size
  ap : ∀ i j, i < N → j < N → i ≠ j → ∀ k, (v i).ownBlock = some k → (v j).ownBlock ≠ some k
  bge : ∀ q ∈ bx, w.heap.size ≤ q.1
/-- While they are filled: of row i the first a i cells are marks. -/
structure Gf (w W : World) (N : Nat) (v : Nat → Value) (bx : List (Nat × Array Value × TypeId)) (e sz n : Nat → Nat) (mk : Nat → Nat → Value) (x : Nat → List Value) (a : Nat → Nat) : Prop where
  b : ∀ q ∈ bx, W.heap[q.1]? = some (.cells q.2.1 q.2.2 (0, 0))
  on : Only w W (fun k => ∃ i, i < N ∧ (v i).ownBlock = some k)
  r : ∀ i, i < N → W.ownsRow 0 (e i) (sz i) (v i) (n i) (gx (mk i) undef (x i) (a i))
section
variable {w W W' : World} {N : Nat} {v : Nat → Value} {bx : List (Nat × Array Value × TypeId)} {e sz n : Nat → Nat} {mk : Nat → Nat → Value} {x : Nat → List Value} {a : Nat → Nat}
theorem Gf.below (h : Gf w W N v bx e sz n mk x a) (d : Below W.heap.size W W') : Gf w W' N v bx e sz n mk x a :=
  ⟨fun q hq => (d.block _ (Array.getElem?_eq_some_iff.1 (h.b q hq)).1).trans (h.b q hq), h.on.trans (Only.ofBelow d), fun i hi => own_below (h.r i hi) d⟩
theorem Gf.put (s : Gst w N v bx) (h : Gf w W N v bx e sz n mk x a) (i : Nat) (hi : i < N) {g cap m : Nat} (hv : v i = .slice (some ⟨g, 0, none⟩) m cap) (hm : n i = m) (u : Value) (hu : mk i (a i) = u) : Gf w (W.setCell ⟨g, a i, none⟩ u) N v bx e sz n mk x (upd a i (a i + 1)) := by
  have hg : (v i).ownBlock = some g := by rw [hv]; rfl
  have o1 := only_set W g (a i) u
  refine ⟨fun q hq => (o1.block _ (Array.getElem?_eq_some_iff.1 (h.b q hq)).1 ?_).trans (h.b q hq), h.on.trans (o1.mono fun k _ z => ⟨i, hi, by rw [z]; exact hg⟩), fun j hj => ?_⟩
  · have := s.bge q hq
    have := s.lt i hi g hg
    omega
  · by_cases e1 : j = i
    · subst e1
      have k := h.r j hj
      rw [hv, hm] at k
      have k2 := (k.stored (a j) u).1
      rw [← hu, gx_set] at k2
      rw [hv, hm, hu] at *
      simpa [upd] using k2
    · have k := row_only (h.r j hj) o1 fun b q z => s.ap j i hj hi e1 b q (by rw [z]; exact hg)
      simpa [upd, e1] using k
theorem gx_full (m : Nat → Value) (d : Value) (L : List Value) (i : Nat) (h : L.length ≤ i) : gx m d L i = (List.range L.length).map m := by
  apply List.ext_getElem
  · simp [gx]
  · intro j h1 h2
    simp only [gx, List.length_map, List.length_range] at h1
    simp only [gx, List.getElem_map, List.getElem_range]
    rw [if_pos (by omega)]
/-- While they are grown: each reads as it was written. -/
structure Gg (w W : World) (N : Nat) (v : Nat → Value) (bx : List (Nat × Array Value × TypeId)) (x : Nat → List Value) : Prop where
  b : ∀ q ∈ bx, W.heap[q.1]? = some (.cells q.2.1 q.2.2 (0, 0))
  on : Only w W (fun k => ∃ i, i < N ∧ (v i).ownBlock = some k)
  r : ∀ i, i < N → Rv W (v i) (x i)
theorem Gg.below {y : Nat → List Value} (h : Gg w W N v bx y) (d : Below W.heap.size W W') : Gg w W' N v bx y :=
  ⟨fun q hq => (d.block _ (Array.getElem?_eq_some_iff.1 (h.b q hq)).1).trans (h.b q hq), h.on.trans (Only.ofBelow d), fun i hi => (h.r i hi).only (Only.ofBelow (R := fun _ => False) d) fun _ _ z => z⟩
/-- A row that stays. -/
def Kr (W W' : World) (u : Value) : Prop := ∀ B e sz n xs, W.ownsRow B e sz u n xs → W'.ownsRow B e sz u n xs
/-- The row that is being grown. -/
structure Gx (w W : World) (v : Value) (bx : List (Nat × Array Value × TypeId)) (e sz n : Nat) (xs ys : List Value) (vm : Value) (j : Nat) : Prop where
  o : W.ownsRow 0 e sz vm (n + j) (xs ++ (List.replicate j ys).flatten)
  rel : vm.ownBlock = v.ownBlock ∨ ∃ b, vm.ownBlock = some b ∧ w.heap.size ≤ b ∧ ∀ q ∈ bx, q.1 ≠ b
theorem Gx.below {v : Value} {e sz n j : Nat} {xs ys : List Value} {vm : Value} (h : Gx w W v bx e sz n xs ys vm j) (d : Below W.heap.size W W') : Gx w W' v bx e sz n xs ys vm j := ⟨own_below h.o d, h.rel⟩
theorem Gx.zero {v : Value} {e sz n : Nat} {xs ys : List Value} (h : W.ownsRow 0 e sz v n xs) : Gx w W v bx e sz n xs ys v 0 := ⟨by simpa using h, .inl rfl⟩
theorem Gx.only {v : Value} {e sz n j : Nat} {xs ys : List Value} {vm : Value} {R : Nat → Prop} (h : Gx w W v bx e sz n xs ys vm j) (o : Only W W' R) (hn : ∀ k, vm.ownBlock = some k → ¬ R k) : Gx w W' v bx e sz n xs ys vm j := ⟨row_only h.o o hn, h.rel⟩
theorem Gf.full {z : Nat → Nat} (h : Gf w W N v bx e sz n mk x a) (hl : ∀ i, i < N → (x i).length = z i ∧ z i ≤ a i) : Gg w W N v bx (fun i => (List.range (z i)).map (mk i)) ∧ ∀ i, i < N → W.ownsRow 0 (e i) (sz i) (v i) (n i) ((List.range (z i)).map (mk i)) := by
  have k : ∀ i, i < N → W.ownsRow 0 (e i) (sz i) (v i) (n i) ((List.range (z i)).map (mk i)) := fun i hi => by
    obtain ⟨e1, e2⟩ := hl i hi
    have := h.r i hi
    rwa [gx_full _ _ _ _ (by omega), e1] at this
  exact ⟨⟨h.b, h.on, fun i hi => rv_of (k i hi)⟩, k⟩
end
theorem tag_ne2 {W : World} {B C e d sz tz n m k : Nat} {u v : Value} {xs ys : List Value} (h : W.ownsRow B e sz u n xs) (h' : W.ownsRow C d tz v m ys) (hed : e ≠ d) (q : u.ownBlock = some k) (z : v.ownBlock = some k) : False := by
  rcases h.2 with ⟨rfl, _⟩ | ⟨g, cap, cur, rfl, _, hg, _⟩
  · cases q
  · rcases h'.2 with ⟨rfl, _⟩ | ⟨g', cap', cur', rfl, _, hg', _⟩
    · cases z
    · cases q
      cases z
      rw [hg] at hg'
      cases hg'
      exact hed rfl
theorem upd_at {α : Type} (a : Nat → α) (i : Nat) (x : α) : upd a i x i = x := by simp [upd]
theorem Gf.cell {w W : World} {N : Nat} {v : Nat → Value} {bx : List (Nat × Array Value × TypeId)} {e sz n : Nat → Nat} {mk : Nat → Nat → Value} {x : Nat → List Value} {a : Nat → Nat} (h : Gf w W N v bx e sz n mk x a) (i : Nat) (hi : i < N) {ao : Option Addr} {cap m z : Nat} (hv : v i = .slice ao m cap) (hm : n i = m) (hz : sz i = z) (j : Nat) (hj : j < m * z) : ∃ g, ao = some ⟨g, 0, none⟩ ∧ ∀ c, c < m * z → (∃ u, W.cell? ⟨g, c, none⟩ = some u) ∧ W.frozen? ⟨g, c, none⟩ = false := by
  have k := h.r i hi
  rw [hv, hm, hz] at k
  obtain ⟨g, cp, e1, _, _⟩ := k.form (Nat.pos_of_ne_zero fun e0 => by rw [e0] at hj; omega)
  cases e1
  refine ⟨g, rfl, fun c hc => ⟨⟨_, rv_of k g rfl c (by rw [k.1]; exact hc)⟩, ?_⟩⟩
  rcases k.2 with ⟨e2, _⟩ | ⟨g', cap', cur, e2, _, hg, _⟩
  · cases e2
  · cases e2
    simp [World.frozen?, hg]
/-! ### bridged: the edges, with those that lead on from a final state to a beginning -/
theorem RwA.down {B : Nat} {w : World} {m R : Nat} {Ed : List EdT} {aE : Option Addr} {n cE g : Nat} (h : RwA B w m R Ed aE n cE g) : RwA 0 w m R Ed aE n cE g := ⟨owns_down h.ow (Nat.zero_le _), h.fi, Nat.zero_le _⟩
theorem RwA.on {B : Nat} {w w' : World} {m R : Nat} {Ed : List EdT} {aE : Option Addr} {n cE g : Nat} (h : RwA B w m R Ed aE n cE g) (d : Below w.heap.size w w') : RwA B w' m R Ed aE n cE g := ⟨own_below h.ow d, h.fi.below d h.fi.lt, h.ge⟩
def rwsP (m R n : Nat) (Ed : List EdT) : MkP := fun x _ _ W => ∃ aE cE g, x = .agg #[.int .i64 (m : Int), .slice aE n cE, .slice (some ⟨g, 0, none⟩) (R + 1) (R + 1)] ∧ RwA 0 W m R Ed aE n cE g
theorem rwsP_mono {m R n : Nat} {Ed : List EdT} : MonoP (rwsP m R n Ed) := fun _ _ _ _ _ _ d ⟨aE, cE, g, e, h⟩ => ⟨aE, cE, g, e, h.on d⟩
def finP (N : Nat) (Fi : List Int) : MkP := fun x _ _ W => ∃ gf, x = .slice (some ⟨gf, 0, none⟩) N N ∧ Mrw W gf 4 N (fun c => .bool (finB Fi c)) N
theorem finP_mono {N : Nat} {Fi : List Int} : MonoP (finP N Fi) := fun _ _ _ _ _ _ d ⟨gf, e, h⟩ => ⟨gf, e, h.below d h.lt⟩
def b3P : MkP := fun x lo hi W => x = .pointer (some ⟨lo, 0, none⟩) ∧ lo < hi ∧ W.heap[lo]? = some (.cells #[.int .i64 0, .slice none 0 0, .slice none 0 0] 67 (0, 0))
theorem b3P_mono : MonoP b3P := fun _ _ _ _ _ hs d ⟨e, l, z⟩ => ⟨e, l, (d.block _ (by omega)).trans z⟩
def b1P : MkP := fun x lo hi W => x = .pointer (some ⟨lo, 0, none⟩) ∧ lo < hi ∧ W.heap[lo]? = some (.cells #[.slice none 0 0] 76 (0, 0))
theorem b1P_mono : MonoP b1P := fun _ _ _ _ _ hs d ⟨e, l, z⟩ => ⟨e, l, (d.block _ (by omega)).trans z⟩
/-- What bridged holds all the while: the rows and the final states, in boxes. -/
structure BrA (w W : World) (N m R n : Nat) (Ed : List EdT) (Fi : List Int) (p6 p7 : Nat) (aE : Option Addr) (cE g gf : Nat) : Prop where
  b6 : W.heap[p6]? = some (.cells #[.int .i64 (m : Int), .slice aE n cE, .slice (some ⟨g, 0, none⟩) (R + 1) (R + 1)] 67 (0, 0))
  b7 : W.heap[p7]? = some (.cells #[.slice (some ⟨gf, 0, none⟩) N N] 76 (0, 0))
  rw : RwA 0 W m R Ed aE n cE g
  fi : Mrw W gf 4 N (fun c => .bool (finB Fi c)) N
  be : Below w.heap.size w W
theorem BrA.on {w W W' : World} {N m R n : Nat} {Ed : List EdT} {Fi : List Int} {p6 p7 : Nat} {aE : Option Addr} {cE g gf : Nat} (h : BrA w W N m R n Ed Fi p6 p7 aE cE g gf) (d : Below W.heap.size W W') : BrA w W' N m R n Ed Fi p6 p7 aE cE g gf :=
  ⟨blk_on h.b6 d, blk_on h.b7 d, h.rw.on d, h.fi.below d h.fi.lt, h.be.trans (d.mono h.be.size)⟩
theorem mrw_tag {W : World} {g N k : Nat} {t t' : TypeId} {f : Nat → Value} {cs : Array Value} (h : Mrw W g t N f N) (z : W.heap[k]? = some (.cells cs t' (0, 0))) (ne : t ≠ t') : g ≠ k := fun e => by
  obtain ⟨cur, h1, _⟩ := h
  rw [e, z] at h1
  cases h1
  exact ne rfl
theorem brA_of {w W : World} {N m R n : Nat} {Ed : List EdT} {Fi : List Int} {p6 p7 : Nat} {aE : Option Addr} {cE g gf : Nat} (z1 : RwA 0 W m R Ed aE n cE g) (z3 : Mrw W gf 4 N (fun c => .bool (finB Fi c)) N) (z4 : W.heap[p6]? = some (.cells #[.int .i64 0, .slice none 0 0, .slice none 0 0] 67 (0, 0))) (z5 : W.heap[p7]? = some (.cells #[.slice none 0 0] 76 (0, 0))) (d : Below w.heap.size w W) (a4 : w.heap.size ≤ p6) (a5 : w.heap.size ≤ p7) :
    BrA w ((((W.setCell ⟨p6, 0, none⟩ (.int .i64 (m : Int))).setCell ⟨p6, 1, none⟩ (.slice aE n cE)).setCell ⟨p6, 2, none⟩ (.slice (some ⟨g, 0, none⟩) (R + 1) (R + 1))).setCell ⟨p7, 0, none⟩ (.slice (some ⟨gf, 0, none⟩) N N)) N m R n Ed Fi p6 p7 aE cE g gf := by
  have o1 := only3 W p6 0 1 2 (.int .i64 (m : Int)) (.slice aE n cE) (.slice (some ⟨g, 0, none⟩) (R + 1) (R + 1))
  have s1 := set3 W p6 _ _ _ (.int .i64 (m : Int)) (.slice aE n cE) (.slice (some ⟨g, 0, none⟩) (R + 1) (R + 1)) 67 z4
  have ne : p7 ≠ p6 := fun e => by rw [e, z4] at z5; cases z5
  have t5 := (o1.block p7 (Array.getElem?_eq_some_iff.1 z5).1 ne).trans z5
  have r1 := row_only z1.ow o1 (fun k hk e => by subst e; exact row_tag z1.ow z4 (by decide) hk)
  have m1 := z1.fi.only o1 (mrw_tag z1.fi z4 (by decide))
  have f1 := z3.only o1 (mrw_tag z3 z4 (by decide))
  have d1 := d.trans (o1.toBelow d.size (fun k hk => by rw [hk]; exact a4))
  generalize ((W.setCell ⟨p6, 0, none⟩ (.int .i64 (m : Int))).setCell ⟨p6, 1, none⟩ (.slice aE n cE)).setCell ⟨p6, 2, none⟩ (.slice (some ⟨g, 0, none⟩) (R + 1) (R + 1)) = W1 at *
  have o2 := only_set W1 p7 0 (.slice (some ⟨gf, 0, none⟩) N N)
  exact ⟨(o2.block p6 (Array.getElem?_eq_some_iff.1 s1).1 (fun e => ne e.symm)).trans s1, heap_setCell_same _ _ 0 _ 76 _ t5, ⟨row_only r1 o2 (fun k hk e => by subst e; exact row_tag r1 t5 (by decide) hk), m1.only o2 (mrw_tag m1 t5 (by decide)), Nat.zero_le _⟩, f1.only o2 (mrw_tag f1 t5 (by decide)), d1.trans (o2.toBelow d1.size (fun k hk => by rw [hk]; exact a5))⟩
/-- The ends from p by s, and the beginning where one of them is final. -/
def endL (Ed : List EdT) (Fi Bg : List Int) (p s : Nat) : List Int := if (toL (fromL Ed p (s : Int))).any (fun x => finB Fi x.toNat) then toL (fromL Ed p (s : Int)) ++ Bg else toL (fromL Ed p (s : Int))
def celL (Ed : List EdT) (Fi Bg : List Int) (p s : Nat) : List EdT := (riseL (endL Ed Fi Bg p s)).map fun q => ((p : Int), (s : Int), q)
def rowL (Ed : List EdT) (Fi Bg : List Int) (p k : Nat) : List EdT := (List.range k).flatMap (celL Ed Fi Bg p)
def brL (Ed : List EdT) (Fi Bg : List Int) (m p : Nat) : List EdT := (List.range p).flatMap (fun q => rowL Ed Fi Bg q m)
theorem rowL_next (Ed : List EdT) (Fi Bg : List Int) (p k : Nat) : rowL Ed Fi Bg p (k + 1) = rowL Ed Fi Bg p k ++ celL Ed Fi Bg p k := by simp [rowL, List.range_succ]
theorem brL_next (Ed : List EdT) (Fi Bg : List Int) (m p : Nat) : brL Ed Fi Bg m (p + 1) = brL Ed Fi Bg m p ++ rowL Ed Fi Bg p m := by simp [brL, List.range_succ]
theorem rowL_le (Ed : List EdT) (Fi Bg : List Int) (p : Nat) {k j : Nat} (h : k ≤ j) : (rowL Ed Fi Bg p k).length ≤ (rowL Ed Fi Bg p j).length := by
  induction h with
  | refl => exact Nat.le_refl _
  | step h ih => rw [rowL_next, List.length_append]; omega
theorem brL_le (Ed : List EdT) (Fi Bg : List Int) (m : Nat) {k j : Nat} (h : k ≤ j) : (brL Ed Fi Bg m k).length ≤ (brL Ed Fi Bg m j).length := by
  induction h with
  | refl => exact Nat.le_refl _
  | step h ih => rw [brL_next, List.length_append]; omega
theorem brL_part (Ed : List EdT) (Fi Bg : List Int) (m N : Nat) {p k : Nat} (hp : p < N) (hk : k ≤ m) : (brL Ed Fi Bg m p ++ rowL Ed Fi Bg p k).length ≤ (brL Ed Fi Bg m N).length := by
  have h1 := brL_le Ed Fi Bg m (show p + 1 ≤ N from hp)
  have h2 := rowL_le Ed Fi Bg p hk
  rw [brL_next, List.length_append] at h1
  rw [List.length_append]
  omega
theorem endL_len (Ed : List EdT) (Fi Bg : List Int) (p s : Nat) : (endL Ed Fi Bg p s).length ≤ Ed.length + Bg.length := by
  have h : (fromL Ed p (s : Int)).length ≤ Ed.length := List.length_filter_le _ _
  unfold endL
  split
  · rw [List.length_append, toL_len]; omega
  · rw [toL_len]; omega
/-- A list that can be read, behind a row of one's own. -/
theorem wpList_appL {ops : Array Oper} {rest : List Oper} {o : Oper} {a : Act} {Q : Exit → Act → World → Prop} {w : World} (hgd : o.guard = none) (s x : Operand)
    (ho : o.op = .call { callee := .builtin .append, args := #[s, x], argTypes := #[22, 22] }) (B : Nat) (v : Value) (X : List Int) (hs : a.eval s = v) (hown : w.ownsRow B 3 1 v X.length (X.map (Value.int .i64))) (ao : Option Addr) (n c : Nat) (Y : List Int) (hn : Y.length = n) (hz : ao = none → c = 0) (hx : a.eval x = .slice ao n c) (hr : RdN w ao Y) (hl : X.length + Y.length ≤ 16777216) (hB : B ≤ w.heap.size)
    (h : ∀ v' w', Hid (w'.ownsRow B 3 1 v' (X ++ Y).length ((X ++ Y).map (Value.int .i64))) → Hid (Only w w' (fun k => v.ownBlock = some k)) → wpList Tryz.prog ops Q rest (a.put o.dst v') w') : wpList Tryz.prog ops Q (o :: rest) a w := by
  obtain ⟨i3, hi3, hz30, hz31, hz32⟩ := info_parts info3
  subst hn
  cases ao with
  | none =>
    obtain rfl : Y = [] := by
      cases Y with
      | nil => rfl
      | cons y Y => obtain ⟨g, o, e, _⟩ := hr 0 (by simp); cases e
    obtain rfl := hz rfl
    refine wpList_append_own_none hgd s x 22 ho B 3 i3 1 Tryz.underlying22 hi3 v X.length (X.map (Value.int .i64)) hs hown hx ?_
    exact h v w (hide (by rw [List.append_nil]; exact hown)) (hide (Only.ofBelow (Below.refl _ _)))
  | some ad =>
    refine wpList_append_own _ hgd s x 22 ho B 3 i3 _ 1 8 Tryz.underlying22 hi3 hz30 hz31 hz32 rfl (by omega) v X.length (X.map (Value.int .i64)) hs hown ad Y.length c (Y.map (Value.int .i64)) hx (by simp) (fun j u hu => ?_) (by simp [Value.oneCell']) (by unfold maxLen; omega) (by omega) hB ?_
    · have hj : j < Y.length := by
        have := (List.getElem?_eq_some_iff.1 hu).1
        simpa using this
      obtain ⟨g, o, e, q⟩ := hr j hj
      cases e
      rw [Addr.add_lit, q]
      rw [List.getElem?_map, List.getElem?_eq_getElem hj] at hu
      exact hu
    · intro v2 w2 h2 hgr _
      exact h v2 w2 (hide (by rw [List.map_append, List.length_append]; exact h2)) (hide (grown_only hgr))
/-- What bridged has made. -/
structure BrI (wx : World) (E : List EdT) (v : Value) (wr : World) : Prop where
  ow : wr.ownsRow wx.heap.size 50 3 v E.length (E.flatMap encE)
  be : Below wx.heap.size wx wr
  le : E.length ≤ 65536
theorem celL_led (E : List EdT) (Ed : List EdT) (Fi Bg : List Int) (p s : Nat) : ledL E (p : Int) (s : Int) (riseL (endL Ed Fi Bg p s)) = E ++ celL Ed Fi Bg p s := rfl
/-- What bridged answers. -/
def BrP (w : World) (E : List EdT) (e : Ending) (w' : World) : Prop :=
  if 65536 < E.length then e = .returned (.tuple #[.slice none 0 0, .int .i64 8]) ∧ Below w.heap.size w w'
  else ∃ v, e = .returned (.tuple #[v, .int .i64 0]) ∧ w'.ownsRow w.heap.size 50 3 v E.length (E.flatMap encE) ∧ Below w.heap.size w w'
theorem brP_big {w w' : World} {E : List EdT} {e : Ending} (h : 65536 < E.length) (he : e = .returned (.tuple #[.slice none 0 0, .int .i64 8])) (d : Below w.heap.size w w') : BrP w E e w' := by
  unfold BrP
  rw [if_pos h]
  exact ⟨he, d⟩
theorem brP_ok {w w' : World} {E : List EdT} {e : Ending} {v : Value} (h : E.length ≤ 65536) (he : e = .returned (.tuple #[v, .int .i64 0])) (o : w'.ownsRow w.heap.size 50 3 v E.length (E.flatMap encE)) (d : Below w.heap.size w w') : BrP w E e w' := by
  unfold BrP
  rw [if_neg (by omega)]
  exact ⟨v, he, o, d⟩
set_option maxRecDepth 100000 in
set_option maxHeartbeats 4000000 in
theorem bridged_any (w : World) (N m n1 n2 n3 : Nat) (a1 a2 a3 aB : Option Addr) (c1 c2 c3 nB cB : Nat) (Ed : List EdT) (Fi Bg : List Int) (e2 : Fi.length = n2) (e3 : Ed.length = n3) (eB : Bg.length = nB) (zB : aB = none → cB = 0) (hN : N ≤ 4096) (hm : m ≤ 128) (hE : Hid (RdE w a3 Ed)) (hfi : Hid (RdN w a2 Fi)) (hBg : Hid (RdN w aB Bg)) (h2 : n2 ≤ 2000000) (h3 : n3 ≤ 2000000) (hB : nB ≤ 2000000) (hS : Hid (SsE Ed)) (hF : Hid (∀ e ∈ Ed, (0 ≤ e.1 ∧ e.1 < (N : Int)) ∧ (0 ≤ e.2.1 ∧ e.2.1 < (m : Int)) ∧ (0 ≤ e.2.2 ∧ e.2.2 < (N : Int)))) (hG : Hid (∀ x ∈ Fi, ∃ q : Nat, q < N ∧ x = (q : Int))) :
    Calls Tryz.prog 54 #[.agg #[.int .i64 (N : Int), .int .i64 (m : Int), .slice a1 n1 c1, .slice a2 n2 c2, .slice a3 n3 c3], .slice aB nB cB] w fun e w' => BrP w (brL Ed Fi Bg m N) e w' := by
  obtain ⟨R, hR⟩ : ∃ R, N * m = R := ⟨_, rfl⟩
  have hRl : R ≤ 524288 := by rw [← hR]; exact Nat.le_trans (Nat.mul_le_mul hN hm) (by decide)
  obtain ⟨W0, hW0⟩ : ∃ W0, w.alloc (.cells #[.int .i64 (N : Int), .int .i64 (m : Int), .slice a1 n1 c1, .slice a2 n2 c2, .slice a3 n3 c3] 25) = W0 := ⟨_, rfl⟩
  have HD : Hid (W0.heap[w.heap.size]? = some (.cells #[.int .i64 (N : Int), .int .i64 (m : Int), .slice a1 n1 c1, .slice a2 n2 c2, .slice a3 n3 c3] 25 (0, 0)) ∧ Below w.heap.size w W0 ∧ W0.heap.size = w.heap.size + 1) := hide (by rw [← hW0]; exact ⟨World.alloc_heap_new _ _, (Below.refl _ _).alloc (Nat.le_refl _) _, by simp⟩)
  have TR : Hid (∀ W : World, Below W0.heap.size W0 W → Calls Tryz.prog 34 #[.agg #[.int .i64 (N : Int), .int .i64 (m : Int), .slice a1 n1 c1, .slice a2 n2 c2, .slice a3 n3 c3]] W fun e w' => ∃ aE cE g, e = .returned (.agg #[.int .i64 (m : Int), .slice aE n3 cE, .slice (some ⟨g, 0, none⟩) (R + 1) (R + 1)]) ∧ Hid (RwA W.heap.size w' m R Ed aE n3 cE g) ∧ Below W.heap.size W w') := hide (fun W d => by
    have q := newRows_any W N m a1 a2 a3 n1 n2 c1 c2 c3 Ed hN hm (hide (hE.out.on (HD.out.2.1.trans (d.mono HD.out.2.1.size)))) (by omega) (hide (fun e he => ⟨(hF.out e he).1, (hF.out e he).2.1⟩))
    rw [hR, e3] at q
    exact q)
  have TF : Hid (∀ W : World, Below W0.heap.size W0 W → Calls Tryz.prog 38 #[.agg #[.int .i64 (N : Int), .int .i64 (m : Int), .slice a1 n1 c1, .slice a2 n2 c2, .slice a3 n3 c3]] W fun e w' => ∃ gf, e = .returned (.slice (some ⟨gf, 0, none⟩) N N) ∧ Hid (Mrw w' gf 4 N (fun c => .bool (finB Fi c)) N ∧ W.heap.size ≤ gf) ∧ Below W.heap.size W w') := hide (fun W d => by
    have q := finals_any W N (m : Int) a1 a2 a3 c1 c2 c3 n1 n3 Fi (hide (hfi.out.on (HD.out.2.1.trans (d.mono HD.out.2.1.size)))) hG (by omega) (by omega)
    rw [e2] at q
    exact q)
  have HR := hide hR
  have HL := hide (And.intro e2 (And.intro e3 eB))
  clear hR e2 e3 eB
  go_enter Tryz.func54, Tryz.ntmps54
  go_upto_region 1 with fail
  go_cut [6, 7] from 6 to 15 (fun v6 v7 W => ∃ p6 p7 aE cE g gf, v6 = .pointer (some ⟨p6, 0, none⟩) ∧ v7 = .pointer (some ⟨p7, 0, none⟩) ∧ Hid (BrA W0 W N m R n3 Ed Fi p6 p7 aE cE g gf))
  case first =>
    have hmo : MonIL 0 [vI 0 (.agg #[.int .i64 (N : Int), .int .i64 (m : Int), .slice a1 n1 c1, .slice a2 n2 c2, .slice a3 n3 c3]), pI 1 (rwsP m R n3 Ed), vI 2 (.agg #[.int .i64 (N : Int), .int .i64 (m : Int), .slice a1 n1 c1, .slice a2 n2 c2, .slice a3 n3 c3]), pI 3 (finP N Fi), pI 4 (b3P), pI 5 (b1P)] := ⟨vI_mono _ _, pI_mono rwsP_mono, vI_mono _ _, pI_mono finP_mono, pI_mono b3P_mono, pI_mono b1P_mono, trivial⟩
    refine wp_region_sl [vI 0 (.agg #[.int .i64 (N : Int), .int .i64 (m : Int), .slice a1 n1 c1, .slice a2 n2 c2, .slice a3 n3 c3]), pI 1 (rwsP m R n3 Ed), vI 2 (.agg #[.int .i64 (N : Int), .int .i64 (m : Int), .slice a1 n1 c1, .slice a2 n2 c2, .slice a3 n3 c3]), pI 3 (finP N Fi), pI 4 (b3P), pI 5 (b1P)] (by kernel_rfl) (by kernel_rfl) (by kernel_rfl) (by kernel_rfl) hmo ⟨?o0, ?o1, ?o2, ?o3, ?o4, ?o5, trivial⟩ ?fin
    case o0 =>
      intro At yy W hy hb d hd K hK
      have s2 : At.tmps.getD 2 undef = .pointer (some ⟨w.heap.size, 0, none⟩) := hb 2 rfl
      have s2' := s2
      rw [Array.getD_eq_getD_getElem?] at s2'
      clear hd hy hb
      have bx := blk_on HD.out.1 d
      have y0 : W.cell? ⟨w.heap.size, 0, none⟩ = some (.int .i64 (N : Int)) := cell_of bx rfl
      have y1 : W.cell? ⟨w.heap.size, 1, none⟩ = some (.int .i64 (m : Int)) := cell_of bx rfl
      have y2 : W.cell? ⟨w.heap.size, 2, none⟩ = some (.slice a1 n1 c1) := cell_of bx rfl
      have y3 : W.cell? ⟨w.heap.size, 3, none⟩ = some (.slice a2 n2 c2) := cell_of bx rfl
      have y4 : W.cell? ⟨w.heap.size, 4, none⟩ = some (.slice a3 n3 c3) := cell_of bx rfl
      clear bx
      go_simp
      exact hK.out _ W (stp_of hmo d (Below.refl _ _)) (if_pos rfl)
    case o1 =>
      intro At yy W hy hb d hd K hK
      have e0 : yy 0 = .agg #[.int .i64 (N : Int), .int .i64 (m : Int), .slice a1 n1 c1, .slice a2 n2 c2, .slice a3 n3 c3] := by obtain ⟨_, _, _, _, e⟩ := hd ⟨0, .data⟩ (by simp) rfl rfl; exact e
      have s12 := (hy 0 _ 12 rfl rfl).trans e0
      have s12' := s12
      rw [Array.getD_eq_getD_getElem?] at s12'
      clear hd hy hb
      go_simp
      go_wp2_with (go_at_call 34; refine (TR.out _ d).mono ?_; rintro e wa ⟨aE, cE, g, rfl, hR, da⟩)
      exact hK.out _ wa (stp_of hmo d da) ⟨aE, cE, g, if_pos rfl, hR.out.down⟩
    case o2 =>
      intro At yy W hy hb d hd K hK
      have s2 : At.tmps.getD 2 undef = .pointer (some ⟨w.heap.size, 0, none⟩) := hb 2 rfl
      have s2' := s2
      rw [Array.getD_eq_getD_getElem?] at s2'
      clear hd hy hb
      have bx := blk_on HD.out.1 d
      have y0 : W.cell? ⟨w.heap.size, 0, none⟩ = some (.int .i64 (N : Int)) := cell_of bx rfl
      have y1 : W.cell? ⟨w.heap.size, 1, none⟩ = some (.int .i64 (m : Int)) := cell_of bx rfl
      have y2 : W.cell? ⟨w.heap.size, 2, none⟩ = some (.slice a1 n1 c1) := cell_of bx rfl
      have y3 : W.cell? ⟨w.heap.size, 3, none⟩ = some (.slice a2 n2 c2) := cell_of bx rfl
      have y4 : W.cell? ⟨w.heap.size, 4, none⟩ = some (.slice a3 n3 c3) := cell_of bx rfl
      clear bx
      go_simp
      exact hK.out _ W (stp_of hmo d (Below.refl _ _)) (if_pos rfl)
    case o3 =>
      intro At yy W hy hb d hd K hK
      have e2 : yy 2 = .agg #[.int .i64 (N : Int), .int .i64 (m : Int), .slice a1 n1 c1, .slice a2 n2 c2, .slice a3 n3 c3] := by obtain ⟨_, _, _, _, e⟩ := hd ⟨2, .data⟩ (by simp) rfl rfl; exact e
      have s14 := (hy 2 _ 14 rfl rfl).trans e2
      have s14' := s14
      rw [Array.getD_eq_getD_getElem?] at s14'
      clear hd hy hb
      go_simp
      go_wp2_with (go_at_call 38; refine (TF.out _ d).mono ?_; rintro e wa ⟨gf, rfl, hR, da⟩)
      exact hK.out _ wa (stp_of hmo d da) ⟨gf, if_pos rfl, hR.out.1⟩
    case o4 =>
      intro At yy W hy hb d hd K hK
      clear hd hy hb
      go_simp
      exact hK.out _ _ (stp_of hmo d ((Below.refl _ _).alloc (Nat.le_refl _) _)) ⟨if_pos rfl, by simp, World.alloc_heap_new _ _⟩
    case o5 =>
      intro At yy W hy hb d hd K hK
      clear hd hy hb
      go_simp
      exact hK.out _ _ (stp_of hmo d ((Below.refl _ _).alloc (Nat.le_refl _) _)) ⟨if_pos rfl, by simp, World.alloc_heap_new _ _⟩
    case fin =>
      intro yy lo hi W hM
      show wpList _ _ _ [_, _] _ _
      have e0 : yy 0 = .agg #[.int .i64 (N : Int), .int .i64 (m : Int), .slice a1 n1 c1, .slice a2 n2 c2, .slice a3 n3 c3] := hM.fact 0 (by simp) rfl (notR_all 0 rfl)
      have e2 : yy 2 = .agg #[.int .i64 (N : Int), .int .i64 (m : Int), .slice a1 n1 c1, .slice a2 n2 c2, .slice a3 n3 c3] := hM.fact 2 (by simp) rfl (notR_all 2 rfl)
      obtain ⟨aE, cE, g, e1, z1⟩ := hM.fact 1 (by simp) rfl (notR_all 1 rfl)
      obtain ⟨gf, e3, z3⟩ := hM.fact 3 (by simp) rfl (notR_all 3 rfl)
      obtain ⟨e4, l4, z4⟩ := hM.fact 4 (by simp) rfl (notR_all 4 rfl)
      obtain ⟨e5, l5, z5⟩ := hM.fact 5 (by simp) rfl (notR_all 5 rfl)
      have dd := hM.d
      have a4 := hM.at' 4 (by simp) rfl
      have a5 := hM.at' 5 (by simp) rfl
      simp only [fills, Act.put, List.take, List.length, List.setIfInBounds_toArray, List.set_cons_zero, List.set_cons_succ, e0, e2, e1, e3, e4, e5]
      generalize lo 4 = p6 at z4 a4 l4 ⊢
      generalize lo 5 = p7 at z5 a5 l5 ⊢
      clear hM hmo e0 e2 e1 e3 e4 e5
      have HF := hide (brA_of (m := m) z1 z3 z4 z5 dd a4.1 a5.1)
      clear z1 z3 dd
      have ne : p6 ≠ p7 := fun e => by rw [e, z5] at z4; cases z4
      have o0 : W.cell? ⟨p6, 0, none⟩ = some (.int .i64 0) := cell_of z4 rfl
      have o1 : W.cell? ⟨p6, 1, none⟩ = some (.slice none 0 0) := cell_of z4 rfl
      have o2 : W.cell? ⟨p6, 2, none⟩ = some (.slice none 0 0) := cell_of z4 rfl
      have f0 : W.frozen? ⟨p6, 0, none⟩ = false := fz_of z4
      have f1 : W.frozen? ⟨p6, 1, none⟩ = false := fz_of z4
      have f2 : W.frozen? ⟨p6, 2, none⟩ = false := fz_of z4
      have q0 : W.cell? ⟨p7, 0, none⟩ = some (.slice none 0 0) := cell_of z5 rfl
      have g0 : W.frozen? ⟨p7, 0, none⟩ = false := fz_of z5
      clear z4 z5
      go_wp2_with fail
      go_meet
      exact ⟨p6, p7, aE, cE, g, gf, rfl, rfl, HF⟩
  case rest =>
    obtain ⟨p6, p7, aE, cE, g, gf, rfl, rfl, HA⟩ := hcut
    rename World => wx
    have y0 : wx.cell? ⟨w.heap.size, 0, none⟩ = some (.int .i64 (N : Int)) := cell_of (blk_on HD.out.1 HA.out.be) rfl
    have H0 : Hid (BrI wx (brL Ed Fi Bg m 0) (.slice none 0 0) wx) := hide ⟨World.ownsRow_nil _ _ _ _, Below.refl _ _, Nat.zero_le _⟩
    clear TR TF
    go_wp2_with fail
    clear y0
    go_loopw [8, 18] (fun v8 v18 wr => ∃ p : Nat, p ≤ N ∧ v18 = .int .i64 (p : Int) ∧ Hid (BrI wx (brL Ed Fi Bg m p) v8 wr)) (fun _ v18 _ => N - (intOf v18).toNat)
    case atStart => exact ⟨0, Nat.zero_le _, rfl, H0⟩
    case round =>
      obtain ⟨p, hp, rfl, HY⟩ := hrel
      clear H0
      by_cases hpl : p < N
      · have i0 : (p : Int) < (N : Int) := by omega
        have y1 : wr.cell? ⟨w.heap.size, 1, none⟩ = some (.int .i64 (m : Int)) := cell_of (blk_on HD.out.1 (HA.out.on HY.out.be).be) rfl
        rename World => wo
        have H1 : Hid (BrI wx (brL Ed Fi Bg m p ++ rowL Ed Fi Bg p 0) u8 wo) := hide (by
          have q := HY.out
          rw [show rowL Ed Fi Bg p 0 = [] from rfl, List.append_nil]
          exact q)
        clear HY
        go_wp2_with fail
        clear y1
        go_loopw [8, 23] (fun v8 v23 wr => ∃ s : Nat, s ≤ m ∧ v23 = .int .i64 (s : Int) ∧ Hid (BrI wx (brL Ed Fi Bg m p ++ rowL Ed Fi Bg p s) v8 wr)) (fun _ v23 _ => m - (intOf v23).toNat)
        case atStart => exact ⟨0, Nat.zero_le _, rfl, H1⟩
        case round =>
          obtain ⟨s, hs, rfl, HI⟩ := hrel
          clear H1
          by_cases hsl : s < m
          · have j0 : (s : Int) < (m : Int) := by omega
            obtain ⟨k, hk⟩ : ∃ k, p * m + s = k := ⟨_, rfl⟩
            have hkR : k < R := by
              rw [← hk, ← HR.out]
              have : (p + 1) * m ≤ N * m := Nat.mul_le_mul_right _ hpl
              rw [Nat.add_mul, Nat.one_mul] at this
              omega
            have HAr := hide (HA.out.on HI.out.be)
            have z0 : wr.cell? ⟨p6, 0, none⟩ = some (.int .i64 (m : Int)) := cell_of HAr.out.b6 rfl
            have z1 : wr.cell? ⟨p6, 1, none⟩ = some (.slice aE n3 cE) := cell_of HAr.out.b6 rfl
            have z2 : wr.cell? ⟨p6, 2, none⟩ = some (.slice (some ⟨g, 0, none⟩) (R + 1) (R + 1)) := cell_of HAr.out.b6 rfl
            have TO := of_any wr 0 m R p s n3 k aE cE g Ed HL.out.2.1 (hide HAr.out.rw) hS (hide (fun e he => (hF.out e he).2.1)) hsl hk hkR hRl (by omega)
            have HFr : Hid ((∀ x ∈ toL (fromL Ed p (s : Int)), ∃ q : Nat, q < N ∧ x = (q : Int)) ∧ (fromL Ed p (s : Int)).length ≤ n3) := hide ⟨fun x hx => by
              obtain ⟨e, he, rfl⟩ := List.mem_map.1 hx
              have q := (hF.out e (List.mem_filter.1 he).1).2.2
              obtain ⟨t, ht⟩ := Int.eq_ofNat_of_zero_le q.1
              exact ⟨t, by omega, ht⟩, by rw [← HL.out.2.1]; exact List.length_filter_le _ _⟩
            have HEn : Hid (endL Ed Fi Bg p s = if (toL (fromL Ed p (s : Int))).any (fun x => finB Fi x.toNat) then toL (fromL Ed p (s : Int)) ++ Bg else toL (fromL Ed p (s : Int))) := hide rfl
            have HTL := hide (toL_len (fromL Ed p (s : Int)))
            have HKK := hide (And.intro hk hkR)
            clear hk hkR
            generalize toL (fromL Ed p (s : Int)) = X at TO HFr HEn HTL
            generalize (fromL Ed p (s : Int)).length = nf at TO HFr HTL
            have hnf : nf ≤ 2000000 := by have := HFr.out.2; omega
            obtain ⟨y, hy⟩ : ∃ y, X.any (fun x => finB Fi x.toNat) = y := ⟨_, rfl⟩
            rw [hy] at HEn
            have HYY := hide hy
            clear hy
            go_wp2_with (go_at_call 41; refine TO.mono ?_; rintro e w1 ⟨ao, co, rfl, H1⟩)
            clear TO z0 z1 z2
            have T62 := clone_own w1 ao nf co X HTL.out (hide (H1.out.1.on H1.out.2.2)) (by omega)
            go_wp2_with (go_at_call 73; refine T62.mono ?_; rintro e w2 ⟨v2, rfl, H2⟩; obtain ⟨b2, d2, rfl⟩ := own_slice H2.out.1)
            clear T62
            have HB2 : Hid (Below wr.heap.size wr w2) := hide (H1.out.2.2.trans (H2.out.2.mono H1.out.2.2.size))
            have T52 := cont122 w2 b2 d2 X p7 gf N (finB Fi) (hide (cell_of (blk_on HAr.out.b7 HB2.out) rfl)) (hide (HAr.out.fi.below HB2.out HAr.out.fi.lt)) (hide HFr.out.1) (hide (own_rdN (c := d2) (by rw [HTL.out]; exact H2.out.1))) (by rw [HTL.out]; omega)
            rw [HTL.out, HYY.out] at T52
            have G3 : Hid (∀ w3, Below w2.heap.size w2 w3 → w3.ownsRow wx.heap.size 3 1 (.slice b2 nf d2) nf (X.map (Value.int .i64)) ∧ Below wr.heap.size wr w3 ∧ wx.heap.size ≤ w3.heap.size) := hide (fun w3 d3 => by
              have q1 := HI.out.be.size
              have q2 := H1.out.2.2.size
              have q3 := HB2.out.size
              have q4 := d3.size
              exact ⟨owns_down (own_below H2.out.1 d3) (by omega), HB2.out.trans (d3.mono q3), by omega⟩)
            clear H1 HAr
            obtain ⟨E, hE'⟩ : ∃ E, brL Ed Fi Bg m p ++ rowL Ed Fi Bg p s = E := ⟨_, rfl⟩
            have HEE : Hid (brL Ed Fi Bg m p ++ rowL Ed Fi Bg p (s + 1) = ledL E (p : Int) (s : Int) (riseL (endL Ed Fi Bg p s)) ∧ (brL Ed Fi Bg m p ++ rowL Ed Fi Bg p (s + 1)).length ≤ (brL Ed Fi Bg m N).length) := hide ⟨by rw [celL_led, ← hE', rowL_next, List.append_assoc], brL_part Ed Fi Bg m N hpl hsl⟩
            rw [hE'] at HI
            clear hE'
            have HEL : Hid ((endL Ed Fi Bg p s).length ≤ 4194304) := hide (by have q := endL_len Ed Fi Bg p s; have := HL.out; omega)
            generalize endL Ed Fi Bg p s = Z at HEn HEE HEL
            have GI : Hid (∀ w3, Below wr.heap.size wr w3 → w3.ownsRow wx.heap.size 50 3 u8 E.length (E.flatMap encE) ∧ Below wx.heap.size wx w3) := hide (fun w3 d => ⟨own_below HI.out.ow d, HI.out.be.trans (d.mono HI.out.be.size)⟩)
            have HIl := hide HI.out.le
            clear HI HFr HB2 H2
            obtain ⟨E2, hE2⟩ : ∃ E2, brL Ed Fi Bg m p ++ rowL Ed Fi Bg p (s + 1) = E2 := ⟨_, rfl⟩
            rw [hE2] at HEE
            have HE2 := hide hE2
            clear hE2
            have key : ∀ (v4 : Value) (w4 : World), Hid (w4.ownsRow wx.heap.size 3 1 v4 Z.length (Z.map (Value.int .i64))) → Hid (w4.ownsRow wx.heap.size 50 3 u8 E.length (E.flatMap encE)) → Hid (Below wx.heap.size wx w4) → Calls Tryz.prog 75 #[u8, .int .i64 (p : Int), .int .i64 (s : Int), v4] w4 fun e w' => ∃ b5 d5, e = .returned (.slice b5 E2.length d5) ∧ Hid (w'.ownsRow wx.heap.size 50 3 (.slice b5 E2.length d5) E2.length (E2.flatMap encE) ∧ Below wx.heap.size wx w') := fun v4 w4 o1 o2 o3 => by
              refine (lead_any w4 wx.heap.size u8 v4 E (p : Int) (s : Int) Z.length Z rfl o2 o1 o3.out.size HEL.out (by have := HIl.out; omega)).mono ?_
              rintro e w5 ⟨v5, rfl, H5⟩
              rw [HEE.out.1]
              obtain ⟨b5, d5, rfl⟩ := own_slice H5.out.1
              exact ⟨b5, d5, rfl, hide ⟨H5.out.1, o3.out.trans H5.out.2⟩⟩
            have HK2 := hide key
            clear key
            have HZ := hide HEE.out.2
            clear HEE HEL
            cases y with
            | true =>
              obtain rfl := HTL.out
              go_wp2_with (first
                | (go_at_call 28; refine T52.mono ?_; rintro e w3 ⟨rfl, d3⟩; have H3 := hide (G3.out w3 d3); have HI3 := hide (GI.out w3 H3.out.2.1); clear d3)
                | (at_builtin; refine wpList_appL rfl _ _ rfl wx.heap.size (.slice b2 X.length d2) X rfl H3.out.1 aB nB cB Bg HL.out.2.2 zB rfl (hBg.out.on (HD.out.2.1.trans ((HA.out.be.trans (HI3.out.2.mono HA.out.be.size)).mono HD.out.2.1.size))) (by have := HL.out.2.2; omega) H3.out.2.2 ?_; intro v4 w4 HO4 HG4))
              have T := HK2.out v4 w4 (hide (by rw [HEn.out]; exact HO4.out)) (hide (row_only HI3.out.1 HG4.out (fun k hk hk2 => rows_differ HI3.out.1 H3.out.1 (by decide) hk hk2))) (hide (HI3.out.2.trans (HG4.out.toBelow H3.out.2.2 (fun k hk => (H3.out.1.lt k hk).1))))
              by_cases hbig : 65536 < E2.length
              · have jb : (65536 : Int) < (E2.length : Int) := by omega
                go_wp2_with (go_at_call 75; refine T.mono ?_; rintro e w5 ⟨b5, d5, rfl, H5⟩)
                refine bodyPost_ret (results_tmp2 rfl _ _ _) rfl ?_
                refine brP_big (Nat.lt_of_lt_of_le hbig HZ.out) rfl ?_
                have q := HA.out.be.trans (H5.out.2.mono HA.out.be.size)
                exact HD.out.2.1.trans (q.mono HD.out.2.1.size)
              · have jb : ¬ (65536 : Int) < (E2.length : Int) := by omega
                go_wp2_with (go_at_call 75; refine T.mono ?_; rintro e w5 ⟨b5, d5, rfl, H5⟩)
                refine ⟨⟨s + 1, by omega, by go_num, hide (by rw [HE2.out]; exact ⟨H5.out.1, H5.out.2, by omega⟩)⟩, by simp [intOf]; omega⟩
            | false =>
              go_wp2_with (go_at_call 28; refine T52.mono ?_; rintro e w3 ⟨rfl, d3⟩; have H3 := hide (G3.out w3 d3); have HI3 := hide (GI.out w3 H3.out.2.1); clear d3)
              have T := HK2.out (.slice b2 nf d2) w3 (hide (by rw [HEn.out, if_neg (by decide), HTL.out]; exact H3.out.1)) (hide HI3.out.1) (hide HI3.out.2)
              by_cases hbig : 65536 < E2.length
              · have jb : (65536 : Int) < (E2.length : Int) := by omega
                go_wp2_with (go_at_call 75; refine T.mono ?_; rintro e w5 ⟨b5, d5, rfl, H5⟩)
                refine bodyPost_ret (results_tmp2 rfl _ _ _) rfl ?_
                refine brP_big (Nat.lt_of_lt_of_le hbig HZ.out) rfl ?_
                have q := HA.out.be.trans (H5.out.2.mono HA.out.be.size)
                exact HD.out.2.1.trans (q.mono HD.out.2.1.size)
              · have jb : ¬ (65536 : Int) < (E2.length : Int) := by omega
                go_wp2_with (go_at_call 75; refine T.mono ?_; rintro e w5 ⟨b5, d5, rfl, H5⟩)
                refine ⟨⟨s + 1, by omega, by go_num, hide (by rw [HE2.out]; exact ⟨H5.out.1, H5.out.2, by omega⟩)⟩, by simp [intOf]; omega⟩
          · obtain rfl : m = s := by omega
            have j0 : ¬ (m : Int) < (m : Int) := by omega
            have HN : Hid (BrI wx (brL Ed Fi Bg m (p + 1)) u8 wr) := hide (by rw [brL_next]; exact HI.out)
            clear HI
            go_wp2_with fail
            refine ⟨⟨p + 1, by omega, by go_num, HN⟩, by simp [intOf]; omega⟩
      · obtain rfl : N = p := by omega
        have i0 : ¬ (N : Int) < (N : Int) := by omega
        go_wp2_with fail
        refine bodyPost_ret (results_tmp2 rfl _ _ _) rfl ?_
        have q := HA.out.be.trans (HY.out.be.mono HA.out.be.size)
        have s1 := HD.out.2.2
        have s2 := HA.out.be.size
        exact brP_ok HY.out.le rfl (owns_down HY.out.ow (by omega)) (HD.out.2.1.trans (q.mono HD.out.2.1.size))
/-! ### movedStates: numbers, each moved by one number -/
def movN (L : List Int) (b : Int) : List Int := L.map (· + b)
theorem movN_len (L : List Int) (b : Int) : (movN L b).length = L.length := by simp [movN]
theorem mrw_row {W : World} {B H n : Nat} {K : List Int} (h : Mrw W H 3 n (fun c => .int .i64 (K.getD c 0)) n) (hK : K.length = n) (hB : B ≤ H) (hn : n ≤ maxLen) : W.ownsRow B 3 1 (.slice (some ⟨H, 0, none⟩) n n) n (K.map (Value.int .i64)) := by
  obtain ⟨cur, h1, h2, h3⟩ := h
  refine ⟨by simp [hK], .inr ⟨H, n, cur, rfl, hB, h1, Nat.le_refl _, hn, by omega, ?_⟩⟩
  rw [Nat.mul_one, List.take_of_length_le (by simp; omega)]
  apply List.ext_getElem?
  intro j
  by_cases hj : j < n
  · rw [Array.getElem?_toList, h3 j hj, List.getElem?_map, List.getElem?_eq_getElem (by omega)]
    simp [List.getD, List.getElem?_eq_getElem (show j < K.length by omega)]
  · rw [List.getElem?_eq_none (by simp; omega), List.getElem?_eq_none (by simp; omega)]
set_option maxRecDepth 100000 in
set_option maxHeartbeats 2000000 in
theorem movedS_any (w : World) (ao : Option Addr) (n c : Nat) (L : List Int) (b : Int) (hn : L.length = n) (hA : Hid (RdN w ao L)) (hl : n ≤ 4194304) (hb : 0 ≤ b ∧ b ≤ 4194304) (hin : Hid (∀ x ∈ L, 0 ≤ x ∧ x ≤ 4194304)) :
    Calls Tryz.prog 57 #[.slice ao n c, .int .i64 b] w fun e w' => ∃ g, e = .returned (.slice (some ⟨g, 0, none⟩) n n) ∧ Hid (w'.ownsRow w.heap.size 3 1 (.slice (some ⟨g, 0, none⟩) n n) n ((movN L b).map (Value.int .i64)) ∧ Below w.heap.size w w') := by
  have HN := hide hn
  clear hn
  obtain ⟨i9, hi9, hz90, hz91, hz92⟩ := info_parts info3
  go_enter Tryz.func57, Tryz.ntmps57
  go_upto_region 2 with (at_make; refine wpList_make_full _ rfl _ _ 22 rfl w.heap.size 3 i9 (.int .i64 0) 1 Tryz.underlying22 hi9 hz90 hz91 _ _ _ _ n rfl rfl (by go_num) (by go_num) (by rw [hz92]; omega) (by unfold maxLen; omega) (Nat.le_refl _) ?_; intro w6 ho hg)
  have D6 : Below w.heap.size w w6 := (Below.refl _ _).grown hg (Nat.le_refl _) (by intro k hk; cases hk)
  have M6 : Mrw w6 w.heap.size 3 n (fun c => .int .i64 ((movN L b).getD c 0)) 0 := by
    have q := Mrw.ofRow (fun c => .int .i64 ((movN L b).getD c 0)) ho
    rw [Nat.mul_one] at q
    exact q
  have H6 := hide (And.intro M6 D6)
  clear ho hg D6 M6
  go_wp2_with fail
  go_loopw [13] (fun iv wr => ∃ i : Nat, i ≤ n ∧ iv = .int .i64 (i : Int) ∧ Hid (Mrw wr w.heap.size 3 n (fun c => .int .i64 ((movN L b).getD c 0)) i ∧ Below w.heap.size w wr)) (fun iv _ => n - (intOf iv).toNat)
  case atStart => exact ⟨0, Nat.zero_le _, rfl, H6⟩
  case round =>
    obtain ⟨i, hi, rfl, HY⟩ := hrel
    clear H6
    by_cases hlt : i < n
    · have l0 : (i : Int) < (n : Int) := by omega
      have i0 : (0 : Int) ≤ (i : Int) := by omega
      have hil : i < L.length := by have := HN.out; omega
      obtain ⟨g, o, ea, ca⟩ := (hA.out.on HY.out.2) i hil
      subst ea
      have hx := hin.out _ (List.getElem_mem hil)
      have HV : Hid ((movN L b).getD i 0 = L[i] + b) := hide (by simp [movN, List.getD, List.getElem?_eq_getElem hil])
      generalize L[i] = x at ca hx HV
      have ew : IntKind.i64.wrap (x + b) = x + b := by rw [IntKind.wrap_i64]; omega
      obtain ⟨u, cu⟩ := HY.out.1.cell i hlt
      have zu := HY.out.1.fz i
      have J : Hid (Mrw (wr.setCell ⟨w.heap.size, i, none⟩ (.int .i64 (x + b))) w.heap.size 3 n (fun c => .int .i64 ((movN L b).getD c 0)) (i + 1) ∧ Below w.heap.size w (wr.setCell ⟨w.heap.size, i, none⟩ (.int .i64 (x + b)))) := hide ⟨HY.out.1.put hlt _ (by rw [HV.out]), HY.out.2.setCell (Nat.le_refl _) _⟩
      clear HY
      go_wp2_with fail
      go_roundw
      case rel => exact ⟨i + 1, by omega, by go_num, J⟩
      case measure => simp [intOf]; omega
    · have l0 : ¬ (i : Int) < (n : Int) := by omega
      obtain rfl : i = n := by omega
      have J := hide (And.intro (mrw_row HY.out.1 ((movN_len L b).trans HN.out) (Nat.le_refl _) (by unfold maxLen; omega)) HY.out.2)
      clear HY
      go_wp2_with fail
      go_ret
      exact ⟨_, rfl, J⟩
/-! ### The document's Edges -/
theorem riseE_one {L : List EdT} (h : L.length < 2) : riseE L = L :=
  ss_eq _ _ (riseE_ss _) (by
    match L, h with
    | [], _ => exact List.Pairwise.nil
    | [x], _ => exact List.pairwise_singleton _ _) fun x => riseE_iff L x
theorem RdE.take {W : World} {ao : Option Addr} {L : List EdT} (h : RdE W ao L) (k : Nat) : RdE W ao (L.take k) := fun j hj => by
  have hj2 : j < L.length := by rw [List.length_take] at hj; omega
  obtain ⟨g, o, e, q⟩ := h j hj2
  exact ⟨g, o, e, by simpa using q⟩
theorem RdE.drop {W : World} {g o : Nat} {L : List EdT} (h : RdE W (some ⟨g, o, none⟩) L) (k : Nat) : RdE W (some ⟨g, o + k * 3, none⟩) (L.drop k) := fun j hj => by
  have hj2 : k + j < L.length := by rw [List.length_drop] at hj; omega
  obtain ⟨g', o', e, q1, q2, q3⟩ := h (k + j) hj2
  cases e
  refine ⟨g, o + k * 3, rfl, ?_⟩
  have e1 : o + k * 3 + j * 3 = o + (k + j) * 3 := by omega
  rw [e1]
  simpa using And.intro q1 (And.intro q2 q3)
/-! ### The document's below, Valid, Normal -/
theorem may_not {n m : Int} {St Fi : List Int} {Ed : List EdT} (h : mayA n m St Fi Ed = true → False) : mayA n m St Fi Ed = false := by
  cases q : mayA n m St Fi Ed with
  | false => rfl
  | true => exact (h q).elim
set_option maxRecDepth 100000 in
theorem below_any (w : World) (ao : Option Addr) (L : List Int) (c : Nat) (n : Int) (hr : Hid (RdN w ao L)) (hl : L.length ≤ 4194304) :
    Calls Tryz.prog 79 #[.slice ao L.length c, .int .i64 n] w fun e w' => e = .returned (.bool (L.all (inB n))) ∧ w' = w := by
  go_enter Tryz.func79, Tryz.ntmps79
  go_wp2
  go_loopw [5] (fun iv wr => ∃ i : Nat, i ≤ L.length ∧ iv = .int .i64 i ∧ Hid ((L.take i).all (inB n) = true) ∧ wr = w) (fun iv _ => L.length - (intOf iv).toNat)
  case atStart => exact ⟨0, Nat.zero_le _, rfl, hide (by simp), rfl⟩
  case round =>
    obtain ⟨i, hi, rfl, HY, hw⟩ := hrel
    obtain rfl := hw.symm
    clear hw
    by_cases hlt : i < L.length
    · have l0 : (i : Int) < (L.length : Int) := by omega
      have l1 : (0 : Int) ≤ (i : Int) := by omega
      have iw : IntKind.i64.wrap ((i : Int) + 1) = (i : Int) + 1 := by rw [IntKind.wrap_i64]; omega
      obtain ⟨g, o, rfl, q⟩ := hr.out i hlt
      by_cases hb : inB n L[i] = true
      · have HN : Hid ((L.take (i + 1)).all (inB n) = true) := hide (by rw [List.take_succ_eq_append_getElem hlt, List.all_append, HY.out]; simp [hb])
        have h2 := inB_iff.1 hb
        clear hb
        generalize L[i] = x at q h2
        have x0 : ¬ x < 0 := by omega
        have x1 : ¬ x ≥ n := by omega
        clear h2
        go_wp2
        go_roundw
        case rel => exact ⟨i + 1, by omega, by go_num, HN, by simp⟩
        case measure => simp [intOf]; omega
      · have HD : Hid (L.all (inB n) = false) := hide (by
          rw [List.all_eq_false]
          exact ⟨L[i], List.getElem_mem hlt, hb⟩)
        have h2 : ¬ (0 ≤ L[i] ∧ L[i] < n) := fun h => hb (inB_iff.2 h)
        clear hb
        generalize L[i] = x at q h2
        by_cases x0 : x < 0
        · clear h2
          go_wp2
          refine bodyPost_ret (results_tmp rfl _ _ _) rfl ?_
          exact ⟨by rw [HD.out]; rfl, rfl⟩
        · have x1 : x ≥ n := by omega
          clear h2
          go_wp2
          refine bodyPost_ret (results_tmp rfl _ _ _) rfl ?_
          exact ⟨by rw [HD.out]; rfl, rfl⟩
    · have l0 : ¬ (i : Int) < (L.length : Int) := by omega
      have HD : Hid (L.all (inB n) = true) := hide (by have := HY.out; rwa [List.take_of_length_le (by omega)] at this)
      go_wp2
      refine bodyPost_ret (results_tmp rfl _ _ _) rfl ?_
      exact ⟨by rw [HD.out]; rfl, rfl⟩
set_option maxRecDepth 100000 in
set_option maxHeartbeats 4000000 in
theorem rvalid_any (w : World) (n m : Int) (a1 a2 a3 : Option Addr) (c1 c2 c3 : Nat) (St Fi : List Int) (Ed : List EdT) (hA : Hid (RdA w a1 a2 a3 St Fi Ed)) (h1 : St.length ≤ 4194304) (h2 : Fi.length ≤ 4194304) (h3 : Ed.length ≤ 4194304) :
    Calls Tryz.prog 78 #[.agg #[.int .i64 n, .int .i64 m, .slice a1 St.length c1, .slice a2 Fi.length c2, .slice a3 Ed.length c3]] w fun e w' => e = .returned (.int .i64 (if mayA n m St Fi Ed then 0 else 2)) ∧ Below w.heap.size w w' := by
  obtain ⟨r, hr⟩ : ∃ r : Int, (if mayA n m St Fi Ed then (0 : Int) else 2) = r := ⟨_, rfl⟩
  rw [hr]
  have HRr := hide hr
  clear hr
  obtain ⟨W0, hW0⟩ : ∃ W0, w.alloc (.cells #[.int .i64 n, .int .i64 m, .slice a1 St.length c1, .slice a2 Fi.length c2, .slice a3 Ed.length c3] 25) = W0 := ⟨_, rfl⟩
  have D0 : Hid (Below w.heap.size w W0) := hide (by rw [← hW0]; exact (Below.refl _ _).alloc (Nat.le_refl _) _)
  have B0 : Hid (W0.heap[w.heap.size]? = some (.cells #[.int .i64 n, .int .i64 m, .slice a1 St.length c1, .slice a2 Fi.length c2, .slice a3 Ed.length c3] 25 (0, 0))) := hide (by rw [← hW0]; exact World.alloc_heap_new _ _)
  have y0 : W0.cell? ⟨w.heap.size, 0, none⟩ = some (.int .i64 n) := cell_of B0.out rfl
  have y1 : W0.cell? ⟨w.heap.size, 1, none⟩ = some (.int .i64 m) := cell_of B0.out rfl
  have y2 : W0.cell? ⟨w.heap.size, 2, none⟩ = some (.slice a1 St.length c1) := cell_of B0.out rfl
  have y3 : W0.cell? ⟨w.heap.size, 3, none⟩ = some (.slice a2 Fi.length c2) := cell_of B0.out rfl
  have y4 : W0.cell? ⟨w.heap.size, 4, none⟩ = some (.slice a3 Ed.length c3) := cell_of B0.out rfl
  have T1 := below_any W0 a1 St c1 n (hide (hA.out.s.on D0.out)) h1
  have T2 := below_any W0 a2 Fi c2 n (hide (hA.out.f.on D0.out)) h2
  go_enter Tryz.func78, Tryz.ntmps78
  by_cases x0 : n < 0
  · have HM : Hid (mayA n m St Fi Ed = false) := hide (may_not fun h => by
      have := may_parts h
      omega)
    go_wp2_with fail
    refine bodyPost_ret (results_tmp rfl _ _ _) rfl ?_
    exact ⟨by rw [← HRr.out, HM.out]; rfl, D0.out⟩
  · by_cases x1 : n > 4096
    · have HM : Hid (mayA n m St Fi Ed = false) := hide (may_not fun h => by
        have := may_parts h
        omega)
      go_wp2_with fail
      refine bodyPost_ret (results_tmp rfl _ _ _) rfl ?_
      exact ⟨by rw [← HRr.out, HM.out]; rfl, D0.out⟩
    · by_cases x2 : m < 0
      · have HM : Hid (mayA n m St Fi Ed = false) := hide (may_not fun h => by
          have := may_parts h
          omega)
        go_wp2_with fail
        refine bodyPost_ret (results_tmp rfl _ _ _) rfl ?_
        exact ⟨by rw [← HRr.out, HM.out]; rfl, D0.out⟩
      · by_cases x3 : m > 128
        · have HM : Hid (mayA n m St Fi Ed = false) := hide (may_not fun h => by
            have := may_parts h
            omega)
          go_wp2_with fail
          refine bodyPost_ret (results_tmp rfl _ _ _) rfl ?_
          exact ⟨by rw [← HRr.out, HM.out]; rfl, D0.out⟩
        · by_cases x4 : (Ed.length : Int) > 65536
          · have HM : Hid (mayA n m St Fi Ed = false) := hide (may_not fun h => by
              have := may_parts h
              omega)
            go_wp2_with fail
            refine bodyPost_ret (results_tmp rfl _ _ _) rfl ?_
            exact ⟨by rw [← HRr.out, HM.out]; rfl, D0.out⟩
          · cases hs : St.all (inB n) with
            | false =>
              rw [hs] at T1
              have HM : Hid (mayA n m St Fi Ed = false) := hide (may_not fun h => by
                have := (may_parts h).2.2.2.1
                rw [hs] at this
                cases this)
              clear hs T2
              go_wp2_with (go_at_call 79; refine T1.mono ?_; rintro e wa ⟨rfl, hw⟩; obtain rfl := hw.symm; clear hw)
              refine bodyPost_ret (results_tmp rfl _ _ _) rfl ?_
              exact ⟨by rw [← HRr.out, HM.out]; rfl, D0.out⟩
            | true =>
              rw [hs] at T1
              cases hf : Fi.all (inB n) with
              | false =>
                rw [hf] at T2
                have HM : Hid (mayA n m St Fi Ed = false) := hide (may_not fun h => by
                  have := (may_parts h).2.2.2.2.1
                  rw [hf] at this
                  cases this)
                clear hf hs
                go_wp2_with (first
                  | (go_at_call 79; refine T1.mono ?_; rintro e wa ⟨rfl, hw⟩; obtain rfl := hw.symm; clear hw T1)
                  | (go_at_call 79; refine T2.mono ?_; rintro e wa ⟨rfl, hw⟩; obtain rfl := hw.symm; clear hw))
                refine bodyPost_ret (results_tmp rfl _ _ _) rfl ?_
                exact ⟨by rw [← HRr.out, HM.out]; rfl, D0.out⟩
              | true =>
                rw [hf] at T2
                have HSF := hide (And.intro hs hf)
                clear hf hs
                have HNM : Hid ((0 ≤ n ∧ n ≤ 4096) ∧ (0 ≤ m ∧ m ≤ 128) ∧ Ed.length ≤ 65536) := hide (by omega)
                go_wp2_with (first
                  | (go_at_call 79; refine T1.mono ?_; rintro e wa ⟨rfl, hw⟩; obtain rfl := hw.symm; clear hw T1)
                  | (go_at_call 79; refine T2.mono ?_; rintro e wa ⟨rfl, hw⟩; obtain rfl := hw.symm; clear hw T2))
                go_loopw [3] (fun iv wr => ∃ i : Nat, i ≤ Ed.length ∧ iv = .int .i64 i ∧ Hid ((∀ e ∈ Ed.take i, edOk n m e = true) ∧ Below W0.heap.size W0 wr)) (fun iv _ => Ed.length - (intOf iv).toNat)
                case atStart => exact ⟨0, Nat.zero_le _, rfl, hide ⟨by simp, Below.refl _ _⟩⟩
                case round =>
                  obtain ⟨i, hi, rfl, HY⟩ := hrel
                  clear y0 y1 y2 y3 y4
                  have KE := hide (D0.out.trans (HY.out.2.mono D0.out.size))
                  by_cases hlt : i < Ed.length
                  · have l0 : (i : Int) < (Ed.length : Int) := by omega
                    have l1 : (0 : Int) ≤ (i : Int) := by omega
                    have iw : IntKind.i64.wrap ((i : Int) + 1) = (i : Int) + 1 := by rw [IntKind.wrap_i64]; omega
                    obtain ⟨g, o, haa, q1, q2, q3⟩ := (hA.out.e.on KE.out) i hlt
                    subst haa
                    have HIN := hide (List.getElem_mem hlt)
                    have HTK := hide (List.take_succ_eq_append_getElem hlt)
                    generalize Ed[i] = x at q1 q2 q3 HIN HTK
                    obtain ⟨X1, hX1⟩ : ∃ X1, wr.alloc (.cells #[.int .i64 x.1, .int .i64 x.2.1, .int .i64 x.2.2] 50) = X1 := ⟨_, rfl⟩
                    have HX : Hid (X1.heap[wr.heap.size]? = some (.cells #[.int .i64 x.1, .int .i64 x.2.1, .int .i64 x.2.2] 50 (0, 0)) ∧ Below wr.heap.size wr X1) := hide (by rw [← hX1]; exact ⟨World.alloc_heap_new _ _, (Below.refl _ _).alloc (Nat.le_refl _) _⟩)
                    have HD := hide (HY.out.2.trans (HX.out.2.mono HY.out.2.size))
                    have KX := hide (D0.out.trans (HD.out.mono D0.out.size))
                    have z0 : X1.cell? ⟨wr.heap.size, 0, none⟩ = some (.int .i64 x.1) := cell_of HX.out.1 rfl
                    have z1 : X1.cell? ⟨wr.heap.size, 1, none⟩ = some (.int .i64 x.2.1) := cell_of HX.out.1 rfl
                    have z2 : X1.cell? ⟨wr.heap.size, 2, none⟩ = some (.int .i64 x.2.2) := cell_of HX.out.1 rfl
                    have B1 := blk_on B0.out HY.out.2
                    have B2 := blk_on B0.out HD.out
                    have y4 : wr.cell? ⟨w.heap.size, 4, none⟩ = some (.slice (some ⟨g, o, none⟩) Ed.length c3) := cell_of B1 rfl
                    have y0 : X1.cell? ⟨w.heap.size, 0, none⟩ = some (.int .i64 n) := cell_of B2 rfl
                    have y1 : X1.cell? ⟨w.heap.size, 1, none⟩ = some (.int .i64 m) := cell_of B2 rfl
                    clear B1 B2
                    have NO : Hid (edOk n m x = false → mayA n m St Fi Ed = false) := hide (fun hx => may_not fun h => by
                      have := (may_parts h).2.2.2.2.2 x HIN.out
                      rw [show edOk n m x = true by unfold edOk; simp only [Bool.and_eq_true, inB_iff]; omega] at hx
                      cases hx)
                    cases hx : edOk n m x with
                    | true =>
                      have hxx := hx
                      unfold edOk at hxx
                      simp only [Bool.and_eq_true, inB_iff] at hxx
                      have p0 : ¬ x.1 < 0 := by omega
                      have p1 : ¬ x.1 ≥ n := by omega
                      have p2 : ¬ x.2.2 < 0 := by omega
                      have p3 : ¬ x.2.2 ≥ n := by omega
                      have p4 : ¬ x.2.1 < 0 := by omega
                      have p5 : ¬ x.2.1 ≥ m := by omega
                      have HX2 : Hid (∀ e ∈ Ed.take (i + 1), edOk n m e = true) := hide (fun e he => by
                        rw [HTK.out, List.mem_append] at he
                        rcases he with he | he
                        · exact HY.out.1 e he
                        · rw [List.mem_singleton] at he
                          rw [he]
                          exact hx)
                      clear hxx hx NO
                      go_wp2_with fail
                      go_roundw
                      case rel => exact ⟨i + 1, by omega, by go_num, hide ⟨HX2.out, HD.out⟩⟩
                      case measure => simp [intOf]; omega
                    | false =>
                      have HM := hide (NO.out hx)
                      have hxx : ¬ (((0 ≤ x.1 ∧ x.1 < n) ∧ 0 ≤ x.2.1 ∧ x.2.1 < m) ∧ 0 ≤ x.2.2 ∧ x.2.2 < n) := fun h => by
                        rw [show edOk n m x = true by unfold edOk; simp only [Bool.and_eq_true, inB_iff]; exact h] at hx
                        cases hx
                      clear hx NO
                      by_cases p0 : x.1 < 0
                      · clear hxx
                        go_wp2_with fail
                        refine bodyPost_ret (results_tmp rfl _ _ _) rfl ?_
                        exact ⟨by rw [← HRr.out, HM.out]; rfl, KX.out⟩
                      · by_cases p1 : x.1 ≥ n
                        · clear hxx
                          go_wp2_with fail
                          refine bodyPost_ret (results_tmp rfl _ _ _) rfl ?_
                          exact ⟨by rw [← HRr.out, HM.out]; rfl, KX.out⟩
                        · by_cases p2 : x.2.2 < 0
                          · clear hxx
                            go_wp2_with fail
                            refine bodyPost_ret (results_tmp rfl _ _ _) rfl ?_
                            exact ⟨by rw [← HRr.out, HM.out]; rfl, KX.out⟩
                          · by_cases p3 : x.2.2 ≥ n
                            · clear hxx
                              go_wp2_with fail
                              refine bodyPost_ret (results_tmp rfl _ _ _) rfl ?_
                              exact ⟨by rw [← HRr.out, HM.out]; rfl, KX.out⟩
                            · by_cases p4 : x.2.1 < 0
                              · clear hxx
                                go_wp2_with fail
                                refine bodyPost_ret (results_tmp rfl _ _ _) rfl ?_
                                exact ⟨by rw [← HRr.out, HM.out]; rfl, KX.out⟩
                              · have p5 : x.2.1 ≥ m := by omega
                                clear hxx
                                go_wp2_with fail
                                refine bodyPost_ret (results_tmp rfl _ _ _) rfl ?_
                                exact ⟨by rw [← HRr.out, HM.out]; rfl, KX.out⟩
                  · have l0 : ¬ (i : Int) < (Ed.length : Int) := by omega
                    have y4 : wr.cell? ⟨w.heap.size, 4, none⟩ = some (.slice a3 Ed.length c3) := cell_of (blk_on B0.out HY.out.2) rfl
                    have HM : Hid (mayA n m St Fi Ed = true) := hide (by
                      have h5 := HY.out.1
                      rw [List.take_of_length_le (by omega)] at h5
                      have h6 := HNM.out
                      unfold mayA
                      simp only [Bool.and_eq_true, decide_eq_true_eq, inB_iff]
                      exact ⟨⟨⟨⟨⟨by omega, by omega⟩, by omega⟩, HSF.out.1⟩, HSF.out.2⟩, List.all_eq_true.2 h5⟩)
                    go_wp2_with fail
                    refine bodyPost_ret (results_tmp rfl _ _ _) rfl ?_
                    exact ⟨by rw [← HRr.out, HM.out]; rfl, KE.out⟩
/-! ### The document's Normal -/
/-- Rows of one's own, with where they lie. -/
def ownNI (X : List Int) : MkP := fun x lo hi W => W.ownsRow lo 3 1 x X.length (X.map (Value.int .i64)) ∧ ∀ g, x.ownBlock = some g → g < hi
theorem ownNI_mono {X : List Int} : MonoP (ownNI X) := fun _ _ _ _ _ _ d h => ⟨own_below h.1 d, h.2⟩
theorem ownNI_of {X : List Int} {B : Nat} {W : World} {x v : Value} (e : x = v) (h : W.ownsRow B 3 1 v X.length (X.map (Value.int .i64))) : ownNI X x B W.heap.size W := by
  subst e
  exact ⟨h, fun g hg => (h.lt g hg).2⟩
/-- An automaton's lists, each in a row of one's own. -/
structure OwnO (B : Nat) (w : World) (v1 v2 v3 : Value) (S F : List Int) (E : List EdT) : Prop where
  s : w.ownsRow B 3 1 v1 S.length (S.map (Value.int .i64))
  f : w.ownsRow B 3 1 v2 F.length (F.map (Value.int .i64))
  e : w.ownsRow B 50 3 v3 E.length (E.flatMap encE)
  ne : ∀ g, v1.ownBlock = some g → v2.ownBlock ≠ some g
theorem ownO_of {B l1 l2 l3 h1 h2 : Nat} {w : World} {v1 v2 v3 : Value} {S F : List Int} {E : List EdT} (s : w.ownsRow l1 3 1 v1 S.length (S.map (Value.int .i64))) (f : w.ownsRow l2 3 1 v2 F.length (F.map (Value.int .i64))) (e : w.ownsRow l3 50 3 v3 E.length (E.flatMap encE)) (g1 : ∀ g, v1.ownBlock = some g → g < h1) (g2 : ∀ g, v2.ownBlock = some g → g < h2) (hB1 : B ≤ l1) (hB2 : B ≤ l2) (hB3 : B ≤ l3) (ap : h1 ≤ l2 ∨ h2 ≤ l1) : OwnO B w v1 v2 v3 S F E :=
  ⟨owns_down s hB1, owns_down f hB2, owns_down e hB3, fun g hg hh => by
    have a1 := s.lt g hg
    have a2 := f.lt g hh
    have b1 := g1 g hg
    have b2 := g2 g hh
    omega⟩
theorem OwnO.on {B : Nat} {w w' : World} {v1 v2 v3 : Value} {S F : List Int} {E : List EdT} (h : OwnO B w v1 v2 v3 S F E) (d : Below w.heap.size w w') : OwnO B w' v1 v2 v3 S F E := ⟨own_below h.s d, own_below h.f d, own_below h.e d, h.ne⟩
theorem OwnO.down {B C : Nat} {w : World} {v1 v2 v3 : Value} {S F : List Int} {E : List EdT} (h : OwnO C w v1 v2 v3 S F E) (hB : B ≤ C) : OwnO B w v1 v2 v3 S F E := ⟨owns_down h.s hB, owns_down h.f hB, owns_down h.e hB, h.ne⟩
theorem OwnO.keep {B p : Nat} {w w' : World} {v1 v2 v3 : Value} {S F : List Int} {E : List EdT} {cs : Array Value} (h : OwnO B w v1 v2 v3 S F E) (z : w.heap[p]? = some (.cells cs 25 (0, 0))) (o : Only w w' (fun k => k = p)) : OwnO B w' v1 v2 v3 S F E := ⟨own_keep h.s z (by decide) o, own_keep h.f z (by decide) o, own_keep h.e z (by decide) o, h.ne⟩
theorem OwnO.rd {B : Nat} {w : World} {b1 b2 b3 : Option Addr} {k1 k2 k3 : Nat} {S F : List Int} {E : List EdT} (h : OwnO B w (.slice b1 S.length k1) (.slice b2 F.length k2) (.slice b3 E.length k3) S F E) : RdA w b1 b2 b3 S F E := ⟨own_rdN h.s, own_rdN h.f, own_rdE h.e⟩
end Go.Proofs.YtchoopnjckcohaaGreat
