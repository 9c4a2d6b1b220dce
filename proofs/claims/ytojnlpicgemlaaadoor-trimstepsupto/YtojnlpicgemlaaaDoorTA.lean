import Derived.Test.YtojnlpicgemlaaaDoorRV
namespace Go.Proofs.YtojnlpicgemlaaaDoor
open Go.RowKit Go.Maps
attribute [local go_sem] Oper.semAt_some

/-! ### The least length; states renumbered -/
def minF (len : Nat → Int) (acc p : Int) : Int := if len p.toNat ≠ -1 ∧ (acc = -1 ∨ len p.toNat < acc) then len p.toNat else acc
def lenMin (len : Nat → Int) (Fr : List Int) : Int := Fr.foldl (minF len) (-1)
theorem lenMin_succ (len : Nat → Int) (Fr : List Int) {i : Nat} (h : i < Fr.length) : lenMin len (Fr.take (i + 1)) = minF len (lenMin len (Fr.take i)) Fr[i] := by
  unfold lenMin
  rw [List.take_succ_eq_append_getElem h, List.foldl_append]
  rfl
set_option maxRecDepth 100000 in
set_option maxHeartbeats 1000000 in
theorem least_any (w : World) (af : Option Addr) (cf gl N : Nat) (Fr : List Int) (len : Nat → Int) (hr : RdN w af Fr) (hM : Mrw w gl 3 N (fun c => .int .i64 (len c)) N) (h1 : ∀ x ∈ Fr, ∃ q : Nat, q < N ∧ x = (q : Int)) (hl : Fr.length ≤ 4194304) :
    Calls Tryd.prog 40 #[.slice af Fr.length cf, .slice (some ⟨gl, 0, none⟩) N N] w fun e w' => e = .returned (.int .i64 (lenMin len Fr)) ∧ w' = w := by
  obtain ⟨M, eM⟩ : ∃ M, Fr.length = M := ⟨_, rfl⟩
  rw [eM] at hl
  rw [eM]
  have HQ := hide (And.intro hr (And.intro hM (And.intro h1 eM)))
  clear hr hM h1 eM
  go_enter Tryd.func40, Tryd.ntmps40
  go_wp2_with fail
  go_loop [5, 11] (fun lv iv => ∃ i : Nat, i ≤ M ∧ iv = .int .i64 (i : Int) ∧ lv = .int .i64 (lenMin len (Fr.take i))) (fun _ iv => M - (intOf iv).toNat)
  case atStart => exact ⟨0, Nat.zero_le _, rfl, rfl⟩
  case round =>
    obtain ⟨i, hi, rfl, rfl⟩ := hrel
    by_cases hlt : i < M
    · have l0 : (i : Int) < (M : Int) := by omega
      have i0 : (0 : Int) ≤ (i : Int) := by omega
      have hir : i < Fr.length := by have := HQ.out.2.2.2; omega
      obtain ⟨g, o, rfl, r1⟩ := HQ.out.1 i hir
      obtain ⟨p, hp, ep⟩ := HQ.out.2.2.1 Fr[i] (List.getElem_mem hir)
      have HS := hide (lenMin_succ len Fr hir)
      rw [ep] at r1 HS
      have p0 : (0 : Int) ≤ (p : Int) := by omega
      have p1 : (p : Int) < (N : Int) := by omega
      have cp : w.cell? ⟨gl, p, none⟩ = some (.int .i64 (len p)) := HQ.out.2.1.at p hp
      generalize lenMin len (Fr.take i) = acc at HS
      have HT : Hid (lenMin len (Fr.take (i + 1)) = if len p ≠ -1 ∧ (acc = -1 ∨ len p < acc) then len p else acc) := hide (by rw [HS.out]; simp [minF])
      clear HS
      generalize len p = n at cp HT
      by_cases e1 : n = -1
      · have HE : Hid (lenMin len (Fr.take (i + 1)) = acc) := hide (by rw [HT.out, if_neg (fun h => h.1 e1)])
        subst e1
        clear HT
        go_wp2_with fail
        go_round
        case rel => exact ⟨i + 1, by omega, by go_num, by rw [HE.out]⟩
        case measure => simp [intOf]; omega
      · by_cases e2 : acc = -1
        · have HE : Hid (lenMin len (Fr.take (i + 1)) = n) := hide (by rw [HT.out, if_pos ⟨e1, .inl e2⟩])
          subst e2
          clear HT
          go_wp2_with fail
          go_round
          case rel => exact ⟨i + 1, by omega, by go_num, by rw [HE.out]⟩
          case measure => simp [intOf]; omega
        · by_cases e3 : n < acc
          · have HE : Hid (lenMin len (Fr.take (i + 1)) = n) := hide (by rw [HT.out, if_pos ⟨e1, .inr e3⟩])
            clear HT
            go_wp2_with fail
            go_round
            case rel => exact ⟨i + 1, by omega, by go_num, by rw [HE.out]⟩
            case measure => simp [intOf]; omega
          · have HE : Hid (lenMin len (Fr.take (i + 1)) = acc) := hide (by rw [HT.out, if_neg (fun h => h.2.elim e2 e3)])
            have b1 : (n != -1) = true := by simp [e1]
            have b2 : (acc == -1) = false := by simp [e2]
            have e7 : ¬ ((n != -1) = true ∧ ((acc == -1) = true ∨ n < acc)) := fun h => by rw [b2] at h; exact h.2.elim (fun h => by cases h) e3
            clear HT
            go_wp2_with fail
            go_round
            case rel => exact ⟨i + 1, by omega, by go_num, by rw [HE.out]⟩
            case measure => simp [intOf]; omega
    · have l0 : ¬ (i : Int) < (M : Int) := by omega
      have e : Fr.take i = Fr := List.take_of_length_le (by have := HQ.out.2.2.2; omega)
      rw [e]
      go_wp2_with fail
      go_ret
      exact ⟨rfl, rfl⟩
def renL (X : Nat) (num : Nat → Int) (Fr : List Int) : List Int := (Fr.filter fun p => hasB X p).map fun p => num p.toNat
theorem renL_len (X : Nat) (num : Nat → Int) (Fr : List Int) : (renL X num Fr).length ≤ Fr.length := by
  unfold renL
  rw [List.length_map]
  exact List.length_filter_le _ _
theorem renL_take (X : Nat) (num : Nat → Int) (Fr : List Int) {i : Nat} (h : i < Fr.length) : renL X num (Fr.take (i + 1)) = if hasB X Fr[i] then renL X num (Fr.take i) ++ [num Fr[i].toNat] else renL X num (Fr.take i) := by
  unfold renL
  rw [List.take_succ_eq_append_getElem h, List.filter_append, List.map_append]
  by_cases k : hasB X Fr[i] = true
  · rw [if_pos k, List.filter_cons_of_pos (by simpa using k)]; rfl
  · rw [if_neg k, List.filter_cons_of_neg (by simpa using k)]; simp
/-- A list of its own. -/
def OwnL (B : Nat) (w : World) (v : Value) (L : List Int) : Prop := w.ownsRow B 3 1 v L.length (L.map (Value.int .i64))
theorem OwnL.below {B : Nat} {w w' : World} {v : Value} {L : List Int} (h : OwnL B w v L) (d : Below w.heap.size w w') : OwnL B w' v L := row_only h (Only.ofBelow (R := fun _ => False) d) (fun _ _ => id)
set_option maxRecDepth 100000 in
set_option maxHeartbeats 1000000 in
theorem renum_any (w : World) (af : Option Addr) (cf gl N : Nat) (Fr : List Int) (num : Nat → Int) (b g cap X : Nat) (hr : RdN w af Fr) (hM : Mrw w gl 3 N (fun c => .int .i64 (num c)) N) (hs : IsSet w b g cap N X) (h1 : ∀ x ∈ Fr, ∃ q : Nat, q < N ∧ x = (q : Int)) (hl : Fr.length ≤ 4194304) :
    Calls Tryd.prog 48 #[.slice af Fr.length cf, .pointer (some ⟨b, 0, none⟩), .slice (some ⟨gl, 0, none⟩) N N] w fun e w' => ∃ v, e = .returned v ∧ OwnL w.heap.size w' v (renL X num Fr) ∧ Below w.heap.size w w' := by
  obtain ⟨i3, hi3, hz30, hz31, hz32⟩ := info_parts info3
  obtain ⟨M, eM⟩ : ∃ M, Fr.length = M := ⟨_, rfl⟩
  rw [eM] at hl
  rw [eM]
  have HQ := hide (And.intro hr (And.intro hM (And.intro h1 (And.intro eM hs))))
  clear hr hM h1 eM hs
  go_enter Tryd.func48, Tryd.ntmps48
  go_wp2_with fail
  go_loopw [7, 12] (fun ov iv wr => ∃ i : Nat, i ≤ M ∧ iv = .int .i64 (i : Int) ∧ Hid (OwnL w.heap.size wr ov (renL X num (Fr.take i)) ∧ Below w.heap.size w wr)) (fun _ iv _ => M - (intOf iv).toNat)
  case atStart => exact ⟨0, Nat.zero_le _, rfl, hide ⟨World.ownsRow_nil _ _ _ _, Below.refl _ _⟩⟩
  case round =>
    obtain ⟨i, hi, rfl, HY⟩ := hrel
    by_cases hlt : i < M
    · have l0 : (i : Int) < (M : Int) := by omega
      have i0 : (0 : Int) ≤ (i : Int) := by omega
      have hir : i < Fr.length := by have := HQ.out.2.2.2.1; omega
      obtain ⟨g', o, rfl, r1⟩ := (HQ.out.1.on HY.out.2) i hir
      obtain ⟨p, hp, ep⟩ := HQ.out.2.2.1 Fr[i] (List.getElem_mem hir)
      have HS := hide (renL_take X num Fr hir)
      have hq := Nat.le_trans (renL_len X num (Fr.take i)) (show (Fr.take i).length ≤ 4194304 by rw [List.length_take]; omega)
      rw [ep] at r1 HS
      have p0 : (0 : Int) ≤ (p : Int) := by omega
      have p1 : (p : Int) < (N : Int) := by omega
      have cp : wr.cell? ⟨gl, p, none⟩ = some (.int .i64 (num p)) := (HQ.out.2.1.below HY.out.2 HQ.out.2.1.lt).at p hp
      generalize renL X num (Fr.take i) = R at HS HY hq
      have TH := has_any b g cap N X (p : Int) wr (HQ.out.2.2.2.2.below HY.out.2)
      by_cases hh : hasB X (p : Int) = true
      · rw [hh] at TH
        have HE : Hid (renL X num (Fr.take (i + 1)) = R ++ [num p]) := hide (by rw [HS.out, if_pos hh]; rfl)
        clear HS
        go_wp2_with fail
        refine TH.mono ?_
        rintro e w3 ⟨rfl, d, hw3⟩
        have H3 : Hid (OwnL w.heap.size w3 u7 R ∧ Below w.heap.size w w3) := hide (by subst hw3; exact ⟨HY.out.1, below_drewN2 HY.out.2 d⟩)
        have cp3 : w3.cell? ⟨gl, p, none⟩ = some (.int .i64 (num p)) := by subst hw3; exact cp
        clear hw3
        go_wp2_with ((at_builtin; refine wpList_append_lies _ rfl _ _ _ rfl w.heap.size 3 i3 _ 1 8 Tryd.underlying22 hi3 hz30 hz31 hz32 rfl (by omega) u7 R.length (R.map (Value.int .i64)) rfl (H3.out.1.alloc _) ⟨w3.heap.size, 0, none⟩ 1 1 [.int .i64 (num p)] rfl rfl (World.news_of_block (cs := #[.int .i64 (num p)]) (t := 3) (fr := (0, 0)) (heap_alloc_new w3 _)) (by simp [Value.oneCell']) (by omega) (by unfold maxLen; omega) (by omega) (by have := H3.out.2.size; simp; omega) (w3.heap.size + 1) (by simp) ?_; intro g9 c9 w4 ho4 hg4 ha4 hl4))
        have J : Hid (OwnL w.heap.size w4 (.slice (some ⟨g9, 0, none⟩) (R.length + 1) c9) (renL X num (Fr.take (i + 1))) ∧ Below w.heap.size w w4) := hide (by
          rw [HE.out]
          refine ⟨?_, H3.out.2.grown ((World.grownBy_alloc _ _ _).trans hg4) H3.out.2.size (fun k hk => (H3.out.1.lt k hk).1)⟩
          unfold OwnL
          rw [List.length_append, List.map_append]
          exact ho4)
        clear ho4 hg4 ha4 hl4
        go_roundw
        case rel => exact ⟨i + 1, by omega, by go_num, J⟩
        case measure => simp [intOf]; omega
      · have hf : hasB X (p : Int) = false := by simpa using hh
        rw [hf] at TH
        have HE : Hid (renL X num (Fr.take (i + 1)) = R) := hide (by rw [HS.out, if_neg hh])
        clear HS
        go_wp2_with fail
        refine TH.mono ?_
        rintro e w3 ⟨rfl, d, hw3⟩
        have J : Hid (OwnL w.heap.size w3 u7 (renL X num (Fr.take (i + 1))) ∧ Below w.heap.size w w3) := hide (by rw [HE.out]; subst hw3; exact ⟨HY.out.1, below_drewN2 HY.out.2 d⟩)
        clear hw3
        go_wp2_with fail
        go_roundw
        case rel => exact ⟨i + 1, by omega, by go_num, J⟩
        case measure => simp [intOf]; omega
    · have l0 : ¬ (i : Int) < (M : Int) := by omega
      have e : Fr.take i = Fr := List.take_of_length_le (by have := HQ.out.2.2.2.1; omega)
      rw [e] at HY
      go_wp2_with fail
      go_ret
      exact ⟨_, rfl, HY.out.1, HY.out.2⟩
end Go.Proofs.YtojnlpicgemlaaaDoor
namespace Go.Proofs.YtojnlpicgemlaaaDoor
open Go.RowKit Go.Maps
attribute [local go_sem] Oper.semAt_some

/-! ### The document's masks -/
/-- A mask of N truths in new memory. -/
def MaskG (B : Nat) (w : World) (g N : Nat) (M : Nat → Bool) : Prop := B ≤ g ∧ Mrw w g 4 N (fun q => .bool (M q)) N
theorem MaskG.below {B : Nat} {w w' : World} {g N : Nat} {M : Nat → Bool} (h : MaskG B w g N M) (d : Below w.heap.size w w') : MaskG B w' g N M := ⟨h.1, h.2.below d h.2.lt⟩
theorem MaskG.set {B : Nat} {w : World} {g N : Nat} {M : Nat → Bool} (h : MaskG B w g N M) (p : Nat) : MaskG B (w.setCell ⟨g, p, none⟩ (.bool true)) g N (fun q => decide (q = p) || M q) := by
  refine ⟨h.1, (h.2.upd p _).congr fun c _ => ?_⟩
  by_cases e : c = p
  · simp [e]
  · simp [e]
theorem MaskG.congr {B : Nat} {w : World} {g N : Nat} {M M' : Nat → Bool} (h : MaskG B w g N M) (e : ∀ q, q < N → M q = M' q) : MaskG B w g N M' := ⟨h.1, h.2.congr fun c hc => by rw [e c hc]⟩
def inL (L : List Int) (q : Nat) : Bool := decide ((q : Int) ∈ L)
def maskL (N : Nat) (M : Nat → Bool) : List Int := natL ((List.range N).filter M)
end Go.Proofs.YtojnlpicgemlaaaDoor
namespace Go.Proofs.YtojnlpicgemlaaaDoor
open Go.RowKit Go.Maps
attribute [local go_sem] Oper.semAt_some

/-! ### One step back; all that can be come to -/
end Go.Proofs.YtojnlpicgemlaaaDoor
