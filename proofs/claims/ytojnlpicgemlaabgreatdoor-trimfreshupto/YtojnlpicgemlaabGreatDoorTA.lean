import Derived.Test.YtojnlpicgemlaabGreatDoorRV
namespace Go.Proofs.YtojnlpicgemlaabGreatDoor
open Go.RowKit Go.Maps
attribute [local go_sem] Oper.semAt_some

/-! ### The least length; states renumbered -/
def minF (len : Nat → Int) (acc p : Int) : Int := if len p.toNat ≠ -1 ∧ (acc = -1 ∨ len p.toNat < acc) then len p.toNat else acc
def lenMin (len : Nat → Int) (Fr : List Int) : Int := Fr.foldl (minF len) (-1)
theorem lenMin_succ (len : Nat → Int) (Fr : List Int) {i : Nat} (h : i < Fr.length) : lenMin len (Fr.take (i + 1)) = minF len (lenMin len (Fr.take i)) Fr[i] := by
  unfold lenMin
  rw [List.take_succ_eq_append_getElem h, List.foldl_append]
  rfl
set_option maxRecDepth 100000 in
set_option maxHeartbeats 1000000 in
theorem least_any (w : World) (af : Option Addr) (cf gl N : Nat) (Fr : List Int) (len : Nat → Int) (hr : RdN w af Fr) (hM : Mrw w gl 3 N (fun c => .int .i64 (len c)) N) (h1 : ∀ x ∈ Fr, ∃ q : Nat, q < N ∧ x = (q : Int)) (hl : Fr.length ≤ 4194304) :
    Calls Tryz.prog 62 #[.slice af Fr.length cf, .slice (some ⟨gl, 0, none⟩) N N] w fun e w' => e = .returned (.int .i64 (lenMin len Fr)) ∧ w' = w := by
  obtain ⟨M, eM⟩ : ∃ M, Fr.length = M := ⟨_, rfl⟩
  rw [eM] at hl
  rw [eM]
  have HQ := hide (And.intro hr (And.intro hM (And.intro h1 eM)))
  clear hr hM h1 eM
  go_enter Tryz.func62, Tryz.ntmps62
  go_wp2_with fail
  go_loop [5, 11] (fun lv iv => ∃ i : Nat, i ≤ M ∧ iv = .int .i64 (i : Int) ∧ lv = .int .i64 (lenMin len (Fr.take i))) (fun _ iv => M - (intOf iv).toNat)
  case atStart => exact ⟨0, Nat.zero_le _, rfl, rfl⟩
  case round =>
    obtain ⟨i, hi, rfl, rfl⟩ := hrel
    by_cases hlt : i < M
    · have l0 : (i : Int) < (M : Int) := by omega
      have i0 : (0 : Int) ≤ (i : Int) := by omega
      have hir : i < Fr.length := by have := HQ.out.2.2.2; omega
      obtain ⟨g, o, rfl, r1⟩ := HQ.out.1 i hir
      obtain ⟨p, hp, ep⟩ := HQ.out.2.2.1 Fr[i] (List.getElem_mem hir)
      have HS := hide (lenMin_succ len Fr hir)
      rw [ep] at r1 HS
      have p0 : (0 : Int) ≤ (p : Int) := by omega
      have p1 : (p : Int) < (N : Int) := by omega
      have cp : w.cell? ⟨gl, p, none⟩ = some (.int .i64 (len p)) := HQ.out.2.1.at p hp
      generalize lenMin len (Fr.take i) = acc at HS
      have HT : Hid (lenMin len (Fr.take (i + 1)) = if len p ≠ -1 ∧ (acc = -1 ∨ len p < acc) then len p else acc) := hide (by rw [HS.out]; simp [minF])
      clear HS
      generalize len p = n at cp HT
      by_cases e1 : n = -1
      · have HE : Hid (lenMin len (Fr.take (i + 1)) = acc) := hide (by rw [HT.out, if_neg (fun h => h.1 e1)])
        subst e1
        clear HT
        go_wp2_with fail
        go_round
        case rel => exact ⟨i + 1, by omega, by go_num, by rw [HE.out]⟩
        case measure => simp [intOf]; omega
      · by_cases e2 : acc = -1
        · have HE : Hid (lenMin len (Fr.take (i + 1)) = n) := hide (by rw [HT.out, if_pos ⟨e1, .inl e2⟩])
          subst e2
          clear HT
          go_wp2_with fail
          go_round
          case rel => exact ⟨i + 1, by omega, by go_num, by rw [HE.out]⟩
          case measure => simp [intOf]; omega
        · by_cases e3 : n < acc
          · have HE : Hid (lenMin len (Fr.take (i + 1)) = n) := hide (by rw [HT.out, if_pos ⟨e1, .inr e3⟩])
            clear HT
            go_wp2_with fail
            go_round
            case rel => exact ⟨i + 1, by omega, by go_num, by rw [HE.out]⟩
            case measure => simp [intOf]; omega
          · have HE : Hid (lenMin len (Fr.take (i + 1)) = acc) := hide (by rw [HT.out, if_neg (fun h => h.2.elim e2 e3)])
            have b1 : (n != -1) = true := by simp [e1]
            have b2 : (acc == -1) = false := by simp [e2]
            have e7 : ¬ ((n != -1) = true ∧ ((acc == -1) = true ∨ n < acc)) := fun h => by rw [b2] at h; exact h.2.elim (fun h => by cases h) e3
            clear HT
            go_wp2_with fail
            go_round
            case rel => exact ⟨i + 1, by omega, by go_num, by rw [HE.out]⟩
            case measure => simp [intOf]; omega
    · have l0 : ¬ (i : Int) < (M : Int) := by omega
      have e : Fr.take i = Fr := List.take_of_length_le (by have := HQ.out.2.2.2; omega)
      rw [e]
      go_wp2_with fail
      go_ret
      exact ⟨rfl, rfl⟩
def renL (X : Nat) (num : Nat → Int) (Fr : List Int) : List Int := (Fr.filter fun p => hasB X p).map fun p => num p.toNat
theorem renL_len (X : Nat) (num : Nat → Int) (Fr : List Int) : (renL X num Fr).length ≤ Fr.length := by
  unfold renL
  rw [List.length_map]
  exact List.length_filter_le _ _
theorem renL_take (X : Nat) (num : Nat → Int) (Fr : List Int) {i : Nat} (h : i < Fr.length) : renL X num (Fr.take (i + 1)) = if hasB X Fr[i] then renL X num (Fr.take i) ++ [num Fr[i].toNat] else renL X num (Fr.take i) := by
  unfold renL
  rw [List.take_succ_eq_append_getElem h, List.filter_append, List.map_append]
  by_cases k : hasB X Fr[i] = true
  · rw [if_pos k, List.filter_cons_of_pos (by simpa using k)]; rfl
  · rw [if_neg k, List.filter_cons_of_neg (by simpa using k)]; simp
/-- A list of its own. -/
def OwnL (B : Nat) (w : World) (v : Value) (L : List Int) : Prop := w.ownsRow B 3 1 v L.length (L.map (Value.int .i64))
theorem OwnL.below {B : Nat} {w w' : World} {v : Value} {L : List Int} (h : OwnL B w v L) (d : Below w.heap.size w w') : OwnL B w' v L := row_only h (Only.ofBelow (R := fun _ => False) d) (fun _ _ => id)
set_option maxRecDepth 100000 in
set_option maxHeartbeats 1000000 in
theorem renum_any (w : World) (af : Option Addr) (cf gl N : Nat) (Fr : List Int) (num : Nat → Int) (b g cap X : Nat) (hr : RdN w af Fr) (hM : Mrw w gl 3 N (fun c => .int .i64 (num c)) N) (hs : IsSet w b g cap N X) (h1 : ∀ x ∈ Fr, ∃ q : Nat, q < N ∧ x = (q : Int)) (hl : Fr.length ≤ 4194304) :
    Calls Tryz.prog 36 #[.slice af Fr.length cf, .pointer (some ⟨b, 0, none⟩), .slice (some ⟨gl, 0, none⟩) N N] w fun e w' => ∃ v, e = .returned v ∧ OwnL w.heap.size w' v (renL X num Fr) ∧ Below w.heap.size w w' := by
  obtain ⟨i3, hi3, hz30, hz31, hz32⟩ := info_parts info3
  obtain ⟨M, eM⟩ : ∃ M, Fr.length = M := ⟨_, rfl⟩
  rw [eM] at hl
  rw [eM]
  have HQ := hide (And.intro hr (And.intro hM (And.intro h1 (And.intro eM hs))))
  clear hr hM h1 eM hs
  go_enter Tryz.func36, Tryz.ntmps36
  go_wp2_with fail
  go_loopw [7, 12] (fun ov iv wr => ∃ i : Nat, i ≤ M ∧ iv = .int .i64 (i : Int) ∧ Hid (OwnL w.heap.size wr ov (renL X num (Fr.take i)) ∧ Below w.heap.size w wr)) (fun _ iv _ => M - (intOf iv).toNat)
  case atStart => exact ⟨0, Nat.zero_le _, rfl, hide ⟨World.ownsRow_nil _ _ _ _, Below.refl _ _⟩⟩
  case round =>
    obtain ⟨i, hi, rfl, HY⟩ := hrel
    by_cases hlt : i < M
    · have l0 : (i : Int) < (M : Int) := by omega
      have i0 : (0 : Int) ≤ (i : Int) := by omega
      have hir : i < Fr.length := by have := HQ.out.2.2.2.1; omega
      obtain ⟨g', o, rfl, r1⟩ := (HQ.out.1.on HY.out.2) i hir
      obtain ⟨p, hp, ep⟩ := HQ.out.2.2.1 Fr[i] (List.getElem_mem hir)
      have HS := hide (renL_take X num Fr hir)
      have hq := Nat.le_trans (renL_len X num (Fr.take i)) (show (Fr.take i).length ≤ 4194304 by rw [List.length_take]; omega)
      rw [ep] at r1 HS
      have p0 : (0 : Int) ≤ (p : Int) := by omega
      have p1 : (p : Int) < (N : Int) := by omega
      have cp : wr.cell? ⟨gl, p, none⟩ = some (.int .i64 (num p)) := (HQ.out.2.1.below HY.out.2 HQ.out.2.1.lt).at p hp
      generalize renL X num (Fr.take i) = R at HS HY hq
      have TH := has_any b g cap N X (p : Int) wr (HQ.out.2.2.2.2.below HY.out.2)
      by_cases hh : hasB X (p : Int) = true
      · rw [hh] at TH
        have HE : Hid (renL X num (Fr.take (i + 1)) = R ++ [num p]) := hide (by rw [HS.out, if_pos hh]; rfl)
        clear HS
        go_wp2_with fail
        refine TH.mono ?_
        rintro e w3 ⟨rfl, d, hw3⟩
        have H3 : Hid (OwnL w.heap.size w3 u7 R ∧ Below w.heap.size w w3) := hide (by subst hw3; exact ⟨HY.out.1, below_drewN2 HY.out.2 d⟩)
        have cp3 : w3.cell? ⟨gl, p, none⟩ = some (.int .i64 (num p)) := by subst hw3; exact cp
        clear hw3
        go_wp2_with ((at_builtin; refine wpList_append_lies _ rfl _ _ _ rfl w.heap.size 3 i3 _ 1 8 Tryz.underlying22 hi3 hz30 hz31 hz32 rfl (by omega) u7 R.length (R.map (Value.int .i64)) rfl (H3.out.1.alloc _) ⟨w3.heap.size, 0, none⟩ 1 1 [.int .i64 (num p)] rfl rfl (World.news_of_block (cs := #[.int .i64 (num p)]) (t := 3) (fr := (0, 0)) (heap_alloc_new w3 _)) (by simp [Value.oneCell']) (by omega) (by unfold maxLen; omega) (by omega) (by have := H3.out.2.size; simp; omega) (w3.heap.size + 1) (by simp) ?_; intro g9 c9 w4 ho4 hg4 ha4 hl4))
        have J : Hid (OwnL w.heap.size w4 (.slice (some ⟨g9, 0, none⟩) (R.length + 1) c9) (renL X num (Fr.take (i + 1))) ∧ Below w.heap.size w w4) := hide (by
          rw [HE.out]
          refine ⟨?_, H3.out.2.grown ((World.grownBy_alloc _ _ _).trans hg4) H3.out.2.size (fun k hk => (H3.out.1.lt k hk).1)⟩
          unfold OwnL
          rw [List.length_append, List.map_append]
          exact ho4)
        clear ho4 hg4 ha4 hl4
        go_roundw
        case rel => exact ⟨i + 1, by omega, by go_num, J⟩
        case measure => simp [intOf]; omega
      · have hf : hasB X (p : Int) = false := by simpa using hh
        rw [hf] at TH
        have HE : Hid (renL X num (Fr.take (i + 1)) = R) := hide (by rw [HS.out, if_neg hh])
        clear HS
        go_wp2_with fail
        refine TH.mono ?_
        rintro e w3 ⟨rfl, d, hw3⟩
        have J : Hid (OwnL w.heap.size w3 u7 (renL X num (Fr.take (i + 1))) ∧ Below w.heap.size w w3) := hide (by rw [HE.out]; subst hw3; exact ⟨HY.out.1, below_drewN2 HY.out.2 d⟩)
        clear hw3
        go_wp2_with fail
        go_roundw
        case rel => exact ⟨i + 1, by omega, by go_num, J⟩
        case measure => simp [intOf]; omega
    · have l0 : ¬ (i : Int) < (M : Int) := by omega
      have e : Fr.take i = Fr := List.take_of_length_le (by have := HQ.out.2.2.2.1; omega)
      rw [e] at HY
      go_wp2_with fail
      go_ret
      exact ⟨_, rfl, HY.out.1, HY.out.2⟩
end Go.Proofs.YtojnlpicgemlaabGreatDoor
namespace Go.Proofs.YtojnlpicgemlaabGreatDoor
open Go.RowKit Go.Maps
attribute [local go_sem] Oper.semAt_some

/-! ### The document's masks -/
theorem info4 : (Tryz.prog.info? 4).map (fun i => (i.zero, i.size, i.bytes)) = some (some (.bool false), 1, 1) := by kernel_rfl
/-- A mask of N truths in new memory. -/
def MaskG (B : Nat) (w : World) (g N : Nat) (M : Nat → Bool) : Prop := B ≤ g ∧ Mrw w g 4 N (fun q => .bool (M q)) N
theorem MaskG.below {B : Nat} {w w' : World} {g N : Nat} {M : Nat → Bool} (h : MaskG B w g N M) (d : Below w.heap.size w w') : MaskG B w' g N M := ⟨h.1, h.2.below d h.2.lt⟩
theorem MaskG.lower {B B' : Nat} {w : World} {g N : Nat} {M : Nat → Bool} (h : MaskG B w g N M) (hB : B' ≤ B) : MaskG B' w g N M := ⟨Nat.le_trans hB h.1, h.2⟩
theorem mask_made {B : Nat} {w1 : World} {g N : Nat} (h : w1.ownsRow B 4 1 (.slice (some ⟨g, 0, none⟩) N N) N (madeCells #[.bool false] N).toList) : MaskG B w1 g N (fun _ => false) := by
  rw [toList_madeCells_one] at h
  rcases h.2 with ⟨hv, _⟩ | ⟨g', cap', cur, hv, hb, hg, h1, h2, h3, h4⟩
  · cases hv
  · cases hv
    refine ⟨hb, cur, hg, by omega, fun j hj => ?_⟩
    rw [List.take_of_length_le (by simp; omega)] at h4
    have : cur.toList[j]? = some (.bool false) := by rw [h4]; simp [hj]
    simpa using this
theorem MaskG.set {B : Nat} {w : World} {g N : Nat} {M : Nat → Bool} (h : MaskG B w g N M) (p : Nat) : MaskG B (w.setCell ⟨g, p, none⟩ (.bool true)) g N (fun q => decide (q = p) || M q) := by
  refine ⟨h.1, (h.2.upd p _).congr fun c _ => ?_⟩
  by_cases e : c = p
  · simp [e]
  · simp [e]
theorem MaskG.congr {B : Nat} {w : World} {g N : Nat} {M M' : Nat → Bool} (h : MaskG B w g N M) (e : ∀ q, q < N → M q = M' q) : MaskG B w g N M' := ⟨h.1, h.2.congr fun c hc => by rw [e c hc]⟩
def inL (L : List Int) (q : Nat) : Bool := decide ((q : Int) ∈ L)
theorem inL_take {L : List Int} {i p : Nat} (h : i < L.length) (e : L[i] = (p : Int)) (q : Nat) : (decide (q = p) || inL (L.take i) q) = inL (L.take (i + 1)) q := by
  unfold inL
  rw [List.take_succ_eq_append_getElem h, e, Bool.eq_iff_iff]
  simp only [Bool.or_eq_true, decide_eq_true_eq, List.mem_append, List.mem_singleton]
  constructor
  · rintro (h | h)
    · exact .inr (by omega)
    · exact .inl h
  · rintro (h | h)
    · exact .inr h
    · exact .inl (by omega)
set_option maxRecDepth 100000 in
set_option maxHeartbeats 1000000 in
theorem mask_any (w : World) (al : Option Addr) (cl N : Nat) (L : List Int) (hr : RdN w al L) (h1 : ∀ x ∈ L, ∃ q : Nat, q < N ∧ x = (q : Int)) (hl : L.length ≤ 4194304) (hN : N ≤ 100000) :
    Calls Tryz.prog 40 #[.slice al L.length cl, .int .i64 (N : Int)] w fun e w' => ∃ g, e = .returned (.slice (some ⟨g, 0, none⟩) N N) ∧ MaskG w.heap.size w' g N (inL L) ∧ Below w.heap.size w w' := by
  obtain ⟨i3, hi3, hz30, hz31, hz32⟩ := info_parts info4
  obtain ⟨M, eM⟩ : ∃ M, L.length = M := ⟨_, rfl⟩
  rw [eM] at hl
  rw [eM]
  have HQ := hide (And.intro hr (And.intro h1 eM))
  clear hr h1 eM
  go_enter Tryz.func40, Tryz.ntmps40
  go_wp2_with ((at_make; refine wpList_make_full _ rfl _ _ 61 rfl w.heap.size 4 i3 (.bool false) 1 Tryz.underlying61 hi3 hz30 hz31 _ _ _ _ N rfl rfl (by go_num) (by go_num) (by rw [hz32]; omega) (by unfold maxLen; omega) (Nat.le_refl _) ?_))
  intro w1 ho hg
  have D1 : Below w.heap.size w w1 := (Below.refl _ _).grown hg (Nat.le_refl _) (by intro k hk; cases hk)
  have H1 := hide (And.intro (mask_made ho) D1)
  clear ho hg D1
  go_wp2_with fail
  go_loopw [6] (fun iv wr => ∃ i : Nat, i ≤ M ∧ iv = .int .i64 (i : Int) ∧ Hid (MaskG w.heap.size wr w.heap.size N (inL (L.take i)) ∧ Below w.heap.size w wr)) (fun iv _ => M - (intOf iv).toNat)
  case atStart => exact ⟨0, Nat.zero_le _, rfl, hide ⟨H1.out.1.congr fun q _ => by simp [inL], H1.out.2⟩⟩
  case round =>
    obtain ⟨i, hi, rfl, HY⟩ := hrel
    by_cases hlt : i < M
    · have l0 : (i : Int) < (M : Int) := by omega
      have i0 : (0 : Int) ≤ (i : Int) := by omega
      have hir : i < L.length := by have := HQ.out.2.2; omega
      obtain ⟨g', o, rfl, r1⟩ := (HQ.out.1.on HY.out.2) i hir
      obtain ⟨p, hp, ep⟩ := HQ.out.2.1 L[i] (List.getElem_mem hir)
      rw [ep] at r1
      have p0 : (0 : Int) ≤ (p : Int) := by omega
      have p1 : (p : Int) < (N : Int) := by omega
      have cp : wr.cell? ⟨w.heap.size, p, none⟩ = some (.bool (inL (L.take i) p)) := HY.out.1.2.at p hp
      have zp : wr.frozen? ⟨w.heap.size, p, none⟩ = false := HY.out.1.2.fz p
      have J : Hid (MaskG w.heap.size (wr.setCell ⟨w.heap.size, p, none⟩ (.bool true)) w.heap.size N (inL (L.take (i + 1))) ∧ Below w.heap.size w (wr.setCell ⟨w.heap.size, p, none⟩ (.bool true))) := hide ⟨(HY.out.1.set p).congr fun q _ => inL_take hir ep q, HY.out.2.setCell (Nat.le_refl _) _⟩
      clear HY
      go_wp2_with fail
      go_roundw
      case rel => exact ⟨i + 1, by omega, by go_num, J⟩
      case measure => simp [intOf]; omega
    · have l0 : ¬ (i : Int) < (M : Int) := by omega
      have e : L.take i = L := List.take_of_length_le (by have := HQ.out.2.2; omega)
      rw [e] at HY
      go_wp2_with fail
      go_ret
      exact ⟨_, rfl, HY.out.1, HY.out.2⟩
def maskL (N : Nat) (M : Nat → Bool) : List Int := natL ((List.range N).filter M)
theorem maskL_len (N : Nat) (M : Nat → Bool) : (maskL N M).length ≤ N := by
  unfold maskL
  rw [natL_len]
  exact Nat.le_trans (List.length_filter_le _ _) (by rw [List.length_range]; exact Nat.le_refl _)
theorem maskL_succ (i : Nat) (M : Nat → Bool) : maskL (i + 1) M = if M i then maskL i M ++ [(i : Int)] else maskL i M := by
  unfold maskL
  rw [List.range_succ, List.filter_append]
  by_cases h : M i = true
  · rw [if_pos h, List.filter_cons_of_pos h]; exact natL_snoc _ _
  · rw [if_neg h, List.filter_cons_of_neg h]; simp
set_option maxRecDepth 100000 in
set_option maxHeartbeats 1000000 in
theorem rlist_any (w : World) (g N : Nat) (M : Nat → Bool) (B : Nat) (hM : MaskG B w g N M) (hN : N ≤ 100000) :
    Calls Tryz.prog 45 #[.slice (some ⟨g, 0, none⟩) N N] w fun e w' => ∃ v, e = .returned v ∧ OwnL w.heap.size w' v (maskL N M) ∧ Below w.heap.size w w' := by
  obtain ⟨i3, hi3, hz30, hz31, hz32⟩ := info_parts info3
  have HQ := hide hM
  clear hM
  go_enter Tryz.func45, Tryz.ntmps45
  go_wp2_with fail
  go_loopw [3, 4] (fun ov iv wr => ∃ i : Nat, i ≤ N ∧ iv = .int .i64 (i : Int) ∧ Hid (OwnL w.heap.size wr ov (maskL i M) ∧ Below w.heap.size w wr)) (fun _ iv _ => N - (intOf iv).toNat)
  case atStart => exact ⟨0, Nat.zero_le _, rfl, hide ⟨World.ownsRow_nil _ _ _ _, Below.refl _ _⟩⟩
  case round =>
    obtain ⟨i, hi, rfl, HY⟩ := hrel
    by_cases hlt : i < N
    · have l0 : (i : Int) < (N : Int) := by omega
      have i0 : (0 : Int) ≤ (i : Int) := by omega
      have ci : wr.cell? ⟨g, i, none⟩ = some (.bool (M i)) := (HQ.out.2.below HY.out.2 HQ.out.2.lt).at i hlt
      have HS := hide (maskL_succ i M)
      have hq := maskL_len i M
      generalize maskL i M = R at HS HY hq
      by_cases hh : M i = true
      · rw [hh] at ci
        have HE : Hid (maskL (i + 1) M = R ++ [(i : Int)]) := hide (by rw [HS.out, if_pos hh])
        clear HS
        go_wp2_with ((at_builtin; refine wpList_append_lies _ rfl _ _ _ rfl w.heap.size 3 i3 _ 1 8 Tryz.underlying22 hi3 hz30 hz31 hz32 rfl (by omega) u3 R.length (R.map (Value.int .i64)) rfl (HY.out.1.alloc _) ⟨wr.heap.size, 0, none⟩ 1 1 [.int .i64 (i : Int)] rfl rfl (World.news_of_block (cs := #[.int .i64 (i : Int)]) (t := 3) (fr := (0, 0)) (heap_alloc_new wr _)) (by simp [Value.oneCell']) (by omega) (by unfold maxLen; omega) (by omega) (by have := HY.out.2.size; simp; omega) (wr.heap.size + 1) (by simp) ?_; intro g9 c9 w4 ho4 hg4 ha4 hl4))
        have J : Hid (OwnL w.heap.size w4 (.slice (some ⟨g9, 0, none⟩) (R.length + 1) c9) (maskL (i + 1) M) ∧ Below w.heap.size w w4) := hide (by
          rw [HE.out]
          refine ⟨?_, HY.out.2.grown ((World.grownBy_alloc _ _ _).trans hg4) HY.out.2.size (fun k hk => (HY.out.1.lt k hk).1)⟩
          unfold OwnL
          rw [List.length_append, List.map_append]
          exact ho4)
        clear ho4 hg4 ha4 hl4
        go_roundw
        case rel => exact ⟨i + 1, by omega, by go_num, J⟩
        case measure => simp [intOf]; omega
      · have hf : M i = false := by simpa using hh
        rw [hf] at ci
        have J : Hid (OwnL w.heap.size wr u3 (maskL (i + 1) M) ∧ Below w.heap.size w wr) := hide (by rw [HS.out, if_neg hh]; exact HY.out)
        clear HS
        go_wp2_with fail
        go_roundw
        case rel => exact ⟨i + 1, by omega, by go_num, J⟩
        case measure => simp [intOf]; omega
    · have l0 : ¬ (i : Int) < (N : Int) := by omega
      have hiN : i = N := by omega
      rw [hiN] at HY
      go_wp2_with fail
      go_ret
      exact ⟨_, rfl, HY.out.1, HY.out.2⟩
end Go.Proofs.YtojnlpicgemlaabGreatDoor
namespace Go.Proofs.YtojnlpicgemlaabGreatDoor
open Go.RowKit Go.Maps
attribute [local go_sem] Oper.semAt_some

/-! ### One step back; all that can be come to -/
def aheadM (Ed : List EdT) (M : Nat → Bool) (q : Nat) : Bool := Ed.any fun e => M e.2.2.toNat && decide (e.1 = (q : Int))
theorem aheadM_take {Ed : List EdT} {M : Nat → Bool} {i p r : Nat} {x2 : Int} (h : i < Ed.length) (e : Ed[i] = ((p : Int), x2, (r : Int))) (q : Nat) : aheadM (Ed.take (i + 1)) M q = ((M r && decide (q = p)) || aheadM (Ed.take i) M q) := by
  unfold aheadM
  rw [List.take_succ_eq_append_getElem h, List.any_append, e, Bool.or_comm]
  have : decide ((p : Int) = (q : Int)) = decide (q = p) := decide_eq_decide.2 (by omega)
  simp [this]
set_option maxRecDepth 100000 in
set_option maxHeartbeats 1000000 in
theorem ahead_any (w : World) (N : Nat) (mv : Int) (a1 a2 a3 : Option Addr) (n1 n2 c1 c2 c3 : Nat) (Ed : List EdT) (g B : Nat) (M : Nat → Bool) (hN : N ≤ 100000) (hr : RdE w a3 Ed) (hE : Ed.length ≤ 1000000) (h1 : ∀ e ∈ Ed, ∃ p r : Nat, p < N ∧ r < N ∧ e.1 = (p : Int) ∧ e.2.2 = (r : Int)) (hM : MaskG B w g N M) :
    Calls Tryz.prog 42 #[.agg #[.int .i64 (N : Int), .int .i64 mv, .slice a1 n1 c1, .slice a2 n2 c2, .slice a3 Ed.length c3], .slice (some ⟨g, 0, none⟩) N N] w fun e w' => ∃ g', e = .returned (.slice (some ⟨g', 0, none⟩) N N) ∧ MaskG w.heap.size w' g' N (aheadM Ed M) ∧ Below w.heap.size w w' := by
  obtain ⟨i3, hi3, hz30, hz31, hz32⟩ := info_parts info4
  obtain ⟨L, eL⟩ : ∃ L, Ed.length = L := ⟨_, rfl⟩
  rw [eL] at hE
  rw [eL]
  obtain ⟨W0, hW0⟩ : ∃ W0, w.alloc (.cells #[.int .i64 (N : Int), .int .i64 mv, .slice a1 n1 c1, .slice a2 n2 c2, .slice a3 L c3] 25) = W0 := ⟨_, rfl⟩
  have d0 : Below w.heap.size w W0 := by rw [← hW0]; exact (Below.refl _ _).alloc (Nat.le_refl _) _
  have B0 : W0.heap[w.heap.size]? = some (.cells #[.int .i64 (N : Int), .int .i64 mv, .slice a1 n1 c1, .slice a2 n2 c2, .slice a3 L c3] 25 (0, 0)) := by rw [← hW0]; exact World.alloc_heap_new _ _
  have k0 : W0.cell? ⟨w.heap.size, 0, none⟩ = some (.int .i64 (N : Int)) := cell_of B0 rfl
  have HQ := hide (And.intro (hr.on d0) (And.intro h1 (And.intro eL (And.intro (hM.below d0) (And.intro d0 B0)))))
  clear hr h1 eL hM d0 B0
  go_enter Tryz.func42, Tryz.ntmps42
  go_wp2_with ((at_make; refine wpList_make_full _ rfl _ _ 61 rfl W0.heap.size 4 i3 (.bool false) 1 Tryz.underlying61 hi3 hz30 hz31 _ _ _ _ N rfl rfl (by go_num) (by go_num) (by rw [hz32]; omega) (by unfold maxLen; omega) (Nat.le_refl _) ?_))
  intro w1 ho hg
  have D1 : Below W0.heap.size W0 w1 := (Below.refl _ _).grown hg (Nat.le_refl _) (by intro k hk; cases hk)
  have H1 := hide (And.intro (mask_made ho) D1)
  clear ho hg D1
  go_wp2_with fail
  clear hW0 k0
  go_loopw [6] (fun iv wr => ∃ i : Nat, i ≤ L ∧ iv = .int .i64 (i : Int) ∧ Hid (MaskG W0.heap.size wr W0.heap.size N (aheadM (Ed.take i) M) ∧ Below W0.heap.size W0 wr)) (fun iv _ => L - (intOf iv).toNat)
  case atStart => exact ⟨0, Nat.zero_le _, rfl, hide ⟨H1.out.1.congr fun q _ => by simp [aheadM], H1.out.2⟩⟩
  case round =>
    obtain ⟨i, hi, rfl, HY⟩ := hrel
    have hqs : w.heap.size < W0.heap.size := (Array.getElem?_eq_some_iff.1 HQ.out.2.2.2.2.2).1
    have B1 := (HY.out.2.block _ hqs).trans HQ.out.2.2.2.2.2
    have k4 : wr.cell? ⟨w.heap.size, 4, none⟩ = some (.slice a3 L c3) := cell_of B1 rfl
    clear B1
    by_cases hlt : i < L
    · have l0 : (i : Int) < (L : Int) := by omega
      have i0 : (0 : Int) ≤ (i : Int) := by omega
      have hir : i < Ed.length := by have := HQ.out.2.2.1; omega
      obtain ⟨g', o, rfl, r1, r2, r3⟩ := (HQ.out.1.on HY.out.2) i hir
      obtain ⟨p, r, hp, hrN, e1, e2⟩ := HQ.out.2.1 Ed[i] (List.getElem_mem hir)
      have HS := hide (aheadM_take (M := M) hir (show Ed[i] = ((p : Int), Ed[i].2.1, (r : Int)) from Prod.ext e1 (Prod.ext rfl e2)))
      rw [e1] at r1
      rw [e2] at r3
      have p0 : (0 : Int) ≤ (p : Int) := by omega
      have p1 : (p : Int) < (N : Int) := by omega
      have q0 : (0 : Int) ≤ (r : Int) := by omega
      have q1 : (r : Int) < (N : Int) := by omega
      have cr : wr.cell? ⟨g, r, none⟩ = some (.bool (M r)) := (HQ.out.2.2.2.1.2.below HY.out.2 HQ.out.2.2.2.1.2.lt).at r hrN
      by_cases hh : M r = true
      · rw [hh] at cr
        have cp : wr.cell? ⟨W0.heap.size, p, none⟩ = some (.bool (aheadM (Ed.take i) M p)) := HY.out.1.2.at p hp
        have zp : wr.frozen? ⟨W0.heap.size, p, none⟩ = false := HY.out.1.2.fz p
        have J : Hid (MaskG W0.heap.size (wr.setCell ⟨W0.heap.size, p, none⟩ (.bool true)) W0.heap.size N (aheadM (Ed.take (i + 1)) M) ∧ Below W0.heap.size W0 (wr.setCell ⟨W0.heap.size, p, none⟩ (.bool true))) := hide ⟨(HY.out.1.set p).congr fun q _ => by rw [HS.out q, hh, Bool.true_and], HY.out.2.setCell (Nat.le_refl _) _⟩
        clear HY HS
        go_wp2_with fail
        go_roundw
        case rel => exact ⟨i + 1, by omega, by go_num, J⟩
        case measure => simp [intOf]; omega
      · have hf : M r = false := by simpa using hh
        rw [hf] at cr
        have J : Hid (MaskG W0.heap.size wr W0.heap.size N (aheadM (Ed.take (i + 1)) M) ∧ Below W0.heap.size W0 wr) := hide ⟨HY.out.1.congr fun q _ => by rw [HS.out q, hf]; simp, HY.out.2⟩
        clear HY HS
        go_wp2_with fail
        go_roundw
        case rel => exact ⟨i + 1, by omega, by go_num, J⟩
        case measure => simp [intOf]; omega
    · have l0 : ¬ (i : Int) < (L : Int) := by omega
      have e : Ed.take i = Ed := List.take_of_length_le (by have := HQ.out.2.2.1; omega)
      rw [e] at HY
      go_wp2_with fail
      go_ret
      exact ⟨_, rfl, HY.out.1.lower HQ.out.2.2.2.2.1.size, HQ.out.2.2.2.2.1.trans (HY.out.2.mono HQ.out.2.2.2.2.1.size)⟩
end Go.Proofs.YtojnlpicgemlaabGreatDoor
