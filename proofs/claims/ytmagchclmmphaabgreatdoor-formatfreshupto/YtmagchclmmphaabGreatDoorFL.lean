import Derived.Test.YtmagchclmmphaabGreatDoorEK
import Derived.Test.YtmagchclmmphaabGreatDoorFA
import Derived.Test.YtmagchclmmphaabGreatDoorEG
import Derived.Test.YtmagchclmmphaabGreatDoorVP
import Derived.Lib.SliceRun
import Derived.Lib.SlicesCompact
namespace Go.Proofs.YtmagchclmmphaabGreatDoor
open Go.RowKit Go.Maps

/-! ### Edges in order, each once, by sorting -/
theorem cp_mem {α : Type} [Inhabited α] [DecidableEq α] {zs : List α} {x : α} (h : x ∈ Lib.compact zs) : x ∈ zs := by
  unfold Lib.compact Lib.compactUpTo at h
  obtain ⟨j, hj, rfl⟩ := List.mem_map.1 h
  have hj' := List.mem_range.1 (List.mem_filter.1 hj).1
  rw [getElem!_pos _ j (by simpa using hj')]
  simp
theorem cp_len {α : Type} [Inhabited α] [DecidableEq α] (zs : List α) : (Lib.compact zs).length ≤ zs.length := by
  unfold Lib.compact Lib.compactUpTo
  rw [List.length_map]
  exact Nat.le_trans (List.length_filter_le _ _) (by simp)
theorem cp_has {α : Type} [Inhabited α] [DecidableEq α] {zs : List α} : ∀ (j : Nat) (h : j < zs.length), zs[j] ∈ Lib.compact zs
  | 0, h => by
    unfold Lib.compact Lib.compactUpTo
    refine List.mem_map.2 ⟨0, List.mem_filter.2 ⟨List.mem_range.2 h, by simp [Lib.keeps]⟩, ?_⟩
    simp [h]
  | j + 1, h => by
    by_cases e : zs[j + 1] = zs[j]
    · rw [e]; exact cp_has j (by omega)
    · unfold Lib.compact Lib.compactUpTo
      refine List.mem_map.2 ⟨j + 1, List.mem_filter.2 ⟨List.mem_range.2 h, ?_⟩, ?_⟩
      · unfold Lib.keeps
        rw [decide_eq_true_eq]
        right
        rw [getElem!_pos _ (j + 1) (by simpa using h), getElem!_pos _ (j + 1 - 1) (by simp; omega)]
        simpa using e
      · simp [h]
theorem cpE_ss {zs : List EdT} (hs : zs.Pairwise fun a b => ltE b a = false) : SsE (Lib.compact zs) := by
  have key : ∀ m, m ≤ zs.length → (Lib.compactUpTo zs.toArray m).Pairwise (fun a b => ltE a b = true) ∧ (∀ x ∈ Lib.compactUpTo zs.toArray m, ∃ j, j < m ∧ ∃ h : j < zs.length, x = zs[j]) := by
    intro m
    induction m with
    | zero => intro _; exact ⟨by simp [Lib.compactUpTo], fun x hx => by simp [Lib.compactUpTo] at hx⟩
    | succ m ih =>
      intro hm
      obtain ⟨k1, k2⟩ := ih (by omega)
      rw [Lib.compactUpTo_succ]
      by_cases hk : Lib.keeps zs.toArray m = true
      · rw [if_pos hk]
        have hm' : m < zs.length := by omega
        have em : zs.toArray[m]! = zs[m] := by simp [hm']
        refine ⟨?_, fun x hx => ?_⟩
        · rw [List.pairwise_append]
          refine ⟨k1, by simp, fun x hx y hy => ?_⟩
          rw [List.mem_singleton.1 hy, em]
          obtain ⟨j, hj, hjl, rfl⟩ := k2 x hx
          unfold Lib.keeps at hk
          rw [decide_eq_true_eq] at hk
          have hm0 : m ≠ 0 := by omega
          have hk2 := hk.resolve_left hm0
          have e1 : zs.toArray[m - 1]! = zs[m - 1] := by simp [show m - 1 < zs.length by omega]
          rw [em, e1] at hk2
          have l1 : ltE zs[m] zs[m - 1] = false := (List.pairwise_iff_getElem.1 hs) (m - 1) m (by omega) hm' (by omega)
          have l3 : ltE zs[m - 1] zs[m] = true := by
            cases q : ltE zs[m - 1] zs[m]
            · exact absurd (totE _ _ l1 q) hk2
            · rfl
          rcases Nat.lt_or_ge j (m - 1) with q | q
          · have l2 : ltE zs[m - 1] zs[j] = false := (List.pairwise_iff_getElem.1 hs) j (m - 1) hjl (by omega) q
            rw [ltE_iff] at l3 ⊢
            rw [ltE_not] at l2
            omega
          · have : j = m - 1 := by omega
            subst this; exact l3
        · rcases List.mem_append.1 hx with hx | hx
          · obtain ⟨j, hj, q⟩ := k2 x hx
            exact ⟨j, by omega, q⟩
          · rw [List.mem_singleton.1 hx]; exact ⟨m, by omega, hm', em⟩
      · rw [if_neg hk, List.append_nil]
        exact ⟨k1, fun x hx => by obtain ⟨j, hj, q⟩ := k2 x hx; exact ⟨j, by omega, q⟩⟩
  exact (key zs.length (Nat.le_refl _)).1
/-- The edges in order, each once. -/
def dE (L : List EdT) : List EdT := Lib.compact (sortE L)
theorem sortE_up (L : List EdT) : (sortE L).Pairwise fun a b => ltE b a = false := by
  have hp : (sortE L).Pairwise fun a b => (!ltE b a) = true := List.pairwise_mergeSort (le := fun x y => !ltE y x) (fun a b c h1 h2 => by
    simp only [Bool.not_eq_true', ltE_not] at *
    omega) (fun a b => by
    cases h1 : ltE b a
    · simp
    · cases h2 : ltE a b
      · simp
      · exact (ltE_as h1 h2).elim) L
  exact hp.imp fun q => by simpa using q
theorem dE_ss (L : List EdT) : SsE (dE L) := cpE_ss (sortE_up L)
theorem dE_iff (L : List EdT) (x : EdT) : x ∈ dE L ↔ x ∈ L := by
  constructor
  · intro h
    have := cp_mem h
    unfold sortE at this
    exact List.mem_mergeSort.1 this
  · intro h
    have h' : x ∈ sortE L := by unfold sortE; exact List.mem_mergeSort.2 h
    obtain ⟨j, hj, rfl⟩ := List.getElem_of_mem h'
    exact cp_has j hj
theorem dE_len (L : List EdT) : (dE L).length ≤ L.length := Nat.le_trans (cp_len _) (Nat.le_of_eq (sortE_len L))
theorem dE_of {L O : List EdT} (hO : SsE O) (hm : ∀ y, y ∈ O ↔ y ∈ L) : O = dE L := ss_eq O _ hO (dE_ss L) fun x => by rw [hm, dE_iff]

/-! ### What From makes -/
def tN (L : List Int) : List Nat := L.map Int.toNat
def txA (S : List ByteArray) (q : Int) : ByteArray := S[q.toNat]?.getD ⟨#[]⟩
def ruS (S : List ByteArray) (q : Int) : RuT := (wStart, ⟨#[]⟩, txA S q)
def ruE (S Y : List ByteArray) (e : EdT) : RuT := (txA Y e.2.1, txA S e.1, txA S e.2.2)
def rulF (S Y : List ByteArray) (St : List Int) (Ed : List EdT) : List RuT := (riseL St).map (ruS S) ++ (dE Ed).map (ruE S Y)
structure FrV where
  ti : ByteArray
  O : List OpT
  S : List ByteArray
  F : List ByteArray
  R : List RuT
  er : Nat
def noF (x : Nat) : FrV := ⟨⟨#[]⟩, [], [], [], [], x⟩
def okFr (ti : ByteArray) (St Fi : List Int) (Ed : List EdT) (S Y : List ByteArray) : FrV := ⟨ti, opsF Y, S, namesAt (tN (riseL Fi)) S, rulF S Y St Ed, 0⟩
def frV (ti : ByteArray) (n m : Int) (St Fi : List Int) (Ed : List EdT) (S Y : List ByteArray) : FrV :=
  if mayF n m St Fi Ed = false then noF 2 else if ¬ ((S.length : Int) = n ∧ (Y.length : Int) = m) then noF 1 else if ¬ (vld ti = true ∧ S.all vld = true ∧ Y.all vld = true) then noF 20
  else if ¬ (S.Nodup ∧ Y.Nodup) then noF 21 else okFr ti St Fi Ed S Y
structure FrR (W : World) (V : FrV) (a1 a2 a3 a4 : Option Addr) : Prop where
  o : RdO W a1 (V.O.map opOI)
  s : ReadsS W a2 V.S
  f : ReadsS W a3 V.F
  r : RdRu W a4 V.R
theorem FrR.on {W W' : World} {V : FrV} {a1 a2 a3 a4 : Option Addr} (h : FrR W V a1 a2 a3 a4) (d : Below W.heap.size W W') : FrR W' V a1 a2 a3 a4 := ⟨h.o.on d, h.s.below d, h.f.below d, h.r.on d⟩
/-- A content that From hands back: rows of its own. -/
structure FrO (w W : World) (V : FrV) (v1 v2 v3 v4 : Value) : Prop where
  o : W.ownsRow w.heap.size 66 2 v1 V.O.length (V.O.flatMap kOps.cs)
  s : W.ownsRow w.heap.size 9 1 v2 V.S.length (strV V.S)
  f : W.ownsRow w.heap.size 9 1 v3 V.F.length (strV V.F)
  r : W.ownsRow w.heap.size 68 3 v4 V.R.length (V.R.flatMap kRules.cs)
  ne : ∀ b, v2.ownBlock = some b → v3.ownBlock ≠ some b
  d : Below w.heap.size w W
def FrA (w W : World) (V : FrV) (e : Ending) : Prop := ∃ v1 v2 v3 v4, e = .returned (.tuple #[.agg #[.string V.ti, v1, v2, v3, v4], .int .i64 (V.er : Nat)]) ∧ FrO w W V v1 v2 v3 v4
theorem FrO.nil {w W : World} (x : Nat) (d : Below w.heap.size w W) : FrO w W (noF x) (.slice none 0 0) (.slice none 0 0) (.slice none 0 0) (.slice none 0 0) := ⟨⟨rfl, .inl ⟨rfl, rfl⟩⟩, ⟨rfl, .inl ⟨rfl, rfl⟩⟩, ⟨rfl, .inl ⟨rfl, rfl⟩⟩, ⟨rfl, .inl ⟨rfl, rfl⟩⟩, fun b h => (by cases h), d⟩
theorem FrA.nil {w W : World} (x : Nat) (d : Below w.heap.size w W) : FrA w W (noF x) (.returned (.tuple #[.agg #[.string ⟨#[]⟩, .slice none 0 0, .slice none 0 0, .slice none 0 0, .slice none 0 0], .int .i64 (x : Nat)])) := ⟨_, _, _, _, rfl, FrO.nil x d⟩
theorem FrO.reads {w W : World} {V : FrV} {v1 v2 v3 v4 : Value} (h : FrO w W V v1 v2 v3 v4) : ∃ a1 a2 a3 a4 c1 c2 c3 c4, v1 = .slice a1 V.O.length c1 ∧ v2 = .slice a2 V.S.length c2 ∧ v3 = .slice a3 V.F.length c3 ∧ v4 = .slice a4 V.R.length c4 ∧ FrR W V a1 a2 a3 a4 := by
  obtain ⟨a1, c1, e1, r1⟩ := rdO_of h.o
  obtain ⟨a2, c2, e2, r2⟩ := rdS_of h.s
  obtain ⟨a3, c3, e3, r3⟩ := rdS_of h.f
  obtain ⟨a4, c4, e4, r4⟩ := rdR_of h.r
  exact ⟨a1, a2, a3, a4, c1, c2, c3, c4, e1, e2, e3, e4, r1, r2, r3, r4⟩
theorem tN_back {L : List Int} (h : ∀ z ∈ L, 0 ≤ z) : (tN L).map Int.ofNat = L := by
  unfold tN
  rw [List.map_map]
  conv => rhs; rw [← List.map_id L]
  exact List.map_congr_left fun z hz => Int.toNat_of_nonneg (h z hz)
theorem rdI_of {W : World} {ao : Option Addr} {L : List Int} (h : RdN W ao L) (h0 : ∀ z ∈ L, 0 ≤ z) : RdI W ao (tN L) := fun j hj => by
  have hj' : j < L.length := by simpa [tN] using hj
  obtain ⟨g, o, e, c⟩ := h j hj'
  refine ⟨g, o, e, c.trans ?_⟩
  have : ((tN L)[j] : Int) = L[j] := by simp only [tN, List.getElem_map]; exact Int.toNat_of_nonneg (h0 _ (List.getElem_mem hj'))
  rw [this]
end Go.Proofs.YtmagchclmmphaabGreatDoor
namespace Go.Proofs.YtmagchclmmphaabGreatDoor
open Go.RowKit Go.Maps
attribute [local go_sem] Oper.semAt_some

/-! ### Edges cloned -/
theorem edges_at {w : World} {g o : Nat} {L : List EdT} (h : RdE w (some ⟨g, o, none⟩) L) (j : Nat) (u : Value) (hu : (L.flatMap encE)[j]? = some u) : w.cell? ⟨g, o + j, none⟩ = some u := by
  have hz : (L.flatMap encE).length = L.length * 3 := by
    clear h hu
    induction L with
    | nil => rfl
    | cons x L ih => rw [List.flatMap_cons, List.length_append, ih, encE_len, List.length_cons]; omega
  have hj : j < L.length * 3 := by
    have := (List.getElem?_eq_some_iff.1 hu).1
    omega
  have h1 : j / 3 < L.length := by omega
  have e := flat_get encE 3 encE_len L (j / 3) (j % 3) h1 (by omega)
  rw [show j / 3 * 3 + j % 3 = j by omega, hu] at e
  obtain ⟨g', o', e', c0, c1, c2⟩ := h (j / 3) h1
  cases e'
  have h3 : j % 3 = 0 ∨ j % 3 = 1 ∨ j % 3 = 2 := by omega
  rcases h3 with q | q | q
  · rw [q] at e
    rw [show o + j = o + j / 3 * 3 by omega, c0]
    exact e.symm
  · rw [q] at e
    rw [show o + j = o + j / 3 * 3 + 1 by omega, c1]
    exact e.symm
  · rw [q] at e
    rw [show o + j = o + j / 3 * 3 + 2 by omega, c2]
    exact e.symm
theorem encE_one (L : List EdT) : ∀ u ∈ L.flatMap encE, u.oneCell' = true := by
  intro u hu
  obtain ⟨x, _, hx⟩ := List.mem_flatMap.1 hu
  simp only [encE, List.mem_cons, List.not_mem_nil, or_false] at hx
  rcases hx with rfl | rfl | rfl <;> rfl
theorem encE_flat (L : List EdT) : (L.flatMap encE).length = L.length * 3 := by
  induction L with
  | nil => rfl
  | cons x L ih => rw [List.flatMap_cons, List.length_append, ih, encE_len, List.length_cons]; omega
set_option maxRecDepth 100000 in
set_option maxHeartbeats 1000000 in
theorem cloneE_any (w : World) (ao : Option Addr) (c : Nat) (L : List EdT) (hA : Hid (RdE w ao L)) (hl : L.length ≤ 4194304) :
    Calls Tryz.prog 63 #[.slice ao L.length c] w fun e w' => ∃ v, e = .returned v ∧ w'.ownsRow w.heap.size 64 3 v L.length (L.flatMap encE) ∧ Below w.heap.size w w' := by
  obtain ⟨i3, hi3, hz30, hz31, hz32⟩ := info_parts infoE
  cases ao with
  | none =>
    have h0 : L = [] := by
      cases L with
      | nil => rfl
      | cons x r => obtain ⟨_, _, h, _⟩ := hA.out 0 (by simp); cases h
    subst h0
    have heq : ∀ W : World, (binOp .eql 23 (.slice none 0 c) (.slice none 0 0)).run Tryz.prog W = .ok (.bool true) W := fun W => by
      have := Lib.run_eql_slice_nil (P := Tryz.prog) W 23 64 none 0 c 0 0 Tryz.underlying23
      simpa using this
    go_enter Tryz.func63, Tryz.ntmps63
    go_wp2
    go_ret
    exact ⟨_, rfl, ⟨rfl, .inl ⟨rfl, rfl⟩⟩, Below.refl _ _⟩
  | some ad =>
    have heq : ∀ W : World, (binOp .eql 23 (.slice (some ad) L.length c) (.slice none 0 0)).run Tryz.prog W = .ok (.bool false) W := fun W => by
      have := Lib.run_eql_slice_nil (P := Tryz.prog) W 23 64 (some ad) L.length c 0 0 Tryz.underlying23
      simpa using this
    have HN : Hid (∀ (ob : Obj) (j : Nat) (u : Value), (L.flatMap encE)[j]? = some u → (w.alloc ob).cell? (ad.add j) = some u) := hide (fun ob j u hu => by
      have hj := (List.getElem?_eq_some_iff.1 hu).1
      rw [encE_flat] at hj
      obtain ⟨g, o, e, _⟩ := hA.out 0 (by omega)
      cases e
      have hc := edges_at hA.out j u hu
      rw [Addr.add_lit, World.cell?_of_block (w := w) (Below.heap_alloc w ob g (World.block_lt_of_cell? w _ hc)), hc])
    go_enter Tryz.func63, Tryz.ntmps63
    go_wp2_with (at_builtin; refine wpList_append_own _ rfl _ _ _ rfl w.heap.size 64 i3 _ 3 24 Tryz.underlying23 hi3 hz30 hz31 hz32 rfl (by omega) (.slice (some ⟨w.heap.size, 0, none⟩) 0 0) 0 [] rfl (World.ownsRow_made w #[] 0 (Nat.le_refl _) (Nat.zero_le _) rfl) ad L.length c (L.flatMap encE) rfl (encE_flat L) (HN.out _) (encE_one L) (by unfold maxLen; omega) (by omega) (by simp) ?_)
    intro v' w1 ho hgr hnil
    have hb : Below w.heap.size w w1 := ((Below.refl _ _).alloc (Nat.le_refl _) _).grown hgr (by simp) (by intro k hk; simp [Value.ownBlock] at hk; omega)
    have HO := hide ho
    clear hgr hnil heq ho
    go_wp2
    go_ret
    exact ⟨v', rfl, by simpa using HO.out, hb⟩

/-! ### Edges that stand twice go -/
/-- The cells of edges in a row. -/
def EdF (f : Nat → Value) (d : Array EdT) : Prop := ∀ j, j < d.size → f (j * 3) = .int .i64 d[j]!.1 ∧ f (j * 3 + 1) = .int .i64 d[j]!.2.1 ∧ f (j * 3 + 2) = .int .i64 d[j]!.2.2
theorem EdF.set {f : Nat → Value} {d : Array EdT} (h : EdF f d) (k : Nat) (x : EdT) : EdF (fun c => if c = k * 3 + 2 then .int .i64 x.2.2 else if c = k * 3 + 1 then .int .i64 x.2.1 else if c = k * 3 then .int .i64 x.1 else f c) (d.setIfInBounds k x) := by
  intro j hj
  rw [Array.size_setIfInBounds] at hj
  by_cases e : j = k
  · subst e
    rw [Sort.getElem!_set_same d j x hj]
    refine ⟨?_, ?_, ?_⟩
    · show (if _ then _ else _) = _
      rw [if_neg (by omega), if_neg (by omega), if_pos rfl]
    · show (if _ then _ else _) = _
      rw [if_neg (by omega), if_pos rfl]
    · show (if _ then _ else _) = _
      rw [if_pos rfl]
  · rw [Sort.getElem!_set_other d k j x e]
    obtain ⟨h0, h1, h2⟩ := h j hj
    refine ⟨?_, ?_, ?_⟩
    · show (if _ then _ else _) = _
      rw [if_neg (by omega), if_neg (by omega), if_neg (by omega)]; exact h0
    · show (if _ then _ else _) = _
      rw [if_neg (by omega), if_neg (by omega), if_neg (by omega)]; exact h1
    · show (if _ then _ else _) = _
      rw [if_neg (by omega), if_neg (by omega), if_neg (by omega)]; exact h2
theorem edF_cells {W : World} {g N : Nat} {f : Nat → Value} {d : Array EdT} (hM : Mrw W g 64 N f N) (hF : EdF f d) (hN : d.size * 3 ≤ N) {j : Nat} (hj : j < d.size) {x0 x1 x2 : Int} (hx : d[j]! = (x0, x1, x2)) : W.cell? ⟨g, j * 3, none⟩ = some (.int .i64 x0) ∧ W.cell? ⟨g, j * 3 + 1, none⟩ = some (.int .i64 x1) ∧ W.cell? ⟨g, j * 3 + 2, none⟩ = some (.int .i64 x2) := by
  obtain ⟨h0, h1, h2⟩ := hF j hj
  rw [hx] at h0 h1 h2
  exact ⟨(hM.at _ (by omega)).trans (congrArg some h0), (hM.at _ (by omega)).trans (congrArg some h1), (hM.at _ (by omega)).trans (congrArg some h2)⟩
theorem rd_low {W : World} {g N n : Nat} {f : Nat → Value} {L : List EdT} {dk : Array EdT} (hM : Mrw W g 64 N f N) (hN : n * 3 ≤ N) (hl : L.length ≤ n) (hL : ∀ j, j < L.length → L[j]? = some dk[j]!) (hF : ∀ j, j < L.length → f (j * 3) = .int .i64 dk[j]!.1 ∧ f (j * 3 + 1) = .int .i64 dk[j]!.2.1 ∧ f (j * 3 + 2) = .int .i64 dk[j]!.2.2) : RdE W (some ⟨g, 0, none⟩) L := fun j hj => by
  obtain ⟨h0, h1, h2⟩ := hF j hj
  have e : L[j] = dk[j]! := Option.some.inj ((List.getElem?_eq_getElem hj).symm.trans (hL j hj))
  rw [← e] at h0 h1 h2
  exact ⟨g, 0, rfl, by rw [Nat.zero_add, hM.at _ (by omega), h0], by rw [Nat.zero_add, hM.at _ (by omega), h1], by rw [Nat.zero_add, hM.at _ (by omega), h2]⟩
theorem all_kept {d : Array EdT} {n : Nat} (hn : d.size = n) (hk : ∀ j, j < n → Lib.keeps d j = true) : Lib.compactUpTo d n = d.toList := by
  rw [Lib.compactUpTo_all d n hk, ← hn]
  exact Lib.range_map_get d
theorem rd_all {W : World} {g N n : Nat} {f : Nat → Value} {d : Array EdT} (hn : d.size = n) (hM : Mrw W g 64 N f N) (hN : n * 3 ≤ N) (hF : EdF f d) (hk : ∀ j, j < n → Lib.keeps d j = true) : (Lib.compactUpTo d n).length = n ∧ RdE W (some ⟨g, 0, none⟩) (Lib.compactUpTo d n) := by
  rw [all_kept hn hk]
  refine ⟨by simpa using hn, rd_low (dk := d) hM hN (by simp; omega) (fun j hj => ?_) fun j hj => hF j (by simpa using hj)⟩
  have hj' : j < d.size := by simpa using hj
  rw [Array.getElem?_toList, Array.getElem?_eq_getElem hj', getElem!_pos d j hj']
/-- Cells set one behind the other. -/
theorem set_cells {t : TypeId} {g N : Nat} : ∀ (xs : List Value) (o : Nat) {W : World} {f : Nat → Value}, Mrw W g t N f N → ∃ f', Mrw (W.setCells g o xs) g t N f' N ∧ (∀ c, c < o → f' c = f c) ∧ Only W (W.setCells g o xs) (fun k => k = g)
  | [], _, _, f, h => ⟨f, h, fun _ _ => rfl, Only.ofBelow (Below.refl _ _)⟩
  | x :: xs, o, W, f, h => by
    obtain ⟨f', h1, h2, h3⟩ := set_cells xs (o + 1) (h.upd o x)
    refine ⟨f', h1, fun c hc => ?_, (only_set W g o x).trans h3⟩
    rw [h2 c (by omega)]
    exact if_neg (by omega)
theorem zeroE (n : Nat) : (Builtin.zeroCells #[Value.int .i64 0, .int .i64 0, .int .i64 0] n).toList = List.replicate (n * 3) (.int .i64 0) := by
  apply List.ext_getElem
  · simp [Builtin.zeroCells]
  · intro i h1 h2
    have h3 : i % 3 = 0 ∨ i % 3 = 1 ∨ i % 3 = 2 := by omega
    simp [Builtin.zeroCells]
    rcases h3 with q | q | q <;> simp [q]
theorem clear_run (W : World) (ty : TypeId) (g o n c : Nat) (hn : 0 < n) (hc : ∀ j, j < n * 3 → (W.cell? ⟨g, o + j, none⟩).isSome = true) (hf : ∀ j, j < n * 3 → W.frozen? ⟨g, o + j, none⟩ = false) :
    (Builtin.clear_ #[23] ty #[.slice (some ⟨g, o, none⟩) n c]).run Tryz.prog W = .ok (.tuple #[]) (W.setCells g o (List.replicate (n * 3) (.int .i64 0))) := by
  have hst := run_storeCells_cells (P := Tryz.prog) g o (List.replicate (n * 3) (.int .i64 0)) 0 W (by simpa using hc) (by simpa using hf) (by intro v hv'; rw [List.eq_of_mem_replicate hv']; rfl)
  simp only [Nat.add_zero] at hst
  obtain ⟨m, rfl⟩ : ∃ m, n = m + 1 := ⟨n - 1, by omega⟩
  have hz : ∀ w : World, (zeroValue 64).run Tryz.prog w = .ok (.agg #[.int .i64 0, .int .i64 0, .int .i64 0]) w := fun w => by kernel_rfl
  have hcl : (Value.agg #[.int .i64 0, .int .i64 0, .int .i64 0]).cells = #[.int .i64 0, .int .i64 0, .int .i64 0] := rfl
  simp [Builtin.clear_, run_underlying Tryz.underlying23, hz, hcl, zeroE, hst]
set_option maxRecDepth 100000 in
set_option maxHeartbeats 4000000 in
theorem compactA (w : World) (g cap n : Nat) (d : Array EdT) (hn : Hid (d.size = n)) (f : Nat → Value) (hM : Hid (Mrw w g 64 (cap * 3) f (cap * 3))) (hF : Hid (EdF f d)) (hcap : n ≤ cap) (hl : n ≤ 4194304) :
    Calls Tryz.prog 66 #[.slice (some ⟨g, 0, none⟩) n cap] w fun e w' => e = .returned (.slice (some ⟨g, 0, none⟩) (Lib.compactUpTo d n).length cap) ∧ RdE w' (some ⟨g, 0, none⟩) (Lib.compactUpTo d n) ∧ Only w w' (fun k => k = g) := by
  by_cases h2 : n < 2
  · have i1 : (n : Int) < 2 := by omega
    go_enter Tryz.func66, Tryz.ntmps66
    go_wp2
    go_ret
    obtain ⟨e1, e2⟩ := rd_all hn.out hM.out (by omega) hF.out fun j hj => Lib.keeps_lt_one d j (by omega)
    exact ⟨by rw [e1]; rfl, e2, Only.ofBelow (Below.refl _ _)⟩
  · have i1 : ¬ (n : Int) < 2 := by omega
    go_enter Tryz.func66, Tryz.ntmps66
    go_wp2_with fail
    go_loopw [3] (fun i wr => ∃ m : Nat, m + 1 ≤ n ∧ i = .int .i64 ((m + 1 : Nat) : Int) ∧ Hid (Mrw wr g 64 (cap * 3) f (cap * 3) ∧ Below w.heap.size w wr ∧ ∀ j, j < m + 1 → Lib.keeps d j = true)) (fun i _ => n - (intOf i).toNat)
    case atStart => exact ⟨0, by omega, rfl, hide ⟨hM.out, Below.refl _ _, fun j hj => Lib.keeps_lt_one d j (by omega)⟩⟩
    case round =>
      obtain ⟨m, hm, rfl, HK⟩ := hrel
      obtain ⟨wi, rfl⟩ : ∃ z, z = wr := ⟨_, rfl⟩
      by_cases hlt : m + 1 < n
      · have j0 : (m : Int) + 1 < (n : Int) := by omega
        have j1 : (m : Int) < (n : Int) := by omega
        have j2 : (0 : Int) ≤ (m : Int) := by omega
        have j3 : (0 : Int) ≤ (m : Int) + 1 := by omega
        obtain ⟨⟨x0, x1, x2⟩, hx⟩ : ∃ x, d[m + 1]! = x := ⟨_, rfl⟩
        obtain ⟨⟨y0, y1, y2⟩, hy⟩ : ∃ y, d[m]! = y := ⟨_, rfl⟩
        obtain ⟨p0, p1, p2⟩ := edF_cells HK.out.1 hF.out (by rw [hn.out]; omega) (by rw [hn.out]; omega) hx
        obtain ⟨q0, q1, q2⟩ := edF_cells HK.out.1 hF.out (by rw [hn.out]; omega) (show m < d.size by rw [hn.out]; omega) hy
        have HE : Hid (Lib.keeps d (m + 1) = !decide (x0 = y0 ∧ x1 = y1 ∧ x2 = y2)) := hide (by
          unfold Lib.keeps
          rw [Nat.add_sub_cancel, hx, hy]
          simp)
        clear hx hy
        go_upto_region 6 with fail
        go_cut [25] from 16 to 25 (fun b wx => b = .bool (!Lib.keeps d (m + 1)) ∧ Hid (Mrw wx g 64 (cap * 3) f (cap * 3) ∧ Below w.heap.size w wx))
        case first =>
          by_cases g0 : x0 = y0
          · by_cases g1 : x1 = y1
            · by_cases g2 : x2 = y2
              · subst g0 g1 g2
                refine wp_region_phase 9 #[true, true, true, true, true, true, true, true, true, false] (by kernel_rfl) (by kernel_rfl) ?_
                simp only [List.take_succ_cons, List.take_zero, List.drop_succ_cons, List.drop_zero]
                repeat (go_big_quiet_step (fail))
                refine wpQuiet_nil ?_
                intro wz hz
                obtain ⟨nq, rfl⟩ := hz
                go_wp2_with fail
                go_meet
                exact ⟨by rw [HE.out]; simp [], hide ⟨HK.out.1, below_drewN2 HK.out.2.1 nq⟩⟩
              · subst g0 g1
                refine wp_region_phase 9 #[true, true, true, true, true, true, true, true, true, false] (by kernel_rfl) (by kernel_rfl) ?_
                simp only [List.take_succ_cons, List.take_zero, List.drop_succ_cons, List.drop_zero]
                repeat (go_big_quiet_step (fail))
                refine wpQuiet_nil ?_
                intro wz hz
                obtain ⟨nq, rfl⟩ := hz
                go_wp2_with fail
                go_meet
                exact ⟨by rw [HE.out]; simp [g2], hide ⟨HK.out.1, below_drewN2 HK.out.2.1 nq⟩⟩
            · subst g0
              refine wp_region_phase 9 #[true, true, true, true, true, true, true, true, true, false] (by kernel_rfl) (by kernel_rfl) ?_
              simp only [List.take_succ_cons, List.take_zero, List.drop_succ_cons, List.drop_zero]
              repeat (go_big_quiet_step (fail))
              refine wpQuiet_nil ?_
              intro wz hz
              obtain ⟨nq, rfl⟩ := hz
              go_wp2_with fail
              go_meet
              exact ⟨by rw [HE.out]; simp [g1], hide ⟨HK.out.1, below_drewN2 HK.out.2.1 nq⟩⟩
          · skip
            refine wp_region_phase 9 #[true, true, true, true, true, true, true, true, true, false] (by kernel_rfl) (by kernel_rfl) ?_
            simp only [List.take_succ_cons, List.take_zero, List.drop_succ_cons, List.drop_zero]
            repeat (go_big_quiet_step (fail))
            refine wpQuiet_nil ?_
            intro wz hz
            obtain ⟨nq, rfl⟩ := hz
            go_wp2_with fail
            go_meet
            exact ⟨by rw [HE.out]; simp [g0], hide ⟨HK.out.1, below_drewN2 HK.out.2.1 nq⟩⟩
        case rest =>
          obtain ⟨rfl, HB⟩ := hcut
          rename World => wx
          clear p0 p1 p2 q0 q1 q2 HE
          by_cases hk : Lib.keeps d (m + 1) = true
          · rw [hk]
            have HKK := hide hk
            clear hk
            go_wp2_with fail
            exact ⟨⟨m + 1, by omega, by go_num, hide ⟨HB.out.1, HB.out.2, fun j hj => if e : j = m + 1 then by rw [e]; exact HKK.out else HK.out.2.2 j (by omega)⟩⟩, by simp [intOf]; omega⟩
          · have hk' : Lib.keeps d (m + 1) = false := by simpa using hk
            rw [hk']
            have HI := hide (Lib.CompInv.start HK.out.2.2 hk')
            clear hk hk' HK
            have c1 : m + 1 ≤ cap := by omega
            have c2 : m + 1 ≤ n := by omega
            go_upto_region 8 with fail
            go_wp2_with fail
            have hs := HI.out
            go_loopw [3, 5] (fun s3 s5 wr => ∃ (kk m2 : Nat) (dk : Array EdT) (f' : Nat → Value), s3 = .int .i64 (kk : Nat) ∧ s5 = .int .i64 ((m2 + 1 : Nat) : Int) ∧ m + 1 + (m2 + 1) ≤ n ∧ Hid (Mrw wr g 64 (cap * 3) f' (cap * 3) ∧ EdF f' dk ∧ Lib.CompInv d (m + 1 + (m2 + 1)) kk dk ∧ Only w wr (fun k => k = g))) (fun _ s5 _ => n - (intOf s5).toNat)
            case atStart => exact ⟨m + 1, 0, d, f, rfl, rfl, by omega, hide ⟨HB.out.1, hF.out, HI.out, Only.ofBelow HB.out.2⟩⟩
            case round =>
              obtain ⟨kk, m2, dk, f', rfl, rfl, hle, HJ⟩ := hrel
              obtain ⟨wj, rfl⟩ : ∃ z, z = wr := ⟨_, rfl⟩
              have hkk := HJ.out.2.2.1.lt
              by_cases hlt2 : m + 1 + (m2 + 1) < n
              · have l0 : (m2 : Int) + 1 < ((n - (m + 1) : Nat) : Int) := by omega
                have l1 : (m2 : Int) < ((n - (m + 1) : Nat) : Int) := by omega
                have l2 : (0 : Int) ≤ (m2 : Int) := by omega
                have l3 : (0 : Int) ≤ (m2 : Int) + 1 := by omega
                have hds := HJ.out.2.2.1.size
                obtain ⟨⟨x0, x1, x2⟩, hx⟩ : ∃ x, d[m + 1 + (m2 + 1)]! = x := ⟨_, rfl⟩
                obtain ⟨⟨y0, y1, y2⟩, hy⟩ : ∃ y, d[m + 1 + m2]! = y := ⟨_, rfl⟩
                have HC : Hid (∀ W, Mrw W g 64 (cap * 3) f' (cap * 3) → (W.cell? ⟨g, (m + 1) * 3 + (m2 + 1) * 3, none⟩ = some (.int .i64 x0) ∧ W.cell? ⟨g, (m + 1) * 3 + (m2 + 1) * 3 + 1, none⟩ = some (.int .i64 x1) ∧ W.cell? ⟨g, (m + 1) * 3 + (m2 + 1) * 3 + 2, none⟩ = some (.int .i64 x2)) ∧ (W.cell? ⟨g, (m + 1) * 3 + m2 * 3, none⟩ = some (.int .i64 y0) ∧ W.cell? ⟨g, (m + 1) * 3 + m2 * 3 + 1, none⟩ = some (.int .i64 y1) ∧ W.cell? ⟨g, (m + 1) * 3 + m2 * 3 + 2, none⟩ = some (.int .i64 y2))) := hide (fun W hW => by
                  have e1 := edF_cells hW HJ.out.2.1 (by rw [hds, hn.out]; omega) (show m + 1 + (m2 + 1) < dk.size by rw [hds, hn.out]; omega) ((HJ.out.2.2.1.high _ (by omega)).trans hx)
                  have e2 := edF_cells hW HJ.out.2.1 (by rw [hds, hn.out]; omega) (show m + 1 + m2 < dk.size by rw [hds, hn.out]; omega) ((HJ.out.2.2.1.high _ (by omega)).trans hy)
                  rw [show (m + 1 + (m2 + 1)) * 3 = (m + 1) * 3 + (m2 + 1) * 3 by omega] at e1
                  rw [show (m + 1 + m2) * 3 = (m + 1) * 3 + m2 * 3 by omega] at e2
                  exact ⟨e1, e2⟩)
                have HE : Hid (Lib.keeps d (m + 1 + (m2 + 1)) = !decide (x0 = y0 ∧ x1 = y1 ∧ x2 = y2)) := hide (by
                  unfold Lib.keeps
                  rw [show m + 1 + (m2 + 1) - 1 = m + 1 + m2 by omega, hx, hy]
                  simp)
                have HX := hide hx
                clear hx hy hs
                go_upto_region 11 with fail
                go_cut [44] from 35 to 44 (fun b wx => b = .bool (Lib.keeps d (m + 1 + (m2 + 1))) ∧ Hid (Mrw wx g 64 (cap * 3) f' (cap * 3) ∧ Only w wx (fun k => k = g)))
                case first =>
                  obtain ⟨⟨p0, p1, p2⟩, q0, q1, q2⟩ := HC.out wj HJ.out.1
                  by_cases g0 : x0 = y0
                  · by_cases g1 : x1 = y1
                    · by_cases g2 : x2 = y2
                      · subst g0 g1 g2
                        refine wp_region_phase 9 #[true, true, true, true, true, true, true, true, true, false] (by kernel_rfl) (by kernel_rfl) ?_
                        simp only [List.take_succ_cons, List.take_zero, List.drop_succ_cons, List.drop_zero]
                        repeat (go_big_quiet_step (fail))
                        refine wpQuiet_nil ?_
                        intro wz hz
                        obtain ⟨nq, rfl⟩ := hz
                        go_wp2_with fail
                        go_meet
                        exact ⟨by rw [HE.out]; simp [], hide ⟨HJ.out.1, HJ.out.2.2.2.trans (Only.ofBelow (below_drewN2 (Below.refl _ _) nq))⟩⟩
                      · subst g0 g1
                        refine wp_region_phase 9 #[true, true, true, true, true, true, true, true, true, false] (by kernel_rfl) (by kernel_rfl) ?_
                        simp only [List.take_succ_cons, List.take_zero, List.drop_succ_cons, List.drop_zero]
                        repeat (go_big_quiet_step (fail))
                        refine wpQuiet_nil ?_
                        intro wz hz
                        obtain ⟨nq, rfl⟩ := hz
                        go_wp2_with fail
                        go_meet
                        exact ⟨by rw [HE.out]; simp [g2], hide ⟨HJ.out.1, HJ.out.2.2.2.trans (Only.ofBelow (below_drewN2 (Below.refl _ _) nq))⟩⟩
                    · subst g0
                      refine wp_region_phase 9 #[true, true, true, true, true, true, true, true, true, false] (by kernel_rfl) (by kernel_rfl) ?_
                      simp only [List.take_succ_cons, List.take_zero, List.drop_succ_cons, List.drop_zero]
                      repeat (go_big_quiet_step (fail))
                      refine wpQuiet_nil ?_
                      intro wz hz
                      obtain ⟨nq, rfl⟩ := hz
                      go_wp2_with fail
                      go_meet
                      exact ⟨by rw [HE.out]; simp [g1], hide ⟨HJ.out.1, HJ.out.2.2.2.trans (Only.ofBelow (below_drewN2 (Below.refl _ _) nq))⟩⟩
                  · skip
                    refine wp_region_phase 9 #[true, true, true, true, true, true, true, true, true, false] (by kernel_rfl) (by kernel_rfl) ?_
                    simp only [List.take_succ_cons, List.take_zero, List.drop_succ_cons, List.drop_zero]
                    repeat (go_big_quiet_step (fail))
                    refine wpQuiet_nil ?_
                    intro wz hz
                    obtain ⟨nq, rfl⟩ := hz
                    go_wp2_with fail
                    go_meet
                    exact ⟨by rw [HE.out]; simp [g0], hide ⟨HJ.out.1, HJ.out.2.2.2.trans (Only.ofBelow (below_drewN2 (Below.refl _ _) nq))⟩⟩
                case rest =>
                  obtain ⟨rfl, HB2⟩ := hcut
                  rename World => wy
                  clear HE
                  by_cases hk : Lib.keeps d (m + 1 + (m2 + 1)) = true
                  · rw [hk]
                    have HKK := hide hk
                    clear hk
                    obtain ⟨⟨p0, p1, p2⟩, _⟩ := HC.out wy HB2.out.1
                    obtain ⟨u0, hu0⟩ := HB2.out.1.cell (kk * 3) (by omega)
                    obtain ⟨u1, hu1⟩ := HB2.out.1.cell (kk * 3 + 1) (by omega)
                    obtain ⟨u2, hu2⟩ := HB2.out.1.cell (kk * 3 + 2) (by omega)
                    have f0 := HB2.out.1.fz (kk * 3)
                    have f1 := HB2.out.1.fz (kk * 3 + 1)
                    have f2 := HB2.out.1.fz (kk * 3 + 2)
                    have k1 : (kk : Int) < (n : Int) := by omega
                    have k2 : (0 : Int) ≤ (kk : Int) := by omega
                    go_wp2_with fail
                    exact ⟨⟨kk + 1, m2 + 1, dk.setIfInBounds kk (x0, x1, x2), _, by go_num, by go_num, by omega, hide ⟨((HB2.out.1.upd (kk * 3) _).upd (kk * 3 + 1) _).upd (kk * 3 + 2) _, HJ.out.2.1.set kk (x0, x1, x2), by have := HJ.out.2.2.1.keep (by rw [hn.out]; omega) HKK.out; rwa [HX.out] at this, HB2.out.2.trans (only3 wy g _ _ _ _ _ _)⟩⟩, by simp [intOf]; omega⟩
                  · have hk' : Lib.keeps d (m + 1 + (m2 + 1)) = false := by simpa using hk
                    rw [hk']
                    have HKK := hide hk'
                    clear hk hk'
                    go_wp2_with fail
                    exact ⟨⟨kk, m2 + 1, dk, f', by go_num, by go_num, by omega, hide ⟨HB2.out.1, HJ.out.2.1, HJ.out.2.2.1.skip HKK.out, HB2.out.2⟩⟩, by simp [intOf]; omega⟩
              · have l0 : ¬ (m2 : Int) + 1 < ((n - (m + 1) : Nat) : Int) := by omega
                have hend : m + 1 + (m2 + 1) = n := by omega
                rw [hend] at HJ
                obtain ⟨f2, hM2, hF2, hO2⟩ := set_cells (List.replicate ((n - kk) * 3) (.int .i64 0)) (kk * 3) HJ.out.1
                have hcl := fun ty => clear_run wj ty g (kk * 3) (n - kk) (cap - kk) (by omega) (fun j hj => by obtain ⟨u, hu⟩ := HJ.out.1.cell (kk * 3 + j) (by omega); rw [hu]; rfl) (fun j _ => HJ.out.1.fz _)
                have HZ := hide (And.intro hM2 (And.intro hF2 hO2))
                have k1 : kk ≤ n := by omega
                have k2 : kk ≤ cap := by omega
                have k3 : (kk : Int) ≤ (n : Int) := by omega
                have k4 : (kk : Int) ≤ (cap : Int) := by omega
                clear hM2 hF2 hO2 hs
                go_wp2
                go_ret
                obtain ⟨hM2, hF2, hO2⟩ := HZ.out
                have I := HJ.out.2.2.1
                refine ⟨by rw [I.len]; rfl, rd_low (n := n) (dk := dk) hM2 (by omega) (by rw [I.len]; omega) (fun j hj => I.low j (by rw [I.len] at hj; exact hj)) (fun j hj => ?_), HJ.out.2.2.2.trans hO2⟩
                rw [I.len] at hj
                rw [hF2 _ (by omega), hF2 _ (by omega), hF2 _ (by omega)]
                exact HJ.out.2.1 j (by rw [I.size, hn.out]; omega)
      · have j0 : ¬ (m : Int) + 1 < (n : Int) := by omega
        obtain rfl : n = m + 1 := by omega
        go_wp2
        go_ret
        obtain ⟨e1, e2⟩ := rd_all hn.out HK.out.1 (by omega) hF.out HK.out.2.2
        exact ⟨by rw [e1]; rfl, e2, Only.ofBelow HK.out.2.1⟩
end Go.Proofs.YtmagchclmmphaabGreatDoor
namespace Go.Proofs.YtmagchclmmphaabGreatDoor
open Go.RowKit Go.Maps
attribute [local go_sem] Oper.semAt_some

/-! ### The rules of an automaton's content -/
theorem rising_rd (w : World) (g o cap : Nat) (zs : List Int) (hl : zs.length ≤ 4194304) (h : RdN w (some ⟨g, o, none⟩) zs) :
    Calls Tryz.prog 36 #[.slice (some ⟨g, o, none⟩) zs.length cap] w fun e w' => ∃ v, e = .returned v ∧ w'.ownsRow w.heap.size 3 1 v (riseL zs).length ((riseL zs).map (Value.int .i64)) ∧ Below w.heap.size w w' := by
  refine rising_row w g o cap zs (by omega) (hide fun j hj => ?_)
  obtain ⟨g', o', e, c⟩ := h j hj
  cases e
  rw [c]
  simp [List.getD, hj]
/-- What is known of an automaton's parts and its names. -/
structure InF (St Fi : List Int) (Ed : List EdT) (S Y : List ByteArray) : Prop where
  st : ∀ q ∈ riseL St, 0 ≤ q ∧ q < (S.length : Int)
  fi : ∀ q ∈ riseL Fi, 0 ≤ q ∧ q < (S.length : Int)
  ed : ∀ e ∈ dE Ed, (0 ≤ e.1 ∧ e.1 < (S.length : Int)) ∧ (0 ≤ e.2.1 ∧ e.2.1 < (Y.length : Int)) ∧ (0 ≤ e.2.2 ∧ e.2.2 < (S.length : Int))
theorem rise_le (zs : List Int) : (riseL zs).length ≤ zs.length := by
  unfold riseL
  exact Nat.le_trans (cp_len _) (Nat.le_of_eq (List.length_mergeSort _))
theorem rdE_only {W W' : World} {R : Nat → Prop} {ao : Option Addr} {L : List EdT} (h : RdE W ao L) (ho : Only W W' R) (hn : ∀ g o, ao = some ⟨g, o, none⟩ → ¬ R g) : RdE W' ao L := fun j hj => by
  obtain ⟨g, o, e, c0, c1, c2⟩ := h j hj
  have hb := World.block_lt_of_cell? W _ c0
  have k := ho.block g hb (hn g o e)
  exact ⟨g, o, e, (World.cell?_of_block (a := ⟨g, o + j * 3, none⟩) k).trans c0, (World.cell?_of_block (a := ⟨g, o + j * 3 + 1, none⟩) k).trans c1, (World.cell?_of_block (a := ⟨g, o + j * 3 + 2, none⟩) k).trans c2⟩
theorem txA_at {S : List ByteArray} {q : Int} (h : 0 ≤ q ∧ q < (S.length : Int)) : ∃ hi : q.toNat < S.length, txA S q = S[q.toNat] := ⟨by omega, by unfold txA; rw [List.getElem?_eq_getElem (by omega)]; rfl⟩
theorem tx_cell {W : World} {ao : Option Addr} {S : List ByteArray} (h : ReadsS W ao S) {q : Int} (hq : 0 ≤ q ∧ q < (S.length : Int)) : ∃ g o, ao = some ⟨g, o, none⟩ ∧ W.cell? ⟨g, o + q.toNat, none⟩ = some (.string (txA S q)) := by
  obtain ⟨hi, e⟩ := txA_at hq
  obtain ⟨g, o, e1, c⟩ := h q.toNat hi
  exact ⟨g, o, e1, by rw [e]; exact c⟩
theorem map_next {α β : Type} (f : α → β) {l : List α} {k : Nat} {x : α} (h : l[k]? = some x) : (l.take (k + 1)).map f = (l.take k).map f ++ [f x] := by
  rw [List.take_add_one, h, List.map_append]
  rfl
theorem row_block {W : World} {B n : Nat} {v : Value} {L : List EdT} (h : W.ownsRow B 64 3 v n (L.flatMap encE)) (hn : n = L.length) : (v = .slice none 0 0 ∧ L = []) ∨ ∃ g cap f, v = .slice (some ⟨g, 0, none⟩) n cap ∧ n ≤ cap ∧ B ≤ g ∧ Mrw W g 64 (cap * 3) f (cap * 3) ∧ EdF f L.toArray := by
  rcases h.2 with ⟨rfl, h0⟩ | ⟨g, cap, cur, rfl, hB, hb, hnc, hcm, hcs, htake⟩
  · exact .inl ⟨rfl, List.eq_nil_of_length_eq_zero (by omega)⟩
  · refine .inr ⟨g, cap, fun c => cur[c]?.getD default, rfl, hnc, hB, ⟨cur, hb, hcs, fun j hj => ?_⟩, fun j hj => ?_⟩
    · show cur[j]? = some (cur[j]?.getD default)
      rw [Array.getElem?_eq_getElem (by omega)]; rfl
    · have hj' : j < L.length := by simpa using hj
      subst hn
      have c := rdE_cells h j hj'
      have e : L.toArray[j]! = L[j] := by rw [getElem!_pos _ j (by simpa using hj')]; simp
      rw [e]
      have k : ∀ r, r < 3 → W.cell? ⟨g, j * 3 + r, none⟩ = some (cur[j * 3 + r]?.getD default) := fun r hr => by
        have : j * 3 + r < cur.size := by omega
        rw [cell_of hb (Array.getElem?_eq_getElem this), Array.getElem?_eq_getElem this]; rfl
      obtain ⟨c0, c1, c2⟩ := c
      have k0 := k 0 (by omega)
      have k1 := k 1 (by omega)
      have k2 := k 2 (by omega)
      rw [Nat.add_zero] at k0
      exact ⟨Option.some.inj (k0.symm.trans c0), Option.some.inj (k1.symm.trans c1), Option.some.inj (k2.symm.trans c2)⟩
set_option maxRecDepth 100000 in
/-- Compact of a row of edges. -/
theorem compactE_row (w : World) (B : Nat) (v : Value) (L : List EdT) (hv : w.ownsRow B 64 3 v L.length (L.flatMap encE)) (hl : L.length ≤ 4194304) :
    Calls Tryz.prog 66 #[v] w fun e w' => ∃ ao c, e = .returned (.slice ao (Lib.compact L).length c) ∧ RdE w' ao (Lib.compact L) ∧ Only w w' (fun k => v.ownBlock = some k) ∧ ∀ g o, ao = some ⟨g, o, none⟩ → v.ownBlock = some g := by
  rcases row_block hv rfl with ⟨rfl, rfl⟩ | ⟨g, cap, f, rfl, hc, _, hM, hF⟩
  · go_enter Tryz.func66, Tryz.ntmps66
    go_wp2
    go_ret
    exact ⟨none, 0, rfl, fun j h => absurd h (by simp [Lib.compact, Lib.compactUpTo]), Only.ofBelow (Below.refl _ _), fun g o e => by cases e⟩
  · refine (compactA w g cap L.length L.toArray (hide (by simp)) f (hide hM) (hide hF) hc hl).mono ?_
    rintro e w' ⟨rfl, hr, ho⟩
    exact ⟨_, _, rfl, hr, ho.mono fun k _ hk => by rw [hk]; rfl, fun g' o e => by cases e; rfl⟩
set_option maxRecDepth 100000 in
set_option maxHeartbeats 4000000 in
theorem rulesOf_any (w : World) (n m : Int) (St Fi : List Int) (Ed : List EdT) (b1 : Nat) (a2 a3 asx ay : Option Addr) (c1 c2 c3 cs cy : Nat) (S Y : List ByteArray) (hA : Hid (RdN w (some ⟨b1, 0, none⟩) St ∧ RdE w a3 Ed ∧ ReadsS w asx S ∧ ReadsS w ay Y)) (hI : Hid (InF St Fi Ed S Y)) (h1 : St.length ≤ 4194304) (h3 : Ed.length ≤ 4194304) (_hs : S.length ≤ 4194304) (_hy : Y.length ≤ 4194304) :
    Calls Tryz.prog 37 #[.agg #[.int .i64 n, .int .i64 m, .slice (some ⟨b1, 0, none⟩) St.length c1, .slice a2 Fi.length c2, .slice a3 Ed.length c3], .slice asx S.length cs, .slice ay Y.length cy] w fun e w' => ∃ v, e = .returned v ∧ w'.ownsRow w.heap.size 68 3 v (rulF S Y St Ed).length ((rulF S Y St Ed).flatMap kRules.cs) ∧ Below w.heap.size w w' := by
  obtain ⟨W0, hW0⟩ : ∃ W0, w.alloc (.cells #[.int .i64 n, .int .i64 m, .slice (some ⟨b1, 0, none⟩) St.length c1, .slice a2 Fi.length c2, .slice a3 Ed.length c3] 25) = W0 := ⟨_, rfl⟩
  have d0 : Below w.heap.size w W0 := by rw [← hW0]; exact (Below.refl _ _).alloc (Nat.le_refl _) _
  have B0 : W0.heap[w.heap.size]? = some (.cells #[.int .i64 n, .int .i64 m, .slice (some ⟨b1, 0, none⟩) St.length c1, .slice a2 Fi.length c2, .slice a3 Ed.length c3] 25 (0, 0)) := by rw [← hW0]; exact World.alloc_heap_new _ _
  have HD := hide (And.intro d0 (And.intro B0 (show w.heap.size < W0.heap.size by rw [← hW0]; simp)))
  have x2 : W0.cell? ⟨w.heap.size, 2, none⟩ = some (.slice (some ⟨b1, 0, none⟩) St.length c1) := cell_of B0 rfl
  have T36 := rising_rd W0 b1 0 c1 St h1 (hA.out.1.on d0)
  have hNl := rise_le St
  obtain ⟨N, hN⟩ : ∃ N, riseL St = N := ⟨_, rfl⟩
  rw [hN] at T36 hNl
  have HN := hide hN
  clear d0 B0 hN
  go_enter Tryz.func37, Tryz.ntmps37
  go_wp2_with (go_at_call 36; refine T36.mono ?_; rintro e w1 ⟨v1, rfl, hv1, d1⟩; obtain ⟨ar, cr, rfl, hr1⟩ := rdN_of hv1)
  have H1 := hide (And.intro hr1 (And.intro (HD.out.1.trans (d1.mono HD.out.1.size)) ((d1.block _ HD.out.2.2).trans HD.out.2.1)))
  clear T36 hv1 hr1 d1 x2
  go_loopw [7, 17] (fun v i wr => ∃ k : Nat, k ≤ N.length ∧ i = .int .i64 k ∧ Hid (wr.ownsRow w1.heap.size 68 3 v ((N.take k).map (ruS S)).length (((N.take k).map (ruS S)).flatMap kRules.cs) ∧ Below w1.heap.size w1 wr)) (fun _ i _ => N.length - (intOf i).toNat)
  case atStart => exact ⟨0, Nat.zero_le _, rfl, hide ⟨⟨rfl, .inl ⟨rfl, rfl⟩⟩, Below.refl _ _⟩⟩
  case round =>
    obtain ⟨k, hk, rfl, HH⟩ := hrel
    by_cases hlt : k < N.length
    · have i2 : (k : Int) < (N.length : Int) := by omega
      have i3 : (0 : Int) ≤ (k : Int) := by omega
      obtain ⟨g1, o1, rfl, q0⟩ := (H1.out.1.on HH.out.2) k hlt
      have hin : N[k] ∈ riseL St := by rw [HN.out]; exact List.getElem_mem hlt
      have hb := hI.out.st _ hin
      have HX := hide (map_next (ruS S) (List.getElem?_eq_getElem hlt))
      obtain ⟨q, hq⟩ : ∃ q, N[k] = q := ⟨_, rfl⟩
      rw [hq] at q0 HX hb
      clear hq hin
      obtain ⟨g2, o2, rfl, q1⟩ := tx_cell ((hA.out.2.2.1.below H1.out.2.1).below HH.out.2) hb
      have HS := hide (show ruS S q = (wStart, ⟨#[]⟩, txA S q) from rfl)
      obtain ⟨s, hs'⟩ : ∃ s, txA S q = s := ⟨_, rfl⟩
      rw [hs'] at q1 HS
      obtain ⟨p, rfl⟩ : ∃ p : Nat, q = (p : Int) := ⟨q.toNat, by omega⟩
      rw [Int.toNat_natCast] at q1
      have j1 : (p : Int) < (S.length : Int) := hb.2
      have j2 : (0 : Int) ≤ (p : Int) := hb.1
      have hlen : ((N.take k).map (ruS S)).length ≤ k := by rw [List.length_map, List.length_take]; omega
      obtain ⟨R, hR⟩ : ∃ R, (N.take k).map (ruS S) = R := ⟨_, rfl⟩
      rw [hR] at HH HX hlen
      clear hR hs' hb
      have hsz := HH.out.2.size
      obtain ⟨a3', c3', rfl⟩ := rowForm HH.out.1
      go_wp2_with (at_builtin; refine app_R HH.out.1 hsz (wStart, ⟨#[]⟩, s) rfl _ _ rfl rfl rfl (by omega) ?_; intro a5 c5 w3 ho hG; have NX := hide (And.intro ho (HH.out.2.trans (hG.1.toBelow hsz fun k q => (HH.out.1.lt k q).1))); clear ho hG)
      exact ⟨⟨k + 1, by omega, by go_num, hide (by rw [HX.out, HS.out]; exact NX.out)⟩, by simp [intOf]; omega⟩
    · obtain rfl : k = N.length := by omega
      have i2 : ¬ (N.length : Int) < (N.length : Int) := by omega
      rw [List.take_length] at HH
      obtain ⟨R1, hR1⟩ : ∃ R1, N.map (ruS S) = R1 := ⟨_, rfl⟩
      have hR1l : R1.length ≤ 4194304 := by rw [← hR1, List.length_map]; omega
      rw [hR1] at HH
      have HR1 := hide hR1
      clear hR1
      have hbl := (Array.getElem?_eq_some_iff.1 H1.out.2.2).1
      have y4 : wr.cell? ⟨w.heap.size, 4, none⟩ = some (.slice a3 Ed.length c3) := cell_of ((HH.out.2.block _ hbl).trans H1.out.2.2) rfl
      have HDW := hide (H1.out.2.1.trans (HH.out.2.mono H1.out.2.1.size))
      have T63 := cloneE_any wr a3 c3 Ed (hide (hA.out.2.1.on HDW.out)) h3
      go_upto_region 8 with (go_at_call 63; refine T63.mono ?_; rintro e w2 ⟨v2, rfl, hv2, d2⟩)
      have T64 := sortE_any w2 wr.heap.size v2 Ed hv2 h3
      have hvb : ∀ k, v2.ownBlock = some k → wr.heap.size ≤ k := fun k q => (hv2.lt k q).1
      go_upto_region 9 with (go_at_call 64; refine T64.mono ?_; rintro e w3 ⟨rfl, hv3, o3⟩)
      have T66 := compactE_row w3 wr.heap.size v2 (sortE Ed) (by rw [sortE_len]; exact hv3) (by rw [sortE_len]; exact h3)
      rw [show Lib.compact (sortE Ed) = dE Ed from rfl] at T66
      have hDl := dE_len Ed
      obtain ⟨D, hD⟩ : ∃ D, dE Ed = D := ⟨_, rfl⟩
      rw [hD] at T66 hDl
      have HDD := hide hD
      have HVB := hide hvb
      clear hD T63 T64 y4 hvb
      go_wp2_with (go_at_call 66; refine T66.mono ?_; rintro e w4 ⟨ad, cd, rfl, hrd, o4, hab⟩)
      have D4 : Below wr.heap.size wr w4 := (d2.trans (o3.toBelow d2.size fun k q => HVB.out k q)).trans (o4.toBelow (Nat.le_trans d2.size o3.size) fun k q => HVB.out k q)
      have H4 : Hid (w4.ownsRow w1.heap.size 68 3 u7 R1.length (R1.flatMap kRules.cs) ∧ RdE w4 ad D ∧ Below w1.heap.size w1 w4 ∧ ∀ g o, ad = some ⟨g, o, none⟩ → u7.ownBlock ≠ some g) := hide ⟨owns_below HH.out.1 D4, hrd, HH.out.2.trans (D4.mono HH.out.2.size), fun g o e q => by
        have k1 := HVB.out g (hab g o e)
        have k2 := (HH.out.1.lt g q).2
        omega⟩
      clear HH hrd o3 o4 hab d2 hv2 hv3 T66 D4 HVB
      go_loopw [7, 38] (fun v i wr => ∃ k : Nat, k ≤ D.length ∧ i = .int .i64 k ∧ Hid (wr.ownsRow w1.heap.size 68 3 v (R1 ++ (D.take k).map (ruE S Y)).length ((R1 ++ (D.take k).map (ruE S Y)).flatMap kRules.cs) ∧ RdE wr ad D ∧ Below w1.heap.size w1 wr ∧ ∀ g o, ad = some ⟨g, o, none⟩ → v.ownBlock ≠ some g)) (fun _ i _ => D.length - (intOf i).toNat)
      case atStart => exact ⟨0, Nat.zero_le _, rfl, hide (by simpa using H4.out)⟩
      case round =>
        obtain ⟨k, hk, rfl, HH⟩ := hrel
        clear H4
        obtain ⟨wo, rfl⟩ : ∃ z, z = wr := ⟨_, rfl⟩
        by_cases hlt : k < D.length
        · have i2 : (k : Int) < (D.length : Int) := by omega
          have i3 : (0 : Int) ≤ (k : Int) := by omega
          obtain ⟨g1, o1, rfl, q0, q1, q2⟩ := HH.out.2.1 k hlt
          have hgl : g1 < wo.heap.size := World.block_lt_of_cell? wo _ q0
          have hin : D[k] ∈ dE Ed := by rw [HDD.out]; exact List.getElem_mem hlt
          obtain ⟨e1, e2, e3⟩ := hI.out.ed _ hin
          have HX := hide (map_next (ruE S Y) (List.getElem?_eq_getElem hlt))
          obtain ⟨⟨p, y, q⟩, hx⟩ : ∃ x, D[k] = x := ⟨_, rfl⟩
          rw [hx] at q0 q1 q2 e1 e2 e3 HX
          simp only at q0 q1 q2 e1 e2 e3
          clear hx hin
          obtain ⟨p, rfl⟩ : ∃ a : Nat, p = (a : Int) := ⟨p.toNat, by omega⟩
          obtain ⟨y, rfl⟩ : ∃ a : Nat, y = (a : Int) := ⟨y.toNat, by omega⟩
          obtain ⟨q, rfl⟩ : ∃ a : Nat, q = (a : Int) := ⟨q.toNat, by omega⟩
          have HS := hide (show ruE S Y ((p : Int), (y : Int), (q : Int)) = (txA Y y, txA S p, txA S q) from rfl)
          have dA := H1.out.2.1.trans (HH.out.2.2.1.mono H1.out.2.1.size)
          obtain ⟨g2, o2, rfl, r1⟩ := tx_cell (hA.out.2.2.1.below dA) e1
          obtain ⟨g3, o3, rfl, r2⟩ := tx_cell (hA.out.2.2.2.below dA) e2
          obtain ⟨_, _, e0, r3⟩ := tx_cell (hA.out.2.2.1.below dA) e3
          cases e0
          rw [Int.toNat_natCast] at r1 r2 r3
          obtain ⟨s1, hs1⟩ : ∃ s, txA S p = s := ⟨_, rfl⟩
          obtain ⟨s2, hs2⟩ : ∃ s, txA Y y = s := ⟨_, rfl⟩
          obtain ⟨s3, hs3⟩ : ∃ s, txA S q = s := ⟨_, rfl⟩
          rw [hs1] at r1 HS
          rw [hs2] at r2 HS
          rw [hs3] at r3 HS
          have j1 := e1.1
          have j2 := e1.2
          have j3 := e2.1
          have j4 := e2.2
          have j5 := e3.1
          have j6 := e3.2
          have hlen : (R1 ++ (D.take k).map (ruE S Y)).length ≤ 8388608 := by rw [List.length_append, List.length_map, List.length_take]; omega
          have HA2 := hide (List.append_assoc R1 ((D.take k).map (ruE S Y)) [ruE S Y ((p : Int), (y : Int), (q : Int))])
          obtain ⟨R, hR⟩ : ∃ R, R1 ++ (D.take k).map (ruE S Y) = R := ⟨_, rfl⟩
          rw [hR] at HH hlen HA2
          clear hR hs1 hs2 hs3 e1 e2 e3 dA
          obtain ⟨a4', c4', rfl⟩ := rowForm HH.out.1
          go_upto_region 12 with fail
          obtain ⟨X1, hX1⟩ : ∃ X1, wo.alloc (.cells #[.int .i64 (p : Int), .int .i64 (y : Int), .int .i64 (q : Int)] 64) = X1 := ⟨_, rfl⟩
          rw [hX1]
          have dX : Below wo.heap.size wo X1 := by rw [← hX1]; exact (Below.refl _ _).alloc (Nat.le_refl _) _
          have bX : X1.heap[wo.heap.size]? = some (.cells #[.int .i64 (p : Int), .int .i64 (y : Int), .int .i64 (q : Int)] 64 (0, 0)) := by rw [← hX1]; exact World.alloc_heap_new _ _
          have t0 := tw_cell (show X1.cell? ⟨wo.heap.size, 0, none⟩ = some (.int .i64 (p : Int)) from cell_of bX rfl) (.cells #[.string s2, .string s1, .string s3] 68)
          have t1 := tw_cell (show X1.cell? ⟨wo.heap.size, 1, none⟩ = some (.int .i64 (y : Int)) from cell_of bX rfl) (.cells #[.string s2, .string s1, .string s3] 68)
          have t2 := tw_cell (show X1.cell? ⟨wo.heap.size, 2, none⟩ = some (.int .i64 (q : Int)) from cell_of bX rfl) (.cells #[.string s2, .string s1, .string s3] 68)
          have t3 := tw_cell ((dX.cell (p := ⟨g2, o2 + p, none⟩) (World.block_lt_of_cell? wo _ r1)).trans r1) (.cells #[.string s2, .string s1, .string s3] 68)
          have t4 := tw_cell ((dX.cell (p := ⟨g3, o3 + y, none⟩) (World.block_lt_of_cell? wo _ r2)).trans r2) (.cells #[.string s2, .string s1, .string s3] 68)
          have t5 := tw_cell ((dX.cell (p := ⟨g2, o2 + q, none⟩) (World.block_lt_of_cell? wo _ r3)).trans r3) (.cells #[.string s2, .string s1, .string s3] 68)
          have HX1 := hide (And.intro dX hX1)
          clear bX hX1 dX q0 q1 q2 r1 r2 r3
          refine wp_region_alloc 17 #[true, true, true, true, true, true, true, true, true, true, true, true, true, true, true, true, true, true, false, false] _ (.cells #[.string s2, .string s1, .string s3] 68) (by kernel_rfl) (by kernel_rfl) rfl ?_
          simp only [List.take_succ_cons, List.take_zero, List.drop_succ_cons, List.drop_zero]
          refine mix_take 17 (by kernel_rfl) ?_
          simp only [List.take_succ_cons, List.take_zero, List.drop_succ_cons, List.drop_zero]
          repeat (go_big_quiet_step (fail))
          refine wpQuiet_nil ?_
          refine mix_nil ?_
          refine ⟨rfl, .slice (some ⟨X1.heap.size, 0, none⟩) 1 1, fun d => ?_, fun d => ?_⟩
          · go_simp
          · have hsz : w1.heap.size ≤ (X1.drewN d).heap.size := Nat.le_trans HH.out.2.2.1.size HX1.out.1.size
            have hrow : (X1.drewN d).ownsRow w1.heap.size 68 3 (.slice a4' R.length c4') R.length (R.flatMap kRules.cs) := owns_below HH.out.1 (below_drewN2 HX1.out.1 d)
            refine app_R hrow hsz (s2, s1, s3) rfl _ _ rfl rfl rfl hlen ?_
            intro a5 c5 w5 ho hG
            have hG' : Grw X1 w5 (.slice a4' R.length c4') (.slice a5 (R.length + 1) c5) := hG.undrewN
            have hgx : g1 < X1.heap.size := Nat.lt_of_lt_of_le hgl HX1.out.1.size
            have NX := hide (And.intro ho (And.intro (rdE_only (HH.out.2.1.on HX1.out.1) hG'.1 (fun g o e z => HH.out.2.2.2 g o e z)) (And.intro ((HH.out.2.2.1.trans (HX1.out.1.mono HH.out.2.2.1.size)).trans (hG'.1.toBelow hsz fun k q => (HH.out.1.lt k q).1)) (fun g o (e : (some ⟨g1, o1, none⟩ : Option Addr) = some ⟨g, o, none⟩) (z : (Value.slice a5 (R.length + 1) c5).ownBlock = some g) => by
              cases e
              rcases hG'.2 _ z with z | z
              · exact HH.out.2.2.2 _ _ rfl z
              · omega))))
            clear ho hG hG' hrow
            go_wp2_with fail
            exact ⟨⟨k + 1, by omega, by go_num, hide (by rw [HX.out, ← HA2.out, HS.out]; exact NX.out)⟩, by simp [intOf]; omega⟩
        · obtain rfl : k = D.length := by omega
          have i2 : ¬ (D.length : Int) < (D.length : Int) := by omega
          rw [List.take_length] at HH
          go_wp2
          go_ret
          have e : rulF S Y St Ed = R1 ++ D.map (ruE S Y) := by unfold rulF; rw [HN.out, HDD.out, HR1.out]
          rw [e]
          exact ⟨_, rfl, own_wide HH.out.1 H1.out.2.1.size, H1.out.2.1.trans (HH.out.2.2.1.mono H1.out.2.1.size)⟩
end Go.Proofs.YtmagchclmmphaabGreatDoor
