import Derived.Test.YtmagchclmmphaaaGreatDoorRd
namespace Go.Proofs.YtmagchclmmphaaaGreatDoor
open Go.RowKit Go.Maps

/-- Texts that lie in a row which is none of the reader's blocks. -/
def LnS (W : World) (b : Nat) (r : RS) (ao : Option Addr) (L : List ByteArray) : Prop := ∀ (j : Nat) (h : j < L.length), ∃ g o, ao = some ⟨g, o, none⟩ ∧ W.cell? ⟨g, o + j, none⟩ = some (.string L[j]) ∧ ¬ RB b r g
theorem LnS.step {n0 b : Nat} {W W' : World} {r r' : RS} {ao : Option Addr} {L : List ByteArray} (h : LnS W b r ao L) (k : Stp n0 b W r W' r') : LnS W' b r' ao L := fun j hj => by
  obtain ⟨g, o, e, c, n⟩ := h j hj
  have hlt : g < W.heap.size := World.block_lt_of_cell? W _ c
  refine ⟨g, o, e, (World.cell?_of_block (a := ⟨g, o + j, none⟩) (k.only.block g hlt n)).trans c, fun e2 => ?_⟩
  rcases k.new g e2 with h1 | h1
  · exact n h1
  · omega
theorem LnS.only {b : Nat} {W W' : World} {r : RS} {ao : Option Addr} {L : List ByteArray} (h : LnS W b r ao L) (d : Below W.heap.size W W') : LnS W' b r ao L := fun j hj => by
  obtain ⟨g, o, e, c, n⟩ := h j hj
  exact ⟨g, o, e, (d.cell (p := ⟨g, o + j, none⟩) (World.block_lt_of_cell? W _ c)).trans c, n⟩
theorem sadd_pre {α : Type} [DecidableEq α] (l : List α) (s : α) : l <+: sadd l s := by
  unfold sadd; split
  · exact List.prefix_refl _
  · exact List.prefix_append _ _
def intV (N : List Nat) : List Value := N.map fun n => .int .i64 (n : Nat)
theorem info3 : (Tryz.prog.info? 3).map (fun i => (i.zero, i.size, i.bytes)) = some (some (.int .i64 0), 1, 8) := by kernel_rfl
theorem pre_get {α : Type} {l l' : List α} (h : l <+: l') {i : Nat} {s : α} (hi : l[i]? = some s) : l'[i]? = some s := by
  obtain ⟨t, rfl⟩ := h
  rw [List.getElem?_append_left (List.getElem?_eq_some_iff.1 hi).1]; exact hi

theorem fold_len {α : Type} [DecidableEq α] : ∀ (L l : List α), (L.foldl sadd l).length ≤ l.length + L.length
  | [], l => by simp
  | s :: L, l => by
    have h1 := fold_len L (sadd l s)
    have h2 := (sadd_len l s).2
    rw [List.foldl_cons, List.length_cons]; omega
theorem fold_take {α : Type} [DecidableEq α] (L l : List α) (k : Nat) (hk : k < L.length) : (L.take (k + 1)).foldl sadd l = sadd ((L.take k).foldl sadd l) L[k] := by
  rw [List.take_succ_eq_append_getElem hk, List.foldl_append]; rfl
theorem Stp.set {n0 b : Nat} {w W : World} {r r' : RS} (h : Stp n0 b w r W r') {q : Nat} (hq : w.heap.size ≤ q) (hn : ¬ RB b r' q) (j : Nat) (u : Value) : Stp n0 b w r (W.setCell ⟨q, j, none⟩ u) r' :=
  ⟨h.rd.only (only_set W q j u) (fun k hk e => hn (by rw [← e]; exact hk)), h.only.andNew (only_set W q j u) (fun i hi e => by omega), h.new⟩
theorem row_set (N : List Nat) (n k i : Nat) (hN : N.length = k) (hk : k < n) : (intV N ++ List.replicate (n - k) (Value.int .i64 0)).set k (.int .i64 (i : Nat)) = intV (N ++ [i]) ++ List.replicate (n - (k + 1)) (.int .i64 0) := by
  rw [show n - k = (n - (k + 1)) + 1 by omega, List.replicate_succ, List.set_append_right _ _ (by simp [intV, hN])]
  simp [intV, hN]
theorem row_at (N : List Nat) (n k : Nat) (hN : N.length = k) (hk : k < n) : (intV N ++ List.replicate (n - k) (Value.int .i64 0))[k]? = some (.int .i64 0) := by
  rw [List.getElem?_append_right (by simp [intV, hN]), List.getElem?_replicate, if_pos (by simp [intV, hN]; omega)]
def stS (r : RS) (L : List ByteArray) (k : Nat) (v m : Value) : RS := { r with S := (L.take k).foldl sadd r.S, vs := v, ms := m }

/-- What takeStates holds behind k names. -/
structure TsI (n0 b : Nat) (w : World) (r : RS) (L : List ByteArray) (k : Nat) (v m : Value) (N : List Nat) (W : World) : Prop where
  st : Stp n0 b w r W (stS r L k v m)
  lt : w.heap.size < W.heap.size
  nb : ¬ RB b (stS r L k v m) w.heap.size
  nl : N.length = k
  num : ∀ j (h : j < N.length), (stS r L k v m).S[N[j]]? = L[j]?
  row : W.ownsRow w.heap.size 3 1 (.slice (some ⟨w.heap.size, 0, none⟩) L.length L.length) L.length (intV N ++ List.replicate (L.length - k) (.int .i64 0))

theorem TsI.next {n0 b : Nat} {w W w2 : World} {r : RS} {L : List ByteArray} {k i : Nat} {v m v' m' : Value} {N : List Nat} (h : TsI n0 b w r L k v m N W) (hk : k < L.length) (hi : (sadd (stS r L k v m).S L[k])[i]? = some L[k])
    (h2 : Stp n0 b W (stS r L k v m) w2 { stS r L k v m with S := sadd (stS r L k v m).S L[k], vs := v', ms := m' }) : TsI n0 b w r L (k + 1) v' m' (N ++ [i]) (w2.setCell ⟨w.heap.size, k, none⟩ (.int .i64 (i : Nat))) := by
  have e : { stS r L k v m with S := sadd (stS r L k v m).S L[k], vs := v', ms := m' } = stS r L (k + 1) v' m' := by
    unfold stS; rw [fold_take L r.S k hk]
  have eS : (stS r L (k + 1) v' m').S = sadd (stS r L k v m).S L[k] := by rw [← e]
  rw [e] at h2
  have nb : ¬ RB b (stS r L (k + 1) v' m') w.heap.size := fun q => by
    rcases h2.new _ q with q | q
    · exact h.nb q
    · have := h.lt; omega
  have hrow := (h2.row h.row (fun j hj => by simp [Value.ownBlock] at hj; rw [← hj]; exact h.nb))
  refine ⟨(h.st.trans h2).set (Nat.le_refl _) nb k _, ?_, nb, by simp [h.nl], fun j hj => ?_, ?_⟩
  · have := h.lt; have := h2.only.size; simp [World.setCell]; omega
  · rw [eS]
    by_cases hjk : j < N.length
    · rw [List.getElem_append_left hjk]
      have q := h.num j hjk
      have hjL : j < L.length := by have := h.nl; omega
      rw [List.getElem?_eq_getElem hjL] at q ⊢
      exact pre_get (sadd_pre _ _) q
    · have : j = N.length := by simp at hj; omega
      subst this
      rw [List.getElem_append_right (Nat.le_refl _)]
      simp only [Nat.sub_self, List.getElem_cons_zero]
      rw [hi]
      simp only [h.nl]
      rw [List.getElem?_eq_getElem hk]
  · have := (hrow.stored k (.int .i64 (i : Nat))).1
    rwa [row_set N L.length k i h.nl hk] at this

set_option maxRecDepth 100000 in
set_option maxHeartbeats 1000000 in
theorem takeStates_any (n0 b : Nat) (w : World) (r : RS) (ao : Option Addr) (cap : Nat) (L : List ByteArray) (h : Hid (Rd n0 b w r)) (hL : Hid (LnS w b r ao L)) (hok : Hid (∀ s ∈ L, s.size ≤ 1048576)) (hl : Hid (r.S.length + L.length ≤ 67108864)) :
    Calls Tryz.prog 72 #[.pointer (some ⟨b, 0, none⟩), .slice ao L.length cap] w fun e w' => ∃ v m N, e = .returned (.slice (some ⟨w.heap.size, 0, none⟩) L.length L.length) ∧ TsI n0 b w r L L.length v m N w' := by
  obtain ⟨i0, hi, hz0, hz1, hz2⟩ := info_parts info3
  have hlen : L.length ≤ 67108864 := by have := hl.out; omega
  obtain ⟨w1, hmk, hown, hgrow⟩ := run_make_full (P := Tryz.prog) w w.heap.size 76 3 i0 (.int .i64 0) 1 Tryz.underlying76 hi hz0 hz1 .i64 .i64 L.length (by rw [hz2]; omega) (by unfold maxLen; omega) (Nat.le_refl _)
  rw [Nat.mul_one, show (Value.int .i64 0).cells = #[.int .i64 0] from rfl, toList_madeCells_one] at hown
  have d1 : Below w.heap.size w w1 := (Below.refl _ _).grown hgrow (Nat.le_refl _) (by intro k hk; cases hk)
  have T0 : TsI n0 b w r L 0 r.vs r.ms [] w1 := ⟨Stp.same h.out d1, (hown.lt _ rfl).2, fun q => by have := h.out.lt _ q; omega, rfl, fun j hj => by simp at hj, by simpa [intV] using hown⟩
  have HT := hide T0
  clear T0 hown hgrow d1
  go_enter Tryz.func72, Tryz.ntmps72
  go_wp2
  go_loopw [13] (fun i wr => ∃ (k : Nat) (v m : Value) (N : List Nat), k ≤ L.length ∧ i = .int .i64 k ∧ Hid (TsI n0 b w r L k v m N wr)) (fun i _ => L.length - (intOf i).toNat)
  case atStart => exact ⟨0, _, _, _, Nat.zero_le _, rfl, HT⟩
  case round =>
    obtain ⟨k, v, m, N, hk, rfl, T⟩ := hrel
    clear HT
    by_cases hlt : k < L.length
    · obtain ⟨g, o, rfl, q, _⟩ := (hL.out.step T.out.st) k hlt
      obtain ⟨s, hs⟩ : ∃ s, L[k] = s := ⟨_, rfl⟩
      rw [hs] at q
      have HS := hide hs
      have i0 : (0 : Int) ≤ (k : Int) := by omega
      have i2 : (k : Int) < (L.length : Int) := by omega
      have hok' := hide (show kText.ok s from hok.out s (by rw [← hs]; exact List.getElem_mem hlt))
      have hl' : (stS r L k v m).S.length ≤ 67108864 := by
        have := fold_len (L.take k) r.S
        have := hl.out
        show ((L.take k).foldl sadd r.S).length ≤ _
        rw [List.length_take] at *
        omega
      clear hs
      go_wp2_with fail
      refine (addS_any n0 b _ (stS r L k v m) s (hide T.out.st.rd) hok' hl').mono ?_
      rintro e w2 ⟨i, v', m', rfl, hi', h2⟩
      have hrow := h2.row T.out.row (fun j hj => by simp [Value.ownBlock] at hj; rw [← hj]; exact T.out.nb)
      have hc := hrow.cellAt k (by omega)
      rw [row_at N L.length k T.out.nl hlt] at hc
      have hf : w2.frozen? ⟨w.heap.size, k, none⟩ = false := hrow.frozenAt _
      have H2 := hide (And.intro hi' h2)
      clear hrow hi' h2 q
      go_wp2
      go_roundw
      case rel =>
        obtain ⟨hi', h2⟩ := H2.out
        refine ⟨k + 1, v', m', N ++ [i], by omega, by go_num, ?_⟩
        rw [← HS.out] at hi' h2
        exact hide (TsI.next T.out hlt hi' h2)
      case measure => simp [intOf]; omega
    · obtain rfl : k = L.length := by omega
      go_wp2
      go_ret
      exact ⟨v, m, N, rfl, T.out⟩
end Go.Proofs.YtmagchclmmphaaaGreatDoor
