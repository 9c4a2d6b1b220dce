import Derived.Test.YtmagchclmmphaabGreatDoorRd
import Derived.Deep.RegionHeld3
namespace Go.Proofs.YtmagchclmmphaabGreatDoor
open Go.RowKit Go.Maps

/-- Texts that lie in a row which is none of the reader's blocks. -/
def LnS (W : World) (b : Nat) (r : RS) (ao : Option Addr) (L : List ByteArray) : Prop := ∀ (j : Nat) (h : j < L.length), ∃ g o, ao = some ⟨g, o, none⟩ ∧ W.cell? ⟨g, o + j, none⟩ = some (.string L[j]) ∧ ¬ RB b r g
theorem LnS.step {n0 b : Nat} {W W' : World} {r r' : RS} {ao : Option Addr} {L : List ByteArray} (h : LnS W b r ao L) (k : Stp n0 b W r W' r') : LnS W' b r' ao L := fun j hj => by
  obtain ⟨g, o, e, c, n⟩ := h j hj
  have hlt : g < W.heap.size := World.block_lt_of_cell? W _ c
  refine ⟨g, o, e, (World.cell?_of_block (a := ⟨g, o + j, none⟩) (k.only.block g hlt n)).trans c, fun e2 => ?_⟩
  rcases k.new g e2 with h1 | h1
  · exact n h1
  · omega
theorem LnS.only {b : Nat} {W W' : World} {r : RS} {ao : Option Addr} {L : List ByteArray} (h : LnS W b r ao L) (d : Below W.heap.size W W') : LnS W' b r ao L := fun j hj => by
  obtain ⟨g, o, e, c, n⟩ := h j hj
  exact ⟨g, o, e, (d.cell (p := ⟨g, o + j, none⟩) (World.block_lt_of_cell? W _ c)).trans c, n⟩
theorem sadd_pre {α : Type} [DecidableEq α] (l : List α) (s : α) : l <+: sadd l s := by
  unfold sadd; split
  · exact List.prefix_refl _
  · exact List.prefix_append _ _
def intV (N : List Nat) : List Value := N.map fun n => .int .i64 (n : Nat)
theorem info3 : (Tryz.prog.info? 3).map (fun i => (i.zero, i.size, i.bytes)) = some (some (.int .i64 0), 1, 8) := by kernel_rfl
theorem pre_get {α : Type} {l l' : List α} (h : l <+: l') {i : Nat} {s : α} (hi : l[i]? = some s) : l'[i]? = some s := by
  obtain ⟨t, rfl⟩ := h
  rw [List.getElem?_append_left (List.getElem?_eq_some_iff.1 hi).1]; exact hi

theorem fold_len {α : Type} [DecidableEq α] : ∀ (L l : List α), (L.foldl sadd l).length ≤ l.length + L.length
  | [], l => by simp
  | s :: L, l => by
    have h1 := fold_len L (sadd l s)
    have h2 := (sadd_len l s).2
    rw [List.foldl_cons, List.length_cons]; omega
theorem fold_take {α : Type} [DecidableEq α] (L l : List α) (k : Nat) (hk : k < L.length) : (L.take (k + 1)).foldl sadd l = sadd ((L.take k).foldl sadd l) L[k] := by
  rw [List.take_succ_eq_append_getElem hk, List.foldl_append]; rfl
theorem Stp.set {n0 b : Nat} {w W : World} {r r' : RS} (h : Stp n0 b w r W r') {q : Nat} (hq : w.heap.size ≤ q) (hn : ¬ RB b r' q) (j : Nat) (u : Value) : Stp n0 b w r (W.setCell ⟨q, j, none⟩ u) r' :=
  ⟨h.rd.only (only_set W q j u) (fun k hk e => hn (by rw [← e]; exact hk)), h.only.andNew (only_set W q j u) (fun i hi e => by omega), h.new⟩
theorem row_set (N : List Nat) (n k i : Nat) (hN : N.length = k) (hk : k < n) : (intV N ++ List.replicate (n - k) (Value.int .i64 0)).set k (.int .i64 (i : Nat)) = intV (N ++ [i]) ++ List.replicate (n - (k + 1)) (.int .i64 0) := by
  rw [show n - k = (n - (k + 1)) + 1 by omega, List.replicate_succ, List.set_append_right _ _ (by simp [intV, hN])]
  simp [intV, hN]
theorem row_at (N : List Nat) (n k : Nat) (hN : N.length = k) (hk : k < n) : (intV N ++ List.replicate (n - k) (Value.int .i64 0))[k]? = some (.int .i64 0) := by
  rw [List.getElem?_append_right (by simp [intV, hN]), List.getElem?_replicate, if_pos (by simp [intV, hN]; omega)]
def stS (r : RS) (L : List ByteArray) (k : Nat) (v m : Value) : RS := { r with S := (L.take k).foldl sadd r.S, vs := v, ms := m }

/-- What takeStates holds behind k names. -/
structure TsI (n0 b : Nat) (w : World) (r : RS) (L : List ByteArray) (k : Nat) (v m : Value) (N : List Nat) (W : World) : Prop where
  st : Stp n0 b w r W (stS r L k v m)
  lt : w.heap.size < W.heap.size
  nb : ¬ RB b (stS r L k v m) w.heap.size
  nl : N.length = k
  num : ∀ j (h : j < N.length), (stS r L k v m).S[N[j]]? = L[j]?
  row : W.ownsRow w.heap.size 3 1 (.slice (some ⟨w.heap.size, 0, none⟩) L.length L.length) L.length (intV N ++ List.replicate (L.length - k) (.int .i64 0))

theorem TsI.next {n0 b : Nat} {w W w2 : World} {r : RS} {L : List ByteArray} {k i : Nat} {v m v' m' : Value} {N : List Nat} (h : TsI n0 b w r L k v m N W) (hk : k < L.length) (hi : (sadd (stS r L k v m).S L[k])[i]? = some L[k])
    (h2 : Stp n0 b W (stS r L k v m) w2 { stS r L k v m with S := sadd (stS r L k v m).S L[k], vs := v', ms := m' }) : TsI n0 b w r L (k + 1) v' m' (N ++ [i]) (w2.setCell ⟨w.heap.size, k, none⟩ (.int .i64 (i : Nat))) := by
  have e : { stS r L k v m with S := sadd (stS r L k v m).S L[k], vs := v', ms := m' } = stS r L (k + 1) v' m' := by
    unfold stS; rw [fold_take L r.S k hk]
  have eS : (stS r L (k + 1) v' m').S = sadd (stS r L k v m).S L[k] := by rw [← e]
  rw [e] at h2
  have nb : ¬ RB b (stS r L (k + 1) v' m') w.heap.size := fun q => by
    rcases h2.new _ q with q | q
    · exact h.nb q
    · have := h.lt; omega
  have hrow := (h2.row h.row (fun j hj => by simp [Value.ownBlock] at hj; rw [← hj]; exact h.nb))
  refine ⟨(h.st.trans h2).set (Nat.le_refl _) nb k _, ?_, nb, by simp [h.nl], fun j hj => ?_, ?_⟩
  · have := h.lt; have := h2.only.size; simp [World.setCell]; omega
  · rw [eS]
    by_cases hjk : j < N.length
    · rw [List.getElem_append_left hjk]
      have q := h.num j hjk
      have hjL : j < L.length := by have := h.nl; omega
      rw [List.getElem?_eq_getElem hjL] at q ⊢
      exact pre_get (sadd_pre _ _) q
    · have : j = N.length := by simp at hj; omega
      subst this
      rw [List.getElem_append_right (Nat.le_refl _)]
      simp only [Nat.sub_self, List.getElem_cons_zero]
      rw [hi]
      simp only [h.nl]
      rw [List.getElem?_eq_getElem hk]
  · have := (hrow.stored k (.int .i64 (i : Nat))).1
    rwa [row_set N L.length k i h.nl hk] at this

set_option maxRecDepth 100000 in
set_option maxHeartbeats 1000000 in
theorem takeStates_any (n0 b : Nat) (w : World) (r : RS) (ao : Option Addr) (cap : Nat) (L : List ByteArray) (h : Hid (Rd n0 b w r)) (hL : Hid (LnS w b r ao L)) (hok : Hid (∀ s ∈ L, s.size ≤ 1048576)) (hl : Hid (r.S.length + L.length ≤ 67108864)) :
    Calls Tryz.prog 104 #[.pointer (some ⟨b, 0, none⟩), .slice ao L.length cap] w fun e w' => ∃ v m N, e = .returned (.slice (some ⟨w.heap.size, 0, none⟩) L.length L.length) ∧ TsI n0 b w r L L.length v m N w' := by
  obtain ⟨i0, hi, hz0, hz1, hz2⟩ := info_parts info3
  have hlen : L.length ≤ 67108864 := by have := hl.out; omega
  obtain ⟨w1, hmk, hown, hgrow⟩ := run_make_full (P := Tryz.prog) w w.heap.size 22 3 i0 (.int .i64 0) 1 Tryz.underlying22 hi hz0 hz1 .i64 .i64 L.length (by rw [hz2]; omega) (by unfold maxLen; omega) (Nat.le_refl _)
  rw [Nat.mul_one, show (Value.int .i64 0).cells = #[.int .i64 0] from rfl, toList_madeCells_one] at hown
  have d1 : Below w.heap.size w w1 := (Below.refl _ _).grown hgrow (Nat.le_refl _) (by intro k hk; cases hk)
  have T0 : TsI n0 b w r L 0 r.vs r.ms [] w1 := ⟨Stp.same h.out d1, (hown.lt _ rfl).2, fun q => by have := h.out.lt _ q; omega, rfl, fun j hj => by simp at hj, by simpa [intV] using hown⟩
  have HT := hide T0
  clear T0 hown hgrow d1
  go_enter Tryz.func104, Tryz.ntmps104
  go_wp2
  go_loopw [13] (fun i wr => ∃ (k : Nat) (v m : Value) (N : List Nat), k ≤ L.length ∧ i = .int .i64 k ∧ Hid (TsI n0 b w r L k v m N wr)) (fun i _ => L.length - (intOf i).toNat)
  case atStart => exact ⟨0, _, _, _, Nat.zero_le _, rfl, HT⟩
  case round =>
    obtain ⟨k, v, m, N, hk, rfl, T⟩ := hrel
    clear HT
    by_cases hlt : k < L.length
    · obtain ⟨g, o, rfl, q, _⟩ := (hL.out.step T.out.st) k hlt
      obtain ⟨s, hs⟩ : ∃ s, L[k] = s := ⟨_, rfl⟩
      rw [hs] at q
      have HS := hide hs
      have i0 : (0 : Int) ≤ (k : Int) := by omega
      have i2 : (k : Int) < (L.length : Int) := by omega
      have hok' := hide (show kText.ok s from hok.out s (by rw [← hs]; exact List.getElem_mem hlt))
      have hl' : (stS r L k v m).S.length ≤ 67108864 := by
        have := fold_len (L.take k) r.S
        have := hl.out
        show ((L.take k).foldl sadd r.S).length ≤ _
        rw [List.length_take] at *
        omega
      clear hs
      go_wp2_with fail
      refine (addS_any n0 b _ (stS r L k v m) s (hide T.out.st.rd) hok' hl').mono ?_
      rintro e w2 ⟨i, v', m', rfl, hi', h2⟩
      have hrow := h2.row T.out.row (fun j hj => by simp [Value.ownBlock] at hj; rw [← hj]; exact T.out.nb)
      have hc := hrow.cellAt k (by omega)
      rw [row_at N L.length k T.out.nl hlt] at hc
      have hf : w2.frozen? ⟨w.heap.size, k, none⟩ = false := hrow.frozenAt _
      have H2 := hide (And.intro hi' h2)
      clear hrow hi' h2 q
      go_wp2
      go_roundw
      case rel =>
        obtain ⟨hi', h2⟩ := H2.out
        refine ⟨k + 1, v', m', N ++ [i], by omega, by go_num, ?_⟩
        rw [← HS.out] at hi' h2
        exact hide (TsI.next T.out hlt hi' h2)
      case measure => simp [intOf]; omega
    · obtain rfl : k = L.length := by omega
      go_wp2
      go_ret
      exact ⟨v, m, N, rfl, T.out⟩
end Go.Proofs.YtmagchclmmphaabGreatDoor
namespace Go.Proofs.YtmagchclmmphaabGreatDoor
open Go.RowKit Go.Maps

/-- An arity's first byte as a number. -/
def arB (s : ByteArray) : Nat := (s.data[0]?.getD 48 - 48).toNat
def opB (p : ByteArray × ByteArray) : OpT := (p.1, arB p.2)
def stO (r : RS) (P : List (ByteArray × ByteArray)) (k : Nat) (v m : Value) : RS := { r with O := ((P.take k).map opB).foldl sadd r.O, vo := v, mo := m }
/-- A line of pairs. -/
structure Prs (L : List ByteArray) (P : List (ByteArray × ByteArray)) : Prop where
  len : L.length = 2 * P.length
  fst : ∀ k (h : k < P.length), L[2 * k]? = some P[k].1
  snd : ∀ k (h : k < P.length), L[2 * k + 1]? = some P[k].2
  ok : ∀ p ∈ P, p.1.size ≤ 1048576 ∧ 0 < p.2.size
theorem arB_le (s : ByteArray) : arB s ≤ 255 := by unfold arB; have := (s.data[0]?.getD 48 - 48).toNat_lt; omega
theorem wrap_ar (s : ByteArray) (h : 0 < s.size) : IntKind.u8.wrap ((s[0].toNat : Int) - 48) = (arB s : Int) := by
  have e : arB s = (s[0] - 48).toNat := by
    unfold arB
    rw [Array.getElem?_eq_getElem (by exact h)]
    rfl
  have hl := s[0].toNat_lt
  rw [e, UInt8.toNat_sub]
  have h48 : (48 : UInt8).toNat = 48 := rfl
  rw [h48]
  simp only [IntKind.wrap, IntKind.bits, IntKind.signed]
  simp
  omega
theorem wrap_id (n : Nat) (h : n ≤ 1073741824) : IntKind.i64.wrap (n : Int) = (n : Int) := by
  simp [IntKind.wrap, IntKind.bits, IntKind.signed]; omega
theorem wrap_one (n : Nat) (h : n ≤ 1073741824) : IntKind.i64.wrap ((n : Int) + 1) = (n : Int) + 1 := by
  simp [IntKind.wrap, IntKind.bits, IntKind.signed]; omega
theorem opB_ok {p : ByteArray × ByteArray} (h : p.1.size ≤ 1048576) : okOp (opB p) := ⟨h, by have := arB_le p.2; show arB p.2 ≤ _; omega⟩

set_option maxRecDepth 100000 in
set_option maxHeartbeats 2000000 in
theorem takeOps_any (n0 b : Nat) (w : World) (r : RS) (ao : Option Addr) (cap : Nat) (L : List ByteArray) (P : List (ByteArray × ByteArray)) (h : Hid (Rd n0 b w r)) (hL : Hid (LnS w b r ao L)) (hP : Hid (Prs L P)) (hl : Hid (r.O.length + P.length ≤ 67108864)) :
    Calls Tryz.prog 103 #[.pointer (some ⟨b, 0, none⟩), .slice ao L.length cap] w fun e w' => ∃ v m, e = .returned (.tuple #[]) ∧ Stp n0 b w r w' (stO r P P.length v m) := by
  have hlen := hP.out.len
  have hpl : P.length ≤ 67108864 := by have := hl.out; omega
  have HT := hide (Stp.same h.out (Below.refl _ _))
  have HL := hide hlen
  clear hlen
  go_enter Tryz.func103, Tryz.ntmps103
  go_wp2
  go_loopw [4] (fun i wr => ∃ (k j : Nat) (v m : Value), k ≤ P.length ∧ Hid (j = 2 * k) ∧ i = .int .i64 (j : Nat) ∧ Hid (Stp n0 b w r wr (stO r P k v m))) (fun i _ => L.length + 1 - (intOf i).toNat)
  case atStart => exact ⟨0, 0, r.vo, r.mo, Nat.zero_le _, hide rfl, rfl, HT⟩
  case round =>
    obtain ⟨k, j, v, m, hk, HJ, rfl, T⟩ := hrel
    clear HT
    by_cases hlt : k < P.length
    · have hP1 := hP.out.fst k hlt
      have hP2 := hP.out.snd k hlt
      rw [← HJ.out] at hP1 hP2
      have hjl : j + 1 < L.length := by have := HJ.out; have := HL.out; omega
      obtain ⟨g, o, rfl, q1, nb⟩ := (hL.out.step T.out) j (by omega)
      obtain ⟨g', o', e', q2, _⟩ := (hL.out.step T.out) (j + 1) (by omega)
      cases e'
      rw [List.getElem?_eq_getElem (by omega)] at hP1 hP2
      rw [Option.some.inj hP1] at q1
      rw [Option.some.inj hP2] at q2
      have hpo := hP.out.ok _ (List.getElem_mem hlt)
      obtain ⟨p, hp⟩ : ∃ p, P[k] = p := ⟨_, rfl⟩
      rw [hp] at q1 q2 hpo
      have HP := hide hp
      obtain ⟨s1, s2⟩ := p
      simp only at q1 q2 hpo
      have hok' := hide (show kOps.ok (opB (s1, s2)) from opB_ok hpo.1)
      have hl' : (stO r P k v m).O.length ≤ 67108864 := by
        have := fold_len ((P.take k).map opB) r.O
        have := hl.out
        show (((P.take k).map opB).foldl sadd r.O).length ≤ _
        rw [List.length_map, List.length_take] at *
        omega
      have i0 : (0 : Int) ≤ (j : Int) := by omega
      have i2 : (j : Int) < (L.length : Int) := by omega
      have i3 : (0 : Int) ≤ (j : Int) + 1 := by omega
      have i4 : (j : Int) + 1 < (L.length : Int) := by omega
      have hz := hpo.2
      have T' := hide (T.out.grow (Below.refl _ _).drew)
      have hw1 := wrap_one j (by have := HL.out; omega)
      have hw2 := wrap_ar s2 hz
      have hw3 := wrap_id (arB s2) (by have := arB_le s2; omega)
      clear hp hP1 hP2 hpo
      go_wp2_with fail
      go_region_with (go_at_call 133; refine (addO_any n0 b _ (stO r P k v m) (opB (s1, s2)) (hide T'.out.rd) hok' hl').mono ?_; rintro e w2 ⟨i, v', m', rfl, hi', h2⟩)
      all_goals
        have H2 := hide h2
        clear h2 hi'
        have hjb : j ≤ 268435456 := by have := HL.out; omega
        clear hw1 hw2 hw3
        go_wp2
        go_roundw
        case rel =>
          have e : { stO r P k v m with O := sadd (stO r P k v m).O (opB (s1, s2)), vo := v', mo := m' } = stO r P (k + 1) v' m' := by
            unfold stO
            rw [← HP.out, List.take_succ_eq_append_getElem hlt, List.map_append, List.foldl_append]; rfl
          have h2 := H2.out
          rw [e] at h2
          exact ⟨k + 1, j + 2, v', m', by omega, hide (by have := HJ.out; omega), by go_num, hide (T'.out.trans h2)⟩
        case measure => simp [intOf]; omega
    · obtain rfl : k = P.length := by omega
      have i2 : ¬ (j : Int) < (L.length : Int) := by have := HJ.out; have := HL.out; omega
      go_wp2
      go_end0
      exact ⟨rfl, v, m, T.out⟩
end Go.Proofs.YtmagchclmmphaabGreatDoor
namespace Go.Proofs.YtmagchclmmphaabGreatDoor
open Go.RowKit Go.Maps

def opR (s : RuT) : OpT := (s.1, if s.2.1 = ⟨#[]⟩ then 0 else 1)
theorem str_empty (q : ByteArray) : (q.toList == []) = decide (q = ⟨#[]⟩) := by
  have := str_beq q ⟨#[]⟩
  have e : (⟨#[]⟩ : ByteArray).toList = [] := by rw [ByteArray.toList_eq]
  rw [e] at this
  exact this

set_option maxRecDepth 100000 in
set_option maxHeartbeats 1000000 in
theorem opOf_any (s : RuT) (w : World) : Calls Tryz.prog 98 #[.agg #[.string s.1, .string s.2.1, .string s.2.2]] w fun e w' => e = .returned (.agg #[.string (opR s).1, .int .i64 ((opR s).2 : Nat)]) ∧ Below w.heap.size w w' := by
  have hse := str_empty s.2.1
  by_cases h : s.2.1 = ⟨#[]⟩
  · have hse' : (s.2.1.toList == []) = true := by rw [hse]; exact decide_eq_true h
    have ho : opR s = (s.1, 0) := by unfold opR; rw [if_pos h]
    rw [ho]
    have H := hide h
    clear h hse
    go_enter Tryz.func98, Tryz.ntmps98
    go_wp2
    refine bodyPost_ret (v := .agg #[.string s.1, .int .i64 0]) (by simp [results, Tryz.results98, go_sem]) rfl ⟨rfl, ?_⟩
    exact (((Below.refl _ _).alloc (Nat.le_refl _) _)).alloc (by simp) _
  · have hse' : (s.2.1.toList == []) = false := by rw [hse]; exact decide_eq_false h
    have ho : opR s = (s.1, 1) := by unfold opR; rw [if_neg h]
    rw [ho]
    have H := hide h
    clear h hse
    go_enter Tryz.func98, Tryz.ntmps98
    go_wp2
    refine bodyPost_ret (v := .agg #[.string s.1, .int .i64 1]) (by simp [results, Tryz.results98, go_sem]) rfl ⟨rfl, ?_⟩
    exact (((Below.refl _ _).alloc (Nat.le_refl _) _)).alloc (by simp) _

/-- A line of a rule. -/
def ruL (L : List ByteArray) : RuT := (L.getD 0 ⟨#[]⟩, if L.length = 3 then L.getD 1 ⟨#[]⟩ else ⟨#[]⟩, L.getD (L.length - 1) ⟨#[]⟩)
theorem LnS.get {W : World} {b : Nat} {r : RS} {ao : Option Addr} {L : List ByteArray} (h : LnS W b r ao L) (hl : 0 < L.length) : ∃ g o, ao = some ⟨g, o, none⟩ ∧ ¬ RB b r g ∧ ∀ j (_ : j < L.length), W.cell? ⟨g, o + j, none⟩ = some (.string (L.getD j ⟨#[]⟩)) := by
  obtain ⟨g, o, rfl, _, n⟩ := h 0 hl
  refine ⟨g, o, rfl, n, fun j hj => ?_⟩
  obtain ⟨g', o', e, c, _⟩ := h j hj
  cases e
  rw [c]; congr 2; simp [List.getD, hj]

theorem LnS.tail {W : World} {b : Nat} {r : RS} {g o : Nat} {a : ByteArray} {L : List ByteArray} (h : LnS W b r (some ⟨g, o, none⟩) (a :: L)) : LnS W b r (some ⟨g, o + 1, none⟩) L := fun j hj => by
  obtain ⟨g', o', e, c, n⟩ := h (j + 1) (by simp; omega)
  cases e
  exact ⟨g, o + 1, rfl, by rw [show o + 1 + j = o + (j + 1) by omega]; exact c, n⟩
theorem opOf3 (s1 s2 s3 : ByteArray) (hne : s2 ≠ ⟨#[]⟩) (w : World) : Calls Tryz.prog 98 #[.agg #[.string s1, .string s2, .string s3]] w fun e w' => e = .returned (.agg #[.string s1, .int .i64 1]) ∧ Below w.heap.size w w' := by
  refine (opOf_any (s1, s2, s3) w).mono ?_
  rintro e w' ⟨rfl, d⟩
  refine ⟨?_, d⟩
  unfold opR
  rw [if_neg hne]
  rfl
theorem opOf2 (s1 s3 : ByteArray) (w : World) : Calls Tryz.prog 98 #[.agg #[.string s1, .string ⟨#[]⟩, .string s3]] w fun e w' => e = .returned (.agg #[.string s1, .int .i64 0]) ∧ Below w.heap.size w w' := by
  refine (opOf_any (s1, ⟨#[]⟩, s3) w).mono ?_
  rintro e w' ⟨rfl, d⟩
  refine ⟨?_, d⟩
  unfold opR
  rw [if_pos rfl]
  rfl

set_option maxRecDepth 100000 in
set_option maxHeartbeats 2000000 in
theorem takeRule3_any (n0 b : Nat) (w : World) (r : RS) (ao : Option Addr) (cap : Nat) (s1 s2 s3 : ByteArray) (h : Hid (Rd n0 b w r)) (hL : Hid (LnS w b r ao [s1, s2, s3])) (hok : Hid (s1.size ≤ 1048576 ∧ s2.size ≤ 1048576 ∧ s3.size ≤ 1048576)) (hne : Hid (s2 ≠ ⟨#[]⟩)) (hl : Hid (r.O.length ≤ 67108863 ∧ r.S.length ≤ 67108861 ∧ r.R.length ≤ 67108863)) (hcap : 3 ≤ cap) :
    Calls Tryz.prog 105 #[.pointer (some ⟨b, 0, none⟩), .slice ao 3 cap] w fun e w' => e = .returned (.tuple #[]) ∧ ∃ vo mo vs ms vr mr, Stp n0 b w r w' { r with O := sadd r.O (s1, 1), S := sadd (sadd r.S s2) s3, R := sadd r.R (s1, s2, s3), vo := vo, mo := mo, vs := vs, ms := ms, vr := vr, mr := mr } := by
  obtain ⟨g, o, rfl, nb, cells⟩ := hL.out.get (by simp)
  have c0 : w.cell? ⟨g, o, none⟩ = some (.string s1) := cells 0 (by simp)
  have c1 : w.cell? ⟨g, o + 1, none⟩ = some (.string s2) := cells 1 (by simp)
  have c2 : w.cell? ⟨g, o + 2, none⟩ = some (.string s3) := cells 2 (by simp)
  have hglt : g < w.heap.size := World.block_lt_of_cell? w _ c0
  have hA : Below w.heap.size w (w.alloc (.cells #[.string ⟨#[]⟩, .string ⟨#[]⟩, .string ⟨#[]⟩] 68)) := (Below.refl _ _).alloc (Nat.le_refl _) _
  have a0 := (hA.cell (p := ⟨g, o, none⟩) hglt).trans c0
  have a1 := (hA.cell (p := ⟨g, o + 1, none⟩) hglt).trans c1
  have a2 := (hA.cell (p := ⟨g, o + 2, none⟩) hglt).trans c2
  clear cells hA
  go_enter Tryz.func105, Tryz.ntmps105
  go_wp2_with fail
  go_region
  go_wp2_with fail
  obtain ⟨X, hX⟩ : ∃ X, w.alloc (.cells #[.string s1, .string s2, .string s3] 68) = X := ⟨_, rfl⟩
  have hdX : Below w.heap.size w X := by rw [← hX]; exact (Below.refl _ _).alloc (Nat.le_refl _) _
  have hzX : X.heap.size = w.heap.size + 1 := by rw [← hX]; simp
  have hbX : X.heap[w.heap.size]? = some (.cells #[.string s1, .string s2, .string s3] 68 (0, 0)) := by rw [← hX]; exact World.alloc_heap_new _ _
  have hnB : ¬ RB b r w.heap.size := fun q => by have := h.out.lt _ q; omega
  rw [hX]
  have T0 := hide (Stp.same (h.out.below hdX) (Below.refl X.heap.size X).drew)
  have hLX := hide (hL.out.only hdX)
  have b0 : X.cell? ⟨w.heap.size, 0, none⟩ = some (.string s1) := cell_of hbX rfl
  have b1 : X.cell? ⟨w.heap.size, 1, none⟩ = some (.string s2) := cell_of hbX rfl
  have b2 : X.cell? ⟨w.heap.size, 2, none⟩ = some (.string s3) := cell_of hbX rfl
  have HB := hide (And.intro hbX (And.intro hnB (And.intro hdX hzX)))
  have hok1 := hide (show kOps.ok (s1, 1) from ⟨hok.out.1, by show 1 ≤ _; omega⟩)
  have hlO : r.O.length ≤ 67108864 := by have := hl.out.1; omega
  clear c0 c1 c2 a0 a1 a2 hbX hnB hdX
  go_region_with (first
    | (go_at_call 98; refine (opOf3 s1 s2 s3 hne.out _).mono ?_; rintro e wa ⟨rfl, da⟩; have Ta := hide ((T0.out.grow (Below.refl _ _).drew).grow da); clear da)
    | (go_at_call 133; refine (addO_any n0 b _ r (s1, 1) (hide Ta.out.rd) hok1 hlO).mono ?_; rintro e wb ⟨ib, vb, mb, rfl, hib, hb2⟩; have Tb := hide (Ta.out.trans hb2); clear hib hb2))
  have hLb := hide ((hLX.out.step Tb.out).tail)
  have hoks := hide (show ∀ s ∈ [s2, s3], s.size ≤ 1048576 from fun s hs => by
    simp only [List.mem_cons, List.not_mem_nil, or_false] at hs
    rcases hs with rfl | rfl
    · exact hok.out.2.1
    · exact hok.out.2.2)
  have hlS := hide (show r.S.length + [s2, s3].length ≤ 67108864 by have := hl.out.2.1; simp; omega)
  clear b0 b1 b2
  go_wp2_with fail
  refine (takeStates_any n0 b wb _ (some ⟨g, o + 1, none⟩) _ [s2, s3] (hide Tb.out.rd) hLb hoks hlS).mono ?_
  rintro e wc ⟨vc, mc, N, rfl, hTc⟩
  have Tc := hide (Tb.out.trans hTc.st)
  have hbc : wc.heap[w.heap.size]? = some (.cells #[.string s1, .string s2, .string s3] 68 (0, 0)) := (Tc.out.only.block _ (by have := HB.out.2.2.2; omega) HB.out.2.1).trans HB.out.1
  have b0 : wc.cell? ⟨w.heap.size, 0, none⟩ = some (.string s1) := cell_of hbc rfl
  have b1 : wc.cell? ⟨w.heap.size, 1, none⟩ = some (.string s2) := cell_of hbc rfl
  have b2 : wc.cell? ⟨w.heap.size, 2, none⟩ = some (.string s3) := cell_of hbc rfl
  have Td := hide (Tc.out.grow (Below.refl _ _).drew)
  have hokr := hide (show kRules.ok (s1, s2, s3) from hok.out)
  have hlR : r.R.length ≤ 67108864 := by have := hl.out.2.2; omega
  clear hTc hbc
  go_wp2_with fail
  go_region_with (go_at_call 135; refine (addR_any n0 b _ _ (s1, s2, s3) (hide Td.out.rd) hokr hlR).mono ?_; rintro e wd ⟨id, vd, md, rfl, hid, hd2⟩; have Te := hide (Td.out.trans hd2); clear hid hd2)
  go_end0
  exact ⟨rfl, vb, mb, vc, mc, vd, md, (Stp.same h.out HB.out.2.2.1).trans Te.out⟩

set_option maxRecDepth 100000 in
set_option maxHeartbeats 2000000 in
theorem takeRule2_any (n0 b : Nat) (w : World) (r : RS) (ao : Option Addr) (cap : Nat) (s1 s3 : ByteArray) (h : Hid (Rd n0 b w r)) (hL : Hid (LnS w b r ao [s1, s3])) (hok : Hid (s1.size ≤ 1048576 ∧ s3.size ≤ 1048576)) (hl : Hid (r.O.length ≤ 67108863 ∧ r.S.length ≤ 67108861 ∧ r.R.length ≤ 67108863)) (hcap : 2 ≤ cap) :
    Calls Tryz.prog 105 #[.pointer (some ⟨b, 0, none⟩), .slice ao 2 cap] w fun e w' => e = .returned (.tuple #[]) ∧ ∃ vo mo vs ms vr mr, Stp n0 b w r w' { r with O := sadd r.O (s1, 0), S := sadd r.S s3, R := sadd r.R (s1, ⟨#[]⟩, s3), vo := vo, mo := mo, vs := vs, ms := ms, vr := vr, mr := mr } := by
  obtain ⟨g, o, rfl, nb, cells⟩ := hL.out.get (by simp)
  have c0 : w.cell? ⟨g, o, none⟩ = some (.string s1) := cells 0 (by simp)
  have c2 : w.cell? ⟨g, o + 1, none⟩ = some (.string s3) := cells 1 (by simp)
  have hglt : g < w.heap.size := World.block_lt_of_cell? w _ c0
  have hA : Below w.heap.size w (w.alloc (.cells #[.string ⟨#[]⟩, .string ⟨#[]⟩, .string ⟨#[]⟩] 68)) := (Below.refl _ _).alloc (Nat.le_refl _) _
  have a0 := (hA.cell (p := ⟨g, o, none⟩) hglt).trans c0
  have a2 := (hA.cell (p := ⟨g, o + 1, none⟩) hglt).trans c2
  clear cells hA
  go_enter Tryz.func105, Tryz.ntmps105
  go_wp2_with fail
  go_region
  go_wp2_with fail
  obtain ⟨X, hX⟩ : ∃ X, w.alloc (.cells #[.string s1, .string ⟨#[]⟩, .string s3] 68) = X := ⟨_, rfl⟩
  have hdX : Below w.heap.size w X := by rw [← hX]; exact (Below.refl _ _).alloc (Nat.le_refl _) _
  have hzX : X.heap.size = w.heap.size + 1 := by rw [← hX]; simp
  have hbX : X.heap[w.heap.size]? = some (.cells #[.string s1, .string ⟨#[]⟩, .string s3] 68 (0, 0)) := by rw [← hX]; exact World.alloc_heap_new _ _
  have hnB : ¬ RB b r w.heap.size := fun q => by have := h.out.lt _ q; omega
  rw [hX]
  have T0 := hide (Stp.same (h.out.below hdX) (Below.refl X.heap.size X).drew)
  have hLX := hide (hL.out.only hdX)
  have b0 : X.cell? ⟨w.heap.size, 0, none⟩ = some (.string s1) := cell_of hbX rfl
  have b1 : X.cell? ⟨w.heap.size, 1, none⟩ = some (.string ⟨#[]⟩) := cell_of hbX rfl
  have b2 : X.cell? ⟨w.heap.size, 2, none⟩ = some (.string s3) := cell_of hbX rfl
  have HB := hide (And.intro hbX (And.intro hnB (And.intro hdX hzX)))
  have hok1 := hide (show kOps.ok (s1, 0) from ⟨hok.out.1, by show 0 ≤ _; omega⟩)
  have hlO : r.O.length ≤ 67108864 := by have := hl.out.1; omega
  clear c0 c2 a0 a2 hbX hnB hdX
  go_region_with (first
    | (go_at_call 98; refine (opOf2 s1 s3 _).mono ?_; rintro e wa ⟨rfl, da⟩; have Ta := hide ((T0.out.grow (Below.refl _ _).drew).grow da); clear da)
    | (go_at_call 133; refine (addO_any n0 b _ r (s1, 0) (hide Ta.out.rd) hok1 hlO).mono ?_; rintro e wb ⟨ib, vb, mb, rfl, hib, hb2⟩; have Tb := hide (Ta.out.trans hb2); clear hib hb2))
  have hLb := hide ((hLX.out.step Tb.out).tail)
  have hoks := hide (show ∀ s ∈ [s3], s.size ≤ 1048576 from fun s hs => by
    obtain rfl := List.mem_singleton.1 hs
    exact hok.out.2)
  have hlS := hide (show r.S.length + [s3].length ≤ 67108864 by have := hl.out.2.1; simp; omega)
  clear b0 b1 b2
  go_wp2_with fail
  refine (takeStates_any n0 b wb _ (some ⟨g, o + 1, none⟩) _ [s3] (hide Tb.out.rd) hLb hoks hlS).mono ?_
  rintro e wc ⟨vc, mc, N, rfl, hTc⟩
  have Tc := hide (Tb.out.trans hTc.st)
  have hbc : wc.heap[w.heap.size]? = some (.cells #[.string s1, .string ⟨#[]⟩, .string s3] 68 (0, 0)) := (Tc.out.only.block _ (by have := HB.out.2.2.2; omega) HB.out.2.1).trans HB.out.1
  have b0 : wc.cell? ⟨w.heap.size, 0, none⟩ = some (.string s1) := cell_of hbc rfl
  have b1 : wc.cell? ⟨w.heap.size, 1, none⟩ = some (.string ⟨#[]⟩) := cell_of hbc rfl
  have b2 : wc.cell? ⟨w.heap.size, 2, none⟩ = some (.string s3) := cell_of hbc rfl
  have Td := hide (Tc.out.grow (Below.refl _ _).drew)
  have hokr := hide (show kRules.ok (s1, ⟨#[]⟩, s3) from ⟨hok.out.1, by show (0 : Nat) ≤ _; omega, hok.out.2⟩)
  have hlR : r.R.length ≤ 67108864 := by have := hl.out.2.2; omega
  clear hTc hbc
  go_wp2_with fail
  go_region_with (go_at_call 135; refine (addR_any n0 b _ _ (s1, ⟨#[]⟩, s3) (hide Td.out.rd) hokr hlR).mono ?_; rintro e wd ⟨id, vd, md, rfl, hid, hd2⟩; have Te := hide (Td.out.trans hd2); clear hid hd2)
  go_end0
  exact ⟨rfl, vb, mb, vc, mc, vd, md, (Stp.same h.out HB.out.2.2.1).trans Te.out⟩
end Go.Proofs.YtmagchclmmphaabGreatDoor
