import Derived.Test.YtmagchclmmphaabGreatDoorSO
namespace Go.Proofs.YtmagchclmmphaabGreatDoor
open Go.RowKit Go.Maps

/-- An item put into a list that holds nothing twice. -/
def sadd {α : Type} [DecidableEq α] (l : List α) (s : α) : List α := if s ∈ l then l else l ++ [s]
theorem sadd_old {α : Type} [DecidableEq α] {l : List α} {s : α} (h : s ∈ l) : sadd l s = l := if_pos h
theorem sadd_new {α : Type} [DecidableEq α] {l : List α} {s : α} (h : s ∉ l) : sadd l s = l ++ [s] := if_neg h
theorem sadd_len {α : Type} [DecidableEq α] (l : List α) (s : α) : l.length ≤ (sadd l s).length ∧ (sadd l s).length ≤ l.length + 1 := by
  unfold sadd; split <;> simp

/-- What a reader holds. -/
structure RS where
  pl : Nat
  ti : ByteArray
  O : List OpT
  S : List ByteArray
  F : Value
  R : List RuT
  vo : Value
  mo : Value
  vs : Value
  ms : Value
  vr : Value
  mr : Value
def RS.cells (r : RS) : Array Value := #[.int .i64 (r.pl : Nat), .string r.ti, r.vo, r.mo, r.vs, r.ms, r.F, r.vr, r.mr]
/-- The blocks of a reader. -/
def RB (b : Nat) (r : RS) (k : Nat) : Prop := k = b ∨ SB r.vo r.mo k ∨ SB r.vs r.ms k ∨ SB r.vr r.mr k
/-- A reader at block b. -/
structure Rd (n0 b : Nat) (W : World) (r : RS) : Prop where
  blk : W.heap[b]? = some (.cells r.cells 121 (0, 0))
  bn : b < n0
  nz : n0 ≤ W.heap.size
  so : Ser kOps n0 W r.vo r.mo r.O
  ss : Ser kText n0 W r.vs r.ms r.S
  sr : Ser kRules n0 W r.vr r.mr r.R
  d1 : ∀ k, SB r.vo r.mo k → ¬ SB r.vs r.ms k
  d2 : ∀ k, SB r.vo r.mo k → ¬ SB r.vr r.mr k
  d3 : ∀ k, SB r.vs r.ms k → ¬ SB r.vr r.mr k
theorem Rd.lt {n0 b : Nat} {W : World} {r : RS} (h : Rd n0 b W r) : ∀ k, RB b r k → k < W.heap.size := by
  rintro k (rfl | hk | hk | hk)
  · exact (Array.getElem?_eq_some_iff.1 h.blk).1
  · exact (h.so.lt k hk).2
  · exact (h.ss.lt k hk).2
  · exact (h.sr.lt k hk).2
theorem Rd.only {n0 b : Nat} {W W' : World} {r : RS} {R : Nat → Prop} (h : Rd n0 b W r) (ho : Only W W' R) (hn : ∀ k, RB b r k → ¬ R k) : Rd n0 b W' r :=
  ⟨(ho.block b (h.lt b (.inl rfl)) (hn b (.inl rfl))).trans h.blk, h.bn, Nat.le_trans h.nz ho.size, h.so.only ho (fun k hk => hn k (.inr (.inl hk))), h.ss.only ho (fun k hk => hn k (.inr (.inr (.inl hk)))), h.sr.only ho (fun k hk => hn k (.inr (.inr (.inr hk)))), h.d1, h.d2, h.d3⟩
theorem Rd.below {n0 b : Nat} {W W' : World} {r : RS} (h : Rd n0 b W r) (d : Below W.heap.size W W') : Rd n0 b W' r :=
  h.only (Only.ofBelow (R := fun _ => False) d) (fun _ _ h => h)
/-- A step of a reader: it writes its own blocks and new ones. -/
structure Stp (n0 b : Nat) (W : World) (r : RS) (W' : World) (r' : RS) : Prop where
  rd : Rd n0 b W' r'
  only : Only W W' (RB b r)
  new : ∀ k, RB b r' k → RB b r k ∨ W.heap.size ≤ k
theorem Stp.same {n0 b : Nat} {W W' : World} {r : RS} (h : Rd n0 b W r) (d : Below W.heap.size W W') : Stp n0 b W r W' r := ⟨h.below d, Only.ofBelow d, fun _ hk => .inl hk⟩
theorem Stp.trans {n0 b : Nat} {W W1 W2 : World} {r r1 r2 : RS} (h : Stp n0 b W r W1 r1) (k : Stp n0 b W1 r1 W2 r2) : Stp n0 b W r W2 r2 :=
  ⟨k.rd, h.only.andNew k.only (fun i hi hr => (h.new i hr).resolve_right (by omega)), fun j hj => by
    rcases k.new j hj with h1 | h1
    · exact h.new j h1
    · exact .inr (Nat.le_trans h.only.size h1)⟩
theorem Stp.grow {n0 b : Nat} {W W1 W2 : World} {r r1 : RS} (h : Stp n0 b W r W1 r1) (d : Below W1.heap.size W1 W2) : Stp n0 b W r W2 r1 := h.trans (Stp.same h.rd d)
/-- What lies elsewhere is as it was. -/
theorem Stp.row {n0 b : Nat} {W W' : World} {r r' : RS} (h : Stp n0 b W r W' r') {B : Nat} {e : TypeId} {sz n : Nat} {v : Value} {xs : List Value} (ho : W.ownsRow B e sz v n xs) (hn : ∀ k, v.ownBlock = some k → ¬ RB b r k) : W'.ownsRow B e sz v n xs := row_only ho h.only hn

theorem Rd.addO {n0 b : Nat} {W W' : World} {r : RS} {s : OpT} (h : Rd n0 b W r) (ha : AddsTo kOps n0 W b 2 r.cells r.vo r.mo r.O s 121 W') : ∃ v m, Stp n0 b W r W' { r with O := r.O ++ [s], vo := v, mo := m } := by
  obtain ⟨v, m, h1, h2, h3, h4⟩ := ha
  have hlo : ∀ k, SB r.vo r.mo k → k < W.heap.size := fun k hk => (h.so.lt k hk).2
  have hls : ∀ k, SB r.vs r.ms k → k < W.heap.size := fun k hk => (h.ss.lt k hk).2
  have hlr : ∀ k, SB r.vr r.mr k → k < W.heap.size := fun k hk => (h.sr.lt k hk).2
  have hno : ∀ k, SB r.vo r.mo k → k ≠ b := fun k hk e => by have := (h.so.lt k hk).1; have := h.bn; omega
  have hns : ∀ k, SB r.vs r.ms k → k ≠ b := fun k hk e => by have := (h.ss.lt k hk).1; have := h.bn; omega
  have hnr : ∀ k, SB r.vr r.mr k → k ≠ b := fun k hk e => by have := (h.sr.lt k hk).1; have := h.bn; omega
  refine ⟨v, m, ⟨h1, h.bn, Nat.le_trans h.nz h3.size, h2, h.ss.only h3 (fun k hk e => e.elim (hns k hk) (fun e => h.d1 k e hk)), h.sr.only h3 (fun k hk e => e.elim (hnr k hk) (fun e => h.d2 k e hk)), fun k hk e => (h4 k hk).elim (fun q => h.d1 k q e) (fun q => by have := hls k e; omega), fun k hk e => (h4 k hk).elim (fun q => h.d2 k q e) (fun q => by have := hlr k e; omega), h.d3⟩, h3.mono (fun k _ hk => ?_), fun k hk => ?_⟩
  · rcases hk with e | e
    · exact .inl e
    · exact .inr (.inl e)
  · rcases hk with e | e | e | e
    · exact .inl (.inl e)
    · exact (h4 k e).imp (fun e => .inr (.inl e)) id
    · exact .inl (.inr (.inr (.inl e)))
    · exact .inl (.inr (.inr (.inr e)))

theorem addO_any (n0 b : Nat) (W : World) (r : RS) (s : OpT) (h : Hid (Rd n0 b W r)) (hok : Hid (kOps.ok s)) (hl : r.O.length ≤ 67108864) :
    Calls Tryz.prog 133 #[.pointer (some ⟨b, 2, none⟩), .agg #[.string s.1, .int .i64 (s.2 : Nat)]] W fun e w' => ∃ (i : Nat) (v m : Value), e = .returned (.int .i64 (i : Nat)) ∧ (sadd r.O s)[i]? = some s ∧ Stp n0 b W r w' { r with O := sadd r.O s, vo := v, mo := m } := by
  have hS := h.out.so
  have hblk := h.out.blk
  by_cases hs : s ∈ r.O
  · obtain ⟨i, hi, hsi⟩ := List.getElem_of_mem hs
    obtain ⟨bm, hbm⟩ : ∃ bm, r.mo = .map (some bm) := by
      rcases hS.map with ⟨_, e⟩ | ⟨bm, _, e, _⟩
      · rw [e] at hs; simp at hs
      · exact ⟨bm, e⟩
    rw [hbm] at hS
    refine (oadd_old b 2 bm i r.vo r.O n0 W (hide hS) hi s (hide hsi.symm) (cell_of hblk (by show some r.mo = _; rw [hbm]))).mono ?_
    rintro e w' ⟨rfl, d⟩
    refine ⟨i, r.vo, r.mo, rfl, ?_, ?_⟩
    · rw [sadd_old hs, List.getElem?_eq_getElem hi, hsi]
    · rw [sadd_old hs]; exact Stp.same h.out d
  · rcases hS.map with ⟨e1, e2⟩ | ⟨bm, D, hbm, _⟩
    · have hS' := hS
      rw [e1, e2] at hS'
      refine (oadd_first b 2 r.vo s n0 r.cells W (hide hS') hok (hide ⟨hblk, rfl, by show some r.mo = _; rw [e1]⟩) h.out.bn h.out.nz).mono ?_
      rintro e w' ⟨rfl, ha⟩
      have ha' : AddsTo kOps n0 W b 2 r.cells r.vo r.mo r.O s 121 w' := by rw [e1, e2]; exact ha
      obtain ⟨v, m, hst⟩ := h.out.addO ha'
      refine ⟨0, v, m, rfl, ?_, ?_⟩
      · rw [sadd_new hs, e2]; rfl
      · rw [sadd_new hs]; exact hst
    · have hS' := hS
      rw [hbm] at hS'
      refine (oadd_new b 2 bm r.vo r.O s n0 r.cells W (hide hS') (hide hs) hok hl (hide ⟨hblk, rfl, by show some r.mo = _; rw [hbm]⟩) h.out.bn).mono ?_
      rintro e w' ⟨rfl, ha⟩
      have ha' : AddsTo kOps n0 W b 2 r.cells r.vo r.mo r.O s 121 w' := by rw [hbm]; exact ha
      obtain ⟨v, m, hst⟩ := h.out.addO ha'
      refine ⟨r.O.length, v, m, rfl, ?_, ?_⟩
      · rw [sadd_new hs]; simp
      · rw [sadd_new hs]; exact hst

theorem Rd.addS {n0 b : Nat} {W W' : World} {r : RS} {s : ByteArray} (h : Rd n0 b W r) (ha : AddsTo kText n0 W b 4 r.cells r.vs r.ms r.S s 121 W') : ∃ v m, Stp n0 b W r W' { r with S := r.S ++ [s], vs := v, ms := m } := by
  obtain ⟨v, m, h1, h2, h3, h4⟩ := ha
  have hlo : ∀ k, SB r.vo r.mo k → k < W.heap.size := fun k hk => (h.so.lt k hk).2
  have hls : ∀ k, SB r.vs r.ms k → k < W.heap.size := fun k hk => (h.ss.lt k hk).2
  have hlr : ∀ k, SB r.vr r.mr k → k < W.heap.size := fun k hk => (h.sr.lt k hk).2
  have hno : ∀ k, SB r.vo r.mo k → k ≠ b := fun k hk e => by have := (h.so.lt k hk).1; have := h.bn; omega
  have hns : ∀ k, SB r.vs r.ms k → k ≠ b := fun k hk e => by have := (h.ss.lt k hk).1; have := h.bn; omega
  have hnr : ∀ k, SB r.vr r.mr k → k ≠ b := fun k hk e => by have := (h.sr.lt k hk).1; have := h.bn; omega
  refine ⟨v, m, ⟨h1, h.bn, Nat.le_trans h.nz h3.size, h.so.only h3 (fun k hk e => e.elim (hno k hk) (fun e => h.d1 k hk e)), h2, h.sr.only h3 (fun k hk e => e.elim (hnr k hk) (fun e => h.d3 k e hk)), fun k hk e => (h4 k e).elim (fun q => h.d1 k hk q) (fun q => by have := hlo k hk; omega), h.d2, fun k hk e => (h4 k hk).elim (fun q => h.d3 k q e) (fun q => by have := hlr k e; omega)⟩, h3.mono (fun k _ hk => ?_), fun k hk => ?_⟩
  · rcases hk with e | e
    · exact .inl e
    · exact .inr (.inr (.inl e))
  · rcases hk with e | e | e | e
    · exact .inl (.inl e)
    · exact .inl (.inr (.inl e))
    · exact (h4 k e).imp (fun e => .inr (.inr (.inl e))) id
    · exact .inl (.inr (.inr (.inr e)))

theorem addS_any (n0 b : Nat) (W : World) (r : RS) (s : ByteArray) (h : Hid (Rd n0 b W r)) (hok : Hid (kText.ok s)) (hl : r.S.length ≤ 67108864) :
    Calls Tryz.prog 134 #[.pointer (some ⟨b, 4, none⟩), .string s] W fun e w' => ∃ (i : Nat) (v m : Value), e = .returned (.int .i64 (i : Nat)) ∧ (sadd r.S s)[i]? = some s ∧ Stp n0 b W r w' { r with S := sadd r.S s, vs := v, ms := m } := by
  have hS := h.out.ss
  have hblk := h.out.blk
  by_cases hs : s ∈ r.S
  · obtain ⟨i, hi, hsi⟩ := List.getElem_of_mem hs
    obtain ⟨bm, hbm⟩ : ∃ bm, r.ms = .map (some bm) := by
      rcases hS.map with ⟨_, e⟩ | ⟨bm, _, e, _⟩
      · rw [e] at hs; simp at hs
      · exact ⟨bm, e⟩
    rw [hbm] at hS
    refine (tadd_old b 4 bm i r.vs r.S n0 W (hide hS) hi s (hide hsi.symm) (cell_of hblk (by show some r.ms = _; rw [hbm]))).mono ?_
    rintro e w' ⟨rfl, d⟩
    refine ⟨i, r.vs, r.ms, rfl, ?_, ?_⟩
    · rw [sadd_old hs, List.getElem?_eq_getElem hi, hsi]
    · rw [sadd_old hs]; exact Stp.same h.out d
  · rcases hS.map with ⟨e1, e2⟩ | ⟨bm, D, hbm, _⟩
    · have hS' := hS
      rw [e1, e2] at hS'
      refine (tadd_first b 4 r.vs s n0 r.cells W (hide hS') hok (hide ⟨hblk, rfl, by show some r.ms = _; rw [e1]⟩) h.out.bn h.out.nz).mono ?_
      rintro e w' ⟨rfl, ha⟩
      have ha' : AddsTo kText n0 W b 4 r.cells r.vs r.ms r.S s 121 w' := by rw [e1, e2]; exact ha
      obtain ⟨v, m, hst⟩ := h.out.addS ha'
      refine ⟨0, v, m, rfl, ?_, ?_⟩
      · rw [sadd_new hs, e2]; rfl
      · rw [sadd_new hs]; exact hst
    · have hS' := hS
      rw [hbm] at hS'
      refine (tadd_new b 4 bm r.vs r.S s n0 r.cells W (hide hS') (hide hs) hok hl (hide ⟨hblk, rfl, by show some r.ms = _; rw [hbm]⟩) h.out.bn).mono ?_
      rintro e w' ⟨rfl, ha⟩
      have ha' : AddsTo kText n0 W b 4 r.cells r.vs r.ms r.S s 121 w' := by rw [hbm]; exact ha
      obtain ⟨v, m, hst⟩ := h.out.addS ha'
      refine ⟨r.S.length, v, m, rfl, ?_, ?_⟩
      · rw [sadd_new hs]; simp
      · rw [sadd_new hs]; exact hst

theorem Rd.addR {n0 b : Nat} {W W' : World} {r : RS} {s : RuT} (h : Rd n0 b W r) (ha : AddsTo kRules n0 W b 7 r.cells r.vr r.mr r.R s 121 W') : ∃ v m, Stp n0 b W r W' { r with R := r.R ++ [s], vr := v, mr := m } := by
  obtain ⟨v, m, h1, h2, h3, h4⟩ := ha
  have hlo : ∀ k, SB r.vo r.mo k → k < W.heap.size := fun k hk => (h.so.lt k hk).2
  have hls : ∀ k, SB r.vs r.ms k → k < W.heap.size := fun k hk => (h.ss.lt k hk).2
  have hlr : ∀ k, SB r.vr r.mr k → k < W.heap.size := fun k hk => (h.sr.lt k hk).2
  have hno : ∀ k, SB r.vo r.mo k → k ≠ b := fun k hk e => by have := (h.so.lt k hk).1; have := h.bn; omega
  have hns : ∀ k, SB r.vs r.ms k → k ≠ b := fun k hk e => by have := (h.ss.lt k hk).1; have := h.bn; omega
  have hnr : ∀ k, SB r.vr r.mr k → k ≠ b := fun k hk e => by have := (h.sr.lt k hk).1; have := h.bn; omega
  refine ⟨v, m, ⟨h1, h.bn, Nat.le_trans h.nz h3.size, h.so.only h3 (fun k hk e => e.elim (hno k hk) (fun e => h.d2 k hk e)), h.ss.only h3 (fun k hk e => e.elim (hns k hk) (fun e => h.d3 k hk e)), h2, h.d1, fun k hk e => (h4 k e).elim (fun q => h.d2 k hk q) (fun q => by have := hlo k hk; omega), fun k hk e => (h4 k e).elim (fun q => h.d3 k hk q) (fun q => by have := hls k hk; omega)⟩, h3.mono (fun k _ hk => ?_), fun k hk => ?_⟩
  · rcases hk with e | e
    · exact .inl e
    · exact .inr (.inr (.inr e))
  · rcases hk with e | e | e | e
    · exact .inl (.inl e)
    · exact .inl (.inr (.inl e))
    · exact .inl (.inr (.inr (.inl e)))
    · exact (h4 k e).imp (fun e => .inr (.inr (.inr e))) id

theorem addR_any (n0 b : Nat) (W : World) (r : RS) (s : RuT) (h : Hid (Rd n0 b W r)) (hok : Hid (kRules.ok s)) (hl : r.R.length ≤ 67108864) :
    Calls Tryz.prog 135 #[.pointer (some ⟨b, 7, none⟩), .agg #[.string s.1, .string s.2.1, .string s.2.2]] W fun e w' => ∃ (i : Nat) (v m : Value), e = .returned (.int .i64 (i : Nat)) ∧ (sadd r.R s)[i]? = some s ∧ Stp n0 b W r w' { r with R := sadd r.R s, vr := v, mr := m } := by
  have hS := h.out.sr
  have hblk := h.out.blk
  by_cases hs : s ∈ r.R
  · obtain ⟨i, hi, hsi⟩ := List.getElem_of_mem hs
    obtain ⟨bm, hbm⟩ : ∃ bm, r.mr = .map (some bm) := by
      rcases hS.map with ⟨_, e⟩ | ⟨bm, _, e, _⟩
      · rw [e] at hs; simp at hs
      · exact ⟨bm, e⟩
    rw [hbm] at hS
    refine (radd_old b 7 bm i r.vr r.R n0 W (hide hS) hi s (hide hsi.symm) (cell_of hblk (by show some r.mr = _; rw [hbm]))).mono ?_
    rintro e w' ⟨rfl, d⟩
    refine ⟨i, r.vr, r.mr, rfl, ?_, ?_⟩
    · rw [sadd_old hs, List.getElem?_eq_getElem hi, hsi]
    · rw [sadd_old hs]; exact Stp.same h.out d
  · rcases hS.map with ⟨e1, e2⟩ | ⟨bm, D, hbm, _⟩
    · have hS' := hS
      rw [e1, e2] at hS'
      refine (radd_first b 7 r.vr s n0 r.cells W (hide hS') hok (hide ⟨hblk, rfl, by show some r.mr = _; rw [e1]⟩) h.out.bn h.out.nz).mono ?_
      rintro e w' ⟨rfl, ha⟩
      have ha' : AddsTo kRules n0 W b 7 r.cells r.vr r.mr r.R s 121 w' := by rw [e1, e2]; exact ha
      obtain ⟨v, m, hst⟩ := h.out.addR ha'
      refine ⟨0, v, m, rfl, ?_, ?_⟩
      · rw [sadd_new hs, e2]; rfl
      · rw [sadd_new hs]; exact hst
    · have hS' := hS
      rw [hbm] at hS'
      refine (radd_new b 7 bm r.vr r.R s n0 r.cells W (hide hS') (hide hs) hok hl (hide ⟨hblk, rfl, by show some r.mr = _; rw [hbm]⟩) h.out.bn).mono ?_
      rintro e w' ⟨rfl, ha⟩
      have ha' : AddsTo kRules n0 W b 7 r.cells r.vr r.mr r.R s 121 w' := by rw [hbm]; exact ha
      obtain ⟨v, m, hst⟩ := h.out.addR ha'
      refine ⟨r.R.length, v, m, rfl, ?_, ?_⟩
      · rw [sadd_new hs]; simp
      · rw [sadd_new hs]; exact hst
end Go.Proofs.YtmagchclmmphaabGreatDoor
