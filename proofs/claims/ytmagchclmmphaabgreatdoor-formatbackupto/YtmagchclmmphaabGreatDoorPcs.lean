import Derived.Test.YtmagchclmmphaabGreatDoorCL
import Derived.Maps.AppendAt
import Derived.Maps.OwnIn
namespace Go.Proofs.YtmagchclmmphaabGreatDoor
open Go.RowKit Go.Maps Go.Shelf
attribute [local go_sem] Oper.semAt_some

def strV (l : List ByteArray) : List Value := l.map .string
def nameB (b : Nat) : Bool := nameC b
theorem tests_name : TestsB 31 nameB := fun b W hT h1 => by
  refine (valid_any ⟨#[b]⟩ W hT h1).mono ?_
  rintro e w' ⟨rfl, d⟩
  refine ⟨?_, d⟩
  congr 2
  simp [vld, nameB, ByteArray.size]
def noFeed (b : Nat) : Bool := b != 10
theorem tests_feed : TestsB 80 noFeed := fun b W _ _ => by
  refine (isNoFeed_any ⟨#[b]⟩ W).mono ?_
  rintro e w' ⟨rfl, d⟩
  refine ⟨?_, d⟩
  congr 2
  unfold noFeed
  rw [Bool.eq_iff_iff]
  simp
  constructor
  · intro h e; apply h; apply UInt8.toNat_inj.1; rw [e]; rfl
  · intro h e; apply h; rw [e]; rfl
/-- The pieces of a line. -/
def pieces (s : ByteArray) : List ByteArray := (spans nameB s).map fun x => s.extract x.1 x.2
theorem info9 : (Tryz.prog.info? 9).map (fun i => (i.zero, i.size, i.bytes)) = some (some (.string ⟨#[]⟩), 1, 16) := by kernel_rfl

theorem owns_below {w w' : World} {base e size : Nat} {v : Value} {n : Nat} {xs : List Value} (h : w.ownsRow base e size v n xs) (hb : Below w.heap.size w w') : w'.ownsRow base e size v n xs :=
  ⟨h.1, h.2.imp id (fun ⟨g, cap, cur, h1, h2, h3, h4⟩ => ⟨g, cap, cur, h1, h2, (hb.block g (Array.getElem?_eq_some_iff.1 h3).1).trans h3, h4⟩)⟩
theorem owns_mono {w : World} {base base' e size : Nat} {v : Value} {n : Nat} {xs : List Value} (h : w.ownsRow base e size v n xs) (hb : base' ≤ base) : w.ownsRow base' e size v n xs :=
  ⟨h.1, h.2.imp id (fun ⟨g, cap, cur, h1, h2, h3, h4⟩ => ⟨g, cap, cur, h1, Nat.le_trans hb h2, h3, h4⟩)⟩
/-- What piecesOf holds. -/
structure PcI (w : World) (s : ByteArray) (k : Nat) (W : World) : Prop where
  box : ∃ v, W.heap[w.heap.size]? = some (.cells #[v] 26 (0, 0)) ∧ W.ownsRow (w.heap.size + 3) 9 1 v k (strV ((pieces s).take k))
  t : W.heap[w.heap.size + 1]? = some (.cells #[.string s] 9 (0, 0))
  below : Below w.heap.size w W
theorem PcI.on {w : World} {s : ByteArray} {k : Nat} {A A' : World} (h : PcI w s k A) (d : Below A.heap.size A A') : PcI w s k A' := by
  obtain ⟨v, h1, h2⟩ := h.box
  refine ⟨⟨v, (d.block _ (Array.getElem?_eq_some_iff.1 h1).1).trans h1, owns_below h2 d⟩, (d.block _ (Array.getElem?_eq_some_iff.1 h.t).1).trans h.t, h.below.trans (d.mono h.below.size)⟩

theorem spansFrom_in (h : Nat → Bool) : ∀ (l : List Nat) (i a : Nat) (x : Nat × Nat), a ≤ i → x ∈ spansFrom h l i a → a ≤ x.1 ∧ x.1 < x.2 ∧ x.2 ≤ i + l.length
  | [], i, a, x, hai, hx => by
    unfold spansFrom at hx
    split at hx
    · rename_i hlt
      obtain rfl := List.mem_singleton.1 hx
      exact ⟨Nat.le_refl _, hlt, Nat.le_refl _⟩
    · simp at hx
  | b :: t, i, a, x, hai, hx => by
    unfold spansFrom at hx
    split at hx
    · have := spansFrom_in h t (i + 1) a x (by omega) hx
      simp only [List.length_cons]; omega
    · rcases List.mem_append.1 hx with hx | hx
      · split at hx
        · rename_i hlt
          obtain rfl := List.mem_singleton.1 hx
          simp only [List.length_cons]
          exact ⟨Nat.le_refl _, hlt, by omega⟩
        · simp at hx
      · have := spansFrom_in h t (i + 1) (i + 1) x (Nat.le_refl _) hx
        simp only [List.length_cons]; omega
theorem spansFrom_len (h : Nat → Bool) : ∀ (l : List Nat) (i a : Nat), (spansFrom h l i a).length ≤ l.length + 1
  | [], i, a => by unfold spansFrom; split <;> simp
  | b :: t, i, a => by
    unfold spansFrom
    split
    · have := spansFrom_len h t (i + 1) a; simp only [List.length_cons]; omega
    · have := spansFrom_len h t (i + 1) (i + 1)
      rw [List.length_append, List.length_cons]
      split <;> simp <;> omega
theorem spans_in (h : Nat → Bool) (s : ByteArray) {x : Nat × Nat} (hx : x ∈ spans h s) : x.1 < x.2 ∧ x.2 ≤ s.size := by
  have := spansFrom_in h (bts s) 0 0 x (Nat.le_refl _) hx
  rw [bts_len] at this
  omega
theorem spans_len (h : Nat → Bool) (s : ByteArray) : (spans h s).length ≤ s.size + 1 := by
  have := spansFrom_len h (bts s) 0 0
  rwa [bts_len] at this
/-- The piece at hand. -/
theorem piece_at (s : ByteArray) (k : Nat) (hk : k < (List.map (pieceV s) (spans nameB s)).length) : ∃ x, (List.map (pieceV s) (spans nameB s))[k] = .string x ∧ (pieces s)[k]? = some x ∧ x.size ≠ 0 ∧ x.size ≤ s.size ∧ k ≤ s.size := by
  have hk' : k < (spans nameB s).length := by simpa using hk
  have h := spans_in nameB s (List.getElem_mem hk')
  have h2 := spans_len nameB s
  refine ⟨s.extract ((spans nameB s)[k]).1 ((spans nameB s)[k]).2, by simp [pieceV], by simp [pieces, hk'], ?_, ?_, by omega⟩
  · rw [ByteArray.size_extract]; omega
  · rw [ByteArray.size_extract]; omega
theorem PcI.next {w W w3 w4 : World} {s x : ByteArray} {k L : Nat} {v v' : Value} {r : Loop} (h1 : 1 < w.heap.size) (hI : PcI w s k W) (b1 : W.heap[w.heap.size]? = some (.cells #[v] 26 (0, 0))) (b2 : W.ownsRow (w.heap.size + 3) 9 1 v k (strV ((pieces s).take k)))
    (hd : W.heap[L]? = some (.deferred (some []))) (hr : W.heap[L + 1]? = some (.loop r)) (hL : w.heap.size + 3 ≤ L) (hx : (pieces s)[k]? = some x) (d3 : Below W.heap.size W w3) (ho : w4.ownsRow (w.heap.size + 3) 9 1 v' (k + 1) (strV ((pieces s).take k) ++ [.string x])) (hg : w3.grownBy w4 v.ownBlock) :
    goesOn L (KpC (w.heap.size + 1) (w.heap.size + 1 + 1)) (PcI w s) (k + 1) W .normal ⟨#[], []⟩ (w4.setCell ⟨w.heap.size, 0, none⟩ v') := by
  have hrow : ∀ j, v.ownBlock = some j → w.heap.size + 3 ≤ j ∧ ∃ c, W.heap[j]? = some (.cells c 9 (0, 0)) := by
    rcases b2.2 with ⟨rfl, _⟩ | ⟨g, cap, cur, rfl, hb, hgc, _⟩
    · intro j hj; cases hj
    · intro j hj
      obtain rfl : g = j := by simpa [Value.ownBlock] using hj
      exact ⟨hb, _, hgc⟩
  have keep : ∀ j, j < W.heap.size → some j ≠ v.ownBlock → j ≠ w.heap.size → (w4.setCell ⟨w.heap.size, 0, none⟩ v').heap[j]? = W.heap[j]? := fun j hj hne h0 => by
    have e1 := (hg.block j (Nat.lt_of_lt_of_le hj d3.size) hne).trans (d3.block j hj)
    have hj4 : j < w4.heap.size := Nat.lt_of_lt_of_le hj (Nat.le_trans d3.size hg.size)
    exact ((grownBy_setCell' w4 w.heap.size v').block j hj4 (by intro e; exact h0 (by simpa using e))).trans e1
  have hz0 : w.heap.size < W.heap.size := (Array.getElem?_eq_some_iff.1 b1).1
  have hz1 : w.heap.size + 1 < W.heap.size := (Array.getElem?_eq_some_iff.1 hI.t).1
  have hzL : L + 1 < W.heap.size := (Array.getElem?_eq_some_iff.1 hr).1
  have nr : ∀ j, j < w.heap.size + 3 → some j ≠ v.ownBlock := fun j hj e => by have := (hrow j e.symm).1; omega
  have nl : some L ≠ v.ownBlock := fun e => by obtain ⟨_, c, hc⟩ := hrow L e.symm; rw [hd] at hc; cases hc
  have nl1 : some (L + 1) ≠ v.ownBlock := fun e => by obtain ⟨_, c, hc⟩ := hrow _ e.symm; rw [hr] at hc; cases hc
  have hs5 : W.heap.size ≤ (w4.setCell ⟨w.heap.size, 0, none⟩ v').heap.size := Nat.le_trans (Nat.le_trans d3.size hg.size) (grownBy_setCell' w4 w.heap.size v').size
  refine ⟨⟨keep L (by omega) nl (by omega), keep (L + 1) hzL nl1 (by omega)⟩, ⟨hs5, keep _ hz1 (nr _ (by omega)) (by omega), keep _ (by omega) (nr _ (by omega)) (by omega), keep 0 (by omega) (nr _ (by omega)) (by omega)⟩, ?_, (keep _ hz1 (nr _ (by omega)) (by omega)).trans hI.t, ?_⟩
  · have hbx : Boxed w4 w.heap.size 26 v := (hg.block _ (Nat.lt_of_lt_of_le hz0 d3.size) (nr _ (by omega))).trans ((d3.block _ hz0).trans b1)
    refine ⟨v', hbx.set v', ?_⟩
    have e : strV ((pieces s).take (k + 1)) = strV ((pieces s).take k) ++ [.string x] := by
      unfold strV
      rw [List.take_add_one, hx]; simp
    rw [e]
    refine ho.kept (grownBy_setCell' w4 w.heap.size v') ?_
    refine .inr (fun e2 => ?_)
    have := (ho.lt w.heap.size e2).1
    omega
  · have hb4 : w3.os = w.os ∧ w3.tape = w.tape ∧ w3.output = w.output := ⟨d3.os.trans hI.below.os, d3.tape.trans hI.below.tape, d3.output.trans hI.below.output⟩
    refine ⟨hg.os.trans hb4.1, hg.tape.trans hb4.2.1, hg.output.trans hb4.2.2, by omega, fun j hj => (keep j (by omega) (nr _ (by omega)) (by omega)).trans (hI.below.block j hj)⟩
theorem anyIn_nil {F : Fence} {n : Nat} {P : Program} {md : Region.Mode} {ops : Array Oper} {Q : Exit → Act → World → Prop} {listed : Array Bool} {a : Act} {w : World}
    (hr : Region.ready md ops listed = []) (h : Q .normal a w) : wpAnyIn F n P md ops Q 0 listed a w := ⟨hr, h⟩
theorem anyIn_one {F : Fence} {n : Nat} {P : Program} {md : Region.Mode} {ops : Array Oper} {Q : Exit → Act → World → Prop} {listed : Array Bool} {a : Act} {w : World} {fuel : Nat} (i : Nat)
    (hr : Region.ready md ops listed = [i]) (h : wpOpIn F n P ops Q i (wpAnyIn F n P md ops Q fuel (listed.setIfInBounds i true)) a w) : wpAnyIn F n P md ops Q (fuel + 1) listed a w :=
  ⟨fun h0 => (by rw [hr] at h0; simp at h0), fun j hj => (by rw [hr] at hj; obtain rfl := List.mem_singleton.1 hj; exact h)⟩
theorem anyIn_two {F : Fence} {n : Nat} {P : Program} {md : Region.Mode} {ops : Array Oper} {Q : Exit → Act → World → Prop} {listed : Array Bool} {a : Act} {w : World} {fuel : Nat} (i k : Nat)
    (hr : Region.ready md ops listed = [i, k]) (h : wpOpIn F n P ops Q i (wpAnyIn F n P md ops Q fuel (listed.setIfInBounds i true)) a w)
    (h' : wpOpIn F n P ops Q k (wpAnyIn F n P md ops Q fuel (listed.setIfInBounds k true)) a w) : wpAnyIn F n P md ops Q (fuel + 1) listed a w :=
  ⟨fun h0 => (by rw [hr] at h0; simp at h0), fun j hj => (by rw [hr] at hj; rcases List.mem_cons.1 hj with rfl | hj; exact h; obtain rfl := List.mem_singleton.1 hj; exact h')⟩
theorem opIn_list {F : Fence} {n : Nat} {P : Program} {ops : Array Oper} {Q : Exit → Act → World → Prop} {K : Act → World → Prop} {i : Nat} {o : Oper} {a : Act} {w : World}
    (ho : ops[i]? = some o) (h : wpListIn F n P ops (Exit.then K Q) [o] a w) : wpOpIn F n P ops Q i K a w := by
  unfold wpOpIn
  simp only [ho]
  simp only [wpListIn] at h
  split
  · rename_i hw
    simp only [hw, if_true] at h
    unfold Oper.wpIn at h ⊢
    refine ⟨h.1, ?_⟩
    have hh := h.2
    generalize (o.semAt F.round a.eval).run P w = r at *
    cases r with
    | ok x w' =>
      cases x <;> simp only [Oper.uponIn] at hh ⊢ <;>
        first
          | exact hh
          | exact ⟨hh.1, CallsIn.mono hh.2 (fun e w'' he => by cases e <;> exact he)⟩
          | exact ⟨hh.1, RowsIn.mono hh.2 (fun _ _ he => he)⟩
          | exact ⟨hh.1, RoundIn.mono hh.2 (fun e w'' he => by cases e <;> exact he)⟩
    | halt x w' => cases x <;> simp only [Oper.uponIn] at hh ⊢ <;> exact hh
  · rename_i hw
    simp only [hw] at h
    exact h

set_option maxRecDepth 100000 in
set_option maxHeartbeats 2000000 in
theorem pieces_any (s : ByteArray) (w : World) (hs : s.size ≤ 134217728) (hT : BytesAt w) (h1 : 1 < w.heap.size) :
    Calls Tryz.prog 82 #[.string s] w fun e w' => ∃ v, e = .returned v ∧ w'.ownsRow w.heap.size 9 1 v (pieces s).length (strV (pieces s)) ∧ Below w.heap.size w w' := by
  obtain ⟨i0, hi, hz0, hz1, hz2⟩ := info_parts info9
  refine (callsIn_wide (n := 9)).1 (callsIn_of_wp_marks Tryz.func82 rfl trivial ?_ rfl)
  refine wpIn_wide.2 ?_
  simp only [Tryz.ntmps82, List.size_toArray, List.length_cons, List.length_nil, Nat.reduceAdd, Nat.reduceSub, Array.replicate_succ, Array.replicate_zero, List.push_toArray, List.append_toArray, List.nil_append, List.cons_append]
  go_wp2_with fail
  refine (cut_any s 31 _).mono ?_
  rintro e w1 ⟨rfl, hw1⟩
  obtain rfl := hw1.symm
  rw [World.size_alloc]
  obtain ⟨W1, hW1⟩ : ∃ W1, ((w.alloc (.cells #[.slice none 0 0] 26)).alloc (.cells #[.string s] 9)).alloc (.cells #[.func (.func 31) #[] #[]] 56) = W1 := ⟨_, rfl⟩
  have hz : W1.heap.size = w.heap.size + 3 := by rw [← hW1]; simp
  have q0 : W1.heap[w.heap.size]? = some (.cells #[.slice none 0 0] 26 (0, 0)) := by rw [← hW1]; exact at_0 _ _ _ _
  have q1 : W1.heap[w.heap.size + 1]? = some (.cells #[.string s] 9 (0, 0)) := by rw [← hW1]; exact at_1 _ _ _ _
  have q2 : W1.heap[w.heap.size + 1 + 1]? = some (.cells #[.func (.func 31) #[] #[]] 56 (0, 0)) := by rw [← hW1]; exact at_2 _ _ _ _
  have qb : Below w.heap.size w W1 := by rw [← hW1]; exact (((Below.refl _ _).alloc (Nat.le_refl _) _).alloc (by simp) _).alloc (by simp; omega) _
  rw [hW1]
  have HT1 := hide (hT.below qb h1)
  have hp1 : 1 < W1.heap.size := by omega
  have HI0 : PcI w s 0 W1 := ⟨⟨_, q0, World.ownsRow_nil _ _ _ _⟩, q1, qb⟩
  have HI := hide HI0
  have hseq := cut_seq_name 8 nameB tests_name s (by omega) (w.heap.size + 1) (w.heap.size + 1 + 1) W1 q1 q2 HT1.out hp1
  have HSEQ := hide hseq
  clear hseq HI0 q0 q1 q2 qb hW1
  go_wp2_with fail
  refine (wpIn_wide (n := 9)).1 ?_
  refine range_in_order (n := 9) (by omega) rfl (enters_of Tryz.func102 (by kernel_rfl) rfl) HSEQ.out KpC.trans ?kb (Below.refl _ _) (PcI w s) (fun k A A' h d => h.on d) ?ip HI.out (fun x => { tmps := #[.string s, undef, .slice none 0 0, .pointer (some ⟨w.heap.size, 0, none⟩), x, .string s, .func (.func 102) #[] #[.pointer (some ⟨w.heap.size + 1, 0, none⟩), .pointer (some ⟨w.heap.size + 1 + 1, 0, none⟩)], x, undef, undef, undef, undef, undef, undef], defers := [] }) ?assign ?body ?done
  case kb =>
    intro W r r' h
    have hlt : W1.heap.size + 1 < W.heap.size := (Array.getElem?_eq_some_iff.1 h).1
    exact ⟨by simp [World.putObj], World.putObj_heap_other (by omega), World.putObj_heap_other (by omega), World.putObj_heap_other (by omega)⟩
  case ip =>
    intro k A r r' hI h
    obtain ⟨v, b1, b2⟩ := hI.box
    refine ⟨⟨v, (World.putObj_heap_other (by omega)).trans b1, ownsRow_putObj b2 _ h rfl⟩, (World.putObj_heap_other (by omega)).trans hI.t, ?_⟩
    exact ⟨hI.below.os, hI.below.tape, hI.below.output, by have := hI.below.size; simpa [World.putObj] using this, fun j hj => (World.putObj_heap_other (by omega)).trans (hI.below.block j hj)⟩
  case assign =>
    intro l x W K hK
    gi_wp2
    exact hK
  case body =>
    rintro l k W hk hI hd ⟨r, hr⟩
    obtain ⟨x, hx, hxp, hx0, hxs, hks⟩ := piece_at s k hk
    rw [hx]
    obtain ⟨v, b1, b2⟩ := hI.box
    have c1 : W.cell? ⟨w.heap.size, 0, none⟩ = some v := cell_of b1 rfl
    have hx63 : x.size ≤ 134217728 := by omega
    have NEXT := hide (fun w3 w4 v' d3 ho hg => PcI.next (w3 := w3) (w4 := w4) (v' := v') h1 hI b1 b2 hd hr (by omega) hxp d3 ho hg)
    have NB := hide (show some w.heap.size ≠ v.ownBlock from fun e => by have := (b2.lt _ e.symm).1; omega)
    have CL3 : w.heap.size + 3 ≤ W.heap.size := by have := (Array.getElem?_eq_some_iff.1 hr).1; omega
    have CL : w.heap.size < W.heap.size := (Array.getElem?_eq_some_iff.1 b1).1
    have B2 := hide b2
    have B1 := hide b1
    clear hI b1 b2 hd hr hx hk
    gi_wp2
    refine wpIn_region_any (by kernel_rfl) ?_
    refine anyIn_two 0 1 (by kernel_rfl) ?_ ?_
    · refine opIn_list rfl ?_
      gi_wp2_with fail
      refine anyIn_one 1 (by kernel_rfl) ?_
      refine opIn_list rfl ?_
      gi_wp2_with fail
      refine anyIn_one 2 (by kernel_rfl) ?_
      refine opIn_list rfl ?_
      gi_wp2_with fail
      refine ⟨trivial, (CallsIn.inRound l (callsIn_wide.2 (copy_str _ _ hx0 hx63))).mono ?_⟩
      rintro e w2 ⟨rfl, d2⟩
      have D2 : Below W.heap.size W w2 := ⟨d2.os, d2.tape, d2.output, d2.size, d2.block⟩
      have c2 : w2.cell? ⟨w.heap.size, 0, none⟩ = some v := (d2.cell (p := ⟨w.heap.size, 0, none⟩) (by exact CL)).trans c1
      gi_wp2_with fail
      refine anyIn_one 3 (by kernel_rfl) ?_
      refine opIn_list rfl ?_
      gi_wp2_with fail
      have D3 : Below W.heap.size W (w2.alloc (.cells #[.string x] 9)) := D2.alloc D2.size _
      have c3 : (w2.alloc (.cells #[.string x] 9)).cell? ⟨w.heap.size, 0, none⟩ = some v := (D3.cell (p := ⟨w.heap.size, 0, none⟩) CL).trans c1
      refine anyIn_one 4 (by kernel_rfl) ?_
      refine opIn_list rfl ?_
      refine wpListIn_append_own_at _ rfl _ _ 26 rfl (w.heap.size + 3) 9 i0 (.string ⟨#[]⟩) 1 16 Tryz.underlying26 hi hz0 hz1 hz2 rfl (by decide) v k (strV ((pieces s).take k)) rfl (owns_below B2.out D3) ⟨w2.heap.size, 0, none⟩ 1 1 [.string x] rfl rfl ?_ ?_ ?_ ?_ ?_ ?_
      · intro j u hj
        cases j with
        | zero => obtain rfl : Value.string x = u := by simpa using hj
                  exact cell_of (World.alloc_heap_new _ _) rfl
        | succ j => simp at hj
      · intro u hu; obtain rfl := List.mem_singleton.1 hu; rfl
      · unfold maxLen; omega
      · omega
      · have := D3.size; omega
      · intro v' w4 ho hg _ _
        have N := NEXT.out _ w4 v' D3 ho hg
        have hb4 : w4.heap[w.heap.size]? = some (.cells #[v] 26 (0, 0)) := (hg.block _ (Nat.lt_of_lt_of_le CL D3.size) NB.out).trans ((D3.block _ CL).trans B1.out)
        obtain ⟨gv, cv, rfl⟩ := ownsRow_succ ho
        have bb4 : Boxed w4 w.heap.size 26 v := hb4
        have c4 := bb4.cell
        have f4 := bb4.frozen
        clear hb4 bb4
        gi_wp2_with fail
        refine anyIn_one 5 (by kernel_rfl) ?_
        refine opIn_list rfl ?_
        gi_wp2_with fail
        refine anyIn_nil (by kernel_rfl) ?_
        exact N
    · refine opIn_list rfl ?_
      gi_wp2_with fail
      refine anyIn_two 0 2 (by kernel_rfl) ?_ ?_
      · refine opIn_list rfl ?_
        gi_wp2_with fail
        refine anyIn_one 2 (by kernel_rfl) ?_
        refine opIn_list rfl ?_
        gi_wp2_with fail
        refine ⟨trivial, (CallsIn.inRound l (callsIn_wide.2 (copy_str _ _ hx0 hx63))).mono ?_⟩
        rintro e w2 ⟨rfl, d2⟩
        have D2 : Below W.heap.size W w2 := ⟨d2.os, d2.tape, d2.output, d2.size, d2.block⟩
        have c2 : w2.cell? ⟨w.heap.size, 0, none⟩ = some v := (d2.cell (p := ⟨w.heap.size, 0, none⟩) (by exact CL)).trans c1
        gi_wp2_with fail
        refine anyIn_one 3 (by kernel_rfl) ?_
        refine opIn_list rfl ?_
        gi_wp2_with fail
        have D3 : Below W.heap.size W (w2.alloc (.cells #[.string x] 9)) := D2.alloc D2.size _
        have c3 : (w2.alloc (.cells #[.string x] 9)).cell? ⟨w.heap.size, 0, none⟩ = some v := (D3.cell (p := ⟨w.heap.size, 0, none⟩) CL).trans c1
        refine anyIn_one 4 (by kernel_rfl) ?_
        refine opIn_list rfl ?_
        refine wpListIn_append_own_at _ rfl _ _ 26 rfl (w.heap.size + 3) 9 i0 (.string ⟨#[]⟩) 1 16 Tryz.underlying26 hi hz0 hz1 hz2 rfl (by decide) v k (strV ((pieces s).take k)) rfl (owns_below B2.out D3) ⟨w2.heap.size, 0, none⟩ 1 1 [.string x] rfl rfl ?_ ?_ ?_ ?_ ?_ ?_
        · intro j u hj
          cases j with
          | zero => obtain rfl : Value.string x = u := by simpa using hj
                    exact cell_of (World.alloc_heap_new _ _) rfl
          | succ j => simp at hj
        · intro u hu; obtain rfl := List.mem_singleton.1 hu; rfl
        · unfold maxLen; omega
        · omega
        · have := D3.size; omega
        · intro v' w4 ho hg _ _
          have N := NEXT.out _ w4 v' D3 ho hg
          have hb4 : w4.heap[w.heap.size]? = some (.cells #[v] 26 (0, 0)) := (hg.block _ (Nat.lt_of_lt_of_le CL D3.size) NB.out).trans ((D3.block _ CL).trans B1.out)
          obtain ⟨gv, cv, rfl⟩ := ownsRow_succ ho
          have bb4 : Boxed w4 w.heap.size 26 v := hb4
          have c4 := bb4.cell
          have f4 := bb4.frozen
          clear hb4 bb4
          gi_wp2_with fail
          refine anyIn_one 5 (by kernel_rfl) ?_
          refine opIn_list rfl ?_
          gi_wp2_with fail
          refine anyIn_nil (by kernel_rfl) ?_
          exact N
      · refine opIn_list rfl ?_
        gi_wp2_with fail
        refine ⟨trivial, (CallsIn.inRound l (callsIn_wide.2 (copy_str _ _ hx0 hx63))).mono ?_⟩
        rintro e w2 ⟨rfl, d2⟩
        have D2 : Below W.heap.size W w2 := ⟨d2.os, d2.tape, d2.output, d2.size, d2.block⟩
        have c2 : w2.cell? ⟨w.heap.size, 0, none⟩ = some v := (d2.cell (p := ⟨w.heap.size, 0, none⟩) (by exact CL)).trans c1
        gi_wp2_with fail
        refine anyIn_two 0 3 (by kernel_rfl) ?_ ?_
        · refine opIn_list rfl ?_
          gi_wp2_with fail
          refine anyIn_one 3 (by kernel_rfl) ?_
          refine opIn_list rfl ?_
          gi_wp2_with fail
          have D3 : Below W.heap.size W (w2.alloc (.cells #[.string x] 9)) := D2.alloc D2.size _
          have c3 : (w2.alloc (.cells #[.string x] 9)).cell? ⟨w.heap.size, 0, none⟩ = some v := (D3.cell (p := ⟨w.heap.size, 0, none⟩) CL).trans c1
          refine anyIn_one 4 (by kernel_rfl) ?_
          refine opIn_list rfl ?_
          refine wpListIn_append_own_at _ rfl _ _ 26 rfl (w.heap.size + 3) 9 i0 (.string ⟨#[]⟩) 1 16 Tryz.underlying26 hi hz0 hz1 hz2 rfl (by decide) v k (strV ((pieces s).take k)) rfl (owns_below B2.out D3) ⟨w2.heap.size, 0, none⟩ 1 1 [.string x] rfl rfl ?_ ?_ ?_ ?_ ?_ ?_
          · intro j u hj
            cases j with
            | zero => obtain rfl : Value.string x = u := by simpa using hj
                      exact cell_of (World.alloc_heap_new _ _) rfl
            | succ j => simp at hj
          · intro u hu; obtain rfl := List.mem_singleton.1 hu; rfl
          · unfold maxLen; omega
          · omega
          · have := D3.size; omega
          · intro v' w4 ho hg _ _
            have N := NEXT.out _ w4 v' D3 ho hg
            have hb4 : w4.heap[w.heap.size]? = some (.cells #[v] 26 (0, 0)) := (hg.block _ (Nat.lt_of_lt_of_le CL D3.size) NB.out).trans ((D3.block _ CL).trans B1.out)
            obtain ⟨gv, cv, rfl⟩ := ownsRow_succ ho
            have bb4 : Boxed w4 w.heap.size 26 v := hb4
            have c4 := bb4.cell
            have f4 := bb4.frozen
            clear hb4 bb4
            gi_wp2_with fail
            refine anyIn_one 5 (by kernel_rfl) ?_
            refine opIn_list rfl ?_
            gi_wp2_with fail
            refine anyIn_nil (by kernel_rfl) ?_
            exact N
        · refine opIn_list rfl ?_
          gi_wp2_with fail
          have D3 : Below W.heap.size W (w2.alloc (.cells #[.string x] 9)) := D2.alloc D2.size _
          have c3 : (w2.alloc (.cells #[.string x] 9)).cell? ⟨w.heap.size, 0, none⟩ = some v := (D3.cell (p := ⟨w.heap.size, 0, none⟩) CL).trans c1
          refine anyIn_one 0 (by kernel_rfl) ?_
          refine opIn_list rfl ?_
          gi_wp2_with fail
          refine anyIn_one 4 (by kernel_rfl) ?_
          refine opIn_list rfl ?_
          refine wpListIn_append_own_at _ rfl _ _ 26 rfl (w.heap.size + 3) 9 i0 (.string ⟨#[]⟩) 1 16 Tryz.underlying26 hi hz0 hz1 hz2 rfl (by decide) v k (strV ((pieces s).take k)) rfl (owns_below B2.out D3) ⟨w2.heap.size, 0, none⟩ 1 1 [.string x] rfl rfl ?_ ?_ ?_ ?_ ?_ ?_
          · intro j u hj
            cases j with
            | zero => obtain rfl : Value.string x = u := by simpa using hj
                      exact cell_of (World.alloc_heap_new _ _) rfl
            | succ j => simp at hj
          · intro u hu; obtain rfl := List.mem_singleton.1 hu; rfl
          · unfold maxLen; omega
          · omega
          · have := D3.size; omega
          · intro v' w4 ho hg _ _
            have N := NEXT.out _ w4 v' D3 ho hg
            have hb4 : w4.heap[w.heap.size]? = some (.cells #[v] 26 (0, 0)) := (hg.block _ (Nat.lt_of_lt_of_le CL D3.size) NB.out).trans ((D3.block _ CL).trans B1.out)
            obtain ⟨gv, cv, rfl⟩ := ownsRow_succ ho
            have bb4 : Boxed w4 w.heap.size 26 v := hb4
            have c4 := bb4.cell
            have f4 := bb4.frozen
            clear hb4 bb4
            gi_wp2_with fail
            refine anyIn_one 5 (by kernel_rfl) ?_
            refine opIn_list rfl ?_
            gi_wp2_with fail
            refine anyIn_nil (by kernel_rfl) ?_
            exact N
  case done =>
    intro Dq W hD hI hq
    obtain ⟨v, b1, b2⟩ := hI.box
    have c1 : W.cell? ⟨w.heap.size, 0, none⟩ = some v := cell_of b1 rfl
    have hbl := hI.below
    have hlen : (List.map (pieceV s) (spans nameB s)).length = (pieces s).length := by simp [pieces]
    rw [hlen, List.take_length] at b2
    have B2 := hide b2
    clear b2 hI b1 hlen
    go_wp2_with fail
    refine ⟨by simp, .inl ⟨_, _, rfl, run_takeDeferred hq, ?_⟩⟩
    refine ⟨_, results_tmp rfl _ _ _, ?_⟩
    refine ⟨v, rfl, owns_mono (ownsRow_putObj B2.out _ hq rfl) (by omega), ?_⟩
    exact ⟨hbl.os, hbl.tape, hbl.output, by have := hbl.size; simpa [World.putObj] using this, fun j hj => (World.putObj_heap_other (by omega)).trans (hbl.block j hj)⟩
end Go.Proofs.YtmagchclmmphaabGreatDoor
