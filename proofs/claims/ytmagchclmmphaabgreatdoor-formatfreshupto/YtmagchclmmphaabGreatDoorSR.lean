import Derived.Test.YtmagchclmmphaabGreatDoorCL
import Derived.Maps.AppendAt
import Derived.Maps.OwnIn
import Derived.DeepKeys4
import Derived.Maps.OwnSet
import Derived.Laws.IdiomStrings
namespace Go.Proofs.YtmagchclmmphaabGreatDoor
open Go.RowKit Go.Maps Go.Shelf
attribute [local go_sem] Oper.semAt_some

def strV (l : List ByteArray) : List Value := l.map .string
def nameB (b : Nat) : Bool := nameC b
theorem tests_name : TestsB 31 nameB := fun b W hT h1 => by
  refine (valid_any ⟨#[b]⟩ W hT h1).mono ?_
  rintro e w' ⟨rfl, d⟩
  refine ⟨?_, d⟩
  congr 2
  simp [vld, nameB, ByteArray.size]
def noFeed (b : Nat) : Bool := b != 10
theorem tests_feed : TestsB 80 noFeed := fun b W _ _ => by
  refine (isNoFeed_any ⟨#[b]⟩ W).mono ?_
  rintro e w' ⟨rfl, d⟩
  refine ⟨?_, d⟩
  congr 2
  unfold noFeed
  rw [Bool.eq_iff_iff]
  simp
  constructor
  · intro h e; apply h; apply UInt8.toNat_inj.1; rw [e]; rfl
  · intro h e; apply h; rw [e]; rfl
/-- The pieces of a line. -/
def pieces (s : ByteArray) : List ByteArray := (spans nameB s).map fun x => s.extract x.1 x.2
theorem info9 : (Tryz.prog.info? 9).map (fun i => (i.zero, i.size, i.bytes)) = some (some (.string ⟨#[]⟩), 1, 16) := by kernel_rfl

theorem owns_below {w w' : World} {base e size : Nat} {v : Value} {n : Nat} {xs : List Value} (h : w.ownsRow base e size v n xs) (hb : Below w.heap.size w w') : w'.ownsRow base e size v n xs :=
  ⟨h.1, h.2.imp id (fun ⟨g, cap, cur, h1, h2, h3, h4⟩ => ⟨g, cap, cur, h1, h2, (hb.block g (Array.getElem?_eq_some_iff.1 h3).1).trans h3, h4⟩)⟩
theorem owns_mono {w : World} {base base' e size : Nat} {v : Value} {n : Nat} {xs : List Value} (h : w.ownsRow base e size v n xs) (hb : base' ≤ base) : w.ownsRow base' e size v n xs :=
  ⟨h.1, h.2.imp id (fun ⟨g, cap, cur, h1, h2, h3, h4⟩ => ⟨g, cap, cur, h1, Nat.le_trans hb h2, h3, h4⟩)⟩
/-- What piecesOf holds. -/
structure PcI (w : World) (s : ByteArray) (k : Nat) (W : World) : Prop where
  box : ∃ v, W.heap[w.heap.size]? = some (.cells #[v] 26 (0, 0)) ∧ W.ownsRow (w.heap.size + 3) 9 1 v k (strV ((pieces s).take k))
  t : W.heap[w.heap.size + 1]? = some (.cells #[.string s] 9 (0, 0))
  below : Below w.heap.size w W
theorem PcI.on {w : World} {s : ByteArray} {k : Nat} {A A' : World} (h : PcI w s k A) (d : Below A.heap.size A A') : PcI w s k A' := by
  obtain ⟨v, h1, h2⟩ := h.box
  refine ⟨⟨v, (d.block _ (Array.getElem?_eq_some_iff.1 h1).1).trans h1, owns_below h2 d⟩, (d.block _ (Array.getElem?_eq_some_iff.1 h.t).1).trans h.t, h.below.trans (d.mono h.below.size)⟩

theorem spansFrom_in (h : Nat → Bool) : ∀ (l : List Nat) (i a : Nat) (x : Nat × Nat), a ≤ i → x ∈ spansFrom h l i a → a ≤ x.1 ∧ x.1 < x.2 ∧ x.2 ≤ i + l.length
  | [], i, a, x, hai, hx => by
    unfold spansFrom at hx
    split at hx
    · rename_i hlt
      obtain rfl := List.mem_singleton.1 hx
      exact ⟨Nat.le_refl _, hlt, Nat.le_refl _⟩
    · simp at hx
  | b :: t, i, a, x, hai, hx => by
    unfold spansFrom at hx
    split at hx
    · have := spansFrom_in h t (i + 1) a x (by omega) hx
      simp only [List.length_cons]; omega
    · rcases List.mem_append.1 hx with hx | hx
      · split at hx
        · rename_i hlt
          obtain rfl := List.mem_singleton.1 hx
          simp only [List.length_cons]
          exact ⟨Nat.le_refl _, hlt, by omega⟩
        · simp at hx
      · have := spansFrom_in h t (i + 1) (i + 1) x (Nat.le_refl _) hx
        simp only [List.length_cons]; omega
theorem spansFrom_len (h : Nat → Bool) : ∀ (l : List Nat) (i a : Nat), (spansFrom h l i a).length ≤ l.length + 1
  | [], i, a => by unfold spansFrom; split <;> simp
  | b :: t, i, a => by
    unfold spansFrom
    split
    · have := spansFrom_len h t (i + 1) a; simp only [List.length_cons]; omega
    · have := spansFrom_len h t (i + 1) (i + 1)
      rw [List.length_append, List.length_cons]
      split <;> simp <;> omega
theorem spans_in (h : Nat → Bool) (s : ByteArray) {x : Nat × Nat} (hx : x ∈ spans h s) : x.1 < x.2 ∧ x.2 ≤ s.size := by
  have := spansFrom_in h (bts s) 0 0 x (Nat.le_refl _) hx
  rw [bts_len] at this
  omega
theorem spans_len (h : Nat → Bool) (s : ByteArray) : (spans h s).length ≤ s.size + 1 := by
  have := spansFrom_len h (bts s) 0 0
  rwa [bts_len] at this
/-- The piece at hand. -/
theorem piece_at (s : ByteArray) (k : Nat) (hk : k < (List.map (pieceV s) (spans nameB s)).length) : ∃ x, (List.map (pieceV s) (spans nameB s))[k] = .string x ∧ (pieces s)[k]? = some x ∧ x.size ≠ 0 ∧ x.size ≤ s.size ∧ k ≤ s.size := by
  have hk' : k < (spans nameB s).length := by simpa using hk
  have h := spans_in nameB s (List.getElem_mem hk')
  have h2 := spans_len nameB s
  refine ⟨s.extract ((spans nameB s)[k]).1 ((spans nameB s)[k]).2, by simp [pieceV], by simp [pieces, hk'], ?_, ?_, by omega⟩
  · rw [ByteArray.size_extract]; omega
  · rw [ByteArray.size_extract]; omega
theorem PcI.next {w W w3 w4 : World} {s x : ByteArray} {k L : Nat} {v v' : Value} {r : Loop} (h1 : 1 < w.heap.size) (hI : PcI w s k W) (b1 : W.heap[w.heap.size]? = some (.cells #[v] 26 (0, 0))) (b2 : W.ownsRow (w.heap.size + 3) 9 1 v k (strV ((pieces s).take k)))
    (hd : W.heap[L]? = some (.deferred (some []))) (hr : W.heap[L + 1]? = some (.loop r)) (hL : w.heap.size + 3 ≤ L) (hx : (pieces s)[k]? = some x) (d3 : Below W.heap.size W w3) (ho : w4.ownsRow (w.heap.size + 3) 9 1 v' (k + 1) (strV ((pieces s).take k) ++ [.string x])) (hg : w3.grownBy w4 v.ownBlock) :
    goesOn L (KpC (w.heap.size + 1) (w.heap.size + 1 + 1)) (PcI w s) (k + 1) W .normal ⟨#[], []⟩ (w4.setCell ⟨w.heap.size, 0, none⟩ v') := by
  have hrow : ∀ j, v.ownBlock = some j → w.heap.size + 3 ≤ j ∧ ∃ c, W.heap[j]? = some (.cells c 9 (0, 0)) := by
    rcases b2.2 with ⟨rfl, _⟩ | ⟨g, cap, cur, rfl, hb, hgc, _⟩
    · intro j hj; cases hj
    · intro j hj
      obtain rfl : g = j := by simpa [Value.ownBlock] using hj
      exact ⟨hb, _, hgc⟩
  have keep : ∀ j, j < W.heap.size → some j ≠ v.ownBlock → j ≠ w.heap.size → (w4.setCell ⟨w.heap.size, 0, none⟩ v').heap[j]? = W.heap[j]? := fun j hj hne h0 => by
    have e1 := (hg.block j (Nat.lt_of_lt_of_le hj d3.size) hne).trans (d3.block j hj)
    have hj4 : j < w4.heap.size := Nat.lt_of_lt_of_le hj (Nat.le_trans d3.size hg.size)
    exact ((grownBy_setCell' w4 w.heap.size v').block j hj4 (by intro e; exact h0 (by simpa using e))).trans e1
  have hz0 : w.heap.size < W.heap.size := (Array.getElem?_eq_some_iff.1 b1).1
  have hz1 : w.heap.size + 1 < W.heap.size := (Array.getElem?_eq_some_iff.1 hI.t).1
  have hzL : L + 1 < W.heap.size := (Array.getElem?_eq_some_iff.1 hr).1
  have nr : ∀ j, j < w.heap.size + 3 → some j ≠ v.ownBlock := fun j hj e => by have := (hrow j e.symm).1; omega
  have nl : some L ≠ v.ownBlock := fun e => by obtain ⟨_, c, hc⟩ := hrow L e.symm; rw [hd] at hc; cases hc
  have nl1 : some (L + 1) ≠ v.ownBlock := fun e => by obtain ⟨_, c, hc⟩ := hrow _ e.symm; rw [hr] at hc; cases hc
  have hs5 : W.heap.size ≤ (w4.setCell ⟨w.heap.size, 0, none⟩ v').heap.size := Nat.le_trans (Nat.le_trans d3.size hg.size) (grownBy_setCell' w4 w.heap.size v').size
  refine ⟨⟨keep L (by omega) nl (by omega), keep (L + 1) hzL nl1 (by omega)⟩, ⟨hs5, keep _ hz1 (nr _ (by omega)) (by omega), keep _ (by omega) (nr _ (by omega)) (by omega), keep 0 (by omega) (nr _ (by omega)) (by omega)⟩, ?_, (keep _ hz1 (nr _ (by omega)) (by omega)).trans hI.t, ?_⟩
  · have hbx : Boxed w4 w.heap.size 26 v := (hg.block _ (Nat.lt_of_lt_of_le hz0 d3.size) (nr _ (by omega))).trans ((d3.block _ hz0).trans b1)
    refine ⟨v', hbx.set v', ?_⟩
    have e : strV ((pieces s).take (k + 1)) = strV ((pieces s).take k) ++ [.string x] := by
      unfold strV
      rw [List.take_add_one, hx]; simp
    rw [e]
    refine ho.kept (grownBy_setCell' w4 w.heap.size v') ?_
    refine .inr (fun e2 => ?_)
    have := (ho.lt w.heap.size e2).1
    omega
  · have hb4 : w3.os = w.os ∧ w3.tape = w.tape ∧ w3.output = w.output := ⟨d3.os.trans hI.below.os, d3.tape.trans hI.below.tape, d3.output.trans hI.below.output⟩
    refine ⟨hg.os.trans hb4.1, hg.tape.trans hb4.2.1, hg.output.trans hb4.2.2, by omega, fun j hj => (keep j (by omega) (nr _ (by omega)) (by omega)).trans (hI.below.block j hj)⟩
theorem anyIn_nil {F : Fence} {n : Nat} {P : Program} {md : Region.Mode} {ops : Array Oper} {Q : Exit → Act → World → Prop} {listed : Array Bool} {a : Act} {w : World}
    (hr : Region.ready md ops listed = []) (h : Q .normal a w) : wpAnyIn F n P md ops Q 0 listed a w := ⟨hr, h⟩
theorem anyIn_one {F : Fence} {n : Nat} {P : Program} {md : Region.Mode} {ops : Array Oper} {Q : Exit → Act → World → Prop} {listed : Array Bool} {a : Act} {w : World} {fuel : Nat} (i : Nat)
    (hr : Region.ready md ops listed = [i]) (h : wpOpIn F n P ops Q i (wpAnyIn F n P md ops Q fuel (listed.setIfInBounds i true)) a w) : wpAnyIn F n P md ops Q (fuel + 1) listed a w :=
  ⟨fun h0 => (by rw [hr] at h0; simp at h0), fun j hj => (by rw [hr] at hj; obtain rfl := List.mem_singleton.1 hj; exact h)⟩
theorem anyIn_two {F : Fence} {n : Nat} {P : Program} {md : Region.Mode} {ops : Array Oper} {Q : Exit → Act → World → Prop} {listed : Array Bool} {a : Act} {w : World} {fuel : Nat} (i k : Nat)
    (hr : Region.ready md ops listed = [i, k]) (h : wpOpIn F n P ops Q i (wpAnyIn F n P md ops Q fuel (listed.setIfInBounds i true)) a w)
    (h' : wpOpIn F n P ops Q k (wpAnyIn F n P md ops Q fuel (listed.setIfInBounds k true)) a w) : wpAnyIn F n P md ops Q (fuel + 1) listed a w :=
  ⟨fun h0 => (by rw [hr] at h0; simp at h0), fun j hj => (by rw [hr] at hj; rcases List.mem_cons.1 hj with rfl | hj; exact h; obtain rfl := List.mem_singleton.1 hj; exact h')⟩
theorem opIn_list {F : Fence} {n : Nat} {P : Program} {ops : Array Oper} {Q : Exit → Act → World → Prop} {K : Act → World → Prop} {i : Nat} {o : Oper} {a : Act} {w : World}
    (ho : ops[i]? = some o) (h : wpListIn F n P ops (Exit.then K Q) [o] a w) : wpOpIn F n P ops Q i K a w := by
  unfold wpOpIn
  simp only [ho]
  simp only [wpListIn] at h
  split
  · rename_i hw
    simp only [hw, if_true] at h
    unfold Oper.wpIn at h ⊢
    refine ⟨h.1, ?_⟩
    have hh := h.2
    generalize (o.semAt F.round a.eval).run P w = r at *
    cases r with
    | ok x w' =>
      cases x <;> simp only [Oper.uponIn] at hh ⊢ <;>
        first
          | exact hh
          | exact ⟨hh.1, CallsIn.mono hh.2 (fun e w'' he => by cases e <;> exact he)⟩
          | exact ⟨hh.1, RowsIn.mono hh.2 (fun _ _ he => he)⟩
          | exact ⟨hh.1, RoundIn.mono hh.2 (fun e w'' he => by cases e <;> exact he)⟩
    | halt x w' => cases x <;> simp only [Oper.uponIn] at hh ⊢ <;> exact hh
  · rename_i hw
    simp only [hw] at h
    exact h

set_option maxRecDepth 100000 in
set_option maxHeartbeats 2000000 in
theorem pieces_any (s : ByteArray) (w : World) (hs : s.size ≤ 134217728) (hT : BytesAt w) (h1 : 1 < w.heap.size) :
    Calls Tryz.prog 82 #[.string s] w fun e w' => ∃ v, e = .returned v ∧ w'.ownsRow w.heap.size 9 1 v (pieces s).length (strV (pieces s)) ∧ Below w.heap.size w w' := by
  obtain ⟨i0, hi, hz0, hz1, hz2⟩ := info_parts info9
  refine (callsIn_wide (n := 9)).1 (callsIn_of_wp_marks Tryz.func82 rfl trivial ?_ rfl)
  refine wpIn_wide.2 ?_
  simp only [Tryz.ntmps82, List.size_toArray, List.length_cons, List.length_nil, Nat.reduceAdd, Nat.reduceSub, Array.replicate_succ, Array.replicate_zero, List.push_toArray, List.append_toArray, List.nil_append, List.cons_append]
  go_wp2_with fail
  refine (cut_any s 31 _).mono ?_
  rintro e w1 ⟨rfl, hw1⟩
  obtain rfl := hw1.symm
  rw [World.size_alloc]
  obtain ⟨W1, hW1⟩ : ∃ W1, ((w.alloc (.cells #[.slice none 0 0] 26)).alloc (.cells #[.string s] 9)).alloc (.cells #[.func (.func 31) #[] #[]] 56) = W1 := ⟨_, rfl⟩
  have hz : W1.heap.size = w.heap.size + 3 := by rw [← hW1]; simp
  have q0 : W1.heap[w.heap.size]? = some (.cells #[.slice none 0 0] 26 (0, 0)) := by rw [← hW1]; exact at_0 _ _ _ _
  have q1 : W1.heap[w.heap.size + 1]? = some (.cells #[.string s] 9 (0, 0)) := by rw [← hW1]; exact at_1 _ _ _ _
  have q2 : W1.heap[w.heap.size + 1 + 1]? = some (.cells #[.func (.func 31) #[] #[]] 56 (0, 0)) := by rw [← hW1]; exact at_2 _ _ _ _
  have qb : Below w.heap.size w W1 := by rw [← hW1]; exact (((Below.refl _ _).alloc (Nat.le_refl _) _).alloc (by simp) _).alloc (by simp; omega) _
  rw [hW1]
  have HT1 := hide (hT.below qb h1)
  have hp1 : 1 < W1.heap.size := by omega
  have HI0 : PcI w s 0 W1 := ⟨⟨_, q0, World.ownsRow_nil _ _ _ _⟩, q1, qb⟩
  have HI := hide HI0
  have hseq := cut_seq_name 8 nameB tests_name s (by omega) (w.heap.size + 1) (w.heap.size + 1 + 1) W1 q1 q2 HT1.out hp1
  have HSEQ := hide hseq
  clear hseq HI0 q0 q1 q2 qb hW1
  go_wp2_with fail
  refine (wpIn_wide (n := 9)).1 ?_
  refine range_in_order (n := 9) (by omega) rfl (enters_of Tryz.func102 (by kernel_rfl) rfl) HSEQ.out KpC.trans ?kb (Below.refl _ _) (PcI w s) (fun k A A' h d => h.on d) ?ip HI.out (fun x => { tmps := #[.string s, undef, .slice none 0 0, .pointer (some ⟨w.heap.size, 0, none⟩), x, .string s, .func (.func 102) #[] #[.pointer (some ⟨w.heap.size + 1, 0, none⟩), .pointer (some ⟨w.heap.size + 1 + 1, 0, none⟩)], x, undef, undef, undef, undef, undef, undef], defers := [] }) ?assign ?body ?done
  case kb =>
    intro W r r' h
    have hlt : W1.heap.size + 1 < W.heap.size := (Array.getElem?_eq_some_iff.1 h).1
    exact ⟨by simp [World.putObj], World.putObj_heap_other (by omega), World.putObj_heap_other (by omega), World.putObj_heap_other (by omega)⟩
  case ip =>
    intro k A r r' hI h
    obtain ⟨v, b1, b2⟩ := hI.box
    refine ⟨⟨v, (World.putObj_heap_other (by omega)).trans b1, ownsRow_putObj b2 _ h rfl⟩, (World.putObj_heap_other (by omega)).trans hI.t, ?_⟩
    exact ⟨hI.below.os, hI.below.tape, hI.below.output, by have := hI.below.size; simpa [World.putObj] using this, fun j hj => (World.putObj_heap_other (by omega)).trans (hI.below.block j hj)⟩
  case assign =>
    intro l x W K hK
    gi_wp2
    exact hK
  case body =>
    rintro l k W hk hI hd ⟨r, hr⟩
    obtain ⟨x, hx, hxp, hx0, hxs, hks⟩ := piece_at s k hk
    rw [hx]
    obtain ⟨v, b1, b2⟩ := hI.box
    have c1 : W.cell? ⟨w.heap.size, 0, none⟩ = some v := cell_of b1 rfl
    have hx63 : x.size ≤ 134217728 := by omega
    have NEXT := hide (fun w3 w4 v' d3 ho hg => PcI.next (w3 := w3) (w4 := w4) (v' := v') h1 hI b1 b2 hd hr (by omega) hxp d3 ho hg)
    have NB := hide (show some w.heap.size ≠ v.ownBlock from fun e => by have := (b2.lt _ e.symm).1; omega)
    have CL3 : w.heap.size + 3 ≤ W.heap.size := by have := (Array.getElem?_eq_some_iff.1 hr).1; omega
    have CL : w.heap.size < W.heap.size := (Array.getElem?_eq_some_iff.1 b1).1
    have B2 := hide b2
    have B1 := hide b1
    clear hI b1 b2 hd hr hx hk
    gi_wp2
    refine wpIn_region_any (by kernel_rfl) ?_
    refine anyIn_two 0 1 (by kernel_rfl) ?_ ?_
    · refine opIn_list rfl ?_
      gi_wp2_with fail
      refine anyIn_one 1 (by kernel_rfl) ?_
      refine opIn_list rfl ?_
      gi_wp2_with fail
      refine anyIn_one 2 (by kernel_rfl) ?_
      refine opIn_list rfl ?_
      gi_wp2_with fail
      refine ⟨trivial, (CallsIn.inRound l (callsIn_wide.2 (copy_str _ _ hx0 hx63))).mono ?_⟩
      rintro e w2 ⟨rfl, d2⟩
      have D2 : Below W.heap.size W w2 := ⟨d2.os, d2.tape, d2.output, d2.size, d2.block⟩
      have c2 : w2.cell? ⟨w.heap.size, 0, none⟩ = some v := (d2.cell (p := ⟨w.heap.size, 0, none⟩) (by exact CL)).trans c1
      gi_wp2_with fail
      refine anyIn_one 3 (by kernel_rfl) ?_
      refine opIn_list rfl ?_
      gi_wp2_with fail
      have D3 : Below W.heap.size W (w2.alloc (.cells #[.string x] 9)) := D2.alloc D2.size _
      have c3 : (w2.alloc (.cells #[.string x] 9)).cell? ⟨w.heap.size, 0, none⟩ = some v := (D3.cell (p := ⟨w.heap.size, 0, none⟩) CL).trans c1
      refine anyIn_one 4 (by kernel_rfl) ?_
      refine opIn_list rfl ?_
      refine wpListIn_append_own_at _ rfl _ _ 26 rfl (w.heap.size + 3) 9 i0 (.string ⟨#[]⟩) 1 16 Tryz.underlying26 hi hz0 hz1 hz2 rfl (by decide) v k (strV ((pieces s).take k)) rfl (owns_below B2.out D3) ⟨w2.heap.size, 0, none⟩ 1 1 [.string x] rfl rfl ?_ ?_ ?_ ?_ ?_ ?_
      · intro j u hj
        cases j with
        | zero => obtain rfl : Value.string x = u := by simpa using hj
                  exact cell_of (World.alloc_heap_new _ _) rfl
        | succ j => simp at hj
      · intro u hu; obtain rfl := List.mem_singleton.1 hu; rfl
      · unfold maxLen; omega
      · omega
      · have := D3.size; omega
      · intro v' w4 ho hg _ _
        have N := NEXT.out _ w4 v' D3 ho hg
        have hb4 : w4.heap[w.heap.size]? = some (.cells #[v] 26 (0, 0)) := (hg.block _ (Nat.lt_of_lt_of_le CL D3.size) NB.out).trans ((D3.block _ CL).trans B1.out)
        obtain ⟨gv, cv, rfl⟩ := ownsRow_succ ho
        have bb4 : Boxed w4 w.heap.size 26 v := hb4
        have c4 := bb4.cell
        have f4 := bb4.frozen
        clear hb4 bb4
        gi_wp2_with fail
        refine anyIn_one 5 (by kernel_rfl) ?_
        refine opIn_list rfl ?_
        gi_wp2_with fail
        refine anyIn_nil (by kernel_rfl) ?_
        exact N
    · refine opIn_list rfl ?_
      gi_wp2_with fail
      refine anyIn_two 0 2 (by kernel_rfl) ?_ ?_
      · refine opIn_list rfl ?_
        gi_wp2_with fail
        refine anyIn_one 2 (by kernel_rfl) ?_
        refine opIn_list rfl ?_
        gi_wp2_with fail
        refine ⟨trivial, (CallsIn.inRound l (callsIn_wide.2 (copy_str _ _ hx0 hx63))).mono ?_⟩
        rintro e w2 ⟨rfl, d2⟩
        have D2 : Below W.heap.size W w2 := ⟨d2.os, d2.tape, d2.output, d2.size, d2.block⟩
        have c2 : w2.cell? ⟨w.heap.size, 0, none⟩ = some v := (d2.cell (p := ⟨w.heap.size, 0, none⟩) (by exact CL)).trans c1
        gi_wp2_with fail
        refine anyIn_one 3 (by kernel_rfl) ?_
        refine opIn_list rfl ?_
        gi_wp2_with fail
        have D3 : Below W.heap.size W (w2.alloc (.cells #[.string x] 9)) := D2.alloc D2.size _
        have c3 : (w2.alloc (.cells #[.string x] 9)).cell? ⟨w.heap.size, 0, none⟩ = some v := (D3.cell (p := ⟨w.heap.size, 0, none⟩) CL).trans c1
        refine anyIn_one 4 (by kernel_rfl) ?_
        refine opIn_list rfl ?_
        refine wpListIn_append_own_at _ rfl _ _ 26 rfl (w.heap.size + 3) 9 i0 (.string ⟨#[]⟩) 1 16 Tryz.underlying26 hi hz0 hz1 hz2 rfl (by decide) v k (strV ((pieces s).take k)) rfl (owns_below B2.out D3) ⟨w2.heap.size, 0, none⟩ 1 1 [.string x] rfl rfl ?_ ?_ ?_ ?_ ?_ ?_
        · intro j u hj
          cases j with
          | zero => obtain rfl : Value.string x = u := by simpa using hj
                    exact cell_of (World.alloc_heap_new _ _) rfl
          | succ j => simp at hj
        · intro u hu; obtain rfl := List.mem_singleton.1 hu; rfl
        · unfold maxLen; omega
        · omega
        · have := D3.size; omega
        · intro v' w4 ho hg _ _
          have N := NEXT.out _ w4 v' D3 ho hg
          have hb4 : w4.heap[w.heap.size]? = some (.cells #[v] 26 (0, 0)) := (hg.block _ (Nat.lt_of_lt_of_le CL D3.size) NB.out).trans ((D3.block _ CL).trans B1.out)
          obtain ⟨gv, cv, rfl⟩ := ownsRow_succ ho
          have bb4 : Boxed w4 w.heap.size 26 v := hb4
          have c4 := bb4.cell
          have f4 := bb4.frozen
          clear hb4 bb4
          gi_wp2_with fail
          refine anyIn_one 5 (by kernel_rfl) ?_
          refine opIn_list rfl ?_
          gi_wp2_with fail
          refine anyIn_nil (by kernel_rfl) ?_
          exact N
      · refine opIn_list rfl ?_
        gi_wp2_with fail
        refine ⟨trivial, (CallsIn.inRound l (callsIn_wide.2 (copy_str _ _ hx0 hx63))).mono ?_⟩
        rintro e w2 ⟨rfl, d2⟩
        have D2 : Below W.heap.size W w2 := ⟨d2.os, d2.tape, d2.output, d2.size, d2.block⟩
        have c2 : w2.cell? ⟨w.heap.size, 0, none⟩ = some v := (d2.cell (p := ⟨w.heap.size, 0, none⟩) (by exact CL)).trans c1
        gi_wp2_with fail
        refine anyIn_two 0 3 (by kernel_rfl) ?_ ?_
        · refine opIn_list rfl ?_
          gi_wp2_with fail
          refine anyIn_one 3 (by kernel_rfl) ?_
          refine opIn_list rfl ?_
          gi_wp2_with fail
          have D3 : Below W.heap.size W (w2.alloc (.cells #[.string x] 9)) := D2.alloc D2.size _
          have c3 : (w2.alloc (.cells #[.string x] 9)).cell? ⟨w.heap.size, 0, none⟩ = some v := (D3.cell (p := ⟨w.heap.size, 0, none⟩) CL).trans c1
          refine anyIn_one 4 (by kernel_rfl) ?_
          refine opIn_list rfl ?_
          refine wpListIn_append_own_at _ rfl _ _ 26 rfl (w.heap.size + 3) 9 i0 (.string ⟨#[]⟩) 1 16 Tryz.underlying26 hi hz0 hz1 hz2 rfl (by decide) v k (strV ((pieces s).take k)) rfl (owns_below B2.out D3) ⟨w2.heap.size, 0, none⟩ 1 1 [.string x] rfl rfl ?_ ?_ ?_ ?_ ?_ ?_
          · intro j u hj
            cases j with
            | zero => obtain rfl : Value.string x = u := by simpa using hj
                      exact cell_of (World.alloc_heap_new _ _) rfl
            | succ j => simp at hj
          · intro u hu; obtain rfl := List.mem_singleton.1 hu; rfl
          · unfold maxLen; omega
          · omega
          · have := D3.size; omega
          · intro v' w4 ho hg _ _
            have N := NEXT.out _ w4 v' D3 ho hg
            have hb4 : w4.heap[w.heap.size]? = some (.cells #[v] 26 (0, 0)) := (hg.block _ (Nat.lt_of_lt_of_le CL D3.size) NB.out).trans ((D3.block _ CL).trans B1.out)
            obtain ⟨gv, cv, rfl⟩ := ownsRow_succ ho
            have bb4 : Boxed w4 w.heap.size 26 v := hb4
            have c4 := bb4.cell
            have f4 := bb4.frozen
            clear hb4 bb4
            gi_wp2_with fail
            refine anyIn_one 5 (by kernel_rfl) ?_
            refine opIn_list rfl ?_
            gi_wp2_with fail
            refine anyIn_nil (by kernel_rfl) ?_
            exact N
        · refine opIn_list rfl ?_
          gi_wp2_with fail
          have D3 : Below W.heap.size W (w2.alloc (.cells #[.string x] 9)) := D2.alloc D2.size _
          have c3 : (w2.alloc (.cells #[.string x] 9)).cell? ⟨w.heap.size, 0, none⟩ = some v := (D3.cell (p := ⟨w.heap.size, 0, none⟩) CL).trans c1
          refine anyIn_one 0 (by kernel_rfl) ?_
          refine opIn_list rfl ?_
          gi_wp2_with fail
          refine anyIn_one 4 (by kernel_rfl) ?_
          refine opIn_list rfl ?_
          refine wpListIn_append_own_at _ rfl _ _ 26 rfl (w.heap.size + 3) 9 i0 (.string ⟨#[]⟩) 1 16 Tryz.underlying26 hi hz0 hz1 hz2 rfl (by decide) v k (strV ((pieces s).take k)) rfl (owns_below B2.out D3) ⟨w2.heap.size, 0, none⟩ 1 1 [.string x] rfl rfl ?_ ?_ ?_ ?_ ?_ ?_
          · intro j u hj
            cases j with
            | zero => obtain rfl : Value.string x = u := by simpa using hj
                      exact cell_of (World.alloc_heap_new _ _) rfl
            | succ j => simp at hj
          · intro u hu; obtain rfl := List.mem_singleton.1 hu; rfl
          · unfold maxLen; omega
          · omega
          · have := D3.size; omega
          · intro v' w4 ho hg _ _
            have N := NEXT.out _ w4 v' D3 ho hg
            have hb4 : w4.heap[w.heap.size]? = some (.cells #[v] 26 (0, 0)) := (hg.block _ (Nat.lt_of_lt_of_le CL D3.size) NB.out).trans ((D3.block _ CL).trans B1.out)
            obtain ⟨gv, cv, rfl⟩ := ownsRow_succ ho
            have bb4 : Boxed w4 w.heap.size 26 v := hb4
            have c4 := bb4.cell
            have f4 := bb4.frozen
            clear hb4 bb4
            gi_wp2_with fail
            refine anyIn_one 5 (by kernel_rfl) ?_
            refine opIn_list rfl ?_
            gi_wp2_with fail
            refine anyIn_nil (by kernel_rfl) ?_
            exact N
  case done =>
    intro Dq W hD hI hq
    obtain ⟨v, b1, b2⟩ := hI.box
    have c1 : W.cell? ⟨w.heap.size, 0, none⟩ = some v := cell_of b1 rfl
    have hbl := hI.below
    have hlen : (List.map (pieceV s) (spans nameB s)).length = (pieces s).length := by simp [pieces]
    rw [hlen, List.take_length] at b2
    have B2 := hide b2
    clear b2 hI b1 hlen
    go_wp2_with fail
    refine ⟨by simp, .inl ⟨_, _, rfl, run_takeDeferred hq, ?_⟩⟩
    refine ⟨_, results_tmp rfl _ _ _, ?_⟩
    refine ⟨v, rfl, owns_mono (ownsRow_putObj B2.out _ hq rfl) (by omega), ?_⟩
    exact ⟨hbl.os, hbl.tape, hbl.output, by have := hbl.size; simpa [World.putObj] using this, fun j hj => (World.putObj_heap_other (by omega)).trans (hbl.block j hj)⟩
end Go.Proofs.YtmagchclmmphaabGreatDoor
namespace Go.Proofs.YtmagchclmmphaabGreatDoor
open Go.RowKit Go.Maps

/-- Nothing has turned but in blocks of R. -/
structure Only (w w' : World) (R : Nat → Prop) : Prop where
  os : w'.os = w.os
  tape : w'.tape = w.tape
  output : w'.output = w.output
  size : w.heap.size ≤ w'.heap.size
  block : ∀ k, k < w.heap.size → ¬ R k → w'.heap[k]? = w.heap[k]?
theorem Only.ofBelow {w w' : World} {R : Nat → Prop} (h : Below w.heap.size w w') : Only w w' R := ⟨h.os, h.tape, h.output, h.size, fun k hk _ => h.block k hk⟩
theorem Only.toBelow {w w' : World} {R : Nat → Prop} {B : Nat} (h : Only w w' R) (hB : B ≤ w.heap.size) (hR : ∀ k, R k → B ≤ k) : Below B w w' :=
  ⟨h.os, h.tape, h.output, h.size, fun k hk => h.block k (by omega) (fun hr => by have := hR k hr; omega)⟩
theorem Only.trans {a b c : World} {R : Nat → Prop} (h : Only a b R) (k : Only b c R) : Only a c R :=
  ⟨k.os.trans h.os, k.tape.trans h.tape, k.output.trans h.output, Nat.le_trans h.size k.size, fun i hi hn => (k.block i (Nat.lt_of_lt_of_le hi h.size) hn).trans (h.block i hi hn)⟩
theorem Only.mono {w w' : World} {R R' : Nat → Prop} (h : Only w w' R) (hr : ∀ k, k < w.heap.size → R k → R' k) : Only w w' R' := ⟨h.os, h.tape, h.output, h.size, fun k hk hn => h.block k hk (fun h' => hn (hr k hk h'))⟩
/-- What is new may be written. -/
theorem Only.andNew {a b c : World} {R S : Nat → Prop} (h : Only a b R) (k : Only b c S) (hs : ∀ i, i < a.heap.size → S i → R i) : Only a c R :=
  ⟨k.os.trans h.os, k.tape.trans h.tape, k.output.trans h.output, Nat.le_trans h.size k.size, fun i hi hn => (k.block i (Nat.lt_of_lt_of_le hi h.size) (fun hx => hn (hs i hi hx))).trans (h.block i hi hn)⟩
theorem Only.grown {w w' : World} {r : Option Nat} {R : Nat → Prop} (h : w.grownBy w' r) (hr : ∀ k, r = some k → R k) : Only w w' R :=
  ⟨h.os, h.tape, h.output, h.size, fun k hk hn => h.block k hk (fun e => hn (hr k e.symm))⟩
theorem only_set (w : World) (g k : Nat) (v : Value) : Only w (w.setCell ⟨g, k, none⟩ v) (fun i => i = g) :=
  ⟨rfl, rfl, rfl, by simp [World.setCell], fun i _ hn => Below.heap_setCell _ _ _ _ (fun e => hn (by rw [e]))⟩
theorem row_only {w w' : World} {R : Nat → Prop} {B : Nat} {e : TypeId} {sz n : Nat} {v : Value} {xs : List Value} (h : w.ownsRow B e sz v n xs) (ho : Only w w' R) (hn : ∀ k, v.ownBlock = some k → ¬ R k) : w'.ownsRow B e sz v n xs := by
  refine ⟨h.1, ?_⟩
  have hlt := h.lt
  rcases h.2 with h2 | ⟨g, cap, cur, rfl, hb, hg, rest⟩
  · exact .inl h2
  · exact .inr ⟨g, cap, cur, rfl, hb, (ho.block g (hlt g rfl).2 (hn g rfl)).trans hg, rest⟩

/-- A kind of items: a type whose values may be keys, and how a value lies in memory. -/
structure Kd (α : Type) where
  ty : Nat
  sz : Nat
  val : α → Value
  cs : α → List Value
  key : α → Lit
  ok : α → Prop
  kmk : ∀ a, ok a → keyOf Tryz.prog ty (val a) = some (key a)
  inj : ∀ a b, ok a → ok b → key a = key b → a = b
  lit : ∀ a, WideAt.IsKeyLit (key a)
  len : ∀ a, (cs a).length = sz
  one : ∀ a, ∀ u ∈ cs a, u.oneCell' = true
  law : Keyed Tryz.prog ty

section
variable {α : Type} (K : Kd α)
/-- A map says at which place each item stands. -/
structure IsPl (D : DataW Unit) (l : List α) : Prop where
  tidy : Tidy D
  has : ∀ s, K.ok s → (Maps.has D (K.key s) = true ↔ s ∈ l)
  at_ : ∀ i (h : i < l.length) z, D.atKey (K.key l[i]) z = .lit (.int .i64 (i : Nat))
theorem isPl_nil : IsPl K (.map []) [] := ⟨tidy_empty, fun s _ => (by constructor <;> intro h <;> cases h), fun i h => (by simp at h)⟩
variable {K}
theorem IsPl.new {D : DataW Unit} {l : List α} {s : α} (h : IsPl K D l) (hok : ∀ x ∈ l, K.ok x) (hs : s ∉ l) (ho : K.ok s) : IsPl K (D.put (K.key s) (.lit (.int .i64 (l.length : Nat)))) (l ++ [s]) := by
  refine ⟨h.tidy.put (K.lit s) _, fun t ht => ?_, fun i hi z => ?_⟩
  · by_cases e : t = s
    · subst e; rw [has_put_same h.tidy.isMap (K.lit _)]; simp
    · rw [has_put_other (fun h => e (K.inj _ _ ht ho h)), h.has t ht]; simp [e]
  · by_cases e : i < l.length
    · rw [List.getElem_append_left e]
      have hm : l[i] ∈ l := List.getElem_mem e
      rw [atKey_put_other (fun h => hs (by rw [← K.inj _ _ (hok _ hm) ho h]; exact hm)), h.at_ i e z]
    · have : i = l.length := by simp at hi; omega
      subst this
      rw [List.getElem_append_right (Nat.le_refl _)]
      simp only [Nat.sub_self, List.getElem_cons_zero]
      rw [atKey_put_same h.tidy.isMap (K.lit _)]
variable (K)
/-- A series: its list v and its map m. -/
structure Ser (n0 : Nat) (W : World) (v m : Value) (l : List α) : Prop where
  own : W.ownsRow n0 K.ty K.sz v l.length (l.flatMap K.cs)
  map : (m = .map none ∧ l = []) ∨ ∃ bm D, m = .map (some bm) ∧ n0 ≤ bm ∧ W.ownsMap Tryz.prog K.ty (plainElem Tryz.prog 3) bm l.length D ∧ IsPl K D l
  ok : ∀ x ∈ l, K.ok x
  nod : l.Nodup
variable {K}
/-- The blocks of a series. -/
def SB (v m : Value) (k : Nat) : Prop := v.ownBlock = some k ∨ m = .map (some k)
theorem Ser.only {n0 : Nat} {W W' : World} {v m : Value} {l : List α} {R : Nat → Prop} (h : Ser K n0 W v m l) (ho : Only W W' R) (hn : ∀ k, SB v m k → ¬ R k) : Ser K n0 W' v m l := by
  refine ⟨row_only h.own ho (fun k hk => hn k (.inl hk)), ?_, h.ok, h.nod⟩
  rcases h.map with h1 | ⟨bm, D, rfl, hb, o, hp⟩
  · exact .inl h1
  · have hlt := o.lt
    obtain ⟨es, ck, h1, h2⟩ := o
    exact .inr ⟨bm, D, rfl, hb, ⟨es, ck, (ho.block bm hlt (hn bm (.inr rfl))).trans h1, h2⟩, hp⟩
theorem Ser.below {n0 : Nat} {W W' : World} {v m : Value} {l : List α} (h : Ser K n0 W v m l) (d : Below W.heap.size W W') : Ser K n0 W' v m l :=
  h.only (Only.ofBelow (R := fun _ => False) d) (fun _ _ h => h)
theorem Ser.lt {n0 : Nat} {W : World} {v m : Value} {l : List α} (h : Ser K n0 W v m l) : ∀ k, SB v m k → n0 ≤ k ∧ k < W.heap.size := by
  rintro k (hk | hk)
  · exact World.ownsRow.lt h.own k hk
  · rcases h.map with ⟨rfl, _⟩ | ⟨bm, D, rfl, hb, o, hp⟩
    · simp at hk
    · simp at hk; subst hk; exact ⟨hb, o.lt⟩
theorem Ser.nil (n0 : Nat) (W : World) : Ser K n0 W (.slice none 0 0) (.map none) [] := ⟨World.ownsRow_nil _ _ _ _, .inl ⟨rfl, rfl⟩, by simp, List.nodup_nil⟩
theorem lookup_at (w : World) {ops : Array Oper} {rest : List Oper} {o : Oper} {a : Act} {Q : Exit → Act → World → Prop} (hg : o.guard = none) (m x : Operand) (mt : TypeId) (hop : o.op = Op.lookup mt m x true)
    (ht : Tryz.prog.underlying mt = some (.map K.ty 3)) (b : Nat) (l : List α) (i : Nat) (hi : i < l.length) (D : DataW Unit) (hown : w.ownsMap Tryz.prog K.ty (plainElem Tryz.prog 3) b l.length D) (hp : IsPl K D l) (ho : K.ok l[i]) (hm : a.eval m = .map (some b)) (hx : a.eval x = K.val l[i])
    (hK : wpList Tryz.prog ops Q rest (a.put o.dst (.tuple #[.int .i64 (i : Int), .bool true])) w) : wpList Tryz.prog ops Q (o :: rest) a w := by
  refine wpList_lookup_own_ok_int _ hg m x mt hop K.ty 3 .i64 K.law ht Tryz.underlying3 (by kernel_rfl) b l.length D hm hown _ _ hx (K.kmk _ ho) ?_
  intro c hat hwc
  rw [hp.at_ i hi] at hat
  injection hat with e
  injection e with _ e
  rw [(hp.has _ ho).2 (List.getElem_mem hi), ← e]
  exact hK
theorem lookup_not (w : World) {ops : Array Oper} {rest : List Oper} {o : Oper} {a : Act} {Q : Exit → Act → World → Prop} (hg : o.guard = none) (m x : Operand) (mt : TypeId) (hop : o.op = Op.lookup mt m x true)
    (ht : Tryz.prog.underlying mt = some (.map K.ty 3)) (b : Nat) (l : List α) (s : α) (hs : s ∉ l) (D : DataW Unit) (hown : w.ownsMap Tryz.prog K.ty (plainElem Tryz.prog 3) b l.length D) (hp : IsPl K D l) (ho : K.ok s) (hm : a.eval m = .map (some b)) (hx : a.eval x = K.val s)
    (hK : ∀ c : Int, wpList Tryz.prog ops Q rest (a.put o.dst (.tuple #[.int .i64 c, .bool false])) w) : wpList Tryz.prog ops Q (o :: rest) a w := by
  refine wpList_lookup_own_ok_int _ hg m x mt hop K.ty 3 .i64 K.law ht Tryz.underlying3 (by kernel_rfl) b l.length D hm hown _ _ hx (K.kmk _ ho) ?_
  intro c hat hwc
  have : Maps.has D (K.key s) = false := by
    rw [Bool.eq_false_iff]; intro e; exact hs ((hp.has s ho).1 e)
  rw [this]
  exact hK c
/-- What a series is behind its new item. -/
theorem Ser.put {n0 b o bm t : Nat} {W w2 w4 : World} {C : Array Value} {v v' : Value} {l : List α} {s : α} {D : DataW Unit} (h : Ser K n0 W v (.map (some bm)) l) (hp : IsPl K D l) (hbm : n0 ≤ bm) (hm : W.ownsMap Tryz.prog K.ty (plainElem Tryz.prog 3) bm l.length D) (hs : s ∉ l) (hok : K.ok s)
    (hb : W.heap[b]? = some (.cells C t (0, 0))) (hbn : b < n0) (hm2 : w2.ownsMap Tryz.prog K.ty (plainElem Tryz.prog 3) bm (l.length + 1) (D.put (K.key s) (.lit (.int .i64 (l.length : Nat))))) (hg2 : W.grownBy w2 (some bm))
    (hg4 : w2.grownBy w4 v.ownBlock) (ho4 : w4.ownsRow n0 K.ty K.sz v' (l.length + 1) (l.flatMap K.cs ++ K.cs s)) :
    Ser K n0 (w4.setCell ⟨b, o, none⟩ v') v' (.map (some bm)) (l ++ [s]) ∧ (w4.setCell ⟨b, o, none⟩ v').heap[b]? = some (.cells (C.setIfInBounds o v') t (0, 0)) ∧ Only W (w4.setCell ⟨b, o, none⟩ v') (fun k => k = b ∨ SB v (.map (some bm)) k) := by
  have hblt : b < W.heap.size := (Array.getElem?_eq_some_iff.1 hb).1
  have hvb : some b ≠ v.ownBlock := fun e => by have := (h.own.lt b e.symm).1; omega
  have hvm : some bm ≠ v.ownBlock := fun e => by
    obtain ⟨es, ck, h1, _⟩ := hm
    rcases h.own.2 with ⟨rfl, _⟩ | ⟨g, cap, cur, rfl, _, hg, _⟩
    · simp [Value.ownBlock] at e
    · obtain rfl : bm = g := by simpa [Value.ownBlock] using e
      rw [hg] at h1; cases h1
  have hm4 := hm2.kept hg4 hvm
  have hb4 : w4.heap[b]? = some (.cells C t (0, 0)) := (hg4.block b (Nat.lt_of_lt_of_le hblt hg2.size) hvb).trans ((hg2.block b hblt (by simp; omega)).trans hb)
  refine ⟨⟨?_, .inr ⟨bm, D.put (K.key s) (.lit (.int .i64 (l.length : Nat))), rfl, hbm, ?_, ?_⟩, ?_, ?_⟩, heap_setCell_same w4 b o C t v' hb4, ?_⟩
  · rw [List.length_append, List.length_singleton, List.flatMap_append, List.flatMap_singleton]
    exact row_only ho4 (only_set w4 b o v') (fun k hk e => by have := (ho4.lt k hk).1; omega)
  · rw [List.length_append, List.length_singleton]
    obtain ⟨es, ck, h1, h2⟩ := hm4
    exact ⟨es, ck, ((only_set w4 b o v').block bm (Array.getElem?_eq_some_iff.1 h1).1 (by omega)).trans h1, h2⟩
  · exact hp.new h.ok hs hok
  · intro x hx
    rcases List.mem_append.1 hx with hx | hx
    · exact h.ok x hx
    · simp at hx; subst hx; exact hok
  · rw [List.nodup_append]
    exact ⟨h.nod, by simp, fun a ha b hb he => by simp at hb; subst hb; subst he; exact hs ha⟩
  · have o1 : Only W w2 (fun k => k = b ∨ SB v (.map (some bm)) k) := Only.grown hg2 (fun k hk => .inr (.inr (by cases hk; rfl)))
    exact (o1.trans (Only.grown hg4 (fun k hk => .inr (.inl hk)))).andNew (only_set w4 b o v') (fun i _ e => .inl e)
end
/-- Texts as items. -/
def kOf (s : ByteArray) : Lit := .string s.data.toList
theorem kOf_inj {s t : ByteArray} (h : kOf s = kOf t) : s = t := by
  cases s; cases t
  simp only [kOf, Lit.string.injEq] at h
  congr 1
  exact Array.toList_inj.1 h
def kText : Kd ByteArray where
  ty := 9
  sz := 1
  val := .string
  cs := fun s => [.string s]
  key := kOf
  ok := fun s => s.size ≤ 1048576
  kmk := fun s h => WideMaps.keyOf_string_mk Tryz.underlying9 (by unfold maxLen; omega)
  inj := fun _ _ _ _ h => kOf_inj h
  lit := fun _ => trivial
  len := fun _ => rfl
  one := fun s u hu => by obtain rfl := List.mem_singleton.1 hu; rfl
  law := string_keyed Tryz.underlying9
end Go.Proofs.YtmagchclmmphaabGreatDoor
namespace Go.Proofs.YtmagchclmmphaabGreatDoor
open Go.RowKit Go.Maps

/-- What add says of a new item. -/
def AddsTo {α : Type} (K : Kd α) (n0 : Nat) (w : World) (b o : Nat) (C : Array Value) (v m : Value) (l : List α) (s : α) (t : Nat) (w' : World) : Prop :=
  ∃ v' m', w'.heap[b]? = some (.cells ((C.setIfInBounds (o + 1) m').setIfInBounds o v') t (0, 0)) ∧ Ser K n0 w' v' m' (l ++ [s]) ∧ Only w w' (fun k => k = b ∨ SB v m k) ∧ (∀ k, SB v' m' k → SB v m k ∨ w.heap.size ≤ k)
theorem set_same {C : Array Value} {o : Nat} {v : Value} (h : C[o]? = some v) : C.setIfInBounds o v = C := by
  apply Array.ext_getElem?
  intro j
  by_cases e : o = j
  · subst e; rw [Array.getElem?_setIfInBounds_self_of_lt (Array.getElem?_eq_some_iff.1 h).1, h]
  · rw [Array.getElem?_setIfInBounds_ne e]

theorem teql_some (bm : Nat) (W : World) : (binOp .eql 87 (.map (some bm)) (.map none)).run Tryz.prog W = .ok (.bool false) W := by kernel_rfl
theorem teql_none (W : World) : (binOp .eql 87 (.map none) (.map none)).run Tryz.prog W = .ok (.bool true) W := by kernel_rfl
theorem tcells_new (w : World) (s : ByteArray) : ∀ (j : Nat) (u : Value), ([Value.string s])[j]? = some u → (w.alloc (.cells #[Value.string s] 9)).cell? ((⟨w.heap.size, 0, none⟩ : Addr).add j) = some u := by
  intro j u hu
  rw [Addr.add_lit, Nat.zero_add]
  refine cell_of (World.alloc_heap_new _ _) ?_
  rw [← hu]
  rw [List.getElem?_toArray]

set_option maxRecDepth 100000 in
set_option maxHeartbeats 1000000 in
theorem tadd_old (b o bm i : Nat) (v : Value) (l : List (ByteArray)) (n0 : Nat) (w : World) (h : Hid (Ser kText n0 w v (.map (some bm)) l)) (hi : i < l.length) (s : ByteArray) (HS : Hid (s = l[i])) (c1 : w.cell? ⟨b, o + 1, none⟩ = some (.map (some bm))) :
    Calls Tryz.prog 134 #[.pointer (some ⟨b, o, none⟩), .string s] w fun e w' => e = .returned (.int .i64 (i : Nat)) ∧ Below w.heap.size w w' := by
  obtain ⟨D, hm, hp⟩ : ∃ D, w.ownsMap Tryz.prog 9 (plainElem Tryz.prog 3) bm l.length D ∧ IsPl kText D l := by
    rcases h.out.map with ⟨e, _⟩ | ⟨bm', D, e, _, o, hp⟩
    · cases e
    · cases e; exact ⟨D, o, hp⟩
  have HX := hide (And.intro hm hp)
  have HO := hide (h.out.ok _ (List.getElem_mem hi))
  clear hm hp
  go_enter Tryz.func134, Tryz.ntmps134
  go_wp2_with (at_lookup; refine lookup_at (K := kText) _ rfl _ _ 87 rfl Tryz.underlying87 bm l i hi D HX.out.1 HX.out.2 HO.out rfl (by rw [← HS.out]; rfl) ?_)
  go_ret
  exact ⟨rfl, Below.refl _ _⟩

set_option maxRecDepth 100000 in
set_option maxHeartbeats 1000000 in
theorem tadd_new (b o bm : Nat) (v : Value) (l : List (ByteArray)) (s : ByteArray) (n0 : Nat) (C : Array Value) (w : World) (h : Hid (Ser kText n0 w v (.map (some bm)) l)) (hs : Hid (s ∉ l)) (hok : Hid (kText.ok s)) (hl : l.length ≤ 67108864)
    (hb : Hid (w.heap[b]? = some (.cells C 121 (0, 0)) ∧ C[o]? = some v ∧ C[o + 1]? = some (.map (some bm)))) (hbn : b < n0) :
    Calls Tryz.prog 134 #[.pointer (some ⟨b, o, none⟩), .string s] w fun e w' => e = .returned (.int .i64 (l.length : Nat)) ∧ AddsTo kText n0 w b o C v (.map (some bm)) l s 121 w' := by
  obtain ⟨i0, hi, hz0, hz1, hz2⟩ := info_parts info9
  obtain ⟨D, hbm, hm, hp⟩ : ∃ D, n0 ≤ bm ∧ w.ownsMap Tryz.prog 9 (plainElem Tryz.prog 3) bm l.length D ∧ IsPl kText D l := by
    rcases h.out.map with ⟨e, _⟩ | ⟨bm', D, e, hb, o, hp⟩
    · cases e
    · cases e; exact ⟨D, hb, o, hp⟩
  have hn0 : n0 ≤ w.heap.size := by have := hm.lt; omega
  have HX := hide (And.intro hm hp)
  have hblt : b < w.heap.size := (Array.getElem?_eq_some_iff.1 hb.out.1).1
  have c0 : w.cell? ⟨b, o, none⟩ = some v := cell_of hb.out.1 hb.out.2.1
  have c1 : w.cell? ⟨b, o + 1, none⟩ = some (.map (some bm)) := cell_of hb.out.1 hb.out.2.2
  obtain ⟨ao, cp, hv⟩ : ∃ ao cp, v = .slice ao l.length cp := by
    rcases h.out.own.2 with ⟨e, e2⟩ | ⟨g, cap, cur, e, _⟩
    · exact ⟨none, 0, by rw [e, e2]⟩
    · exact ⟨_, _, e⟩
  have HV := hide hv
  rw [hv] at c0
  have he := teql_some bm
  have hkey := kText.kmk s hok.out
  have HC := hide (fun (w5 : World) (hg5 : w.grownBy w5 (some bm)) => show w5.cell? ⟨b, o, none⟩ = some (.slice ao l.length cp) by
    rw [← HV.out]; exact cell_of ((hg5.block b hblt (by simp; omega)).trans hb.out.1) hb.out.2.1)
  have HOV := hide (fun (w5 : World) (hg5 : w.grownBy w5 (some bm)) => show w5.ownsRow n0 9 1 (.slice ao l.length cp) l.length (l.flatMap kText.cs) by
    rw [← HV.out]
    refine row_only (R := fun k => k = bm) h.out.own (Only.grown hg5 (fun k hk => by cases hk; rfl)) (fun k hk e => ?_)
    subst e
    obtain ⟨es, ck, q1, _⟩ := HX.out.1
    rcases h.out.own.2 with ⟨e, _⟩ | ⟨g, cap, cur, e, _, hg, _⟩
    · rw [e] at hk; cases hk
    · rw [e] at hk
      obtain rfl : g = k := by simpa [Value.ownBlock] using hk
      rw [hg] at q1; cases q1)
  clear hm hp hv
  go_enter Tryz.func134, Tryz.ntmps134
  go_wp2_with (first
    | (at_lookup; refine lookup_not (K := kText) _ rfl _ _ 87 rfl Tryz.underlying87 bm l s hs.out D HX.out.1 HX.out.2 hok.out rfl rfl ?_; intro c)
    | (at_mapUpdate; refine wpList_mapUpdate_own _ rfl _ _ _ 87 rfl 9 3 kText.law Tryz.underlying87 _ bm l.length D rfl HX.out.1 (by unfold maxLen; omega) _ _ _ rfl rfl hkey _ [] (plainElem_int Tryz.underlying3 (WalkArith.wf_i64 (by omega))) ?_; intro w5 hm5 hg5; have c05 := HC.out w5 hg5; have HG5 := hide (And.intro hm5 hg5); clear hm5 hg5)
    | (at_builtin; refine wpList_append_own_at _ rfl _ _ _ rfl n0 9 i0 _ 1 16 Tryz.underlying26 hi hz0 hz1 hz2 rfl (by omega) (.slice ao l.length cp) l.length (l.flatMap kText.cs) rfl ((HOV.out w5 HG5.out.2).alloc _) ⟨w5.heap.size, 0, none⟩ 1 1 ([Value.string s]) rfl rfl (tcells_new _ s) (kText.one s) (by unfold maxLen; omega) (by omega) (by have := HG5.out.2.size; simp; omega) ?_))
  have hs5 := HG5.out.2.size
  have hb5 : w5.heap[b]? = some (.cells C 121 (0, 0)) := (HG5.out.2.block b hblt (by simp; omega)).trans hb.out.1
  have HM := hide (And.intro HG5.out.1 (And.intro HG5.out.2 hb5))
  intro v' w6 ho hgr hnil hloc
  obtain ⟨gv, cv, rfl, _, _⟩ := ho.form (by omega)
  have hgr2 : w5.grownBy w6 v.ownBlock := by rw [HV.out]; exact (World.grownBy_alloc _ _ _).trans hgr
  have hvb : some b ≠ v.ownBlock := fun e => by have := (h.out.own.lt b e.symm).1; omega
  have hb6 : w6.heap[b]? = some (.cells C 121 (0, 0)) := (hgr2.block b (by omega) hvb).trans HM.out.2.2
  have hu : w6.cell? ⟨b, o, none⟩ = some v := cell_of hb6 hb.out.2.1
  have hfz : w6.frozen? ⟨b, o, none⟩ = false := by simp [World.frozen?, hb6]
  have HF := hide (And.intro ho (And.intro hgr2 hloc))
  clear ho hgr hgr2 hnil hloc hb6 c05 hb5
  go_wp2
  go_ret
  obtain ⟨ho, hgr2, hloc⟩ := HF.out
  obtain ⟨p1, p2, p3⟩ := Ser.put (o := o) h.out HX.out.2 hbm HX.out.1 hs.out hok.out hb.out.1 hbn HM.out.1 HM.out.2.1 hgr2 ho
  refine ⟨rfl, _, .map (some bm), ?_, p1, p3, ?_⟩
  · rw [set_same hb.out.2.2]; exact p2
  · rintro k (hk | hk)
    · rcases hloc with e | e
      · exact .inl (.inl (by rw [HV.out, ← e]; exact hk))
      · right
        rw [e] at hk
        simp at hk
        omega
    · exact .inl (.inr hk)

set_option maxRecDepth 100000 in
set_option maxHeartbeats 1000000 in
theorem tadd_first (b o : Nat) (v : Value) (s : ByteArray) (n0 : Nat) (C : Array Value) (w : World) (h : Hid (Ser kText n0 w v (.map none) [])) (hok : Hid (kText.ok s))
    (hb : Hid (w.heap[b]? = some (.cells C 121 (0, 0)) ∧ C[o]? = some v ∧ C[o + 1]? = some (.map none))) (hbn : b < n0) (hn0 : n0 ≤ w.heap.size) :
    Calls Tryz.prog 134 #[.pointer (some ⟨b, o, none⟩), .string s] w fun e w' => e = .returned (.int .i64 0) ∧ AddsTo kText n0 w b o C v (.map none) [] s 121 w' := by
  obtain ⟨i0, hi, hz0, hz1, hz2⟩ := info_parts info9
  have hblt : b < w.heap.size := (Array.getElem?_eq_some_iff.1 hb.out.1).1
  have c0 : w.cell? ⟨b, o, none⟩ = some v := cell_of hb.out.1 hb.out.2.1
  have c1 : w.cell? ⟨b, o + 1, none⟩ = some (.map none) := cell_of hb.out.1 hb.out.2.2
  have f1 : w.frozen? ⟨b, o + 1, none⟩ = false := by simp [World.frozen?, hb.out.1]
  obtain ⟨ao, cp, hv⟩ : ∃ ao cp, v = .slice ao 0 cp := by
    rcases h.out.own.2 with ⟨e, e2⟩ | ⟨g, cap, cur, e, _⟩
    · exact ⟨none, 0, by rw [e]⟩
    · exact ⟨_, _, e⟩
  have HV := hide hv
  have hkey := kText.kmk s hok.out
  have hlook : ∀ W : World, (Instr.lookup 87 (.map none) (.string s) true).run Tryz.prog W = .ok (.tuple #[.int .i64 0, .bool false]) W := fun W => Maps.look_nil true kText.law Tryz.underlying87 (z := .int .i64 0) (by kernel_rfl) hkey
  have he := teql_none
  rw [hv] at c0
  clear hv
  have hzs : (w.setCell ⟨b, o + 1, none⟩ (.map (some w.heap.size))).heap.size = w.heap.size := by simp [World.setCell]
  obtain ⟨W1, hW1⟩ : ∃ W1, (w.setCell ⟨b, o + 1, none⟩ (.map (some w.heap.size))).alloc (.map #[] 0) = W1 := ⟨_, rfl⟩
  have hA : Below w.heap.size w (w.alloc (.map #[] 0)) := (Below.refl _ _).alloc (Nat.le_refl _) _
  have hbA : (w.alloc (.map #[] 0)).heap[b]? = some (.cells C 121 (0, 0)) := (hA.block b hblt).trans hb.out.1
  have hb1 : W1.heap[b]? = some (.cells (C.setIfInBounds (o + 1) (.map (some w.heap.size))) 121 (0, 0)) := by rw [← hW1]; exact (Below.heap_alloc _ _ b (by omega)).trans (heap_setCell_same _ b (o + 1) C 121 _ hb.out.1)
  have hC0 : (C.setIfInBounds (o + 1) (.map (some w.heap.size)))[o]? = some v := by rw [Array.getElem?_setIfInBounds_ne (by omega)]; exact hb.out.2.1
  have hC1 : (C.setIfInBounds (o + 1) (.map (some w.heap.size)))[o + 1]? = some (.map (some w.heap.size)) := by
    rw [Array.getElem?_setIfInBounds_self_of_lt]
    exact (Array.getElem?_eq_some_iff.1 hb.out.2.2).1
  have d01 : W1.cell? ⟨b, o, none⟩ = some (.slice ao 0 cp) := by rw [← HV.out]; exact cell_of hb1 hC0
  have d11 : W1.cell? ⟨b, o + 1, none⟩ = some (.map (some w.heap.size)) := cell_of hb1 hC1
  have hO1 : Only w W1 (fun k => k = b) := by rw [← hW1]; exact (only_set w b (o + 1) _).trans (Only.ofBelow ((Below.refl _ _).alloc (Nat.le_refl _) _))
  have hz1' : W1.heap.size = w.heap.size + 1 := by rw [← hW1]; simp [World.setCell]
  have hm1 : W1.ownsMap Tryz.prog 9 (plainElem (H := Unit) Tryz.prog 3) w.heap.size 0 (.map []) := by
    rw [← hW1]
    have := World.ownsMap_made (w.setCell ⟨b, o + 1, none⟩ (.map (some w.heap.size))) Tryz.prog 9 (plainElem (H := Unit) Tryz.prog 3)
    rwa [hzs] at this
  have hS1 : Ser kText n0 W1 v (.map (some w.heap.size)) [] := ⟨row_only h.out.own hO1 (fun k hk e => by have := (h.out.own.lt k hk).1; omega), .inr ⟨_, _, rfl, hn0, hm1, isPl_nil kText⟩, by simp, List.nodup_nil⟩
  have HM1 := hide hm1
  have HS1 := hide hS1
  have HB1 := hide (And.intro hb1 (And.intro hC0 hC1))
  have HO1 := hide hO1
  have HA := hide hbA
  have hlt1 : b < W1.heap.size := by omega
  have HC := hide (fun (w5 : World) (hg5 : W1.grownBy w5 (some w.heap.size)) => show w5.cell? ⟨b, o, none⟩ = some (.slice ao 0 cp) by
    rw [← HV.out]; exact cell_of ((hg5.block b hlt1 (by simp; omega)).trans hb1) hC0)
  have HOV := hide (fun (w5 : World) (hg5 : W1.grownBy w5 (some w.heap.size)) => show w5.ownsRow n0 9 1 (.slice ao 0 cp) 0 [] by
    rw [← HV.out]
    exact row_only (R := fun k => k = w.heap.size) HS1.out.own (Only.grown hg5 (fun k hk => by cases hk; rfl)) (fun k hk e => by have := (h.out.own.lt k hk).2; omega))
  clear hm1 hS1 hb1 hC0 hC1 hO1 hA hbA
  have hmk : ∀ W : World, (Instr.makeMap 87 none).run Tryz.prog W = .ok (.map (some W.heap.size)) (W.alloc (.map #[] 0)) := fun W => by simp [Instr.makeMap]
  have fA : (w.alloc (.map #[] 0)).frozen? ⟨b, o + 1, none⟩ = false := by simp [World.frozen?, HA.out]
  have cA : (w.alloc (.map #[] 0)).cell? ⟨b, o + 1, none⟩ = some (.map none) := cell_of HA.out hb.out.2.2
  subst hW1
  clear c0
  go_enter Tryz.func134, Tryz.ntmps134
  go_wp2_with (first
    | (at_mapUpdate; refine wpList_mapUpdate_own _ rfl _ _ _ 87 rfl 9 3 kText.law Tryz.underlying87 _ w.heap.size 0 (.map []) rfl HM1.out (by unfold maxLen; omega) _ _ _ rfl rfl hkey _ [] (plainElem_int Tryz.underlying3 (WalkArith.wf_i64 (by omega))) ?_; intro w5 hm5 hg5; have c05 := HC.out w5 hg5; have HG5 := hide (And.intro hm5 hg5); clear hm5 hg5)
    | (at_builtin; refine wpList_append_own_at _ rfl _ _ _ rfl n0 9 i0 _ 1 16 Tryz.underlying26 hi hz0 hz1 hz2 rfl (by omega) (.slice ao 0 cp) 0 [] rfl ((HOV.out w5 HG5.out.2).alloc _) ⟨w5.heap.size, 0, none⟩ 1 1 ([Value.string s]) rfl rfl (tcells_new _ s) (kText.one s) (by unfold maxLen; omega) (by omega) (by have := HG5.out.2.size; simp at this ⊢; omega) ?_))
  have hs5 := HG5.out.2.size
  have hb5 : w5.heap[b]? = some (.cells (C.setIfInBounds (o + 1) (.map (some w.heap.size))) 121 (0, 0)) := (HG5.out.2.block b hlt1 (by simp; omega)).trans HB1.out.1
  have HM := hide hb5
  intro v' w6 ho hgr hnil hloc
  obtain ⟨gv, cv, rfl, _, _⟩ := ho.form (by omega)
  have hgr2 : w5.grownBy w6 v.ownBlock := by rw [HV.out]; exact (World.grownBy_alloc _ _ _).trans hgr
  have hvb : some b ≠ v.ownBlock := fun e => by have := (h.out.own.lt b e.symm).1; omega
  have hb6 : w6.heap[b]? = some (.cells (C.setIfInBounds (o + 1) (.map (some w.heap.size))) 121 (0, 0)) := (hgr2.block b (by omega) hvb).trans HM.out
  have hu : w6.cell? ⟨b, o, none⟩ = some v := cell_of hb6 HB1.out.2.1
  have hfz : w6.frozen? ⟨b, o, none⟩ = false := by simp [World.frozen?, hb6]
  have HF := hide (And.intro ho (And.intro hgr2 hloc))
  clear ho hgr hgr2 hnil hloc hb6 c05 hb5
  go_wp2
  go_ret
  obtain ⟨ho, hgr2, hloc⟩ := HF.out
  obtain ⟨p1, p2, p3⟩ := Ser.put (o := o) HS1.out (isPl_nil kText) hn0 HM1.out (by simp) hok.out HB1.out.1 hbn HG5.out.1 HG5.out.2 hgr2 ho
  refine ⟨rfl, _, .map (some w.heap.size), p2, p1, ?_, ?_⟩
  · refine (HO1.out.mono (fun k _ e => .inl e)).andNew p3 (fun k hk e => ?_)
    rcases e with e | e | e
    · exact .inl e
    · exact .inr (.inl e)
    · simp at e; omega
  · rintro k (hk | hk)
    · rcases hloc with e | e
      · exact .inl (.inl (by rw [HV.out, ← e]; exact hk))
      · right
        rw [e] at hk
        simp at hk hs5
        omega
    · right; simp at hk; omega
end Go.Proofs.YtmagchclmmphaabGreatDoor
namespace Go.Proofs.YtmagchclmmphaabGreatDoor
open Go.RowKit Go.Maps

theorem laidOut : laidOutB Tryz.prog = true := by kernel_rfl
theorem row51 : (66 : TypeId) < Tryz.prog.types.size := of_decide_eq_true (by kernel_rfl)
theorem wide51 : (match Tryz.prog.underlying 66 with | some (.array _ _) | some (.struct _) => true | _ => false) = true := by rw [Tryz.underlying66]
set_option maxRecDepth 100000 in
theorem law51 : Keyed Tryz.prog 66 := Keyed.of_law (deep_law_laid laidOut (m := 2) (by omega) row51 (by kernel_rfl) wide51)
theorem row53 : (68 : TypeId) < Tryz.prog.types.size := of_decide_eq_true (by kernel_rfl)
theorem wide53 : (match Tryz.prog.underlying 68 with | some (.array _ _) | some (.struct _) => true | _ => false) = true := by rw [Tryz.underlying68]
set_option maxRecDepth 100000 in
theorem law53 : Keyed Tryz.prog 68 := Keyed.of_law (deep_law_laid laidOut (m := 2) (by omega) row53 (by kernel_rfl) wide53)
theorem keyTy51 : Tryz.prog.keyType 66 = true := by kernel_rfl
theorem keyTy53 : Tryz.prog.keyType 68 = true := by kernel_rfl
theorem cells51 : Tryz.prog.cellsOf 66 = 2 := by kernel_rfl
theorem cells53 : Tryz.prog.cellsOf 68 = 3 := by kernel_rfl
theorem cells9 : Tryz.prog.cellsOf 9 = 1 := by kernel_rfl
theorem cells3 : Tryz.prog.cellsOf 3 = 1 := by kernel_rfl
theorem key_op {P : Program} {k a b : TypeId} {f1 f2 : Field} (hu : P.underlying k = some (.struct #[f1, f2])) (n1 : (f1.name != "_") = true) (n2 : (f2.name != "_") = true) (t1 : f1.type = a) (t2 : f2.type = b) (o1 : f1.offset = 0) (o2 : f2.offset = 1)
    (ua : P.underlying a = some .string) (ub : P.underlying b = some (.int .i64)) (ca : P.cellsOf a = 1) (cb : P.cellsOf b = 1) (ck : P.cellsOf k = 2) (hkt : P.keyType k = true) (hk0 : k < P.types.size) (p : ByteArray) (r : Int)
    (w1 : p.size ≤ maxLen) (w2 : (Lit.int .i64 r).wf = true) : keyOf P k (.agg #[.string p, .int .i64 r]) = some (.string (keyBytes [.string p.data.toList, .int .i64 r])) := by
  obtain ⟨n, hn⟩ : ∃ n, P.types.size = n + 1 := ⟨P.types.size - 1, (Nat.sub_add_cancel (Nat.lt_of_le_of_lt (Nat.zero_le _) hk0)).symm⟩
  unfold keyOf
  rw [hu]
  simp only [hkt, Value.formed, hu, ck, Value.cells, hn, Program.keyLits]
  simp [n1, n2, t1, t2, o1, o2, ua, ub, ca, cb, w1, w2]
theorem key_rule {P : Program} {k a : TypeId} {f1 f2 f3 : Field} (hu : P.underlying k = some (.struct #[f1, f2, f3])) (n1 : (f1.name != "_") = true) (n2 : (f2.name != "_") = true) (n3 : (f3.name != "_") = true) (t1 : f1.type = a) (t2 : f2.type = a) (t3 : f3.type = a) (o1 : f1.offset = 0) (o2 : f2.offset = 1) (o3 : f3.offset = 2)
    (ua : P.underlying a = some .string) (ca : P.cellsOf a = 1) (ck : P.cellsOf k = 3) (hkt : P.keyType k = true) (hk0 : k < P.types.size) (p q r : ByteArray)
    (w1 : p.size ≤ maxLen) (w2 : q.size ≤ maxLen) (w3 : r.size ≤ maxLen) : keyOf P k (.agg #[.string p, .string q, .string r]) = some (.string (keyBytes [.string p.data.toList, .string q.data.toList, .string r.data.toList])) := by
  obtain ⟨n, hn⟩ : ∃ n, P.types.size = n + 1 := ⟨P.types.size - 1, (Nat.sub_add_cancel (Nat.lt_of_le_of_lt (Nat.zero_le _) hk0)).symm⟩
  unfold keyOf
  rw [hu]
  simp only [hkt, Value.formed, hu, ck, Value.cells, hn, Program.keyLits]
  simp [n1, n2, n3, t1, t2, t3, o1, o2, o3, ua, ca, w1, w2, w3]
/-- An op: its name and its arity. -/
abbrev OpT := ByteArray × Nat
def opV (s : OpT) : Value := .agg #[.string s.1, .int .i64 (s.2 : Nat)]
def kOp (s : OpT) : Lit := .string (keyBytes [.string s.1.data.toList, .int .i64 (s.2 : Nat)])
def okOp (s : OpT) : Prop := s.1.size ≤ 1048576 ∧ s.2 ≤ 1048576
theorem keyOp (s : OpT) (h : okOp s) : keyOf Tryz.prog 66 (opV s) = some (kOp s) := by
  obtain ⟨p, r⟩ := s
  obtain ⟨h1, h2⟩ := h
  simp only at h1 h2
  exact key_op Tryz.underlying66 (by decide) (by decide) rfl rfl rfl rfl Tryz.underlying9 Tryz.underlying3 cells9 cells3 cells51 keyTy51 row51 p r (by unfold maxLen; omega) (WalkArith.wf_i64 (by omega))
theorem kOp_inj (s t : OpT) (hs : okOp s) (ht : okOp t) (h : kOp s = kOp t) : s = t := by
  have := law51.inj (keyOp s hs) (by rw [h]; exact keyOp t ht)
  obtain ⟨p, r⟩ := s
  obtain ⟨p', r'⟩ := t
  simp only [opV, Value.agg.injEq, Array.mk.injEq, List.cons.injEq, Value.int.injEq, Value.string.injEq, true_and, and_true] at this
  exact Prod.ext this.1 (by simp only; omega)
def kOps : Kd OpT where
  ty := 66
  sz := 2
  val := opV
  cs := fun s => [.string s.1, .int .i64 (s.2 : Nat)]
  key := kOp
  ok := okOp
  kmk := keyOp
  inj := kOp_inj
  lit := fun _ => trivial
  len := fun _ => rfl
  one := fun s u hu => by
    simp only [List.mem_cons, List.not_mem_nil, or_false] at hu
    rcases hu with rfl | rfl <;> rfl
  law := law51
/-- A rule: its op, from where, to where. -/
abbrev RuT := ByteArray × ByteArray × ByteArray
def ruV (s : RuT) : Value := .agg #[.string s.1, .string s.2.1, .string s.2.2]
def kRu (s : RuT) : Lit := .string (keyBytes [.string s.1.data.toList, .string s.2.1.data.toList, .string s.2.2.data.toList])
def okRu (s : RuT) : Prop := s.1.size ≤ 1048576 ∧ s.2.1.size ≤ 1048576 ∧ s.2.2.size ≤ 1048576
theorem keyRu (s : RuT) (h : okRu s) : keyOf Tryz.prog 68 (ruV s) = some (kRu s) := by
  obtain ⟨p, q, r⟩ := s
  obtain ⟨h1, h2, h3⟩ := h
  simp only at h1 h2 h3
  exact key_rule Tryz.underlying68 (by decide) (by decide) (by decide) rfl rfl rfl rfl rfl rfl Tryz.underlying9 cells9 cells53 keyTy53 row53 p q r (by unfold maxLen; omega) (by unfold maxLen; omega) (by unfold maxLen; omega)
theorem kRu_inj (s t : RuT) (hs : okRu s) (ht : okRu t) (h : kRu s = kRu t) : s = t := by
  have := law53.inj (keyRu s hs) (by rw [h]; exact keyRu t ht)
  obtain ⟨p, q, r⟩ := s
  obtain ⟨p', q', r'⟩ := t
  simp only [ruV, Value.agg.injEq, Array.mk.injEq, List.cons.injEq, Value.string.injEq, and_true] at this
  exact Prod.ext this.1 (Prod.ext this.2.1 this.2.2)
def kRules : Kd RuT where
  ty := 68
  sz := 3
  val := ruV
  cs := fun s => [.string s.1, .string s.2.1, .string s.2.2]
  key := kRu
  ok := okRu
  kmk := keyRu
  inj := kRu_inj
  lit := fun _ => trivial
  len := fun _ => rfl
  one := fun s u hu => by
    simp only [List.mem_cons, List.not_mem_nil, or_false] at hu
    rcases hu with rfl | rfl | rfl <;> rfl
  law := law53
theorem info51 : (Tryz.prog.info? 66).map (fun i => (i.zero, i.size, i.bytes)) = some (some (.agg #[.string ⟨#[]⟩, .int .i64 0]), 2, 24) := by kernel_rfl
theorem info53 : (Tryz.prog.info? 68).map (fun i => (i.zero, i.size, i.bytes)) = some (some (.agg #[.string ⟨#[]⟩, .string ⟨#[]⟩, .string ⟨#[]⟩]), 3, 48) := by kernel_rfl
end Go.Proofs.YtmagchclmmphaabGreatDoor
namespace Go.Proofs.YtmagchclmmphaabGreatDoor
open Go.RowKit Go.Maps

/-! ### Marks, and lists that are grown -/
/-- A mark of three bytes. -/
def mkL3 (a i : Nat) : List UInt8 := [UInt8.ofNat a, UInt8.ofNat (i / 256), UInt8.ofNat (i % 256)]
def mk3 (a i : Nat) : ByteArray := ⟨(mkL3 a i).toArray⟩
/-- The cells of its bytes. -/
def mkC (a i : Nat) : Array Value := #[.int .u8 (a : Int), .int .u8 (((i / 256) % 256 : Nat) : Int), .int .u8 ((i % 256 : Nat) : Int)]
theorem conv3 (w : World) (a i : Nat) (ha : a < 256) : (convert 82 9 (.slice (some ⟨w.heap.size, 0, none⟩) 3 3)).run Tryz.prog (w.alloc (.cells (mkC a i) 5)) = .ok (.string (mk3 a i)) (w.alloc (.cells (mkC a i) 5)) := by
  have h := run_convert_bytes_back (P := Tryz.prog) (w.alloc (.cells (mkC a i) 5)) 82 9 5 ⟨w.heap.size, 0, none⟩ 3 (mkL3 a i) Tryz.underlying82 Tryz.underlying5 Tryz.underlying9 (fun j hj => by
    rw [Addr.add_lit, Nat.zero_add, World.cell?_alloc_at _ _ _ _ rfl]
    have e0 : ((UInt8.ofNat a).toNat : Int) = (a : Int) := by simp only [UInt8.toNat_ofNat']; omega
    have e1 : ((UInt8.ofNat (i / 256)).toNat : Int) = ((i / 256 % 256 : Nat) : Int) := by simp only [UInt8.toNat_ofNat']
    have e2 : ((UInt8.ofNat (i % 256)).toNat : Int) = ((i % 256 : Nat) : Int) := by simp only [UInt8.toNat_ofNat']; omega
    match j, hj with
    | 0, _ => simp only [mkC, mkL3, List.getElem_cons_zero, e0]; rfl
    | 1, _ => simp only [mkC, mkL3, List.getElem_cons_succ, List.getElem_cons_zero, e1]; rfl
    | 2, _ => simp only [mkC, mkL3, List.getElem_cons_succ, List.getElem_cons_zero, e2]; rfl)
  exact h
/-- The numbers that the program reckons. -/
theorem mk_nums (i : Nat) (hi : i ≤ 4194304) : (i : Int).tdiv 256 = ((i / 256 : Nat) : Int) ∧ (i : Int).tmod 256 = ((i % 256 : Nat) : Int) ∧ IntKind.u8.wrap (((i / 256 : Nat) : Int)) = (((i / 256) % 256 : Nat) : Int) ∧ IntKind.u8.wrap (((i % 256 : Nat) : Int)) = ((i % 256 : Nat) : Int) := by
  refine ⟨?_, ?_, ?_, ?_⟩
  · rw [Int.tdiv_eq_ediv_of_nonneg (by omega)]; omega
  · rw [Int.tmod_eq_emod_of_nonneg (by omega)]; omega
  · rw [IntKind.wrap_u8]; omega
  · rw [IntKind.wrap_u8]; omega
/-- append of one item: in its row, or in a new block, and then nothing that was there has turned. -/
theorem app_gen {T e : TypeId} {sz bytes : Nat} {i : TypeInfo} {z : Value} (hT : Tryz.prog.underlying T = some (.slice e)) (hi : Tryz.prog.info? e = some i) (hz0 : i.zero = some z) (hz1 : i.size = sz) (hz2 : i.bytes = bytes) (hzs : z.cells.size = sz) (hsz : 0 < sz) (hby : bytes ≤ 48)
    (w : World) (ty : TypeId) (v : Value) (n : Nat) (xs ys : List Value) (hown : w.ownsRow 0 e sz v n xs) (ad : Addr) (hys : ys.length = 1 * sz) (hnews : ∀ j u, ys[j]? = some u → w.cell? (ad.add j) = some u) (hone : ∀ u ∈ ys, u.oneCell' = true) (hl : n ≤ 4194304) :
    ∃ gv cv w', (Builtin.append_ #[T, T] ty #[v, .slice (some ad) 1 1]).run Tryz.prog w = .ok (.slice (some ⟨gv, 0, none⟩) (n + 1) cv) w' ∧ w'.ownsRow 0 e sz (.slice (some ⟨gv, 0, none⟩) (n + 1) cv) (n + 1) (xs ++ ys) ∧
      ((v.ownBlock = some gv ∧ w.grownBy w' (some gv)) ∨ (gv = w.heap.size ∧ w.grownBy w' none)) := by
  have hb48 : (n + 1) * bytes ≤ (n + 1) * 48 := Nat.mul_le_mul_left _ hby
  obtain ⟨v', w', hr, h2, h3, _, h4⟩ := run_append_own_at (P := Tryz.prog) w 0 T ty e i z sz bytes hT hi hz0 hz1 hz2 hzs hsz v n xs hown ad 1 1 ys hys hnews hone (by unfold maxLen; omega) (by omega) (Nat.zero_le _)
  obtain ⟨gv, cv, rfl, _, _⟩ := h2.form (by omega)
  refine ⟨gv, cv, w', hr, h2, ?_⟩
  rcases hown.2 with ⟨rfl, hn⟩ | ⟨g, cap, cur, rfl, hb, hg, hnc, hcm, hcs, htake⟩
  · right
    refine ⟨?_, h3⟩
    rcases h4 with e | e
    · simp [Value.ownBlock] at e
    · simpa [Value.ownBlock] using e
  · by_cases hroom : n + 1 ≤ cap
    · left
      have hr2 := run_append_room (P := Tryz.prog) w T ty e i hT hi g n cap cur hg ad 1 1 ys (by rw [hz1]; exact hys) hnews hone hroom (by rw [hz1, hys]; have : (n + 1) * sz ≤ cap * sz := Nat.mul_le_mul_right _ hroom; rw [Nat.add_mul] at this; omega)
      rw [hr] at hr2
      simp only [Result.ok.injEq, Value.slice.injEq, Option.some.injEq, Addr.mk.injEq] at hr2
      have e : gv = g := hr2.1.1.1
      subst e
      exact ⟨rfl, h3⟩
    · right
      have holds : ∀ j u, xs[j]? = some u → w.cell? ((⟨g, 0, none⟩ : Addr).add j) = some u := World.ownsRow.cells hown (g := g) rfl
      have hr2 := run_append_grow (P := Tryz.prog) w T ty e i _ hT hi hz0 ⟨g, 0, none⟩ n cap xs (by rw [hz1]; exact hown.1) holds ad 1 1 ys (by rw [hz1]; exact hys) hnews (by omega) (by omega) (growslice_fits (by omega) (by rw [hz2]; omega))
      rw [hr] at hr2
      simp only [Result.ok.injEq, Value.slice.injEq, Option.some.injEq, Addr.mk.injEq] at hr2
      refine ⟨hr2.1.1.1, ?_⟩
      rw [hr2.2]
      exact ⟨rfl, rfl, rfl, by simp, fun k hk _ => Below.heap_alloc w.drew _ k hk⟩
end Go.Proofs.YtmagchclmmphaabGreatDoor
namespace Go.Proofs.YtmagchclmmphaabGreatDoor
open Go.RowKit Go.Maps

/-! ### Several rows that are written full, then grown -/
/-- The first i of a list are marks. -/
def gx {α : Type} (m : Nat → α) (d : α) (L : List α) (i : Nat) : List α := (List.range L.length).map fun j => if j < i then m j else L.getD j d
theorem gx_len {α : Type} (m : Nat → α) (d : α) (L : List α) (i : Nat) : (gx m d L i).length = L.length := by simp [gx]
theorem gx_zero {α : Type} (m : Nat → α) (d : α) (L : List α) : gx m d L 0 = L := by
  apply List.ext_getElem
  · simp [gx]
  · intro j h1 h2
    simp [gx, h2]
theorem gx_set {α : Type} (m : Nat → α) (d : α) (L : List α) (i : Nat) : (gx m d L i).set i (m i) = gx m d L (i + 1) := by
  apply List.ext_getElem
  · simp [gx]
  · intro j h1 h2
    have hj : j < L.length := by simpa [gx] using h2
    rw [List.getElem_set]
    by_cases e : i = j
    · subst e; simp [gx]
    · rw [if_neg e]
      simp only [gx, List.getElem_map, List.getElem_range]
      by_cases h : j < i
      · rw [if_pos h, if_pos (by omega)]
      · rw [if_neg h, if_neg (by omega)]
def g4 {α : Type} (p q r s : α) : Nat → α
  | 0 => p
  | 1 => q
  | 2 => r
  | _ => s
def g5 {α : Type} (p q r s t : α) : Nat → α
  | 0 => p
  | 1 => q
  | 2 => r
  | 3 => s
  | _ => t
def upd {α : Type} (a : Nat → α) (i : Nat) (y : α) : Nat → α := fun j => if j = i then y else a j
theorem upd4_0 {α : Type} (p q r s y : α) : upd (g4 p q r s) 0 y = g4 y q r s := by funext j; match j with | 0 => rfl | 1 => rfl | 2 => rfl | _ + 3 => rfl
theorem upd4_1 {α : Type} (p q r s y : α) : upd (g4 p q r s) 1 y = g4 p y r s := by funext j; match j with | 0 => rfl | 1 => rfl | 2 => rfl | _ + 3 => rfl
theorem upd4_2 {α : Type} (p q r s y : α) : upd (g4 p q r s) 2 y = g4 p q y s := by funext j; match j with | 0 => rfl | 1 => rfl | 2 => rfl | _ + 3 => rfl
/-- A slice's cells read as a list. -/
def Rv (W : World) (v : Value) (xs : List Value) : Prop := ∀ g, v.ownBlock = some g → ∀ j (h : j < xs.length), W.cell? ⟨g, j, none⟩ = some xs[j]
theorem rv_of {W : World} {B e sz n : Nat} {v : Value} {xs : List Value} (h : W.ownsRow B e sz v n xs) : Rv W v xs := fun g hg j hj => by
  have := h.cells hg j xs[j] (List.getElem?_eq_getElem hj)
  rwa [Addr.add_lit, Nat.zero_add] at this
theorem Rv.only {W W' : World} {v : Value} {xs : List Value} {R : Nat → Prop} (h : Rv W v xs) (o : Only W W' R) (hn : ∀ k, v.ownBlock = some k → ¬ R k) : Rv W' v xs := fun g hg j hj => by
  have c := h g hg j hj
  exact (World.cell?_of_block (w := W) (o.block g (World.block_lt_of_cell? W _ c) (hn g hg))).trans c
/-- What never changes: the rows lie in memory that was there, apart; the boxes lie in new memory. -/
structure Gst (w : World) (N : Nat) (v : Nat → Value) (bx : List (Nat × Array Value × TypeId)) : Prop where
  lt : ∀ i, i < N → ∀ k, (v i).ownBlock = some k → k < w.heap.size
  ap : ∀ i j, i < N → j < N → i ≠ j → ∀ k, (v i).ownBlock = some k → (v j).ownBlock ≠ some k
  bge : ∀ q ∈ bx, w.heap.size ≤ q.1
/-- While they are filled: of row i the first a i cells are marks. -/
structure Gf (w W : World) (N : Nat) (v : Nat → Value) (bx : List (Nat × Array Value × TypeId)) (e sz n : Nat → Nat) (mk : Nat → Nat → Value) (x : Nat → List Value) (a : Nat → Nat) : Prop where
  b : ∀ q ∈ bx, W.heap[q.1]? = some (.cells q.2.1 q.2.2 (0, 0))
  on : Only w W (fun k => ∃ i, i < N ∧ (v i).ownBlock = some k)
  r : ∀ i, i < N → W.ownsRow 0 (e i) (sz i) (v i) (n i) (gx (mk i) undef (x i) (a i))
section
variable {w W W' : World} {N : Nat} {v : Nat → Value} {bx : List (Nat × Array Value × TypeId)} {e sz n : Nat → Nat} {mk : Nat → Nat → Value} {x : Nat → List Value} {a : Nat → Nat}
theorem Gf.below (h : Gf w W N v bx e sz n mk x a) (d : Below W.heap.size W W') : Gf w W' N v bx e sz n mk x a :=
  ⟨fun q hq => (d.block _ (Array.getElem?_eq_some_iff.1 (h.b q hq)).1).trans (h.b q hq), h.on.trans (Only.ofBelow d), fun i hi => owns_below (h.r i hi) d⟩
theorem Gf.put (s : Gst w N v bx) (h : Gf w W N v bx e sz n mk x a) (i : Nat) (hi : i < N) {g cap m : Nat} (hv : v i = .slice (some ⟨g, 0, none⟩) m cap) (hm : n i = m) (u : Value) (hu : mk i (a i) = u) : Gf w (W.setCell ⟨g, a i, none⟩ u) N v bx e sz n mk x (upd a i (a i + 1)) := by
  have hg : (v i).ownBlock = some g := by rw [hv]; rfl
  have o1 := only_set W g (a i) u
  refine ⟨fun q hq => (o1.block _ (Array.getElem?_eq_some_iff.1 (h.b q hq)).1 ?_).trans (h.b q hq), h.on.trans (o1.mono fun k _ z => ⟨i, hi, by rw [z]; exact hg⟩), fun j hj => ?_⟩
  · have := s.bge q hq
    have := s.lt i hi g hg
    omega
  · by_cases e1 : j = i
    · subst e1
      have k := h.r j hj
      rw [hv, hm] at k
      have k2 := (k.stored (a j) u).1
      rw [← hu, gx_set] at k2
      rw [hv, hm, hu] at *
      simpa [upd] using k2
    · have k := row_only (h.r j hj) o1 fun b q z => s.ap j i hj hi e1 b q (by rw [z]; exact hg)
      simpa [upd, e1] using k
theorem gx_full (m : Nat → Value) (d : Value) (L : List Value) (i : Nat) (h : L.length ≤ i) : gx m d L i = (List.range L.length).map m := by
  apply List.ext_getElem
  · simp [gx]
  · intro j h1 h2
    simp only [gx, List.length_map, List.length_range] at h1
    simp only [gx, List.getElem_map, List.getElem_range]
    rw [if_pos (by omega)]
/-- While they are grown: each reads as it was written. -/
structure Gg (w W : World) (N : Nat) (v : Nat → Value) (bx : List (Nat × Array Value × TypeId)) (x : Nat → List Value) : Prop where
  b : ∀ q ∈ bx, W.heap[q.1]? = some (.cells q.2.1 q.2.2 (0, 0))
  on : Only w W (fun k => ∃ i, i < N ∧ (v i).ownBlock = some k)
  r : ∀ i, i < N → Rv W (v i) (x i)
theorem Gg.below {y : Nat → List Value} (h : Gg w W N v bx y) (d : Below W.heap.size W W') : Gg w W' N v bx y :=
  ⟨fun q hq => (d.block _ (Array.getElem?_eq_some_iff.1 (h.b q hq)).1).trans (h.b q hq), h.on.trans (Only.ofBelow d), fun i hi => (h.r i hi).only (Only.ofBelow (R := fun _ => False) d) fun _ _ z => z⟩
/-- A row that stays. -/
def Kr (W W' : World) (u : Value) : Prop := ∀ B e sz n xs, W.ownsRow B e sz u n xs → W'.ownsRow B e sz u n xs
/-- The row that is being grown. -/
structure Gx (w W : World) (v : Value) (bx : List (Nat × Array Value × TypeId)) (e sz n : Nat) (xs ys : List Value) (vm : Value) (j : Nat) : Prop where
  o : W.ownsRow 0 e sz vm (n + j) (xs ++ (List.replicate j ys).flatten)
  rel : vm.ownBlock = v.ownBlock ∨ ∃ b, vm.ownBlock = some b ∧ w.heap.size ≤ b ∧ ∀ q ∈ bx, q.1 ≠ b
theorem Gx.below {v : Value} {e sz n j : Nat} {xs ys : List Value} {vm : Value} (h : Gx w W v bx e sz n xs ys vm j) (d : Below W.heap.size W W') : Gx w W' v bx e sz n xs ys vm j := ⟨owns_below h.o d, h.rel⟩
theorem Gx.zero {v : Value} {e sz n : Nat} {xs ys : List Value} (h : W.ownsRow 0 e sz v n xs) : Gx w W v bx e sz n xs ys v 0 := ⟨by simpa using h, .inl rfl⟩
theorem Gx.only {v : Value} {e sz n j : Nat} {xs ys : List Value} {vm : Value} {R : Nat → Prop} (h : Gx w W v bx e sz n xs ys vm j) (o : Only W W' R) (hn : ∀ k, vm.ownBlock = some k → ¬ R k) : Gx w W' v bx e sz n xs ys vm j := ⟨row_only h.o o hn, h.rel⟩
theorem Gf.full {z : Nat → Nat} (h : Gf w W N v bx e sz n mk x a) (hl : ∀ i, i < N → (x i).length = z i ∧ z i ≤ a i) : Gg w W N v bx (fun i => (List.range (z i)).map (mk i)) ∧ ∀ i, i < N → W.ownsRow 0 (e i) (sz i) (v i) (n i) ((List.range (z i)).map (mk i)) := by
  have k : ∀ i, i < N → W.ownsRow 0 (e i) (sz i) (v i) (n i) ((List.range (z i)).map (mk i)) := fun i hi => by
    obtain ⟨e1, e2⟩ := hl i hi
    have := h.r i hi
    rwa [gx_full _ _ _ _ (by omega), e1] at this
  exact ⟨⟨h.b, h.on, fun i hi => rv_of (k i hi)⟩, k⟩
theorem gx_app {T E : TypeId} {sZ bytes : Nat} {inf : TypeInfo} {z0 : Value} (hT : Tryz.prog.underlying T = some (.slice E)) (hi : Tryz.prog.info? E = some inf) (hz0 : inf.zero = some z0) (hz1 : inf.size = sZ) (hz2 : inf.bytes = bytes) (hzs : z0.cells.size = sZ) (hsz : 0 < sZ) (hby : bytes ≤ 48)
    (s : Gst w N v bx) {y : Nat → List Value} (h : Gg w W N v bx y) (i : Nat) (hN : i < N) {m j : Nat} {ys : List Value} {vm : Value} (hx : Gx w W (v i) bx E sZ m (y i) ys vm j) (ty : TypeId) (ad : Addr) (hys : ys.length = 1 * sZ) (hnews : ∀ j u, ys[j]? = some u → W.cell? (ad.add j) = some u) (hone : ∀ u ∈ ys, u.oneCell' = true) (hl : m + j ≤ 4194304) :
    ∃ gv cv w', (Builtin.append_ #[T, T] ty #[vm, .slice (some ad) 1 1]).run Tryz.prog W = .ok (.slice (some ⟨gv, 0, none⟩) (m + j + 1) cv) w' ∧ Gx w w' (v i) bx E sZ m (y i) ys (.slice (some ⟨gv, 0, none⟩) (m + j + 1) cv) (j + 1) ∧ Gg w w' N v bx y ∧ Only W w' (fun k => vm.ownBlock = some k) ∧ ∀ c, c < N → c ≠ i → Kr W w' (v c) := by
  obtain ⟨gv, cv, w', hr, ho, hd⟩ := app_gen hT hi hz0 hz1 hz2 hzs hsz hby W ty vm (m + j) _ ys hx.o ad hys hnews hone hl
  have ho' : w'.ownsRow 0 E sZ (.slice (some ⟨gv, 0, none⟩) (m + j + 1) cv) (m + (j + 1)) (y i ++ (List.replicate (j + 1) ys).flatten) := by
    rw [List.replicate_succ', List.flatten_append, ← List.append_assoc]
    simpa [Nat.add_assoc] using ho
  refine ⟨gv, cv, w', hr, ?_⟩
  rcases hd with ⟨hb, hg⟩ | ⟨rfl, hg⟩
  · have o1 : Only W w' (fun k => k = gv) := Only.grown hg fun k q => by cases q; rfl
    have o2 : Only W w' (fun k => vm.ownBlock = some k) := o1.mono fun k _ q => by rw [q]; exact hb
    rcases hx.rel with q | ⟨b, q, q1, q2⟩
    · have hvi : (v i).ownBlock = some gv := by rw [← q]; exact hb
      have hlt := s.lt i hN gv hvi
      refine ⟨⟨ho', .inl (by rw [hvi]; rfl)⟩, ⟨fun t ht => (o1.block _ (Array.getElem?_eq_some_iff.1 (h.b t ht)).1 ?_).trans (h.b t ht), h.on.trans (o1.mono fun k _ z => ⟨i, hN, by rw [z]; exact hvi⟩), fun c hc => ?_⟩, o2, fun c hc e1 _ _ _ _ _ hr => ?_⟩
      · have := s.bge t ht
        omega
      · by_cases e1 : c = i
        · subst e1
          intro g hg j hj
          rw [hvi] at hg
          cases hg
          have := rv_of ho' gv rfl j (by simp; omega)
          rw [this, List.getElem_append_left hj]
        · exact (h.r c hc).only o1 fun k qk z => s.ap c i hc hN e1 k qk (by rw [z]; exact hvi)
      · exact row_only hr o1 fun k qk z => s.ap c i hc hN e1 k qk (by rw [z]; exact hvi)
    · have e0 : b = gv := by rw [q] at hb; cases hb; rfl
      subst e0
      refine ⟨⟨ho', .inr ⟨b, rfl, q1, q2⟩⟩, ⟨fun t ht => (o1.block _ (Array.getElem?_eq_some_iff.1 (h.b t ht)).1 (q2 t ht)).trans (h.b t ht), h.on.andNew o1 fun k hk z => by omega, fun c hc => ?_⟩, o2, fun c hc _ _ _ _ _ _ hr => row_only hr o1 fun k qk z => by have := s.lt c hc k qk; omega⟩
      exact (h.r c hc).only o1 fun k qk z => by have := s.lt c hc k qk; omega
  · have o1 : Only W w' (fun _ => False) := Only.grown hg fun k q => by cases q
    have hs := h.on.size
    refine ⟨⟨ho', .inr ⟨W.heap.size, rfl, hs, fun t ht z => ?_⟩⟩, ⟨fun t ht => (o1.block _ (Array.getElem?_eq_some_iff.1 (h.b t ht)).1 fun z => z).trans (h.b t ht), h.on.andNew o1 fun k hk z => z.elim, fun c hc => (h.r c hc).only o1 fun _ _ z => z⟩, o1.mono fun _ _ z => z.elim, fun c _ _ _ _ _ _ _ hr => row_only hr o1 fun _ _ z => z⟩
    have := (Array.getElem?_eq_some_iff.1 (h.b t ht)).1
    omega
/-- The same as a step of the walk. -/
theorem wpList_gx {T E : TypeId} {sZ bytes : Nat} {inf : TypeInfo} {z0 : Value} (hT : Tryz.prog.underlying T = some (.slice E)) (hi : Tryz.prog.info? E = some inf) (hz0 : inf.zero = some z0) (hz1 : inf.size = sZ) (hz2 : inf.bytes = bytes) (hzs : z0.cells.size = sZ) (hsz : 0 < sZ) (hby : bytes ≤ 48)
    (s : Gst w N v bx) {y : Nat → List Value} (h : Gg w W N v bx y) (i : Nat) (hN : i < N) {m j : Nat} {ys : List Value} {vm : Value} (hx : Gx w W (v i) bx E sZ m (y i) ys vm j) {ops : Array Oper} {rest : List Oper} {o : Oper} {ac : Act} {Q : Exit → Act → World → Prop} (hgd : o.guard = none) (s1 y1 : Operand)
    (ho : o.op = .call { callee := .builtin .append, args := #[s1, y1], argTypes := #[T, T] }) (hs : ac.eval s1 = vm) (ad : Addr) (hy : ac.eval y1 = .slice (some ad) 1 1) (hys : ys.length = 1 * sZ) (hnews : ∀ j u, ys[j]? = some u → W.cell? (ad.add j) = some u) (hone : ∀ u ∈ ys, u.oneCell' = true) (hl : m + j ≤ 4194304)
    (hK : ∀ gv cv w', Hid (Gx w w' (v i) bx E sZ m (y i) ys (.slice (some ⟨gv, 0, none⟩) (m + j + 1) cv) (j + 1) ∧ Gg w w' N v bx y ∧ Only W w' (fun k => vm.ownBlock = some k) ∧ ∀ c, c < N → c ≠ i → Kr W w' (v c)) → wpList Tryz.prog ops Q rest (ac.put o.dst (.slice (some ⟨gv, 0, none⟩) (m + j + 1) cv)) w') :
    wpList Tryz.prog ops Q (o :: rest) ac W := by
  refine wpList_plain hgd fun K hKK => ?_
  obtain ⟨gv, cv, w', hr, h2, h3, h4⟩ := gx_app hT hi hz0 hz1 hz2 hzs hsz hby s h i hN hx o.type ad hys hnews hone hl
  unfold Oper.wp execOp
  simp only [ho, resolve, invoke, builtin, Sem.run_bind, Sem.run_pure, Result.andThen_ok, List.map_toArray, List.map_cons, List.map_nil, hs, hy, hr]
  exact hKK _ _ (hK gv cv w' (hide ⟨h2, h3, h4⟩))
end
end Go.Proofs.YtmagchclmmphaabGreatDoor
