import Derived.Laws.EntriesVeiled
import Derived.Test.YtdgmokelmocejaaDoorWf
namespace Go.Proofs.YtdgmokelmocejaaDoor
open Go.RowKit Go.Shelf
attribute [local go_sem] Oper.semAt_some

theorem eql_func (L : Array Value) (W : World) : (binOp .eql 34 (.func (.func 47) #[] L) Value.nilFunc).run Tryd.prog W = .ok (.bool false) W := by
  have h : ∀ d : Nat, (Op.equalIn (d + 1) 34 (.func (.func 47) #[] L) Value.nilFunc).run Tryd.prog W = .ok false W := fun d => by
    simp [Op.equalIn, run_underlying Tryd.underlying34]
  simp only [binOp]
  simp [Op.equal, Op.maxDepth, h 9999]
theorem has_neg (X : Nat) : Hid (hasB X (-1) = false) := by unfold Hid hasB; simp

set_option maxRecDepth 100000 in
set_option maxHeartbeats 4000000 in
theorem walks_any (v : Value) (N stop : Int) (A B C : List Int) (w : World) (h : ThreeV w v N A B C) (hT : TabAt w) (hw0 : 0 < w.heap.size) (hs1 : -9223372036854775808 ≤ stop) (hs2 : stop ≤ 9223372036854775807) :
    Calls Tryd.prog 3 #[v, .int .i64 stop] w fun e w' => e = .returned (.bool true) ∧ Below w.heap.size w w' := by
  obtain ⟨n1, n2, ⟨a1, p1, a2, p2, a3, p3, rfl, r1, r2, r3⟩, la, lb, lc⟩ := h
  obtain ⟨o, ho⟩ : ∃ o : Obj, o = .cells #[.int .i64 N, .slice a1 A.length p1, .slice a2 B.length p2, .slice a3 C.length p3] 24 := ⟨_, rfl⟩
  obtain ⟨W0, hW0⟩ : ∃ W0, (w.alloc o).alloc (.cells #[.int .i64 stop] 3) = W0 := ⟨_, rfl⟩
  have hA : Below w.heap.size w W0 := by rw [← hW0]; exact ((Below.refl _ _).alloc (Nat.le_refl _) _).alloc (by simp) _
  have h3 : ThreeV W0 (.agg #[.int .i64 N, .slice a1 A.length p1, .slice a2 B.length p2, .slice a3 C.length p3]) N A B C := ⟨n1, n2, ⟨a1, p1, a2, p2, a3, p3, rfl, r1.below hA, r2.below hA, r3.below hA⟩, la, lb, lc⟩
  have hox : W0.heap[w.heap.size]? = some o := by rw [← hW0, Below.heap_alloc _ _ _ (by simp)]; exact heap_alloc_new _ _
  have hos : Boxed W0 (w.heap.size + 1) 3 (.int .i64 stop) := by rw [← hW0]; have := Boxed.new (w.alloc o) 3 (.int .i64 stop); simpa using this
  have hsz0 : W0.heap.size = w.heap.size + 2 := by rw [← hW0]; simp
  have hcx : W0.cell? ⟨w.heap.size, 0, none⟩ = some (.int .i64 N) := by rw [cell_of_row W0 w.heap.size 0 _ 24 (0, 0) (by rw [hox, ho])]; rfl
  have hcx1 : W0.cell? ⟨w.heap.size, 1, none⟩ = some (.slice a1 A.length p1) := by rw [cell_of_row W0 w.heap.size 1 _ 24 (0, 0) (by rw [hox, ho])]; rfl
  have hcx2 : W0.cell? ⟨w.heap.size, 2, none⟩ = some (.slice a2 B.length p2) := by rw [cell_of_row W0 w.heap.size 2 _ 24 (0, 0) (by rw [hox, ho])]; rfl
  have hcx3 : W0.cell? ⟨w.heap.size, 3, none⟩ = some (.slice a3 C.length p3) := by rw [cell_of_row W0 w.heap.size 3 _ 24 (0, 0) (by rw [hox, ho])]; rfl
  have hT0 := hT.below hA hw0
  have H3 := hide h3
  have hle := boundN_le N
  clear h3 r1 r2 r3 la lb lc hT
  refine (callsIn_wide (n := 9)).1 (callsIn_of_wp_marks Tryd.func3 rfl trivial ?_ rfl)
  refine wpIn_wide.2 ?_
  simp only [Tryd.ntmps3, List.size_toArray, List.length_cons, List.length_nil, Nat.reduceAdd, Nat.reduceSub, Array.replicate_succ, Array.replicate_zero, List.push_toArray, List.append_toArray, List.nil_append, List.cons_append]
  subst ho
  go_wp2_with fail
  refine (sets_any _ N A B C _ H3.out).mono ?_
  rintro e w1 ⟨b1, g1, c1, b2, g2, c2, b3, g3, c3, rfl, s1, s2, s3, m1, m2, m3, m4, m5, m6, e1, e2, e3, l1, l2, l3, l4, d1⟩
  have hT1 := hT0.below d1 (by omega)
  have hcx' := (d1.cell (p := ⟨w.heap.size, 0, none⟩) (by simp; omega)).trans hcx
  have hos1 : Boxed w1 (w.heap.size + 1) 3 (.int .i64 stop) := (d1.block _ (by omega)).trans hos
  have D1 : Below w.heap.size w w1 := hA.trans (d1.mono (by omega))
  generalize setI (boundN N) A = X at s1
  generalize hnn : boundN N = n at *
  have HN := hide hnn
  have hsz1 := d1.size
  clear hnn s2 s3 m3 m4 m5 m6 e2 e3 l1 l2 l3 l4 H3 hcx hcx1 hcx2 hcx3 hox hos hT0 hA hW0 d1
  go_wp2_with fail
  generalize Value.agg #[.int .i64 N, .slice a1 A.length p1, .slice a2 B.length p2, .slice a3 C.length p3] = va
  generalize Value.tuple #[.pointer (some ⟨b1, 0, none⟩), .pointer (some ⟨b2, 0, none⟩), .pointer (some ⟨b3, 0, none⟩), .bool true] = vt
  have d2 : Below w1.heap.size w1 (w1.alloc (.cells #[.pointer (some ⟨b1, 0, none⟩)] 25)) := (Below.refl _ _).alloc (Nat.le_refl _) _
  have hba := Boxed.new w1 25 (.pointer (some ⟨b1, 0, none⟩))
  obtain ⟨Ba, hBa⟩ : ∃ Ba, w1.heap.size = Ba := ⟨_, rfl⟩
  have hs2' := s1.below d2
  have hT2 := hT1.below d2 (by omega)
  have hcx2 := (d2.cell (p := ⟨w.heap.size, 0, none⟩) (by simp; omega)).trans hcx'
  have hos2 : Boxed _ (w.heap.size + 1) 3 (.int .i64 stop) := (d2.block _ (by omega)).trans hos1
  have D2 := D1.trans (d2.mono (by omega))
  have hsz2 := d2.size
  have hb1lt := s1.blt
  have hg1lt := s1.glt
  rw [hBa] at hba hb1lt hg1lt hsz1
  clear hT1 hcx' hos1 D1
  have HBa := hide hBa
  generalize hW2 : w1.alloc (.cells #[.pointer (some ⟨b1, 0, none⟩)] 25) = w2 at *
  have hsz2 : w2.heap.size = Ba + 1 := by rw [← hW2, ← HBa.out]; simp
  clear hW2 d2
  rw [hBa]
  clear hBa HBa s1
  refine (known_any _ hT2 (by omega)).mono ?_
  rintro e w3 ⟨rfl, d3⟩
  have s3 := hs2'.below d3
  have hT3 := hT2.below d3 (by omega)
  have hcx3 := (d3.cell (p := ⟨w.heap.size, 0, none⟩) (by simp; omega)).trans hcx2
  have hos3 : Boxed _ (w.heap.size + 1) 3 (.int .i64 stop) := (d3.block _ (by omega)).trans hos2
  have hba3 : Boxed _ Ba 25 (.pointer (some ⟨b1, 0, none⟩)) := (d3.block _ (by omega)).trans hba
  have D3 := D2.trans (d3.mono (by omega))
  have hsz3 := d3.size
  clear hT2 hcx2 hos2 D2 hba hs2' d3
  have hca := hba3.cell
  go_wp2_with fail
  refine (list_any b1 g1 c1 n X _ s3 hT3).mono ?_
  rintro e w4 ⟨gl, capl, rfl, hwl, d4⟩
  have s4 := s3.below d4
  have hT4 := hT3.below d4 (by omega)
  have hcx4 := (d4.cell (p := ⟨w.heap.size, 0, none⟩) (by simp; omega)).trans hcx3
  have hos4 : Boxed _ (w.heap.size + 1) 3 (.int .i64 stop) := (d4.block _ (by omega)).trans hos3
  have hba4 : Boxed _ Ba 25 (.pointer (some ⟨b1, 0, none⟩)) := (d4.block _ (by omega)).trans hba3
  have D4 := D3.trans (d4.mono (by omega))
  have hsz4 := d4.size
  have hgl := hwl.lt gl rfl
  clear hT3 hcx3 hos3 D3 hba3 s3 d4 hca
  have hca := hba4.cell
  go_wp2_with (go_at_call 12; refine (boundF_any N _ n1 n2).mono ?_; rw [HN.out]; rintro e w' ⟨rfl, hw⟩; obtain rfl := hw.symm; clear hw)
  have hel := cnt_le n X
  unfold cnt at hel
  refine (next_b b1 g1 c1 n X (-5) (nextL (elems n X) 0) _ (next_neg _) ⟨s4, hT4⟩).mono ?_
  rintro e w5 ⟨rfl, d5⟩
  have hrw : Reads w4 (some ⟨gl, 0, none⟩) (elems n X) := fun k hk => ⟨gl, rfl, by
    have := hwl.cells (g := gl) rfl k (.int .i64 (((elems n X).getD k 0 : Nat) : Int)) (by simp [intV, hk])
    rw [Addr.add_lit] at this
    simpa using this⟩
  go_wp2_with fail
  go_loopw [11, 12, 13] (fun c a i wr => ∃ k : Nat, k ≤ n ∧ c = .int .i64 ((elems k X).length : Nat) ∧ a = .int .i64 (nextL (elems n X) (k : Int)) ∧ i = .int .i64 k ∧ Below w4.heap.size w4 wr) (fun _ _ i _ => n - (intOf i).toNat)
  case atStart => exact ⟨0, Nat.zero_le _, rfl, rfl, rfl, d5⟩
  case round =>
    obtain ⟨k, hk, rfl, rfl, rfl, dr⟩ := hrel
    clear d5
    have hcar : wr.cell? ⟨Ba, 0, none⟩ = _ := (dr.cell (p := ⟨Ba, 0, none⟩) (by simp; omega)).trans hca
    have sr := s4.below dr
    have hTr := hT4.below dr (by omega)
    by_cases hlt : k < n
    · have hlt' : (k : Int) < (n : Int) := by omega
      cases hbit : X.testBit k with
      | false =>
        have hl := elems_miss hbit
        have hne : k ∉ elems n X := fun hc => by rw [(mem_elems.1 hc).2] at hbit; cases hbit
        have hnx := next_miss k _ hne
        have HH := hide (And.intro hl hnx)
        clear hl hnx hne
        go_wp2_with (go_at_call 14; refine (has_b b1 g1 c1 n X (k : Int) false _ (by unfold Hid; rw [has_nat, hbit]) sr).mono ?_; rintro e w6 ⟨rfl, d6⟩)
        go_roundw
        case rel => exact ⟨k + 1, by omega, by rw [HH.out.1], by rw [HH.out.2]; go_num, by go_num, dr.trans (d6.mono dr.size)⟩
        case measure => simp [intOf]; omega
      | true =>
        have hl := elems_hit hbit
        obtain ⟨hat1, hat2⟩ := elems_at (n := n) hbit hlt
        have hmem : k ∈ elems n X := mem_elems.2 ⟨hlt, hbit⟩
        have hnx := next_hit k _ (elems_sorted n X) hmem
        have hcw4 : w4.cell? ⟨gl, (elems k X).length, none⟩ = some (.int .i64 (k : Int)) := by
          obtain ⟨g', hg', hc'⟩ := hrw _ hat1
          cases hg'
          rw [hat2] at hc'
          exact hc'
        have HL := hide hl
        obtain ⟨c, hc⟩ : ∃ c, (elems k X).length = c := ⟨_, rfl⟩
        rw [hc] at hat1 hcw4 HL ⊢
        rw [hnx]
        have hcge : decide (((elems n X).length : Int) ≤ (c : Int)) = false := decide_eq_false (by omega)
        have hcr : wr.cell? ⟨gl, c, none⟩ = some (.int .i64 (k : Int)) := (dr.cell (p := ⟨gl, c, none⟩) hgl.2).trans hcw4
        have hwlt : gl < wr.heap.size := World.block_lt_of_cell? wr ⟨gl, c, none⟩ hcr
        clear hl hnx hmem hat2 hc hcw4
        go_wp2_with (first
          | (go_at_call 14; refine (has_b b1 g1 c1 n X (k : Int) true _ (by unfold Hid; rw [has_nat, hbit]) sr).mono ?_; rintro e w6 ⟨rfl, d6⟩; have hcr6 := (d6.cell (p := ⟨gl, c, none⟩) hwlt).trans hcr; have hca6 := (d6.cell (p := ⟨Ba, 0, none⟩) (by simp; have := dr.size; omega)).trans hcar)
          | (go_at_call 13; refine (next_b b1 g1 c1 n X ((k : Int) + 1) _ _ rfl ⟨sr.below d6, hTr.below d6 (by have := dr.size; omega)⟩).mono ?_; rintro e w7 ⟨rfl, d7⟩))
        go_roundw
        case rel => exact ⟨k + 1, by omega, by rw [HL.out]; go_num, by go_num, by go_num, (dr.trans (d6.mono dr.size)).trans (d7.mono (Nat.le_trans dr.size d6.size))⟩
        case measure => simp [intOf]; omega
    · obtain rfl : k = n := by omega
      have hnx := next_end k X (k : Int) (Int.le_refl _)
      have hnb : X.testBit k = false := Nat.testBit_lt_two_pow s4.hX
      rw [hnx]
      clear hnx hlt hk
      have hsr := dr.size
      go_wp2_with fail
      refine (count_b b1 g1 c1 k X _ sr).mono ?_
      rintro e w6 ⟨rfl, d6⟩
      have hca6 := (d6.cell (p := ⟨Ba, 0, none⟩) (by simp; omega)).trans hcar
      have hs6 := d6.size
      clear hcar
      go_wp2_with fail
      refine (has_b b1 g1 c1 k X (-1) false _ (has_neg X) (sr.below d6)).mono ?_
      rintro e w7 ⟨rfl, d7⟩
      have hca7 := (d7.cell (p := ⟨Ba, 0, none⟩) (by simp; omega)).trans hca6
      have hs7 := d7.size
      clear hca6
      go_wp2_with fail
      refine (has_b b1 g1 c1 k X (k : Int) false _ (by unfold Hid; rw [has_nat, hnb]) ((sr.below d6).below d7)).mono ?_
      rintro e w8 ⟨rfl, d8⟩
      have hca8 := (d8.cell (p := ⟨Ba, 0, none⟩) (by simp; omega)).trans hca7
      have hs8 := d8.size
      clear hca7
      go_wp2_with fail
      refine (next_b b1 g1 c1 k X (k : Int) (-1) _ (next_end k X (k : Int) (Int.le_refl _)) ⟨((sr.below d6).below d7).below d8, ((hTr.below d6 (by omega)).below d7 (by omega)).below d8 (by omega)⟩).mono ?_
      rintro e w9 ⟨rfl, d9⟩
      have hs9 := d9.size
      clear hca8
      have d49 : Below w4.heap.size w4 w9 := ((((dr.trans (d6.mono hsr)).trans (d7.mono (by omega))).trans (d8.mono (by omega))).trans (d9.mono (by omega)))
      have s9 := s4.below d49
      have hT9 := hT4.below d49 (by omega)
      have hos9 : Boxed w9 (w.heap.size + 1) 3 (.int .i64 stop) := (d49.block _ (by omega)).trans hos4
      have hba9 : Boxed w9 Ba 25 (.pointer (some ⟨b1, 0, none⟩)) := (d49.block _ (by omega)).trans hba4
      have hw9 : w9.ownsRow w3.heap.size 3 1 (.slice (some ⟨gl, 0, none⟩) (elems k X).length capl) (elems k X).length (intV (elems k X)) := owns_below hwl d49
      have D9 := D4.trans (d49.mono (by omega))
      have hsz9 := d49.size
      clear d6 d7 d8 d9 hs6 hs7 hs8 hs9 sr hTr dr hcx4 hT4 hos4 hba4 s4 hwl hrw hca D4 hnb d49 hsr
      obtain ⟨S, hS⟩ : ∃ S, w9.heap.size = S := ⟨_, rfl⟩
      obtain ⟨Wa, hWa⟩ : ∃ Wa, ((w9.alloc (.cells #[.slice none 0 0] 22)).alloc (.cells #[.slice none 0 0] 22)).alloc (.cells #[.slice none 0 0] 22) = Wa := ⟨_, rfl⟩
      have dWa : Below w9.heap.size w9 Wa := by rw [← hWa]; exact (((Below.refl _ _).alloc (Nat.le_refl _) _).alloc (by simp) _).alloc (by simp; omega) _
      have hsWa : Wa.heap.size = S + 3 := by rw [← hWa, ← hS]; simp
      have hs0 : Boxed Wa S 22 (.slice none 0 0) := by rw [← hWa, ← hS]; exact ((Boxed.new w9 22 _).alloc _).alloc _
      have ht0 : Boxed Wa (S + 1) 22 (.slice none 0 0) := by
        rw [← hWa, ← hS]
        have := (Boxed.new (w9.alloc (.cells #[.slice none 0 0] 22)) 22 (.slice none 0 0)).alloc (.cells #[.slice none 0 0] 22)
        simpa using this
      have hl0 : Boxed Wa (S + 1 + 1) 22 (.slice none 0 0) := by
        rw [← hWa, ← hS]
        have := Boxed.new ((w9.alloc (.cells #[.slice none 0 0] 22)).alloc (.cells #[.slice none 0 0] 22)) 22 (.slice none 0 0)
        simpa using this
      have hbaA : Boxed Wa Ba 25 (.pointer (some ⟨b1, 0, none⟩)) := (dWa.block _ hba9.lt).trans hba9
      have hca := hbaA.cell
      obtain ⟨Wb, hWb⟩ : ∃ Wb, (Wa.alloc (.cells #[.pointer (some ⟨b1, 0, none⟩)] 25)).alloc (.cells #[Value.nilFunc] 34) = Wb := ⟨_, rfl⟩
      have dWb : Below Wa.heap.size Wa Wb := by rw [← hWb]; exact ((Below.refl _ _).alloc (Nat.le_refl _) _).alloc (by simp) _
      have hsWb : Wb.heap.size = S + 5 := by rw [← hWb]; simp [hsWa]
      have hbs0 : Boxed Wb (S + 3) 25 (.pointer (some ⟨b1, 0, none⟩)) := by
        rw [← hWb, ← hsWa]; exact (Boxed.new Wa 25 _).alloc _
      have hbw0 : Boxed Wb (S + 3 + 1) 34 Value.nilFunc := by
        rw [← hWb, ← hsWa]
        have := Boxed.new (Wa.alloc (.cells #[.pointer (some ⟨b1, 0, none⟩)] 25)) 34 Value.nilFunc
        simpa using this
      have hcw0 := hbw0.cell
      have hfw0 := hbw0.frozen
      obtain ⟨W1, hW1⟩ : ∃ W1, Wb.setCell ⟨S + 3 + 1, 0, none⟩ (.func (.func 47) #[] #[.pointer (some ⟨S + 3, 0, none⟩)]) = W1 := ⟨_, rfl⟩
      have hbw1 : Boxed W1 (S + 3 + 1) 34 (.func (.func 47) #[] #[.pointer (some ⟨S + 3, 0, none⟩)]) := by rw [← hW1]; exact hbw0.set _
      have hcw1 := hbw1.cell
      have heq := eql_func #[.pointer (some ⟨S + 3, 0, none⟩)]
      go_wp2_with (go_at_call 16; refine (all_any _ _).mono ?_; rintro e w' ⟨rfl, rfl⟩)
      have hsW1 : W1.heap.size = S + 5 := by rw [← hW1]; simp [World.setCell, hsWb]
      have d91 : Below w9.heap.size w9 W1 := by
        rw [← hW1]
        exact (dWa.trans (dWb.mono (by omega))).setCell (p := ⟨S + 3 + 1, 0, none⟩) (by simp; omega) _
      have hAb : ∀ (B t : Nat) (u : Value), Boxed Wa B t u → Boxed W1 B t u := fun B t u hb => by
        rw [← hW1]
        have hlt := hb.lt
        exact Boxed.other ((dWb.block B hlt).trans hb) (by omega) _
      have hsB := hAb _ _ _ hs0
      have htB := hAb _ _ _ ht0
      have hlB := hAb _ _ _ hl0
      have hba1 := hAb _ _ _ hbaA
      have hbs1 : Boxed W1 (S + 3) 25 (.pointer (some ⟨b1, 0, none⟩)) := by rw [← hW1]; exact hbs0.other (by omega) _
      have hos1 : Boxed W1 (w.heap.size + 1) 3 (.int .i64 stop) := (d91.block _ hos9.lt).trans hos9
      have hset1 := s9.below d91
      have hT1 := hT9.below d91 (by omega)
      have hwn1 := owns_below hw9 d91
      have D1 := D9.trans (d91.mono (by omega))
      have hpos : 0 < W1.heap.size := by omega
      have hlen : (elems k X).length ≤ 8192 := by omega
      have hBaS : Ba < S := by rw [← hS]; exact hba9.lt
      have hglS : gl < S := by omega
      clear hAb hs0 ht0 hl0 hbaA hbs0 hbw0 hcw0 hfw0 hW1 hWb hWa dWa dWb hcw1 hca s9 hT9 hos9 hba9 hw9 D9 heq d91 hsWa hsWb hS
      obtain ⟨i0, hi, hz0, hz1, hz2⟩ := info_parts info3
      have hI : OwnFrom W1.heap.size (fun (pre : List (El (elems k X))) W => Two (S + 5) S (S + 1) (vals pre) (vals pre) W ∧ Fr [S, S + 1] (S + 5) W1 W) := OwnFrom.and (two_own _ _ _ _ _ _) (Fr.own (by omega) (by omega))
      refine (wpIn_wide (n := 9)).1 ?_
      refine wpIn_rangeFunc_ownH (F := Fence.wide) (n := 9) rfl (by omega) (gf := 47) (lb := #[.pointer (some ⟨S + 3, 0, none⟩)]) rfl trivial (enters_of Tryd.func47 (by kernel_rfl) rfl)
        (all_stops _ (S + 3) b1 g1 c1 k X W1 hbs1 hset1 hT1) KpU.trans (KpU.put hpos) (Below.refl _ _) (fun _ => rfl)
        (fun (pre : List (El (elems k X))) W => Two (S + 5) S (S + 1) (vals pre) (vals pre) W ∧ Fr [S, S + 1] (S + 5) W1 W)
        (fun _ _ _ => False) hI (fun _ _ _ _ _ hs _ _ => hs)
        ⟨⟨_, _, hsB, World.ownsRow_nil _ _ _ _, htB, World.ownsRow_nil _ _ _ _, sep_nil _⟩, Fr.refl _ _ _⟩
        (fun x a' W => ∃ Bx, S + 5 ≤ Bx ∧ Boxed W Bx 3 (.int .i64 (x.1 : Int)) ∧ Not2 S (S + 1) Bx W ∧ a' = { tmps := #[va, Value.int IntKind.i64 stop, Value.pointer (some { block := w.heap.size, off := 0 }), Value.pointer (some { block := w.heap.size + 1, off := 0 }), u4, Value.pointer (some { block := Ba, off := 0 }), Value.pointer (some { block := b2, off := 0 }), Value.pointer (some { block := b3, off := 0 }), Value.bool true, Value.slice (some { block := gl, off := 0 }) (elems k X).length capl, Value.int IntKind.i64 ↑k, Value.int IntKind.i64 ↑(elems k X).length, Value.int IntKind.i64 (-1), Value.int IntKind.i64 ↑k, Value.pointer (some { block := S, off := 0 }), Value.pointer (some { block := S + 1, off := 0 }), Value.pointer (some { block := S + 1 + 1, off := 0 }), Value.pointer (some { block := S + 3 + 1, off := 0 }), .pointer (some ⟨Bx, 0, none⟩), undef, undef, undef, undef, undef, vt, va, vt, Value.pointer (some { block := b1, off := 0 }), Value.pointer (some { block := b2, off := 0 }), Value.pointer (some { block := b3, off := 0 }), Value.bool true, Value.bool true, Value.bool false, Value.bool false, Value.bool true, Value.bool false, Value.bool false, Value.pointer (some { block := b1, off := 0 }), Value.slice (some { block := gl, off := 0 }) (elems k X).length capl, Value.pointer (some { block := w.heap.size, off := 0 }), Value.int IntKind.i64 N, Value.int IntKind.i64 ↑k, Value.pointer (some { block := b1, off := 0 }), Value.int IntKind.i64 (nextL (elems k X) 0), Value.int IntKind.i64 ↑k, Value.int IntKind.i64 ↑k, Value.bool false, u47, u48, u49, u50, u51, u52, u53, u54, u55, u56, u57, u58, u59, u60, u61, u62, u63, u64, u65, u66, u67, u68, u69, u70, u71, u72, u73, u74, Value.int IntKind.i64 ↑(elems k X).length, Value.slice (some { block := gl, off := 0 }) (elems k X).length capl, Value.int IntKind.i64 ↑(elems k X).length, Value.bool false, Value.bool false, Value.pointer (some { block := b1, off := 0 }), Value.int IntKind.i64 ↑(elems k X).length, Value.int IntKind.i64 ↑(elems k X).length, Value.bool false, Value.bool false, Value.bool false, Value.int IntKind.i64 (-1), Value.bool false, Value.bool false, Value.bool false, Value.pointer (some { block := b1, off := 0 }), Value.bool false, Value.bool false, Value.bool false, Value.pointer (some { block := b1, off := 0 }), Value.int IntKind.i64 ↑k, Value.bool false, Value.bool false, Value.bool false, Value.pointer (some { block := b1, off := 0 }), Value.int IntKind.i64 ↑k, Value.int IntKind.i64 (-1), Value.bool false, Value.bool false, Value.pointer (some { block := b1, off := 0 }), Value.func (Fn.func 47) #[] #[Value.pointer (some { block := S + 3, off := 0 })], Value.func (Fn.func 47) #[] #[Value.pointer (some { block := S + 3, off := 0 })], Value.bool false, Value.func (Fn.func 47) #[] #[Value.pointer (some { block := S + 3, off := 0 })], .int .i64 (x.1 : Int), undef, undef, undef, undef, undef, undef, undef, undef, undef, undef, undef, undef, undef, undef, undef, undef, undef, undef, undef, undef, undef, undef, undef, undef, undef, undef, undef, undef, undef, undef, undef, undef, undef, undef, undef, undef, undef, undef, undef, undef, undef, undef, undef, undef, undef, undef, undef, undef, undef, undef, undef, undef, undef, undef, undef, undef, undef, undef, undef, undef, undef, undef, undef, undef, undef, undef, undef, undef, undef], defers := [] })
        ?hAx ?assign ?body ?done ?stop
      case hAx =>
        rintro x a' u X1 X2 row ⟨Bx, h1, h2, h3, h4⟩ hg hr
        exact ⟨Bx, h1, keep_cells hg hr h2, not2_own (β := Unit) S (S + 1) Bx _ () X1 X2 row h3 hg hr, h4⟩
      case assign =>
        rintro l pre x W K ⟨hTw, hFr⟩ hK
        have hsz := hFr.size
        gi_wp2
        obtain ⟨v1, v2, q1, q2, q3, q4, q5⟩ := hTw
        refine hK _ _ ((KeepsOthers.alloc _ _).from _) (KpU.alloc W (by omega) _) (hI.alloc _ ⟨⟨v1, v2, q1, q2, q3, q4, q5⟩, hFr⟩) ⟨W.heap.size, by omega, Boxed.new W 3 _, ⟨v1, v2, q1.alloc _, q3.alloc _, ?_, ?_⟩, rfl⟩
        · intro e
          have := row_lt q2 e
          omega
        · intro e
          have := row_lt q4 e
          omega
      case body =>
        rintro l pre x a' W hl ⟨r, hr⟩ ⟨hTw, hFr⟩ ⟨Bx, hBx, bX, hnot, rfl⟩ hlt
        dsimp only
        have hsz := hFr.size
        have bw := hFr.heap (by omega) (by simp <;> omega) (show W1.heap[S + 3 + 1]? = _ from hbw1)
        have cw := Boxed.cell bw
        have bs : Boxed W (S + 3) 25 (.pointer (some ⟨b1, 0, none⟩)) := hFr.heap (by omega) (by simp <;> omega) hbs1
        have hbel : Below S W1 W := hFr.below (by omega) (by simp <;> omega)
        have hsetW : IsSet W b1 g1 c1 k X := set_upto hset1 hbel (by omega) (by omega)
        have hTW : TabAt W := hT1.below hbel (by omega)
        have hposW : 0 < W.heap.size := by omega
        gi_wp2
        refine wpIn_rangeFunc_ownN (l₀ := l) (r₀ := r) rfl hr (by omega) (gf := 47) (lb := #[.pointer (some ⟨S + 3, 0, none⟩)]) rfl trivial (enters_of Tryd.func47 (by kernel_rfl) rfl)
          ((all_stops _ (S + 3) b1 g1 c1 k X W bs hsetW hTW).inRound l) KpU.trans (KpU.put hposW) (Below.refl _ _) (fun _ => rfl)
          (fun (pre' : List (El (elems k X))) W' => (((Two (S + 5) S (S + 1) (vals pre) (vals pre) W' ∧ Not2 S (S + 1) Bx W') ∧ Boxed W' Bx 3 (.int .i64 (x.1 : Int))) ∧ (∀ y ∈ pre', y.1 < x.1)) ∧ ((Fr [S, S + 1] (S + 5) W1 W' ∧ KpU W1.heap.size W W') ∧ KeepsFrom W1.heap.size W W'))
          (fun c q W' => ((Two (S + 5) S (S + 1) (vals pre) (vals pre ++ [lastV q]) W' ∧ Not2 S (S + 1) Bx W') ∧ Boxed W' Bx 3 (.int .i64 (x.1 : Int))) ∧ (c = .exit 4 ∧ ∃ p y, q = p ++ [y] ∧ x.1 ≤ y.1 ∧ ∀ z ∈ p, z.1 < x.1) ∧ ((Fr [S, S + 1] (S + 5) W1 W' ∧ KpU W1.heap.size W W') ∧ KeepsFrom W1.heap.size W W'))
          (OwnFrom.and (OwnFrom.and (OwnFrom.and (OwnFrom.and (two_own _ _ _ _ (fun _ => vals pre) (fun _ => vals pre)) (not2_own _ _ _ _)) (box_own _ _ _ (fun _ => _))) (ownFrom_pure _ _)) (OwnFrom.and (OwnFrom.and (Fr.own (by omega) (by omega)) (KpU.own hposW hposW)) (ownFrom_keepsFrom (by omega))))
          (fun c => OwnFrom.and (OwnFrom.and (OwnFrom.and (two_own _ _ _ _ (fun _ => vals pre) (fun q => vals pre ++ [lastV q])) (not2_own _ _ _ _)) (box_own _ _ _ (fun _ => _))) (OwnFrom.and (ownFrom_pure _ _) (OwnFrom.and (OwnFrom.and (Fr.own (by omega) (by omega)) (KpU.own hposW hposW)) (ownFrom_keepsFrom (by omega)))))
          ⟨⟨⟨⟨hTw, hnot⟩, bX⟩, fun y hy => by cases hy⟩, ⟨hFr, KpU.refl _ _⟩, KeepsFrom.refl _ _⟩
          (fun y a'' _ => a'' = { tmps := #[va, Value.int IntKind.i64 stop, Value.pointer (some { block := w.heap.size, off := 0 }), Value.pointer (some { block := w.heap.size + 1, off := 0 }), u4, Value.pointer (some { block := Ba, off := 0 }), Value.pointer (some { block := b2, off := 0 }), Value.pointer (some { block := b3, off := 0 }), Value.bool true, Value.slice (some { block := gl, off := 0 }) (elems k X).length capl, Value.int IntKind.i64 ↑k, Value.int IntKind.i64 ↑(elems k X).length, Value.int IntKind.i64 (-1), Value.int IntKind.i64 ↑k, Value.pointer (some { block := S, off := 0 }), Value.pointer (some { block := S + 1, off := 0 }), Value.pointer (some { block := S + 1 + 1, off := 0 }), Value.pointer (some { block := S + 3 + 1, off := 0 }), .pointer (some ⟨Bx, 0, none⟩), .int .i64 (y.1 : Int), undef, undef, undef, undef, vt, va, vt, Value.pointer (some { block := b1, off := 0 }), Value.pointer (some { block := b2, off := 0 }), Value.pointer (some { block := b3, off := 0 }), Value.bool true, Value.bool true, Value.bool false, Value.bool false, Value.bool true, Value.bool false, Value.bool false, Value.pointer (some { block := b1, off := 0 }), Value.slice (some { block := gl, off := 0 }) (elems k X).length capl, Value.pointer (some { block := w.heap.size, off := 0 }), Value.int IntKind.i64 N, Value.int IntKind.i64 ↑k, Value.pointer (some { block := b1, off := 0 }), Value.int IntKind.i64 (nextL (elems k X) 0), Value.int IntKind.i64 ↑k, Value.int IntKind.i64 ↑k, Value.bool false, u47, u48, u49, u50, u51, u52, u53, u54, u55, u56, u57, u58, u59, u60, u61, u62, u63, u64, u65, u66, u67, u68, u69, u70, u71, u72, u73, u74, Value.int IntKind.i64 ↑(elems k X).length, Value.slice (some { block := gl, off := 0 }) (elems k X).length capl, Value.int IntKind.i64 ↑(elems k X).length, Value.bool false, Value.bool false, Value.pointer (some { block := b1, off := 0 }), Value.int IntKind.i64 ↑(elems k X).length, Value.int IntKind.i64 ↑(elems k X).length, Value.bool false, Value.bool false, Value.bool false, Value.int IntKind.i64 (-1), Value.bool false, Value.bool false, Value.bool false, Value.pointer (some { block := b1, off := 0 }), Value.bool false, Value.bool false, Value.bool false, Value.pointer (some { block := b1, off := 0 }), Value.int IntKind.i64 ↑k, Value.bool false, Value.bool false, Value.bool false, Value.pointer (some { block := b1, off := 0 }), Value.int IntKind.i64 ↑k, Value.int IntKind.i64 (-1), Value.bool false, Value.bool false, Value.pointer (some { block := b1, off := 0 }), Value.func (Fn.func 47) #[] #[Value.pointer (some { block := S + 3, off := 0 })], Value.func (Fn.func 47) #[] #[Value.pointer (some { block := S + 3, off := 0 })], Value.bool false, Value.func (Fn.func 47) #[] #[Value.pointer (some { block := S + 3, off := 0 })], .int .i64 (x.1 : Int), .func (.func 47) #[] #[.pointer (some ⟨S + 3, 0, none⟩)], .int .i64 (y.1 : Int), undef, undef, undef, undef, undef, undef, undef, undef, undef, undef, undef, undef, undef, undef, undef, undef, undef, undef, undef, undef, undef, undef, undef, undef, undef, undef, undef, undef, undef, undef, undef, undef, undef, undef, undef, undef, undef, undef, undef, undef, undef, undef, undef, undef, undef, undef, undef, undef, undef, undef, undef, undef, undef, undef, undef, undef, undef, undef, undef, undef, undef, undef, undef, undef, undef, undef, undef], defers := [] })
          (fun _ _ _ _ _ _ hs _ _ => hs)
          ?assign2 ?body2 ?done2 ?stop2
        case assign2 =>
          rintro l2 pre' y W' K hi' hK
          gi_wp2
          exact hK _ _ (KeepsFrom.refl _ _) (KpU.refl _ _) hi' rfl
        case body2 =>
          rintro l2 pre' y a'' W' _ _ ⟨⟨⟨⟨⟨v1, v2, q1, q2, q3, q4, q5⟩, ⟨v1', v2', t1, t2, t3, t4⟩⟩, bX'⟩, hall⟩, ⟨hFr', hKp'⟩, hKF'⟩ rfl _
          dsimp only
          obtain rfl := boxed_uniq q1 t1
          obtain rfl := boxed_uniq q3 t2
          have cX := bX'.cell
          have cT := q3.cell
          have hszW := hFr'.size
          have hvl := vals_len pre
          have HV := hide hvl
          clear hvl
          by_cases hge : x.1 ≤ y.1
          · have hge' : decide ((x.1 : Int) ≤ (y.1 : Int)) = true := decide_eq_true (by omega)
            gi_wp2_with (gi_at_builtin; refine wpListIn_append_own_at _ rfl _ _ 22 rfl (S + 5) 3 i0 (.int .i64 0) 1 8 Tryd.underlying22 hi hz0 hz1 hz2 rfl (by decide) v2 (vals pre).length (intV (vals pre)) rfl (q4.alloc _) ⟨W'.heap.size, 0, none⟩ 1 1 [.int .i64 (y.1 : Int)] rfl rfl (cell_one_new _ _ _) (by simp [Value.oneCell']) (by have := HV.out; unfold maxLen; omega) (by have := HV.out; omega) (by simp; omega) ?_; intro v' w1 hown' hgrow hnil hat; obtain ⟨g', cap', rfl⟩ := ownsRow_succ hown'; obtain ⟨o1, app, o3⟩ := app_step (by omega) (by omega) (by omega) q3 q4 hown' hgrow hat; have co1 := o1.cell; have fo1 := o1.frozen)
            have hL : (vals pre).length + 1 = (vals pre ++ [y.1]).length := by simp
            rw [intV_snoc] at o3
            have hge2 := row_ge q4
            refine ⟨app.others.from _, ⟨⟨⟨v1, _, app.boxes S 22 v1 (by omega) (fun e => by have := hge2 _ e; omega) q1, (app.rows v1 _ _ q2 q5.symm).1, app.box, by rw [lastV_snoc, ← hL]; exact o3, (app.rows v1 _ _ q2 q5.symm).2.symm⟩, v1, _, app.boxes S 22 v1 (by omega) (fun e => by have := hge2 _ e; omega) q1, app.box, t3, app.far Bx bX'.lt t4⟩, app.boxes Bx 3 _ (by omega) t4 bX'⟩, ⟨rfl, pre', y, rfl, hge, hall⟩, ⟨hFr'.trans (app.fr.more (by simp) (Nat.le_refl _)), hKp'.trans (app.kp _)⟩, hKF'.trans (app.others.from _)⟩
          · have hge' : decide ((x.1 : Int) ≤ (y.1 : Int)) = false := decide_eq_false (by omega)
            gi_wp2
            refine ⟨KeepsFrom.refl _ _, KpU.refl _ _, ⟨⟨⟨⟨v1, v2, q1, q2, q3, q4, q5⟩, ⟨v1, v2, t1, t2, t3, t4⟩⟩, bX'⟩, fun z hz => ?_⟩, ⟨hFr', hKp'⟩, hKF'⟩
            rcases List.mem_append.1 hz with h | h
            · exact hall z h
            · simp at h
              subst h
              omega
        case done2 =>
          rintro ys W' hys ⟨⟨_, hall⟩, _⟩
          exfalso
          have hx : x.1 ∈ ys.map Subtype.val := by rw [hys]; exact x.2
          obtain ⟨y, hy, hyx⟩ := List.mem_map.1 hx
          have := hall y hy
          omega
        case stop2 =>
          rintro c q W' hq ⟨⟨⟨⟨v1, v2, q1, q2, q3, q4, q5⟩, ⟨v1', v2', t1, t2, t3, t4⟩⟩, bX'⟩, ⟨rfl, p, y, rfl, hxy, hall⟩, ⟨hFr', hKp'⟩, hKF'⟩
          obtain rfl := boxed_uniq q1 t1
          obtain rfl := boxed_uniq q3 t2
          obtain rfl := first_ge (elems_sorted k X) hq hxy hall
          rw [lastV_snoc] at q4
          have cX := bX'.cell
          have cS := q1.cell
          have hszW := hFr'.size
          have hvl := vals_len pre
          have HV := hide hvl
          clear hvl
          gi_wp2_with (gi_at_builtin; refine wpListIn_append_own_at _ rfl _ _ 22 rfl (S + 5) 3 i0 (.int .i64 0) 1 8 Tryd.underlying22 hi hz0 hz1 hz2 rfl (by decide) v1 (vals pre).length (intV (vals pre)) rfl (q2.alloc _) ⟨W'.heap.size, 0, none⟩ 1 1 [.int .i64 (y.1 : Int)] rfl rfl (cell_one_new _ _ _) (by simp [Value.oneCell']) (by have := HV.out; unfold maxLen; omega) (by have := HV.out; omega) (by simp; omega) ?_; intro v' w1 hown' hgrow hnil hat; obtain ⟨g', cap', rfl⟩ := ownsRow_succ hown'; obtain ⟨o1, app, o3⟩ := app_step (by omega) (by omega) (by omega) q1 q2 hown' hgrow hat; have co1 := o1.cell; have fo1 := o1.frozen)
          have hL : (vals pre).length + 1 = (vals pre ++ [y.1]).length := by simp
          rw [intV_snoc] at o3
          have hge2 := row_ge q2
          refine ⟨hKF'.trans (app.others.from _), hKp'.trans (app.kp _), ⟨_, v2, app.box, by rw [vals_snoc, ← hL]; exact o3, app.boxes (S + 1) 22 v2 (by omega) (fun e => by have := hge2 _ e; omega) q3, by rw [vals_snoc]; exact (app.rows v2 _ _ q4 q5).1, (app.rows v2 _ _ q4 q5).2⟩, hFr'.trans (app.fr.more (by simp) (Nat.le_refl _))⟩
      case done =>
        rintro Da ys W2 hDa hys ⟨hTw, hFr⟩ hK1
        have hv : vals ys = elems k X := hys
        rw [hv] at hTw
        clear hv hys hI
        have hsz2' := hFr.size
        have bw2 : Boxed W2 (S + 3 + 1) 34 (.func (.func 47) #[] #[.pointer (some ⟨S + 3, 0, none⟩)]) := hFr.heap (by omega) (by simp <;> omega) hbw1
        have cw2 := bw2.cell
        have bs2 : Boxed W2 (S + 3) 25 (.pointer (some ⟨b1, 0, none⟩)) := hFr.heap (by omega) (by simp <;> omega) hbs1
        have bl2 : Boxed W2 (S + 1 + 1) 22 (.slice none 0 0) := hFr.heap (by omega) (by simp <;> omega) hlB
        have ba2 : Boxed W2 Ba 25 (.pointer (some ⟨b1, 0, none⟩)) := hFr.heap (by omega) (by simp <;> omega) hba1
        have bo2 : Boxed W2 (w.heap.size + 1) 3 (.int .i64 stop) := hFr.heap (by omega) (by simp <;> omega) hos1
        have hbel : Below S W1 W2 := hFr.below (by omega) (by simp <;> omega)
        have hset2 : IsSet W2 b1 g1 c1 k X := set_upto hset1 hbel (by omega) (by omega)
        have hT2 : TabAt W2 := hT1.below hbel (by omega)
        have hwn2 : W2.ownsRow w3.heap.size 3 1 (.slice (some ⟨gl, 0, none⟩) (elems k X).length capl) (elems k X).length (intV (elems k X)) := owns_cells hwn1 fun g' cur e hc => by
          obtain rfl : gl = g' := by simpa [Value.ownBlock] using e
          exact (hbel.block gl hglS).trans hc
        have D2 : Below w.heap.size w W2 := D1.trans (hbel.mono (by omega))
        clear hbw1 hbs1 hlB hba1 hos1 hset1 hT1 hwn1 D1 hsB htB hFr hbel
        obtain ⟨H2, hH2⟩ : ∃ H2, W2.heap.size = H2 := ⟨_, rfl⟩
        have hpos2 : 0 < W2.heap.size := by omega
        obtain ⟨m, hm⟩ : ∃ m, boundN stop % 3 = m := ⟨_, rfl⟩
        have hrem : ((boundN stop : Nat) : Int).tmod 3 = (m : Int) := by rw [← hm]; rfl
        have hm3 : m < 3 := by omega
        go_wp2
        refine range_join (E := elems k X) (lb := #[.pointer (some ⟨S + 3, 0, none⟩)]) 6 rfl (all_stops _ (S + 3) b1 g1 c1 k X W2 bs2 hset2 hT2) hpos2 rfl
          (fun (pre : List (El (elems k X))) W => (One W2.heap.size (S + 1 + 1) (vals pre) W ∧ Fr [S + 1 + 1] W2.heap.size W2 W) ∧ pre.length ≤ m)
          (fun c q W => (One W2.heap.size (S + 1 + 1) (vals q).dropLast W ∧ Fr [S + 1 + 1] W2.heap.size W2 W) ∧ (c = .exit 6 ∧ q.length = m + 1))
          (OwnFrom.and (OwnFrom.and (one_own _ _ _ _) (Fr.own (Nat.le_refl _) (Nat.le_refl _))) (ownFrom_pure _ _))
          (fun c => OwnFrom.and (OwnFrom.and (one_own _ _ _ (fun q => (vals q).dropLast)) (Fr.own (Nat.le_refl _) (Nat.le_refl _))) (ownFrom_pure _ _))
          ⟨⟨⟨_, bl2, World.ownsRow_nil _ _ _ _⟩, Fr.refl _ _ _⟩, Nat.zero_le _⟩
          (fun x => { tmps := #[va, Value.int IntKind.i64 stop, Value.pointer (some { block := w.heap.size, off := 0 }), Value.pointer (some { block := w.heap.size + 1, off := 0 }), u4, Value.pointer (some { block := Ba, off := 0 }), Value.pointer (some { block := b2, off := 0 }), Value.pointer (some { block := b3, off := 0 }), Value.bool true, Value.slice (some { block := gl, off := 0 }) (elems k X).length capl, Value.int IntKind.i64 ↑k, Value.int IntKind.i64 ↑(elems k X).length, Value.int IntKind.i64 (-1), Value.int IntKind.i64 ↑k, Value.pointer (some { block := S, off := 0 }), Value.pointer (some { block := S + 1, off := 0 }), Value.pointer (some { block := S + 1 + 1, off := 0 }), Value.pointer (some { block := S + 3 + 1, off := 0 }), undef, undef, .int .i64 (x.1 : Int), undef, undef, undef, vt, va, vt, Value.pointer (some { block := b1, off := 0 }), Value.pointer (some { block := b2, off := 0 }), Value.pointer (some { block := b3, off := 0 }), Value.bool true, Value.bool true, Value.bool false, Value.bool false, Value.bool true, Value.bool false, Value.bool false, Value.pointer (some { block := b1, off := 0 }), Value.slice (some { block := gl, off := 0 }) (elems k X).length capl, Value.pointer (some { block := w.heap.size, off := 0 }), Value.int IntKind.i64 N, Value.int IntKind.i64 ↑k, Value.pointer (some { block := b1, off := 0 }), Value.int IntKind.i64 (nextL (elems k X) 0), Value.int IntKind.i64 ↑k, Value.int IntKind.i64 ↑k, Value.bool false, u47, u48, u49, u50, u51, u52, u53, u54, u55, u56, u57, u58, u59, u60, u61, u62, u63, u64, u65, u66, u67, u68, u69, u70, u71, u72, u73, u74, Value.int IntKind.i64 ↑(elems k X).length, Value.slice (some { block := gl, off := 0 }) (elems k X).length capl, Value.int IntKind.i64 ↑(elems k X).length, Value.bool false, Value.bool false, Value.pointer (some { block := b1, off := 0 }), Value.int IntKind.i64 ↑(elems k X).length, Value.int IntKind.i64 ↑(elems k X).length, Value.bool false, Value.bool false, Value.bool false, Value.int IntKind.i64 (-1), Value.bool false, Value.bool false, Value.bool false, Value.pointer (some { block := b1, off := 0 }), Value.bool false, Value.bool false, Value.bool false, Value.pointer (some { block := b1, off := 0 }), Value.int IntKind.i64 ↑k, Value.bool false, Value.bool false, Value.bool false, Value.pointer (some { block := b1, off := 0 }), Value.int IntKind.i64 ↑k, Value.int IntKind.i64 (-1), Value.bool false, Value.bool false, Value.pointer (some { block := b1, off := 0 }), Value.func (Fn.func 47) #[] #[Value.pointer (some { block := S + 3, off := 0 })], Value.func (Fn.func 47) #[] #[Value.pointer (some { block := S + 3, off := 0 })], Value.bool false, Value.func (Fn.func 47) #[] #[Value.pointer (some { block := S + 3, off := 0 })], undef, undef, undef, undef, undef, undef, undef, undef, undef, undef, undef, undef, undef, undef, .func (.func 47) #[] #[.pointer (some ⟨S + 3, 0, none⟩)], .int .i64 (x.1 : Int), undef, undef, undef, undef, undef, undef, undef, undef, undef, undef, undef, undef, undef, undef, undef, undef, undef, undef, undef, undef, undef, undef, undef, undef, undef, undef, undef, undef, undef, undef, undef, undef, undef, undef, undef, undef, undef, undef, undef, undef, undef, undef, undef, undef, undef, undef, undef, undef, undef, undef, undef, undef, undef, undef], defers := [] })
          ?assign ?body
          (fun W => One W2.heap.size (S + 1 + 1) ((elems k X).take (min m (elems k X).length)) W ∧ Fr [S + 1 + 1] W2.heap.size W2 W)
          ?fin1 ?fin2 ?rest
        case assign =>
          intro l x W K hK
          gi_wp2
          exact hK
        case body =>
          rintro l pre x W ⟨⟨⟨v1, q1, q2⟩, hFr⟩, hple⟩ hlt
          dsimp only
          have hszW := hFr.size
          have hvl := vals_len pre
          have HV := hide hvl
          clear hvl
          obtain ⟨ao, cap0, rfl⟩ := row_form q2
          have cL := q1.cell
          have cO := Boxed.cell (hFr.heap (by omega) (by simp <;> omega) bo2)
          have hmx : Tryd.prog.follows .mixedOrders = true := by kernel_rfl
          by_cases hfull : (vals pre).length = m
          · have hd : (((vals pre).length : Int) == (m : Int)) = true := by rw [hfull]; simp
            have HF := hide hfull
            clear hfull
            gi_wp2
            gi_region_with_o (refine ⟨trivial, ?_⟩; refine (CallsIn.inRound l (callsIn_wide.2 (boundF_any stop _ hs1 hs2))).mono ?_; rintro e w' ⟨rfl, rfl⟩)
            all_goals gi_wp2
            all_goals exact ⟨(KeepsOthers.drew _).from _, ⟨⟨_, q1, by rw [vals_snoc, List.dropLast_concat]; exact q2⟩, hFr.drew⟩, rfl, by have := HV.out; have := HF.out; simp; omega⟩
          · have hd : (((vals pre).length : Int) == (m : Int)) = false := by simp; omega
            have HF := hide hfull
            clear hfull
            have q1' : Boxed W.drew (S + 1 + 1) 22 (.slice ao (vals pre).length cap0) := q1
            have q2' : W.drew.ownsRow W2.heap.size 3 1 (.slice ao (vals pre).length cap0) (vals pre).length (intV (vals pre)) := q2
            have hszD : W.drew.heap.size = W.heap.size := rfl
            have hge2 := row_ge q2
            gi_wp2
            gi_region_with_o (refine ⟨trivial, ?_⟩; refine (CallsIn.inRound l (callsIn_wide.2 (boundF_any stop _ hs1 hs2))).mono ?_; rintro e w' ⟨rfl, rfl⟩)
            all_goals (gi_wp2_with (gi_at_builtin; refine wpListIn_append_own_at _ rfl _ _ 22 rfl W2.heap.size 3 i0 (.int .i64 0) 1 8 Tryd.underlying22 hi hz0 hz1 hz2 rfl (by decide) (.slice ao (vals pre).length cap0) (vals pre).length (intV (vals pre)) rfl (q2'.alloc _) ⟨W.drew.heap.size, 0, none⟩ 1 1 [.int .i64 (x.1 : Int)] rfl rfl (cell_one_new _ _ _) (by simp [Value.oneCell']) (by have := HV.out; unfold maxLen; omega) (by have := HV.out; omega) (by simp; omega) ?_; intro v' w1 hown' hgrow hnil hat; obtain ⟨g', cap', rfl⟩ := ownsRow_succ hown'; obtain ⟨o1, app, o3⟩ := app_step (by omega) (by omega) (by omega) q1' q2' hown' hgrow hat; have co1 := o1.cell; have fo1 := o1.frozen))
            all_goals
              have hL : (vals pre).length + 1 = (vals pre ++ [x.1]).length := by simp
              rw [intV_snoc] at o3
              exact ⟨((KeepsOthers.drew _).trans app.others).from _, (KpU.drew _ _).trans (app.kp _), ⟨⟨_, app.box, by rw [vals_snoc, ← hL]; exact o3⟩, hFr.drew.trans app.fr⟩, by have := HV.out; have := HF.out; simp; omega⟩
        case fin1 =>
          rintro xs W hxs ⟨⟨hOne, hFr⟩, hle⟩
          have hv : vals xs = elems k X := hxs
          have hl := vals_all hv
          rw [hv] at hOne
          refine ⟨?_, hFr⟩
          rw [Nat.min_eq_right (by omega), List.take_of_length_le (Nat.le_refl _)]
          exact hOne
        case fin2 =>
          rintro c q W hq ⟨⟨hOne, hFr⟩, hc, hle⟩
          refine ⟨hc, ?_, hFr⟩
          have hq' : vals q <+: elems k X := hq
          obtain ⟨hlt, e⟩ := take_pre (m := m) hq' (by rw [vals_len]; exact hle)
          rw [Nat.min_eq_left (by omega)]
          rw [e]
          exact hOne
        case rest =>
          rintro Db W3 hDb ⟨hOne, hFr⟩ hK2
          have hsz3' := hFr.size
          have hDal : Da < W2.heap.size := (Array.getElem?_eq_some_iff.1 hK1).1
          have hDbl : Db < W3.heap.size := (Array.getElem?_eq_some_iff.1 hK2).1
          have hK1 := hFr.heap hDal (by simp; omega) hK1
          have hTw3 := two_fr hTw hFr (by omega) (by omega) (by simp <;> omega) (by simp <;> omega) (by simp <;> omega) (Nat.le_refl _)
          have bw3 : Boxed W3 (S + 3 + 1) 34 (.func (.func 47) #[] #[.pointer (some ⟨S + 3, 0, none⟩)]) := hFr.heap (by omega) (by simp <;> omega) bw2
          have bs3 : Boxed W3 (S + 3) 25 (.pointer (some ⟨b1, 0, none⟩)) := hFr.heap (by omega) (by simp <;> omega) bs2
          have ba3 : Boxed W3 Ba 25 (.pointer (some ⟨b1, 0, none⟩)) := hFr.heap (by omega) (by simp <;> omega) ba2
          have bo3 : Boxed W3 (w.heap.size + 1) 3 (.int .i64 stop) := hFr.heap (by omega) (by simp <;> omega) bo2
          have hbel : Below S W2 W3 := hFr.below (by omega) (by simp <;> omega)
          have hset3 : IsSet W3 b1 g1 c1 k X := set_upto hset2 hbel (by omega) (by omega)
          have hT3 : TabAt W3 := hT2.below hbel (by omega)
          have hwn3 : W3.ownsRow w3.heap.size 3 1 (.slice (some ⟨gl, 0, none⟩) (elems k X).length capl) (elems k X).length (intV (elems k X)) := owns_cells hwn2 fun g' cur e hc => by
            obtain rfl : gl = g' := by simpa [Value.ownBlock] using e
            exact (hbel.block gl hglS).trans hc
          have D3 : Below w.heap.size w W3 := D2.trans (hbel.mono (by omega))
          obtain ⟨ao1, cp1, bq1, rd1⟩ := hTw3.fst.reads
          obtain ⟨ao2, cp2, bq2, rd2⟩ := hTw3.snd.reads
          obtain ⟨ao3, cp3, bq3, rd3⟩ := hOne.reads
          have hcapl : (elems k X).length ≤ capl := row_cap hwn3
          have rdw : Reads W3 (some ⟨gl, 0, none⟩) (elems k X) := row_reads hwn3
          obtain ⟨sh, hsh⟩ : ∃ sh, min m (elems k X).length = sh := ⟨_, rfl⟩
          have hshl : sh ≤ (elems k X).length := by omega
          rw [hsh] at bq3 rd3
          have hl3 : ((elems k X).take sh).length = sh := by rw [List.length_take]; omega
          rw [hl3] at bq3
          have rdt : Reads W3 (some ⟨gl, 0, none⟩) ((elems k X).take sh) := reads_take rdw
          have HR := hide (And.intro rd1 (And.intro rd2 (And.intro rd3 (And.intro rdw rdt))))
          have HL3 := hide hl3
          have HB := hide (And.intro bq1 (And.intro bq2 bq3))
          clear bw2 cw2 bs2 bl2 ba2 bo2 hset2 hT2 hwn2 D2 hFr hbel hOne hTw hTw3 rd1 rd2 rd3 rdw rdt hl3
          have ca1 := bq1.cell
          have ca2 := bq2.cell
          have ca3 := bq3.cell
          have co3 := bo3.cell
          have cw3 := bw3.cell
          have e32 : (32 : Nat) = 32 := rfl
          by_cases hcase : (elems k X).length < m
          · obtain rfl : sh = (elems k X).length := by omega
            have hgt : decide (((elems k X).length : Int) < (m : Int)) = true := decide_eq_true (by omega)
            have HC := hide hcase
            clear hcase
            go_wp2_with (go_at_call 12; refine (boundF_any stop _ hs1 hs2).mono ?_; rintro e w' ⟨rfl, hw⟩; obtain rfl := hw.symm; clear hw)
            go_quiet (first
              | (go_at_call_of 17 (Value.slice ao1 (elems k X).length cp1); refine Calls.quiet_of (same_true rfl rfl ?_ ?_ (by omega)); exact HR.out.1; exact HR.out.2.2.2.1)
              | (go_at_call_of 17 (Value.slice ao2 (elems k X).length cp2); refine Calls.quiet_of (same_true rfl rfl ?_ ?_ (by omega)); exact HR.out.2.1; exact HR.out.2.2.2.1)
              | (go_at_call_of 17 (Value.slice ao3 (elems k X).length cp3); refine Calls.quiet_of (same_true (l := (elems k X).take (elems k X).length) HL3.out.symm HL3.out.symm ?_ ?_ (by have := HL3.out; omega)); exact HR.out.2.2.1; exact HR.out.2.2.2.2))
            clear ca1 ca2 ca3 co3 cw3
            obtain ⟨Bs, hBs⟩ : ∃ Bs, W3.heap.size = Bs := ⟨_, rfl⟩
            obtain ⟨W4, hW4⟩ : ∃ W4, (W3.drewN nq).alloc (.cells #[.slice none 0 0] 22) = W4 := ⟨_, rfl⟩
            have d34 : Below W3.heap.size W3 W4 := by rw [← hW4]; exact (below_drewN' (Below.refl _ _) nq).alloc (Nat.le_refl _) _
            have hsz4' : W4.heap.size = Bs + 1 := by rw [← hW4, ← hBs]; exact World.size_alloc _ _
            have bt4 : Boxed W4 Bs 22 (.slice none 0 0) := by rw [← hW4, ← hBs]; exact Boxed.new _ _ _
            have bw4 : Boxed W4 (S + 3 + 1) 34 (.func (.func 47) #[] #[.pointer (some ⟨S + 3, 0, none⟩)]) := (d34.block _ bw3.lt).trans bw3
            have cw4 := bw4.cell
            go_wp2
            have hd4 : ∀ {B t : Nat} {u : Value}, Boxed W3 B t u → Boxed W4 B t u := fun hb => (d34.block _ hb.lt).trans hb
            have bs4 := hd4 bs3
            have ba4 := hd4 ba3
            have hset4 := hset3.below d34
            have hT4 := hT3.below d34 (by omega)
            have hwn4 := owns_below hwn3 d34
            have D4 := D3.trans (d34.mono (by omega))
            have hK14 := (d34.block Da (by omega)).trans hK1
            have hK24 := (d34.block Db hDbl).trans hK2
            have hpos4 : 0 < W4.heap.size := by omega
            have hBsS : S + 5 ≤ Bs ∧ Da < Bs ∧ Db < Bs ∧ S + 5 ≤ Da ∧ S + 5 ≤ Db := by omega
            generalize decide ((elems k X).length < m) = dv
            clear hd4 bs3 ba3 hset3 hT3 hwn3 D3 d34 hW4 bw3 bo3 bq1 bq2 bq3 HR HL3 HB cw4 bw4 hBs
            refine range_join (E := elems k X) (lb := #[.pointer (some ⟨S + 3, 0, none⟩)]) 8 rfl (all_stops _ (S + 3) b1 g1 c1 k X W4 bs4 hset4 hT4) hpos4 rfl
              (fun (pre : List (El (elems k X))) W => (One W4.heap.size Bs (vals pre) W ∧ ∃ X', IsSet W b1 g1 c1 k X') ∧ Fr [Bs, g1] W4.heap.size W4 W)
              (fun _ _ _ => False)
              (OwnFrom.and (OwnFrom.and (one_own _ _ _ _) (set_own _ _ _ _ _)) (Fr.own (Nat.le_refl _) (Nat.le_refl _)))
              (fun _ _ _ _ _ hs _ _ => hs)
              ⟨⟨⟨_, bt4, World.ownsRow_nil _ _ _ _⟩, X, hset4⟩, Fr.refl _ _ _⟩
              (fun x => { tmps := #[va, Value.int IntKind.i64 stop, Value.pointer (some { block := w.heap.size, off := 0 }), Value.pointer (some { block := w.heap.size + 1, off := 0 }), u4, Value.pointer (some { block := Ba, off := 0 }), Value.pointer (some { block := b2, off := 0 }), Value.pointer (some { block := b3, off := 0 }), Value.bool true, Value.slice (some { block := gl, off := 0 }) (elems k X).length capl, Value.int IntKind.i64 ↑k, Value.int IntKind.i64 ↑(elems k X).length, Value.int IntKind.i64 (-1), Value.int IntKind.i64 ↑k, Value.pointer (some { block := S, off := 0 }), Value.pointer (some { block := S + 1, off := 0 }), Value.pointer (some { block := S + 1 + 1, off := 0 }), Value.pointer (some { block := S + 3 + 1, off := 0 }), undef, undef, undef, Value.int IntKind.i64 ↑(elems k X).length, Value.pointer (some { block := Bs, off := 0 }), .int .i64 (x.1 : Int), vt, va, vt, Value.pointer (some { block := b1, off := 0 }), Value.pointer (some { block := b2, off := 0 }), Value.pointer (some { block := b3, off := 0 }), Value.bool true, Value.bool true, Value.bool false, Value.bool false, Value.bool true, Value.bool false, Value.bool false, Value.pointer (some { block := b1, off := 0 }), Value.slice (some { block := gl, off := 0 }) (elems k X).length capl, Value.pointer (some { block := w.heap.size, off := 0 }), Value.int IntKind.i64 N, Value.int IntKind.i64 ↑k, Value.pointer (some { block := b1, off := 0 }), Value.int IntKind.i64 (nextL (elems k X) 0), Value.int IntKind.i64 ↑k, Value.int IntKind.i64 ↑k, Value.bool false, u47, u48, u49, u50, u51, u52, u53, u54, u55, u56, u57, u58, u59, u60, u61, u62, u63, u64, u65, u66, u67, u68, u69, u70, u71, u72, u73, u74, Value.int IntKind.i64 ↑(elems k X).length, Value.slice (some { block := gl, off := 0 }) (elems k X).length capl, Value.int IntKind.i64 ↑(elems k X).length, Value.bool false, Value.bool false, Value.pointer (some { block := b1, off := 0 }), Value.int IntKind.i64 ↑(elems k X).length, Value.int IntKind.i64 ↑(elems k X).length, Value.bool false, Value.bool false, Value.bool false, Value.int IntKind.i64 (-1), Value.bool false, Value.bool false, Value.bool false, Value.pointer (some { block := b1, off := 0 }), Value.bool false, Value.bool false, Value.bool false, Value.pointer (some { block := b1, off := 0 }), Value.int IntKind.i64 ↑k, Value.bool false, Value.bool false, Value.bool false, Value.pointer (some { block := b1, off := 0 }), Value.int IntKind.i64 ↑k, Value.int IntKind.i64 (-1), Value.bool false, Value.bool false, Value.pointer (some { block := b1, off := 0 }), Value.func (Fn.func 47) #[] #[Value.pointer (some { block := S + 3, off := 0 })], Value.func (Fn.func 47) #[] #[Value.pointer (some { block := S + 3, off := 0 })], Value.bool false, Value.func (Fn.func 47) #[] #[Value.pointer (some { block := S + 3, off := 0 })], undef, undef, undef, undef, undef, undef, undef, undef, undef, undef, undef, undef, undef, undef, Value.func (Fn.func 47) #[] #[Value.pointer (some { block := S + 3, off := 0 })], undef, undef, undef, undef, undef, undef, undef, undef, undef, undef, undef, Value.int IntKind.i64 stop, Value.int IntKind.i64 ↑(boundN stop), Value.int IntKind.i64 ↑m, Value.int IntKind.i64 ↑m, Value.slice (some { block := gl, off := 0 }) (elems k X).length capl, Value.int IntKind.i64 ↑(elems k X).length, Value.bool dv, Value.slice (some { block := gl, off := 0 }) (elems k X).length capl, Value.int IntKind.i64 ↑(elems k X).length, Value.slice ao1 (elems k X).length cp1, Value.slice (some { block := gl, off := 0 }) (elems k X).length capl, Value.bool true, Value.bool false, Value.bool false, Value.slice ao2 (elems k X).length cp2, Value.slice (some { block := gl, off := 0 }) (elems k X).length capl, Value.bool true, Value.bool false, Value.bool false, Value.bool false, Value.slice ao3 (elems k X).length cp3, Value.slice (some { block := gl, off := 0 }) (elems k X).length capl, Value.int IntKind.i64 ↑(elems k X).length, Value.slice (some { block := gl, off := 0 }) (elems k X).length capl, Value.bool true, Value.bool false, Value.bool false, Value.func (Fn.func 47) #[] #[Value.pointer (some { block := S + 3, off := 0 })], .int .i64 (x.1 : Int), undef, undef, undef, undef, undef, undef, undef, undef, undef, undef, undef, undef, undef, undef, undef], defers := [] })
              ?assign ?body
              (fun W => One W4.heap.size Bs (elems k X) W ∧ Fr [Bs, g1] W4.heap.size W4 W)
              ?fin1 ?fin2 ?rest
            case assign =>
              intro l x W K hK
              gi_wp2
              exact hK
            case fin1 =>
              rintro xs W hxs ⟨⟨hOne, _⟩, hFr⟩
              have hv : vals xs = elems k X := hxs
              rw [hv] at hOne
              exact ⟨hOne, hFr⟩
            case fin2 =>
              rintro c q W _ h
              exact h.elim
            case body =>
              rintro l pre x W ⟨⟨⟨v1, q1, q2⟩, X1, hsX⟩, hFr⟩ hlt
              dsimp only
              have hszW := hFr.size
              have hvl := vals_len pre
              have HV := hide hvl
              clear hvl
              have hxk : x.1 < k := (mem_elems.1 x.2).1
              have hge2 := row_ge q2
              have hlt2 := fun g e => row_lt q2 (g := g) e
              have bA : Boxed W Ba 25 (.pointer (some ⟨b1, 0, none⟩)) := hFr.heap (by omega) (by simp <;> omega) ba4
              have cA := bA.cell
              gi_wp2
              refine ⟨trivial, (rem_i b1 g1 c1 k X1 (x.1 + 1) _ (by omega) _ hsX e1 l).mono ?_⟩
              rintro e W5 ⟨r5, X5, rfl, hsX5, hg5⟩
              have bA5 : Boxed W5 Ba 25 (.pointer (some ⟨b1, 0, none⟩)) := bA.kept hg5 (by simp; omega)
              have cA5 := bA5.cell
              clear cA
              gi_wp2
              refine ⟨trivial, (add_i b1 g1 c1 k X5 (x.1 + 2) _ (by omega) _ hsX5 e1 l).mono ?_⟩
              rintro e W6 ⟨r6, X6, rfl, hsX6, hg6⟩
              have hs5 := hg5.size
              have hs6 := hg6.size
              have q1' : Boxed W6 Bs 22 v1 := (q1.kept hg5 (by simp; omega)).kept hg6 (by simp; omega)
              have q2' : W6.ownsRow W4.heap.size 3 1 v1 (vals pre).length (intV (vals pre)) := owns_cells q2 fun g cur e hc => by
                have a1 := hge2 g e
                have a2 := hlt2 g e
                rw [hg6.block g (by omega) (fun e' => by cases e'; omega), hg5.block g a2 (fun e' => by cases e'; omega)]
                exact hc
              have cB := q1'.cell
              clear cA5 bA5
              gi_wp2_with (gi_at_builtin; refine wpListIn_append_own_at _ rfl _ _ 22 rfl W4.heap.size 3 i0 (.int .i64 0) 1 8 Tryd.underlying22 hi hz0 hz1 hz2 rfl (by decide) v1 (vals pre).length (intV (vals pre)) rfl (q2'.alloc _) ⟨W6.heap.size, 0, none⟩ 1 1 [.int .i64 (x.1 : Int)] rfl rfl (cell_one_new _ _ _) (by simp [Value.oneCell']) (by have := HV.out; unfold maxLen; omega) (by have := HV.out; omega) (by simp; omega) ?_; intro v' w1 hown' hgrow hnil hat; obtain ⟨g', cap', rfl⟩ := ownsRow_succ hown'; obtain ⟨o1, app, o3⟩ := app_step (by omega) (by omega) (by omega) q1' q2' hown' hgrow hat; have co1 := o1.cell; have fo1 := o1.frozen)
              have hL : (vals pre).length + 1 = (vals pre ++ [x.1]).length := by simp
              rw [intV_snoc] at o3
              have K56 : KpU W4.heap.size W W6 := (KpU.grown hg5 (by omega) (fun r e => by cases e; exact ⟨by omega, .inl (by omega)⟩)).trans (KpU.grown hg6 (by omega) (fun r e => by cases e; exact ⟨by omega, .inl (by omega)⟩))
              have F56 : Fr [Bs, g1] W4.heap.size W W6 := (Fr.of_grown hg5 (by omega) (fun r e => by cases e; exact .inl (by simp))).trans (Fr.of_grown hg6 (by omega) (fun r e => by cases e; exact .inl (by simp)))
              have N56 : KeepsFrom W4.heap.size W W6 := (KeepsFrom.of_grownBy hg5 (fun r e => by cases e; omega)).trans (KeepsFrom.of_grownBy hg6 (fun r e => by cases e; omega))
              have hb7 : Below Bs W6 _ := app.fr.below (by omega) (by simp)
              exact ⟨N56.trans (app.others.from _), K56.trans (app.kp _), ⟨⟨_, app.box, by rw [vals_snoc, ← hL]; exact o3⟩, X6, set_upto hsX6 hb7 (by omega) (by omega)⟩, (hFr.trans F56).trans (app.fr.more (by simp) (Nat.le_refl _))⟩
            case rest =>
              rintro Dc W8 hDc ⟨hOne, hFr⟩ hK3
              have hsz8 := hFr.size
              obtain ⟨ao4, cp4, bq4, rd4⟩ := hOne.reads
              have hwn8 : W8.ownsRow w3.heap.size 3 1 (.slice (some ⟨gl, 0, none⟩) (elems k X).length capl) (elems k X).length (intV (elems k X)) := owns_cells hwn4 fun g' cur e hc => by
                obtain rfl : gl = g' := by simpa [Value.ownBlock] using e
                exact hFr.heap (by omega) (by simp <;> omega) hc
              have rdw := row_reads hwn8
              have hK18 := hFr.heap (by omega) (by simp <;> omega) hK14
              have hK28 := hFr.heap (by omega) (by simp <;> omega) hK24
              have hb8 : Below w.heap.size W4 W8 := hFr.below (by omega) (by simp <;> omega)
              have D8 := D4.trans hb8
              have c4 := bq4.cell
              go_wp2_with (go_at_call 17; refine (same_b rd4 rdw (by omega)).mono ?_; rintro e W9 ⟨rfl, d9⟩)
              have b9 : Below w.heap.size w W9 := D8.trans (d9.mono (by omega))
              have k3 := (d9.block Dc (Array.getElem?_eq_some_iff.1 hK3).1).trans hK3
              have k2 := (d9.block Db (Array.getElem?_eq_some_iff.1 hK28).1).trans hK28
              have k1 := (d9.block Da (Array.getElem?_eq_some_iff.1 hK18).1).trans hK18
              have p2 : (W9.putObj Dc (.deferred none)).heap[Db]? = some (.deferred (some [])) := (World.putObj_heap_other (by omega)).trans k2
              have p1 : ((W9.putObj Dc (.deferred none)).putObj Db (.deferred none)).heap[Da]? = some (.deferred (some [])) := (World.putObj_heap_other (by omega)).trans ((World.putObj_heap_other (by omega)).trans k1)
              refine ⟨by simp, .inl ⟨_, _, rfl, run_takeDeferred k3, by simp, .inl ⟨_, _, rfl, run_takeDeferred p2, by simp, .inl ⟨_, _, rfl, run_takeDeferred p1, ?_⟩⟩⟩⟩
              refine ⟨_, results_tmp rfl _ _ _, rfl, ?_⟩
              exact ((b9.trans (belowK_b (w := w) (Nat.le_refl _) W9 Dc _ _ (by omega) k3 rfl rfl)).trans (belowK_b (w := w) (Nat.le_refl _) _ Db _ _ (by omega) p2 rfl rfl)).trans (belowK_b (w := w) (Nat.le_refl _) _ Da _ _ (by omega) p1 rfl rfl)
          · obtain rfl : sh = m := by omega
            have hgt : decide (((elems k X).length : Int) < (sh : Int)) = false := decide_eq_false (by omega)
            have HC := hide hcase
            clear hcase
            go_wp2_with (go_at_call 12; refine (boundF_any stop _ hs1 hs2).mono ?_; rintro e w' ⟨rfl, hw⟩; obtain rfl := hw.symm; clear hw)
            go_quiet (first
              | (go_at_call_of 17 (Value.slice ao1 (elems k X).length cp1); refine Calls.quiet_of (same_true rfl rfl ?_ ?_ (by omega)); exact HR.out.1; exact HR.out.2.2.2.1)
              | (go_at_call_of 17 (Value.slice ao2 (elems k X).length cp2); refine Calls.quiet_of (same_true rfl rfl ?_ ?_ (by omega)); exact HR.out.2.1; exact HR.out.2.2.2.1)
              | (go_at_call_of 17 (Value.slice ao3 sh cp3); refine Calls.quiet_of (same_true (l := (elems k X).take sh) HL3.out.symm HL3.out.symm ?_ ?_ (by have := HL3.out; omega)); exact HR.out.2.2.1; exact HR.out.2.2.2.2))
            clear ca1 ca2 ca3 co3 cw3
            obtain ⟨Bs, hBs⟩ : ∃ Bs, W3.heap.size = Bs := ⟨_, rfl⟩
            obtain ⟨W4, hW4⟩ : ∃ W4, (W3.drewN nq).alloc (.cells #[.slice none 0 0] 22) = W4 := ⟨_, rfl⟩
            have d34 : Below W3.heap.size W3 W4 := by rw [← hW4]; exact (below_drewN' (Below.refl _ _) nq).alloc (Nat.le_refl _) _
            have hsz4' : W4.heap.size = Bs + 1 := by rw [← hW4, ← hBs]; exact World.size_alloc _ _
            have bt4 : Boxed W4 Bs 22 (.slice none 0 0) := by rw [← hW4, ← hBs]; exact Boxed.new _ _ _
            have bw4 : Boxed W4 (S + 3 + 1) 34 (.func (.func 47) #[] #[.pointer (some ⟨S + 3, 0, none⟩)]) := (d34.block _ bw3.lt).trans bw3
            have cw4 := bw4.cell
            go_wp2
            have hd4 : ∀ {B t : Nat} {u : Value}, Boxed W3 B t u → Boxed W4 B t u := fun hb => (d34.block _ hb.lt).trans hb
            have bs4 := hd4 bs3
            have ba4 := hd4 ba3
            have hset4 := hset3.below d34
            have hT4 := hT3.below d34 (by omega)
            have hwn4 := owns_below hwn3 d34
            have D4 := D3.trans (d34.mono (by omega))
            have hK14 := (d34.block Da (by omega)).trans hK1
            have hK24 := (d34.block Db hDbl).trans hK2
            have hpos4 : 0 < W4.heap.size := by omega
            have hBsS : S + 5 ≤ Bs ∧ Da < Bs ∧ Db < Bs ∧ S + 5 ≤ Da ∧ S + 5 ≤ Db := by omega
            generalize decide ((elems k X).length < sh) = dv
            clear hd4 bs3 ba3 hset3 hT3 hwn3 D3 d34 hW4 bw3 bo3 bq1 bq2 bq3 HR HL3 HB cw4 bw4 hBs
            refine range_join (E := elems k X) (lb := #[.pointer (some ⟨S + 3, 0, none⟩)]) 8 rfl (all_stops _ (S + 3) b1 g1 c1 k X W4 bs4 hset4 hT4) hpos4 rfl
              (fun (pre : List (El (elems k X))) W => (One W4.heap.size Bs (vals pre) W ∧ ∃ X', IsSet W b1 g1 c1 k X') ∧ Fr [Bs, g1] W4.heap.size W4 W)
              (fun _ _ _ => False)
              (OwnFrom.and (OwnFrom.and (one_own _ _ _ _) (set_own _ _ _ _ _)) (Fr.own (Nat.le_refl _) (Nat.le_refl _)))
              (fun _ _ _ _ _ hs _ _ => hs)
              ⟨⟨⟨_, bt4, World.ownsRow_nil _ _ _ _⟩, X, hset4⟩, Fr.refl _ _ _⟩
              (fun x => { tmps := #[va, Value.int IntKind.i64 stop, Value.pointer (some { block := w.heap.size, off := 0 }), Value.pointer (some { block := w.heap.size + 1, off := 0 }), u4, Value.pointer (some { block := Ba, off := 0 }), Value.pointer (some { block := b2, off := 0 }), Value.pointer (some { block := b3, off := 0 }), Value.bool true, Value.slice (some { block := gl, off := 0 }) (elems k X).length capl, Value.int IntKind.i64 ↑k, Value.int IntKind.i64 ↑(elems k X).length, Value.int IntKind.i64 (-1), Value.int IntKind.i64 ↑k, Value.pointer (some { block := S, off := 0 }), Value.pointer (some { block := S + 1, off := 0 }), Value.pointer (some { block := S + 1 + 1, off := 0 }), Value.pointer (some { block := S + 3 + 1, off := 0 }), undef, undef, undef, Value.int IntKind.i64 ↑sh, Value.pointer (some { block := Bs, off := 0 }), .int .i64 (x.1 : Int), vt, va, vt, Value.pointer (some { block := b1, off := 0 }), Value.pointer (some { block := b2, off := 0 }), Value.pointer (some { block := b3, off := 0 }), Value.bool true, Value.bool true, Value.bool false, Value.bool false, Value.bool true, Value.bool false, Value.bool false, Value.pointer (some { block := b1, off := 0 }), Value.slice (some { block := gl, off := 0 }) (elems k X).length capl, Value.pointer (some { block := w.heap.size, off := 0 }), Value.int IntKind.i64 N, Value.int IntKind.i64 ↑k, Value.pointer (some { block := b1, off := 0 }), Value.int IntKind.i64 (nextL (elems k X) 0), Value.int IntKind.i64 ↑k, Value.int IntKind.i64 ↑k, Value.bool false, u47, u48, u49, u50, u51, u52, u53, u54, u55, u56, u57, u58, u59, u60, u61, u62, u63, u64, u65, u66, u67, u68, u69, u70, u71, u72, u73, u74, Value.int IntKind.i64 ↑(elems k X).length, Value.slice (some { block := gl, off := 0 }) (elems k X).length capl, Value.int IntKind.i64 ↑(elems k X).length, Value.bool false, Value.bool false, Value.pointer (some { block := b1, off := 0 }), Value.int IntKind.i64 ↑(elems k X).length, Value.int IntKind.i64 ↑(elems k X).length, Value.bool false, Value.bool false, Value.bool false, Value.int IntKind.i64 (-1), Value.bool false, Value.bool false, Value.bool false, Value.pointer (some { block := b1, off := 0 }), Value.bool false, Value.bool false, Value.bool false, Value.pointer (some { block := b1, off := 0 }), Value.int IntKind.i64 ↑k, Value.bool false, Value.bool false, Value.bool false, Value.pointer (some { block := b1, off := 0 }), Value.int IntKind.i64 ↑k, Value.int IntKind.i64 (-1), Value.bool false, Value.bool false, Value.pointer (some { block := b1, off := 0 }), Value.func (Fn.func 47) #[] #[Value.pointer (some { block := S + 3, off := 0 })], Value.func (Fn.func 47) #[] #[Value.pointer (some { block := S + 3, off := 0 })], Value.bool false, Value.func (Fn.func 47) #[] #[Value.pointer (some { block := S + 3, off := 0 })], undef, undef, undef, undef, undef, undef, undef, undef, undef, undef, undef, undef, undef, undef, Value.func (Fn.func 47) #[] #[Value.pointer (some { block := S + 3, off := 0 })], undef, undef, undef, undef, undef, undef, undef, undef, undef, undef, undef, Value.int IntKind.i64 stop, Value.int IntKind.i64 ↑(boundN stop), Value.int IntKind.i64 ↑sh, Value.int IntKind.i64 ↑sh, Value.slice (some { block := gl, off := 0 }) (elems k X).length capl, Value.int IntKind.i64 ↑(elems k X).length, Value.bool dv, undef, undef, Value.slice ao1 (elems k X).length cp1, Value.slice (some { block := gl, off := 0 }) (elems k X).length capl, Value.bool true, Value.bool false, Value.bool false, Value.slice ao2 (elems k X).length cp2, Value.slice (some { block := gl, off := 0 }) (elems k X).length capl, Value.bool true, Value.bool false, Value.bool false, Value.bool false, Value.slice ao3 sh cp3, Value.slice (some { block := gl, off := 0 }) (elems k X).length capl, Value.int IntKind.i64 ↑sh, Value.slice (some { block := gl, off := 0 }) sh capl, Value.bool true, Value.bool false, Value.bool false, Value.func (Fn.func 47) #[] #[Value.pointer (some { block := S + 3, off := 0 })], .int .i64 (x.1 : Int), undef, undef, undef, undef, undef, undef, undef, undef, undef, undef, undef, undef, undef, undef, undef], defers := [] })
              ?assign ?body
              (fun W => One W4.heap.size Bs (elems k X) W ∧ Fr [Bs, g1] W4.heap.size W4 W)
              ?fin1 ?fin2 ?rest
            case assign =>
              intro l x W K hK
              gi_wp2
              exact hK
            case fin1 =>
              rintro xs W hxs ⟨⟨hOne, _⟩, hFr⟩
              have hv : vals xs = elems k X := hxs
              rw [hv] at hOne
              exact ⟨hOne, hFr⟩
            case fin2 =>
              rintro c q W _ h
              exact h.elim
            case body =>
              rintro l pre x W ⟨⟨⟨v1, q1, q2⟩, X1, hsX⟩, hFr⟩ hlt
              dsimp only
              have hszW := hFr.size
              have hvl := vals_len pre
              have HV := hide hvl
              clear hvl
              have hxk : x.1 < k := (mem_elems.1 x.2).1
              have hge2 := row_ge q2
              have hlt2 := fun g e => row_lt q2 (g := g) e
              have bA : Boxed W Ba 25 (.pointer (some ⟨b1, 0, none⟩)) := hFr.heap (by omega) (by simp <;> omega) ba4
              have cA := bA.cell
              gi_wp2
              refine ⟨trivial, (rem_i b1 g1 c1 k X1 (x.1 + 1) _ (by omega) _ hsX e1 l).mono ?_⟩
              rintro e W5 ⟨r5, X5, rfl, hsX5, hg5⟩
              have bA5 : Boxed W5 Ba 25 (.pointer (some ⟨b1, 0, none⟩)) := bA.kept hg5 (by simp; omega)
              have cA5 := bA5.cell
              clear cA
              gi_wp2
              refine ⟨trivial, (add_i b1 g1 c1 k X5 (x.1 + 2) _ (by omega) _ hsX5 e1 l).mono ?_⟩
              rintro e W6 ⟨r6, X6, rfl, hsX6, hg6⟩
              have hs5 := hg5.size
              have hs6 := hg6.size
              have q1' : Boxed W6 Bs 22 v1 := (q1.kept hg5 (by simp; omega)).kept hg6 (by simp; omega)
              have q2' : W6.ownsRow W4.heap.size 3 1 v1 (vals pre).length (intV (vals pre)) := owns_cells q2 fun g cur e hc => by
                have a1 := hge2 g e
                have a2 := hlt2 g e
                rw [hg6.block g (by omega) (fun e' => by cases e'; omega), hg5.block g a2 (fun e' => by cases e'; omega)]
                exact hc
              have cB := q1'.cell
              clear cA5 bA5
              gi_wp2_with (gi_at_builtin; refine wpListIn_append_own_at _ rfl _ _ 22 rfl W4.heap.size 3 i0 (.int .i64 0) 1 8 Tryd.underlying22 hi hz0 hz1 hz2 rfl (by decide) v1 (vals pre).length (intV (vals pre)) rfl (q2'.alloc _) ⟨W6.heap.size, 0, none⟩ 1 1 [.int .i64 (x.1 : Int)] rfl rfl (cell_one_new _ _ _) (by simp [Value.oneCell']) (by have := HV.out; unfold maxLen; omega) (by have := HV.out; omega) (by simp; omega) ?_; intro v' w1 hown' hgrow hnil hat; obtain ⟨g', cap', rfl⟩ := ownsRow_succ hown'; obtain ⟨o1, app, o3⟩ := app_step (by omega) (by omega) (by omega) q1' q2' hown' hgrow hat; have co1 := o1.cell; have fo1 := o1.frozen)
              have hL : (vals pre).length + 1 = (vals pre ++ [x.1]).length := by simp
              rw [intV_snoc] at o3
              have K56 : KpU W4.heap.size W W6 := (KpU.grown hg5 (by omega) (fun r e => by cases e; exact ⟨by omega, .inl (by omega)⟩)).trans (KpU.grown hg6 (by omega) (fun r e => by cases e; exact ⟨by omega, .inl (by omega)⟩))
              have F56 : Fr [Bs, g1] W4.heap.size W W6 := (Fr.of_grown hg5 (by omega) (fun r e => by cases e; exact .inl (by simp))).trans (Fr.of_grown hg6 (by omega) (fun r e => by cases e; exact .inl (by simp)))
              have N56 : KeepsFrom W4.heap.size W W6 := (KeepsFrom.of_grownBy hg5 (fun r e => by cases e; omega)).trans (KeepsFrom.of_grownBy hg6 (fun r e => by cases e; omega))
              have hb7 : Below Bs W6 _ := app.fr.below (by omega) (by simp)
              exact ⟨N56.trans (app.others.from _), K56.trans (app.kp _), ⟨⟨_, app.box, by rw [vals_snoc, ← hL]; exact o3⟩, X6, set_upto hsX6 hb7 (by omega) (by omega)⟩, (hFr.trans F56).trans (app.fr.more (by simp) (Nat.le_refl _))⟩
            case rest =>
              rintro Dc W8 hDc ⟨hOne, hFr⟩ hK3
              have hsz8 := hFr.size
              obtain ⟨ao4, cp4, bq4, rd4⟩ := hOne.reads
              have hwn8 : W8.ownsRow w3.heap.size 3 1 (.slice (some ⟨gl, 0, none⟩) (elems k X).length capl) (elems k X).length (intV (elems k X)) := owns_cells hwn4 fun g' cur e hc => by
                obtain rfl : gl = g' := by simpa [Value.ownBlock] using e
                exact hFr.heap (by omega) (by simp <;> omega) hc
              have rdw := row_reads hwn8
              have hK18 := hFr.heap (by omega) (by simp <;> omega) hK14
              have hK28 := hFr.heap (by omega) (by simp <;> omega) hK24
              have hb8 : Below w.heap.size W4 W8 := hFr.below (by omega) (by simp <;> omega)
              have D8 := D4.trans hb8
              have c4 := bq4.cell
              go_wp2_with (go_at_call 17; refine (same_b rd4 rdw (by omega)).mono ?_; rintro e W9 ⟨rfl, d9⟩)
              have b9 : Below w.heap.size w W9 := D8.trans (d9.mono (by omega))
              have k3 := (d9.block Dc (Array.getElem?_eq_some_iff.1 hK3).1).trans hK3
              have k2 := (d9.block Db (Array.getElem?_eq_some_iff.1 hK28).1).trans hK28
              have k1 := (d9.block Da (Array.getElem?_eq_some_iff.1 hK18).1).trans hK18
              have p2 : (W9.putObj Dc (.deferred none)).heap[Db]? = some (.deferred (some [])) := (World.putObj_heap_other (by omega)).trans k2
              have p1 : ((W9.putObj Dc (.deferred none)).putObj Db (.deferred none)).heap[Da]? = some (.deferred (some [])) := (World.putObj_heap_other (by omega)).trans ((World.putObj_heap_other (by omega)).trans k1)
              refine ⟨by simp, .inl ⟨_, _, rfl, run_takeDeferred k3, by simp, .inl ⟨_, _, rfl, run_takeDeferred p2, by simp, .inl ⟨_, _, rfl, run_takeDeferred p1, ?_⟩⟩⟩⟩
              refine ⟨_, results_tmp rfl _ _ _, rfl, ?_⟩
              exact ((b9.trans (belowK_b (w := w) (Nat.le_refl _) W9 Dc _ _ (by omega) k3 rfl rfl)).trans (belowK_b (w := w) (Nat.le_refl _) _ Db _ _ (by omega) p2 rfl rfl)).trans (belowK_b (w := w) (Nat.le_refl _) _ Da _ _ (by omega) p1 rfl rfl)
      case stop =>
        rintro D c pre W _ _ h _
        exact h.elim
end Go.Proofs.YtdgmokelmocejaaDoor
