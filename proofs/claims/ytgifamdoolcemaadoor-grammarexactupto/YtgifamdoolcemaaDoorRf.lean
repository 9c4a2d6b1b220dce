import Derived.Test.YtgifamdoolcemaaDoorRp
namespace Go.Proofs.YtgifamdoolcemaaDoor
open Go.RowKit Go.Maps

/-- What file says. -/
theorem file_val {sec : Nat} {x : List Nat} {e : Nat × Nat} (h5 : sec ≤ 5) (h : LInv sec x e) : ((lineF sec x).1 && (decide (sec = 5) || (decide (sec = 4) && (lineF sec x).2.1))) = isF e := by
  rcases L_val h with ⟨hv, hs⟩ | ⟨hv, h4, hs⟩ | ⟨hv, hs⟩
  · rw [hv]
    unfold isF
    rw [hs]
    have hc : sec = 0 ∨ sec = 1 ∨ sec = 2 ∨ sec = 3 ∨ sec = 4 ∨ sec = 5 := by omega
    rcases hc with rfl | rfl | rfl | rfl | rfl | rfl <;> rfl
  · rw [hv]
    unfold isF
    rw [hs]
    have hc : sec = 0 ∨ sec = 1 ∨ sec = 2 ∨ sec = 3 ∨ sec = 4 := by omega
    rcases hc with rfl | rfl | rfl | rfl | rfl <;> rfl
  · rw [hv]
    unfold isF
    rw [Bool.false_and, hs]
    rfl

set_option maxRecDepth 100000 in
set_option maxHeartbeats 2000000 in
theorem file_any (s : ByteArray) (x sec f : Nat) (e : Nat × Nat) (w : World) (hs : s.size ≤ 1048600) (h5 : sec ≤ 5) (hf : f ≤ s.size) (hln : LInv sec ((bts s).drop f) e) :
    Calls Tryd.prog 20 #[.string s, .agg #[.int .i64 (x : Nat), .int .i64 (sec : Nat), .int .i64 (f : Nat)]] w fun e' w' => e' = .returned (.bool (isF e)) ∧ Below w.heap.size w w' := by
  have hli := fun W => line_any sec (s.extract f s.size) W (by rw [ByteArray.size_extract]; omega) h5
  rw [bts_tail] at hli
  have HF := hide (file_val h5 hln)
  generalize lineF sec ((bts s).drop f) = v at *
  obtain ⟨a, b, c⟩ := v
  simp only at HF
  have k0 : (0 : Int) ≤ (f : Int) := by omega
  have k1 : (f : Int) ≤ (s.size : Int) := by omega
  have hc : sec = 5 ∨ sec = 4 ∨ (sec ≠ 5 ∧ sec ≠ 4) := by omega
  clear hln
  have hd1 : Below w.heap.size w (w.alloc (.cells #[.int .i64 (x : Nat), .int .i64 (sec : Nat), .int .i64 (f : Nat)] 45)) := (Below.refl _ _).alloc (Nat.le_refl _) _
  have HD1 := hide hd1
  have HC : Hid (PlcAt (w.alloc (.cells #[.int .i64 (x : Nat), .int .i64 (sec : Nat), .int .i64 (f : Nat)] 45)) w.heap.size x sec f) := hide (MapKept.heap_alloc _ _).1
  clear hd1
  go_enter Tryd.func20, Tryd.ntmps20
  go_wp2_with fail
  refine (hli _).mono ?_
  rintro e' w1 ⟨rfl, d⟩
  have hp := HC.out.below d HC.out.lt
  obtain ⟨⟨c0, c1, c2⟩, _⟩ := hp.facts
  have HD := hide (HD1.out.trans (d.mono HD1.out.size))
  clear hp d hli
  cases a
  · go_wp2
    go_ret
    exact ⟨by rw [← HF.out]; first | rfl | simp, HD.out⟩
  · rcases hc with h | h | ⟨h, h'⟩
    · have i5 : ((sec : Int) == 5) = true := by rw [beq_iff_eq]; omega
      have HE : Hid (isF e = true) := hide (by rw [← HF.out, decide_eq_true h]; rfl)
      clear h
      go_wp2
      go_ret
      exact ⟨by rw [HE.out]; first | rfl | simp, HD.out⟩
    · have i5 : ((sec : Int) == 5) = false := by rw [beq_eq_false_iff_ne]; omega
      have i4 : ((sec : Int) == 4) = true := by rw [beq_iff_eq]; omega
      have HE : Hid (isF e = b) := hide (by rw [← HF.out, decide_eq_true h, decide_eq_false (show ¬ sec = 5 by omega)]; simp)
      clear h
      go_wp2
      go_ret
      exact ⟨by rw [HE.out]; first | rfl | simp, HD.out⟩
    · have i5 : ((sec : Int) == 5) = false := by rw [beq_eq_false_iff_ne]; omega
      have i4 : ((sec : Int) == 4) = false := by rw [beq_eq_false_iff_ne]; omega
      have HE : Hid (isF e = false) := hide (by rw [← HF.out, decide_eq_false h, decide_eq_false h']; simp)
      clear h h'
      go_wp2
      go_ret
      exact ⟨by rw [HE.out]; first | rfl | simp, HD.out⟩

set_option maxRecDepth 100000 in
set_option maxHeartbeats 2000000 in
theorem rcheck_any (s : ByteArray) (w : World) (hs : s.size ≤ 1048600) :
    Calls Tryd.prog 12 #[.string s] w fun e w' => e = .returned (.tuple #[.int .i64 (lenF s : Nat), .int .i64 (errF s : Nat)]) ∧ Below w.heap.size w w' := by
  have hpl := fun W => place_any s W hs
  have hle := len_le s
  have HE : Hid (errF s = if lenF s < s.size ∨ isF (endF s) = false then 30 else 0) := hide rfl
  have HT : Hid (∀ f, lenF s = s.size → ((bts s).take (lenF s)).drop f = (bts s).drop f) := hide (fun f h => by rw [h, List.take_of_length_le (by rw [bts_len]; exact Nat.le_refl _)])
  generalize endF s = en at *
  generalize hn : lenF s = n at *
  go_enter Tryd.func12, Tryd.ntmps12
  go_wp2_with fail
  refine (hpl _).mono ?_
  rintro e w1 ⟨sec, f, rfl, h5, hfn, hln, d⟩
  have HD := hide (d.alloc d.size (.cells #[.int .i64 (n : Nat), .int .i64 (sec : Nat), .int .i64 (f : Nat)] 45))
  have HC : Hid (PlcAt (w1.alloc (.cells #[.int .i64 (n : Nat), .int .i64 (sec : Nat), .int .i64 (f : Nat)] 45)) w1.heap.size n sec f) := hide (MapKept.heap_alloc _ _).1
  clear hpl d
  by_cases hlt : n < s.size
  · have i1 : (n : Int) < (s.size : Int) := by omega
    have i2 : decide ((n : Int) < (s.size : Int)) = true := decide_eq_true i1
    have HL := hide hlt
    clear hlt hln hn
    go_wp2
    go_ret2
    exact ⟨by rw [HE.out, if_pos (.inl HL.out)]; rfl, HD.out⟩
  · have i1 : ¬ (n : Int) < (s.size : Int) := by omega
    have HL := hide hlt
    have hns : n = s.size := by omega
    rw [HT.out f hns] at hln
    have hfi := fun W => file_any s n sec f en W hs h5 (by omega) hln
    clear hlt hln hns hn
    go_wp2_with fail
    refine (hfi _).mono ?_
    rintro e w2 ⟨rfl, d2⟩
    have hp := HC.out.below d2 HC.out.lt
    obtain ⟨⟨c0, c1, c2⟩, _⟩ := hp.facts
    have HD2 := hide (HD.out.trans (d2.mono HD.out.size))
    clear hp d2 hfi
    generalize isF en = fl at *
    cases fl
    · go_wp2
      go_ret2
      exact ⟨by rw [HE.out, if_pos (by simp)]; rfl, HD2.out⟩
    · go_wp2
      go_ret2
      exact ⟨by rw [HE.out, if_neg (by have := HL.out; simp; omega)]; rfl, HD2.out⟩
end Go.Proofs.YtgifamdoolcemaaDoor
