import Derived.Test.YtmagchclmmphaaaGreatDoorTo
namespace Go.Proofs.YtmagchclmmphaaaGreatDoor
open Go.RowKit Go.Maps

def opR (s : RuT) : OpT := (s.1, if s.2.1 = ⟨#[]⟩ then 0 else 1)
theorem str_empty (q : ByteArray) : (q.toList == []) = decide (q = ⟨#[]⟩) := by
  have := str_beq q ⟨#[]⟩
  have e : (⟨#[]⟩ : ByteArray).toList = [] := by rw [ByteArray.toList_eq]
  rw [e] at this
  exact this

set_option maxRecDepth 100000 in
set_option maxHeartbeats 1000000 in
theorem opOf_any (s : RuT) (w : World) : Calls Tryz.prog 67 #[.agg #[.string s.1, .string s.2.1, .string s.2.2]] w fun e w' => e = .returned (.agg #[.string (opR s).1, .int .i64 ((opR s).2 : Nat)]) ∧ Below w.heap.size w w' := by
  have hse := str_empty s.2.1
  by_cases h : s.2.1 = ⟨#[]⟩
  · have hse' : (s.2.1.toList == []) = true := by rw [hse]; exact decide_eq_true h
    have ho : opR s = (s.1, 0) := by unfold opR; rw [if_pos h]
    rw [ho]
    have H := hide h
    clear h hse
    go_enter Tryz.func67, Tryz.ntmps67
    go_wp2
    refine bodyPost_ret (v := .agg #[.string s.1, .int .i64 0]) (by simp [results, Tryz.results67, go_sem]) rfl ⟨rfl, ?_⟩
    exact (((Below.refl _ _).alloc (Nat.le_refl _) _)).alloc (by simp) _
  · have hse' : (s.2.1.toList == []) = false := by rw [hse]; exact decide_eq_false h
    have ho : opR s = (s.1, 1) := by unfold opR; rw [if_neg h]
    rw [ho]
    have H := hide h
    clear h hse
    go_enter Tryz.func67, Tryz.ntmps67
    go_wp2
    refine bodyPost_ret (v := .agg #[.string s.1, .int .i64 1]) (by simp [results, Tryz.results67, go_sem]) rfl ⟨rfl, ?_⟩
    exact (((Below.refl _ _).alloc (Nat.le_refl _) _)).alloc (by simp) _

/-- A line of a rule. -/
def ruL (L : List ByteArray) : RuT := (L.getD 0 ⟨#[]⟩, if L.length = 3 then L.getD 1 ⟨#[]⟩ else ⟨#[]⟩, L.getD (L.length - 1) ⟨#[]⟩)
theorem LnS.get {W : World} {b : Nat} {r : RS} {ao : Option Addr} {L : List ByteArray} (h : LnS W b r ao L) (hl : 0 < L.length) : ∃ g o, ao = some ⟨g, o, none⟩ ∧ ¬ RB b r g ∧ ∀ j (_ : j < L.length), W.cell? ⟨g, o + j, none⟩ = some (.string (L.getD j ⟨#[]⟩)) := by
  obtain ⟨g, o, rfl, _, n⟩ := h 0 hl
  refine ⟨g, o, rfl, n, fun j hj => ?_⟩
  obtain ⟨g', o', e, c, _⟩ := h j hj
  cases e
  rw [c]; congr 2; simp [List.getD, hj]

theorem LnS.tail {W : World} {b : Nat} {r : RS} {g o : Nat} {a : ByteArray} {L : List ByteArray} (h : LnS W b r (some ⟨g, o, none⟩) (a :: L)) : LnS W b r (some ⟨g, o + 1, none⟩) L := fun j hj => by
  obtain ⟨g', o', e, c, n⟩ := h (j + 1) (by simp; omega)
  cases e
  exact ⟨g, o + 1, rfl, by rw [show o + 1 + j = o + (j + 1) by omega]; exact c, n⟩
theorem opOf3 (s1 s2 s3 : ByteArray) (hne : s2 ≠ ⟨#[]⟩) (w : World) : Calls Tryz.prog 67 #[.agg #[.string s1, .string s2, .string s3]] w fun e w' => e = .returned (.agg #[.string s1, .int .i64 1]) ∧ Below w.heap.size w w' := by
  refine (opOf_any (s1, s2, s3) w).mono ?_
  rintro e w' ⟨rfl, d⟩
  refine ⟨?_, d⟩
  unfold opR
  rw [if_neg hne]
  rfl
theorem opOf2 (s1 s3 : ByteArray) (w : World) : Calls Tryz.prog 67 #[.agg #[.string s1, .string ⟨#[]⟩, .string s3]] w fun e w' => e = .returned (.agg #[.string s1, .int .i64 0]) ∧ Below w.heap.size w w' := by
  refine (opOf_any (s1, ⟨#[]⟩, s3) w).mono ?_
  rintro e w' ⟨rfl, d⟩
  refine ⟨?_, d⟩
  unfold opR
  rw [if_pos rfl]
  rfl

set_option maxRecDepth 100000 in
set_option maxHeartbeats 2000000 in
theorem takeRule3_any (n0 b : Nat) (w : World) (r : RS) (ao : Option Addr) (cap : Nat) (s1 s2 s3 : ByteArray) (h : Hid (Rd n0 b w r)) (hL : Hid (LnS w b r ao [s1, s2, s3])) (hok : Hid (s1.size ≤ 1048576 ∧ s2.size ≤ 1048576 ∧ s3.size ≤ 1048576)) (hne : Hid (s2 ≠ ⟨#[]⟩)) (hl : Hid (r.O.length ≤ 67108863 ∧ r.S.length ≤ 67108861 ∧ r.R.length ≤ 67108863)) (hcap : 3 ≤ cap) :
    Calls Tryz.prog 73 #[.pointer (some ⟨b, 0, none⟩), .slice ao 3 cap] w fun e w' => e = .returned (.tuple #[]) ∧ ∃ vo mo vs ms vr mr, Stp n0 b w r w' { r with O := sadd r.O (s1, 1), S := sadd (sadd r.S s2) s3, R := sadd r.R (s1, s2, s3), vo := vo, mo := mo, vs := vs, ms := ms, vr := vr, mr := mr } := by
  obtain ⟨g, o, rfl, nb, cells⟩ := hL.out.get (by simp)
  have c0 : w.cell? ⟨g, o, none⟩ = some (.string s1) := cells 0 (by simp)
  have c1 : w.cell? ⟨g, o + 1, none⟩ = some (.string s2) := cells 1 (by simp)
  have c2 : w.cell? ⟨g, o + 2, none⟩ = some (.string s3) := cells 2 (by simp)
  have hglt : g < w.heap.size := World.block_lt_of_cell? w _ c0
  have hA : Below w.heap.size w (w.alloc (.cells #[.string ⟨#[]⟩, .string ⟨#[]⟩, .string ⟨#[]⟩] 50)) := (Below.refl _ _).alloc (Nat.le_refl _) _
  have a0 := (hA.cell (p := ⟨g, o, none⟩) hglt).trans c0
  have a1 := (hA.cell (p := ⟨g, o + 1, none⟩) hglt).trans c1
  have a2 := (hA.cell (p := ⟨g, o + 2, none⟩) hglt).trans c2
  clear cells hA
  go_enter Tryz.func73, Tryz.ntmps73
  go_wp2_with fail
  go_region
  go_wp2_with fail
  obtain ⟨X, hX⟩ : ∃ X, w.alloc (.cells #[.string s1, .string s2, .string s3] 50) = X := ⟨_, rfl⟩
  have hdX : Below w.heap.size w X := by rw [← hX]; exact (Below.refl _ _).alloc (Nat.le_refl _) _
  have hzX : X.heap.size = w.heap.size + 1 := by rw [← hX]; simp
  have hbX : X.heap[w.heap.size]? = some (.cells #[.string s1, .string s2, .string s3] 50 (0, 0)) := by rw [← hX]; exact World.alloc_heap_new _ _
  have hnB : ¬ RB b r w.heap.size := fun q => by have := h.out.lt _ q; omega
  rw [hX]
  have T0 := hide (Stp.same (h.out.below hdX) (Below.refl X.heap.size X).drew)
  have hLX := hide (hL.out.only hdX)
  have b0 : X.cell? ⟨w.heap.size, 0, none⟩ = some (.string s1) := cell_of hbX rfl
  have b1 : X.cell? ⟨w.heap.size, 1, none⟩ = some (.string s2) := cell_of hbX rfl
  have b2 : X.cell? ⟨w.heap.size, 2, none⟩ = some (.string s3) := cell_of hbX rfl
  have HB := hide (And.intro hbX (And.intro hnB (And.intro hdX hzX)))
  have hok1 := hide (show kOps.ok (s1, 1) from ⟨hok.out.1, by show 1 ≤ _; omega⟩)
  have hlO : r.O.length ≤ 67108864 := by have := hl.out.1; omega
  clear c0 c1 c2 a0 a1 a2 hbX hnB hdX
  go_region_with (first
    | (go_at_call 67; refine (opOf3 s1 s2 s3 hne.out _).mono ?_; rintro e wa ⟨rfl, da⟩; have Ta := hide ((T0.out.grow (Below.refl _ _).drew).grow da); clear da)
    | (go_at_call 89; refine (addO_any n0 b _ r (s1, 1) (hide Ta.out.rd) hok1 hlO).mono ?_; rintro e wb ⟨ib, vb, mb, rfl, hib, hb2⟩; have Tb := hide (Ta.out.trans hb2); clear hib hb2))
  have hLb := hide ((hLX.out.step Tb.out).tail)
  have hoks := hide (show ∀ s ∈ [s2, s3], s.size ≤ 1048576 from fun s hs => by
    simp only [List.mem_cons, List.not_mem_nil, or_false] at hs
    rcases hs with rfl | rfl
    · exact hok.out.2.1
    · exact hok.out.2.2)
  have hlS := hide (show r.S.length + [s2, s3].length ≤ 67108864 by have := hl.out.2.1; simp; omega)
  clear b0 b1 b2
  go_wp2_with fail
  refine (takeStates_any n0 b wb _ (some ⟨g, o + 1, none⟩) _ [s2, s3] (hide Tb.out.rd) hLb hoks hlS).mono ?_
  rintro e wc ⟨vc, mc, N, rfl, hTc⟩
  have Tc := hide (Tb.out.trans hTc.st)
  have hbc : wc.heap[w.heap.size]? = some (.cells #[.string s1, .string s2, .string s3] 50 (0, 0)) := (Tc.out.only.block _ (by have := HB.out.2.2.2; omega) HB.out.2.1).trans HB.out.1
  have b0 : wc.cell? ⟨w.heap.size, 0, none⟩ = some (.string s1) := cell_of hbc rfl
  have b1 : wc.cell? ⟨w.heap.size, 1, none⟩ = some (.string s2) := cell_of hbc rfl
  have b2 : wc.cell? ⟨w.heap.size, 2, none⟩ = some (.string s3) := cell_of hbc rfl
  have Td := hide (Tc.out.grow (Below.refl _ _).drew)
  have hokr := hide (show kRules.ok (s1, s2, s3) from hok.out)
  have hlR : r.R.length ≤ 67108864 := by have := hl.out.2.2; omega
  clear hTc hbc
  go_wp2_with fail
  go_region_with (go_at_call 91; refine (addR_any n0 b _ _ (s1, s2, s3) (hide Td.out.rd) hokr hlR).mono ?_; rintro e wd ⟨id, vd, md, rfl, hid, hd2⟩; have Te := hide (Td.out.trans hd2); clear hid hd2)
  go_end0
  exact ⟨rfl, vb, mb, vc, mc, vd, md, (Stp.same h.out HB.out.2.2.1).trans Te.out⟩

set_option maxRecDepth 100000 in
set_option maxHeartbeats 2000000 in
theorem takeRule2_any (n0 b : Nat) (w : World) (r : RS) (ao : Option Addr) (cap : Nat) (s1 s3 : ByteArray) (h : Hid (Rd n0 b w r)) (hL : Hid (LnS w b r ao [s1, s3])) (hok : Hid (s1.size ≤ 1048576 ∧ s3.size ≤ 1048576)) (hl : Hid (r.O.length ≤ 67108863 ∧ r.S.length ≤ 67108861 ∧ r.R.length ≤ 67108863)) (hcap : 2 ≤ cap) :
    Calls Tryz.prog 73 #[.pointer (some ⟨b, 0, none⟩), .slice ao 2 cap] w fun e w' => e = .returned (.tuple #[]) ∧ ∃ vo mo vs ms vr mr, Stp n0 b w r w' { r with O := sadd r.O (s1, 0), S := sadd r.S s3, R := sadd r.R (s1, ⟨#[]⟩, s3), vo := vo, mo := mo, vs := vs, ms := ms, vr := vr, mr := mr } := by
  obtain ⟨g, o, rfl, nb, cells⟩ := hL.out.get (by simp)
  have c0 : w.cell? ⟨g, o, none⟩ = some (.string s1) := cells 0 (by simp)
  have c2 : w.cell? ⟨g, o + 1, none⟩ = some (.string s3) := cells 1 (by simp)
  have hglt : g < w.heap.size := World.block_lt_of_cell? w _ c0
  have hA : Below w.heap.size w (w.alloc (.cells #[.string ⟨#[]⟩, .string ⟨#[]⟩, .string ⟨#[]⟩] 50)) := (Below.refl _ _).alloc (Nat.le_refl _) _
  have a0 := (hA.cell (p := ⟨g, o, none⟩) hglt).trans c0
  have a2 := (hA.cell (p := ⟨g, o + 1, none⟩) hglt).trans c2
  clear cells hA
  go_enter Tryz.func73, Tryz.ntmps73
  go_wp2_with fail
  go_region
  go_wp2_with fail
  obtain ⟨X, hX⟩ : ∃ X, w.alloc (.cells #[.string s1, .string ⟨#[]⟩, .string s3] 50) = X := ⟨_, rfl⟩
  have hdX : Below w.heap.size w X := by rw [← hX]; exact (Below.refl _ _).alloc (Nat.le_refl _) _
  have hzX : X.heap.size = w.heap.size + 1 := by rw [← hX]; simp
  have hbX : X.heap[w.heap.size]? = some (.cells #[.string s1, .string ⟨#[]⟩, .string s3] 50 (0, 0)) := by rw [← hX]; exact World.alloc_heap_new _ _
  have hnB : ¬ RB b r w.heap.size := fun q => by have := h.out.lt _ q; omega
  rw [hX]
  have T0 := hide (Stp.same (h.out.below hdX) (Below.refl X.heap.size X).drew)
  have hLX := hide (hL.out.only hdX)
  have b0 : X.cell? ⟨w.heap.size, 0, none⟩ = some (.string s1) := cell_of hbX rfl
  have b1 : X.cell? ⟨w.heap.size, 1, none⟩ = some (.string ⟨#[]⟩) := cell_of hbX rfl
  have b2 : X.cell? ⟨w.heap.size, 2, none⟩ = some (.string s3) := cell_of hbX rfl
  have HB := hide (And.intro hbX (And.intro hnB (And.intro hdX hzX)))
  have hok1 := hide (show kOps.ok (s1, 0) from ⟨hok.out.1, by show 0 ≤ _; omega⟩)
  have hlO : r.O.length ≤ 67108864 := by have := hl.out.1; omega
  clear c0 c2 a0 a2 hbX hnB hdX
  go_region_with (first
    | (go_at_call 67; refine (opOf2 s1 s3 _).mono ?_; rintro e wa ⟨rfl, da⟩; have Ta := hide ((T0.out.grow (Below.refl _ _).drew).grow da); clear da)
    | (go_at_call 89; refine (addO_any n0 b _ r (s1, 0) (hide Ta.out.rd) hok1 hlO).mono ?_; rintro e wb ⟨ib, vb, mb, rfl, hib, hb2⟩; have Tb := hide (Ta.out.trans hb2); clear hib hb2))
  have hLb := hide ((hLX.out.step Tb.out).tail)
  have hoks := hide (show ∀ s ∈ [s3], s.size ≤ 1048576 from fun s hs => by
    obtain rfl := List.mem_singleton.1 hs
    exact hok.out.2)
  have hlS := hide (show r.S.length + [s3].length ≤ 67108864 by have := hl.out.2.1; simp; omega)
  clear b0 b1 b2
  go_wp2_with fail
  refine (takeStates_any n0 b wb _ (some ⟨g, o + 1, none⟩) _ [s3] (hide Tb.out.rd) hLb hoks hlS).mono ?_
  rintro e wc ⟨vc, mc, N, rfl, hTc⟩
  have Tc := hide (Tb.out.trans hTc.st)
  have hbc : wc.heap[w.heap.size]? = some (.cells #[.string s1, .string ⟨#[]⟩, .string s3] 50 (0, 0)) := (Tc.out.only.block _ (by have := HB.out.2.2.2; omega) HB.out.2.1).trans HB.out.1
  have b0 : wc.cell? ⟨w.heap.size, 0, none⟩ = some (.string s1) := cell_of hbc rfl
  have b1 : wc.cell? ⟨w.heap.size, 1, none⟩ = some (.string ⟨#[]⟩) := cell_of hbc rfl
  have b2 : wc.cell? ⟨w.heap.size, 2, none⟩ = some (.string s3) := cell_of hbc rfl
  have Td := hide (Tc.out.grow (Below.refl _ _).drew)
  have hokr := hide (show kRules.ok (s1, ⟨#[]⟩, s3) from ⟨hok.out.1, by show (0 : Nat) ≤ _; omega, hok.out.2⟩)
  have hlR : r.R.length ≤ 67108864 := by have := hl.out.2.2; omega
  clear hTc hbc
  go_wp2_with fail
  go_region_with (go_at_call 91; refine (addR_any n0 b _ _ (s1, ⟨#[]⟩, s3) (hide Td.out.rd) hokr hlR).mono ?_; rintro e wd ⟨id, vd, md, rfl, hid, hd2⟩; have Te := hide (Td.out.trans hd2); clear hid hd2)
  go_end0
  exact ⟨rfl, vb, mb, vc, mc, vd, md, (Stp.same h.out HB.out.2.2.1).trans Te.out⟩
end Go.Proofs.YtmagchclmmphaaaGreatDoor
