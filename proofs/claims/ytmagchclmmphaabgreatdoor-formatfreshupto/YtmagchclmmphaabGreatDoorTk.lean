import Derived.Test.YtmagchclmmphaabGreatDoorTS
namespace Go.Proofs.YtmagchclmmphaabGreatDoor
open Go.RowKit Go.Maps

theorem Stp.own {n0 b : Nat} {w W : World} {r r1 : RS} (h : Stp n0 b w r W r1) (j : Nat) (u : Value) (pl : Nat) (ti : ByteArray) (F : Value) (hc : r1.cells.setIfInBounds j u = ({ r1 with pl := pl, ti := ti, F := F } : RS).cells) :
    Stp n0 b w r (W.setCell ⟨b, j, none⟩ u) { r1 with pl := pl, ti := ti, F := F } := by
  have hb := h.rd.bn
  have ho := only_set W b j u
  refine ⟨⟨?_, hb, Nat.le_trans h.rd.nz ho.size, h.rd.so.only ho (fun k hk e => ?_), h.rd.ss.only ho (fun k hk e => ?_), h.rd.sr.only ho (fun k hk e => ?_), h.rd.d1, h.rd.d2, h.rd.d3⟩, h.only.andNew ho (fun i _ e => .inl e), h.new⟩
  · rw [heap_setCell_same W b j _ 121 u h.rd.blk, hc]
  · have := (h.rd.so.lt k hk).1; omega
  · have := (h.rd.ss.lt k hk).1; omega
  · have := (h.rd.sr.lt k hk).1; omega
theorem Rd.c0 {n0 b : Nat} {W : World} {r : RS} (h : Rd n0 b W r) : W.cell? ⟨b, 0, none⟩ = some (.int .i64 (r.pl : Nat)) := cell_of h.blk rfl
theorem Rd.c1 {n0 b : Nat} {W : World} {r : RS} (h : Rd n0 b W r) : W.cell? ⟨b, 1, none⟩ = some (.string r.ti) := cell_of h.blk rfl
theorem Rd.c6 {n0 b : Nat} {W : World} {r : RS} (h : Rd n0 b W r) : W.cell? ⟨b, 6, none⟩ = some r.F := cell_of h.blk rfl
theorem Rd.fz {n0 b : Nat} {W : World} {r : RS} (h : Rd n0 b W r) (j : Nat) : W.frozen? ⟨b, j, none⟩ = false := by simp [World.frozen?, h.blk]

set_option maxRecDepth 100000 in
set_option maxHeartbeats 1000000 in
theorem take_nil (b : Nat) (w : World) (ao : Option Addr) (cap : Nat) :
    Calls Tryz.prog 81 #[.pointer (some ⟨b, 0, none⟩), .slice ao 0 cap] w fun e w' => e = .returned (.tuple #[]) ∧ w' = w := by
  go_enter Tryz.func81, Tryz.ntmps81
  go_wp2
  refine bodyPost_ret (results_none rfl _ _ _) rfl ?_
  exact ⟨rfl, rfl⟩

set_option maxRecDepth 100000 in
set_option maxHeartbeats 1000000 in
theorem take_trans (n0 b : Nat) (w : World) (r : RS) (ao : Option Addr) (n cap : Nat) (h : Hid (Rd n0 b w r)) (hp : Hid (r.pl = 4)) (hn : 0 < n) :
    Calls Tryz.prog 81 #[.pointer (some ⟨b, 0, none⟩), .slice ao n cap] w fun e w' => e = .returned (.tuple #[]) ∧ Stp n0 b w r w' { r with pl := 5 } := by
  have c0 := h.out.c0
  rw [hp.out] at c0
  have f0 := h.out.fz 0
  have hn' : ((n : Int) == 0) = false := by rw [beq_eq_false_iff_ne]; omega
  have hn2 : (n : Int) ≠ 0 := by omega
  go_enter Tryz.func81, Tryz.ntmps81
  go_wp2
  go_end0
  refine ⟨rfl, ?_⟩
  exact (Stp.same h.out (Below.refl _ _)).own 0 (.int .i64 5) 5 r.ti r.F rfl

set_option maxRecDepth 100000 in
set_option maxHeartbeats 1000000 in
theorem take_title (n0 b : Nat) (w : World) (r : RS) (g o n cap : Nat) (s : ByteArray) (h : Hid (Rd n0 b w r)) (hp : Hid (r.pl = 1)) (hn : 2 ≤ n) (c : w.cell? ⟨g, o + 1, none⟩ = some (.string s)) :
    Calls Tryz.prog 81 #[.pointer (some ⟨b, 0, none⟩), .slice (some ⟨g, o, none⟩) n cap] w fun e w' => e = .returned (.tuple #[]) ∧ Stp n0 b w r w' { r with pl := 2, ti := s } := by
  have c0 := h.out.c0
  rw [hp.out] at c0
  have f0 := h.out.fz 0
  have c1 := h.out.c1
  have f1 := h.out.fz 1
  have hn' : ((n : Int) == 0) = false := by rw [beq_eq_false_iff_ne]; omega
  have hn2 : (n : Int) ≠ 0 := by omega
  have hn3 : (1 : Int) < (n : Int) := by omega
  go_enter Tryz.func81, Tryz.ntmps81
  go_wp2
  go_end0
  refine ⟨rfl, ?_⟩
  exact ((Stp.same h.out (Below.refl _ _)).own 1 (.string s) r.pl s r.F rfl).own 0 (.int .i64 2) 2 s r.F rfl

theorem TsI.full {n0 b : Nat} {w W : World} {r : RS} {M : List ByteArray} {v m : Value} {N : List Nat} (h : TsI n0 b w r M M.length v m N W) : Stp n0 b w r W { r with S := M.foldl sadd r.S, vs := v, ms := m } := by
  have := h.st
  unfold stS at this
  rwa [List.take_length] at this
theorem LnS.none {W : World} {b : Nat} {r : RS} {ao : Option Addr} {M : List ByteArray} (h : M = []) : LnS W b r ao M := fun j hj => by rw [h] at hj; simp at hj

set_option maxRecDepth 100000 in
set_option maxHeartbeats 1000000 in
theorem take_states (n0 b : Nat) (w : World) (r : RS) (g o cap : Nat) (a : ByteArray) (M : List ByteArray) (n : Nat) (h : Hid (Rd n0 b w r)) (hp : Hid (r.pl = 2)) (hnn : Hid (n = M.length + 1)) (hL : Hid (LnS w b r (some ⟨g, o, none⟩) (a :: M))) (hok : Hid (∀ s ∈ M, s.size ≤ 1048576)) (hl : Hid (r.S.length + M.length ≤ 67108864)) (hcap : n ≤ cap) :
    Calls Tryz.prog 81 #[.pointer (some ⟨b, 0, none⟩), .slice (some ⟨g, o, none⟩) n cap] w fun e w' => e = .returned (.tuple #[]) ∧ ∃ v m, Stp n0 b w r w' { r with pl := 3, S := M.foldl sadd r.S, vs := v, ms := m } := by
  have HR := hide h.out
  have c0 := h.out.c0
  rw [hp.out] at c0
  have f0 := h.out.fz 0
  have hn' : ((n : Int) == 0) = false := by rw [beq_eq_false_iff_ne]; have := hnn.out; omega
  have hn2 : (n : Int) ≠ 0 := by have := hnn.out; omega
  have hn3 : (1 : Int) ≤ (n : Int) := by have := hnn.out; omega
  have hn4 : 1 ≤ n := by omega
  go_enter Tryz.func81, Tryz.ntmps81
  go_wp2_with fail
  · have e1 : n - 1 = M.length := by have := hnn.out; omega
    have eM : Hid (M = []) := hide (List.eq_nil_of_length_eq_zero (by have := hnn.out; omega))
    rw [e1]
    refine (takeStates_any n0 b w r _ _ M (hide HR.out) (hide (LnS.none eM.out)) hok hl).mono ?_
    rintro e w1 ⟨v, m, N, rfl, T⟩
    have c01 := T.full.rd.c0
    simp only [hp.out] at c01
    have f01 := T.full.rd.fz 0
    have HT := hide T.full
    clear T c0 f0
    go_wp2
    go_end0
    exact ⟨rfl, v, m, HT.out.own 0 (.int .i64 3) 3 r.ti r.F rfl⟩
  · have e1 : n - 1 = M.length := by have := hnn.out; omega
    rw [e1]
    refine (takeStates_any n0 b w r _ _ M (hide HR.out) (hide hL.out.tail) hok hl).mono ?_
    rintro e w1 ⟨v, m, N, rfl, T⟩
    have c01 := T.full.rd.c0
    simp only [hp.out] at c01
    have f01 := T.full.rd.fz 0
    have HT := hide T.full
    clear T c0 f0
    go_wp2
    go_end0
    exact ⟨rfl, v, m, HT.out.own 0 (.int .i64 3) 3 r.ti r.F rfl⟩
/-- What the line of final states leaves. -/
structure Fin (n0 b : Nat) (w : World) (r : RS) (M : List ByteArray) (v m : Value) (N : List Nat) (W : World) : Prop where
  st : Stp n0 b w r W { r with pl := 4, S := M.foldl sadd r.S, vs := v, ms := m, F := .slice (some ⟨w.heap.size, 0, none⟩) M.length M.length }
  nl : N.length = M.length
  num : ∀ j (h : j < N.length), (M.foldl sadd r.S)[N[j]]? = M[j]?
  row : W.ownsRow w.heap.size 3 1 (.slice (some ⟨w.heap.size, 0, none⟩) M.length M.length) M.length (intV N)
  nb : ¬ RB b { r with pl := 4, S := M.foldl sadd r.S, vs := v, ms := m, F := .slice (some ⟨w.heap.size, 0, none⟩) M.length M.length } w.heap.size
theorem final_fin {n0 b : Nat} {w W : World} {r : RS} {M : List ByteArray} {v m : Value} {N : List Nat} (hw : Rd n0 b w r) (h : TsI n0 b w r M M.length v m N W) :
    Fin n0 b w r M v m N ((W.setCell ⟨b, 6, none⟩ (.slice (some ⟨w.heap.size, 0, none⟩) M.length M.length)).setCell ⟨b, 0, none⟩ (.int .i64 4)) := by
  have hbl : b < w.heap.size := hw.lt b (.inl rfl)
  have st := (h.full.own 6 (.slice (some ⟨w.heap.size, 0, none⟩) M.length M.length) r.pl r.ti (.slice (some ⟨w.heap.size, 0, none⟩) M.length M.length) rfl).own 0 (.int .i64 4) 4 r.ti (.slice (some ⟨w.heap.size, 0, none⟩) M.length M.length) rfl
  have nb := h.nb
  unfold stS at nb
  rw [List.take_length] at nb
  refine ⟨st, h.nl, fun j hj => ?_, ?_, nb⟩
  · have := h.num j hj
    unfold stS at this
    simpa only [List.take_length] using this
  · have r0 := h.row
    rw [Nat.sub_self, List.replicate_zero, List.append_nil] at r0
    exact row_only (row_only r0 (only_set W b 6 _) (fun k hk e => by simp [Value.ownBlock] at hk; omega)) (only_set _ b 0 _) (fun k hk e => by simp [Value.ownBlock] at hk; omega)

set_option maxRecDepth 100000 in
set_option maxHeartbeats 1000000 in
theorem take_final (n0 b : Nat) (w : World) (r : RS) (g o cap : Nat) (a a2 : ByteArray) (M : List ByteArray) (n : Nat) (h : Hid (Rd n0 b w r)) (hp : Hid (r.pl = 3)) (hnn : Hid (n = M.length + 2)) (hL : Hid (LnS w b r (some ⟨g, o, none⟩) (a :: a2 :: M))) (hok : Hid (∀ s ∈ M, s.size ≤ 1048576)) (hl : Hid (r.S.length + M.length ≤ 67108864)) (hcap : n ≤ cap) :
    Calls Tryz.prog 81 #[.pointer (some ⟨b, 0, none⟩), .slice (some ⟨g, o, none⟩) n cap] w fun e w' => e = .returned (.tuple #[]) ∧ ∃ v m N, Fin n0 b w r M v m N w' := by
  have HR := hide h.out
  have c0 := h.out.c0
  rw [hp.out] at c0
  have f0 := h.out.fz 0
  have hn' : ((n : Int) == 0) = false := by rw [beq_eq_false_iff_ne]; have := hnn.out; omega
  have hn2 : (n : Int) ≠ 0 := by have := hnn.out; omega
  have hn3 : (2 : Int) ≤ (n : Int) := by have := hnn.out; omega
  have hn4 : 2 ≤ n := by omega
  have hn5 : 2 ≤ cap := by omega
  go_enter Tryz.func81, Tryz.ntmps81
  go_wp2_with fail
  · have e1 : n - 2 = M.length := by have := hnn.out; omega
    have eM : Hid (M = []) := hide (List.eq_nil_of_length_eq_zero (by have := hnn.out; omega))
    rw [e1]
    refine (takeStates_any n0 b w r _ _ M (hide HR.out) (hide (LnS.none eM.out)) hok hl).mono ?_
    rintro e w1 ⟨v, m, N, rfl, T⟩
    have HX := hide T
    have c01 := T.full.rd.c0
    simp only [hp.out] at c01
    have f01 := T.full.rd.fz 0
    have c61 := T.full.rd.c6
    have f61 := T.full.rd.fz 6
    have HT := hide T.full
    clear T c0 f0
    go_wp2
    go_end0
    exact ⟨rfl, v, m, N, final_fin HR.out HX.out⟩
  · have e1 : n - 2 = M.length := by have := hnn.out; omega
    rw [e1]
    refine (takeStates_any n0 b w r _ _ M (hide HR.out) (hide hL.out.tail.tail) hok hl).mono ?_
    rintro e w1 ⟨v, m, N, rfl, T⟩
    have HX := hide T
    have c01 := T.full.rd.c0
    simp only [hp.out] at c01
    have f01 := T.full.rd.fz 0
    have c61 := T.full.rd.c6
    have f61 := T.full.rd.fz 6
    have HT := hide T.full
    clear T c0 f0
    go_wp2
    go_end0
    exact ⟨rfl, v, m, N, final_fin HR.out HX.out⟩

set_option maxRecDepth 100000 in
set_option maxHeartbeats 1000000 in
theorem take_ops (n0 b : Nat) (w : World) (r : RS) (g o cap : Nat) (a : ByteArray) (M : List ByteArray) (P : List (ByteArray × ByteArray)) (n : Nat) (h : Hid (Rd n0 b w r)) (hp : Hid (r.pl = 0)) (hnn : Hid (n = M.length + 1)) (hL : Hid (LnS w b r (some ⟨g, o, none⟩) (a :: M))) (hP : Hid (Prs M P)) (hl : Hid (r.O.length + P.length ≤ 67108864)) (hcap : n ≤ cap) :
    Calls Tryz.prog 81 #[.pointer (some ⟨b, 0, none⟩), .slice (some ⟨g, o, none⟩) n cap] w fun e w' => e = .returned (.tuple #[]) ∧ ∃ v m, Stp n0 b w r w' { r with pl := 1, O := (P.map opB).foldl sadd r.O, vo := v, mo := m } := by
  have HR := hide h.out
  have c0 := h.out.c0
  rw [hp.out] at c0
  have f0 := h.out.fz 0
  have hn' : ((n : Int) == 0) = false := by rw [beq_eq_false_iff_ne]; have := hnn.out; omega
  have hn2 : (n : Int) ≠ 0 := by have := hnn.out; omega
  have hn3 : (1 : Int) ≤ (n : Int) := by have := hnn.out; omega
  have hn4 : 1 ≤ n := by omega
  have hn5 : 1 ≤ cap := by omega
  go_enter Tryz.func81, Tryz.ntmps81
  go_wp2_with fail
  · have e1 : n - 1 = M.length := by have := hnn.out; omega
    have eM : Hid (M = []) := hide (List.eq_nil_of_length_eq_zero (by have := hnn.out; omega))
    rw [e1]
    refine (takeOps_any n0 b w r _ _ M P (hide HR.out) (hide (LnS.none eM.out)) hP hl).mono ?_
    rintro e w1 ⟨v, m, rfl, T⟩
    have c01 := T.rd.c0
    have e0 : (stO r P P.length v m).pl = 0 := hp.out
    rw [e0] at c01
    have f01 := T.rd.fz 0
    have HT := hide T
    clear T c0 f0 e0
    go_wp2
    go_end0
    have q := HT.out.own 0 (.int .i64 1) 1 r.ti r.F rfl
    unfold stO at q
    rw [List.take_length] at q
    exact ⟨rfl, v, m, q⟩
  · have e1 : n - 1 = M.length := by have := hnn.out; omega
    rw [e1]
    refine (takeOps_any n0 b w r _ _ M P (hide HR.out) (hide hL.out.tail) hP hl).mono ?_
    rintro e w1 ⟨v, m, rfl, T⟩
    have c01 := T.rd.c0
    have e0 : (stO r P P.length v m).pl = 0 := hp.out
    rw [e0] at c01
    have f01 := T.rd.fz 0
    have HT := hide T
    clear T c0 f0 e0
    go_wp2
    go_end0
    have q := HT.out.own 0 (.int .i64 1) 1 r.ti r.F rfl
    unfold stO at q
    rw [List.take_length] at q
    exact ⟨rfl, v, m, q⟩

set_option maxRecDepth 100000 in
set_option maxHeartbeats 1000000 in
theorem take_rule3 (n0 b : Nat) (w : World) (r : RS) (ao : Option Addr) (cap : Nat) (s1 s2 s3 : ByteArray) (h : Hid (Rd n0 b w r)) (hp : Hid (r.pl = 5)) (hL : Hid (LnS w b r ao [s1, s2, s3])) (hok : Hid (s1.size ≤ 1048576 ∧ s2.size ≤ 1048576 ∧ s3.size ≤ 1048576)) (hne : Hid (s2 ≠ ⟨#[]⟩)) (hl : Hid (r.O.length ≤ 67108863 ∧ r.S.length ≤ 67108861 ∧ r.R.length ≤ 67108863)) (hcap : 3 ≤ cap) :
    Calls Tryz.prog 81 #[.pointer (some ⟨b, 0, none⟩), .slice ao 3 cap] w fun e w' => e = .returned (.tuple #[]) ∧ ∃ vo mo vs ms vr mr, Stp n0 b w r w' { r with O := sadd r.O (s1, 1), S := sadd (sadd r.S s2) s3, R := sadd r.R (s1, s2, s3), vo := vo, mo := mo, vs := vs, ms := ms, vr := vr, mr := mr } := by
  have c0 := h.out.c0
  rw [hp.out] at c0
  go_enter Tryz.func81, Tryz.ntmps81
  go_wp2_with fail
  refine (takeRule3_any n0 b w r ao cap s1 s2 s3 h hL hok hne hl hcap).mono ?_
  rintro e w1 ⟨rfl, T⟩
  have HT := hide T
  clear T c0
  go_wp2
  refine bodyPost_ret (results_none rfl _ _ _) rfl ?_
  exact ⟨rfl, HT.out⟩

set_option maxRecDepth 100000 in
set_option maxHeartbeats 1000000 in
theorem take_rule2 (n0 b : Nat) (w : World) (r : RS) (ao : Option Addr) (cap : Nat) (s1 s3 : ByteArray) (h : Hid (Rd n0 b w r)) (hp : Hid (r.pl = 5)) (hL : Hid (LnS w b r ao [s1, s3])) (hok : Hid (s1.size ≤ 1048576 ∧ s3.size ≤ 1048576)) (hl : Hid (r.O.length ≤ 67108863 ∧ r.S.length ≤ 67108861 ∧ r.R.length ≤ 67108863)) (hcap : 2 ≤ cap) :
    Calls Tryz.prog 81 #[.pointer (some ⟨b, 0, none⟩), .slice ao 2 cap] w fun e w' => e = .returned (.tuple #[]) ∧ ∃ vo mo vs ms vr mr, Stp n0 b w r w' { r with O := sadd r.O (s1, 0), S := sadd r.S s3, R := sadd r.R (s1, ⟨#[]⟩, s3), vo := vo, mo := mo, vs := vs, ms := ms, vr := vr, mr := mr } := by
  have c0 := h.out.c0
  rw [hp.out] at c0
  go_enter Tryz.func81, Tryz.ntmps81
  go_wp2_with fail
  refine (takeRule2_any n0 b w r ao cap s1 s3 h hL hok hl hcap).mono ?_
  rintro e w1 ⟨rfl, T⟩
  have HT := hide T
  clear T c0
  go_wp2
  refine bodyPost_ret (results_none rfl _ _ _) rfl ?_
  exact ⟨rfl, HT.out⟩
end Go.Proofs.YtmagchclmmphaabGreatDoor
