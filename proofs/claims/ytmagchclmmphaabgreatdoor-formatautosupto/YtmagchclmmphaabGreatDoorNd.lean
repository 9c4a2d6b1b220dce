import Derived.Test.YtmagchclmmphaabGreatDoorTk
namespace Go.Proofs.YtmagchclmmphaabGreatDoor
open Go.RowKit Go.Maps

/-- Numbers in a row; texts in a row. -/
def RdI (W : World) (ao : Option Addr) (N : List Nat) : Prop := ∀ (j : Nat) (h : j < N.length), ∃ g o, ao = some ⟨g, o, none⟩ ∧ W.cell? ⟨g, o + j, none⟩ = some (.int .i64 (N[j] : Nat))
def RdT (W : World) (ao : Option Addr) (A : List ByteArray) : Prop := ∀ (j : Nat) (h : j < A.length), ∃ g o, ao = some ⟨g, o, none⟩ ∧ W.cell? ⟨g, o + j, none⟩ = some (.string A[j])
theorem RdI.on {W W' : World} {ao : Option Addr} {N : List Nat} (h : RdI W ao N) (d : Below W.heap.size W W') : RdI W' ao N := fun j hj => by
  obtain ⟨g, o, e, c⟩ := h j hj
  exact ⟨g, o, e, (d.cell (p := ⟨g, o + j, none⟩) (World.block_lt_of_cell? W _ c)).trans c⟩
theorem RdT.on {W W' : World} {ao : Option Addr} {A : List ByteArray} (h : RdT W ao A) (d : Below W.heap.size W W') : RdT W' ao A := fun j hj => by
  obtain ⟨g, o, e, c⟩ := h j hj
  exact ⟨g, o, e, (d.cell (p := ⟨g, o + j, none⟩) (World.block_lt_of_cell? W _ c)).trans c⟩
/-- The names at these places. -/
def namesAt (N : List Nat) (A : List ByteArray) : List ByteArray := N.map fun n => A[n]?.getD ⟨#[]⟩
theorem srow_set (l : List ByteArray) (n k : Nat) (s : ByteArray) (hN : l.length = k) (hk : k < n) : (strV l ++ List.replicate (n - k) (Value.string ⟨#[]⟩)).set k (.string s) = strV (l ++ [s]) ++ List.replicate (n - (k + 1)) (.string ⟨#[]⟩) := by
  rw [show n - k = (n - (k + 1)) + 1 by omega, List.replicate_succ, List.set_append_right _ _ (by simp [strV, hN])]
  simp [strV, hN]
theorem srow_at (l : List ByteArray) (n k : Nat) (hN : l.length = k) (hk : k < n) : (strV l ++ List.replicate (n - k) (Value.string ⟨#[]⟩))[k]? = some (.string ⟨#[]⟩) := by
  rw [List.getElem?_append_right (by simp [strV, hN]), List.getElem?_replicate, if_pos (by simp [strV, hN]; omega)]

set_option maxRecDepth 100000 in
set_option maxHeartbeats 1000000 in
theorem named_any (w : World) (ao ap : Option Addr) (cn ca : Nat) (N : List Nat) (A : List ByteArray) (hN : Hid (RdI w ao N)) (hA : Hid (RdT w ap A)) (hlt : Hid (∀ n ∈ N, n < A.length)) (hl : N.length ≤ 67108864) (_hla : A.length ≤ 67108864) :
    Calls Tryz.prog 35 #[.slice ao N.length cn, .slice ap A.length ca] w fun e w' => e = .returned (.slice (some ⟨w.heap.size, 0, none⟩) N.length N.length) ∧ w'.ownsRow w.heap.size 9 1 (.slice (some ⟨w.heap.size, 0, none⟩) N.length N.length) N.length (strV (namesAt N A)) ∧ Below w.heap.size w w' := by
  obtain ⟨i0, hi, hz0, hz1, hz2⟩ := info_parts info9
  obtain ⟨w1, hmk, hown, hgrow⟩ := run_make_full (P := Tryz.prog) w w.heap.size 26 9 i0 (.string ⟨#[]⟩) 1 Tryz.underlying26 hi hz0 hz1 .i64 .i64 N.length (by rw [hz2]; omega) (by unfold maxLen; omega) (Nat.le_refl _)
  rw [Nat.mul_one, show (Value.string ⟨#[]⟩).cells = #[.string ⟨#[]⟩] from rfl, toList_madeCells_one] at hown
  have d1 : Below w.heap.size w w1 := (Below.refl _ _).grown hgrow (Nat.le_refl _) (by intro k hk; cases hk)
  have HT : Hid (w1.ownsRow w.heap.size 9 1 (.slice (some ⟨w.heap.size, 0, none⟩) N.length N.length) N.length (strV (namesAt (N.take 0) A) ++ List.replicate (N.length - 0) (.string ⟨#[]⟩)) ∧ Below w.heap.size w w1) := hide ⟨by simpa [strV, namesAt] using hown, d1⟩
  clear hown hgrow d1
  go_enter Tryz.func35, Tryz.ntmps35
  go_wp2
  go_loopw [13] (fun i wr => ∃ k : Nat, k ≤ N.length ∧ i = .int .i64 k ∧ Hid (wr.ownsRow w.heap.size 9 1 (.slice (some ⟨w.heap.size, 0, none⟩) N.length N.length) N.length (strV (namesAt (N.take k) A) ++ List.replicate (N.length - k) (.string ⟨#[]⟩)) ∧ Below w.heap.size w wr)) (fun i _ => N.length - (intOf i).toNat)
  case atStart => exact ⟨0, Nat.zero_le _, rfl, HT⟩
  case round =>
    obtain ⟨k, hk, rfl, T⟩ := hrel
    clear HT
    by_cases hkl : k < N.length
    · have d := T.out.2
      obtain ⟨g1, o1, rfl, q1⟩ := hN.out k hkl
      have q1' := (d.cell (p := ⟨g1, o1 + k, none⟩) (World.block_lt_of_cell? w _ q1)).trans q1
      have hx := hlt.out _ (List.getElem_mem hkl)
      obtain ⟨g2, o2, rfl, q2⟩ := hA.out _ hx
      have q2' := (d.cell (p := ⟨g2, o2 + N[k], none⟩) (World.block_lt_of_cell? w _ q2)).trans q2
      obtain ⟨x, hxx⟩ : ∃ x, N[k] = x := ⟨_, rfl⟩
      obtain ⟨s, hs⟩ : ∃ s, A[N[k]] = s := ⟨_, rfl⟩
      rw [hs] at q2'
      rw [hxx] at q1' q2' hx
      have hlk : (namesAt (N.take k) A).length = k := by simp [namesAt]; omega
      have hc := T.out.1.cellAt k (by omega)
      rw [srow_at _ N.length k hlk hkl] at hc
      have HX := hide (And.intro hxx (And.intro hs hlk))
      clear q1 q2 hxx hs hlk d
      have i0 : (0 : Int) ≤ (k : Int) := by omega
      have i2 : (k : Int) < (N.length : Int) := by omega
      have j0 : (0 : Int) ≤ (x : Int) := by omega
      have j2 : (x : Int) < (A.length : Int) := by omega
      have hf := T.out.1.frozenAt k
      go_wp2
      go_roundw
      case rel =>
        obtain ⟨hxx, hs, hlk⟩ := HX.out
        refine ⟨k + 1, by omega, by go_num, hide ⟨?_, T.out.2.setCell (by simp) _⟩⟩
        have := (T.out.1.stored k (.string s)).1
        rw [srow_set _ N.length k s hlk hkl] at this
        have e : namesAt (N.take (k + 1)) A = namesAt (N.take k) A ++ [s] := by
          unfold namesAt
          rw [List.take_succ_eq_append_getElem hkl, List.map_append, List.map_singleton, List.getElem?_eq_getElem (by rw [hxx]; exact hx), hs]
          rfl
        rw [e]; exact this
      case measure => simp [intOf]; omega
    · obtain rfl : k = N.length := by omega
      go_wp2
      go_ret
      have h1 := T.out.1
      rw [List.take_length, Nat.sub_self, List.replicate_zero, List.append_nil] at h1
      exact ⟨rfl, h1, T.out.2⟩
end Go.Proofs.YtmagchclmmphaabGreatDoor
