import Derived.Test.YtgifamdoolcemaaDoorFlM
import Derived.Test.YtgifamdoolcemaaDoorLnF
namespace Go.Proofs.YtgifamdoolcemaaDoor
open Go.RowKit Go.Maps

theorem take_mem {l : List Nat} {k x b : Nat} (hk : k < l.length) (hb : l[k] = b) : x ∈ l.take (k + 1) ↔ x ∈ l.take k ∨ x = b := by
  rw [List.take_succ_eq_append_getElem hk, hb]
  simp
theorem fol_idx (s : Nat × Nat) (k : Nat) (h : k < (folF s).length) (W : World) : (Instr.index 9 (.string (strB (folF s))) (.int .i64 (k : Int))).run Tryd.prog W = .ok (.int .u8 ((folF s)[k] : Nat)) W := by
  refine idx_w _ k _ (by rw [strB_size]; exact h) ?_ W
  have h0 : (folF s).getD k 0 = (folF s)[k] := by simp [List.getD_eq_getElem?_getD, List.getElem?_eq_getElem h]
  rw [strB_get _ _ _ (by rw [h0]; exact step_lt (mem_fol.1 (List.getElem_mem h))), h0]
theorem fol_prev (s : Nat × Nat) (k : Nat) (h : k < (folF s).length) (h0 : 0 < k) : ∃ a, a < (folF s)[k] ∧ ∀ W : World, (Instr.index 9 (.string (strB (folF s))) (.int .i64 ((k : Int) - 1))).run Tryd.prog W = .ok (.int .u8 (a : Nat)) W := by
  refine ⟨(folF s)[k - 1], ?_, fun W => ?_⟩
  · exact fol_lt s k h _ (List.mem_take_iff_getElem.2 ⟨k - 1, by omega, rfl⟩)
  · have e : (k : Int) - 1 = ((k - 1 : Nat) : Int) := by omega
    rw [e]
    exact fol_idx s (k - 1) (by omega) W

set_option maxRecDepth 100000 in
set_option maxHeartbeats 4000000 in
theorem follows_not (s : ByteArray) (nx : Nat) (w : World) (hT : RowsAt w) (hw0 : 0 < w.heap.size) (hs : s.size ≤ 1048576) (_hx : nx < 256) (hl : lenF s < s.size) :
    Calls Tryd.prog 5 #[.string s, .int .u8 nx] w fun e w' => e = .returned (.bool true) ∧ Below w.heap.size w w' := by
  have HT := hide hT
  have hwk := works_any w hT hw0
  have hc1 := fun W h1 h2 => follow_any s W h1 h2 (by omega)
  have hc2 := fun W h1 h2 => complete_any s W h1 h2 (by omega)
  have hc3 := fun W h1 h2 => check_any s W h1 h2 (by omega)
  have a1 : folB s = ⟨#[]⟩ := by unfold folB; rw [if_pos hl]; rfl
  have a2 : folI s = false := by unfold folI; rw [if_pos hl]
  have a3 : cerF s = 30 := by unfold cerF; rw [if_pos hl]
  have a4 : cmpB s = ⟨#[]⟩ := by unfold cmpB; rw [if_pos hl]; rfl
  rw [a1, a2, a3] at hc1
  rw [a3, a4] at hc2
  have i1 : (lenF s : Int) < (s.size : Int) := by omega
  generalize lenF s = n at *
  generalize errF s = er at *
  clear hT a1 a2 a3 a4 hl
  go_enter Tryd.func5, Tryd.ntmps5
  go_wp2_with fail
  refine hwk.mono ?_
  rintro e w1 ⟨rfl, d⟩
  go_wp2_with fail
  refine (hc1 _ (HT.out.below d hw0) (Nat.lt_of_lt_of_le hw0 d.size)).mono ?_
  rintro e w2 ⟨rfl, d2⟩
  replace d := d.trans (d2.mono d.size)
  clear hwk hc1 d2
  go_wp2_with fail
  refine (hc2 _ (HT.out.below d hw0) (Nat.lt_of_lt_of_le hw0 d.size)).mono ?_
  rintro e w3 ⟨rfl, d2⟩
  replace d := d.trans (d2.mono d.size)
  clear hc2 d2
  go_wp2_with fail
  refine (hc3 _ (HT.out.below d hw0) (Nat.lt_of_lt_of_le hw0 d.size)).mono ?_
  rintro e w4 ⟨rfl, d2⟩
  have HD := hide (d.trans (d2.mono d.size))
  clear hc3 d2 d
  go_wp2
  go_ret
  exact ⟨by first | rfl | simp, HD.out⟩
end Go.Proofs.YtgifamdoolcemaaDoor
