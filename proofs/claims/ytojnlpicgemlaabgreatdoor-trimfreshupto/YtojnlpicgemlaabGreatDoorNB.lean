import Derived.Test.YtojnlpicgemlaabGreatDoorMX
import Derived.RangeFuncRecord
import Derived.Deep.CutBlock
import Derived.Deep.CutRange
import Derived.Deep.DeepCutAuto
namespace Go.Proofs.YtojnlpicgemlaabGreatDoor
open Go.RowKit

/-! ### nfa: which automata may be -/
attribute [local go_sem] Oper.semAt_some
abbrev EdT := Int × Int × Int
def RdN (W : World) (ao : Option Addr) (L : List Int) : Prop := ∀ (j : Nat) (h : j < L.length), ∃ g o, ao = some ⟨g, o, none⟩ ∧ W.cell? ⟨g, o + j, none⟩ = some (.int .i64 L[j])
def RdE (W : World) (ao : Option Addr) (L : List EdT) : Prop := ∀ (j : Nat) (h : j < L.length), ∃ g o, ao = some ⟨g, o, none⟩ ∧ W.cell? ⟨g, o + j * 3, none⟩ = some (.int .i64 L[j].1) ∧ W.cell? ⟨g, o + j * 3 + 1, none⟩ = some (.int .i64 L[j].2.1) ∧ W.cell? ⟨g, o + j * 3 + 2, none⟩ = some (.int .i64 L[j].2.2)
theorem RdN.on {W W' : World} {ao : Option Addr} {L : List Int} (h : RdN W ao L) (d : Below W.heap.size W W') : RdN W' ao L := fun j hj => by
  obtain ⟨g, o, rfl, c⟩ := h j hj
  exact ⟨g, o, rfl, (d.cell (p := ⟨g, o + j, none⟩) (World.block_lt_of_cell? W _ c)).trans c⟩
theorem RdE.on {W W' : World} {ao : Option Addr} {L : List EdT} (h : RdE W ao L) (d : Below W.heap.size W W') : RdE W' ao L := fun j hj => by
  obtain ⟨g, o, rfl, c1, c2, c3⟩ := h j hj
  have hg : g < W.heap.size := World.block_lt_of_cell? W ⟨g, o + j * 3, none⟩ c1
  exact ⟨g, o, rfl, (d.cell (p := ⟨g, o + j * 3, none⟩) hg).trans c1, (d.cell (p := ⟨g, o + j * 3 + 1, none⟩) hg).trans c2, (d.cell (p := ⟨g, o + j * 3 + 2, none⟩) hg).trans c3⟩
theorem cell_of {w : World} {b j : Nat} {cs : Array Value} {t : TypeId} {fr : Nat × Nat} {v : Value} (h : w.heap[b]? = some (.cells cs t fr)) (hv : cs[j]? = some v) : w.cell? ⟨b, j, none⟩ = some v := by simp [World.cell?, h, hv]
theorem fz_of {W : World} {b j : Nat} {c : Array Value} {t : TypeId} (h : W.heap[b]? = some (.cells c t (0, 0))) : W.frozen? ⟨b, j, none⟩ = false := by simp [World.frozen?, h]
theorem blk_on {W W' : World} {g : Nat} {o : Obj} (h : W.heap[g]? = some o) (d : Below W.heap.size W W') : W'.heap[g]? = some o := (d.block _ (Array.getElem?_eq_some_iff.1 h).1).trans h
/-- A number from 0 to one below a bound. -/
def inB (n x : Int) : Bool := decide (0 ≤ x ∧ x < n)
theorem inB_iff {n x : Int} : inB n x = true ↔ 0 ≤ x ∧ x < n := by simp [inB]
set_option maxRecDepth 100000 in
theorem within_any (x n : Int) (w : World) : Calls Tryz.prog 47 #[.int .i64 x, .int .i64 n] w fun e w' => e = .returned (.bool (inB n x)) ∧ w' = w := by
  by_cases h : 0 ≤ x
  · go_enter Tryz.func47, Tryz.ntmps47
    go_wp2
    go_ret
    exact ⟨by simp [inB, h], rfl⟩
  · go_enter Tryz.func47, Tryz.ntmps47
    go_wp2
    go_ret
    exact ⟨by simp [inB]; omega, rfl⟩
set_option maxRecDepth 100000 in
set_option maxHeartbeats 1000000 in
theorem allWithin_any (ao : Option Addr) (cp : Nat) (L : List Int) (n : Int) (w : World) (hr : Hid (RdN w ao L)) (hl : L.length ≤ 4194304) : Calls Tryz.prog 48 #[.slice ao L.length cp, .int .i64 n] w fun e w' => e = .returned (.bool (L.all (inB n))) ∧ w' = w := by
  obtain ⟨m, hm⟩ : ∃ m, m = L.length := ⟨_, rfl⟩
  have HL := hide hm
  rw [← hm]
  rw [← hm] at hl
  clear hm
  go_enter Tryz.func48, Tryz.ntmps48
  go_wp2
  go_loopw [9] (fun iv wr => ∃ i : Nat, i ≤ m ∧ iv = .int .i64 i ∧ wr = w ∧ Hid ((L.take i).all (inB n) = true)) (fun iv _ => m - (intOf iv).toNat)
  case atStart => exact ⟨0, Nat.zero_le _, rfl, rfl, hide (by simp)⟩
  case round =>
    obtain ⟨i, hi, rfl, hw, HY⟩ := hrel
    obtain rfl := hw
    by_cases hil : i < m
    · have i0 : (0 : Int) ≤ (i : Int) := by omega
      have i1 : (i : Int) < (m : Int) := by omega
      have hi2 : i < L.length := by rw [← HL.out]; exact hil
      obtain ⟨g, o, rfl, c⟩ := hr.out i hi2
      have HT := hide (show L.take (i + 1) = L.take i ++ [L[i]] by rw [List.take_add_one, List.getElem?_eq_getElem hi2]; rfl)
      have HM := hide (List.getElem_mem hi2)
      obtain ⟨x, hx⟩ : ∃ x, L[i] = x := ⟨_, rfl⟩
      rw [hx] at c HT HM
      clear hx
      cases hb : inB n x
      · go_wp2_with (go_at_call 47; refine (within_any x n wr).mono ?_; rintro e w2 ⟨rfl, rfl⟩)
        go_wp2
        go_ret
        refine ⟨?_, rfl⟩
        have : L.all (inB n) = false := List.all_eq_false.2 ⟨x, HM.out, by rw [hb]; simp⟩
        rw [this]
        rfl
      · go_wp2_with (go_at_call 47; refine (within_any x n wr).mono ?_; rintro e w2 ⟨rfl, rfl⟩)
        go_wp2
        go_roundw
        case rel => exact ⟨i + 1, by omega, by go_num, trivial, hide (by rw [HT.out, List.all_append, HY.out]; simp [hb])⟩
        case measure => simp [intOf]; omega
    · obtain rfl : m = i := by omega
      have i1 : ¬ (m : Int) < (m : Int) := by omega
      go_wp2
      go_ret
      refine ⟨?_, rfl⟩
      have q := HY.out
      rw [HL.out, List.take_length] at q
      rw [q]
      rfl
/-- An automaton may be. -/
def edOk (n m : Int) (e : EdT) : Bool := inB n e.1 && inB m e.2.1 && inB n e.2.2
def mayA (n m : Int) (St Fi : List Int) (Ed : List EdT) : Bool := inB 4097 n && inB 129 m && decide (Ed.length ≤ 65536) && St.all (inB n) && Fi.all (inB n) && Ed.all (edOk n m)
/-- Its lists, read. -/
structure RdA (W : World) (a1 a2 a3 : Option Addr) (St Fi : List Int) (Ed : List EdT) : Prop where
  s : RdN W a1 St
  f : RdN W a2 Fi
  e : RdE W a3 Ed
theorem RdA.on {W W' : World} {a1 a2 a3 : Option Addr} {St Fi : List Int} {Ed : List EdT} (h : RdA W a1 a2 a3 St Fi Ed) (d : Below W.heap.size W W') : RdA W' a1 a2 a3 St Fi Ed := ⟨h.s.on d, h.f.on d, h.e.on d⟩
set_option maxRecDepth 100000 in
set_option maxHeartbeats 4000000 in
theorem valid_any (w : World) (n m : Int) (a1 a2 a3 : Option Addr) (c1 c2 c3 : Nat) (St Fi : List Int) (Ed : List EdT) (hA : Hid (RdA w a1 a2 a3 St Fi Ed)) (h1 : St.length ≤ 4194304) (h2 : Fi.length ≤ 4194304) (h3 : Ed.length ≤ 4194304) :
    Calls Tryz.prog 27 #[.agg #[.int .i64 n, .int .i64 m, .slice a1 St.length c1, .slice a2 Fi.length c2, .slice a3 Ed.length c3]] w fun e w' => e = .returned (.int .i64 (if mayA n m St Fi Ed then 0 else 2)) ∧ Below w.heap.size w w' := by
  obtain ⟨W0, hW0⟩ : ∃ W0, w.alloc (.cells #[.int .i64 n, .int .i64 m, .slice a1 St.length c1, .slice a2 Fi.length c2, .slice a3 Ed.length c3] 25) = W0 := ⟨_, rfl⟩
  have d0 : Below w.heap.size w W0 := by rw [← hW0]; exact (Below.refl _ _).alloc (Nat.le_refl _) _
  have B0 : W0.heap[w.heap.size]? = some (.cells #[.int .i64 n, .int .i64 m, .slice a1 St.length c1, .slice a2 Fi.length c2, .slice a3 Ed.length c3] 25 (0, 0)) := by rw [← hW0]; exact World.alloc_heap_new _ _
  have HD := hide (And.intro d0 B0)
  have k0 : W0.cell? ⟨w.heap.size, 0, none⟩ = some (.int .i64 n) := cell_of B0 rfl
  have k1 : W0.cell? ⟨w.heap.size, 1, none⟩ = some (.int .i64 m) := cell_of B0 rfl
  have k2 : W0.cell? ⟨w.heap.size, 2, none⟩ = some (.slice a1 St.length c1) := cell_of B0 rfl
  have k3 : W0.cell? ⟨w.heap.size, 3, none⟩ = some (.slice a2 Fi.length c2) := cell_of B0 rfl
  have k4 : W0.cell? ⟨w.heap.size, 4, none⟩ = some (.slice a3 Ed.length c3) := cell_of B0 rfl
  have HA := hide (hA.out.on d0)
  clear d0 B0 hA
  have T1 := allWithin_any a1 c1 St n W0 (hide HA.out.s) h1
  have T2 := allWithin_any a2 c2 Fi n W0 (hide HA.out.f) h2
  obtain ⟨r, hr⟩ : ∃ r : Int, (if mayA n m St Fi Ed then (0 : Int) else 2) = r := ⟨_, rfl⟩
  rw [hr]
  have HR := hide hr
  have HB : Hid (mayA n m St Fi Ed = false → Ending.returned (.int .i64 2) = Ending.returned (.int .i64 r)) := hide (fun h => by rw [← HR.out, h]; rfl)
  clear hr
  go_enter Tryz.func27, Tryz.ntmps27
  cases e1 : inB 4097 n
  · go_wp2_with (go_at_call 47; refine (within_any _ _ _).mono ?_; rintro e w2 ⟨rfl, hw⟩; obtain rfl := hw.symm)
    go_ret
    exact ⟨HB.out (by simp [mayA, e1]), HD.out.1⟩
  cases e2 : inB 129 m
  · go_wp2_with (go_at_call 47; refine (within_any _ _ _).mono ?_; rintro e w2 ⟨rfl, hw⟩; obtain rfl := hw.symm)
    go_ret
    exact ⟨HB.out (by simp [mayA, e2]), HD.out.1⟩
  by_cases e3 : Ed.length ≤ 65536
  case neg =>
    have i3 : (65536 : Int) < (Ed.length : Int) := by omega
    go_wp2_with (go_at_call 47; refine (within_any _ _ _).mono ?_; rintro e w2 ⟨rfl, hw⟩; obtain rfl := hw.symm)
    go_ret
    exact ⟨HB.out (by simp [mayA, e3]), HD.out.1⟩
  have i3 : ¬ (65536 : Int) < (Ed.length : Int) := by omega
  cases e4 : St.all (inB n)
  · rw [e4] at T1
    go_wp2_with (first
      | (go_at_call 47; refine (within_any _ _ _).mono ?_; rintro e w2 ⟨rfl, hw⟩; obtain rfl := hw.symm)
      | (go_at_call 48; refine T1.mono ?_; rintro e w2 ⟨rfl, hw⟩; obtain rfl := hw.symm))
    go_ret
    exact ⟨HB.out (by simp [mayA, e4]), HD.out.1⟩
  rw [e4] at T1
  cases e5 : Fi.all (inB n)
  · rw [e5] at T2
    go_wp2_with (first
      | (go_at_call 47; refine (within_any _ _ _).mono ?_; rintro e w2 ⟨rfl, hw⟩; obtain rfl := hw.symm)
      | (go_at_call_of 48 a1; refine T1.mono ?_; rintro e w2 ⟨rfl, hw⟩; obtain rfl := hw.symm)
      | (go_at_call_of 48 a2; refine T2.mono ?_; rintro e w2 ⟨rfl, hw⟩; obtain rfl := hw.symm))
    go_ret
    exact ⟨HB.out (by simp [mayA, e5]), HD.out.1⟩
  rw [e5] at T2
  have HM : Hid (Ed.all (edOk n m) = true → mayA n m St Fi Ed = true) := hide (fun h => by simp [mayA, e1, e2, e3, e4, e5, h])
  obtain ⟨L, hL⟩ : ∃ L, Ed.length = L := ⟨_, rfl⟩
  have HL := hide hL
  rw [hL] at k4 h3 e3 i3 hW0
  rw [hL]
  clear hL
  go_upto_region 5 with (first
    | (go_at_call 47; refine (within_any _ _ _).mono ?_; rintro e w2 ⟨rfl, hw⟩; obtain rfl := hw.symm)
    | (go_at_call_of 48 a1; refine T1.mono ?_; rintro e w2 ⟨rfl, hw⟩; obtain rfl := hw.symm)
      | (go_at_call_of 48 a2; refine T2.mono ?_; rintro e w2 ⟨rfl, hw⟩; obtain rfl := hw.symm))
  clear T1 T2 e1 e2 e4 e5
  go_wp2
  go_loopw [38] (fun iv wr => ∃ i : Nat, i ≤ L ∧ iv = .int .i64 i ∧ Hid (Below W0.heap.size W0 wr ∧ (Ed.take i).all (edOk n m) = true)) (fun iv _ => L - (intOf iv).toNat)
  case atStart => exact ⟨0, Nat.zero_le _, rfl, hide ⟨Below.refl _ _, by simp⟩⟩
  case round =>
    obtain ⟨i, hi, rfl, HY⟩ := hrel
    by_cases hil : i < L
    · have i0 : (0 : Int) ≤ (i : Int) := by omega
      have i1 : (i : Int) < (L : Int) := by omega
      have hi2 : i < Ed.length := by rw [HL.out]; exact hil
      obtain ⟨g, o, rfl, q1, q2, q3⟩ := (HA.out.e.on HY.out.1) i hi2
      have HT := hide (show Ed.take (i + 1) = Ed.take i ++ [Ed[i]] by rw [List.take_add_one, List.getElem?_eq_getElem hi2]; rfl)
      have HN := hide (List.getElem_mem hi2)
      obtain ⟨x, hx⟩ : ∃ x, Ed[i] = x := ⟨_, rfl⟩
      rw [hx] at q1 q2 q3 HT HN
      clear hx
      obtain ⟨x1, x2, x3⟩ := x
      obtain ⟨W1, hW1⟩ : ∃ W1, wr.alloc (.cells #[.int .i64 x1, .int .i64 x2, .int .i64 x3] 35) = W1 := ⟨_, rfl⟩
      have HW : Hid (W1.heap[wr.heap.size]? = some (.cells #[.int .i64 x1, .int .i64 x2, .int .i64 x3] 35 (0, 0)) ∧ Below W0.heap.size W0 W1) := hide (by rw [← hW1]; exact ⟨World.alloc_heap_new _ _, HY.out.1.alloc HY.out.1.size _⟩)
      have HBx := hide (blk_on HD.out.2 HW.out.2)
      have y0 : W1.cell? ⟨wr.heap.size, 0, none⟩ = some (.int .i64 x1) := cell_of HW.out.1 rfl
      have y1 : W1.cell? ⟨wr.heap.size, 1, none⟩ = some (.int .i64 x2) := cell_of HW.out.1 rfl
      have y2 : W1.cell? ⟨wr.heap.size, 2, none⟩ = some (.int .i64 x3) := cell_of HW.out.1 rfl
      have z0 : W1.cell? ⟨w.heap.size, 0, none⟩ = some (.int .i64 n) := cell_of HBx.out rfl
      have z1 : W1.cell? ⟨w.heap.size, 1, none⟩ = some (.int .i64 m) := cell_of HBx.out rfl
      have HBd : Hid (edOk n m (x1, x2, x3) = false → mayA n m St Fi Ed = false) := hide (fun h => by
        have : Ed.all (edOk n m) = false := List.all_eq_false.2 ⟨_, HN.out, by rw [h]; simp⟩
        simp [mayA, this])
      cases f1 : inB n x1
      · go_wp2_with (go_at_call 47; refine (within_any _ _ _).mono ?_; rintro e w2 ⟨rfl, hw⟩; obtain rfl := hw.symm)
        go_ret
        exact ⟨HB.out (HBd.out (by simp [edOk, f1])), HD.out.1.trans (HW.out.2.mono HD.out.1.size)⟩
      cases f2 : inB m x2
      · go_wp2_with (go_at_call 47; refine (within_any _ _ _).mono ?_; rintro e w2 ⟨rfl, hw⟩; obtain rfl := hw.symm)
        go_ret
        exact ⟨HB.out (HBd.out (by simp [edOk, f2])), HD.out.1.trans (HW.out.2.mono HD.out.1.size)⟩
      cases f3 : inB n x3
      · go_wp2_with (go_at_call 47; refine (within_any _ _ _).mono ?_; rintro e w2 ⟨rfl, hw⟩; obtain rfl := hw.symm)
        go_ret
        exact ⟨HB.out (HBd.out (by simp [edOk, f3])), HD.out.1.trans (HW.out.2.mono HD.out.1.size)⟩
      go_wp2_with (go_at_call 47; refine (within_any _ _ _).mono ?_; rintro e w2 ⟨rfl, hw⟩; obtain rfl := hw.symm)
      go_roundw
      case rel => exact ⟨i + 1, by omega, by go_num, hide ⟨HW.out.2, by rw [HT.out, List.all_append, HY.out.2]; simp [edOk, f1, f2, f3]⟩⟩
      case measure => simp [intOf]; omega
    · obtain rfl : L = i := by omega
      have i1 : ¬ (L : Int) < (L : Int) := by omega
      go_wp2
      go_ret
      have q := HY.out.2
      rw [← HL.out, List.take_length] at q
      exact ⟨by rw [← HR.out, HM.out q]; rfl, HD.out.1.trans (HY.out.1.mono HD.out.1.size)⟩
end Go.Proofs.YtojnlpicgemlaabGreatDoor
namespace Go.Proofs.YtojnlpicgemlaabGreatDoor
open Go.RowKit
attribute [local go_sem] Oper.semAt_some

/-! ### Sets of states; Post and Pre -/
theorem okI_of {n : Nat} {L : List Int} (h : L.all (inB n) = true) : okI n L = true := by
  unfold okI
  rw [List.all_eq_true] at h ⊢
  intro x hx
  have := h x hx
  simpa [inB] using this
theorem own_blk {w w' : World} {B e sz n g cap : Nat} {xs : List Value} (h : w.ownsRow B e sz (.slice (some ⟨g, 0, none⟩) n cap) n xs) (hg : w'.heap[g]? = w.heap[g]?) : w'.ownsRow B e sz (.slice (some ⟨g, 0, none⟩) n cap) n xs := by
  refine ⟨h.1, ?_⟩
  rcases h.2 with z | ⟨g', cap', cur, e1, hb, hc, rest⟩
  · exact .inl z
  · cases e1
    exact .inr ⟨g, cap, cur, rfl, hb, hg.trans hc, rest⟩
theorem IsSet.keep {w w' : World} {b g cap n X : Nat} (h : IsSet w b g cap n X) (h1 : w'.heap[b]? = w.heap[b]?) (h2 : w'.heap[g]? = w.heap[g]?) : IsSet w' b g cap n X := ⟨h.hn, h.hX, h1.trans h.blk, own_blk h.own h2⟩
/-- An edge's ends. -/
def ends (back : Bool) (e : EdT) : Int × Int := if back then (e.2.2, e.1) else (e.1, e.2.2)
end Go.Proofs.YtojnlpicgemlaabGreatDoor
namespace Go.Proofs.YtojnlpicgemlaabGreatDoor
open Go.RowKit
attribute [local go_sem] Oper.semAt_some

/-! ### image -/
theorem may_parts {n m : Int} {St Fi : List Int} {Ed : List EdT} (h : mayA n m St Fi Ed = true) : (0 ≤ n ∧ n ≤ 4096) ∧ (0 ≤ m ∧ m ≤ 128) ∧ Ed.length ≤ 65536 ∧ St.all (inB n) = true ∧ Fi.all (inB n) = true ∧ ∀ e ∈ Ed, (0 ≤ e.1 ∧ e.1 < n) ∧ (0 ≤ e.2.1 ∧ e.2.1 < m) ∧ 0 ≤ e.2.2 ∧ e.2.2 < n := by
  unfold mayA at h
  simp only [Bool.and_eq_true, decide_eq_true_eq, inB_iff] at h
  obtain ⟨⟨⟨⟨⟨h1, h2⟩, h3⟩, h4⟩, h5⟩, h6⟩ := h
  refine ⟨by omega, by omega, h3, h4, h5, fun e he => ?_⟩
  have := List.all_eq_true.1 h6 e he
  simp only [edOk, Bool.and_eq_true, inB_iff] at this
  exact ⟨this.1.1, this.1.2, this.2⟩
end Go.Proofs.YtojnlpicgemlaabGreatDoor
