import Derived.Test.YtdgmokelmocejabDoorPlc
import Derived.Test.YtdgmokelmocejabDoorPla
import Derived.Test.YtdgmokelmocejabDoorPlb
import Derived.Test.YtdgmokelmocejabDoorPld
import Derived.Test.YtdgmokelmocejabDoorPle
import Derived.Test.YtdgmokelmocejabDoorPlf
import Derived.Test.YtdgmokelmocejabDoorPlg
namespace Go.Proofs.YtdgmokelmocejabDoor
open Go.RowKit

set_option maxHeartbeats 400000 in
theorem equal_self (b : Nat) (w : World) :
    Calls Tryd.prog 34 #[.pointer (some ⟨b, 0, none⟩), .pointer (some ⟨b, 0, none⟩)] w fun e w' => e = .returned (.bool true) ∧ Below w.heap.size w w' := by
  have hp : ∀ q, (binOp .eql 25 (.pointer (some ⟨b, 0, none⟩)) (.pointer (some ⟨b, 0, none⟩))).run Tryd.prog (w.drewN q) = .ok (.bool true) (w.drewN q) := fun q => by
    obtain ⟨j, hj, _⟩ := Option.map_eq_some_iff.1 info66
    exact run_eql_ptr_same (w.drewN q) ⟨b, 0, none⟩ Tryd.underlying25 hj
  go_enter Tryd.func34, Tryd.ntmps34
  go_wp2_with fail
  go_quiet (fail)
  go_wp2
  go_ret
  exact ⟨rfl, below_drewN' (Below.refl _ _) _⟩

theorem least {P : Nat → Prop} (h : ∃ n, P n) : ∃ n, P n ∧ ∀ m, m < n → ¬ P m := by
  obtain ⟨n, hn⟩ := h
  induction n using Nat.strongRecOn with
  | ind n ih =>
    by_cases hc : ∃ m, m < n ∧ P m
    · obtain ⟨m, hm, hp⟩ := hc
      exact ih m hm hp
    · exact ⟨n, hn, fun m hm hp => hc ⟨m, hm, hp⟩⟩
theorem cmp_uniq2 {n X m Y : Nat} {r s : Int} (h : CmpRel n X m Y r) (k : CmpRel n X m Y s) : r = s := by
  by_cases e : n = m
  · subst e; exact cmp_uniq h k
  · rcases Nat.lt_or_ge n m with h1 | h1
    · rw [h.1 h1, k.1 h1]
    · rw [h.2.1 (by omega), k.2.1 (by omega)]

section
variable {w0 w : World} {B : Nat} {p : Nat → Sl} {a o : Nat}
def qS (p : Nat → Sl) (a o : Nat) : Bool := decide ((p a).n = (p o).n) && decide (minusN (p a).X (p o).X = 0)
def qE (p : Nat → Sl) (a o : Nat) : Bool := decide ((p a).n = (p o).n) && decide ((p a).X = (p o).X)
def qM (p : Nat → Sl) (a o : Nat) : Bool := decide ((p a).n = (p o).n) && !decide ((p a).X &&& (p o).X = 0)
def agv (p : Nat → Sl) (k : Nat) : Value := .agg #[.int .i64 (p k).n, .slice (p k).ao (elems (p k).n (p k).X).length (p k).cr]
theorem bn_subset (h : Bn w0 B p w) (ha : a < 4) (ho : o < 4) :
    Calls Tryd.prog 46 #[(p a).ptr, (p o).ptr] w fun e w' => e = .returned (.bool (qS p a o)) ∧ Below w.heap.size w w' := by
  unfold qS
  by_cases e : (p a).n = (p o).n
  · have h2 := h.set o ho
    rw [← e] at h2
    rw [decide_eq_true e, Bool.true_and]
    exact subset_any (p a).b (p a).g (p a).c (p a).n (p a).X (p o).b (p o).g (p o).c (p o).X w (h.set a ha) h2
  · rw [decide_eq_false e, Bool.false_and]
    exact subset_bad (p a).b (p o).b (p a).n (p o).n w (h.set a ha).c0 (h.set o ho).c0 e
theorem bn_meets (h : Bn w0 B p w) (ha : a < 4) (ho : o < 4) :
    Calls Tryd.prog 49 #[(p a).ptr, (p o).ptr] w fun e w' => e = .returned (.bool (qM p a o)) ∧ Below w.heap.size w w' := by
  unfold qM
  by_cases e : (p a).n = (p o).n
  · have h2 := h.set o ho
    rw [← e] at h2
    rw [decide_eq_true e, Bool.true_and]
    exact meets_any (p a).b (p a).g (p a).c (p a).n (p a).X (p o).b (p o).g (p o).c (p o).X w (h.set a ha) h2
  · rw [decide_eq_false e, Bool.false_and]
    exact meets_bad (p a).b (p o).b (p a).n (p o).n w (h.set a ha).c0 (h.set o ho).c0 e
theorem bn_equal (h : Bn w0 B p w) (ha : a < 4) (ho : o < 4) :
    Calls Tryd.prog 34 #[(p a).ptr, (p o).ptr] w fun e w' => e = .returned (.bool (qE p a o)) ∧ Below w.heap.size w w' := by
  unfold qE
  by_cases e : a = o
  · subst e
    rw [decide_eq_true rfl, decide_eq_true rfl]
    exact equal_self (p a).b w
  · refine (equal_any (p a).b (p a).g (p a).c (p a).n (p a).X (p o).b (p o).g (p o).c (p o).n (p o).X w (h.set a ha) (h.set o ho) (h.ap a o ha ho e).1).mono ?_
    rintro e2 w' ⟨rfl, q, rfl⟩
    refine ⟨?_, below_drewN' (Below.refl _ _) _⟩
    rw [Bool.decide_and]
theorem bn_compare {r : Int} (hr : CmpRel (p a).n (p a).X (p o).n (p o).X r) (h : Bn w0 B p w) (ha : a < 4) (ho : o < 4) :
    Calls Tryd.prog 35 #[(p a).ptr, (p o).ptr] w fun e w' => e = .returned (.int .i64 r) ∧ Below w.heap.size w w' := by
  refine (compare_any (p a).b (p a).g (p a).c (p a).n (p a).X (p o).b (p o).g (p o).c (p o).n (p o).X w (h.set a ha) (h.set o ho)).mono ?_
  rintro e w' ⟨r', rfl, hr', q, rfl⟩
  rw [cmp_uniq2 hr' hr]
  exact ⟨rfl, below_drewN' (Below.refl _ _) _⟩
theorem Bn.rowK (h : Bn w0 B p w) (hok : Ok4 p) (ha : a < 4) : Row3 w (p a).ao (elems (p a).n (p a).X) := by
  have := h.row a ha
  rwa [hok a ha] at this
theorem bn_rsubset (h : Bn w0 B p w) (hok : Ok4 p) (ha : a < 4) (ho : o < 4) :
    Calls Tryd.prog 47 #[agv p a, agv p o] w fun e w' => e = .returned (.bool (qS p a o)) ∧ Below w.heap.size w w' := by
  unfold qS agv
  by_cases e : (p a).n = (p o).n
  · have h2 := h.rowK hok ho
    rw [← e] at h2
    rw [← e, decide_eq_true rfl, Bool.true_and]
    exact rsubset_any (p a).n (p a).X (p o).X (p a).ao (p o).ao (p a).cr (p o).cr w (h.set a ha).hn (h.set a ha).hX (h.rowK hok ha) h2
  · rw [decide_eq_false e, Bool.false_and]
    exact rsubset_bad (p a).n (p o).n _ _ w e
theorem bn_rmeets (h : Bn w0 B p w) (hok : Ok4 p) (ha : a < 4) (ho : o < 4) :
    Calls Tryd.prog 50 #[agv p a, agv p o] w fun e w' => e = .returned (.bool (qM p a o)) ∧ Below w.heap.size w w' := by
  unfold qM agv
  by_cases e : (p a).n = (p o).n
  · have h2 := h.rowK hok ho
    rw [← e] at h2
    rw [← e, decide_eq_true rfl, Bool.true_and]
    exact rmeets_any (p a).n (p a).X (p o).X (p a).ao (p o).ao (p a).cr (p o).cr w (h.set a ha).hn (h.set a ha).hX (h.rowK hok ha) h2
  · rw [decide_eq_false e, Bool.false_and]
    exact rmeets_bad (p a).n (p o).n _ _ w e
theorem bn_requal (h : Bn w0 B p w) (hok : Ok4 p) (ha : a < 4) (ho : o < 4) :
    Calls Tryd.prog 48 #[agv p a, agv p o] w fun e w' => e = .returned (.bool (qE p a o)) ∧ Below w.heap.size w w' := by
  unfold qE agv
  by_cases e : (p a).n = (p o).n
  · have h2 := h.rowK hok ho
    have hX := (h.set o ho).hX
    rw [← e] at h2 hX
    rw [← e, decide_eq_true rfl, Bool.true_and]
    exact requal_any (p a).n (p a).X (p o).X (p a).ao (p o).ao (p a).cr (p o).cr w (h.set a ha).hn (h.set a ha).hX hX (h.rowK hok ha) h2
  · rw [decide_eq_false e, Bool.false_and]
    exact requal_bad (p a).n (p o).n _ _ w e
theorem bn_rcompare {r : Int} (hr : CmpRel (p a).n (p a).X (p o).n (p o).X r) (h : Bn w0 B p w) (hok : Ok4 p) (ha : a < 4) (ho : o < 4) :
    Calls Tryd.prog 51 #[agv p a, agv p o] w fun e w' => e = .returned (.int .i64 r) ∧ Below w.heap.size w w' := by
  unfold agv
  by_cases e : (p a).n = (p o).n
  · have h2 := h.rowK hok ho
    have hX := (h.set o ho).hX
    rw [← e] at h2 hX hr
    rw [← e]
    refine (rcompare_any (p a).n (p a).X (p o).X (p a).ao (p o).ao (p a).cr (p o).cr w (h.set a ha).hn (h.set a ha).hX hX (h.rowK hok ha) h2).mono ?_
    rintro e w' ⟨r', rfl, hr', d⟩
    rw [cmp_uniq2 hr' hr]
    exact ⟨rfl, d⟩
  · refine (rcompare_bad (p a).n (p a).X (p o).n (p o).X _ _ w e).mono ?_
    rintro e w' ⟨r', rfl, hr', d⟩
    rw [cmp_uniq2 hr' hr]
    exact ⟨rfl, d⟩
theorem cmp_ex {p : Nat → Sl} {a o : Nat} : ∃ r, CmpRel (p a).n (p a).X (p o).n (p o).X r := by
  by_cases e : (p a).n = (p o).n
  · rw [← e]
    by_cases hl : (elems (p a).n (p a).X).length = (elems (p a).n (p o).X).length
    · by_cases hx : (p a).X = (p o).X
      · rw [hx]; exact ⟨0, fun e => by omega, fun e => by omega, fun _ => ⟨fun e => by omega, fun e => by omega, fun _ => .inl ⟨rfl, rfl⟩⟩⟩
      · have hne : ∃ i, (p a).X.testBit i ≠ (p o).X.testBit i := by
          refine Classical.byContradiction fun hc => hx (Nat.eq_of_testBit_eq fun i => ?_)
          refine Classical.byContradiction fun h2 => hc ⟨i, h2⟩
        obtain ⟨c, hc⟩ : ∃ c, Parts (p a).X (p o).X c := by
          obtain ⟨c, h1, h2⟩ := least hne
          exact ⟨c, h1, fun i hi => Classical.not_not.1 (h2 i hi)⟩
        exact ⟨_, fun e => by omega, fun e => by omega, fun _ => ⟨fun e => by unfold cnt at e; omega, fun e => by unfold cnt at e; omega, fun _ => .inr ⟨c, hc, rfl⟩⟩⟩
    · exact ⟨_, cmp_cnt _ _ _ hl⟩
  · exact ⟨_, cmp_bound _ _ _ _ e⟩
end
end Go.Proofs.YtdgmokelmocejabDoor
namespace Go.Proofs.YtdgmokelmocejabDoor
open Go.RowKit

section
variable (w0 w : World) (B : Nat) (p : Nat → Sl) (d At Of To I : Int) (al : Option Addr) (l : List Int) (cl : Nat) (key : ByteArray)
/-- What stands behind a step: all is true, and the bench is one again. -/
def StepOk (w0 : World) (B : Nat) (e : Ending) (w' : World) : Prop := e = .returned (.bool true) ∧ ∃ p', Ok4 p' ∧ Bn w0 B p' w'
theorem makes_any (h : Bn w0 B p w) (hok : Ok4 p) (hrd : Hid (ReadsI w al l)) (hlen : l.length ≤ 1048576) (hTT : Hid (TabAt w ∧ 0 < w.heap.size)) (hd : 1 ≤ d ∧ d ≤ 9) :
    Calls Tryd.prog 44 #[.pointer (some ⟨B, 0, none⟩), .agg #[.int .i64 d, .int .i64 At, .int .i64 Of, .int .i64 To, .int .i64 I, .slice al l.length cl, .string key]] w (StepOk w0 B) := by
  obtain rfl | rfl | rfl | rfl | rfl | rfl | rfl | rfl | rfl : d = 1 ∨ d = 2 ∨ d = 3 ∨ d = 4 ∨ d = 5 ∨ d = 6 ∨ d = 7 ∨ d = 8 ∨ d = 9 := by omega
  · by_cases e : I < 0 ∨ 8192 < I
    · exact makes_new_no w0 w B p At Of To I al l.length cl key h hok e
    · exact makes_new_ok w0 w B p At Of To I al l.length cl key h hok (by omega)
  · by_cases e : ofC I l = 0
    · exact makes_of_ok w0 w B p At Of To I al l.length cl key h hok l rfl hrd hlen hTT e
    · exact makes_of_no w0 w B p At Of To I al l.length cl key h hok l rfl hrd hlen hTT e
  · by_cases e : Good key
    · exact makes_fk_ok w0 w B p At Of To I al l.length cl key h hok e
    · exact makes_fk_no w0 w B p At Of To I al l.length cl key h hok e
  · exact makes_again w0 w B p At Of To I al l.length cl key h hok
  · exact makes_copy w0 w B p At Of To I al l.length cl key h hok
  · by_cases e : (p (plc At)).n = (p (plc Of)).n
    · exact makes_union_ok w0 w B p At Of To I al l.length cl key h hok e
    · exact makes_union_no w0 w B p At Of To I al l.length cl key h hok e
  · by_cases e : (p (plc At)).n = (p (plc Of)).n
    · exact makes_meet_ok w0 w B p At Of To I al l.length cl key h hok e
    · exact makes_meet_no w0 w B p At Of To I al l.length cl key h hok e
  · by_cases e : (p (plc At)).n = (p (plc Of)).n
    · exact makes_minus_ok w0 w B p At Of To I al l.length cl key h hok e
    · exact makes_minus_no w0 w B p At Of To I al l.length cl key h hok e
  · exact makes_not w0 w B p At Of To I al l.length cl key h hok
theorem changes_any (h : Bn w0 B p w) (hok : Ok4 p) (hd : 10 ≤ d ∧ d ≤ 15) :
    Calls Tryd.prog 45 #[.pointer (some ⟨B, 0, none⟩), .agg #[.int .i64 d, .int .i64 At, .int .i64 Of, .int .i64 To, .int .i64 I, .slice al l.length cl, .string key]] w (StepOk w0 B) := by
  obtain rfl | rfl | rfl | rfl | rfl | rfl : d = 10 ∨ d = 11 ∨ d = 12 ∨ d = 13 ∨ d = 14 ∨ d = 15 := by omega
  · by_cases e : 0 ≤ I ∧ I < ((p (plc At)).n : Int)
    · exact changes_add_ok w0 w B p At Of To I al l.length cl key h hok e
    · exact changes_add_no w0 w B p At Of To I al l.length cl key h hok e
  · by_cases e : 0 ≤ I ∧ I < ((p (plc At)).n : Int)
    · exact changes_rem_ok w0 w B p At Of To I al l.length cl key h hok e
    · exact changes_rem_no w0 w B p At Of To I al l.length cl key h hok e
  · exact changes_clr_ok w0 w B p At Of To I al l.length cl key h hok
  · by_cases e : (p (plc At)).n = (p (plc Of)).n
    · exact changes_join_ok w0 w B p At Of To I al l.length cl key h hok e
    · exact changes_join_no w0 w B p At Of To I al l.length cl key h hok e
  · by_cases e : (p (plc At)).n = (p (plc Of)).n
    · exact changes_cut_ok w0 w B p At Of To I al l.length cl key h hok e
    · exact changes_cut_no w0 w B p At Of To I al l.length cl key h hok e
  · by_cases e : (p (plc At)).n = (p (plc Of)).n
    · exact changes_drop_ok w0 w B p At Of To I al l.length cl key h hok e
    · exact changes_drop_no w0 w B p At Of To I al l.length cl key h hok e
end
end Go.Proofs.YtdgmokelmocejabDoor
