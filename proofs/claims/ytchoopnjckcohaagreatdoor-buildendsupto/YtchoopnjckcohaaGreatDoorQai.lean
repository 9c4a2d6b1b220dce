import Derived.Test.YtchoopnjckcohaaGreatDoorQah
import Derived.Test.YtchoopnjckcohaaGreatDoorQab
namespace Go.Proofs.YtchoopnjckcohaaGreatDoor
open Go.RowKit Go.Maps
attribute [local go_sem] Oper.semAt_some

/-! ### The states that are met -/
def metX (len : Nat → Int) (i : Nat) : Nat := (List.range i).foldl (fun X p => if len p = -1 then X else X ||| 2 ^ p) 0
theorem metX_succ (len : Nat → Int) (i : Nat) : metX len (i + 1) = if len i = -1 then metX len i else metX len i ||| 2 ^ i := by
  simp [metX, List.range_succ]
theorem metX_test (len : Nat → Int) (q : Nat) : ∀ i, (metX len i).testBit q = decide (q < i ∧ len q ≠ -1)
  | 0 => by simp [metX]
  | i + 1 => by
    rw [metX_succ]
    by_cases h : len i = -1
    · rw [if_pos h, metX_test len q i]
      apply decide_eq_decide.2
      constructor
      · rintro ⟨h1, h2⟩; exact ⟨by omega, h2⟩
      · rintro ⟨h1, h2⟩
        have : q ≠ i := fun e => h2 (by rw [e]; exact h)
        exact ⟨by omega, h2⟩
    · rw [if_neg h, Nat.testBit_or, metX_test len q i, Nat.testBit_two_pow]
      by_cases e : i = q
      · subst e; simp [h]
      · rw [decide_eq_false e, Bool.or_false]
        apply decide_eq_decide.2
        constructor
        · rintro ⟨h1, h2⟩; exact ⟨by omega, h2⟩
        · rintro ⟨h1, h2⟩; exact ⟨by omega, h2⟩
def NewSet (w w' : World) (b N X : Nat) : Prop := ∃ g cap, IsSet w' b g cap N X ∧ w.heap.size ≤ b ∧ w.heap.size ≤ g ∧ b ≠ g
def RchS (w w' : World) (b N : Nat) (S : Nat → Prop) (E : Nat → Nat → Prop) : Prop := ∃ len, NewSet w w' b N (metX len N) ∧ Bfs N S E [] len
set_option maxRecDepth 100000 in
set_option maxHeartbeats 1000000 in
theorem met_any (w : World) (gl N : Nat) (len : Nat → Int) (hM : Mrw w gl 3 N (fun c => .int .i64 (len c)) N) (hN : N ≤ 8192) :
    Calls Tryz.prog 113 #[.slice (some ⟨gl, 0, none⟩) N N] w fun e w' => ∃ b, e = .returned (.pointer (some ⟨b, 0, none⟩)) ∧ NewSet w w' b N (metX len N) ∧ Below w.heap.size w w' := by
  have HM := hide hM
  have hgl := hM.lt
  clear hM
  go_enter Tryz.func113, Tryz.ntmps113
  go_wp2_with (go_at_call 137; refine (new_ok N w hN).mono ?_; rintro e w1 ⟨b, g, cap, rfl, hs, hb, hg, hbg, hd⟩; have H1 := hide (And.intro hs (And.intro hb (And.intro hg (And.intro hbg hd)))); clear hs hb hg hbg hd)
  go_loopw [15] (fun iv wr => ∃ i : Nat, i ≤ N ∧ iv = .int .i64 (i : Int) ∧ Hid (IsSet wr b g cap N (metX len i) ∧ Below w.heap.size w wr)) (fun iv _ => N - (intOf iv).toNat)
  case atStart => exact ⟨0, Nat.zero_le _, rfl, hide ⟨H1.out.1, H1.out.2.2.2.2⟩⟩
  case round =>
    obtain ⟨i, hi, rfl, HY⟩ := hrel
    by_cases hlt : i < N
    · have l0 : (i : Int) < (N : Int) := by omega
      have i0 : (0 : Int) ≤ (i : Int) := by omega
      have ci : wr.cell? ⟨gl, i, none⟩ = some (.int .i64 (len i)) := (HM.out.below HY.out.2 hgl).at i hlt
      by_cases hn : len i = -1
      · have J : Hid (IsSet wr b g cap N (metX len (i + 1)) ∧ Below w.heap.size w wr) := hide (by rw [metX_succ, if_pos hn]; exact HY.out)
        rw [hn] at ci
        go_wp2_with fail
        go_roundw
        case rel => exact ⟨i + 1, by omega, by go_num, J⟩
        case measure => simp [intOf]; omega
      · have hn' : ¬ (len i = (-1 : Int)) := hn
        have TA := add_in b g cap N (metX len i) i w.heap.size wr HY.out.1 H1.out.2.2.2.1 hlt H1.out.2.2.1
        go_wp2_with (go_at_call 138; refine TA.mono ?_; rintro e w3 ⟨rfl, hs3, hd3⟩)
        have J : Hid (IsSet w3 b g cap N (metX len (i + 1)) ∧ Below w.heap.size w w3) := hide (by rw [metX_succ, if_neg hn]; exact ⟨hs3, HY.out.2.trans hd3⟩)
        clear hs3 hd3
        go_roundw
        case rel => exact ⟨i + 1, by omega, by go_num, J⟩
        case measure => simp [intOf]; omega
    · have l0 : ¬ (i : Int) < (N : Int) := by omega
      have hiN : i = N := by omega
      rw [hiN] at HY
      go_wp2_with fail
      go_ret
      exact ⟨b, rfl, ⟨g, cap, HY.out.1, H1.out.2.1, H1.out.2.2.1, H1.out.2.2.2.1⟩, HY.out.2⟩
/-- An automaton that may be, and that can be read. -/
structure ArgA (w : World) (N : Nat) (mv : Int) (a1 a2 a3 : Option Addr) (St Fi : List Int) (Ed : List EdT) : Prop where
  may : mayA (N : Int) mv St Fi Ed = true
  rs : RdN w a1 St
  rf : RdN w a2 Fi
  re : RdE w a3 Ed
  ls : St.length ≤ 4194304
  lf : Fi.length ≤ 4194304
theorem ArgA.hN {w : World} {N : Nat} {mv : Int} {a1 a2 a3 : Option Addr} {St Fi : List Int} {Ed : List EdT} (h : ArgA w N mv a1 a2 a3 St Fi Ed) : N ≤ 4096 := by have := (may_parts h.may).1; omega
theorem ArgA.le {w : World} {N : Nat} {mv : Int} {a1 a2 a3 : Option Addr} {St Fi : List Int} {Ed : List EdT} (h : ArgA w N mv a1 a2 a3 St Fi Ed) : Ed.length ≤ 65536 := (may_parts h.may).2.2.1
theorem ArgA.ends {w : World} {N : Nat} {mv : Int} {a1 a2 a3 : Option Addr} {St Fi : List Int} {Ed : List EdT} (h : ArgA w N mv a1 a2 a3 St Fi Ed) (bk : Bool) : ∀ e ∈ Ed, ∃ p r : Nat, p < N ∧ r < N ∧ YtchoopnjckcohaaGreatDoor.ends bk e = ((p : Int), (r : Int)) := fun e he => by
  obtain ⟨h1, _, h2⟩ := (may_parts h.may).2.2.2.2.2 e he
  cases bk
  · exact ⟨e.1.toNat, e.2.2.toNat, by omega, by omega, Prod.ext (show e.1 = _ by omega) (show e.2.2 = _ by omega)⟩
  · exact ⟨e.2.2.toNat, e.1.toNat, by omega, by omega, Prod.ext (show e.2.2 = _ by omega) (show e.1 = _ by omega)⟩
theorem all_in {N : Nat} {L : List Int} (h : L.all (inB (N : Int)) = true) : ∀ x ∈ L, ∃ q : Nat, q < N ∧ x = (q : Int) := fun x hx => by
  have := List.all_eq_true.1 h x hx
  unfold inB at this
  simp at this
  exact ⟨x.toNat, by omega, by omega⟩
theorem ArgA.ins {w : World} {N : Nat} {mv : Int} {a1 a2 a3 : Option Addr} {St Fi : List Int} {Ed : List EdT} (h : ArgA w N mv a1 a2 a3 St Fi Ed) : ∀ x ∈ St, ∃ q : Nat, q < N ∧ x = (q : Int) := all_in (may_parts h.may).2.2.2.1
theorem ArgA.inf {w : World} {N : Nat} {mv : Int} {a1 a2 a3 : Option Addr} {St Fi : List Int} {Ed : List EdT} (h : ArgA w N mv a1 a2 a3 St Fi Ed) : ∀ x ∈ Fi, ∃ q : Nat, q < N ∧ x = (q : Int) := all_in (may_parts h.may).2.2.2.2.1
set_option maxRecDepth 100000 in
set_option maxHeartbeats 4000000 in
theorem reached_any (w : World) (N : Nat) (mv : Int) (a1 a2 a3 : Option Addr) (c1 c2 c3 : Nat) (St Fi : List Int) (Ed : List EdT) (hA : ArgA w N mv a1 a2 a3 St Fi Ed) :
    Calls Tryz.prog 78 #[.agg #[.int .i64 (N : Int), .int .i64 mv, .slice a1 St.length c1, .slice a2 Fi.length c2, .slice a3 Ed.length c3]] w fun e w' => ∃ b, e = .returned (.pointer (some ⟨b, 0, none⟩)) ∧ RchS w w' b N (fun q => (q : Int) ∈ St) (stepE false Ed) ∧ Below w.heap.size w w' := by
  obtain ⟨n1, e1⟩ : ∃ n, St.length = n := ⟨_, rfl⟩
  obtain ⟨n2, e2⟩ : ∃ n, Fi.length = n := ⟨_, rfl⟩
  obtain ⟨n3, e3⟩ : ∃ n, Ed.length = n := ⟨_, rfl⟩
  have HQ := hide (And.intro hA (And.intro e1 (And.intro e2 e3)))
  rw [e1, e2, e3]
  clear hA e1 e2 e3
  obtain ⟨W0, hW0⟩ : ∃ W0, w.alloc (.cells #[.int .i64 (N : Int), .int .i64 mv, .slice a1 n1 c1, .slice a2 n2 c2, .slice a3 n3 c3] 25) = W0 := ⟨_, rfl⟩
  have d0 : Below w.heap.size w W0 := by rw [← hW0]; exact (Below.refl _ _).alloc (Nat.le_refl _) _
  have B0 : W0.heap[w.heap.size]? = some (.cells #[.int .i64 (N : Int), .int .i64 mv, .slice a1 n1 c1, .slice a2 n2 c2, .slice a3 n3 c3] 25 (0, 0)) := by rw [← hW0]; exact World.alloc_heap_new _ _
  have k0 : W0.cell? ⟨w.heap.size, 0, none⟩ = some (.int .i64 (N : Int)) := cell_of B0 rfl
  have k1 : W0.cell? ⟨w.heap.size, 1, none⟩ = some (.int .i64 mv) := cell_of B0 rfl
  have k2 : W0.cell? ⟨w.heap.size, 2, none⟩ = some (.slice a1 n1 c1) := cell_of B0 rfl
  have k3 : W0.cell? ⟨w.heap.size, 3, none⟩ = some (.slice a2 n2 c2) := cell_of B0 rfl
  have k4 : W0.cell? ⟨w.heap.size, 4, none⟩ = some (.slice a3 n3 c3) := cell_of B0 rfl
  have TL := lengths_fwd W0 N mv a1 a2 a3 a1 n1 n2 c1 c2 c3 c1 Ed St (Nat.le_trans HQ.out.1.hN (by decide)) (HQ.out.1.re.on d0) ((HQ.out.1.rs).on d0) (Nat.le_trans HQ.out.1.le (by decide)) HQ.out.1.ls (HQ.out.1.ends false) HQ.out.1.ins
  rw [HQ.out.2.1, HQ.out.2.2.2] at TL
  have HD := hide d0
  clear d0 B0
  go_enter Tryz.func78, Tryz.ntmps78
  go_wp2_with (go_at_call 114; refine TL.mono ?_; rintro e w5 ⟨gl, rfl, _, ⟨len, hM, hb, _⟩, d5⟩; have HM := hide (And.intro hM (And.intro hb d5)); clear hM hb d5)
  go_wp2_with (go_at_call 113; refine (met_any w5 gl N len HM.out.1 (Nat.le_trans HQ.out.1.hN (by decide))).mono ?_; rintro e w6 ⟨b, rfl, h6', d6⟩; obtain ⟨g, cap, h6, q1, q2, q3⟩ := h6'; have H6 := hide (And.intro h6 (And.intro q1 (And.intro q2 (And.intro q3 d6)))); clear h6 q1 q2 q3 d6)
  go_ret
  have D5 : Below w.heap.size w w5 := HD.out.trans (HM.out.2.2.mono HD.out.size)
  exact ⟨b, rfl, ⟨len, ⟨g, cap, H6.out.1, Nat.le_trans D5.size H6.out.2.1, Nat.le_trans D5.size H6.out.2.2.1, H6.out.2.2.2.1⟩, HM.out.2.1⟩, D5.trans (H6.out.2.2.2.2.mono D5.size)⟩
set_option maxRecDepth 100000 in
set_option maxHeartbeats 4000000 in
theorem coreached_any (w : World) (N : Nat) (mv : Int) (a1 a2 a3 : Option Addr) (c1 c2 c3 : Nat) (St Fi : List Int) (Ed : List EdT) (hA : ArgA w N mv a1 a2 a3 St Fi Ed) :
    Calls Tryz.prog 76 #[.agg #[.int .i64 (N : Int), .int .i64 mv, .slice a1 St.length c1, .slice a2 Fi.length c2, .slice a3 Ed.length c3]] w fun e w' => ∃ b, e = .returned (.pointer (some ⟨b, 0, none⟩)) ∧ RchS w w' b N (fun q => (q : Int) ∈ Fi) (stepE true Ed) ∧ Below w.heap.size w w' := by
  obtain ⟨n1, e1⟩ : ∃ n, St.length = n := ⟨_, rfl⟩
  obtain ⟨n2, e2⟩ : ∃ n, Fi.length = n := ⟨_, rfl⟩
  obtain ⟨n3, e3⟩ : ∃ n, Ed.length = n := ⟨_, rfl⟩
  have HQ := hide (And.intro hA (And.intro e1 (And.intro e2 e3)))
  rw [e1, e2, e3]
  clear hA e1 e2 e3
  obtain ⟨W0, hW0⟩ : ∃ W0, w.alloc (.cells #[.int .i64 (N : Int), .int .i64 mv, .slice a1 n1 c1, .slice a2 n2 c2, .slice a3 n3 c3] 25) = W0 := ⟨_, rfl⟩
  have d0 : Below w.heap.size w W0 := by rw [← hW0]; exact (Below.refl _ _).alloc (Nat.le_refl _) _
  have B0 : W0.heap[w.heap.size]? = some (.cells #[.int .i64 (N : Int), .int .i64 mv, .slice a1 n1 c1, .slice a2 n2 c2, .slice a3 n3 c3] 25 (0, 0)) := by rw [← hW0]; exact World.alloc_heap_new _ _
  have k0 : W0.cell? ⟨w.heap.size, 0, none⟩ = some (.int .i64 (N : Int)) := cell_of B0 rfl
  have k1 : W0.cell? ⟨w.heap.size, 1, none⟩ = some (.int .i64 mv) := cell_of B0 rfl
  have k2 : W0.cell? ⟨w.heap.size, 2, none⟩ = some (.slice a1 n1 c1) := cell_of B0 rfl
  have k3 : W0.cell? ⟨w.heap.size, 3, none⟩ = some (.slice a2 n2 c2) := cell_of B0 rfl
  have k4 : W0.cell? ⟨w.heap.size, 4, none⟩ = some (.slice a3 n3 c3) := cell_of B0 rfl
  have TL := lengths_bwd W0 N mv a1 a2 a3 a2 n1 n2 c1 c2 c3 c2 Ed Fi (Nat.le_trans HQ.out.1.hN (by decide)) (HQ.out.1.re.on d0) ((HQ.out.1.rf).on d0) (Nat.le_trans HQ.out.1.le (by decide)) HQ.out.1.lf (HQ.out.1.ends true) HQ.out.1.inf
  rw [HQ.out.2.2.1, HQ.out.2.2.2] at TL
  have HD := hide d0
  clear d0 B0
  go_enter Tryz.func76, Tryz.ntmps76
  go_wp2_with (go_at_call 114; refine TL.mono ?_; rintro e w5 ⟨gl, rfl, _, ⟨len, hM, hb, _⟩, d5⟩; have HM := hide (And.intro hM (And.intro hb d5)); clear hM hb d5)
  go_wp2_with (go_at_call 113; refine (met_any w5 gl N len HM.out.1 (Nat.le_trans HQ.out.1.hN (by decide))).mono ?_; rintro e w6 ⟨b, rfl, h6', d6⟩; obtain ⟨g, cap, h6, q1, q2, q3⟩ := h6'; have H6 := hide (And.intro h6 (And.intro q1 (And.intro q2 (And.intro q3 d6)))); clear h6 q1 q2 q3 d6)
  go_ret
  have D5 : Below w.heap.size w w5 := HD.out.trans (HM.out.2.2.mono HD.out.size)
  exact ⟨b, rfl, ⟨len, ⟨g, cap, H6.out.1, Nat.le_trans D5.size H6.out.2.1, Nat.le_trans D5.size H6.out.2.2.1, H6.out.2.2.2.1⟩, HM.out.2.1⟩, D5.trans (H6.out.2.2.2.2.mono D5.size)⟩
end Go.Proofs.YtchoopnjckcohaaGreatDoor
namespace Go.Proofs.YtchoopnjckcohaaGreatDoor
open Go.RowKit Go.Maps
attribute [local go_sem] Oper.semAt_some

/-! ### Reach, Coreach, Dist -/
theorem argA_rd {w : World} {N : Nat} {mv : Int} {a1 a2 a3 : Option Addr} {St Fi : List Int} {Ed : List EdT} (h : ArgA w N mv a1 a2 a3 St Fi Ed) : RdA w a1 a2 a3 St Fi Ed := ⟨h.rs, h.rf, h.re⟩
theorem ArgA.on {w w' : World} {N : Nat} {mv : Int} {a1 a2 a3 : Option Addr} {St Fi : List Int} {Ed : List EdT} (h : ArgA w N mv a1 a2 a3 St Fi Ed) (d : Below w.heap.size w w') : ArgA w' N mv a1 a2 a3 St Fi Ed := ⟨h.may, h.rs.on d, h.rf.on d, h.re.on d, h.ls, h.lf⟩
theorem own_lower {W : World} {B B' n sz : Nat} {e : TypeId} {v : Value} {xs : List Value} (h : W.ownsRow B e sz v n xs) (hB : B' ≤ B) : W.ownsRow B' e sz v n xs := by
  refine ⟨h.1, ?_⟩
  rcases h.2 with h1 | ⟨g, cap, cur, hv, hb, rest⟩
  · exact .inl h1
  · exact .inr ⟨g, cap, cur, hv, Nat.le_trans hB hb, rest⟩
/-- The states that have a length, in a list of its own. -/
def AnsR (w w' : World) (v : Value) (N : Nat) (S : Nat → Prop) (E : Nat → Nat → Prop) : Prop :=
  ∃ len gl cl, v = .slice (some ⟨gl, 0, none⟩) (elems N (metX len N)).length cl ∧ w'.ownsRow w.heap.size 3 1 (.slice (some ⟨gl, 0, none⟩) (elems N (metX len N)).length cl) (elems N (metX len N)).length (intV (elems N (metX len N))) ∧ Bfs N S E [] len
set_option maxRecDepth 100000 in
set_option maxHeartbeats 1000000 in
theorem preach_bad (w : World) (n : Int) (mv : Int) (a1 a2 a3 : Option Addr) (c1 c2 c3 : Nat) (St Fi : List Int) (Ed : List EdT) (hA : RdA w a1 a2 a3 St Fi Ed) (h1 : St.length ≤ 4194304) (h2 : Fi.length ≤ 4194304) (h3 : Ed.length ≤ 4194304) (hm : mayA n mv St Fi Ed = false) :
    Calls Tryz.prog 39 #[.agg #[.int .i64 n, .int .i64 mv, .slice a1 St.length c1, .slice a2 Fi.length c2, .slice a3 Ed.length c3]] w fun e w' => e = .returned (.tuple #[.slice none 0 0, .int .i64 2]) ∧ Below w.heap.size w w' := by
  obtain ⟨n1, e1⟩ : ∃ n, St.length = n := ⟨_, rfl⟩
  obtain ⟨n2, e2⟩ : ∃ n, Fi.length = n := ⟨_, rfl⟩
  obtain ⟨n3, e3⟩ : ∃ n, Ed.length = n := ⟨_, rfl⟩
  obtain ⟨W0, hW0⟩ : ∃ W0, w.alloc (.cells #[.int .i64 n, .int .i64 mv, .slice a1 n1 c1, .slice a2 n2 c2, .slice a3 n3 c3] 25) = W0 := ⟨_, rfl⟩
  have d0 : Below w.heap.size w W0 := by rw [← hW0]; exact (Below.refl _ _).alloc (Nat.le_refl _) _
  have B0 : W0.heap[w.heap.size]? = some (.cells #[.int .i64 n, .int .i64 mv, .slice a1 n1 c1, .slice a2 n2 c2, .slice a3 n3 c3] 25 (0, 0)) := by rw [← hW0]; exact World.alloc_heap_new _ _
  have k0 : W0.cell? ⟨w.heap.size, 0, none⟩ = some (.int .i64 n) := cell_of B0 rfl
  have k1 : W0.cell? ⟨w.heap.size, 1, none⟩ = some (.int .i64 mv) := cell_of B0 rfl
  have k2 : W0.cell? ⟨w.heap.size, 2, none⟩ = some (.slice a1 n1 c1) := cell_of B0 rfl
  have k3 : W0.cell? ⟨w.heap.size, 3, none⟩ = some (.slice a2 n2 c2) := cell_of B0 rfl
  have k4 : W0.cell? ⟨w.heap.size, 4, none⟩ = some (.slice a3 n3 c3) := cell_of B0 rfl
  have TV := valid_any W0 n mv a1 a2 a3 c1 c2 c3 St Fi Ed (hide (hA.on d0)) h1 h2 h3
  rw [hm, e1, e2, e3] at TV
  rw [e1, e2, e3]
  have HD := hide d0
  clear d0 B0 e1 e2 e3 hA h1 h2 h3 hm
  go_enter Tryz.func39, Tryz.ntmps39
  go_wp2_with (go_at_call 75; refine TV.mono ?_; rintro e w5 ⟨rfl, d5⟩)
  go_ret2
  exact ⟨rfl, HD.out.trans (d5.mono HD.out.size)⟩
set_option maxRecDepth 100000 in
set_option maxHeartbeats 1000000 in
theorem pcoreach_bad (w : World) (n : Int) (mv : Int) (a1 a2 a3 : Option Addr) (c1 c2 c3 : Nat) (St Fi : List Int) (Ed : List EdT) (hA : RdA w a1 a2 a3 St Fi Ed) (h1 : St.length ≤ 4194304) (h2 : Fi.length ≤ 4194304) (h3 : Ed.length ≤ 4194304) (hm : mayA n mv St Fi Ed = false) :
    Calls Tryz.prog 37 #[.agg #[.int .i64 n, .int .i64 mv, .slice a1 St.length c1, .slice a2 Fi.length c2, .slice a3 Ed.length c3]] w fun e w' => e = .returned (.tuple #[.slice none 0 0, .int .i64 2]) ∧ Below w.heap.size w w' := by
  obtain ⟨n1, e1⟩ : ∃ n, St.length = n := ⟨_, rfl⟩
  obtain ⟨n2, e2⟩ : ∃ n, Fi.length = n := ⟨_, rfl⟩
  obtain ⟨n3, e3⟩ : ∃ n, Ed.length = n := ⟨_, rfl⟩
  obtain ⟨W0, hW0⟩ : ∃ W0, w.alloc (.cells #[.int .i64 n, .int .i64 mv, .slice a1 n1 c1, .slice a2 n2 c2, .slice a3 n3 c3] 25) = W0 := ⟨_, rfl⟩
  have d0 : Below w.heap.size w W0 := by rw [← hW0]; exact (Below.refl _ _).alloc (Nat.le_refl _) _
  have B0 : W0.heap[w.heap.size]? = some (.cells #[.int .i64 n, .int .i64 mv, .slice a1 n1 c1, .slice a2 n2 c2, .slice a3 n3 c3] 25 (0, 0)) := by rw [← hW0]; exact World.alloc_heap_new _ _
  have k0 : W0.cell? ⟨w.heap.size, 0, none⟩ = some (.int .i64 n) := cell_of B0 rfl
  have k1 : W0.cell? ⟨w.heap.size, 1, none⟩ = some (.int .i64 mv) := cell_of B0 rfl
  have k2 : W0.cell? ⟨w.heap.size, 2, none⟩ = some (.slice a1 n1 c1) := cell_of B0 rfl
  have k3 : W0.cell? ⟨w.heap.size, 3, none⟩ = some (.slice a2 n2 c2) := cell_of B0 rfl
  have k4 : W0.cell? ⟨w.heap.size, 4, none⟩ = some (.slice a3 n3 c3) := cell_of B0 rfl
  have TV := valid_any W0 n mv a1 a2 a3 c1 c2 c3 St Fi Ed (hide (hA.on d0)) h1 h2 h3
  rw [hm, e1, e2, e3] at TV
  rw [e1, e2, e3]
  have HD := hide d0
  clear d0 B0 e1 e2 e3 hA h1 h2 h3 hm
  go_enter Tryz.func37, Tryz.ntmps37
  go_wp2_with (go_at_call 75; refine TV.mono ?_; rintro e w5 ⟨rfl, d5⟩)
  go_ret2
  exact ⟨rfl, HD.out.trans (d5.mono HD.out.size)⟩
set_option maxRecDepth 100000 in
set_option maxHeartbeats 1000000 in
theorem preach_ok (w : World) (N : Nat) (mv : Int) (a1 a2 a3 : Option Addr) (c1 c2 c3 : Nat) (St Fi : List Int) (Ed : List EdT) (hA : ArgA w N mv a1 a2 a3 St Fi Ed) (hT : TabAt w) (h0 : 0 < w.heap.size) :
    Calls Tryz.prog 39 #[.agg #[.int .i64 (N : Int), .int .i64 mv, .slice a1 St.length c1, .slice a2 Fi.length c2, .slice a3 Ed.length c3]] w fun e w' => ∃ v, e = .returned (.tuple #[v, .int .i64 0]) ∧ AnsR w w' v N (fun q => (q : Int) ∈ St) (stepE false Ed) ∧ Below w.heap.size w w' := by
  obtain ⟨n1, e1⟩ : ∃ n, St.length = n := ⟨_, rfl⟩
  obtain ⟨n2, e2⟩ : ∃ n, Fi.length = n := ⟨_, rfl⟩
  obtain ⟨n3, e3⟩ : ∃ n, Ed.length = n := ⟨_, rfl⟩
  obtain ⟨W0, hW0⟩ : ∃ W0, w.alloc (.cells #[.int .i64 (N : Int), .int .i64 mv, .slice a1 n1 c1, .slice a2 n2 c2, .slice a3 n3 c3] 25) = W0 := ⟨_, rfl⟩
  have d0 : Below w.heap.size w W0 := by rw [← hW0]; exact (Below.refl _ _).alloc (Nat.le_refl _) _
  have B0 : W0.heap[w.heap.size]? = some (.cells #[.int .i64 (N : Int), .int .i64 mv, .slice a1 n1 c1, .slice a2 n2 c2, .slice a3 n3 c3] 25 (0, 0)) := by rw [← hW0]; exact World.alloc_heap_new _ _
  have k0 : W0.cell? ⟨w.heap.size, 0, none⟩ = some (.int .i64 (N : Int)) := cell_of B0 rfl
  have k1 : W0.cell? ⟨w.heap.size, 1, none⟩ = some (.int .i64 mv) := cell_of B0 rfl
  have k2 : W0.cell? ⟨w.heap.size, 2, none⟩ = some (.slice a1 n1 c1) := cell_of B0 rfl
  have k3 : W0.cell? ⟨w.heap.size, 3, none⟩ = some (.slice a2 n2 c2) := cell_of B0 rfl
  have k4 : W0.cell? ⟨w.heap.size, 4, none⟩ = some (.slice a3 n3 c3) := cell_of B0 rfl
  have TV := valid_any W0 (N : Int) mv a1 a2 a3 c1 c2 c3 St Fi Ed (hide (RdA.on (argA_rd hA) d0)) hA.ls hA.lf (Nat.le_trans hA.le (by decide))
  rw [hA.may, e1, e2, e3] at TV
  have HQ := hide (And.intro hA (And.intro e1 (And.intro e2 (And.intro e3 hT))))
  rw [e1, e2, e3]
  have HD := hide (And.intro d0 B0)
  clear d0 B0 e1 e2 e3 hA hT
  go_enter Tryz.func39, Tryz.ntmps39
  go_wp2_with (go_at_call 75; refine TV.mono ?_; rintro e w5 ⟨rfl, d5⟩; have B5 := (d5.block _ (Array.getElem?_eq_some_iff.1 HD.out.2).1).trans HD.out.2; have q0 : w5.cell? ⟨w.heap.size, 0, none⟩ = some (.int .i64 (N : Int)) := cell_of B5 rfl; have q1 : w5.cell? ⟨w.heap.size, 1, none⟩ = some (.int .i64 mv) := cell_of B5 rfl; have q2 : w5.cell? ⟨w.heap.size, 2, none⟩ = some (.slice a1 n1 c1) := cell_of B5 rfl; have q3 : w5.cell? ⟨w.heap.size, 3, none⟩ = some (.slice a2 n2 c2) := cell_of B5 rfl; have q4 : w5.cell? ⟨w.heap.size, 4, none⟩ = some (.slice a3 n3 c3) := cell_of B5 rfl; have H5 := hide (HD.out.1.trans (d5.mono HD.out.1.size)); clear d5 B5)
  have TC := reached_any w5 N mv a1 a2 a3 c1 c2 c3 St Fi Ed (HQ.out.1.on H5.out)
  rw [HQ.out.2.1, HQ.out.2.2.1, HQ.out.2.2.2.1] at TC
  go_wp2_with (go_at_call 78; refine TC.mono ?_; rintro e w6 ⟨b, rfl, hR, d6⟩; have H6 := hide (And.intro hR (H5.out.trans (d6.mono H5.out.size))); clear hR d6)
  obtain ⟨len, ⟨g, cap, hs, q5, q6, q7⟩, hb⟩ := H6.out.1
  have TL := list_any b g cap N (metX len N) w6 hs (HQ.out.2.2.2.2.below H6.out.2 h0)
  have HB := hide hb
  clear hs hb TC TV q7
  go_wp2_with (go_at_call 77; refine TL.mono ?_; rintro e w7 ⟨gl, cl, rfl, hL, d7⟩; have H7 := hide (And.intro hL d7); clear hL d7)
  go_ret2
  exact ⟨_, rfl, ⟨len, gl, cl, rfl, own_lower H7.out.1 H6.out.2.size, HB.out⟩, H6.out.2.trans (H7.out.2.mono H6.out.2.size)⟩
set_option maxRecDepth 100000 in
set_option maxHeartbeats 1000000 in
theorem pcoreach_ok (w : World) (N : Nat) (mv : Int) (a1 a2 a3 : Option Addr) (c1 c2 c3 : Nat) (St Fi : List Int) (Ed : List EdT) (hA : ArgA w N mv a1 a2 a3 St Fi Ed) (hT : TabAt w) (h0 : 0 < w.heap.size) :
    Calls Tryz.prog 37 #[.agg #[.int .i64 (N : Int), .int .i64 mv, .slice a1 St.length c1, .slice a2 Fi.length c2, .slice a3 Ed.length c3]] w fun e w' => ∃ v, e = .returned (.tuple #[v, .int .i64 0]) ∧ AnsR w w' v N (fun q => (q : Int) ∈ Fi) (stepE true Ed) ∧ Below w.heap.size w w' := by
  obtain ⟨n1, e1⟩ : ∃ n, St.length = n := ⟨_, rfl⟩
  obtain ⟨n2, e2⟩ : ∃ n, Fi.length = n := ⟨_, rfl⟩
  obtain ⟨n3, e3⟩ : ∃ n, Ed.length = n := ⟨_, rfl⟩
  obtain ⟨W0, hW0⟩ : ∃ W0, w.alloc (.cells #[.int .i64 (N : Int), .int .i64 mv, .slice a1 n1 c1, .slice a2 n2 c2, .slice a3 n3 c3] 25) = W0 := ⟨_, rfl⟩
  have d0 : Below w.heap.size w W0 := by rw [← hW0]; exact (Below.refl _ _).alloc (Nat.le_refl _) _
  have B0 : W0.heap[w.heap.size]? = some (.cells #[.int .i64 (N : Int), .int .i64 mv, .slice a1 n1 c1, .slice a2 n2 c2, .slice a3 n3 c3] 25 (0, 0)) := by rw [← hW0]; exact World.alloc_heap_new _ _
  have k0 : W0.cell? ⟨w.heap.size, 0, none⟩ = some (.int .i64 (N : Int)) := cell_of B0 rfl
  have k1 : W0.cell? ⟨w.heap.size, 1, none⟩ = some (.int .i64 mv) := cell_of B0 rfl
  have k2 : W0.cell? ⟨w.heap.size, 2, none⟩ = some (.slice a1 n1 c1) := cell_of B0 rfl
  have k3 : W0.cell? ⟨w.heap.size, 3, none⟩ = some (.slice a2 n2 c2) := cell_of B0 rfl
  have k4 : W0.cell? ⟨w.heap.size, 4, none⟩ = some (.slice a3 n3 c3) := cell_of B0 rfl
  have TV := valid_any W0 (N : Int) mv a1 a2 a3 c1 c2 c3 St Fi Ed (hide (RdA.on (argA_rd hA) d0)) hA.ls hA.lf (Nat.le_trans hA.le (by decide))
  rw [hA.may, e1, e2, e3] at TV
  have HQ := hide (And.intro hA (And.intro e1 (And.intro e2 (And.intro e3 hT))))
  rw [e1, e2, e3]
  have HD := hide (And.intro d0 B0)
  clear d0 B0 e1 e2 e3 hA hT
  go_enter Tryz.func37, Tryz.ntmps37
  go_wp2_with (go_at_call 75; refine TV.mono ?_; rintro e w5 ⟨rfl, d5⟩; have B5 := (d5.block _ (Array.getElem?_eq_some_iff.1 HD.out.2).1).trans HD.out.2; have q0 : w5.cell? ⟨w.heap.size, 0, none⟩ = some (.int .i64 (N : Int)) := cell_of B5 rfl; have q1 : w5.cell? ⟨w.heap.size, 1, none⟩ = some (.int .i64 mv) := cell_of B5 rfl; have q2 : w5.cell? ⟨w.heap.size, 2, none⟩ = some (.slice a1 n1 c1) := cell_of B5 rfl; have q3 : w5.cell? ⟨w.heap.size, 3, none⟩ = some (.slice a2 n2 c2) := cell_of B5 rfl; have q4 : w5.cell? ⟨w.heap.size, 4, none⟩ = some (.slice a3 n3 c3) := cell_of B5 rfl; have H5 := hide (HD.out.1.trans (d5.mono HD.out.1.size)); clear d5 B5)
  have TC := coreached_any w5 N mv a1 a2 a3 c1 c2 c3 St Fi Ed (HQ.out.1.on H5.out)
  rw [HQ.out.2.1, HQ.out.2.2.1, HQ.out.2.2.2.1] at TC
  go_wp2_with (go_at_call 76; refine TC.mono ?_; rintro e w6 ⟨b, rfl, hR, d6⟩; have H6 := hide (And.intro hR (H5.out.trans (d6.mono H5.out.size))); clear hR d6)
  obtain ⟨len, ⟨g, cap, hs, q5, q6, q7⟩, hb⟩ := H6.out.1
  have TL := list_any b g cap N (metX len N) w6 hs (HQ.out.2.2.2.2.below H6.out.2 h0)
  have HB := hide hb
  clear hs hb TC TV q7
  go_wp2_with (go_at_call 77; refine TL.mono ?_; rintro e w7 ⟨gl, cl, rfl, hL, d7⟩; have H7 := hide (And.intro hL d7); clear hL d7)
  go_ret2
  exact ⟨_, rfl, ⟨len, gl, cl, rfl, own_lower H7.out.1 H6.out.2.size, HB.out⟩, H6.out.2.trans (H7.out.2.mono H6.out.2.size)⟩
end Go.Proofs.YtchoopnjckcohaaGreatDoor
namespace Go.Proofs.YtchoopnjckcohaaGreatDoor
open Go.RowKit Go.Maps
attribute [local go_sem] Oper.semAt_some

/-! ### The least length; states renumbered -/
/-- A list of its own. -/
def OwnL (B : Nat) (w : World) (v : Value) (L : List Int) : Prop := w.ownsRow B 3 1 v L.length (L.map (Value.int .i64))
theorem OwnL.below {B : Nat} {w w' : World} {v : Value} {L : List Int} (h : OwnL B w v L) (d : Below w.heap.size w w') : OwnL B w' v L := row_only h (Only.ofBelow (R := fun _ => False) d) (fun _ _ => id)
end Go.Proofs.YtchoopnjckcohaaGreatDoor
namespace Go.Proofs.YtchoopnjckcohaaGreatDoor
open Go.RowKit Go.Maps
attribute [local go_sem] Oper.semAt_some

/-! ### The document's masks -/
theorem info4 : (Tryz.prog.info? 4).map (fun i => (i.zero, i.size, i.bytes)) = some (some (.bool false), 1, 1) := by kernel_rfl
/-- A mask of N truths in new memory. -/
def MaskG (B : Nat) (w : World) (g N : Nat) (M : Nat → Bool) : Prop := B ≤ g ∧ Mrw w g 4 N (fun q => .bool (M q)) N
theorem MaskG.below {B : Nat} {w w' : World} {g N : Nat} {M : Nat → Bool} (h : MaskG B w g N M) (d : Below w.heap.size w w') : MaskG B w' g N M := ⟨h.1, h.2.below d h.2.lt⟩
theorem mask_made {B : Nat} {w1 : World} {g N : Nat} (h : w1.ownsRow B 4 1 (.slice (some ⟨g, 0, none⟩) N N) N (madeCells #[.bool false] N).toList) : MaskG B w1 g N (fun _ => false) := by
  rw [toList_madeCells_one] at h
  rcases h.2 with ⟨hv, _⟩ | ⟨g', cap', cur, hv, hb, hg, h1, h2, h3, h4⟩
  · cases hv
  · cases hv
    refine ⟨hb, cur, hg, by omega, fun j hj => ?_⟩
    rw [List.take_of_length_le (by simp; omega)] at h4
    have : cur.toList[j]? = some (.bool false) := by rw [h4]; simp [hj]
    simpa using this
theorem MaskG.set {B : Nat} {w : World} {g N : Nat} {M : Nat → Bool} (h : MaskG B w g N M) (p : Nat) : MaskG B (w.setCell ⟨g, p, none⟩ (.bool true)) g N (fun q => decide (q = p) || M q) := by
  refine ⟨h.1, (h.2.upd p _).congr fun c _ => ?_⟩
  by_cases e : c = p
  · simp [e]
  · simp [e]
theorem MaskG.congr {B : Nat} {w : World} {g N : Nat} {M M' : Nat → Bool} (h : MaskG B w g N M) (e : ∀ q, q < N → M q = M' q) : MaskG B w g N M' := ⟨h.1, h.2.congr fun c hc => by rw [e c hc]⟩
def maskL (N : Nat) (M : Nat → Bool) : List Int := natL ((List.range N).filter M)
theorem maskL_len (N : Nat) (M : Nat → Bool) : (maskL N M).length ≤ N := by
  unfold maskL
  rw [natL_len]
  exact Nat.le_trans (List.length_filter_le _ _) (by rw [List.length_range]; exact Nat.le_refl _)
end Go.Proofs.YtchoopnjckcohaaGreatDoor
namespace Go.Proofs.YtchoopnjckcohaaGreatDoor
open Go.RowKit Go.Maps
attribute [local go_sem] Oper.semAt_some

/-! ### One step back; all that can be come to -/
end Go.Proofs.YtchoopnjckcohaaGreatDoor
namespace Go.Proofs.YtchoopnjckcohaaGreatDoor
open Go.RowKit Go.Maps
attribute [local go_sem] Oper.semAt_some

/-! ### All that can be come to, as the document says it -/
end Go.Proofs.YtchoopnjckcohaaGreatDoor
namespace Go.Proofs.YtchoopnjckcohaaGreatDoor
open Go.RowKit Go.Maps
attribute [local go_sem] Oper.semAt_some

/-! ### Which automata may be, as the document says it -/
end Go.Proofs.YtchoopnjckcohaaGreatDoor
namespace Go.Proofs.YtchoopnjckcohaaGreatDoor
open Go.RowKit Go.Maps
attribute [local go_sem] Oper.semAt_some

/-! ### The document's Reach and Coreach -/
/-- The program's answer is the document's. -/
theorem ansR_is {w w' : World} {v : Value} {N : Nat} {S : Nat → Prop} {E : Nat → Nat → Prop} {M : Nat → Bool} (h : AnsR w w' v N S E) (hS : ∀ q, S q → q < N) (hE : ∀ p q, E p q → q < N) (hM : ∀ q, q < N → (M q = true ↔ ∃ k, Wlk S E k q)) : OwnL w.heap.size w' v (maskL N M) := by
  obtain ⟨len, gl, cl, rfl, ho, hb⟩ := h
  have e : elems N (metX len N) = (List.range N).filter M := by
    unfold elems
    apply List.filter_congr
    intro q hq
    have hq : q < N := by simpa using hq
    rw [metX_test, Bool.eq_iff_iff, decide_eq_true_eq, hM q hq]
    constructor
    · rintro ⟨_, h⟩
      exact ⟨_, hb.sound q hq (by have := hb.ge q; omega)⟩
    · rintro ⟨k, h⟩
      have := hb.done hS hE k q h
      exact ⟨hq, by omega⟩
  unfold OwnL maskL natL
  rw [← e, List.length_map, List.map_map]
  exact ho
end Go.Proofs.YtchoopnjckcohaaGreatDoor
namespace Go.Proofs.YtchoopnjckcohaaGreatDoor
open Go.RowKit Go.Maps
attribute [local go_sem] Oper.semAt_some

/-! ### The document's Dist -/
/-- What is known of the shortest ways when all shorter than n were looked at. -/
def DstQ (W : Nat → Nat → Prop) (n q : Nat) (x : Int) : Prop := (x = -1 ∧ ∀ k, k < n → ¬ W k q) ∨ ∃ k : Nat, k < n ∧ x = (k : Int) ∧ W k q ∧ ∀ j, j < k → ¬ W j q
theorem DstQ.next {W : Nat → Nat → Prop} {n q : Nat} {x : Int} (h : DstQ W n q x) (hw : W n q → 0 ≤ x) : DstQ W (n + 1) q x := by
  rcases h with ⟨h1, h2⟩ | ⟨k, h1, h2, h3, h4⟩
  · refine .inl ⟨h1, fun k hk hW => ?_⟩
    by_cases e : k = n
    · subst e; have := hw hW; omega
    · exact h2 k (by omega) hW
  · exact .inr ⟨k, by omega, h2, h3, h4⟩
theorem DstQ.put {W : Nat → Nat → Prop} {n q : Nat} {x : Int} (h : DstQ W n q x) (hx : x < 0) (hw : W n q) : DstQ W (n + 1) q (n : Int) := by
  rcases h with ⟨h1, h2⟩ | ⟨k, h1, h2, h3, h4⟩
  · exact .inr ⟨n, by omega, rfl, hw, h2⟩
  · omega
end Go.Proofs.YtchoopnjckcohaaGreatDoor
namespace Go.Proofs.YtchoopnjckcohaaGreatDoor
open Go.RowKit Go.Maps
attribute [local go_sem] Oper.semAt_some

/-! ### Lists that are the same -/
end Go.Proofs.YtchoopnjckcohaaGreatDoor
namespace Go.Proofs.YtchoopnjckcohaaGreatDoor
open Go.RowKit Go.Maps
attribute [local go_sem] Oper.semAt_some

/-! ### What both seats name alike -/
/-! ### Numbers, laid anew -/
def padN (l : List Int) (j : Nat) : Value := if h : j < l.length then .int .i64 l[j] else .int .i64 (-77)
/-! ### An automaton, laid anew -/
def edPad (E : List EdT) (j : Nat) : Value := if h : j / 3 < E.length then (if j % 3 = 0 then .int .i64 E[j / 3].1 else if j % 3 = 1 then .int .i64 E[j / 3].2.1 else .int .i64 E[j / 3].2.2) else (if j % 3 = 0 then .int .i64 (-77) else .int .i64 0)
/-- A twin of an automaton. -/
structure TwA (W : World) (b1 b2 b3 : Nat) (St Fi : List Int) (Ed : List EdT) : Prop where
  s : Mrw W b1 3 (St.length + 64) (padN St) (St.length + 64)
  f : Mrw W b2 3 (Fi.length + 64) (padN Fi) (Fi.length + 64)
  e : Mrw W b3 61 ((Ed.length + 64) * 3) (edPad Ed) ((Ed.length + 64) * 3)
  ne : b1 ≠ b2
theorem TwA.on {W W' : World} {b1 b2 b3 : Nat} {St Fi : List Int} {Ed : List EdT} (h : TwA W b1 b2 b3 St Fi Ed) (d : Below W.heap.size W W') : TwA W' b1 b2 b3 St Fi Ed := ⟨h.s.below d h.s.lt, h.f.below d h.f.lt, h.e.below d h.e.lt, h.ne⟩
/-! ### An automaton that is written over -/
end Go.Proofs.YtchoopnjckcohaaGreatDoor
namespace Go.Proofs.YtchoopnjckcohaaGreatDoor
open Go.RowKit Go.Maps
attribute [local go_sem] Oper.semAt_some

/-! ### Reach, Coreach and Dist: what both answer -/
/-- A list that is read. -/
def LA (w : World) (v : Value) (L : List Int) : Prop := ∃ a cap, v = .slice a L.length cap ∧ RdN w a L
theorem LA.on {w w' : World} {v : Value} {L : List Int} (h : LA w v L) (d : Below w.heap.size w w') : LA w' v L := by
  obtain ⟨a, cap, e, hr⟩ := h
  exact ⟨a, cap, e, hr.on d⟩
theorem la_own {B : Nat} {w : World} {v : Value} {L : List Int} (h : OwnL B w v L) : LA w v L := by
  rcases h.2 with ⟨rfl, h0⟩ | ⟨g, cap, cur, rfl, hB, hb, hn, hcap, hsz, hxs⟩
  · have e : L = [] := List.eq_nil_of_length_eq_zero (by simpa using h0)
    subst e
    exact ⟨none, 0, rfl, fun j hj => by simp at hj⟩
  · refine ⟨some ⟨g, 0, none⟩, cap, rfl, fun j hj => ⟨g, 0, rfl, ?_⟩⟩
    rw [Nat.zero_add]
    refine cell_of hb ?_
    have h1 : (cur.toList.take (L.length * 1))[j]? = some (.int .i64 L[j]) := by rw [hxs]; simp [hj]
    rw [List.getElem?_take_of_lt (by omega)] at h1
    simpa using h1
theorem cdec (p : Prop) : @decide p (Classical.propDecidable p) = true ↔ p := iff_of_eq (@decide_eq_true_eq p (Classical.propDecidable p))
/-- The states that a way leads to. -/
noncomputable def rchL (bk : Bool) (n mv : Int) (St Fi : List Int) (Ed : List EdT) : List Int := if mayA n mv St Fi Ed = true then maskL n.toNat (fun q => @decide (∃ k, Wlk (fun q => (q : Int) ∈ if bk then Fi else St) (stepE bk Ed) k q) (Classical.propDecidable _)) else []
def errN (n mv : Int) (St Fi : List Int) (Ed : List EdT) : Int := if mayA n mv St Fi Ed = true then 0 else 2
theorem errN_ok {n mv : Int} {St Fi : List Int} {Ed : List EdT} (h : mayA n mv St Fi Ed = true) : errN n mv St Fi Ed = 0 := if_pos h
theorem errN_bad {n mv : Int} {St Fi : List Int} {Ed : List EdT} (h : mayA n mv St Fi Ed = false) : errN n mv St Fi Ed = 2 := if_neg (by rw [h]; decide)
theorem rchL_len (bk : Bool) (n mv : Int) (St Fi : List Int) (Ed : List EdT) : (rchL bk n mv St Fi Ed).length ≤ 4194304 := by
  unfold rchL
  split
  · rename_i h
    have := (may_parts h).1
    exact Nat.le_trans (maskL_len _ _) (by omega)
  · simp
theorem la_nil (w : World) : LA w (.slice none 0 0) [] := ⟨none, 0, rfl, fun j hj => by simp at hj⟩
theorem ArgA.hS {w : World} {N : Nat} {mv : Int} {a1 a2 a3 : Option Addr} {St Fi : List Int} {Ed : List EdT} (h : ArgA w N mv a1 a2 a3 St Fi Ed) (bk : Bool) : ∀ q : Nat, ((q : Int) ∈ if bk then Fi else St) → q < N := fun q hq => by
  cases bk
  · obtain ⟨p, hp, e⟩ := h.ins _ hq
    omega
  · obtain ⟨p, hp, e⟩ := h.inf _ hq
    omega
theorem ArgA.hE {w : World} {N : Nat} {mv : Int} {a1 a2 a3 : Option Addr} {St Fi : List Int} {Ed : List EdT} (h : ArgA w N mv a1 a2 a3 St Fi Ed) (bk : Bool) : ∀ p q, stepE bk Ed p q → q < N := fun p q hq => by
  obtain ⟨e, he, e1⟩ := hq
  obtain ⟨p', r', _, hr, e2⟩ := h.ends bk e he
  rw [e2] at e1
  have := congrArg Prod.snd e1
  simp only at this
  omega
theorem arg_of {w : World} {n mv : Int} {a1 a2 a3 : Option Addr} {St Fi : List Int} {Ed : List EdT} (hA : RdA w a1 a2 a3 St Fi Ed) (h1 : St.length ≤ 4194304) (h2 : Fi.length ≤ 4194304) (hm : mayA n mv St Fi Ed = true) : ∃ N : Nat, n = (N : Int) ∧ ArgA w N mv a1 a2 a3 St Fi Ed := by
  obtain ⟨N, rfl⟩ := Int.eq_ofNat_of_zero_le (may_parts hm).1.1
  exact ⟨N, rfl, hm, hA.s, hA.f, hA.e, h1, h2⟩
theorem preach_u (w : World) (n mv : Int) (a1 a2 a3 : Option Addr) (c1 c2 c3 : Nat) (St Fi : List Int) (Ed : List EdT) (hA : RdA w a1 a2 a3 St Fi Ed) (h1 : St.length ≤ 4194304) (h2 : Fi.length ≤ 4194304) (h3 : Ed.length ≤ 4194304) (hT : TabAt w) (h0 : 0 < w.heap.size) :
    Calls Tryz.prog 39 #[.agg #[.int .i64 n, .int .i64 mv, .slice a1 St.length c1, .slice a2 Fi.length c2, .slice a3 Ed.length c3]] w fun e w' => ∃ v, e = .returned (.tuple #[v, .int .i64 (errN n mv St Fi Ed)]) ∧ LA w' v (rchL false n mv St Fi Ed) ∧ Below w.heap.size w w' := by
  by_cases hm : mayA n mv St Fi Ed = true
  · obtain ⟨N, rfl, hG⟩ := arg_of hA h1 h2 hm
    rw [errN_ok hm]
    refine (preach_ok w N mv a1 a2 a3 c1 c2 c3 St Fi Ed hG hT h0).mono ?_
    rintro e w' ⟨v, rfl, hv, d⟩
    refine ⟨v, rfl, ?_, d⟩
    have hl : rchL false (N : Int) mv St Fi Ed = maskL N (fun q => @decide (∃ k, Wlk (fun q => (q : Int) ∈ if false then Fi else St) (stepE false Ed) k q) (Classical.propDecidable _)) := by
      unfold rchL
      rw [if_pos hm, Int.toNat_natCast]
    rw [hl]
    exact la_own (ansR_is hv (hG.hS false) (hG.hE false) (fun q _ => cdec _))
  · have hm' : mayA n mv St Fi Ed = false := by simpa using hm
    have hl : rchL false n mv St Fi Ed = [] := by
      unfold rchL
      rw [if_neg hm]
    rw [errN_bad hm', hl]
    refine (preach_bad w n mv a1 a2 a3 c1 c2 c3 St Fi Ed hA h1 h2 h3 hm').mono ?_
    rintro e w' ⟨rfl, d⟩
    exact ⟨_, rfl, la_nil _, d⟩
theorem pcoreach_u (w : World) (n mv : Int) (a1 a2 a3 : Option Addr) (c1 c2 c3 : Nat) (St Fi : List Int) (Ed : List EdT) (hA : RdA w a1 a2 a3 St Fi Ed) (h1 : St.length ≤ 4194304) (h2 : Fi.length ≤ 4194304) (h3 : Ed.length ≤ 4194304) (hT : TabAt w) (h0 : 0 < w.heap.size) :
    Calls Tryz.prog 37 #[.agg #[.int .i64 n, .int .i64 mv, .slice a1 St.length c1, .slice a2 Fi.length c2, .slice a3 Ed.length c3]] w fun e w' => ∃ v, e = .returned (.tuple #[v, .int .i64 (errN n mv St Fi Ed)]) ∧ LA w' v (rchL true n mv St Fi Ed) ∧ Below w.heap.size w w' := by
  by_cases hm : mayA n mv St Fi Ed = true
  · obtain ⟨N, rfl, hG⟩ := arg_of hA h1 h2 hm
    rw [errN_ok hm]
    refine (pcoreach_ok w N mv a1 a2 a3 c1 c2 c3 St Fi Ed hG hT h0).mono ?_
    rintro e w' ⟨v, rfl, hv, d⟩
    refine ⟨v, rfl, ?_, d⟩
    have hl : rchL true (N : Int) mv St Fi Ed = maskL N (fun q => @decide (∃ k, Wlk (fun q => (q : Int) ∈ if true then Fi else St) (stepE true Ed) k q) (Classical.propDecidable _)) := by
      unfold rchL
      rw [if_pos hm, Int.toNat_natCast]
    rw [hl]
    exact la_own (ansR_is hv (hG.hS true) (hG.hE true) (fun q _ => cdec _))
  · have hm' : mayA n mv St Fi Ed = false := by simpa using hm
    have hl : rchL true n mv St Fi Ed = [] := by
      unfold rchL
      rw [if_neg hm]
    rw [errN_bad hm', hl]
    refine (pcoreach_bad w n mv a1 a2 a3 c1 c2 c3 St Fi Ed hA h1 h2 h3 hm').mono ?_
    rintro e w' ⟨rfl, d⟩
    exact ⟨_, rfl, la_nil _, d⟩
end Go.Proofs.YtchoopnjckcohaaGreatDoor
