import Derived.Test.YtojnlpicgemlaabGreatDoorRT
import Derived.Test.YtojnlpicgemlaabGreatDoorIN
import Derived.Test.YtojnlpicgemlaabGreatDoorFI
namespace Go.Proofs.YtojnlpicgemlaabGreatDoor
open Go.RowKit Go.Maps
attribute [local go_sem] Oper.semAt_some

/-! ### The states that are met -/
def metX (len : Nat → Int) (i : Nat) : Nat := (List.range i).foldl (fun X p => if len p = -1 then X else X ||| 2 ^ p) 0
theorem metX_succ (len : Nat → Int) (i : Nat) : metX len (i + 1) = if len i = -1 then metX len i else metX len i ||| 2 ^ i := by
  simp [metX, List.range_succ]
theorem metX_test (len : Nat → Int) (q : Nat) : ∀ i, (metX len i).testBit q = decide (q < i ∧ len q ≠ -1)
  | 0 => by simp [metX]
  | i + 1 => by
    rw [metX_succ]
    by_cases h : len i = -1
    · rw [if_pos h, metX_test len q i]
      apply decide_eq_decide.2
      constructor
      · rintro ⟨h1, h2⟩; exact ⟨by omega, h2⟩
      · rintro ⟨h1, h2⟩
        have : q ≠ i := fun e => h2 (by rw [e]; exact h)
        exact ⟨by omega, h2⟩
    · rw [if_neg h, Nat.testBit_or, metX_test len q i, Nat.testBit_two_pow]
      by_cases e : i = q
      · subst e; simp [h]
      · rw [decide_eq_false e, Bool.or_false]
        apply decide_eq_decide.2
        constructor
        · rintro ⟨h1, h2⟩; exact ⟨by omega, h2⟩
        · rintro ⟨h1, h2⟩; exact ⟨by omega, h2⟩
def NewSet (w w' : World) (b N X : Nat) : Prop := ∃ g cap, IsSet w' b g cap N X ∧ w.heap.size ≤ b ∧ w.heap.size ≤ g ∧ b ≠ g
def RchS (w w' : World) (b N : Nat) (S : Nat → Prop) (E : Nat → Nat → Prop) : Prop := ∃ len, NewSet w w' b N (metX len N) ∧ Bfs N S E [] len
set_option maxRecDepth 100000 in
set_option maxHeartbeats 1000000 in
theorem met_any (w : World) (gl N : Nat) (len : Nat → Int) (hM : Mrw w gl 3 N (fun c => .int .i64 (len c)) N) (hN : N ≤ 8192) :
    Calls Tryz.prog 29 #[.slice (some ⟨gl, 0, none⟩) N N] w fun e w' => ∃ b, e = .returned (.pointer (some ⟨b, 0, none⟩)) ∧ NewSet w w' b N (metX len N) ∧ Below w.heap.size w w' := by
  have HM := hide hM
  have hgl := hM.lt
  clear hM
  go_enter Tryz.func29, Tryz.ntmps29
  go_wp2_with (go_at_call 51; refine (new_ok N w hN).mono ?_; rintro e w1 ⟨b, g, cap, rfl, hs, hb, hg, hbg, hd⟩; have H1 := hide (And.intro hs (And.intro hb (And.intro hg (And.intro hbg hd)))); clear hs hb hg hbg hd)
  go_loopw [15] (fun iv wr => ∃ i : Nat, i ≤ N ∧ iv = .int .i64 (i : Int) ∧ Hid (IsSet wr b g cap N (metX len i) ∧ Below w.heap.size w wr)) (fun iv _ => N - (intOf iv).toNat)
  case atStart => exact ⟨0, Nat.zero_le _, rfl, hide ⟨H1.out.1, H1.out.2.2.2.2⟩⟩
  case round =>
    obtain ⟨i, hi, rfl, HY⟩ := hrel
    by_cases hlt : i < N
    · have l0 : (i : Int) < (N : Int) := by omega
      have i0 : (0 : Int) ≤ (i : Int) := by omega
      have ci : wr.cell? ⟨gl, i, none⟩ = some (.int .i64 (len i)) := (HM.out.below HY.out.2 hgl).at i hlt
      by_cases hn : len i = -1
      · have J : Hid (IsSet wr b g cap N (metX len (i + 1)) ∧ Below w.heap.size w wr) := hide (by rw [metX_succ, if_pos hn]; exact HY.out)
        rw [hn] at ci
        go_wp2_with fail
        go_roundw
        case rel => exact ⟨i + 1, by omega, by go_num, J⟩
        case measure => simp [intOf]; omega
      · have hn' : ¬ (len i = (-1 : Int)) := hn
        have TA := add_in b g cap N (metX len i) i w.heap.size wr HY.out.1 H1.out.2.2.2.1 hlt H1.out.2.2.1
        go_wp2_with (go_at_call 52; refine TA.mono ?_; rintro e w3 ⟨rfl, hs3, hd3⟩)
        have J : Hid (IsSet w3 b g cap N (metX len (i + 1)) ∧ Below w.heap.size w w3) := hide (by rw [metX_succ, if_neg hn]; exact ⟨hs3, HY.out.2.trans hd3⟩)
        clear hs3 hd3
        go_roundw
        case rel => exact ⟨i + 1, by omega, by go_num, J⟩
        case measure => simp [intOf]; omega
    · have l0 : ¬ (i : Int) < (N : Int) := by omega
      have hiN : i = N := by omega
      rw [hiN] at HY
      go_wp2_with fail
      go_ret
      exact ⟨b, rfl, ⟨g, cap, HY.out.1, H1.out.2.1, H1.out.2.2.1, H1.out.2.2.2.1⟩, HY.out.2⟩
/-- An automaton that may be, and that can be read. -/
structure ArgA (w : World) (N : Nat) (mv : Int) (a1 a2 a3 : Option Addr) (St Fi : List Int) (Ed : List EdT) : Prop where
  may : mayA (N : Int) mv St Fi Ed = true
  rs : RdN w a1 St
  rf : RdN w a2 Fi
  re : RdE w a3 Ed
  ls : St.length ≤ 4194304
  lf : Fi.length ≤ 4194304
theorem ArgA.hN {w : World} {N : Nat} {mv : Int} {a1 a2 a3 : Option Addr} {St Fi : List Int} {Ed : List EdT} (h : ArgA w N mv a1 a2 a3 St Fi Ed) : N ≤ 4096 := by have := (may_parts h.may).1; omega
theorem ArgA.le {w : World} {N : Nat} {mv : Int} {a1 a2 a3 : Option Addr} {St Fi : List Int} {Ed : List EdT} (h : ArgA w N mv a1 a2 a3 St Fi Ed) : Ed.length ≤ 65536 := (may_parts h.may).2.2.1
theorem ArgA.ends {w : World} {N : Nat} {mv : Int} {a1 a2 a3 : Option Addr} {St Fi : List Int} {Ed : List EdT} (h : ArgA w N mv a1 a2 a3 St Fi Ed) (bk : Bool) : ∀ e ∈ Ed, ∃ p r : Nat, p < N ∧ r < N ∧ YtojnlpicgemlaabGreatDoor.ends bk e = ((p : Int), (r : Int)) := fun e he => by
  obtain ⟨h1, _, h2⟩ := (may_parts h.may).2.2.2.2.2 e he
  cases bk
  · exact ⟨e.1.toNat, e.2.2.toNat, by omega, by omega, Prod.ext (show e.1 = _ by omega) (show e.2.2 = _ by omega)⟩
  · exact ⟨e.2.2.toNat, e.1.toNat, by omega, by omega, Prod.ext (show e.2.2 = _ by omega) (show e.1 = _ by omega)⟩
theorem all_in {N : Nat} {L : List Int} (h : L.all (inB (N : Int)) = true) : ∀ x ∈ L, ∃ q : Nat, q < N ∧ x = (q : Int) := fun x hx => by
  have := List.all_eq_true.1 h x hx
  unfold inB at this
  simp at this
  exact ⟨x.toNat, by omega, by omega⟩
theorem ArgA.ins {w : World} {N : Nat} {mv : Int} {a1 a2 a3 : Option Addr} {St Fi : List Int} {Ed : List EdT} (h : ArgA w N mv a1 a2 a3 St Fi Ed) : ∀ x ∈ St, ∃ q : Nat, q < N ∧ x = (q : Int) := all_in (may_parts h.may).2.2.2.1
theorem ArgA.inf {w : World} {N : Nat} {mv : Int} {a1 a2 a3 : Option Addr} {St Fi : List Int} {Ed : List EdT} (h : ArgA w N mv a1 a2 a3 St Fi Ed) : ∀ x ∈ Fi, ∃ q : Nat, q < N ∧ x = (q : Int) := all_in (may_parts h.may).2.2.2.2.1
set_option maxRecDepth 100000 in
set_option maxHeartbeats 4000000 in
theorem reached_any (w : World) (N : Nat) (mv : Int) (a1 a2 a3 : Option Addr) (c1 c2 c3 : Nat) (St Fi : List Int) (Ed : List EdT) (hA : ArgA w N mv a1 a2 a3 St Fi Ed) :
    Calls Tryz.prog 13 #[.agg #[.int .i64 (N : Int), .int .i64 mv, .slice a1 St.length c1, .slice a2 Fi.length c2, .slice a3 Ed.length c3]] w fun e w' => ∃ b, e = .returned (.pointer (some ⟨b, 0, none⟩)) ∧ RchS w w' b N (fun q => (q : Int) ∈ St) (stepE false Ed) ∧ Below w.heap.size w w' := by
  obtain ⟨n1, e1⟩ : ∃ n, St.length = n := ⟨_, rfl⟩
  obtain ⟨n2, e2⟩ : ∃ n, Fi.length = n := ⟨_, rfl⟩
  obtain ⟨n3, e3⟩ : ∃ n, Ed.length = n := ⟨_, rfl⟩
  have HQ := hide (And.intro hA (And.intro e1 (And.intro e2 e3)))
  rw [e1, e2, e3]
  clear hA e1 e2 e3
  obtain ⟨W0, hW0⟩ : ∃ W0, w.alloc (.cells #[.int .i64 (N : Int), .int .i64 mv, .slice a1 n1 c1, .slice a2 n2 c2, .slice a3 n3 c3] 25) = W0 := ⟨_, rfl⟩
  have d0 : Below w.heap.size w W0 := by rw [← hW0]; exact (Below.refl _ _).alloc (Nat.le_refl _) _
  have B0 : W0.heap[w.heap.size]? = some (.cells #[.int .i64 (N : Int), .int .i64 mv, .slice a1 n1 c1, .slice a2 n2 c2, .slice a3 n3 c3] 25 (0, 0)) := by rw [← hW0]; exact World.alloc_heap_new _ _
  have k0 : W0.cell? ⟨w.heap.size, 0, none⟩ = some (.int .i64 (N : Int)) := cell_of B0 rfl
  have k1 : W0.cell? ⟨w.heap.size, 1, none⟩ = some (.int .i64 mv) := cell_of B0 rfl
  have k2 : W0.cell? ⟨w.heap.size, 2, none⟩ = some (.slice a1 n1 c1) := cell_of B0 rfl
  have k3 : W0.cell? ⟨w.heap.size, 3, none⟩ = some (.slice a2 n2 c2) := cell_of B0 rfl
  have k4 : W0.cell? ⟨w.heap.size, 4, none⟩ = some (.slice a3 n3 c3) := cell_of B0 rfl
  have TL := lengths_fwd W0 N mv a1 a2 a3 a1 n1 n2 c1 c2 c3 c1 Ed St (Nat.le_trans HQ.out.1.hN (by decide)) (HQ.out.1.re.on d0) ((HQ.out.1.rs).on d0) (Nat.le_trans HQ.out.1.le (by decide)) HQ.out.1.ls (HQ.out.1.ends false) HQ.out.1.ins
  rw [HQ.out.2.1, HQ.out.2.2.2] at TL
  have HD := hide d0
  clear d0 B0
  go_enter Tryz.func13, Tryz.ntmps13
  go_wp2_with (go_at_call 30; refine TL.mono ?_; rintro e w5 ⟨gl, rfl, _, ⟨len, hM, hb, _⟩, d5⟩; have HM := hide (And.intro hM (And.intro hb d5)); clear hM hb d5)
  go_wp2_with (go_at_call 29; refine (met_any w5 gl N len HM.out.1 (Nat.le_trans HQ.out.1.hN (by decide))).mono ?_; rintro e w6 ⟨b, rfl, h6', d6⟩; obtain ⟨g, cap, h6, q1, q2, q3⟩ := h6'; have H6 := hide (And.intro h6 (And.intro q1 (And.intro q2 (And.intro q3 d6)))); clear h6 q1 q2 q3 d6)
  go_ret
  have D5 : Below w.heap.size w w5 := HD.out.trans (HM.out.2.2.mono HD.out.size)
  exact ⟨b, rfl, ⟨len, ⟨g, cap, H6.out.1, Nat.le_trans D5.size H6.out.2.1, Nat.le_trans D5.size H6.out.2.2.1, H6.out.2.2.2.1⟩, HM.out.2.1⟩, D5.trans (H6.out.2.2.2.2.mono D5.size)⟩
set_option maxRecDepth 100000 in
set_option maxHeartbeats 4000000 in
theorem coreached_any (w : World) (N : Nat) (mv : Int) (a1 a2 a3 : Option Addr) (c1 c2 c3 : Nat) (St Fi : List Int) (Ed : List EdT) (hA : ArgA w N mv a1 a2 a3 St Fi Ed) :
    Calls Tryz.prog 15 #[.agg #[.int .i64 (N : Int), .int .i64 mv, .slice a1 St.length c1, .slice a2 Fi.length c2, .slice a3 Ed.length c3]] w fun e w' => ∃ b, e = .returned (.pointer (some ⟨b, 0, none⟩)) ∧ RchS w w' b N (fun q => (q : Int) ∈ Fi) (stepE true Ed) ∧ Below w.heap.size w w' := by
  obtain ⟨n1, e1⟩ : ∃ n, St.length = n := ⟨_, rfl⟩
  obtain ⟨n2, e2⟩ : ∃ n, Fi.length = n := ⟨_, rfl⟩
  obtain ⟨n3, e3⟩ : ∃ n, Ed.length = n := ⟨_, rfl⟩
  have HQ := hide (And.intro hA (And.intro e1 (And.intro e2 e3)))
  rw [e1, e2, e3]
  clear hA e1 e2 e3
  obtain ⟨W0, hW0⟩ : ∃ W0, w.alloc (.cells #[.int .i64 (N : Int), .int .i64 mv, .slice a1 n1 c1, .slice a2 n2 c2, .slice a3 n3 c3] 25) = W0 := ⟨_, rfl⟩
  have d0 : Below w.heap.size w W0 := by rw [← hW0]; exact (Below.refl _ _).alloc (Nat.le_refl _) _
  have B0 : W0.heap[w.heap.size]? = some (.cells #[.int .i64 (N : Int), .int .i64 mv, .slice a1 n1 c1, .slice a2 n2 c2, .slice a3 n3 c3] 25 (0, 0)) := by rw [← hW0]; exact World.alloc_heap_new _ _
  have k0 : W0.cell? ⟨w.heap.size, 0, none⟩ = some (.int .i64 (N : Int)) := cell_of B0 rfl
  have k1 : W0.cell? ⟨w.heap.size, 1, none⟩ = some (.int .i64 mv) := cell_of B0 rfl
  have k2 : W0.cell? ⟨w.heap.size, 2, none⟩ = some (.slice a1 n1 c1) := cell_of B0 rfl
  have k3 : W0.cell? ⟨w.heap.size, 3, none⟩ = some (.slice a2 n2 c2) := cell_of B0 rfl
  have k4 : W0.cell? ⟨w.heap.size, 4, none⟩ = some (.slice a3 n3 c3) := cell_of B0 rfl
  have TL := lengths_bwd W0 N mv a1 a2 a3 a2 n1 n2 c1 c2 c3 c2 Ed Fi (Nat.le_trans HQ.out.1.hN (by decide)) (HQ.out.1.re.on d0) ((HQ.out.1.rf).on d0) (Nat.le_trans HQ.out.1.le (by decide)) HQ.out.1.lf (HQ.out.1.ends true) HQ.out.1.inf
  rw [HQ.out.2.2.1, HQ.out.2.2.2] at TL
  have HD := hide d0
  clear d0 B0
  go_enter Tryz.func15, Tryz.ntmps15
  go_wp2_with (go_at_call 30; refine TL.mono ?_; rintro e w5 ⟨gl, rfl, _, ⟨len, hM, hb, _⟩, d5⟩; have HM := hide (And.intro hM (And.intro hb d5)); clear hM hb d5)
  go_wp2_with (go_at_call 29; refine (met_any w5 gl N len HM.out.1 (Nat.le_trans HQ.out.1.hN (by decide))).mono ?_; rintro e w6 ⟨b, rfl, h6', d6⟩; obtain ⟨g, cap, h6, q1, q2, q3⟩ := h6'; have H6 := hide (And.intro h6 (And.intro q1 (And.intro q2 (And.intro q3 d6)))); clear h6 q1 q2 q3 d6)
  go_ret
  have D5 : Below w.heap.size w w5 := HD.out.trans (HM.out.2.2.mono HD.out.size)
  exact ⟨b, rfl, ⟨len, ⟨g, cap, H6.out.1, Nat.le_trans D5.size H6.out.2.1, Nat.le_trans D5.size H6.out.2.2.1, H6.out.2.2.2.1⟩, HM.out.2.1⟩, D5.trans (H6.out.2.2.2.2.mono D5.size)⟩
end Go.Proofs.YtojnlpicgemlaabGreatDoor
namespace Go.Proofs.YtojnlpicgemlaabGreatDoor
open Go.RowKit Go.Maps
attribute [local go_sem] Oper.semAt_some

/-! ### Reach, Coreach, Dist -/
theorem argA_rd {w : World} {N : Nat} {mv : Int} {a1 a2 a3 : Option Addr} {St Fi : List Int} {Ed : List EdT} (h : ArgA w N mv a1 a2 a3 St Fi Ed) : RdA w a1 a2 a3 St Fi Ed := ⟨h.rs, h.rf, h.re⟩
theorem ArgA.on {w w' : World} {N : Nat} {mv : Int} {a1 a2 a3 : Option Addr} {St Fi : List Int} {Ed : List EdT} (h : ArgA w N mv a1 a2 a3 St Fi Ed) (d : Below w.heap.size w w') : ArgA w' N mv a1 a2 a3 St Fi Ed := ⟨h.may, h.rs.on d, h.rf.on d, h.re.on d, h.ls, h.lf⟩
theorem own_lower {W : World} {B B' n sz : Nat} {e : TypeId} {v : Value} {xs : List Value} (h : W.ownsRow B e sz v n xs) (hB : B' ≤ B) : W.ownsRow B' e sz v n xs := by
  refine ⟨h.1, ?_⟩
  rcases h.2 with h1 | ⟨g, cap, cur, hv, hb, rest⟩
  · exact .inl h1
  · exact .inr ⟨g, cap, cur, hv, Nat.le_trans hB hb, rest⟩
/-- The states that have a length, in a list of its own. -/
def AnsR (w w' : World) (v : Value) (N : Nat) (S : Nat → Prop) (E : Nat → Nat → Prop) : Prop :=
  ∃ len gl cl, v = .slice (some ⟨gl, 0, none⟩) (elems N (metX len N)).length cl ∧ w'.ownsRow w.heap.size 3 1 (.slice (some ⟨gl, 0, none⟩) (elems N (metX len N)).length cl) (elems N (metX len N)).length (intV (elems N (metX len N))) ∧ Bfs N S E [] len
/-- The lengths, in a list of its own. -/
def AnsD (w w' : World) (v : Value) (N : Nat) (S : Nat → Prop) (E : Nat → Nat → Prop) : Prop :=
  ∃ len gl, v = .slice (some ⟨gl, 0, none⟩) N N ∧ w.heap.size ≤ gl ∧ Mrw w' gl 3 N (fun c => .int .i64 (len c)) N ∧ Bfs N S E [] len ∧ ∀ q, q < N → len q < N
set_option maxRecDepth 100000 in
set_option maxHeartbeats 1000000 in
theorem preach_bad (w : World) (n : Int) (mv : Int) (a1 a2 a3 : Option Addr) (c1 c2 c3 : Nat) (St Fi : List Int) (Ed : List EdT) (hA : RdA w a1 a2 a3 St Fi Ed) (h1 : St.length ≤ 4194304) (h2 : Fi.length ≤ 4194304) (h3 : Ed.length ≤ 4194304) (hm : mayA n mv St Fi Ed = false) :
    Calls Tryz.prog 18 #[.agg #[.int .i64 n, .int .i64 mv, .slice a1 St.length c1, .slice a2 Fi.length c2, .slice a3 Ed.length c3]] w fun e w' => e = .returned (.tuple #[.slice none 0 0, .int .i64 2]) ∧ Below w.heap.size w w' := by
  obtain ⟨n1, e1⟩ : ∃ n, St.length = n := ⟨_, rfl⟩
  obtain ⟨n2, e2⟩ : ∃ n, Fi.length = n := ⟨_, rfl⟩
  obtain ⟨n3, e3⟩ : ∃ n, Ed.length = n := ⟨_, rfl⟩
  obtain ⟨W0, hW0⟩ : ∃ W0, w.alloc (.cells #[.int .i64 n, .int .i64 mv, .slice a1 n1 c1, .slice a2 n2 c2, .slice a3 n3 c3] 25) = W0 := ⟨_, rfl⟩
  have d0 : Below w.heap.size w W0 := by rw [← hW0]; exact (Below.refl _ _).alloc (Nat.le_refl _) _
  have B0 : W0.heap[w.heap.size]? = some (.cells #[.int .i64 n, .int .i64 mv, .slice a1 n1 c1, .slice a2 n2 c2, .slice a3 n3 c3] 25 (0, 0)) := by rw [← hW0]; exact World.alloc_heap_new _ _
  have k0 : W0.cell? ⟨w.heap.size, 0, none⟩ = some (.int .i64 n) := cell_of B0 rfl
  have k1 : W0.cell? ⟨w.heap.size, 1, none⟩ = some (.int .i64 mv) := cell_of B0 rfl
  have k2 : W0.cell? ⟨w.heap.size, 2, none⟩ = some (.slice a1 n1 c1) := cell_of B0 rfl
  have k3 : W0.cell? ⟨w.heap.size, 3, none⟩ = some (.slice a2 n2 c2) := cell_of B0 rfl
  have k4 : W0.cell? ⟨w.heap.size, 4, none⟩ = some (.slice a3 n3 c3) := cell_of B0 rfl
  have TV := valid_any W0 n mv a1 a2 a3 c1 c2 c3 St Fi Ed (hide (hA.on d0)) h1 h2 h3
  rw [hm, e1, e2, e3] at TV
  rw [e1, e2, e3]
  have HD := hide d0
  clear d0 B0 e1 e2 e3 hA h1 h2 h3 hm
  go_enter Tryz.func18, Tryz.ntmps18
  go_wp2_with (go_at_call 27; refine TV.mono ?_; rintro e w5 ⟨rfl, d5⟩)
  go_ret2
  exact ⟨rfl, HD.out.trans (d5.mono HD.out.size)⟩
set_option maxRecDepth 100000 in
set_option maxHeartbeats 1000000 in
theorem preach_ok (w : World) (N : Nat) (mv : Int) (a1 a2 a3 : Option Addr) (c1 c2 c3 : Nat) (St Fi : List Int) (Ed : List EdT) (hA : ArgA w N mv a1 a2 a3 St Fi Ed) (hT : TabAt w) (h0 : 0 < w.heap.size) :
    Calls Tryz.prog 18 #[.agg #[.int .i64 (N : Int), .int .i64 mv, .slice a1 St.length c1, .slice a2 Fi.length c2, .slice a3 Ed.length c3]] w fun e w' => ∃ v, e = .returned (.tuple #[v, .int .i64 0]) ∧ AnsR w w' v N (fun q => (q : Int) ∈ St) (stepE false Ed) ∧ Below w.heap.size w w' := by
  obtain ⟨n1, e1⟩ : ∃ n, St.length = n := ⟨_, rfl⟩
  obtain ⟨n2, e2⟩ : ∃ n, Fi.length = n := ⟨_, rfl⟩
  obtain ⟨n3, e3⟩ : ∃ n, Ed.length = n := ⟨_, rfl⟩
  obtain ⟨W0, hW0⟩ : ∃ W0, w.alloc (.cells #[.int .i64 (N : Int), .int .i64 mv, .slice a1 n1 c1, .slice a2 n2 c2, .slice a3 n3 c3] 25) = W0 := ⟨_, rfl⟩
  have d0 : Below w.heap.size w W0 := by rw [← hW0]; exact (Below.refl _ _).alloc (Nat.le_refl _) _
  have B0 : W0.heap[w.heap.size]? = some (.cells #[.int .i64 (N : Int), .int .i64 mv, .slice a1 n1 c1, .slice a2 n2 c2, .slice a3 n3 c3] 25 (0, 0)) := by rw [← hW0]; exact World.alloc_heap_new _ _
  have k0 : W0.cell? ⟨w.heap.size, 0, none⟩ = some (.int .i64 (N : Int)) := cell_of B0 rfl
  have k1 : W0.cell? ⟨w.heap.size, 1, none⟩ = some (.int .i64 mv) := cell_of B0 rfl
  have k2 : W0.cell? ⟨w.heap.size, 2, none⟩ = some (.slice a1 n1 c1) := cell_of B0 rfl
  have k3 : W0.cell? ⟨w.heap.size, 3, none⟩ = some (.slice a2 n2 c2) := cell_of B0 rfl
  have k4 : W0.cell? ⟨w.heap.size, 4, none⟩ = some (.slice a3 n3 c3) := cell_of B0 rfl
  have TV := valid_any W0 (N : Int) mv a1 a2 a3 c1 c2 c3 St Fi Ed (hide (RdA.on (argA_rd hA) d0)) hA.ls hA.lf (Nat.le_trans hA.le (by decide))
  rw [hA.may, e1, e2, e3] at TV
  have HQ := hide (And.intro hA (And.intro e1 (And.intro e2 (And.intro e3 hT))))
  rw [e1, e2, e3]
  have HD := hide (And.intro d0 B0)
  clear d0 B0 e1 e2 e3 hA hT
  go_enter Tryz.func18, Tryz.ntmps18
  go_wp2_with (go_at_call 27; refine TV.mono ?_; rintro e w5 ⟨rfl, d5⟩; have B5 := (d5.block _ (Array.getElem?_eq_some_iff.1 HD.out.2).1).trans HD.out.2; have q0 : w5.cell? ⟨w.heap.size, 0, none⟩ = some (.int .i64 (N : Int)) := cell_of B5 rfl; have q1 : w5.cell? ⟨w.heap.size, 1, none⟩ = some (.int .i64 mv) := cell_of B5 rfl; have q2 : w5.cell? ⟨w.heap.size, 2, none⟩ = some (.slice a1 n1 c1) := cell_of B5 rfl; have q3 : w5.cell? ⟨w.heap.size, 3, none⟩ = some (.slice a2 n2 c2) := cell_of B5 rfl; have q4 : w5.cell? ⟨w.heap.size, 4, none⟩ = some (.slice a3 n3 c3) := cell_of B5 rfl; have H5 := hide (HD.out.1.trans (d5.mono HD.out.1.size)); clear d5 B5)
  have TC := reached_any w5 N mv a1 a2 a3 c1 c2 c3 St Fi Ed (HQ.out.1.on H5.out)
  rw [HQ.out.2.1, HQ.out.2.2.1, HQ.out.2.2.2.1] at TC
  go_wp2_with (go_at_call 13; refine TC.mono ?_; rintro e w6 ⟨b, rfl, hR, d6⟩; have H6 := hide (And.intro hR (H5.out.trans (d6.mono H5.out.size))); clear hR d6)
  obtain ⟨len, ⟨g, cap, hs, q5, q6, q7⟩, hb⟩ := H6.out.1
  have TL := list_any b g cap N (metX len N) w6 hs (HQ.out.2.2.2.2.below H6.out.2 h0)
  have HB := hide hb
  clear hs hb TC TV q7
  go_wp2_with (go_at_call 35; refine TL.mono ?_; rintro e w7 ⟨gl, cl, rfl, hL, d7⟩; have H7 := hide (And.intro hL d7); clear hL d7)
  go_ret2
  exact ⟨_, rfl, ⟨len, gl, cl, rfl, own_lower H7.out.1 H6.out.2.size, HB.out⟩, H6.out.2.trans (H7.out.2.mono H6.out.2.size)⟩
set_option maxRecDepth 100000 in
set_option maxHeartbeats 1000000 in
theorem pcoreach_ok (w : World) (N : Nat) (mv : Int) (a1 a2 a3 : Option Addr) (c1 c2 c3 : Nat) (St Fi : List Int) (Ed : List EdT) (hA : ArgA w N mv a1 a2 a3 St Fi Ed) (hT : TabAt w) (h0 : 0 < w.heap.size) :
    Calls Tryz.prog 19 #[.agg #[.int .i64 (N : Int), .int .i64 mv, .slice a1 St.length c1, .slice a2 Fi.length c2, .slice a3 Ed.length c3]] w fun e w' => ∃ v, e = .returned (.tuple #[v, .int .i64 0]) ∧ AnsR w w' v N (fun q => (q : Int) ∈ Fi) (stepE true Ed) ∧ Below w.heap.size w w' := by
  obtain ⟨n1, e1⟩ : ∃ n, St.length = n := ⟨_, rfl⟩
  obtain ⟨n2, e2⟩ : ∃ n, Fi.length = n := ⟨_, rfl⟩
  obtain ⟨n3, e3⟩ : ∃ n, Ed.length = n := ⟨_, rfl⟩
  obtain ⟨W0, hW0⟩ : ∃ W0, w.alloc (.cells #[.int .i64 (N : Int), .int .i64 mv, .slice a1 n1 c1, .slice a2 n2 c2, .slice a3 n3 c3] 25) = W0 := ⟨_, rfl⟩
  have d0 : Below w.heap.size w W0 := by rw [← hW0]; exact (Below.refl _ _).alloc (Nat.le_refl _) _
  have B0 : W0.heap[w.heap.size]? = some (.cells #[.int .i64 (N : Int), .int .i64 mv, .slice a1 n1 c1, .slice a2 n2 c2, .slice a3 n3 c3] 25 (0, 0)) := by rw [← hW0]; exact World.alloc_heap_new _ _
  have k0 : W0.cell? ⟨w.heap.size, 0, none⟩ = some (.int .i64 (N : Int)) := cell_of B0 rfl
  have k1 : W0.cell? ⟨w.heap.size, 1, none⟩ = some (.int .i64 mv) := cell_of B0 rfl
  have k2 : W0.cell? ⟨w.heap.size, 2, none⟩ = some (.slice a1 n1 c1) := cell_of B0 rfl
  have k3 : W0.cell? ⟨w.heap.size, 3, none⟩ = some (.slice a2 n2 c2) := cell_of B0 rfl
  have k4 : W0.cell? ⟨w.heap.size, 4, none⟩ = some (.slice a3 n3 c3) := cell_of B0 rfl
  have TV := valid_any W0 (N : Int) mv a1 a2 a3 c1 c2 c3 St Fi Ed (hide (RdA.on (argA_rd hA) d0)) hA.ls hA.lf (Nat.le_trans hA.le (by decide))
  rw [hA.may, e1, e2, e3] at TV
  have HQ := hide (And.intro hA (And.intro e1 (And.intro e2 (And.intro e3 hT))))
  rw [e1, e2, e3]
  have HD := hide (And.intro d0 B0)
  clear d0 B0 e1 e2 e3 hA hT
  go_enter Tryz.func19, Tryz.ntmps19
  go_wp2_with (go_at_call 27; refine TV.mono ?_; rintro e w5 ⟨rfl, d5⟩; have B5 := (d5.block _ (Array.getElem?_eq_some_iff.1 HD.out.2).1).trans HD.out.2; have q0 : w5.cell? ⟨w.heap.size, 0, none⟩ = some (.int .i64 (N : Int)) := cell_of B5 rfl; have q1 : w5.cell? ⟨w.heap.size, 1, none⟩ = some (.int .i64 mv) := cell_of B5 rfl; have q2 : w5.cell? ⟨w.heap.size, 2, none⟩ = some (.slice a1 n1 c1) := cell_of B5 rfl; have q3 : w5.cell? ⟨w.heap.size, 3, none⟩ = some (.slice a2 n2 c2) := cell_of B5 rfl; have q4 : w5.cell? ⟨w.heap.size, 4, none⟩ = some (.slice a3 n3 c3) := cell_of B5 rfl; have H5 := hide (HD.out.1.trans (d5.mono HD.out.1.size)); clear d5 B5)
  have TC := coreached_any w5 N mv a1 a2 a3 c1 c2 c3 St Fi Ed (HQ.out.1.on H5.out)
  rw [HQ.out.2.1, HQ.out.2.2.1, HQ.out.2.2.2.1] at TC
  go_wp2_with (go_at_call 15; refine TC.mono ?_; rintro e w6 ⟨b, rfl, hR, d6⟩; have H6 := hide (And.intro hR (H5.out.trans (d6.mono H5.out.size))); clear hR d6)
  obtain ⟨len, ⟨g, cap, hs, q5, q6, q7⟩, hb⟩ := H6.out.1
  have TL := list_any b g cap N (metX len N) w6 hs (HQ.out.2.2.2.2.below H6.out.2 h0)
  have HB := hide hb
  clear hs hb TC TV q7
  go_wp2_with (go_at_call 35; refine TL.mono ?_; rintro e w7 ⟨gl, cl, rfl, hL, d7⟩; have H7 := hide (And.intro hL d7); clear hL d7)
  go_ret2
  exact ⟨_, rfl, ⟨len, gl, cl, rfl, own_lower H7.out.1 H6.out.2.size, HB.out⟩, H6.out.2.trans (H7.out.2.mono H6.out.2.size)⟩
set_option maxRecDepth 100000 in
set_option maxHeartbeats 1000000 in
theorem pdist_ok (w : World) (N : Nat) (mv : Int) (a1 a2 a3 : Option Addr) (c1 c2 c3 : Nat) (St Fi : List Int) (Ed : List EdT) (hA : ArgA w N mv a1 a2 a3 St Fi Ed) :
    Calls Tryz.prog 20 #[.agg #[.int .i64 (N : Int), .int .i64 mv, .slice a1 St.length c1, .slice a2 Fi.length c2, .slice a3 Ed.length c3]] w fun e w' => ∃ v, e = .returned (.tuple #[v, .int .i64 0]) ∧ AnsD w w' v N (fun q => (q : Int) ∈ Fi) (stepE true Ed) ∧ Below w.heap.size w w' := by
  obtain ⟨n1, e1⟩ : ∃ n, St.length = n := ⟨_, rfl⟩
  obtain ⟨n2, e2⟩ : ∃ n, Fi.length = n := ⟨_, rfl⟩
  obtain ⟨n3, e3⟩ : ∃ n, Ed.length = n := ⟨_, rfl⟩
  obtain ⟨W0, hW0⟩ : ∃ W0, w.alloc (.cells #[.int .i64 (N : Int), .int .i64 mv, .slice a1 n1 c1, .slice a2 n2 c2, .slice a3 n3 c3] 25) = W0 := ⟨_, rfl⟩
  have d0 : Below w.heap.size w W0 := by rw [← hW0]; exact (Below.refl _ _).alloc (Nat.le_refl _) _
  have B0 : W0.heap[w.heap.size]? = some (.cells #[.int .i64 (N : Int), .int .i64 mv, .slice a1 n1 c1, .slice a2 n2 c2, .slice a3 n3 c3] 25 (0, 0)) := by rw [← hW0]; exact World.alloc_heap_new _ _
  have k0 : W0.cell? ⟨w.heap.size, 0, none⟩ = some (.int .i64 (N : Int)) := cell_of B0 rfl
  have k1 : W0.cell? ⟨w.heap.size, 1, none⟩ = some (.int .i64 mv) := cell_of B0 rfl
  have k2 : W0.cell? ⟨w.heap.size, 2, none⟩ = some (.slice a1 n1 c1) := cell_of B0 rfl
  have k3 : W0.cell? ⟨w.heap.size, 3, none⟩ = some (.slice a2 n2 c2) := cell_of B0 rfl
  have k4 : W0.cell? ⟨w.heap.size, 4, none⟩ = some (.slice a3 n3 c3) := cell_of B0 rfl
  have TV := valid_any W0 (N : Int) mv a1 a2 a3 c1 c2 c3 St Fi Ed (hide (RdA.on (argA_rd hA) d0)) hA.ls hA.lf (Nat.le_trans hA.le (by decide))
  rw [hA.may, e1, e2, e3] at TV
  have HQ := hide (And.intro hA (And.intro e1 (And.intro e2 e3)))
  rw [e1, e2, e3]
  have HD := hide (And.intro d0 B0)
  clear d0 B0 e1 e2 e3 hA
  go_enter Tryz.func20, Tryz.ntmps20
  go_wp2_with (go_at_call 27; refine TV.mono ?_; rintro e w5 ⟨rfl, d5⟩; have B5 := (d5.block _ (Array.getElem?_eq_some_iff.1 HD.out.2).1).trans HD.out.2; have q0 : w5.cell? ⟨w.heap.size, 0, none⟩ = some (.int .i64 (N : Int)) := cell_of B5 rfl; have q1 : w5.cell? ⟨w.heap.size, 1, none⟩ = some (.int .i64 mv) := cell_of B5 rfl; have q2 : w5.cell? ⟨w.heap.size, 2, none⟩ = some (.slice a1 n1 c1) := cell_of B5 rfl; have q3 : w5.cell? ⟨w.heap.size, 3, none⟩ = some (.slice a2 n2 c2) := cell_of B5 rfl; have q4 : w5.cell? ⟨w.heap.size, 4, none⟩ = some (.slice a3 n3 c3) := cell_of B5 rfl; have H5 := hide (HD.out.1.trans (d5.mono HD.out.1.size)); clear d5 B5)
  have hA5 := HQ.out.1.on H5.out
  have TC := lengths_bwd w5 N mv a1 a2 a3 a2 n1 n2 c1 c2 c3 c2 Ed Fi (Nat.le_trans hA5.hN (by decide)) hA5.re hA5.rf (Nat.le_trans hA5.le (by decide)) hA5.lf (hA5.ends true) hA5.inf
  rw [HQ.out.2.2.1, HQ.out.2.2.2] at TC
  clear hA5
  go_wp2_with (go_at_call 30; refine TC.mono ?_; rintro e w6 ⟨gl, rfl, q5, ⟨len, hM, hb, hlN⟩, d6⟩; have H6 := hide (And.intro (And.intro q5 (And.intro hM (And.intro hb hlN))) (And.intro H5.out.size (H5.out.trans (d6.mono H5.out.size)))); clear hM hb hlN d6 q5)
  go_ret2
  exact ⟨_, rfl, ⟨len, gl, rfl, Nat.le_trans H6.out.2.1 H6.out.1.1, H6.out.1.2.1, H6.out.1.2.2.1, H6.out.1.2.2.2⟩, H6.out.2.2⟩
end Go.Proofs.YtojnlpicgemlaabGreatDoor
