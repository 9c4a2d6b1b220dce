import Derived.Test.YtgnpdhgphkocoaaGreatDoorCards
import Derived.Test.YtgnpdhgphkocoaaGreatDoorTie
import Derived.Test.YtgnpdhgphkocoaaGreatDoorQaj
import Derived.ProofKit
import Derived.OpenShut
import Derived.ShutString
import Derived.Deep.DeepHandedRow
import Derived.Lib.LaidTab
import Derived.Lib.SmallJoins
import Derived.ChangeOld
import Derived.Lay
import Derived.Deep.Slices
namespace Go.Proofs.YtgnpdhgphkocoaaGreatDoor
open Go.RowKit Go.Maps
attribute [local go_sem] Oper.semAt_some
/-! ### The law: what is not an automaton -/
set_option maxRecDepth 100000 in
set_option maxHeartbeats 4000000 in
theorem law_bad (w : World) (n m : Int) (a1 a2 a3 : Option Addr) (c1 c2 c3 : Nat) (St Fi : List Int) (Ed : List EdT) (d0 d1 d2 d3 d4 d5 d6 d7 d8 d9 d10 d11 : Value) (aW : Option Addr) (lw cW : Nat) (er : Int) (her : er ≠ 0) (TM : ∀ W, Below w.heap.size w W → Calls Tryz.prog 8 #[.agg #[.int .i64 n, .int .i64 m, .slice a1 St.length c1, .slice a2 Fi.length c2, .slice a3 Ed.length c3], .int .i64 300] W fun e w' => e = .returned (.tuple #[.agg #[.int .i64 0, .int .i64 0, .int .i64 0, .slice none 0 0, .slice none 0 0], .slice none 0 0, .int .i64 er]) ∧ Below W.heap.size W w') (hT : TabAt w) (h0 : 0 < w.heap.size) :
    Calls Tryz.prog 3 #[.agg #[.int .i64 n, .int .i64 m, .slice a1 St.length c1, .slice a2 Fi.length c2, .slice a3 Ed.length c3, d0, d1, d2, d3, d4, d5, d6, d7, d8, d9, .slice aW lw cW, d10, d11]] w fun e w' => e = .returned (.bool true) ∧ Below w.heap.size w w' := by
  obtain ⟨W0, hW0⟩ : ∃ W0, w.alloc (.cells #[.int .i64 n, .int .i64 m, .slice a1 St.length c1, .slice a2 Fi.length c2, .slice a3 Ed.length c3, d0, d1, d2, d3, d4, d5, d6, d7, d8, d9, .slice aW lw cW, d10, d11] 29) = W0 := ⟨_, rfl⟩
  have d00 : Below w.heap.size w W0 := by rw [← hW0]; exact below_al _ _
  have B0 : W0.heap[w.heap.size]? = some (.cells #[.int .i64 n, .int .i64 m, .slice a1 St.length c1, .slice a2 Fi.length c2, .slice a3 Ed.length c3, d0, d1, d2, d3, d4, d5, d6, d7, d8, d9, .slice aW lw cW, d10, d11] 29 (0, 0)) := by rw [← hW0]; exact World.alloc_heap_new _ _
  have HD := hide (And.intro d00 B0)
  have HT : Hid (∀ W, Below w.heap.size w W → TabAt W ∧ 0 < W.heap.size) := hide (fun W d => ⟨hT.below d h0, Nat.lt_of_lt_of_le h0 d.size⟩)
  clear hT h0 d00
  have hne : (er != 0) = true := by simpa using her
  have HTM := hide TM
  clear TM B0
  go_enter Tryz.func3, Tryz.ntmps3
  go_upto_region 3 with (go_at_call 7; refine (lives_yes _ (HT.out _ HD.out.1).1 (HT.out _ HD.out.1).2).mono ?_; rintro e w1 ⟨rfl, d1⟩; have H1 := hide (HD.out.1.trans (d1.mono HD.out.1.size)); have HB1 := hide (blk_on HD.out.2 d1); clear d1)
  have B1 := HB1.out
  have y0 : w1.cell? ⟨w.heap.size, 0, none⟩ = some (.int .i64 n) := cell_of B1 rfl
  have y1 : w1.cell? ⟨w.heap.size, 1, none⟩ = some (.int .i64 m) := cell_of B1 rfl
  have y2 : w1.cell? ⟨w.heap.size, 2, none⟩ = some (.slice a1 St.length c1) := cell_of B1 rfl
  have y3 : w1.cell? ⟨w.heap.size, 3, none⟩ = some (.slice a2 Fi.length c2) := cell_of B1 rfl
  have y4 : w1.cell? ⟨w.heap.size, 4, none⟩ = some (.slice a3 Ed.length c3) := cell_of B1 rfl
  clear B1 hW0
  go_upto_region 4 with (go_at_call 8; refine (HTM.out w1 H1.out).mono ?_; rintro e w2 ⟨rfl, d2⟩; have H2 := hide d2; clear d2; obtain ⟨p3, hp3⟩ : ∃ p, w2.heap.size = p := ⟨_, rfl⟩)
  obtain ⟨W3, hW3⟩ : ∃ W, w2.alloc (.cells #[.int .i64 0, .int .i64 0, .int .i64 0, .slice none 0 0, .slice none 0 0] 27) = W := ⟨_, rfl⟩
  have B3 : W3.heap[p3]? = some (.cells #[.int .i64 0, .int .i64 0, .int .i64 0, .slice none 0 0, .slice none 0 0] 27 (0, 0)) := by rw [← hW3, ← hp3]; exact World.alloc_heap_new _ _
  have D3 := hide (show Below w2.heap.size w2 W3 by rw [← hW3]; exact below_al _ _)
  try rw [hp3]
  try rw [hW3]
  have z0 : W3.cell? ⟨p3, 0, none⟩ = some (.int .i64 0) := cell_of B3 rfl
  clear hp3 hW3 B3 y0 y1 y2 y3 y4
  go_wp2_with fail
  go_ret
  exact ⟨rfl, H1.out.trans ((H2.out.trans (D3.out.mono H2.out.size)).mono H1.out.size)⟩
/-! ### The law: the automaton made of the answer -/
section
variable {φ : Nat → Nat → Nat} {M X0 n F : Nat} {T K : List Nat}
theorem auto_again (w : World) (tF tN : Option Addr) (lF kF lN kN : Nat) (NW : List Nat) (hF : RdN w tF (natI NW)) (hN : RdN w tN (natI K)) (hlF : NW.length = lF) (hlN : K.length = lN) (bF : lF ≤ 4194304) (bN : lN ≤ 65536) (hv : vd (n : Int) (M : Int) ((0 : Nat) : Int) (natI NW) (natI K) = true) (hT : TabAt w) (h0 : 0 < w.heap.size) :
    Calls Tryz.prog 16 #[.agg #[.int .i64 (n : Int), .int .i64 (M : Int), .int .i64 0, .slice tF lF kF, .slice tN lN kN]] w fun e w' => ∃ tS kS tG lG kG tE lE kE, e = .returned (.tuple #[.agg #[.int .i64 (n : Int), .int .i64 (M : Int), .slice tS 1 kS, .slice tG lG kG, .slice tE lE kE], .int .i64 0]) ∧ Hid (RdA w' tS tG tE [((0 : Nat) : Int)] (natI (elems n (setI n (natI NW)))) (edF (natI K) M (n * M)) ∧ (natI (elems n (setI n (natI NW)))).length = lG ∧ (edF (natI K) M (n * M)).length = lE ∧ Below w.heap.size w w') := by
  refine (auto_ok w n M 0 tF tN lF kF lN kN (natI NW) (natI K) hF hN (by rw [natI_len]; exact hlF) (by rw [natI_len]; exact hlN) bF bN hv hT h0).mono ?_
  rintro e w' ⟨vS, vG, vE, rfl, oS, oG, oE, d⟩
  obtain ⟨tS, kS, eS⟩ := own_slice oS
  obtain ⟨tG, kG, eG⟩ := own_slice oG
  obtain ⟨tE, kE, eE⟩ := own_slice oE
  subst eS eG eE
  exact ⟨tS, kS, tG, _, kG, tE, _, kE, rfl, hide ⟨⟨own_rdN oS, own_rdN oG, own_rdE oE⟩, rfl, rfl, d⟩⟩
theorem single_again (h : SuI φ M X0 T K) (hK : K.length = T.length * M) (hTn : T.length = n) (hn : n ≤ 300) (hM : M ≤ 128) (Q : Nat) (w : World) (tS tG tE : Option Addr) (kS lG kG lE kE : Nat) (hA : RdA w tS tG tE [((0 : Nat) : Int)] (natI (elems n Q)) (edF (natI K) M (n * M))) (hG : (natI (elems n Q)).length = lG) (hE : (edF (natI K) M (n * M)).length = lE) :
    Calls Tryz.prog 17 #[.agg #[.int .i64 (n : Int), .int .i64 (M : Int), .slice tS 1 kS, .slice tG lG kG, .slice tE lE kE]] w fun e w' => e = .returned (.tuple #[.bool true, .int .i64 0]) ∧ Below w.heap.size w w' := by
  subst hTn
  have hl : T.length * M ≤ 300 * 128 := Nat.mul_le_mul hn hM
  have hel : (natI (elems T.length Q)).length ≤ T.length := by
    rw [natI_len]
    have z := List.length_filter_le (fun i => Q.testBit i) (List.range T.length)
    rw [List.length_range] at z
    exact z
  have z := single_ok w T.length M tS tG tE kS kG kE [((0 : Nat) : Int)] (natI (elems T.length Q)) (edF (natI K) M (T.length * M)) (hide hA) (by simp) (by omega) (by rw [edF_len]; omega) (h.may hK hn hM Q)
  rw [owB_one edF_one, decide_eq_true (Nat.le_trans (riseL_len _) (by simp)), hG, hE] at z
  exact z
theorem make_again (h : SuI φ M X0 T K) (bud : Int) (hsu : suF φ M bud 600000 [X0] [] = (0, T, K)) (hnd : T.Nodup) (hK : K.length = T.length * M) (hTn : T.length = n) (hn : n ≤ 300) (hM : M ≤ 128) (NW : List Nat) (hNW : NW = nwL T F T.length) (lF lN : Nat) (hlF : NW.length = lF) (hlN : K.length = lN) (w : World) (tS tG tE : Option Addr) (kS lG kG lE kE : Nat) (hA : RdA w tS tG tE [((0 : Nat) : Int)] (natI (elems n (setI n (natI NW)))) (edF (natI K) M (n * M))) (hG : (natI (elems n (setI n (natI NW)))).length = lG) (hE : (edF (natI K) M (n * M)).length = lE) (hT : TabAt w) (h0 : 0 < w.heap.size) :
    Calls Tryz.prog 8 #[.agg #[.int .i64 (n : Int), .int .i64 (M : Int), .slice tS 1 kS, .slice tG lG kG, .slice tE lE kE], .int .i64 0] w fun e w' => ∃ uF jF uN jN gM, e = .returned (.tuple #[.agg #[.int .i64 (n : Int), .int .i64 (M : Int), .int .i64 0, .slice uF lF jF, .slice uN lN jN], .slice (some ⟨gM, 0, none⟩) n n, .int .i64 0]) ∧ Hid (RdN w' uF (natI NW) ∧ RdN w' uN (natI K) ∧ RdLs w' gM ((List.range n).map fun (i : Nat) => [(i : Int)]) ∧ Below w.heap.size w w') := by
  subst hTn
  have hl : T.length * M ≤ 300 * 128 := Nat.mul_le_mul hn hM
  have hel : (natI (elems T.length (setI T.length (natI NW)))).length ≤ T.length := by
    rw [natI_len]
    have z := List.length_filter_le (fun i => (setI T.length (natI NW)).testBit i) (List.range T.length)
    rw [List.length_range] at z
    exact z
  have z := make_ok w T.length M 0 tS tG tE kS kG kE [((0 : Nat) : Int)] (natI (elems T.length (setI T.length (natI NW)))) (edF (natI K) M (T.length * M)) (hide hA) (by simp) (by omega) (by rw [edF_len]; omega) (h.may hK hn hM _) hT h0
  have hsim := suF_sim (φ := φ) (φ' := folF T.length (riseE (edF (natI K) M (T.length * M)))) (M := M) (bud := bud) (TT := T) (KK := K) (by omega) hnd (h.fol hK) 600000 [X0] [] hsu (by simp)
  have hst : setI T.length (riseL [((0 : Nat) : Int)]) = 2 ^ 0 := one_set h.ne
  rw [hst] at z
  have hsim : suF (folF T.length (riseE (edF (natI K) M (T.length * M)))) M 0 600000 [2 ^ 0] [] = (0, (List.range T.length).map (2 ^ ·), K) := hsim
  rw [hsim, hG, hE] at z
  refine z.mono ?_
  rintro e w' ⟨d, ⟨hb, _⟩ | ⟨_, vF, vN, vL, rfl, oF, oN, oL, _, _⟩⟩
  · exact absurd rfl hb
  have eT : ((List.range T.length).map (2 ^ ·)).length = T.length := by rw [List.length_map, List.length_range]
  have oF : OwI w' w.heap.size vF (natI NW) := by
    have q := oF
    rw [show (0, (List.range T.length).map (2 ^ ·), K).2.1 = (List.range T.length).map (2 ^ ·) from rfl, eT] at q
    have e2 : nwL ((List.range T.length).map (2 ^ ·)) (setI T.length (riseL (natI (elems T.length (setI T.length (natI NW)))))) T.length = NW := by
      rw [hNW]
      exact again_final
    rw [e2] at q
    exact q
  have oN : OwI w' w.heap.size vN (natI K) := oN
  obtain ⟨uF, jF, eF⟩ := own_slice oF
  obtain ⟨uN, jN, eN⟩ := own_slice oN
  obtain ⟨gM, eL, hR⟩ := oL.rd
  subst eF eN eL
  refine ⟨uF, jF, uN, jN, gM, ?_, hide ⟨own_rdN oF, own_rdN oN, ?_, d⟩⟩
  · simp only [natI_len, hlF, hlN, List.length_map, List.length_range]
  · have e3 : (((List.range T.length).map (2 ^ ·)).map (elems T.length)).map natI = (List.range T.length).map fun (i : Nat) => [(i : Int)] := by
      rw [List.map_map, List.map_map]
      apply List.map_congr_left
      intro i hi
      show natI (elems T.length (2 ^ i)) = [(i : Int)]
      rw [one_elem (List.mem_range.1 hi)]
      rfl
    rw [← e3]
    exact hR
end
/-! ### The law -/
theorem own_cap {W : World} {B n c sz : Nat} {e : TypeId} {b : Option Addr} {xs : List Value} (h : W.ownsRow B e sz (.slice b n c) n xs) : n ≤ c := by
  rcases h.2 with ⟨e1, _⟩ | ⟨g, cap, cur, e1, _, _, h3, _⟩
  · injection e1 with _ e2 e3
    omega
  · injection e1 with _ _ e3
    omega
theorem aft_call {w : World} {args : Array Value} {r : List Int × Int} {lf : Nat} {re : Int} (T : Calls Tryz.prog 12 args w (LAns w r)) (h1 : r.1.length = lf) (h2 : r.2 = re) : Calls Tryz.prog 12 args w fun e w' => ∃ b c, e = .returned (.tuple #[.slice b lf c, .int .i64 re]) ∧ RdN w' b r.1 ∧ Below w.heap.size w w' := by
  subst h1 h2
  refine T.mono ?_
  rintro e w' ⟨b, c, rfl, ho, d⟩
  exact ⟨b, c, rfl, own_rdN ho.out, d⟩
theorem may_all {N M : Nat} {St Fi : List Int} {Ed : List EdT} (em : mayA N M St Fi Ed = true) : (∀ e ∈ Ed, (0 ≤ e.1 ∧ e.1 < (N : Int)) ∧ (0 ≤ e.2.1 ∧ e.2.1 < (M : Int)) ∧ 0 ≤ e.2.2 ∧ e.2.2 < (N : Int)) ∧ (∀ x ∈ St, 0 ≤ x ∧ x < (N : Int)) ∧ ∀ x ∈ Fi, 0 ≤ x ∧ x < (N : Int) := by
  unfold mayA at em
  simp only [Bool.and_eq_true, decide_eq_true_eq, List.all_eq_true] at em
  obtain ⟨⟨⟨⟨⟨_, _⟩, _⟩, e4⟩, e5⟩, e6⟩ := em
  refine ⟨fun e he => ?_, fun x hx => inB_iff.1 (e4 x hx), fun x hx => inB_iff.1 (e5 x hx)⟩
  have z := e6 e he
  unfold edOk at z
  simp only [Bool.and_eq_true] at z
  exact ⟨inB_iff.1 z.1.1, inB_iff.1 z.1.2, inB_iff.1 z.2⟩
theorem law_set {W : World} {gL N lf s : Nat} {T : List Nat} {L : List Int} {bf : Option Addr} (h : RdLs W gL ((T.map (elems N)).map natI)) (hs : s < T.length) (e : L = natI (elems N (T.getD s 0))) (hl : L.length = lf) (hf : RdN W bf L) (hn : (elems N (T.getD s 0)).length ≤ 4194304) (cf : Nat) : ∃ bs ls cs, W.cell? ⟨gL, s, none⟩ = some (.slice bs ls cs) ∧ Calls Tryz.prog 10 #[.slice bs ls cs, .slice bf lf cf] W fun e w' => e = .returned (.bool true) ∧ Below W.heap.size W w' := by
  obtain ⟨b, c, y, r⟩ := h s (by rw [List.length_map, List.length_map]; exact hs)
  have e2 : ((T.map (elems N)).map natI)[s]'(by rw [List.length_map, List.length_map]; exact hs) = L := by
    rw [List.getElem_map, List.getElem_map, e, List.getD_eq_getElem?_getD, List.getElem?_eq_getElem hs]
    rfl
  rw [e2] at y r
  have hL : L.length ≤ 4194304 := by rw [e, natI_len]; exact hn
  have z := sameInts_any W b bf L L c cf (hide r) (hide hf) hL hL
  rw [decide_eq_true rfl, hl] at z
  rw [hl] at y
  exact ⟨b, lf, c, y, z⟩
theorem el_len {N M : Nat} {St Fi : List Int} {Ed : List EdT} (em : mayA N M St Fi Ed = true) (X : Nat) : (elems N X).length ≤ 4194304 := by
  unfold mayA at em
  simp only [Bool.and_eq_true] at em
  have := inB_iff.1 em.1.1.1.1.1
  have h := List.length_filter_le (fun i => X.testBit i) (List.range N)
  rw [List.length_range] at h
  have h : (elems N X).length ≤ N := h
  omega
/-- The first answer, once it lies in its box. -/
def Lw1 (w W : World) (N M n : Nat) (a1 a2 a3 aW : Option Addr) (c1 c2 c3 lw cW : Nat) (St Fi : List Int) (Ed : List EdT) (Wd : List Int) (d0 d1 d2 d3 d4 d5 d6 d7 d8 d9 d10 d11 : Value) (p3 lF kF lN kN gL : Nat) (tF tN : Option Addr) (NW K : List Nat) (LL : List (List Nat)) : Prop :=
  W.heap[w.heap.size]? = some (.cells #[.int .i64 (N : Int), .int .i64 (M : Int), .slice a1 St.length c1, .slice a2 Fi.length c2, .slice a3 Ed.length c3, d0, d1, d2, d3, d4, d5, d6, d7, d8, d9, .slice aW lw cW, d10, d11] 29 (0, 0)) ∧ RdA W a1 a2 a3 St Fi Ed ∧ RdN W aW Wd ∧ W.heap[p3]? = some (.cells #[.int .i64 (n : Int), .int .i64 (M : Int), .int .i64 0, .slice tF lF kF, .slice tN lN kN] 27 (0, 0)) ∧ RdN W tF (natI NW) ∧ RdN W tN (natI K) ∧ RdLs W gL (LL.map natI)
set_option maxRecDepth 100000 in
set_option maxHeartbeats 16000000 in
theorem law_ok (w : World) (N M : Nat) (a1 a2 a3 aW : Option Addr) (c1 c2 c3 lw cW : Nat) (St Fi : List Int) (Ed : List EdT) (Wd : List Int) (d0 d1 d2 d3 d4 d5 d6 d7 d8 d9 d10 d11 : Value) (hA : Hid (RdA w a1 a2 a3 St Fi Ed)) (hW : RdN w aW Wd) (h1 : St.length ≤ 4194304) (h2 : Fi.length ≤ 4194304) (h3 : Ed.length ≤ 4194304) (hlw : Wd.length = lw) (bw : lw ≤ 4194304) (em : mayA N M St Fi Ed = true) (T K : List Nat) (hsu : suF (folF N (riseE Ed)) M 300 600000 [setI N (riseL St)] [] = (0, T, K)) (hT : TabAt w) (h0 : 0 < w.heap.size) :
    Calls Tryz.prog 3 #[.agg #[.int .i64 (N : Int), .int .i64 (M : Int), .slice a1 St.length c1, .slice a2 Fi.length c2, .slice a3 Ed.length c3, d0, d1, d2, d3, d4, d5, d6, d7, d8, d9, .slice aW lw cW, d10, d11]] w fun e w' => e = .returned (.bool true) ∧ Below w.heap.size w w' := by
  obtain ⟨W0, hW0⟩ : ∃ W0, w.alloc (.cells #[.int .i64 (N : Int), .int .i64 (M : Int), .slice a1 St.length c1, .slice a2 Fi.length c2, .slice a3 Ed.length c3, d0, d1, d2, d3, d4, d5, d6, d7, d8, d9, .slice aW lw cW, d10, d11] 29) = W0 := ⟨_, rfl⟩
  have d00 : Below w.heap.size w W0 := by rw [← hW0]; exact below_al _ _
  have B0 : W0.heap[w.heap.size]? = some (.cells #[.int .i64 (N : Int), .int .i64 (M : Int), .slice a1 St.length c1, .slice a2 Fi.length c2, .slice a3 Ed.length c3, d0, d1, d2, d3, d4, d5, d6, d7, d8, d9, .slice aW lw cW, d10, d11] 29 (0, 0)) := by rw [← hW0]; exact World.alloc_heap_new _ _
  have HD := hide (And.intro d00 B0)
  have HT : Hid (∀ W, Below w.heap.size w W → TabAt W ∧ 0 < W.heap.size) := hide (fun W d => ⟨hT.below d h0, Nat.lt_of_lt_of_le h0 d.size⟩)
  have HAW := hide (And.intro (hA.out.on d00) (hW.on d00))
  clear hT h0 d00 hA hW
  have hM : M ≤ 128 := by
    unfold mayA at em
    simp only [Bool.and_eq_true] at em
    have := inB_iff.1 em.1.1.1.1.2
    omega
  have hsi := SuI.ok (φ := folF N (riseE Ed)) (X0 := setI N (riseL St)) (bud := 300) hM (by rw [hsu])
  rw [hsu] at hsi
  have hn3 := suF_bud (φ := folF N (riseE Ed)) (M := M) (B := 300) (by decide) 600000 [setI N (riseL St)] [] (by simp) (by rw [show ((300 : Nat) : Int) = 300 from rfl, hsu])
  rw [show ((300 : Nat) : Int) = 300 from rfl, hsu] at hn3
  have HSI : Hid (SuI (folF N (riseE Ed)) M (setI N (riseL St)) T K ∧ K.length = T.length * M ∧ T.length ≤ 300) := hide ⟨hsi.1, hsi.2.1, hn3⟩
  obtain ⟨F, hF⟩ : ∃ F, setI N (riseL Fi) = F := ⟨_, rfl⟩
  have HFF := hide hF
  have HEM := hide em
  have HSU := hide hsu
  have TM : Hid (∀ W, Below W0.heap.size W0 W → Calls Tryz.prog 8 #[.agg #[.int .i64 (N : Int), .int .i64 (M : Int), .slice a1 St.length c1, .slice a2 Fi.length c2, .slice a3 Ed.length c3], .int .i64 300] W fun e w' => MkA W N M (0, T, K) F e w') := hide (fun W d => by
    have z := make_ok W N M 300 a1 a2 a3 c1 c2 c3 St Fi Ed (hide (HAW.out.1.on d)) h1 h2 h3 em (HT.out W (HD.out.1.trans (d.mono HD.out.1.size))).1 (HT.out W (HD.out.1.trans (d.mono HD.out.1.size))).2
    rw [hsu, hF] at z
    exact z)
  have HLS := hide (And.intro h1 (And.intro h2 (And.intro h3 (And.intro hlw bw))))
  clear hsi hn3 hsu hF em B0 h1 h2 h3 hlw bw
  go_enter Tryz.func3, Tryz.ntmps3
  go_upto_region 3 with (go_at_call 7; refine (lives_yes _ (HT.out _ HD.out.1).1 (HT.out _ HD.out.1).2).mono ?_; rintro e w1 ⟨rfl, d1⟩; have H1 := hide d1; clear d1)
  have B1 := blk_on HD.out.2 H1.out
  have y0 : w1.cell? ⟨w.heap.size, 0, none⟩ = some (.int .i64 (N : Int)) := cell_of B1 rfl
  have y1 : w1.cell? ⟨w.heap.size, 1, none⟩ = some (.int .i64 (M : Int)) := cell_of B1 rfl
  have y2 : w1.cell? ⟨w.heap.size, 2, none⟩ = some (.slice a1 St.length c1) := cell_of B1 rfl
  have y3 : w1.cell? ⟨w.heap.size, 3, none⟩ = some (.slice a2 Fi.length c2) := cell_of B1 rfl
  have y4 : w1.cell? ⟨w.heap.size, 4, none⟩ = some (.slice a3 Ed.length c3) := cell_of B1 rfl
  clear B1 hW0
  go_upto_region 4 with (go_at_call 8; refine (TM.out w1 H1.out).mono ?_; rintro e w2 ⟨d2, ⟨hb, _⟩ | ⟨_, vF, vN, vL, rfl, hoF, hoN, hoL, hnd, hbd⟩⟩; exact absurd rfl hb; obtain ⟨tF, lF, kF, rfl, hlF⟩ : ∃ b n c, vF = .slice b n c ∧ (natI (nwL T F T.length)).length = n := (by obtain ⟨b, c, e⟩ := own_slice hoF; exact ⟨b, _, c, e, rfl⟩); obtain ⟨tN, lN, kN, rfl, hlN⟩ : ∃ b n c, vN = .slice b n c ∧ (natI K).length = n := (by obtain ⟨b, c, e⟩ := own_slice hoN; exact ⟨b, _, c, e, rfl⟩); obtain ⟨gL, rfl, hrL⟩ := hoL.rd; have H2 := hide (And.intro d2 (And.intro hoF (And.intro hoN (And.intro hrL (And.intro hnd (And.intro hbd (And.intro hlF hlN))))))); clear d2 hoF hoN hoL hrL hnd hbd hlF hlN; obtain ⟨p3, hp3⟩ : ∃ p, w2.heap.size = p := ⟨_, rfl⟩)
  try rw [List.length_map]
  obtain ⟨n, hn⟩ : ∃ n, T.length = n := ⟨_, rfl⟩
  try rw [hn]
  obtain ⟨W3, hW3⟩ : ∃ W, w2.alloc (.cells #[.int .i64 (n : Int), .int .i64 (M : Int), .int .i64 0, .slice tF lF kF, .slice tN lN kN] 27) = W := ⟨_, rfl⟩
  have B3 : W3.heap[p3]? = some (.cells #[.int .i64 (n : Int), .int .i64 (M : Int), .int .i64 0, .slice tF lF kF, .slice tN lN kN] 27 (0, 0)) := by rw [← hW3, ← hp3]; exact World.alloc_heap_new _ _
  have D3 := hide (show Below w2.heap.size w2 W3 by rw [← hW3]; exact below_al _ _)
  try rw [hp3]
  try rw [hW3]
  have D13 : Below w1.heap.size w1 W3 := H2.out.1.trans (D3.out.mono H2.out.1.size)
  have D03 : Below W0.heap.size W0 W3 := H1.out.trans (D13.mono H1.out.size)
  obtain ⟨NW, hNW⟩ : ∃ L, nwL T F T.length = L := ⟨_, rfl⟩
  have HQ : Hid (∀ W, Below W3.heap.size W3 W → Lw1 w W N M n a1 a2 a3 aW c1 c2 c3 lw cW St Fi Ed Wd d0 d1 d2 d3 d4 d5 d6 d7 d8 d9 d10 d11 p3 lF kF lN kN gL tF tN NW K (T.map (elems N))) := hide (fun W d => by
    have q1 := blk_on HD.out.2 D03
    have q2 : RdN w2 tF (natI NW) := by
      have z := H2.out.2.1
      rw [hNW] at z
      exact (owI_rd z).2
    exact ⟨blk_on q1 d, (HAW.out.1.on D03).on d, (HAW.out.2.on D03).on d, blk_on B3 d, (q2.on D3.out).on d, (((owI_rd H2.out.2.2.1).2).on D3.out).on d, (H2.out.2.2.2.1.on D3.out).on d⟩)
  have HLN : Hid (T.length = n ∧ NW = nwL T F T.length ∧ NW.length = lF ∧ K.length = lN ∧ lN ≤ kN) := hide ⟨hn, hNW.symm, by
    have z := H2.out.2.2.2.2.2.2.1
    rw [natI_len, hNW] at z
    exact z, by
    have z := H2.out.2.2.2.2.2.2.2
    rw [natI_len] at z
    exact z, by
    have z := own_cap (n := lN) (by
      have z := H2.out.2.2.1
      unfold OwI at z
      rw [H2.out.2.2.2.2.2.2.2] at z
      exact z)
    exact z⟩
  have HND : Hid (T.Nodup ∧ ∀ X ∈ T, X < 2 ^ N) := hide ⟨H2.out.2.2.2.2.1, H2.out.2.2.2.2.2.1⟩
  have HW3 : Hid (Below w.heap.size w W3) := hide (HD.out.1.trans (D03.mono HD.out.1.size))
  have HTW : Hid (∀ W, Below W3.heap.size W3 W → TabAt W ∧ 0 < W.heap.size) := hide (fun W d => HT.out W (HW3.out.trans (d.mono HW3.out.size)))
  have HVD : Hid (vd (n : Int) (M : Int) ((0 : Nat) : Int) (natI NW) (natI K) = true ∧ lF ≤ 4194304 ∧ lN ≤ 38400 ∧ n ≤ 300 ∧ n * M = lN ∧ 0 < n) := hide (by
    have h1 := HSI.out.1.valid (F := F) HSI.out.2.1 (by have := HSI.out.2.2; omega) hM
    have h2 : n * M ≤ 300 * 128 := Nat.mul_le_mul (by have := HSI.out.2.2; omega) hM
    have h3 := HSI.out.2.1
    have h4 := HLN.out
    refine ⟨?_, ?_, ?_, ?_, ?_, ?_⟩
    · rw [h4.2.1, ← h4.1]; exact h1
    · rw [← h4.2.2.1, h4.2.1]
      have := nwL_len T F T.length
      have := HSI.out.2.2
      omega
    · rw [← h4.2.2.2.1, h3, h4.1]; exact h2
    · have := HSI.out.2.2; omega
    · rw [← h4.2.2.2.1, h3, h4.1]
    · have := HSI.out.1.ne; omega)
  clear hp3 hW3 B3 y0 y1 y2 y3 y4 hn hNW D13 D03 H2 TM
  have Q3 := HQ.out W3 (Below.refl _ _)
  have QA := Q3.1
  have QD := Q3.2.2.2.1
  have z0 : W3.cell? ⟨p3, 0, none⟩ = some (.int .i64 (n : Int)) := cell_of QD rfl
  have z1 : W3.cell? ⟨p3, 1, none⟩ = some (.int .i64 (M : Int)) := cell_of QD rfl
  have z2 : W3.cell? ⟨p3, 2, none⟩ = some (.int .i64 0) := cell_of QD rfl
  have z3 : W3.cell? ⟨p3, 3, none⟩ = some (.slice tF lF kF) := cell_of QD rfl
  have z4 : W3.cell? ⟨p3, 4, none⟩ = some (.slice tN lN kN) := cell_of QD rfl
  have y1 : W3.cell? ⟨w.heap.size, 1, none⟩ = some (.int .i64 (M : Int)) := cell_of QA rfl
  have T9 := rvalid_yes W3 n M 0 tF tN lF kF lN kN (natI NW) (natI K) Q3.2.2.2.2.1 Q3.2.2.2.2.2.1 (by rw [natI_len]; exact HLN.out.2.2.1) (by rw [natI_len]; exact HLN.out.2.2.2.1) HVD.out.2.1 (by have := HVD.out.2.2.1; omega) HVD.out.1
  have g0 : ((n : Int) != (n : Int)) = false := by simp
  have g1 : ((M : Int) != (M : Int)) = false := by simp
  clear Q3 QA QD
  go_upto_region 8 with (go_at_call 9; refine T9.mono ?_; rintro e w4 ⟨rfl, d4⟩; have H4 := hide d4; clear d4 T9 z0 z1 z2 z3 z4 y1; have Q4 := HQ.out w4 H4.out; have QA := Q4.1; have QD := Q4.2.2.2.1; have z0 : w4.cell? ⟨p3, 0, none⟩ = some (.int .i64 (n : Int)) := cell_of QD rfl; have z1 : w4.cell? ⟨p3, 1, none⟩ = some (.int .i64 (M : Int)) := cell_of QD rfl; have z2 : w4.cell? ⟨p3, 2, none⟩ = some (.int .i64 0) := cell_of QD rfl; have y1 : w4.cell? ⟨w.heap.size, 1, none⟩ = some (.int .i64 (M : Int)) := cell_of QA rfl; clear Q4 QA QD)
  clear z0 z1 z2 y1
  have hn3 : n ≤ 300 := HVD.out.2.2.2.1
  go_wp2_with fail
  go_loopw [64] (fun iv wr => ∃ i : Nat, i ≤ n ∧ iv = .int .i64 (i : Int) ∧ Hid (Below W3.heap.size W3 wr)) (fun iv _ => n - (intOf iv).toNat)
  case atStart => exact ⟨0, Nat.zero_le _, rfl, H4⟩
  case round =>
    clear H4
    obtain ⟨i, hi, rfl, HR0⟩ := hrel
    by_cases hlt : i < n
    · have l0 : (i : Int) < (n : Int) := by omega
      go_wp2_with fail
      rename World => wo
      go_loopw [68] (fun iv wx => ∃ k : Nat, k ≤ i ∧ iv = .int .i64 (k : Int) ∧ Hid (Below W3.heap.size W3 wx)) (fun iv _ => i - (intOf iv).toNat)
      case atStart => exact ⟨0, Nat.zero_le _, rfl, HR0⟩
      case round =>
        clear HR0
        obtain ⟨k, hk, rfl, HR⟩ := hrel
        by_cases hkl : k < i
        · have l1 : (k : Int) < (i : Int) := by omega
          have l2 : (k : Int) < (n : Int) := by omega
          have hkn : k < n := by omega
          have hiT : i < (T.map (elems N)).length := by rw [List.length_map, HLN.out.1]; exact hlt
          have hkT : k < (T.map (elems N)).length := by rw [List.length_map, HLN.out.1]; omega
          have QR := (HQ.out wr HR.out).2.2.2.2.2.2
          obtain ⟨ba, ca, ya, ra⟩ := QR i (by rw [List.length_map]; exact hiT)
          obtain ⟨bb, cb, yb, rb⟩ := QR k (by rw [List.length_map]; exact hkT)
          have hne : natI (elems N (T[i]'(by rw [HLN.out.1]; exact hlt))) ≠ natI (elems N (T[k]'(by rw [HLN.out.1]; omega))) := sets_apart HND.out.1 HND.out.2 _ _ (by omega)
          rw [List.getElem_map, List.getElem_map] at ya ra yb rb
          have lA : (natI (elems N (T[i]'(by rw [HLN.out.1]; exact hlt)))).length ≤ 4194304 := by rw [natI_len]; exact el_len HEM.out _
          have lB : (natI (elems N (T[k]'(by rw [HLN.out.1]; omega)))).length ≤ 4194304 := by rw [natI_len]; exact el_len HEM.out _
          generalize natI (elems N (T[i]'(by rw [HLN.out.1]; exact hlt))) = La at ya ra hne lA
          generalize natI (elems N (T[k]'(by rw [HLN.out.1]; omega))) = Lb at yb rb hne lB
          have TS0 : ∀ W, Below wr.heap.size wr W → Calls Tryz.prog 10 #[.slice ba La.length ca, .slice bb Lb.length cb] W fun e w' => e = .returned (.bool false) ∧ Below W.heap.size W w' := fun W d => by
            have z := sameInts_any W ba bb La Lb ca cb (hide (ra.on d)) (hide (rb.on d)) lA lB
            rw [decide_eq_false hne] at z
            exact z
          generalize La.length = la at ya TS0
          generalize Lb.length = lb at yb TS0
          have TS := hide TS0
          have HCA := hide ya
          have HCB := hide yb
          clear TS0 ya yb ra rb lA lB hne hiT hkT QR
          go_upto_region 14 with fail
          have hmo : MonIL 0 [vI 0 (.slice (some ⟨gL, 0, none⟩) n n), vI 1 (.int .i64 (i : Int)), vI 2 (.pointer (some ⟨gL, i, none⟩)), vI 3 (.slice ba la ca), vI 4 (.slice (some ⟨gL, 0, none⟩) n n), vI 5 (.int .i64 (k : Int)), vI 6 (.pointer (some ⟨gL, k, none⟩)), vI 7 (.slice bb lb cb), vI 8 (.bool false)] := ⟨vI_mono _ _, vI_mono _ _, vI_mono _ _, vI_mono _ _, vI_mono _ _, vI_mono _ _, vI_mono _ _, vI_mono _ _, vI_mono _ _, trivial⟩
          refine wp_region_sl [vI 0 (.slice (some ⟨gL, 0, none⟩) n n), vI 1 (.int .i64 (i : Int)), vI 2 (.pointer (some ⟨gL, i, none⟩)), vI 3 (.slice ba la ca), vI 4 (.slice (some ⟨gL, 0, none⟩) n n), vI 5 (.int .i64 (k : Int)), vI 6 (.pointer (some ⟨gL, k, none⟩)), vI 7 (.slice bb lb cb), vI 8 (.bool false)] (by kernel_rfl) (by kernel_rfl) (by kernel_rfl) (by kernel_rfl) hmo ⟨?o0, ?o1, ?o2, ?o3, ?o4, ?o5, ?o6, ?o7, ?o8, trivial⟩ ?fin
          case o0 =>
            intro At yy W hy hb d hd K hK
            have s4 : At.tmps.getD 4 undef = .slice (some ⟨gL, 0, none⟩) n n := hb 4 rfl
            have s4' := s4
            rw [Array.getD_eq_getD_getElem?] at s4'
            clear hd hy hb
            go_simp
            exact hK.out _ W (stp_of hmo d (Below.refl _ _)) (if_pos rfl)
          case o1 =>
            intro At yy W hy hb d hd K hK
            have s6 : At.tmps.getD 6 undef = .int .i64 (i : Int) := hb 6 rfl
            have s6' := s6
            rw [Array.getD_eq_getD_getElem?] at s6'
            clear hd hy hb
            go_simp
            exact hK.out _ W (stp_of hmo d (Below.refl _ _)) (if_pos rfl)
          case o2 =>
            intro At yy W hy hb d hd K hK
            have e0 : yy 0 = .slice (some ⟨gL, 0, none⟩) n n := by obtain ⟨_, _, _, _, e⟩ := hd ⟨0, .data⟩ (by simp) rfl rfl; exact e
            have e1 : yy 1 = .int .i64 (i : Int) := by obtain ⟨_, _, _, _, e⟩ := hd ⟨1, .data⟩ (by simp) rfl rfl; exact e
            have s71 := (hy 0 _ 71 rfl rfl).trans e0
            have s71' := s71
            rw [Array.getD_eq_getD_getElem?] at s71'
            have s72 := (hy 1 _ 72 rfl rfl).trans e1
            have s72' := s72
            rw [Array.getD_eq_getD_getElem?] at s72'
            clear hd hy hb
            go_simp
            exact hK.out _ W (stp_of hmo d (Below.refl _ _)) (if_pos rfl)
          case o3 =>
            intro At yy W hy hb d hd K hK
            have e2 : yy 2 = .pointer (some ⟨gL, i, none⟩) := by obtain ⟨_, _, _, _, e⟩ := hd ⟨2, .data⟩ (by simp) rfl rfl; exact e
            have s73 := (hy 2 _ 73 rfl rfl).trans e2
            have s73' := s73
            rw [Array.getD_eq_getD_getElem?] at s73'
            clear hd hy hb
            have ya : W.cell? ⟨gL, i, none⟩ = some (.slice ba la ca) := (d.cell (p := ⟨gL, i, none⟩) (World.block_lt_of_cell? wr _ HCA.out)).trans HCA.out
            go_simp
            exact hK.out _ W (stp_of hmo d (Below.refl _ _)) (if_pos rfl)
          case o4 =>
            intro At yy W hy hb d hd K hK
            have s4 : At.tmps.getD 4 undef = .slice (some ⟨gL, 0, none⟩) n n := hb 4 rfl
            have s4' := s4
            rw [Array.getD_eq_getD_getElem?] at s4'
            clear hd hy hb
            go_simp
            exact hK.out _ W (stp_of hmo d (Below.refl _ _)) (if_pos rfl)
          case o5 =>
            intro At yy W hy hb d hd K hK
            have s7 : At.tmps.getD 7 undef = .int .i64 (k : Int) := hb 7 rfl
            have s7' := s7
            rw [Array.getD_eq_getD_getElem?] at s7'
            clear hd hy hb
            go_simp
            exact hK.out _ W (stp_of hmo d (Below.refl _ _)) (if_pos rfl)
          case o6 =>
            intro At yy W hy hb d hd K hK
            have e4 : yy 4 = .slice (some ⟨gL, 0, none⟩) n n := by obtain ⟨_, _, _, _, e⟩ := hd ⟨4, .data⟩ (by simp) rfl rfl; exact e
            have e5 : yy 5 = .int .i64 (k : Int) := by obtain ⟨_, _, _, _, e⟩ := hd ⟨5, .data⟩ (by simp) rfl rfl; exact e
            have s75 := (hy 4 _ 75 rfl rfl).trans e4
            have s75' := s75
            rw [Array.getD_eq_getD_getElem?] at s75'
            have s76 := (hy 5 _ 76 rfl rfl).trans e5
            have s76' := s76
            rw [Array.getD_eq_getD_getElem?] at s76'
            clear hd hy hb
            go_simp
            exact hK.out _ W (stp_of hmo d (Below.refl _ _)) (if_pos rfl)
          case o7 =>
            intro At yy W hy hb d hd K hK
            have e6 : yy 6 = .pointer (some ⟨gL, k, none⟩) := by obtain ⟨_, _, _, _, e⟩ := hd ⟨6, .data⟩ (by simp) rfl rfl; exact e
            have s77 := (hy 6 _ 77 rfl rfl).trans e6
            have s77' := s77
            rw [Array.getD_eq_getD_getElem?] at s77'
            clear hd hy hb
            have yb : W.cell? ⟨gL, k, none⟩ = some (.slice bb lb cb) := (d.cell (p := ⟨gL, k, none⟩) (World.block_lt_of_cell? wr _ HCB.out)).trans HCB.out
            go_simp
            exact hK.out _ W (stp_of hmo d (Below.refl _ _)) (if_pos rfl)
          case o8 =>
            intro At yy W hy hb d hd K hK
            have e3 : yy 3 = .slice ba la ca := by obtain ⟨_, _, _, _, e⟩ := hd ⟨3, .data⟩ (by simp) rfl rfl; exact e
            have e7 : yy 7 = .slice bb lb cb := by obtain ⟨_, _, _, _, e⟩ := hd ⟨7, .data⟩ (by simp) rfl rfl; exact e
            have s74 := (hy 3 _ 74 rfl rfl).trans e3
            have s74' := s74
            rw [Array.getD_eq_getD_getElem?] at s74'
            have s78 := (hy 7 _ 78 rfl rfl).trans e7
            have s78' := s78
            rw [Array.getD_eq_getD_getElem?] at s78'
            clear hd hy hb
            go_simp
            go_wp2_with (go_at_call 10; refine (TS.out W d).mono ?_; rintro e wa ⟨rfl, da⟩)
            exact hK.out _ wa (stp_of hmo d da) (if_pos rfl)
          case fin =>
            intro yy lo hi W hM
            show wpList _ _ _ [] _ _
            have e0 : yy 0 = .slice (some ⟨gL, 0, none⟩) n n := hM.fact 0 (by simp) rfl (notR_all 0 rfl)
            have e1 : yy 1 = .int .i64 (i : Int) := hM.fact 1 (by simp) rfl (notR_all 1 rfl)
            have e2 : yy 2 = .pointer (some ⟨gL, i, none⟩) := hM.fact 2 (by simp) rfl (notR_all 2 rfl)
            have e3 : yy 3 = .slice ba la ca := hM.fact 3 (by simp) rfl (notR_all 3 rfl)
            have e4 : yy 4 = .slice (some ⟨gL, 0, none⟩) n n := hM.fact 4 (by simp) rfl (notR_all 4 rfl)
            have e5 : yy 5 = .int .i64 (k : Int) := hM.fact 5 (by simp) rfl (notR_all 5 rfl)
            have e6 : yy 6 = .pointer (some ⟨gL, k, none⟩) := hM.fact 6 (by simp) rfl (notR_all 6 rfl)
            have e7 : yy 7 = .slice bb lb cb := hM.fact 7 (by simp) rfl (notR_all 7 rfl)
            have e8 : yy 8 = .bool false := hM.fact 8 (by simp) rfl (notR_all 8 rfl)
            have dd := hM.d
            simp only [fills, Act.put, List.take, List.length, List.setIfInBounds_toArray, List.set_cons_zero, List.set_cons_succ, e0, e1, e2, e3, e4, e5, e6, e7, e8]
            clear hM hmo e0 e1 e2 e3 e4 e5 e6 e7 e8
            have HDD := hide dd
            clear dd
            go_wp2_with fail
            go_roundw
            case rel => exact ⟨k + 1, by omega, by go_num, hide (HR.out.trans (HDD.out.mono HR.out.size))⟩
            case measure => simp [intOf]; omega
        · have l1 : ¬ (k : Int) < (i : Int) := by omega
          go_upto_region 17 with fail
          have QR := HQ.out wr HR.out
          have QD := QR.2.2.2.1
          have z1 : wr.cell? ⟨p3, 1, none⟩ = some (.int .i64 (M : Int)) := cell_of QD rfl
          have z4 : wr.cell? ⟨p3, 4, none⟩ = some (.slice tN lN kN) := cell_of QD rfl
          clear QD
          by_cases hi0 : 0 < i
          · obtain ⟨zz, hzz⟩ : ∃ z, i * M = z := ⟨_, rfl⟩
            have hzl : zz ≤ lN := by rw [← hzz, ← HVD.out.2.2.2.2.1]; exact Nat.mul_le_mul_right M hi
            have hl3 : lN ≤ 38400 := HVD.out.2.2.1
            have hlk : lN ≤ kN := HLN.out.2.2.2.2
            have T11 := in_any wr tN zz kN (i : Int) ((natI K).take zz) (hide (fun j hj => by
              rw [List.length_take] at hj
              obtain ⟨g, o, e, y⟩ := QR.2.2.2.2.2.1 j (by omega)
              exact ⟨g, o, e, by rw [List.getElem_take]; exact y⟩)) (by rw [List.length_take, natI_len, HLN.out.2.2.2.1]; omega) (by omega)
            rw [decide_eq_true (by rw [← hzz]; exact HSI.out.1.seen hi0 (by rw [HLN.out.1]; exact hlt))] at T11
            have b4 : (i : Int) * (M : Int) = (zz : Int) := by rw [← Int.natCast_mul, hzz]
            have b5 : IntKind.i64.wrap (zz : Int) = (zz : Int) := by rw [IntKind.wrap_i64]; omega
            have b6 : (0 : Int) < (i : Int) := by omega
            have b7 : (zz : Int) ≤ (kN : Int) := by omega
            have b8 : zz ≤ kN := by omega
            clear hzz QR
            go_wp2_with (go_at_call 11; refine T11.mono ?_; rintro e w6 ⟨rfl, rfl⟩)
            go_roundw
            case rel => exact ⟨i + 1, by omega, by go_num, HR⟩
            case measure => simp [intOf]; omega
          · have b6 : ¬ (0 : Int) < (i : Int) := by omega
            clear QR
            go_wp2_with fail
            go_roundw
            case rel => exact ⟨i + 1, by omega, by go_num, HR⟩
            case measure => simp [intOf]; omega
    · have l0 : ¬ (i : Int) < (n : Int) := by omega
      go_upto_region 20 with fail
      have QR := HQ.out wr HR0.out
      have QA := QR.1
      have y0 : wr.cell? ⟨w.heap.size, 0, none⟩ = some (.int .i64 (N : Int)) := cell_of QA rfl
      have y1 : wr.cell? ⟨w.heap.size, 1, none⟩ = some (.int .i64 (M : Int)) := cell_of QA rfl
      have y2 : wr.cell? ⟨w.heap.size, 2, none⟩ = some (.slice a1 St.length c1) := cell_of QA rfl
      have y3 : wr.cell? ⟨w.heap.size, 3, none⟩ = some (.slice a2 Fi.length c2) := cell_of QA rfl
      have y4 : wr.cell? ⟨w.heap.size, 4, none⟩ = some (.slice a3 Ed.length c3) := cell_of QA rfl
      have z15 : wr.cell? ⟨w.heap.size, 15, none⟩ = some (.slice aW lw cW) := cell_of QA rfl
      obtain ⟨r, hr⟩ : ∃ r, aftA N M St Fi Ed Wd = r := ⟨_, rfl⟩
      obtain ⟨lf, hlf⟩ : ∃ l, r.1.length = l := ⟨_, rfl⟩
      obtain ⟨re, hre⟩ : ∃ l, r.2 = l := ⟨_, rfl⟩
      have T12 : Calls Tryz.prog 12 #[.agg #[.int .i64 (N : Int), .int .i64 (M : Int), .slice a1 St.length c1, .slice a2 Fi.length c2, .slice a3 Ed.length c3], .slice aW lw cW] wr (LAns wr r) := by
        have z := rafter_any wr N M a1 a2 a3 c1 c2 c3 St Fi Ed aW cW Wd (hide QR.2.1) (hide QR.2.2.1) HLS.out.1 HLS.out.2.1 HLS.out.2.2.1 (by rw [HLS.out.2.2.2.1]; exact HLS.out.2.2.2.2)
        rw [HLS.out.2.2.2.1, hr] at z
        exact z
      have T12 := aft_call T12 hlf hre
      have HRR := hide (And.intro hr (And.intro hlf hre))
      clear hr hlf hre QR QA
      go_upto_region 21 with (go_at_call 12; refine T12.mono ?_; rintro e w5 ⟨bf, cf, rfl, hof, d5⟩; have H5 := hide (And.intro (HR0.out.trans (d5.mono HR0.out.size)) hof); clear d5 hof T12 y0 y1 y2 y3 y4 z15)
      have QR := HQ.out w5 H5.out.1
      have QA := QR.1
      have y0 : w5.cell? ⟨w.heap.size, 0, none⟩ = some (.int .i64 (N : Int)) := cell_of QA rfl
      have y1 : w5.cell? ⟨w.heap.size, 1, none⟩ = some (.int .i64 (M : Int)) := cell_of QA rfl
      have y2 : w5.cell? ⟨w.heap.size, 2, none⟩ = some (.slice a1 St.length c1) := cell_of QA rfl
      have y3 : w5.cell? ⟨w.heap.size, 3, none⟩ = some (.slice a2 Fi.length c2) := cell_of QA rfl
      have y4 : w5.cell? ⟨w.heap.size, 4, none⟩ = some (.slice a3 Ed.length c3) := cell_of QA rfl
      have z15 : w5.cell? ⟨w.heap.size, 15, none⟩ = some (.slice aW lw cW) := cell_of QA rfl
      obtain ⟨ok, hok⟩ : ∃ b, (accA N M St Fi Ed Wd).1 = b := ⟨_, rfl⟩
      obtain ⟨e2, he2⟩ : ∃ b, (accA N M St Fi Ed Wd).2 = b := ⟨_, rfl⟩
      have T13 : Calls Tryz.prog 13 #[.agg #[.int .i64 (N : Int), .int .i64 (M : Int), .slice a1 St.length c1, .slice a2 Fi.length c2, .slice a3 Ed.length c3], .slice aW lw cW] w5 fun e w' => e = .returned (.tuple #[.bool ok, .int .i64 e2]) ∧ Below w5.heap.size w5 w' := by
        have z := raccepts_any w5 N M a1 a2 a3 c1 c2 c3 St Fi Ed aW cW Wd (hide QR.2.1) (hide QR.2.2.1) HLS.out.1 HLS.out.2.1 HLS.out.2.2.1 (by rw [HLS.out.2.2.2.1]; exact HLS.out.2.2.2.2)
        rw [HLS.out.2.2.2.1, hok, he2] at z
        exact z
      have HOK := hide hok
      clear he2 QR QA hok
      go_upto_region 22 with (go_at_call 13; refine T13.mono ?_; rintro e w6 ⟨rfl, d6⟩; have H6 := hide (And.intro (H5.out.1.trans (d6.mono H5.out.1.size)) (H5.out.2.on d6)); clear d6 T13 y0 y1 y2 y3 y4 z15)
      have HAS := hide (acc_sets (N := N) (M := M) (St := St) (Fi := Fi) (Ed := Ed) (T := T) (K := K) (Wd := Wd) HEM.out (may_all HEM.out).1 (may_all HEM.out).2.1 (may_all HEM.out).2.2 HSI.out.1 HSI.out.2.1 HND.out.2)
      have QR := HQ.out w6 H6.out.1
      have QA := QR.1
      have QD := QR.2.2.2.1
      have z0 : w6.cell? ⟨p3, 0, none⟩ = some (.int .i64 (n : Int)) := cell_of QD rfl
      have z1 : w6.cell? ⟨p3, 1, none⟩ = some (.int .i64 (M : Int)) := cell_of QD rfl
      have z2 : w6.cell? ⟨p3, 2, none⟩ = some (.int .i64 0) := cell_of QD rfl
      have z3 : w6.cell? ⟨p3, 3, none⟩ = some (.slice tF lF kF) := cell_of QD rfl
      have z4 : w6.cell? ⟨p3, 4, none⟩ = some (.slice tN lN kN) := cell_of QD rfl
      have z15 : w6.cell? ⟨w.heap.size, 15, none⟩ = some (.slice aW lw cW) := cell_of QA rfl
      have HTK : Hid (tkF (natI NW) (natI K) M 0 Wd = ok) := hide (by rw [← HOK.out, HAS.out.1, HLN.out.2.1, HFF.out])
      have T14 : Calls Tryz.prog 14 #[.agg #[.int .i64 (n : Int), .int .i64 (M : Int), .int .i64 0, .slice tF lF kF, .slice tN lN kN], .slice aW lw cW] w6 fun e w' => e = .returned (.bool ok) ∧ Below w6.heap.size w6 w' := by
        have z := takes_any w6 n M 0 tF tN aW lF kF lN kN lw cW (natI NW) (natI K) Wd QR.2.2.2.2.1 QR.2.2.2.2.2.1 QR.2.2.1 (by rw [natI_len]; exact HLN.out.2.2.1) (by rw [natI_len]; exact HLN.out.2.2.2.1) HLS.out.2.2.2.1 HVD.out.2.1 (by have := HVD.out.2.2.1; omega) HLS.out.2.2.2.2 HVD.out.1
        rw [HTK.out] at z
        exact z
      have g2 : (ok != ok) = false := by simp
      clear QR QA QD HOK
      go_cut [133] from 112 to 133 (fun v133 W => v133 = .bool false ∧ Hid (Below W3.heap.size W3 W))
      case first =>
        by_cases hz : re = 0
        · obtain ⟨s, hs1, hs2, hs3⟩ := HAS.out.2.1 (by rw [HRR.out.1, HRR.out.2.2, hz])
          rw [HRR.out.1] at hs3
          have hsn : s < n := by rw [← HLN.out.1]; exact hs2
          have b1 : (s : Int) < (n : Int) := by omega
          have HS3 := hide (And.intro hs1 (And.intro hs3 hs2))
          have g3 : (re == 0) = true := by simp [hz]
          clear hs1 hs3 hs2 hz
          go_wp2_with (first
            | (go_at_call 14; refine T14.mono ?_; rintro e w7 ⟨rfl, d7⟩; have H7 := hide (And.intro (H6.out.1.trans (d7.mono H6.out.1.size)) (H6.out.2.on d7)); clear d7 T14 z0 z1 z2 z3 z4 z15; have QR := HQ.out w7 H7.out.1; have QA := QR.1; have QD := QR.2.2.2.1; have z0 : w7.cell? ⟨p3, 0, none⟩ = some (.int .i64 (n : Int)) := cell_of QD rfl; have z1 : w7.cell? ⟨p3, 1, none⟩ = some (.int .i64 (M : Int)) := cell_of QD rfl; have z2 : w7.cell? ⟨p3, 2, none⟩ = some (.int .i64 0) := cell_of QD rfl; have z3 : w7.cell? ⟨p3, 3, none⟩ = some (.slice tF lF kF) := cell_of QD rfl; have z4 : w7.cell? ⟨p3, 4, none⟩ = some (.slice tN lN kN) := cell_of QD rfl; have z15 : w7.cell? ⟨w.heap.size, 15, none⟩ = some (.slice aW lw cW) := cell_of QA rfl; have T15 := leads_any w7 n M 0 tF tN aW lF kF lN kN lw cW (natI NW) (natI K) Wd QR.2.2.2.2.2.1 QR.2.2.1 (by rw [natI_len]; exact HLN.out.2.2.2.1) HLS.out.2.2.2.1 (by have := HVD.out.2.2.1; omega) HLS.out.2.2.2.2 HVD.out.1; rw [HS3.out.1] at T15; clear QR QA QD)
            | (go_at_call 15; refine T15.mono ?_; rintro e w8 ⟨rfl, d8⟩; have H8 := hide (And.intro (H7.out.1.trans (d8.mono H7.out.1.size)) (H7.out.2.on d8)); clear d8 T15 z0 z1 z2 z3 z4 z15; obtain ⟨bs, ls, cs, ys, T10⟩ := law_set (HQ.out w8 H8.out.1).2.2.2.2.2.2 HS3.out.2.2 HS3.out.2.1 HRR.out.2.1 H8.out.2 (el_len HEM.out _) cf)
            | (go_at_call 10; refine T10.mono ?_; rintro e w9 ⟨rfl, d9⟩; have H9 := hide (H8.out.1.trans (d9.mono H8.out.1.size)); clear d9 T10 ys))
          go_meet
          exact ⟨rfl, H9⟩
        · have g3 : (re == 0) = false := by simpa using hz
          go_wp2_with (go_at_call 14; refine T14.mono ?_; rintro e w7 ⟨rfl, d7⟩; have H9 := hide (H6.out.1.trans (d7.mono H6.out.1.size)); clear d7 T14 z0 z1 z2 z3 z4 z15)
          go_meet
          exact ⟨rfl, H9⟩
      case rest =>
        rename World => w9
        obtain ⟨rfl, H9⟩ := hcut
        go_upto_region 24 with fail
        have QR := HQ.out w9 H9.out
        have QD := QR.2.2.2.1
        have z0 : w9.cell? ⟨p3, 0, none⟩ = some (.int .i64 (n : Int)) := cell_of QD rfl
        have z1 : w9.cell? ⟨p3, 1, none⟩ = some (.int .i64 (M : Int)) := cell_of QD rfl
        have z2 : w9.cell? ⟨p3, 2, none⟩ = some (.int .i64 0) := cell_of QD rfl
        have z3 : w9.cell? ⟨p3, 3, none⟩ = some (.slice tF lF kF) := cell_of QD rfl
        have z4 : w9.cell? ⟨p3, 4, none⟩ = some (.slice tN lN kN) := cell_of QD rfl
        have T16 := auto_again w9 tF tN lF kF lN kN NW (M := M) (n := n) (K := K) QR.2.2.2.2.1 QR.2.2.2.2.2.1 HLN.out.2.2.1 HLN.out.2.2.2.1 HVD.out.2.1 (by have := HVD.out.2.2.1; omega) HVD.out.1 (HTW.out w9 H9.out).1 (HTW.out w9 H9.out).2
        clear QR QD
        go_upto_region 27 with (go_at_call 16; refine T16.mono ?_; rintro e w10 ⟨tS, kS, tG, lG, kG, tE, lE, kE, rfl, H10⟩; clear T16 z0 z1 z2 z3 z4; obtain ⟨p12, hp12⟩ : ∃ p, w10.heap.size = p := ⟨_, rfl⟩)
        obtain ⟨W11, hW11⟩ : ∃ W, w10.alloc (.cells #[.int .i64 (n : Int), .int .i64 (M : Int), .slice tS 1 kS, .slice tG lG kG, .slice tE lE kE] 25) = W := ⟨_, rfl⟩
        have B11 : W11.heap[p12]? = some (.cells #[.int .i64 (n : Int), .int .i64 (M : Int), .slice tS 1 kS, .slice tG lG kG, .slice tE lE kE] 25 (0, 0)) := by rw [← hW11, ← hp12]; exact World.alloc_heap_new _ _
        have D11 := hide (show Below w10.heap.size w10 W11 by rw [← hW11]; exact below_al _ _)
        try rw [hp12]
        try rw [hW11]
        have H11 := hide (H9.out.trans ((H10.out.2.2.2.trans (D11.out.mono H10.out.2.2.2.size)).mono H9.out.size))
        have HA11 := hide (H10.out.1.on D11.out)
        have HB11 := hide B11
        have HL11 := hide (And.intro H10.out.2.1 H10.out.2.2.1)
        have y0 : W11.cell? ⟨p12, 0, none⟩ = some (.int .i64 (n : Int)) := cell_of B11 rfl
        have y1 : W11.cell? ⟨p12, 1, none⟩ = some (.int .i64 (M : Int)) := cell_of B11 rfl
        have y2 : W11.cell? ⟨p12, 2, none⟩ = some (.slice tS 1 kS) := cell_of B11 rfl
        have y3 : W11.cell? ⟨p12, 3, none⟩ = some (.slice tG lG kG) := cell_of B11 rfl
        have y4 : W11.cell? ⟨p12, 4, none⟩ = some (.slice tE lE kE) := cell_of B11 rfl
        clear hp12 hW11 B11 D11 H10 H9
        have T17 := single_again HSI.out.1 HSI.out.2.1 HLN.out.1 hn3 hM (setI n (natI NW)) W11 tS tG tE kS lG kG lE kE HA11.out HL11.out.1 HL11.out.2
        go_upto_region 28 with (go_at_call 17; refine T17.mono ?_; rintro e w12 ⟨rfl, d12⟩; have H12 := hide (And.intro (H11.out.trans (d12.mono H11.out.size)) (And.intro (HA11.out.on d12) (blk_on HB11.out d12))); clear d12 T17 y0 y1 y2 y3 y4)
        have B12 := H12.out.2.2
        have y0 : w12.cell? ⟨p12, 0, none⟩ = some (.int .i64 (n : Int)) := cell_of B12 rfl
        have y1 : w12.cell? ⟨p12, 1, none⟩ = some (.int .i64 (M : Int)) := cell_of B12 rfl
        have y2 : w12.cell? ⟨p12, 2, none⟩ = some (.slice tS 1 kS) := cell_of B12 rfl
        have y3 : w12.cell? ⟨p12, 3, none⟩ = some (.slice tG lG kG) := cell_of B12 rfl
        have y4 : w12.cell? ⟨p12, 4, none⟩ = some (.slice tE lE kE) := cell_of B12 rfl
        clear B12 HA11 HB11
        have T8 := make_again (F := F) HSI.out.1 300 HSU.out HND.out.1 HSI.out.2.1 HLN.out.1 hn3 hM NW HLN.out.2.1 lF lN HLN.out.2.2.1 HLN.out.2.2.2.1 w12 tS tG tE kS lG kG lE kE H12.out.2.1 HL11.out.1 HL11.out.2 (HTW.out w12 H12.out.1).1 (HTW.out w12 H12.out.1).2
        go_upto_region 29 with (go_at_call 8; refine T8.mono ?_; rintro e w13 ⟨uF, jF, uN, jN, gM, rfl, H13⟩; clear T8 y0 y1 y2 y3 y4; obtain ⟨p16, hp16⟩ : ∃ p, w13.heap.size = p := ⟨_, rfl⟩)
        obtain ⟨W14, hW14⟩ : ∃ W, w13.alloc (.cells #[.int .i64 (n : Int), .int .i64 (M : Int), .int .i64 0, .slice uF lF jF, .slice uN lN jN] 27) = W := ⟨_, rfl⟩
        have B14 : W14.heap[p16]? = some (.cells #[.int .i64 (n : Int), .int .i64 (M : Int), .int .i64 0, .slice uF lF jF, .slice uN lN jN] 27 (0, 0)) := by rw [← hW14, ← hp16]; exact World.alloc_heap_new _ _
        have D14 := hide (show Below w13.heap.size w13 W14 by rw [← hW14]; exact below_al _ _)
        try rw [hp16]
        try rw [hW14]
        have H14 := hide (H12.out.1.trans ((H13.out.2.2.2.trans (D14.out.mono H13.out.2.2.2.size)).mono H12.out.1.size))
        have HR14 := hide (And.intro (H13.out.1.on D14.out) (And.intro (H13.out.2.1.on D14.out) (H13.out.2.2.1.on D14.out)))
        have QR := HQ.out W14 H14.out
        have QD := QR.2.2.2.1
        have y0 : W14.cell? ⟨p16, 0, none⟩ = some (.int .i64 (n : Int)) := cell_of B14 rfl
        have y1 : W14.cell? ⟨p16, 1, none⟩ = some (.int .i64 (M : Int)) := cell_of B14 rfl
        have y2 : W14.cell? ⟨p16, 2, none⟩ = some (.int .i64 0) := cell_of B14 rfl
        have y3 : W14.cell? ⟨p16, 3, none⟩ = some (.slice uF lF jF) := cell_of B14 rfl
        have y4 : W14.cell? ⟨p16, 4, none⟩ = some (.slice uN lN jN) := cell_of B14 rfl
        have z0 : W14.cell? ⟨p3, 0, none⟩ = some (.int .i64 (n : Int)) := cell_of QD rfl
        have z1 : W14.cell? ⟨p3, 1, none⟩ = some (.int .i64 (M : Int)) := cell_of QD rfl
        have z2 : W14.cell? ⟨p3, 2, none⟩ = some (.int .i64 0) := cell_of QD rfl
        have z3 : W14.cell? ⟨p3, 3, none⟩ = some (.slice tF lF kF) := cell_of QD rfl
        have z4 : W14.cell? ⟨p3, 4, none⟩ = some (.slice tN lN kN) := cell_of QD rfl
        have T18 := requald_yes W14 (n : Int) (M : Int) 0 uF uN tF tN lF jF lN jN kF kN (natI NW) (natI K) HR14.out.1 HR14.out.2.1 QR.2.2.2.2.1 QR.2.2.2.2.2.1 (by rw [natI_len]; exact HLN.out.2.2.1) (by rw [natI_len]; exact HLN.out.2.2.2.1) HVD.out.2.1 (by have := HVD.out.2.2.1; omega)
        clear hp16 hW14 B14 D14 H13 H12 QR QD H11 HL11
        go_upto_region 31 with (go_at_call 18; refine T18.mono ?_; rintro e w15 ⟨rfl, d15⟩; have H15 := hide (And.intro (H14.out.trans (d15.mono H14.out.size)) (HR14.out.2.2.on d15)); clear d15 T18 y0 y1 y2 y3 y4 z0 z1 z2 z3 z4; have QD := (HQ.out w15 H15.out.1).2.2.2.1; have z0 : w15.cell? ⟨p3, 0, none⟩ = some (.int .i64 (n : Int)) := cell_of QD rfl; clear QD)
        try clear z0
        go_wp2_with fail
        go_loopw [177] (fun iv wr => ∃ i : Nat, i ≤ n ∧ iv = .int .i64 (i : Int) ∧ Hid (Below W3.heap.size W3 wr ∧ RdLs wr gM ((List.range n).map fun (i : Nat) => [(i : Int)]))) (fun iv _ => n - (intOf iv).toNat)
        case atStart => exact ⟨0, Nat.zero_le _, rfl, H15⟩
        case round =>
          clear H15 hlt HR0
          obtain ⟨i, hi, rfl, HR⟩ := hrel
          by_cases hlt : i < n
          · have l0 : (i : Int) < (n : Int) := by omega
            obtain ⟨bq, cq, yq, rq⟩ := HR.out.2 i (by rw [List.length_map, List.length_range]; exact hlt)
            rw [List.getElem_map, List.getElem_range] at yq rq
            obtain ⟨g, o, eg, cq0⟩ := rq 0 (by simp)
            subst eg
            have yq : wr.cell? ⟨gM, i, none⟩ = some (.slice (some ⟨g, o, none⟩) 1 cq) := yq
            have cq0 : wr.cell? ⟨g, o, none⟩ = some (.int .i64 (i : Int)) := cq0
            have g5 : ((i : Int) != (i : Int)) = false := by simp
            clear rq
            go_wp2_with fail
            go_roundw
            case rel => exact ⟨i + 1, by omega, by go_num, HR⟩
            case measure => simp [intOf]; omega
          · have l0 : ¬ (i : Int) < (n : Int) := by omega
            go_wp2_with fail
            go_ret
            exact ⟨rfl, HW3.out.trans (HR.out.1.mono HW3.out.size)⟩
end Go.Proofs.YtgnpdhgphkocoaaGreatDoor
namespace Go.Proofs.YtgnpdhgphkocoaaGreatDoor.frame
open Go.ChangeShapes Go.WideShapes Go.ChangeAt Go.RowKit Go.Joins Go.Deep
theorem own : ownKnob Tryz.prog.godebug = none := by kernel_rfl
theorem laidOut : laidOutB Tryz.prog = true := by kernel_rfl
theorem gTab : Tryz.prog.globalNamed "math/bits.deBruijn64tab" = some 0 := by kernel_rfl
theorem gTabType : (Tryz.prog.globals[0]?).map (·.type) = some 152 := by kernel_rfl
theorem cells152 : Tryz.prog.cellsOf 152 = 64 := by kernel_rfl
theorem cells5 : Tryz.prog.cellsOf 5 = 1 := by kernel_rfl
theorem cells3 : Tryz.prog.cellsOf 3 = 1 := by kernel_rfl
theorem cells25 : Tryz.prog.cellsOf 25 = 5 := by kernel_rfl
theorem cells59 : Tryz.prog.cellsOf 62 = 3 := by kernel_rfl
theorem cellsI : Tryz.prog.cellsOf 22 = 1 := by kernel_rfl
theorem cellsEs : Tryz.prog.cellsOf 23 = 1 := by kernel_rfl
theorem table {W : World} (h : laidMetH Tryz.prog [("math/bits.deBruijn64tab", Rows.laid_math_bits_deBruijn64tab)] W) : Lib.TabIs Tryz.prog W "math/bits.deBruijn64tab" .u8 (Lib.deBruijn64tab.map fun (n : Nat) => (n : Int)) :=
  Lib.tabIs_of_head (rest := []) gTab gTabType Tryz.underlying152 Tryz.underlying5 cells5 cells152 h
theorem tabAt {W : World} (h : laidMetH Tryz.prog [("math/bits.deBruijn64tab", Rows.laid_math_bits_deBruijn64tab)] W) : TabAt W := by
  intro j hj
  have h1 : j < (Lib.deBruijn64tab.map fun (n : Nat) => (n : Int)).length := by simpa [Lib.deBruijn64tab] using hj
  have := (table h).cell gTab j h1
  rw [this]
  congr 2
  simp only [List.getD_eq_getElem?_getD, List.getElem?_map]
  cases Lib.deBruijn64tab[j]? <;> rfl
theorem heap_pos {W : World} (h : TabAt W) : 0 < W.heap.size := World.block_lt_of_cell? W ⟨0, 0, none⟩ (h 0 (by decide))
theorem bulk_pos {H : Type} (d : DataW H) : 0 < Rows.uptoBulk d := by
  cases d
  case lit l => cases l <;> simp [Rows.uptoBulk]
  all_goals simp [Rows.uptoBulk]
theorem bulk_list {H : Type} (l : List (DataW H)) : l.length ≤ Rows.uptoBulkAll l ∧ ∀ d ∈ l, Rows.uptoBulk d ≤ Rows.uptoBulkAll l := by
  induction l with
  | nil => exact ⟨Nat.zero_le _, fun s hs => by cases hs⟩
  | cons x r ih =>
    have e : Rows.uptoBulkAll (x :: r) = Rows.uptoBulk x + Rows.uptoBulkAll r := by simp [Rows.uptoBulkAll]
    have := bulk_pos x
    rw [e]
    refine ⟨by simp; omega, fun s hs => ?_⟩
    rcases List.mem_cons.1 hs with rfl | h
    · omega
    · have := ih.2 s h; omega
theorem list1 {α : Type} {l : List α} (h : l.length = 1) : ∃ c0, l = [c0] := by
  match l, h with
  | [c0], _ => exact ⟨c0, rfl⟩
theorem list3 {α : Type} {l : List α} (h : l.length = 3) : ∃ c0 c1 c2, l = [c0, c1, c2] := by
  match l, h with
  | [c0, c1, c2], _ => exact ⟨c0, c1, c2, rfl⟩
set_option maxRecDepth 100000 in
/-- A list that came in, opened. -/
theorem list_open {H : Type} {enc : TypeId × Value → H} {W : World} {n : Nat} {v : Value} {y : DataW H × List MemPlace} {T e sz : Nat} {α : Type} [Inhabited α] (At : Nat → Nat → α → Prop) (Z : α → Nat → Prop) (hZ : ∀ x a b, a ≤ b → Z x a → Z x b)
    (hT : Tryz.prog.underlying T = some (.slice e)) (hc : Tryz.prog.cellsOf e = sz)
    (item : ∀ {n' : Nat} {a : Addr} {cs : List Value} {z : DataW H × List MemPlace}, W.cells? 0 a sz = some cs → DataW.trod enc Tryz.prog W 0 (fun _ => true) true n' e cs = some z → ∃ x : α, At a.block a.off x ∧ a.spot = none ∧ Z x (Rows.uptoBulk z.1))
    (h : DataW.trod enc Tryz.prog W 0 (fun _ => true) true n T [v] = some y) :
    ∃ aL cL, ∃ L : List α, v = .slice aL L.length cL ∧ (∀ (k : Nat) (hk : k < L.length), ∃ g o, aL = some ⟨g, o, none⟩ ∧ At g (o + k * sz) L[k]) ∧ L.length ≤ Rows.uptoBulk y.1 ∧ ∀ x ∈ L, Z x (Rows.uptoBulk y.1) := by
  rcases open_slice hT h with ⟨hcs, _⟩ | ⟨a, len, cap, m, n', D, Pl, hcs, _, hl, _, hmm, hy, hx⟩
  · simp only [List.cons.injEq, and_true] at hcs
    exact ⟨none, 0, [], hcs, fun k hk => by simp at hk, by simp, fun s hs => by cases hs⟩
  · simp only [List.cons.injEq, and_true] at hcs
    simp only [if_true] at hmm
    have hsp : 0 < len → a.spot = none := by
      intro h0
      obtain ⟨cs', h1, h2⟩ := hx 0 (by omega)
      rw [hc] at h1
      obtain ⟨x, _, sp, _⟩ := item h1 h2
      simpa [Addr.add] using sp
    have each : ∀ i, i < len → ∃ x : α, At a.block (a.off + i * sz) x ∧ a.spot = none ∧ Z x (Rows.uptoBulk (D i)) := by
      intro i hi
      obtain ⟨cs', h1, h2⟩ := hx i (by omega)
      rw [hc] at h1
      obtain ⟨x, o, _, z⟩ := item h1 h2
      obtain ⟨ab, ao, spot⟩ := a
      have hs : spot = none := hsp (by omega)
      subst hs
      rw [Addr.add_lit] at o
      exact ⟨x, o, rfl, z⟩
    have hb := bulk_list (H := H) ((List.range len).map D)
    have hyb : Rows.uptoBulkAll ((List.range len).map D) ≤ Rows.uptoBulk y.1 := by rw [hy]; simp only [Rows.uptoBulk]; omega
    obtain ⟨q, hq⟩ := choose_lt each
    refine ⟨some a, cap, (List.range len).map q, by simpa using hcs, fun k hk => ?_, ?_, fun x hx2 => ?_⟩
    · have hk' : k < len := by simpa using hk
      obtain ⟨ab, ao, spot⟩ := a
      have hsp : spot = none := (hq k hk').2.1
      subst hsp
      refine ⟨ab, ao, rfl, ?_⟩
      have := (hq k hk').1
      simpa using this
    · have := hb.1
      simp at this
      simp
      omega
    · obtain ⟨i, hi, rfl⟩ := List.mem_map.1 hx2
      have hi' := List.mem_range.1 hi
      have h1 := (hq i hi').2.2
      have h2 := hb.2 (D i) (List.mem_map_of_mem hi)
      exact hZ _ _ _ (by omega) h1
theorem list5 {α : Type} {l : List α} (h : l.length = 5) : ∃ c0 c1 c2 c3 c4, l = [c0, c1, c2, c3, c4] := by
  match l, h with
  | [c0, c1, c2, c3, c4], _ => exact ⟨c0, c1, c2, c3, c4, rfl⟩
theorem num_item {H : Type} {enc : TypeId × Value → H} {W : World} {n : Nat} {a : Addr} {cs : List Value} {y : DataW H × List MemPlace} (h1 : W.cells? 0 a 1 = some cs) (h : DataW.trod enc Tryz.prog W 0 (fun _ => true) true n 3 cs = some y) :
    ∃ x : Int, W.cell? ⟨a.block, a.off, none⟩ = some (.int .i64 x) ∧ a.spot = none := by
  obtain ⟨_, hlen, hcell⟩ := World.cells?_some h1
  obtain ⟨v0, rfl⟩ := list1 hlen
  obtain ⟨k, e1, _, _⟩ := DataW.trod_int Tryz.underlying3 h
  simp only [List.cons.injEq, and_true] at e1
  subst e1
  have c0 := hcell 0 (by omega)
  obtain ⟨ab, ao, spot⟩ := a
  have hspot : spot = none := by simpa [Addr.add] using World.cell?_spot c0
  subst hspot
  rw [Addr.add_lit] at c0
  exact ⟨k, c0, rfl⟩
theorem ed_item {H : Type} {enc : TypeId × Value → H} {W : World} {n : Nat} {a : Addr} {cs : List Value} {y : DataW H × List MemPlace} (h1 : W.cells? 0 a 3 = some cs) (h : DataW.trod enc Tryz.prog W 0 (fun _ => true) true n 62 cs = some y) :
    ∃ x : EdT, (W.cell? ⟨a.block, a.off, none⟩ = some (.int .i64 x.1) ∧ W.cell? ⟨a.block, a.off + 1, none⟩ = some (.int .i64 x.2.1) ∧ W.cell? ⟨a.block, a.off + 2, none⟩ = some (.int .i64 x.2.2)) ∧ a.spot = none := by
  obtain ⟨_, hlen, hcell⟩ := World.cells?_some h1
  obtain ⟨v0, v1, v2, rfl⟩ := list3 hlen
  obtain ⟨xs, n', _, hx, hl, hlen2, hfl⟩ := DataW.trod_struct Tryz.underlying62 h
  obtain ⟨y0, y1, y2, rfl⟩ := list3 hlen2
  have g0 := hfl 0 _ rfl
  have g1 := hfl 1 _ rfl
  have g2 := hfl 2 _ rfl
  simp [cells3] at g0 g1 g2
  obtain ⟨s, e0, _, _⟩ := DataW.trod_int Tryz.underlying3 g0
  obtain ⟨t, e1, _, _⟩ := DataW.trod_int Tryz.underlying3 g1
  obtain ⟨u, e2, _, _⟩ := DataW.trod_int Tryz.underlying3 g2
  simp only [List.cons.injEq, and_true] at e0 e1 e2
  subst e0 e1 e2
  have c0 := hcell 0 (by omega)
  have c1 := hcell 1 (by omega)
  have c2 := hcell 2 (by omega)
  obtain ⟨ab, ao, spot⟩ := a
  have hspot : spot = none := by simpa [Addr.add] using World.cell?_spot c0
  subst hspot
  rw [Addr.add_lit] at c0 c1 c2
  exact ⟨(s, t, u), ⟨c0, c1, c2⟩, rfl⟩
/-- A list of ints that came in, opened. -/
theorem nums_open {H : Type} {enc : TypeId × Value → H} {W : World} {n : Nat} {v : Value} {y : DataW H × List MemPlace} (h : DataW.trod enc Tryz.prog W 0 (fun _ => true) true n 22 [v] = some y) :
    ∃ (a : Option Addr) (c : Nat) (L : List Int), v = .slice a L.length c ∧ RdN W a L ∧ L.length ≤ Rows.uptoBulk y.1 := by
  obtain ⟨a, k, L, rfl, hL, l1, _⟩ := list_open (α := Int) (fun g o x => W.cell? ⟨g, o, none⟩ = some (.int .i64 x)) (fun _ _ => True) (fun _ _ _ _ q => q) Tryz.underlying22 cells3 (fun h1 h2 => by obtain ⟨x, q, s⟩ := num_item h1 h2; exact ⟨x, q, s, trivial⟩) h
  refine ⟨a, k, L, rfl, fun k hk => ?_, l1⟩
  obtain ⟨g, o, e, q⟩ := hL k hk
  exact ⟨g, o, e, by rw [Nat.mul_one] at q; exact q⟩
/-- An automaton that came in, opened. -/
theorem auto_open {H : Type} {enc : TypeId × Value → H} {W : World} {n : Nat} {v0 v1 v2 v3 v4 : Value} {y : DataW H × List MemPlace} (h : DataW.trod enc Tryz.prog W 0 (fun _ => true) true n 25 [v0, v1, v2, v3, v4] = some y) :
    ∃ (nn mm : Int) (a1 a2 a3 : Option Addr) (c1 c2 c3 : Nat) (St Fi : List Int) (Ed : List EdT), v0 = .int .i64 nn ∧ v1 = .int .i64 mm ∧ v2 = .slice a1 St.length c1 ∧ v3 = .slice a2 Fi.length c2 ∧ v4 = .slice a3 Ed.length c3 ∧ RdA W a1 a2 a3 St Fi Ed ∧
      St.length ≤ Rows.uptoBulk y.1 ∧ Fi.length ≤ Rows.uptoBulk y.1 ∧ Ed.length ≤ Rows.uptoBulk y.1 := by
  obtain ⟨ys, n2, _, hx2, hl2, hlen2, hfl2⟩ := DataW.trod_struct Tryz.underlying25 h
  obtain ⟨z0, z1, z2, z3, z4, rfl⟩ := list5 hlen2
  have g0 := hfl2 0 _ rfl
  have g1 := hfl2 1 _ rfl
  have g2 := hfl2 2 _ rfl
  have g3 := hfl2 3 _ rfl
  have g4 := hfl2 4 _ rfl
  simp [cells3, cellsI, cellsEs] at g0 g1 g2 g3 g4
  obtain ⟨nn, e0, _, _⟩ := DataW.trod_int Tryz.underlying3 g0
  obtain ⟨mm, e1, _, _⟩ := DataW.trod_int Tryz.underlying3 g1
  simp only [List.cons.injEq, and_true] at e0 e1
  have hb0 : Rows.uptoBulk z2.1 ≤ Rows.uptoBulk y.1 ∧ Rows.uptoBulk z3.1 ≤ Rows.uptoBulk y.1 ∧ Rows.uptoBulk z4.1 ≤ Rows.uptoBulk y.1 := by
    rw [hx2]
    simp only [List.map_cons, List.map_nil, Rows.uptoBulk, Rows.uptoBulkAll]
    exact ⟨by omega, by omega, by omega⟩
  obtain ⟨a1, k1, St, e2, hSt, l1⟩ := nums_open g2
  obtain ⟨a2, k2, Fi, e3, hFi, l2⟩ := nums_open g3
  obtain ⟨a3, k3, Ed, e4, hEd, l3, _⟩ := list_open (α := EdT) (fun g o x => W.cell? ⟨g, o, none⟩ = some (.int .i64 x.1) ∧ W.cell? ⟨g, o + 1, none⟩ = some (.int .i64 x.2.1) ∧ W.cell? ⟨g, o + 2, none⟩ = some (.int .i64 x.2.2)) (fun _ _ => True) (fun _ _ _ _ q => q) Tryz.underlying23 cells59 (fun h1 h2 => by obtain ⟨x, q, s⟩ := ed_item h1 h2; exact ⟨x, q, s, trivial⟩) g4
  exact ⟨nn, mm, a1, a2, a3, k1, k2, k3, St, Fi, Ed, e0, e1, e2, e3, e4, ⟨hSt, hFi, hEd⟩, by omega, by omega, by omega⟩
theorem cells27 : Tryz.prog.cellsOf 27 = 5 := by kernel_rfl
theorem cellsAsk : Tryz.prog.cellsOf 29 = 18 := by kernel_rfl
theorem list18 {α : Type} {l : List α} (h : l.length = 18) : ∃ a b c d e f g h i j k o p q r s t u, l = [a, b, c, d, e, f, g, h, i, j, k, o, p, q, r, s, t, u] := by
  match l, h with
  | [a, b, c, d, e, f, g, h, i, j, k, o, p, q, r, s, t, u], _ => exact ⟨a, b, c, d, e, f, g, h, i, j, k, o, p, q, r, s, t, u, rfl⟩
theorem list6 {α : Type} {l : List α} (h : l.length = 6) : ∃ a b c d e f, l = [a, b, c, d, e, f] := by
  match l, h with
  | [a, b, c, d, e, f], _ => exact ⟨a, b, c, d, e, f, rfl⟩
set_option maxRecDepth 100000 in
/-- An Ask that came in, opened: its automaton and its word. -/
theorem ask_auto {H : Type} {enc : TypeId × Value → H} {W : World} {base : Nat} {v : Value} {d : DataW H} {p : List MemPlace} (hv : Value.okWide Tryz.prog W .any base 29 v) (h : DataW.Trod enc Tryz.prog W 0 (fun _ => true) true 29 v d p) (hk : Rows.uptoBulk d ≤ 1048576) :
    ∃ (n m : Int) (a1 a2 a3 aW : Option Addr) (c1 c2 c3 cW : Nat) (St Fi Wd : List Int) (Ed : List EdT) (x5 x6 x7 x8 x9 x10 x11 x12 x13 x14 x16 x17 : Value), v = .agg #[.int .i64 n, .int .i64 m, .slice a1 St.length c1, .slice a2 Fi.length c2, .slice a3 Ed.length c3, x5, x6, x7, x8, x9, x10, x11, x12, x13, x14, .slice aW Wd.length cW, x16, x17] ∧ RdA W a1 a2 a3 St Fi Ed ∧ RdN W aW Wd ∧ St.length ≤ 1048576 ∧ Fi.length ≤ 1048576 ∧ Ed.length ≤ 1048576 ∧ Wd.length ≤ 1048576 := by
  obtain ⟨cs, rfl, hsz⟩ := okWide_struct Tryz.underlying29 hv
  obtain ⟨l⟩ := cs
  have hl18 : l.length = 18 := hsz.trans cellsAsk
  obtain ⟨x0, x1, x2, x3, x4, x5, x6, x7, x8, x9, x10, x11, x12, x13, x14, x15, x16, x17, rfl⟩ := list18 hl18
  obtain ⟨fuel, hf⟩ := h
  obtain ⟨xs, n, _, hx, hl, hlen, hfl⟩ := DataW.trod_struct Tryz.underlying29 hf
  obtain ⟨y0, y1, y2, y3, y4, y5, rfl⟩ := list6 hlen
  have h0 := hfl 0 _ rfl
  have h3 := hfl 3 _ rfl
  simp [Value.cells, cellsI, cells25] at h0 h3
  simp only [Prod.mk.injEq] at hx
  rw [hx.1] at hk
  simp only [List.map_cons, List.map_nil, Rows.uptoBulk, Rows.uptoBulkAll] at hk
  obtain ⟨n, m, a1, a2, a3, k1, k2, k3, St, Fi, Ed, rfl, rfl, rfl, rfl, rfl, rA, e1, e2, e3⟩ := auto_open h0
  obtain ⟨aW, cW, Wd, rfl, rW, l5⟩ := nums_open h3
  exact ⟨n, m, a1, a2, a3, aW, k1, k2, k3, cW, St, Fi, Wd, Ed, x5, x6, x7, x8, x9, x10, x11, x12, x13, x14, x16, x17, rfl, rA, rW, by omega, by omega, by omega, by omega⟩
end Go.Proofs.YtgnpdhgphkocoaaGreatDoor.frame
namespace Go.Proofs.YtgnpdhgphkocoaaGreatDoor
open Go.RowKit
/-- SubsetMeans, whatever came in. -/
theorem smeans_any (w : World) (n m : Int) (a1 a2 a3 aW : Option Addr) (c1 c2 c3 cW : Nat) (St Fi Wd : List Int) (Ed : List EdT) (x5 x6 x7 x8 x9 x10 x11 x12 x13 x14 x16 x17 : Value) (hA : RdA w a1 a2 a3 St Fi Ed) (hW : RdN w aW Wd) (h1 : St.length ≤ 1048576) (h2 : Fi.length ≤ 1048576) (h3 : Ed.length ≤ 1048576) (hw : Wd.length ≤ 1048576) (hT : TabAt w) (h0 : 0 < w.heap.size) :
    Calls Tryz.prog 3 #[.agg #[.int .i64 n, .int .i64 m, .slice a1 St.length c1, .slice a2 Fi.length c2, .slice a3 Ed.length c3, x5, x6, x7, x8, x9, x10, x11, x12, x13, x14, .slice aW Wd.length cW, x16, x17]] w fun e w' => e = .returned (.bool true) ∧ Below w.heap.size w w' := by
  cases em : mayA n m St Fi Ed with
  | false => exact law_bad w n m a1 a2 a3 c1 c2 c3 St Fi Ed _ _ _ _ _ _ _ _ _ _ _ _ aW Wd.length cW 2 (by decide) (fun W d => make_bad W n m 300 a1 a2 a3 c1 c2 c3 St Fi Ed (hide (hA.on d)) (by omega) (by omega) (by omega) em) hT h0
  | true =>
    obtain ⟨N, rfl⟩ : ∃ N : Nat, n = N := by
      have z := em
      unfold mayA at z
      simp only [Bool.and_eq_true] at z
      exact Int.eq_ofNat_of_zero_le (inB_iff.1 z.1.1.1.1.1).1
    obtain ⟨M, rfl⟩ : ∃ M : Nat, m = M := by
      have z := em
      unfold mayA at z
      simp only [Bool.and_eq_true] at z
      exact Int.eq_ofNat_of_zero_le (inB_iff.1 z.1.1.1.1.2).1
    obtain ⟨⟨er, T, K⟩, hr⟩ : ∃ r, suF (folF N (riseE Ed)) M 300 600000 [setI N (riseL St)] [] = r := ⟨_, rfl⟩
    by_cases he : er = 0
    · subst he
      exact law_ok w N M a1 a2 a3 aW c1 c2 c3 Wd.length cW St Fi Ed Wd _ _ _ _ _ _ _ _ _ _ _ _ (hide hA) hW (by omega) (by omega) (by omega) rfl (by omega) em T K hr hT h0
    · refine law_bad w N M a1 a2 a3 c1 c2 c3 St Fi Ed _ _ _ _ _ _ _ _ _ _ _ _ aW Wd.length cW er he (fun W d => ?_) hT h0
      have z := make_ok W N M 300 a1 a2 a3 c1 c2 c3 St Fi Ed (hide (hA.on d)) (by omega) (by omega) (by omega) em (hT.below d h0) (Nat.lt_of_lt_of_le h0 d.size)
      rw [hr] at z
      refine z.mono ?_
      rintro e w' ⟨d2, ⟨_, rfl⟩ | ⟨hb, _⟩⟩
      · exact ⟨rfl, d2⟩
      · exact absurd hb he
end Go.Proofs.YtgnpdhgphkocoaaGreatDoor
