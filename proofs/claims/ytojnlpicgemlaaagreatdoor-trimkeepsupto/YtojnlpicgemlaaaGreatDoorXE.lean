import Derived.Test.YtojnlpicgemlaaaGreatDoorXC
import Derived.Test.YtojnlpicgemlaaaGreatDoorTx
namespace Go.Proofs.YtojnlpicgemlaaaGreatDoor
open Go.RowKit Go.Maps Go.Shelf
attribute [local go_sem] Oper.semAt_some

/-! ### TrimKeeps of what is no automaton -/
set_option maxRecDepth 100000 in
set_option maxHeartbeats 4000000 in
theorem tkeeps_bad (w : World) (n mv : Int) (a1 a2 a3 aw : Option Addr) (c1 c2 c3 lw cw : Nat) (St Fi : List Int) (Ed : List EdT) (hA : Hid (RdA w a1 a2 a3 St Fi Ed)) (h1 : St.length ≤ 4194304) (h2 : Fi.length ≤ 4194304) (h3 : Ed.length ≤ 4194304) (hT : Hid (TabAt w)) (h0 : 0 < w.heap.size) (hm : mayA n mv St Fi Ed = false) :
    Calls Tryz.prog 4 #[.agg #[.int .i64 n, .int .i64 mv, .slice a1 St.length c1, .slice a2 Fi.length c2, .slice a3 Ed.length c3, .slice aw lw cw]] w fun e w' => e = .returned (.bool true) ∧ Below w.heap.size w w' := by
  obtain ⟨n1, e1⟩ : ∃ n, St.length = n := ⟨_, rfl⟩
  obtain ⟨n2, e2⟩ : ∃ n, Fi.length = n := ⟨_, rfl⟩
  obtain ⟨n3, e3⟩ : ∃ n, Ed.length = n := ⟨_, rfl⟩
  rw [e1, e2, e3]
  have HE := hide (And.intro e1 (And.intro e2 e3))
  have HL := hide (And.intro h1 (And.intro h2 h3))
  have HM := hide hm
  obtain ⟨k1, hk1⟩ : ∃ k, n1 + 64 = k := ⟨_, rfl⟩
  obtain ⟨k2, hk2⟩ : ∃ k, n2 + 64 = k := ⟨_, rfl⟩
  obtain ⟨k3, hk3⟩ : ∃ k, n3 + 64 = k := ⟨_, rfl⟩
  obtain ⟨W0, hW0⟩ : ∃ W0, w.alloc (.cells #[.int .i64 n, .int .i64 mv, .slice a1 n1 c1, .slice a2 n2 c2, .slice a3 n3 c3, .slice aw lw cw] 31) = W0 := ⟨_, rfl⟩
  have HB : Hid (Below w.heap.size w W0 ∧ W0.heap[w.heap.size]? = some (.cells #[.int .i64 n, .int .i64 mv, .slice a1 n1 c1, .slice a2 n2 c2, .slice a3 n3 c3, .slice aw lw cw] 31 (0, 0)) ∧ W0.heap.size = w.heap.size + 1) := hide (by rw [← hW0]; exact ⟨(Below.refl _ _).alloc (Nat.le_refl _) _, World.alloc_heap_new _ _, by simp⟩)
  have TW := twinA_any W0 n mv St Fi Ed a1 a2 a3 c1 c2 c3 (hide ⟨hA.out.s.on HB.out.1, hA.out.f.on HB.out.1, hA.out.e.on HB.out.1⟩) h1 h2 h3
  rw [e1, e2, e3, hk1, hk2, hk3] at TW
  have F0 := HB.out.2.1
  have q0 : W0.cell? ⟨w.heap.size, 0, none⟩ = some (.int .i64 n) := cell_of F0 rfl
  have q1 : W0.cell? ⟨w.heap.size, 1, none⟩ = some (.int .i64 mv) := cell_of F0 rfl
  have q2 : W0.cell? ⟨w.heap.size, 2, none⟩ = some (.slice a1 n1 c1) := cell_of F0 rfl
  have q3 : W0.cell? ⟨w.heap.size, 3, none⟩ = some (.slice a2 n2 c2) := cell_of F0 rfl
  have q4 : W0.cell? ⟨w.heap.size, 4, none⟩ = some (.slice a3 n3 c3) := cell_of F0 rfl
  have q5 : W0.cell? ⟨w.heap.size, 5, none⟩ = some (.slice aw lw cw) := cell_of F0 rfl
  clear F0 e1 e2 e3 hk1 hk2 hk3 h1 h2 h3 hm
  go_enter Tryz.func4, Tryz.ntmps4
  go_wp2_with fail
  refine TW.mono ?_
  rintro e w1 ⟨b1, b2, b3, rfl, hTw, hbb, d1⟩
  have T1 := trim_bad w1 n mv (some ⟨b1, 0, none⟩) (some ⟨b2, 0, none⟩) (some ⟨b3, 0, none⟩) k1 k2 k3 St Fi Ed (hide ⟨padN_reads hTw.s, padN_reads hTw.f, edPad_reads hTw.e⟩) HL.out.1 HL.out.2.1 HL.out.2.2 HM.out
  rw [HE.out.1, HE.out.2.1, HE.out.2.2] at T1
  have H1 : Hid (w1.heap[w.heap.size]? = some (.cells #[.int .i64 n, .int .i64 mv, .slice a1 n1 c1, .slice a2 n2 c2, .slice a3 n3 c3, .slice aw lw cw] 31 (0, 0)) ∧ Below w.heap.size w w1) := hide ⟨blk_on HB.out.2.1 d1, HB.out.1.trans (d1.mono HB.out.1.size)⟩
  clear TW hTw hbb d1 hW0 HB q0 q1 q2 q3 q4 q5
  go_wp2_with fail
  refine T1.mono ?_
  rintro e w2 ⟨rfl, d2⟩
  go_upto_region 2 with fail
  obtain ⟨bx, hbx⟩ : ∃ k, w2.heap.size = k := ⟨_, rfl⟩
  rw [hbx]
  obtain ⟨w3, hw3⟩ : ∃ W, w2.alloc (.cells #[.int .i64 0, .int .i64 0, .slice none 0 0, .slice none 0 0, .slice none 0 0] 25) = W := ⟨_, rfl⟩
  rw [hw3]
  have H3 : Hid (w3.heap[w.heap.size]? = some (.cells #[.int .i64 n, .int .i64 mv, .slice a1 n1 c1, .slice a2 n2 c2, .slice a3 n3 c3, .slice aw lw cw] 31 (0, 0)) ∧ Below w.heap.size w w3) := hide (by
    have d : Below w2.heap.size w2 w3 := by rw [← hw3]; exact (Below.refl _ _).alloc (Nat.le_refl _) _
    exact ⟨blk_on (blk_on H1.out.1 d2) d, (H1.out.2.trans (d2.mono H1.out.2.size)).trans (d.mono (Nat.le_trans H1.out.2.size d2.size))⟩)
  have T2 := rmay_any w3 n mv St Fi Ed a1 a2 a3 c1 c2 c3 (hide ⟨hA.out.s.on H3.out.2, hA.out.f.on H3.out.2, hA.out.e.on H3.out.2⟩) HL.out.1 HL.out.2.1 HL.out.2.2
  rw [HE.out.1, HE.out.2.1, HE.out.2.2, mayF_is, HM.out] at T2
  have F0 := H3.out.1
  have q0 : w3.cell? ⟨w.heap.size, 0, none⟩ = some (.int .i64 n) := cell_of F0 rfl
  have q1 : w3.cell? ⟨w.heap.size, 1, none⟩ = some (.int .i64 mv) := cell_of F0 rfl
  have q2 : w3.cell? ⟨w.heap.size, 2, none⟩ = some (.slice a1 n1 c1) := cell_of F0 rfl
  have q3 : w3.cell? ⟨w.heap.size, 3, none⟩ = some (.slice a2 n2 c2) := cell_of F0 rfl
  have q4 : w3.cell? ⟨w.heap.size, 4, none⟩ = some (.slice a3 n3 c3) := cell_of F0 rfl
  have q5 : w3.cell? ⟨w.heap.size, 5, none⟩ = some (.slice aw lw cw) := cell_of F0 rfl
  clear F0 T1 d2 H1 hw3 hbx
  go_wp2_with fail
  refine T2.mono ?_
  rintro e w4 ⟨rfl, d4⟩
  have H4 := hide (H3.out.2.trans (d4.mono H3.out.2.size))
  have T3 := known_any w4 (hide (hT.out.below H4.out h0)) (Nat.lt_of_lt_of_le h0 H4.out.size)
  clear d4 T2 H3 q0 q1 q2 q3 q4 q5
  go_wp2_with fail
  refine T3.mono ?_
  rintro e w5 ⟨rfl, d5⟩
  have H5 := hide (H4.out.trans (d5.mono H4.out.size))
  clear d5 T3
  go_wp2_with fail
  go_ret
  exact ⟨rfl, H5.out⟩
end Go.Proofs.YtojnlpicgemlaaaGreatDoor
namespace Go.Proofs.YtojnlpicgemlaaaGreatDoor
open Go.RowKit Go.Maps Go.Shelf

/-! ### What is asked of Trim's answer -/
structure TkF (N K : Nat) (mv : Int) (St Fi : List Int) (Ed : List EdT) (S F : List Int) (E : List EdT) (O : List Int) : Prop where
  may : mayA (K : Int) mv S F E = true
  l1 : S.length ≤ 4194304
  l2 : F.length ≤ 4194304
  l3 : E.length ≤ 4194304
  kN : K ≤ 4096
  ol : O.length = K
  rs : riseL S = S
  rf : riseL F = F
  re : riseE E = E
  bs : ∀ z ∈ S, 0 ≤ z ∧ z < (K : Int)
  bf : ∀ z ∈ F, 0 ≤ z ∧ z < (K : Int)
  keep : ∀ Wd, bothM K (wordM E (inL S) Wd) (inL F) = bothM N (wordM Ed (inL St) Wd) (inL Fi)
  full : ∀ b, (rchL b (K : Int) mv S F E).length = K
  oin : ∀ x ∈ O, 0 ≤ x ∧ x < (N : Int)
  oup : O.Pairwise (· < ·)
  again : ∀ (W : World) (t1 t2 t3 : Option Addr) (k1 k2 k3 : Nat), RdA W t1 t2 t3 S F E → TabAt W → 0 < W.heap.size → Calls Tryz.prog 12 #[.agg #[.int .i64 (K : Int), .int .i64 mv, .slice t1 S.length k1, .slice t2 F.length k2, .slice t3 E.length k3]] W fun e w' => AnsT w' (K : Int) mv S F E (natL (List.range K)) 0 e ∧ Below W.heap.size W w'
theorem tkF_of {N : Nat} {U : Nat → Bool} {mv : Int} {St Fi : List Int} {Ed : List EdT} (h : TrU N U St Fi Ed) (hm : mayA (N : Int) mv St Fi Ed = true) (h1 : St.length ≤ 4194304) (h2 : Fi.length ≤ 4194304) (h3 : Ed.length ≤ 4194304) : TkF N (uL U N).length mv St Fi Ed (dL U (riseL St)) (dL U (riseL Fi)) (dE U (riseE Ed)) (natL (uL U N)) := by
  have b1 : (dL U (riseL St)).length ≤ 4194304 := by
    unfold dL
    rw [List.length_map]
    exact Nat.le_trans (List.length_filter_le _ _) (Nat.le_trans (riseL_len St) h1)
  have b2 : (dL U (riseL Fi)).length ≤ 4194304 := by
    unfold dL
    rw [List.length_map]
    exact Nat.le_trans (List.length_filter_le _ _) (Nat.le_trans (riseL_len Fi) h2)
  have b3 : (dE U (riseE Ed)).length ≤ 4194304 := Nat.le_trans (dE_len _ _) (Nat.le_trans (riseE_len Ed) h3)
  have hl : (uL U N).length ≤ N := by
    unfold uL
    exact Nat.le_trans (List.length_filter_le _ _) (Nat.le_of_eq List.length_range)
  have hN : N ≤ 4096 := by have := (may_parts hm).1; omega
  exact ⟨h.may hm, b1, b2, b3, by omega, natL_len _, h.rs, h.rf, h.re,
    fun z hz => by obtain ⟨q, hq, rfl⟩ := h.ins h.st z hz; omega,
    fun z hz => by obtain ⟨q, hq, rfl⟩ := h.ins h.fi z hz; omega,
    fun Wd => h.keeps Wd, fun b => h.full b hm, fun x hx => old_in hx, old_up U N,
    fun W t1 t2 t3 k1 k2 k3 hA hT h0 => trim_again W N U mv t1 t2 t3 k1 k2 k3 St Fi Ed h hA b1 b2 b3 hT h0 hm⟩
theorem trim_k (w : World) (N : Nat) (mv : Int) (a1 a2 a3 : Option Addr) (c1 c2 c3 : Nat) (St Fi : List Int) (Ed : List EdT) (hA : RdA w a1 a2 a3 St Fi Ed) (h1 : St.length ≤ 4194304) (h2 : Fi.length ≤ 4194304) (h3 : Ed.length ≤ 4194304) (hT : TabAt w) (h0 : 0 < w.heap.size) (hm : mayA (N : Int) mv St Fi Ed = true) :
    Calls Tryz.prog 12 #[.agg #[.int .i64 (N : Int), .int .i64 mv, .slice a1 St.length c1, .slice a2 Fi.length c2, .slice a3 Ed.length c3]] w fun e w' => ∃ K S F E O, Hid (TkF N K mv St Fi Ed S F E O) ∧ AnsT w' (K : Int) mv S F E O 0 e ∧ Below w.heap.size w w' := by
  refine (trim_t w N mv a1 a2 a3 c1 c2 c3 St Fi Ed hA h1 h2 h3 hT h0 hm).mono ?_
  rintro e w' ⟨U, hU, hT', d⟩
  exact ⟨_, _, _, _, _, hide (tkF_of hU.out hm h1 h2 h3), hT', d⟩
/-- The words of Words and the given one: each can be read. -/
def WdR (W : World) (x : Value) : Prop := ∃ a c, ∃ L : List Int, x = .slice a L.length c ∧ RdN W a L ∧ L.length ≤ 4194304
theorem wl_last {w w7 w8 w10 : World} {v : Value} {n cw : Nat} {vals : List Value} {aw : Option Addr} {Wd : List Int} (hV : vals.length = n ∧ w8.ownsRow w7.heap.size 22 1 v n vals ∧ ∀ x ∈ vals, WdV w8 n x) (h8 : Below w7.heap.size w7 w8) (h7 : Below w.heap.size w w7) (hd : RdN w aw Wd) (hl : Wd.length ≤ 4194304) (hn : n ≤ 60)
    (hg : (w8.alloc (.cells #[.slice aw Wd.length cw] 22)).grownBy w10 v.ownBlock) : (∀ x ∈ vals ++ [.slice aw Wd.length cw], WdR w10 x) ∧ Below w7.heap.size w7 w10 := by
  have o9 : Only w8 w10 (fun x => v.ownBlock = some x) := ⟨hg.os, hg.tape, hg.output, by have := hg.size; rw [World.size_alloc] at this; omega, fun x hx hn => (hg.block x (by rw [World.size_alloc]; omega) (fun e => hn e.symm)).trans (Below.heap_alloc _ _ _ hx)⟩
  have hR : ∀ g cs fr, w8.heap[g]? = some (.cells cs 3 fr) → ¬ v.ownBlock = some g := fun g cs fr hg hx => by
    rcases hV.2.1.2 with ⟨hv, _⟩ | ⟨g', cap', cur', hv, _, hgc, _⟩
    · subst hv
      cases hx
    · subst hv
      cases hx
      rw [hgc] at hg
      cases hg
  have d10 : Below w7.heap.size w7 w10 := h8.trans (o9.toBelow h8.size (fun x hx => (hV.2.1.lt x hx).1))
  refine ⟨fun x hx => ?_, d10⟩
  rcases List.mem_append.1 hx with hx | hx
  · obtain ⟨a, c, L, e, hr, _, hl⟩ := (hV.2.2 x hx).on o9 hR (Nat.le_refl _)
    exact ⟨a, c, L, e, hr, by omega⟩
  · rw [List.mem_singleton] at hx
    exact ⟨aw, cw, Wd, hx, hd.on (h7.trans (d10.mono h7.size)), hl⟩
end Go.Proofs.YtojnlpicgemlaaaGreatDoor
namespace Go.Proofs.YtojnlpicgemlaaaGreatDoor
open Go.RowKit Go.Maps Go.Shelf
attribute [local go_sem] Oper.semAt_some

/-! ### TrimKeeps of an automaton -/
theorem own_rdN {B : Nat} {W : World} {a : Option Addr} {c : Nat} {L : List Int} (h : W.ownsRow B 3 1 (.slice a L.length c) L.length (L.map (Value.int .i64))) : RdN W a L := by
  obtain ⟨a', c', e', r'⟩ := la_own (L := L) h
  cases e'
  exact r'
set_option maxRecDepth 100000 in
set_option maxHeartbeats 8000000 in
theorem tkeeps_ok (w : World) (N : Nat) (mv : Int) (a1 a2 a3 aw : Option Addr) (c1 c2 c3 cw : Nat) (St Fi Wd : List Int) (Ed : List EdT) (hA : Hid (RdA w a1 a2 a3 St Fi Ed)) (hWd : Hid (RdN w aw Wd)) (h1 : St.length ≤ 4194304) (h2 : Fi.length ≤ 4194304) (h3 : Ed.length ≤ 4194304) (h4 : Wd.length ≤ 4194304) (hT : Hid (TabAt w)) (h0 : 0 < w.heap.size) (hm : mayA (N : Int) mv St Fi Ed = true) :
    Calls Tryz.prog 4 #[.agg #[.int .i64 (N : Int), .int .i64 mv, .slice a1 St.length c1, .slice a2 Fi.length c2, .slice a3 Ed.length c3, .slice aw Wd.length cw]] w fun e w' => e = .returned (.bool true) ∧ Below w.heap.size w w' := by
  obtain ⟨n1, e1⟩ : ∃ n, St.length = n := ⟨_, rfl⟩
  obtain ⟨n2, e2⟩ : ∃ n, Fi.length = n := ⟨_, rfl⟩
  obtain ⟨n3, e3⟩ : ∃ n, Ed.length = n := ⟨_, rfl⟩
  obtain ⟨nw, ew⟩ : ∃ n, Wd.length = n := ⟨_, rfl⟩
  rw [e1, e2, e3, ew]
  have HE := hide (And.intro e1 (And.intro e2 (And.intro e3 ew)))
  have HL := hide (And.intro h1 (And.intro h2 (And.intro h3 h4)))
  have HM := hide hm
  have hNw : N ≤ 4096 := by have := (may_parts hm).1; omega
  obtain ⟨kk1, hk1⟩ : ∃ k, n1 + 64 = k := ⟨_, rfl⟩
  obtain ⟨kk2, hk2⟩ : ∃ k, n2 + 64 = k := ⟨_, rfl⟩
  obtain ⟨kk3, hk3⟩ : ∃ k, n3 + 64 = k := ⟨_, rfl⟩
  obtain ⟨W0, hW0⟩ : ∃ W0, w.alloc (.cells #[.int .i64 (N : Int), .int .i64 mv, .slice a1 n1 c1, .slice a2 n2 c2, .slice a3 n3 c3, .slice aw nw cw] 31) = W0 := ⟨_, rfl⟩
  have HB : Hid (Below w.heap.size w W0 ∧ W0.heap[w.heap.size]? = some (.cells #[.int .i64 (N : Int), .int .i64 mv, .slice a1 n1 c1, .slice a2 n2 c2, .slice a3 n3 c3, .slice aw nw cw] 31 (0, 0)) ∧ W0.heap.size = w.heap.size + 1) := hide (by rw [← hW0]; exact ⟨(Below.refl _ _).alloc (Nat.le_refl _) _, World.alloc_heap_new _ _, by simp⟩)
  have TW := twinA_any W0 (N : Int) mv St Fi Ed a1 a2 a3 c1 c2 c3 (hide ⟨hA.out.s.on HB.out.1, hA.out.f.on HB.out.1, hA.out.e.on HB.out.1⟩) h1 h2 h3
  rw [e1, e2, e3, hk1, hk2, hk3] at TW
  have q0 : W0.cell? ⟨w.heap.size, 0, none⟩ = some (.int .i64 (N : Int)) := cell_of HB.out.2.1 rfl
  have q1 : W0.cell? ⟨w.heap.size, 1, none⟩ = some (.int .i64 mv) := cell_of HB.out.2.1 rfl
  have q2 : W0.cell? ⟨w.heap.size, 2, none⟩ = some (.slice a1 n1 c1) := cell_of HB.out.2.1 rfl
  have q3 : W0.cell? ⟨w.heap.size, 3, none⟩ = some (.slice a2 n2 c2) := cell_of HB.out.2.1 rfl
  have q4 : W0.cell? ⟨w.heap.size, 4, none⟩ = some (.slice a3 n3 c3) := cell_of HB.out.2.1 rfl
  have q5 : W0.cell? ⟨w.heap.size, 5, none⟩ = some (.slice aw nw cw) := cell_of HB.out.2.1 rfl
  clear e1 e2 e3 ew hk1 hk2 hk3 h1 h2 h3 h4 hm
  go_enter Tryz.func4, Tryz.ntmps4
  go_wp2_with fail
  refine TW.mono ?_
  rintro e w1 ⟨b1, b2, b3, rfl, hTw, hbb, d1⟩
  have H1 : Hid (w1.heap[w.heap.size]? = some (.cells #[.int .i64 (N : Int), .int .i64 mv, .slice a1 n1 c1, .slice a2 n2 c2, .slice a3 n3 c3, .slice aw nw cw] 31 (0, 0)) ∧ Below w.heap.size w w1) := hide ⟨blk_on HB.out.2.1 d1, HB.out.1.trans (d1.mono HB.out.1.size)⟩
  have T1 := trim_k w1 N mv (some ⟨b1, 0, none⟩) (some ⟨b2, 0, none⟩) (some ⟨b3, 0, none⟩) kk1 kk2 kk3 St Fi Ed ⟨padN_reads hTw.s, padN_reads hTw.f, edPad_reads hTw.e⟩ HL.out.1 HL.out.2.1 HL.out.2.2.1 (hT.out.below H1.out.2 h0) (Nat.lt_of_lt_of_le h0 H1.out.2.size) HM.out
  rw [HE.out.1, HE.out.2.1, HE.out.2.2.1] at T1
  clear TW hTw hbb d1 hW0 HB q0 q1 q2 q3 q4 q5
  go_wp2_with fail
  refine T1.mono ?_
  rintro e w2 ⟨K, S, F, E, O, HF, ⟨t1, t2, t3, ao, k1, k2, k3, ko, rfl, RA, RO⟩, d2⟩
  go_upto_region 2 with fail
  obtain ⟨bx, hbx⟩ : ∃ k, w2.heap.size = k := ⟨_, rfl⟩
  obtain ⟨m1, x1⟩ : ∃ n, S.length = n := ⟨_, rfl⟩
  obtain ⟨m2, x2⟩ : ∃ n, F.length = n := ⟨_, rfl⟩
  obtain ⟨m3, x3⟩ : ∃ n, E.length = n := ⟨_, rfl⟩
  rw [x1, x2, x3, HF.out.ol, hbx]
  obtain ⟨w3, hw3⟩ : ∃ W, w2.alloc (.cells #[.int .i64 (K : Int), .int .i64 mv, .slice t1 m1 k1, .slice t2 m2 k2, .slice t3 m3 k3] 25) = W := ⟨_, rfl⟩
  rw [hw3]
  have HX := hide (And.intro x1 (And.intro x2 x3))
  have H3 : Hid (w3.heap[w.heap.size]? = some (.cells #[.int .i64 (N : Int), .int .i64 mv, .slice a1 n1 c1, .slice a2 n2 c2, .slice a3 n3 c3, .slice aw nw cw] 31 (0, 0)) ∧ w3.heap[bx]? = some (.cells #[.int .i64 (K : Int), .int .i64 mv, .slice t1 m1 k1, .slice t2 m2 k2, .slice t3 m3 k3] 25 (0, 0)) ∧ RdA w3 t1 t2 t3 S F E ∧ RdN w3 ao O ∧ Below w.heap.size w w3) := hide (by
    have d : Below w2.heap.size w2 w3 := by rw [← hw3]; exact (Below.refl _ _).alloc (Nat.le_refl _) _
    exact ⟨blk_on (blk_on H1.out.1 d2) d, by rw [← hw3, ← hbx]; exact World.alloc_heap_new _ _, ⟨RA.s.on d, RA.f.on d, RA.e.on d⟩, RO.on d, (H1.out.2.trans (d2.mono H1.out.2.size)).trans (d.mono (Nat.le_trans H1.out.2.size d2.size))⟩)
  clear T1 d2 H1 hw3 hbx RA RO x1 x2 x3
  go_upto_region 4 with fail
  have SKK : Hid (∀ W, Below w3.heap.size w3 W → (fun W => (W.cell? ⟨w.heap.size, 0, none⟩ = some (.int .i64 (N : Int)) ∧ W.cell? ⟨w.heap.size, 1, none⟩ = some (.int .i64 mv) ∧ W.cell? ⟨w.heap.size, 2, none⟩ = some (.slice a1 n1 c1) ∧ W.cell? ⟨w.heap.size, 3, none⟩ = some (.slice a2 n2 c2) ∧ W.cell? ⟨w.heap.size, 4, none⟩ = some (.slice a3 n3 c3) ∧ W.cell? ⟨w.heap.size, 5, none⟩ = some (.slice aw nw cw)) ∧ (W.cell? ⟨bx, 0, none⟩ = some (.int .i64 (K : Int)) ∧ W.cell? ⟨bx, 1, none⟩ = some (.int .i64 mv) ∧ W.cell? ⟨bx, 2, none⟩ = some (.slice t1 m1 k1) ∧ W.cell? ⟨bx, 3, none⟩ = some (.slice t2 m2 k2) ∧ W.cell? ⟨bx, 4, none⟩ = some (.slice t3 m3 k3)) ∧ Hid (Below w3.heap.size w3 W)) W) := hide (fun W d => by
    have e0 := blk_on H3.out.1 d
    have e1 := blk_on H3.out.2.1 d
    exact ⟨⟨cell_of e0 rfl, cell_of e0 rfl, cell_of e0 rfl, cell_of e0 rfl, cell_of e0 rfl, cell_of e0 rfl⟩, ⟨cell_of e1 rfl, cell_of e1 rfl, cell_of e1 rfl, cell_of e1 rfl, cell_of e1 rfl⟩, hide d⟩)
  have TMA : Hid (∀ W, Below w3.heap.size w3 W → Calls Tryz.prog 13 #[.agg #[.int .i64 (N : Int), .int .i64 mv, .slice a1 n1 c1, .slice a2 n2 c2, .slice a3 n3 c3]] W fun e w' => e = .returned (.bool true) ∧ Below w3.heap.size w3 w') := hide (fun W d => by
    have dw := H3.out.2.2.2.2.trans (d.mono H3.out.2.2.2.2.size)
    have t := rmay_any W (N : Int) mv St Fi Ed a1 a2 a3 c1 c2 c3 (hide ⟨hA.out.s.on dw, hA.out.f.on dw, hA.out.e.on dw⟩) HL.out.1 HL.out.2.1 HL.out.2.2.1
    rw [HE.out.1, HE.out.2.1, HE.out.2.2.1, mayF_is, HM.out] at t
    exact t.mono fun e w' ⟨he, dd⟩ => ⟨he, d.trans (dd.mono d.size)⟩)
  have TMT : Hid (∀ W, Below w3.heap.size w3 W → Calls Tryz.prog 13 #[.agg #[.int .i64 (K : Int), .int .i64 mv, .slice t1 m1 k1, .slice t2 m2 k2, .slice t3 m3 k3]] W fun e w' => e = .returned (.bool true) ∧ Below w3.heap.size w3 w') := hide (fun W d => by
    have t := rmay_any W (K : Int) mv S F E t1 t2 t3 k1 k2 k3 (hide ⟨H3.out.2.2.1.s.on d, H3.out.2.2.1.f.on d, H3.out.2.2.1.e.on d⟩) HF.out.l1 HF.out.l2 HF.out.l3
    rw [HX.out.1, HX.out.2.1, HX.out.2.2, mayF_is, HF.out.may] at t
    exact t.mono fun e w' ⟨he, dd⟩ => ⟨he, d.trans (dd.mono d.size)⟩)
  have TIO : Hid (∀ W, Below w3.heap.size w3 W → Calls Tryz.prog 15 #[.agg #[.int .i64 (K : Int), .int .i64 mv, .slice t1 m1 k1, .slice t2 m2 k2, .slice t3 m3 k3]] W fun e w' => ∃ p1 p2 p3 g1 g2 g3, e = .returned (.agg #[.int .i64 (K : Int), .int .i64 mv, .slice p1 m1 g1, .slice p2 m2 g2, .slice p3 m3 g3]) ∧ Hid (RdN w' p1 S ∧ RdN w' p2 F ∧ RdE w' p3 E) ∧ Below w3.heap.size w3 w') := hide (fun W d => by
    have t := inorder_any W K mv S F E t1 t2 t3 k1 k2 k3 (hide ⟨H3.out.2.2.1.s.on d, H3.out.2.2.1.f.on d, H3.out.2.2.1.e.on d⟩) (hide ⟨HF.out.bs, HF.out.bf⟩) (by have := HF.out.kN; omega) HF.out.l1 HF.out.l2 HF.out.l3
    rw [HF.out.rs, HF.out.rf, HF.out.re, HX.out.1, HX.out.2.1, HX.out.2.2] at t
    refine t.mono ?_
    rintro e w' ⟨p1, p2, p3, g1, g2, g3, he, o1, o2, o3, dd⟩
    rw [← HX.out.1] at o1
    rw [← HX.out.2.1] at o2
    rw [← HX.out.2.2] at o3
    exact ⟨p1, p2, p3, g1, g2, g3, he, hide ⟨own_rdN o1, own_rdN o2, own_rdE o3⟩, d.trans (dd.mono d.size)⟩)
  have kv : (mv != mv) = false := by simp
  have kK : ((K : Int) != (K : Int)) = false := by simp
  have SD : Hid (∀ W, (fun W => (W.cell? ⟨w.heap.size, 0, none⟩ = some (.int .i64 (N : Int)) ∧ W.cell? ⟨w.heap.size, 1, none⟩ = some (.int .i64 mv) ∧ W.cell? ⟨w.heap.size, 2, none⟩ = some (.slice a1 n1 c1) ∧ W.cell? ⟨w.heap.size, 3, none⟩ = some (.slice a2 n2 c2) ∧ W.cell? ⟨w.heap.size, 4, none⟩ = some (.slice a3 n3 c3) ∧ W.cell? ⟨w.heap.size, 5, none⟩ = some (.slice aw nw cw)) ∧ (W.cell? ⟨bx, 0, none⟩ = some (.int .i64 (K : Int)) ∧ W.cell? ⟨bx, 1, none⟩ = some (.int .i64 mv) ∧ W.cell? ⟨bx, 2, none⟩ = some (.slice t1 m1 k1) ∧ W.cell? ⟨bx, 3, none⟩ = some (.slice t2 m2 k2) ∧ W.cell? ⟨bx, 4, none⟩ = some (.slice t3 m3 k3)) ∧ Hid (Below w3.heap.size w3 W)) W → Below w3.heap.size w3 W) := hide (fun W h => h.2.2.out)
  have S0 := SKK.out w3.drew (Below.refl _ _).drew
  go_region_held3 (fun W => (W.cell? ⟨w.heap.size, 0, none⟩ = some (.int .i64 (N : Int)) ∧ W.cell? ⟨w.heap.size, 1, none⟩ = some (.int .i64 mv) ∧ W.cell? ⟨w.heap.size, 2, none⟩ = some (.slice a1 n1 c1) ∧ W.cell? ⟨w.heap.size, 3, none⟩ = some (.slice a2 n2 c2) ∧ W.cell? ⟨w.heap.size, 4, none⟩ = some (.slice a3 n3 c3) ∧ W.cell? ⟨w.heap.size, 5, none⟩ = some (.slice aw nw cw)) ∧ (W.cell? ⟨bx, 0, none⟩ = some (.int .i64 (K : Int)) ∧ W.cell? ⟨bx, 1, none⟩ = some (.int .i64 mv) ∧ W.cell? ⟨bx, 2, none⟩ = some (.slice t1 m1 k1) ∧ W.cell? ⟨bx, 3, none⟩ = some (.slice t2 m2 k2) ∧ W.cell? ⟨bx, 4, none⟩ = some (.slice t3 m3 k3)) ∧ Hid (Below w3.heap.size w3 W))
    (with_reducible assumption)
    ((first
      | (go_at_call_of 13 a1; refine (TMA.out _ (SD.out _ (by with_reducible assumption))).mono ?_; rintro e wa ⟨rfl, da⟩; have Swa := SKK.out wa da)
      | (go_at_call_of 13 t1; refine (TMT.out _ (SD.out _ (by with_reducible assumption))).mono ?_; rintro e wb ⟨rfl, db⟩; have Swb := SKK.out wb db)
      | (go_at_call 15; refine (TIO.out _ (SD.out _ (by with_reducible assumption))).mono ?_; rintro e wc ⟨p1, p2, p3, g1, g2, g3, rfl, HRI, dc⟩; have Swc := SKK.out wc dc; have TSA : Calls Tryz.prog 14 #[.agg #[.int .i64 (K : Int), .int .i64 mv, .slice t1 m1 k1, .slice t2 m2 k2, .slice t3 m3 k3], .agg #[.int .i64 (K : Int), .int .i64 mv, .slice p1 m1 g1, .slice p2 m2 g2, .slice p3 m3 g3]] wc (fun e w' => e = .returned (.bool true) ∧ Below w3.heap.size w3 w') := (by
          have t := sameAutoZ_eq wc (K : Int) mv S F E t1 t2 t3 p1 p2 p3 k1 k2 k3 g1 g2 g3 (hide ⟨H3.out.2.2.1.s.on dc, H3.out.2.2.1.f.on dc, H3.out.2.2.1.e.on dc⟩) HRI HF.out.l1 HF.out.l2 HF.out.l3
          rw [HX.out.1, HX.out.2.1, HX.out.2.2] at t
          exact t.mono fun e w' ⟨he, dd⟩ => ⟨he, dc.trans (dd.mono dc.size)⟩))
      | (go_at_call 14; refine TSA.mono ?_; rintro e w7 ⟨rfl, d7⟩; have Sw7 := SKK.out w7 d7)))
  clear S0 Swa Swb Swc Sw7 SD TSA HRI TIO TMA TMT da db dc
  have HD7 := hide d7
  clear d7 SKK
  go_upto_region 6 with fail
  obtain ⟨q0, q1, q2, q3, q4, q5⟩ : w7.cell? ⟨w.heap.size, 0, none⟩ = some (.int .i64 (N : Int)) ∧ w7.cell? ⟨w.heap.size, 1, none⟩ = some (.int .i64 mv) ∧ w7.cell? ⟨w.heap.size, 2, none⟩ = some (.slice a1 n1 c1) ∧ w7.cell? ⟨w.heap.size, 3, none⟩ = some (.slice a2 n2 c2) ∧ w7.cell? ⟨w.heap.size, 4, none⟩ = some (.slice a3 n3 c3) ∧ w7.cell? ⟨w.heap.size, 5, none⟩ = some (.slice aw nw cw) := by
    have e0 := blk_on H3.out.1 HD7.out
    exact ⟨cell_of e0 rfl, cell_of e0 rfl, cell_of e0 rfl, cell_of e0 rfl, cell_of e0 rfl, cell_of e0 rfl⟩
  have TWd := words_any w7 mv
  go_upto_region 7 with (go_at_call 16; refine TWd.mono ?_; rintro e w8 ⟨v8, n, rfl, ⟨vals, hv1, hv2, hv3⟩, hn60, d8⟩)
  clear TWd q0 q1 q2 q3 q4 q5
  obtain ⟨y8, z8, e8⟩ := own_slice hv2
  subst e8
  have HV8 : Hid (vals.length = n ∧ w8.ownsRow w7.heap.size 22 1 (.slice y8 n z8) n vals ∧ ∀ x ∈ vals, WdV w8 n x) := hide ⟨hv1, hv2, hv3⟩
  have HD8 := hide d8
  have HD78 := hide (HD7.out.trans (d8.mono HD7.out.size))
  have s78 := d8.size
  clear d8 hv1 hv2 hv3
  obtain ⟨i2, hi2, hz20, hz21, hz22⟩ := info_parts info22
  have qw : w8.cell? ⟨w.heap.size, 5, none⟩ = some (.slice aw nw cw) := cell_of (blk_on H3.out.1 HD78.out) rfl
  go_upto_region 8 with (at_builtin; refine wpList_append_own_at _ rfl _ _ 35 rfl w7.heap.size 22 i2 _ 1 24 Tryz.underlying35 hi2 hz20 hz21 hz22 rfl (by omega) (.slice y8 n z8) n vals rfl (HV8.out.2.1.alloc _) ⟨w8.heap.size, 0, none⟩ 1 1 [.slice aw nw cw] rfl rfl (World.news_of_block (cs := #[.slice aw nw cw]) (t := 22) (fr := (0, 0)) (heap_alloc_new w8 _)) (by simp [Value.oneCell']) (by unfold maxLen; omega) (by omega) (by rw [World.size_alloc]; omega) ?_; intro v10 w10 ho hg hn1 hl1)
  have HV10 : Hid ((∀ x ∈ vals ++ [.slice aw nw cw], WdR w10 x) ∧ Below w7.heap.size w7 w10) := hide (by
    have hg' := hg
    rw [← HE.out.2.2.2] at hg' ⊢
    have dw7 := H3.out.2.2.2.2.trans (HD7.out.mono H3.out.2.2.2.2.size)
    exact wl_last HV8.out HD8.out dw7 hWd.out HL.out.2.2.2 hn60 hg')
  have HD10 := hide (HD7.out.trans (HV10.out.2.mono HD7.out.size))
  obtain ⟨y10, z10, e10⟩ := own_slice ho
  subst e10
  have HO : Hid (∃ gy, y10 = some ⟨gy, 0, none⟩ ∧ ∀ i (h : i < (vals ++ [Value.slice aw nw cw]).length), w10.cell? ⟨gy, i, none⟩ = some (vals ++ [Value.slice aw nw cw])[i]) := hide (by
    rcases ho.2 with ⟨hv, h0⟩ | ⟨gy, cap, cur, hv, hB, hb2, hn2, hcap, hsz, hxs⟩
    · simp at h0
    · cases hv
      refine ⟨gy, rfl, fun i hi => ?_⟩
      refine cell_of hb2 ?_
      have hlen : (vals ++ [Value.slice aw nw cw]).length = n + 1 := by rw [List.length_append, HV8.out.1]; rfl
      have h1 : (cur.toList.take ((n + 1) * 1))[i]? = some (vals ++ [Value.slice aw nw cw])[i] := by rw [hxs, List.getElem?_eq_getElem hi]
      rw [List.getElem?_take_of_lt (by omega)] at h1
      simpa using h1)
  obtain ⟨gy, rfl, HO2⟩ := HO.out
  obtain ⟨M, hM⟩ : ∃ M, n + 1 = M := ⟨_, rfl⟩
  obtain ⟨VL, hVL⟩ : ∃ V, vals ++ [Value.slice aw nw cw] = V := ⟨_, rfl⟩
  have hMl : VL.length = M := by rw [← hVL, List.length_append, HV8.out.1, ← hM]; rfl
  rw [hM]
  have HVL : Hid (VL.length = M ∧ (∀ x ∈ VL, WdR w10 x) ∧ ∀ i (h : i < VL.length), w10.cell? ⟨gy, i, none⟩ = some VL[i]) := hide ⟨hMl, by rw [← hVL]; exact HV10.out.1, by subst hVL; exact HO2⟩
  have hM60 : M ≤ 61 := by omega
  clear ho hg hn1 hl1 HV8 HD8 HD78 s78 qw HV10 HO HO2 hM hVL hMl hn60
  have H10 : Hid (w10.heap[w.heap.size]? = some (.cells #[.int .i64 (N : Int), .int .i64 mv, .slice a1 n1 c1, .slice a2 n2 c2, .slice a3 n3 c3, .slice aw nw cw] 31 (0, 0)) ∧ w10.heap[bx]? = some (.cells #[.int .i64 (K : Int), .int .i64 mv, .slice t1 m1 k1, .slice t2 m2 k2, .slice t3 m3 k3] 25 (0, 0)) ∧ RdA w10 t1 t2 t3 S F E ∧ RdN w10 ao O ∧ Below w.heap.size w w10) := hide ⟨blk_on H3.out.1 HD10.out, blk_on H3.out.2.1 HD10.out, ⟨H3.out.2.2.1.s.on HD10.out, H3.out.2.2.1.f.on HD10.out, H3.out.2.2.1.e.on HD10.out⟩, H3.out.2.2.2.1.on HD10.out, H3.out.2.2.2.2.trans (HD10.out.mono H3.out.2.2.2.2.size)⟩
  clear HD7 HD10 H3
  go_wp2_with fail
  go_loopw [7] (fun iv wr => ∃ i : Nat, i ≤ M ∧ iv = .int .i64 (i : Int) ∧ Hid (Below w10.heap.size w10 wr)) (fun iv _ => M - (intOf iv).toNat)
  case atStart => exact ⟨0, Nat.zero_le _, rfl, hide (Below.refl _ _)⟩
  case round =>
    obtain ⟨i, hi, rfl, HY⟩ := hrel
    by_cases hlt : i < M
    · have l0 : (i : Int) < (M : Int) := by omega
      have i0 : (0 : Int) ≤ (i : Int) := by omega
      have hil : i < VL.length := by have := HVL.out.1; omega
      obtain ⟨a, c, L, ex, hr, hl⟩ := HVL.out.2.1 _ (List.getElem_mem hil)
      have cx := HVL.out.2.2 i hil
      rw [ex] at cx
      obtain ⟨l, el⟩ : ∃ l, L.length = l := ⟨_, rfl⟩
      rw [el] at cx
      have HRD := hide (And.intro hr (And.intro hl (And.intro el cx)))
      obtain ⟨b, hb⟩ : ∃ b, bothM N (wordM Ed (inL St) L) (inL Fi) = b := ⟨_, rfl⟩
      have HBB := hide hb
      clear hr hl el cx ex hil hb
      have SKK : Hid (∀ W, Below w10.heap.size w10 W → (fun W => (W.cell? ⟨w.heap.size, 0, none⟩ = some (.int .i64 (N : Int)) ∧ W.cell? ⟨w.heap.size, 1, none⟩ = some (.int .i64 mv) ∧ W.cell? ⟨w.heap.size, 2, none⟩ = some (.slice a1 n1 c1) ∧ W.cell? ⟨w.heap.size, 3, none⟩ = some (.slice a2 n2 c2) ∧ W.cell? ⟨w.heap.size, 4, none⟩ = some (.slice a3 n3 c3) ∧ W.cell? ⟨w.heap.size, 5, none⟩ = some (.slice aw nw cw)) ∧ (W.cell? ⟨bx, 0, none⟩ = some (.int .i64 (K : Int)) ∧ W.cell? ⟨bx, 1, none⟩ = some (.int .i64 mv) ∧ W.cell? ⟨bx, 2, none⟩ = some (.slice t1 m1 k1) ∧ W.cell? ⟨bx, 3, none⟩ = some (.slice t2 m2 k2) ∧ W.cell? ⟨bx, 4, none⟩ = some (.slice t3 m3 k3)) ∧ (W.cell? ⟨gy, i, none⟩ = some (.slice a l c)) ∧ Hid (Below w10.heap.size w10 W)) W) := hide (fun W d => by
        have e0 := blk_on H10.out.1 d
        have e1 := blk_on H10.out.2.1 d
        exact ⟨⟨cell_of e0 rfl, cell_of e0 rfl, cell_of e0 rfl, cell_of e0 rfl, cell_of e0 rfl, cell_of e0 rfl⟩, ⟨cell_of e1 rfl, cell_of e1 rfl, cell_of e1 rfl, cell_of e1 rfl, cell_of e1 rfl⟩, (d.cell (World.block_lt_of_cell? w10 _ HRD.out.2.2.2)).trans HRD.out.2.2.2, hide d⟩)
      have TT : Hid (∀ W, Below w10.heap.size w10 W → Calls Tryz.prog 17 #[.agg #[.int .i64 (K : Int), .int .i64 mv, .slice t1 m1 k1, .slice t2 m2 k2, .slice t3 m3 k3], .slice a l c] W fun e w' => e = .returned (.bool b) ∧ Below w10.heap.size w10 w') := hide (fun W d => by
        have t := takes_any W K mv t1 t2 t3 k1 k2 k3 S F E a c L ⟨HF.out.may, H10.out.2.2.1.s.on d, H10.out.2.2.1.f.on d, H10.out.2.2.1.e.on d, HF.out.l1, HF.out.l2⟩ (HRD.out.1.on d) HRD.out.2.1
        rw [HX.out.1, HX.out.2.1, HX.out.2.2, HRD.out.2.2.1, HF.out.keep, HBB.out] at t
        exact t.mono fun e w' ⟨he, dd⟩ => ⟨he, d.trans (dd.mono d.size)⟩)
      have TA : Hid (∀ W, Below w10.heap.size w10 W → Calls Tryz.prog 17 #[.agg #[.int .i64 (N : Int), .int .i64 mv, .slice a1 n1 c1, .slice a2 n2 c2, .slice a3 n3 c3], .slice a l c] W fun e w' => e = .returned (.bool b) ∧ Below w10.heap.size w10 w') := hide (fun W d => by
        have dw := H10.out.2.2.2.2.trans (d.mono H10.out.2.2.2.2.size)
        have t := takes_any W N mv a1 a2 a3 c1 c2 c3 St Fi Ed a c L ⟨HM.out, hA.out.s.on dw, hA.out.f.on dw, hA.out.e.on dw, HL.out.1, HL.out.2.1⟩ (HRD.out.1.on d) HRD.out.2.1
        rw [HE.out.1, HE.out.2.1, HE.out.2.2.1, HRD.out.2.2.1, HBB.out] at t
        exact t.mono fun e w' ⟨he, dd⟩ => ⟨he, d.trans (dd.mono d.size)⟩)
      have kb : (b != b) = false := by cases b <;> rfl
      go_upto_region 11 with fail
      have SD : Hid (∀ W, (fun W => (W.cell? ⟨w.heap.size, 0, none⟩ = some (.int .i64 (N : Int)) ∧ W.cell? ⟨w.heap.size, 1, none⟩ = some (.int .i64 mv) ∧ W.cell? ⟨w.heap.size, 2, none⟩ = some (.slice a1 n1 c1) ∧ W.cell? ⟨w.heap.size, 3, none⟩ = some (.slice a2 n2 c2) ∧ W.cell? ⟨w.heap.size, 4, none⟩ = some (.slice a3 n3 c3) ∧ W.cell? ⟨w.heap.size, 5, none⟩ = some (.slice aw nw cw)) ∧ (W.cell? ⟨bx, 0, none⟩ = some (.int .i64 (K : Int)) ∧ W.cell? ⟨bx, 1, none⟩ = some (.int .i64 mv) ∧ W.cell? ⟨bx, 2, none⟩ = some (.slice t1 m1 k1) ∧ W.cell? ⟨bx, 3, none⟩ = some (.slice t2 m2 k2) ∧ W.cell? ⟨bx, 4, none⟩ = some (.slice t3 m3 k3)) ∧ (W.cell? ⟨gy, i, none⟩ = some (.slice a l c)) ∧ Hid (Below w10.heap.size w10 W)) W → Below w10.heap.size w10 W) := hide (fun W h => h.2.2.2.out)
      have S0 := SKK.out wr.drew HY.out.drew
      go_region_held3 (fun W => (W.cell? ⟨w.heap.size, 0, none⟩ = some (.int .i64 (N : Int)) ∧ W.cell? ⟨w.heap.size, 1, none⟩ = some (.int .i64 mv) ∧ W.cell? ⟨w.heap.size, 2, none⟩ = some (.slice a1 n1 c1) ∧ W.cell? ⟨w.heap.size, 3, none⟩ = some (.slice a2 n2 c2) ∧ W.cell? ⟨w.heap.size, 4, none⟩ = some (.slice a3 n3 c3) ∧ W.cell? ⟨w.heap.size, 5, none⟩ = some (.slice aw nw cw)) ∧ (W.cell? ⟨bx, 0, none⟩ = some (.int .i64 (K : Int)) ∧ W.cell? ⟨bx, 1, none⟩ = some (.int .i64 mv) ∧ W.cell? ⟨bx, 2, none⟩ = some (.slice t1 m1 k1) ∧ W.cell? ⟨bx, 3, none⟩ = some (.slice t2 m2 k2) ∧ W.cell? ⟨bx, 4, none⟩ = some (.slice t3 m3 k3)) ∧ (W.cell? ⟨gy, i, none⟩ = some (.slice a l c)) ∧ Hid (Below w10.heap.size w10 W))
        (with_reducible assumption)
        ((first
          | (go_at_call_of 17 t1; refine (TT.out _ (SD.out _ (by with_reducible assumption))).mono ?_; rintro e wa ⟨rfl, da⟩; have Swa := SKK.out wa da)
          | (go_at_call_of 17 a1; refine (TA.out _ (SD.out _ (by with_reducible assumption))).mono ?_; rintro e wb ⟨rfl, db⟩; have Swb := SKK.out wb db)))
      have HDB := hide db
      clear S0 Swa Swb SD da db SKK TT TA
      go_wp2_with fail
      go_roundw
      case rel => exact ⟨i + 1, by omega, by go_num, HDB⟩
      case measure => simp [intOf]; omega
    · have l0 : ¬ (i : Int) < (M : Int) := by omega
      go_upto_region 13 with fail
      clear HVL
      rename World => wo
      have hK4 := HF.out.kN
      go_wp2_with fail
      go_loopw [8] (fun iv wr => ∃ q : Nat, q ≤ K ∧ iv = .int .i64 (q : Int) ∧ Hid (Below w10.heap.size w10 wr)) (fun iv _ => K - (intOf iv).toNat)
      case atStart => exact ⟨0, Nat.zero_le _, rfl, HY⟩
      case round =>
        obtain ⟨q, hq, rfl, HZ⟩ := hrel
        clear HY
        by_cases hqlt : q < K
        · have m0 : (q : Int) < (K : Int) := by omega
          have j0 : (0 : Int) ≤ (q : Int) := by omega
          have hql : q < O.length := by have := HF.out.ol; omega
          obtain ⟨ga, oa, ea, ca⟩ := (H10.out.2.2.2.1.on HZ.out) q hql
          subst ea
          have xin := HF.out.oin _ (List.getElem_mem hql)
          have n0 : wr.cell? ⟨w.heap.size, 0, none⟩ = some (.int .i64 (N : Int)) := cell_of (blk_on H10.out.1 HZ.out) rfl
          by_cases hq0 : 0 < q
          · obtain ⟨p, hp⟩ : ∃ p, q = p + 1 := ⟨q - 1, by omega⟩
            obtain ⟨gb, ob, eb, cb⟩ := (H10.out.2.2.2.1.on HZ.out) p (by omega)
            cases eb
            have hlt2 : O[p]'(by omega) < O[q] := List.pairwise_iff_getElem.1 HF.out.oup p q (by omega) hql (by omega)
            generalize O[q] = x at ca xin hlt2
            generalize O[p]'(by omega) = y at cb hlt2
            have xe : IntKind.i64.wrap ((q : Int) - 1) = (p : Int) := by have := HF.out.kN; rw [IntKind.wrap_i64]; omega
            have xd : (0 : Int) < (q : Int) := by omega
            have xf : (p : Int) < (K : Int) := by omega
            have xg : (0 : Int) ≤ (p : Int) := by omega
            clear hp hql
            have xl : decide (0 < q) = true := decide_eq_true hq0
            have xm : (0 < q) = True := eq_true hq0
            have xa : decide (x < 0) = false := decide_eq_false (by omega)
            have xb : decide ((N : Int) ≤ x) = false := decide_eq_false (by omega)
            have xc : decide (x ≤ y) = false := decide_eq_false (by omega)
            have xk : decide ((0 : Int) < (q : Int)) = true := decide_eq_true xd
            have xh : ¬ x < 0 := by omega
            have xi : ¬ (N : Int) ≤ x := by omega
            have xj : ¬ x ≤ y := by omega
            go_upto_region 16 with fail
            go_big_quiet (fail)
            go_wp2_with fail
            go_roundw
            case rel => exact ⟨q + 1, by omega, by go_num, hide (below_drewN2 HZ.out _)⟩
            case measure => simp [intOf]; omega
          · generalize O[q] = x at ca xin
            have xd : ¬ (0 : Int) < (q : Int) := by omega
            clear hql
            have xa : decide (x < 0) = false := decide_eq_false (by omega)
            have xb : decide ((N : Int) ≤ x) = false := decide_eq_false (by omega)
            have xk : decide ((0 : Int) < (q : Int)) = false := decide_eq_false xd
            have xl : decide (0 < q) = false := decide_eq_false hq0
            have xh : ¬ x < 0 := by omega
            have xi : ¬ (N : Int) ≤ x := by omega
            go_upto_region 16 with fail
            go_big_quiet (fail)
            go_wp2_with fail
            go_roundw
            case rel => exact ⟨q + 1, by omega, by go_num, hide (below_drewN2 HZ.out _)⟩
            case measure => simp [intOf]; omega
        · have m0 : ¬ (q : Int) < (K : Int) := by omega
          go_upto_region 18 with fail
          have HG : Hid (∀ W, Below w10.heap.size w10 W → RdA W t1 t2 t3 S F E ∧ TabAt W ∧ 0 < W.heap.size ∧ W.cell? ⟨bx, 0, none⟩ = some (.int .i64 (K : Int)) ∧ W.cell? ⟨bx, 1, none⟩ = some (.int .i64 mv) ∧ W.cell? ⟨bx, 2, none⟩ = some (.slice t1 m1 k1) ∧ W.cell? ⟨bx, 3, none⟩ = some (.slice t2 m2 k2) ∧ W.cell? ⟨bx, 4, none⟩ = some (.slice t3 m3 k3)) := hide (fun W d => by
            have dw := H10.out.2.2.2.2.trans (d.mono H10.out.2.2.2.2.size)
            have e1 := blk_on H10.out.2.1 d
            exact ⟨⟨H10.out.2.2.1.s.on d, H10.out.2.2.1.f.on d, H10.out.2.2.1.e.on d⟩, hT.out.below dw h0, Nat.lt_of_lt_of_le h0 dw.size, ⟨cell_of e1 rfl, cell_of e1 rfl, cell_of e1 rfl, cell_of e1 rfl, cell_of e1 rfl⟩⟩)
          have T18 : Hid (∀ W, Below w10.heap.size w10 W → Calls Tryz.prog 18 #[.agg #[.int .i64 (K : Int), .int .i64 mv, .slice t1 m1 k1, .slice t2 m2 k2, .slice t3 m3 k3]] W fun e w' => ∃ ar cr, e = .returned (.tuple #[.slice ar K cr, .int .i64 0]) ∧ Below w10.heap.size w10 w') := hide (fun W d => by
            obtain ⟨g1, g2, g3, _⟩ := HG.out W d
            have t := preach_u W (K : Int) mv t1 t2 t3 k1 k2 k3 S F E g1 HF.out.l1 HF.out.l2 HF.out.l3 g2 g3
            rw [HX.out.1, HX.out.2.1, HX.out.2.2, errN_ok HF.out.may] at t
            refine t.mono ?_
            rintro e w' ⟨v, rfl, ⟨ar, cr, hv, _⟩, dd⟩
            rw [HF.out.full] at hv
            subst hv
            exact ⟨ar, cr, rfl, d.trans (dd.mono d.size)⟩)
          have T19 : Hid (∀ W, Below w10.heap.size w10 W → Calls Tryz.prog 19 #[.agg #[.int .i64 (K : Int), .int .i64 mv, .slice t1 m1 k1, .slice t2 m2 k2, .slice t3 m3 k3]] W fun e w' => ∃ ar cr, e = .returned (.tuple #[.slice ar K cr, .int .i64 0]) ∧ Below w10.heap.size w10 w') := hide (fun W d => by
            obtain ⟨g1, g2, g3, _⟩ := HG.out W d
            have t := pcoreach_u W (K : Int) mv t1 t2 t3 k1 k2 k3 S F E g1 HF.out.l1 HF.out.l2 HF.out.l3 g2 g3
            rw [HX.out.1, HX.out.2.1, HX.out.2.2, errN_ok HF.out.may] at t
            refine t.mono ?_
            rintro e w' ⟨v, rfl, ⟨ar, cr, hv, _⟩, dd⟩
            rw [HF.out.full] at hv
            subst hv
            exact ⟨ar, cr, rfl, d.trans (dd.mono d.size)⟩)
          have T12 : Hid (∀ W, Below w10.heap.size w10 W → Calls Tryz.prog 12 #[.agg #[.int .i64 (K : Int), .int .i64 mv, .slice t1 m1 k1, .slice t2 m2 k2, .slice t3 m3 k3]] W fun e w' => ∃ u1 u2 u3 uo j1 j2 j3 jo, e = .returned (.tuple #[.agg #[.int .i64 (K : Int), .int .i64 mv, .slice u1 m1 j1, .slice u2 m2 j2, .slice u3 m3 j3], .slice uo K jo, .int .i64 0]) ∧ Hid (RdA w' u1 u2 u3 S F E) ∧ Below w10.heap.size w10 w') := hide (fun W d => by
            obtain ⟨g1, g2, g3, _⟩ := HG.out W d
            have t := HF.out.again W t1 t2 t3 k1 k2 k3 g1 g2 g3
            rw [HX.out.1, HX.out.2.1, HX.out.2.2] at t
            refine t.mono ?_
            rintro e w' ⟨⟨u1, u2, u3, uo, j1, j2, j3, jo, he, RA, _⟩, dd⟩
            rw [HX.out.1, HX.out.2.1, HX.out.2.2, natL_len, List.length_range] at he
            exact ⟨u1, u2, u3, uo, j1, j2, j3, jo, he, hide RA, d.trans (dd.mono d.size)⟩)
          clear hqlt
          obtain ⟨_, _, _, r0, r1, r2, r3, r4⟩ := HG.out wr HZ.out
          go_upto_region 19 with (go_at_call 18; refine (T18.out wr HZ.out).mono ?_; rintro e wa ⟨ar, cr, rfl, da⟩)
          have HDa := hide da
          clear r0 r1 r2 r3 r4 T18 da
          obtain ⟨_, _, _, r0, r1, r2, r3, r4⟩ := HG.out wa HDa.out
          go_upto_region 20 with (go_at_call 19; refine (T19.out wa HDa.out).mono ?_; rintro e wb ⟨ay, cy, rfl, db⟩)
          have HDb := hide db
          clear r0 r1 r2 r3 r4 T19 db
          obtain ⟨_, _, _, r0, r1, r2, r3, r4⟩ := HG.out wb HDb.out
          go_upto_region 21 with (go_at_call 12; refine (T12.out wb HDb.out).mono ?_; rintro e wc ⟨u1, u2, u3, uo, j1, j2, j3, jo, rfl, HRU, dc⟩)
          clear r0 r1 r2 r3 r4 T12
          obtain ⟨bu, hbu⟩ : ∃ k, wc.heap.size = k := ⟨_, rfl⟩
          rw [hbu]
          obtain ⟨wd, hwd⟩ : ∃ W, wc.alloc (.cells #[.int .i64 (K : Int), .int .i64 mv, .slice u1 m1 j1, .slice u2 m2 j2, .slice u3 m3 j3] 25) = W := ⟨_, rfl⟩
          rw [hwd]
          have HDd : Hid (wd.heap[bu]? = some (.cells #[.int .i64 (K : Int), .int .i64 mv, .slice u1 m1 j1, .slice u2 m2 j2, .slice u3 m3 j3] 25 (0, 0)) ∧ RdA wd u1 u2 u3 S F E ∧ Below w10.heap.size w10 wd) := hide (by
            have d : Below wc.heap.size wc wd := by rw [← hwd]; exact (Below.refl _ _).alloc (Nat.le_refl _) _
            exact ⟨by rw [← hwd, ← hbu]; exact World.alloc_heap_new _ _, ⟨HRU.out.s.on d, HRU.out.f.on d, HRU.out.e.on d⟩, dc.trans (d.mono dc.size)⟩)
          clear hwd hbu HRU dc
          obtain ⟨_, _, _, r0, r1, r2, r3, r4⟩ := HG.out wd HDd.out.2.2
          have s0 : wd.cell? ⟨bu, 0, none⟩ = some (.int .i64 (K : Int)) := cell_of HDd.out.1 rfl
          have s1 : wd.cell? ⟨bu, 1, none⟩ = some (.int .i64 mv) := cell_of HDd.out.1 rfl
          have s2 : wd.cell? ⟨bu, 2, none⟩ = some (.slice u1 m1 j1) := cell_of HDd.out.1 rfl
          have s3 : wd.cell? ⟨bu, 3, none⟩ = some (.slice u2 m2 j2) := cell_of HDd.out.1 rfl
          have s4 : wd.cell? ⟨bu, 4, none⟩ = some (.slice u3 m3 j3) := cell_of HDd.out.1 rfl
          have T14 : Calls Tryz.prog 14 #[.agg #[.int .i64 (K : Int), .int .i64 mv, .slice u1 m1 j1, .slice u2 m2 j2, .slice u3 m3 j3], .agg #[.int .i64 (K : Int), .int .i64 mv, .slice t1 m1 k1, .slice t2 m2 k2, .slice t3 m3 k3]] wd fun e w' => e = .returned (.bool true) ∧ Below w10.heap.size w10 w' := by
            obtain ⟨g1, g2, g3, _⟩ := HG.out wd HDd.out.2.2
            have t := sameAutoZ_eq wd (K : Int) mv S F E u1 u2 u3 t1 t2 t3 j1 j2 j3 k1 k2 k3 (hide ⟨HDd.out.2.1.s, HDd.out.2.1.f, HDd.out.2.1.e⟩) (hide ⟨g1.s, g1.f, g1.e⟩) HF.out.l1 HF.out.l2 HF.out.l3
            rw [HX.out.1, HX.out.2.1, HX.out.2.2] at t
            exact t.mono fun e w' ⟨he, dd⟩ => ⟨he, HDd.out.2.2.trans (dd.mono HDd.out.2.2.size)⟩
          go_wp2_with (first
            | (go_at_call 14; refine T14.mono ?_; rintro e we ⟨rfl, de⟩; have HDe := hide de; have TKn := known_any we (hide (HG.out we HDe.out).2.1) (HG.out we HDe.out).2.2.1)
            | (go_at_call 11; refine TKn.mono ?_; rintro e wf ⟨rfl, df⟩; have HDf := hide (H10.out.2.2.2.2.trans ((HDe.out.trans (df.mono HDe.out.size)).mono H10.out.2.2.2.2.size))))
          go_ret
          exact ⟨rfl, HDf.out⟩
end Go.Proofs.YtojnlpicgemlaaaGreatDoor
namespace Go.Proofs.YtojnlpicgemlaaaGreatDoor
open Go.RowKit Go.Maps Go.Shelf
theorem tkeeps_any (w : World) (n mv : Int) (a1 a2 a3 aw : Option Addr) (c1 c2 c3 cw : Nat) (St Fi Wd : List Int) (Ed : List EdT) (hA : Hid (RdA w a1 a2 a3 St Fi Ed)) (hWd : Hid (RdN w aw Wd)) (h1 : St.length ≤ 4194304) (h2 : Fi.length ≤ 4194304) (h3 : Ed.length ≤ 4194304) (h4 : Wd.length ≤ 4194304) (hT : Hid (TabAt w)) (h0 : 0 < w.heap.size) :
    Calls Tryz.prog 4 #[.agg #[.int .i64 n, .int .i64 mv, .slice a1 St.length c1, .slice a2 Fi.length c2, .slice a3 Ed.length c3, .slice aw Wd.length cw]] w fun e w' => e = .returned (.bool true) ∧ Below w.heap.size w w' := by
  by_cases hm : mayA n mv St Fi Ed = true
  · obtain ⟨N, rfl, _⟩ := arg_of hA.out h1 h2 hm
    exact tkeeps_ok w N mv a1 a2 a3 aw c1 c2 c3 cw St Fi Wd Ed hA hWd h1 h2 h3 h4 hT h0 hm
  · exact tkeeps_bad w n mv a1 a2 a3 aw c1 c2 c3 _ cw St Fi Ed hA h1 h2 h3 hT h0 (by simpa using hm)
end Go.Proofs.YtojnlpicgemlaaaGreatDoor
