import Derived.Test.YtojnlpicgemlaabGreatDoorGA
namespace Go.Proofs.YtojnlpicgemlaabGreatDoor
open Go.RowKit Go.Maps Go.Shelf
attribute [local go_sem] Oper.semAt_some

/-! ### freshLists -/
def aW (n : Nat → Nat) (k : Nat) : Nat → Nat := fun r => if r < k then n r else 0
theorem aW_next (n : Nat → Nat) (k : Nat) : upd (aW n k) k (n k) = aW n (k + 1) := by
  funext r
  unfold upd aW
  by_cases e : r = k
  · subst e; simp
  · rw [if_neg e]
    by_cases h : r < k
    · rw [if_pos h, if_pos (by omega)]
    · rw [if_neg h, if_neg (by omega)]
theorem aW_zero (n : Nat → Nat) (k : Nat) : upd (aW n k) k 0 = aW n k := by
  funext r
  unfold upd aW
  by_cases e : r = k
  · subst e; rw [if_pos rfl, if_neg (by omega)]
  · rw [if_neg e]
def g4 {α : Type} (p q r s : α) : Nat → α
  | 0 => p
  | 1 => q
  | 2 => r
  | _ => s
theorem own_rdN {B : Nat} {W : World} {a : Option Addr} {c : Nat} {L : List Int} (h : OwnL B W (.slice a L.length c) L) : RdN W a L := by
  obtain ⟨a', c', e', r'⟩ := la_own (L := L) h
  cases e'
  exact r'
theorem ownL_in {B : Nat} {W : World} {v : Value} {L : List Int} (h : OwnL B W v L) : ∀ k, v.ownBlock = some k → B ≤ k ∧ k < W.heap.size := fun k hk => World.ownsRow.lt h k hk
set_option maxRecDepth 100000 in
set_option maxHeartbeats 16000000 in
theorem freshLists_ok (w : World) (N : Nat) (mv : Int) (x1 x2 x3 : Nat) (a1 a2 a3 : Option Addr) (c1 c2 c3 : Nat) (St Fi : List Int) (Ed : List EdT) (hX : Hid (TwA w x1 x2 x3 St Fi Ed)) (hA0 : Hid (RdA w a1 a2 a3 St Fi Ed)) (h1 : St.length ≤ 4194304) (h2 : Fi.length ≤ 4194304) (h3 : Ed.length ≤ 4194304) (hT : Hid (TabAt w)) (h0 : 0 < w.heap.size) (hm : mayA (N : Int) mv St Fi Ed = true) :
    Calls Tryz.prog 7 #[.agg #[.int .i64 (N : Int), .int .i64 mv, .slice (some ⟨x1, 0, none⟩) St.length (St.length + 64), .slice (some ⟨x2, 0, none⟩) Fi.length (Fi.length + 64), .slice (some ⟨x3, 0, none⟩) Ed.length (Ed.length + 64)], .agg #[.int .i64 (N : Int), .int .i64 mv, .slice a1 St.length c1, .slice a2 Fi.length c2, .slice a3 Ed.length c3]] w fun e w' => e = .returned (.bool true) ∧ Below w.heap.size w w' := by
  obtain ⟨n1, e1⟩ : ∃ n, St.length = n := ⟨_, rfl⟩
  obtain ⟨n2, e2⟩ : ∃ n, Fi.length = n := ⟨_, rfl⟩
  obtain ⟨n3, e3⟩ : ∃ n, Ed.length = n := ⟨_, rfl⟩
  rw [e1, e2, e3]
  obtain ⟨kk1, hk1⟩ : ∃ k, n1 + 64 = k := ⟨_, rfl⟩
  obtain ⟨kk2, hk2⟩ : ∃ k, n2 + 64 = k := ⟨_, rfl⟩
  obtain ⟨kk3, hk3⟩ : ∃ k, n3 + 64 = k := ⟨_, rfl⟩
  rw [hk1, hk2, hk3]
  have HE := hide (And.intro e1 (And.intro e2 e3))
  have HL := hide (And.intro h1 (And.intro h2 h3))
  have HK0 := hide (And.intro hk1 (And.intro hk2 hk3))
  have HM := hide hm
  obtain ⟨LR, hLR⟩ : ∃ L, rchL false (N : Int) mv St Fi Ed = L := ⟨_, rfl⟩
  obtain ⟨LC, hLC⟩ : ∃ L, rchL true (N : Int) mv St Fi Ed = L := ⟨_, rfl⟩
  obtain ⟨LD, hLD⟩ : ∃ L, dstL (N : Int) mv St Fi Ed = L := ⟨_, rfl⟩
  obtain ⟨lr, elr⟩ : ∃ n, LR.length = n := ⟨_, rfl⟩
  obtain ⟨lc, elc⟩ : ∃ n, LC.length = n := ⟨_, rfl⟩
  obtain ⟨ld, eld⟩ : ∃ n, LD.length = n := ⟨_, rfl⟩
  obtain ⟨W0, hW0⟩ : ∃ W0, (w.alloc (.cells #[.int .i64 (N : Int), .int .i64 mv, .slice (some ⟨x1, 0, none⟩) n1 kk1, .slice (some ⟨x2, 0, none⟩) n2 kk2, .slice (some ⟨x3, 0, none⟩) n3 kk3] 25)).alloc (.cells #[.int .i64 (N : Int), .int .i64 mv, .slice a1 n1 c1, .slice a2 n2 c2, .slice a3 n3 c3] 25) = W0 := ⟨_, rfl⟩
  have HB : Hid (W0.heap[w.heap.size]? = some (.cells #[.int .i64 (N : Int), .int .i64 mv, .slice (some ⟨x1, 0, none⟩) n1 kk1, .slice (some ⟨x2, 0, none⟩) n2 kk2, .slice (some ⟨x3, 0, none⟩) n3 kk3] 25 (0, 0)) ∧ W0.heap[w.heap.size + 1]? = some (.cells #[.int .i64 (N : Int), .int .i64 mv, .slice a1 n1 c1, .slice a2 n2 c2, .slice a3 n3 c3] 25 (0, 0)) ∧ Below w.heap.size w W0) := hide (by
    have hb := box2 w #[.int .i64 (N : Int), .int .i64 mv, .slice (some ⟨x1, 0, none⟩) n1 kk1, .slice (some ⟨x2, 0, none⟩) n2 kk2, .slice (some ⟨x3, 0, none⟩) n3 kk3] #[.int .i64 (N : Int), .int .i64 mv, .slice a1 n1 c1, .slice a2 n2 c2, .slice a3 n3 c3] 25
    rw [hW0] at hb
    exact ⟨hb.2.1, hb.2.2.1, hb.1⟩)
  have GX : Hid (∀ W, Below W0.heap.size W0 W → ArgA W N mv (some ⟨x1, 0, none⟩) (some ⟨x2, 0, none⟩) (some ⟨x3, 0, none⟩) St Fi Ed ∧ ArgA W N mv a1 a2 a3 St Fi Ed ∧ TabAt W ∧ 0 < W.heap.size ∧ (W.cell? ⟨w.heap.size, 0, none⟩ = some (.int .i64 (N : Int)) ∧ W.cell? ⟨w.heap.size, 1, none⟩ = some (.int .i64 mv) ∧ W.cell? ⟨w.heap.size, 2, none⟩ = some (.slice (some ⟨x1, 0, none⟩) n1 kk1) ∧ W.cell? ⟨w.heap.size, 3, none⟩ = some (.slice (some ⟨x2, 0, none⟩) n2 kk2) ∧ W.cell? ⟨w.heap.size, 4, none⟩ = some (.slice (some ⟨x3, 0, none⟩) n3 kk3)) ∧ (W.cell? ⟨w.heap.size + 1, 0, none⟩ = some (.int .i64 (N : Int)) ∧ W.cell? ⟨w.heap.size + 1, 1, none⟩ = some (.int .i64 mv) ∧ W.cell? ⟨w.heap.size + 1, 2, none⟩ = some (.slice a1 n1 c1) ∧ W.cell? ⟨w.heap.size + 1, 3, none⟩ = some (.slice a2 n2 c2) ∧ W.cell? ⟨w.heap.size + 1, 4, none⟩ = some (.slice a3 n3 c3))) := hide (fun W d => by
    have dw := HB.out.2.2.trans (d.mono HB.out.2.2.size)
    have tx := hX.out.on dw
    exact ⟨⟨HM.out, padN_reads tx.s, padN_reads tx.f, edPad_reads tx.e, HL.out.1, HL.out.2.1⟩, ⟨HM.out, hA0.out.s.on dw, hA0.out.f.on dw, hA0.out.e.on dw, HL.out.1, HL.out.2.1⟩, hT.out.below dw h0, Nat.lt_of_lt_of_le h0 dw.size, ⟨cell_of (blk_on HB.out.1 d) rfl, cell_of (blk_on HB.out.1 d) rfl, cell_of (blk_on HB.out.1 d) rfl, cell_of (blk_on HB.out.1 d) rfl, cell_of (blk_on HB.out.1 d) rfl⟩, ⟨cell_of (blk_on HB.out.2.1 d) rfl, cell_of (blk_on HB.out.2.1 d) rfl, cell_of (blk_on HB.out.2.1 d) rfl, cell_of (blk_on HB.out.2.1 d) rfl, cell_of (blk_on HB.out.2.1 d) rfl⟩⟩)
  have HLl : Hid (lr ≤ 4096 ∧ lc ≤ 4096 ∧ ld ≤ 4096) := hide (by
    have ga := (GX.out W0 (Below.refl _ _)).2.1
    rw [← elr, ← elc, ← eld, ← hLR, ← hLC, ← hLD]
    exact ⟨rchL_le ga false, rchL_le ga true, dstL_le ga⟩)
  have P18 : Hid (∀ W, Below W0.heap.size W0 W → Calls Tryz.prog 18 #[.agg #[.int .i64 (N : Int), .int .i64 mv, .slice (some ⟨x1, 0, none⟩) n1 kk1, .slice (some ⟨x2, 0, none⟩) n2 kk2, .slice (some ⟨x3, 0, none⟩) n3 kk3]] W fun e w' => ∃ b c, e = .returned (.tuple #[.slice b lr c, .int .i64 0]) ∧ Hid (OwnL W.heap.size w' (.slice b lr c) LR) ∧ Below W.heap.size W w') := hide (fun W d => by
    obtain ⟨gx, ga, gt, g0, _⟩ := GX.out W d
    have t := preach_o W N mv (some ⟨x1, 0, none⟩) (some ⟨x2, 0, none⟩) (some ⟨x3, 0, none⟩) kk1 kk2 kk3 St Fi Ed gx gt g0
    rw [HE.out.1, HE.out.2.1, HE.out.2.2, hLR] at t
    refine t.mono ?_
    rintro e w' ⟨v, he, ho, dd⟩
    obtain ⟨b, c, hv⟩ := own_slice ho
    rw [elr] at hv
    subst hv
    exact ⟨b, c, he, hide ho, dd⟩)
  have P19 : Hid (∀ W, Below W0.heap.size W0 W → Calls Tryz.prog 19 #[.agg #[.int .i64 (N : Int), .int .i64 mv, .slice (some ⟨x1, 0, none⟩) n1 kk1, .slice (some ⟨x2, 0, none⟩) n2 kk2, .slice (some ⟨x3, 0, none⟩) n3 kk3]] W fun e w' => ∃ b c, e = .returned (.tuple #[.slice b lc c, .int .i64 0]) ∧ Hid (OwnL W.heap.size w' (.slice b lc c) LC) ∧ Below W.heap.size W w') := hide (fun W d => by
    obtain ⟨gx, ga, gt, g0, _⟩ := GX.out W d
    have t := pcoreach_o W N mv (some ⟨x1, 0, none⟩) (some ⟨x2, 0, none⟩) (some ⟨x3, 0, none⟩) kk1 kk2 kk3 St Fi Ed gx gt g0
    rw [HE.out.1, HE.out.2.1, HE.out.2.2, hLC] at t
    refine t.mono ?_
    rintro e w' ⟨v, he, ho, dd⟩
    obtain ⟨b, c, hv⟩ := own_slice ho
    rw [elc] at hv
    subst hv
    exact ⟨b, c, he, hide ho, dd⟩)
  have P20 : Hid (∀ W, Below W0.heap.size W0 W → Calls Tryz.prog 20 #[.agg #[.int .i64 (N : Int), .int .i64 mv, .slice (some ⟨x1, 0, none⟩) n1 kk1, .slice (some ⟨x2, 0, none⟩) n2 kk2, .slice (some ⟨x3, 0, none⟩) n3 kk3]] W fun e w' => ∃ b c, e = .returned (.tuple #[.slice b ld c, .int .i64 0]) ∧ Hid (OwnL W.heap.size w' (.slice b ld c) LD) ∧ Below W.heap.size W w') := hide (fun W d => by
    obtain ⟨gx, ga, gt, g0, _⟩ := GX.out W d
    have t := pdist_o W N mv (some ⟨x1, 0, none⟩) (some ⟨x2, 0, none⟩) (some ⟨x3, 0, none⟩) kk1 kk2 kk3 St Fi Ed gx
    rw [HE.out.1, HE.out.2.1, HE.out.2.2, hLD] at t
    refine t.mono ?_
    rintro e w' ⟨v, he, ho, dd⟩
    obtain ⟨b, c, hv⟩ := own_slice ho
    rw [eld] at hv
    subst hv
    exact ⟨b, c, he, hide ho, dd⟩)
  have P22 : Hid (∀ W, Below W0.heap.size W0 W → Calls Tryz.prog 22 #[.agg #[.int .i64 (N : Int), .int .i64 mv, .slice a1 n1 c1, .slice a2 n2 c2, .slice a3 n3 c3]] W fun e w' => ∃ b c, e = .returned (.tuple #[.slice b lr c, .int .i64 0]) ∧ Hid (OwnL W.heap.size w' (.slice b lr c) LR) ∧ Below W.heap.size W w') := hide (fun W d => by
    obtain ⟨gx, ga, gt, g0, _⟩ := GX.out W d
    have t := rreach_o W N mv a1 a2 a3 c1 c2 c3 St Fi Ed ga
    rw [HE.out.1, HE.out.2.1, HE.out.2.2, hLR] at t
    refine t.mono ?_
    rintro e w' ⟨v, he, ho, dd⟩
    obtain ⟨b, c, hv⟩ := own_slice ho
    rw [elr] at hv
    subst hv
    exact ⟨b, c, he, hide ho, dd⟩)
  have P23 : Hid (∀ W, Below W0.heap.size W0 W → Calls Tryz.prog 23 #[.agg #[.int .i64 (N : Int), .int .i64 mv, .slice a1 n1 c1, .slice a2 n2 c2, .slice a3 n3 c3]] W fun e w' => ∃ b c, e = .returned (.tuple #[.slice b lc c, .int .i64 0]) ∧ Hid (OwnL W.heap.size w' (.slice b lc c) LC) ∧ Below W.heap.size W w') := hide (fun W d => by
    obtain ⟨gx, ga, gt, g0, _⟩ := GX.out W d
    have t := rcoreach_o W N mv a1 a2 a3 c1 c2 c3 St Fi Ed ga
    rw [HE.out.1, HE.out.2.1, HE.out.2.2, hLC] at t
    refine t.mono ?_
    rintro e w' ⟨v, he, ho, dd⟩
    obtain ⟨b, c, hv⟩ := own_slice ho
    rw [elc] at hv
    subst hv
    exact ⟨b, c, he, hide ho, dd⟩)
  have P24 : Hid (∀ W, Below W0.heap.size W0 W → Calls Tryz.prog 24 #[.agg #[.int .i64 (N : Int), .int .i64 mv, .slice a1 n1 c1, .slice a2 n2 c2, .slice a3 n3 c3]] W fun e w' => ∃ b c, e = .returned (.tuple #[.slice b ld c, .int .i64 0]) ∧ Hid (OwnL W.heap.size w' (.slice b ld c) LD) ∧ Below W.heap.size W w') := hide (fun W d => by
    obtain ⟨gx, ga, gt, g0, _⟩ := GX.out W d
    have t := rdist_o W N mv a1 a2 a3 c1 c2 c3 St Fi Ed ga
    rw [HE.out.1, HE.out.2.1, HE.out.2.2, hLD] at t
    refine t.mono ?_
    rintro e w' ⟨v, he, ho, dd⟩
    obtain ⟨b, c, hv⟩ := own_slice ho
    rw [eld] at hv
    subst hv
    exact ⟨b, c, he, hide ho, dd⟩)
  have P17 : Hid (∀ W, Below W0.heap.size W0 W → Calls Tryz.prog 17 #[.agg #[.int .i64 (N : Int), .int .i64 mv, .slice (some ⟨x1, 0, none⟩) n1 kk1, .slice (some ⟨x2, 0, none⟩) n2 kk2, .slice (some ⟨x3, 0, none⟩) n3 kk3]] W fun e w' => ∃ no L l b c, e = .returned (.tuple #[.bool no, .slice b l c, .int .i64 0]) ∧ Hid (L.length = l ∧ l ≤ 4096 ∧ OwnL W.heap.size w' (.slice b l c) L ∧ RefO N mv St Fi Ed no L) ∧ Below W.heap.size W w') := hide (fun W d => by
    obtain ⟨gx, ga, gt, g0, _⟩ := GX.out W d
    have t := empty_o W N mv (some ⟨x1, 0, none⟩) (some ⟨x2, 0, none⟩) (some ⟨x3, 0, none⟩) kk1 kk2 kk3 St Fi Ed gx gt g0 HL.out.2.2
    rw [HE.out.1, HE.out.2.1, HE.out.2.2] at t
    refine t.mono ?_
    rintro e w' ⟨no, L, v, he, ho, dd, hr, hl⟩
    obtain ⟨b, c, hv⟩ := own_slice ho
    subst hv
    exact ⟨no, L, _, b, c, he, hide ⟨rfl, hl, ho, hr.out⟩, dd⟩)
  have HEl := hide (And.intro elr (And.intro elc eld))
  clear hLR hLC hLD elr elc eld e1 e2 e3 hk1 hk2 hk3 h1 h2 h3 hm
  obtain ⟨_, _, _, _, ⟨q0, q1, q2, q3, q4⟩, ⟨p0, p1, p2, p3, p4⟩⟩ := GX.out W0 (Below.refl _ _)
  have D0 := hide (Below.refl W0.heap.size W0)
  go_enter Tryz.func7, Tryz.ntmps7
  go_upto_region 2 with (go_at_call 17; refine (P17.out W0 D0.out).mono ?_; rintro e w1 ⟨no1, L1, l1, b1, d1, rfl, HX1, dd⟩)
  have UB1 : Hid (∀ k, (Value.slice b1 l1 d1).ownBlock = some k → W0.heap.size ≤ k ∧ k < w1.heap.size) := hide (ownL_in (HX1.out.2.2.1))
  have SZ1 : Hid (W0.heap.size ≤ w1.heap.size) := hide dd.size
  have D1 := hide (D0.out.trans (dd.mono D0.out.size))
  have HR1 : Hid (OwnL W0.heap.size w1 (.slice b1 l1 d1) L1) := hide (HX1.out.2.2.1)
  clear dd   q0 q1 q2 q3 q4 p0 p1 p2 p3 p4
  obtain ⟨_, _, _, _, ⟨q0, q1, q2, q3, q4⟩, ⟨p0, p1, p2, p3, p4⟩⟩ := GX.out w1 D1.out
  go_upto_region 3 with (go_at_call 17; refine (P17.out w1 D1.out).mono ?_; rintro e w2 ⟨no2, L2, l2, b2, d2, rfl, HX2, dd⟩)
  have UB2 : Hid (∀ k, (Value.slice b2 l2 d2).ownBlock = some k → w1.heap.size ≤ k ∧ k < w2.heap.size) := hide (ownL_in (HX2.out.2.2.1))
  have SZ2 : Hid (w1.heap.size ≤ w2.heap.size) := hide dd.size
  have D2 := hide (D1.out.trans (dd.mono D1.out.size))
  have HR2 : Hid (OwnL W0.heap.size w2 (.slice b1 l1 d1) L1 ∧ OwnL w1.heap.size w2 (.slice b2 l2 d2) L2) := hide ⟨own_below HR1.out dd, HX2.out.2.2.1⟩
  clear dd HR1  q0 q1 q2 q3 q4 p0 p1 p2 p3 p4
  obtain ⟨_, _, _, _, ⟨q0, q1, q2, q3, q4⟩, ⟨p0, p1, p2, p3, p4⟩⟩ := GX.out w2 D2.out
  go_upto_region 4 with (go_at_call 18; refine (P18.out w2 D2.out).mono ?_; rintro e w3 ⟨b3, d3, rfl, HO3, dd⟩)
  have UB3 : Hid (∀ k, (Value.slice b3 lr d3).ownBlock = some k → w2.heap.size ≤ k ∧ k < w3.heap.size) := hide (ownL_in (HO3.out))
  have SZ3 : Hid (w2.heap.size ≤ w3.heap.size) := hide dd.size
  have D3 := hide (D2.out.trans (dd.mono D2.out.size))
  have HR3 : Hid (OwnL W0.heap.size w3 (.slice b1 l1 d1) L1 ∧ OwnL w1.heap.size w3 (.slice b2 l2 d2) L2 ∧ OwnL w2.heap.size w3 (.slice b3 lr d3) LR) := hide ⟨own_below HR2.out.1 dd, own_below HR2.out.2 dd, HO3.out⟩
  clear dd HR2 HO3 q0 q1 q2 q3 q4 p0 p1 p2 p3 p4
  obtain ⟨_, _, _, _, ⟨q0, q1, q2, q3, q4⟩, ⟨p0, p1, p2, p3, p4⟩⟩ := GX.out w3 D3.out
  go_upto_region 5 with (go_at_call 18; refine (P18.out w3 D3.out).mono ?_; rintro e w4 ⟨b4, d4, rfl, HO4, dd⟩)
  have UB4 : Hid (∀ k, (Value.slice b4 lr d4).ownBlock = some k → w3.heap.size ≤ k ∧ k < w4.heap.size) := hide (ownL_in (HO4.out))
  have SZ4 : Hid (w3.heap.size ≤ w4.heap.size) := hide dd.size
  have D4 := hide (D3.out.trans (dd.mono D3.out.size))
  have HR4 : Hid (OwnL W0.heap.size w4 (.slice b1 l1 d1) L1 ∧ OwnL w1.heap.size w4 (.slice b2 l2 d2) L2 ∧ OwnL w2.heap.size w4 (.slice b3 lr d3) LR ∧ OwnL w3.heap.size w4 (.slice b4 lr d4) LR) := hide ⟨own_below HR3.out.1 dd, own_below HR3.out.2.1 dd, own_below HR3.out.2.2 dd, HO4.out⟩
  clear dd HR3 HO4 q0 q1 q2 q3 q4 p0 p1 p2 p3 p4
  obtain ⟨_, _, _, _, ⟨q0, q1, q2, q3, q4⟩, ⟨p0, p1, p2, p3, p4⟩⟩ := GX.out w4 D4.out
  go_upto_region 6 with (go_at_call 19; refine (P19.out w4 D4.out).mono ?_; rintro e w5 ⟨b5, d5, rfl, HO5, dd⟩)
  have UB5 : Hid (∀ k, (Value.slice b5 lc d5).ownBlock = some k → w4.heap.size ≤ k ∧ k < w5.heap.size) := hide (ownL_in (HO5.out))
  have SZ5 : Hid (w4.heap.size ≤ w5.heap.size) := hide dd.size
  have D5 := hide (D4.out.trans (dd.mono D4.out.size))
  have HR5 : Hid (OwnL W0.heap.size w5 (.slice b1 l1 d1) L1 ∧ OwnL w1.heap.size w5 (.slice b2 l2 d2) L2 ∧ OwnL w2.heap.size w5 (.slice b3 lr d3) LR ∧ OwnL w3.heap.size w5 (.slice b4 lr d4) LR ∧ OwnL w4.heap.size w5 (.slice b5 lc d5) LC) := hide ⟨own_below HR4.out.1 dd, own_below HR4.out.2.1 dd, own_below HR4.out.2.2.1 dd, own_below HR4.out.2.2.2 dd, HO5.out⟩
  clear dd HR4 HO5 q0 q1 q2 q3 q4 p0 p1 p2 p3 p4
  obtain ⟨_, _, _, _, ⟨q0, q1, q2, q3, q4⟩, ⟨p0, p1, p2, p3, p4⟩⟩ := GX.out w5 D5.out
  go_upto_region 7 with (go_at_call 19; refine (P19.out w5 D5.out).mono ?_; rintro e w6 ⟨b6, d6, rfl, HO6, dd⟩)
  have UB6 : Hid (∀ k, (Value.slice b6 lc d6).ownBlock = some k → w5.heap.size ≤ k ∧ k < w6.heap.size) := hide (ownL_in (HO6.out))
  have SZ6 : Hid (w5.heap.size ≤ w6.heap.size) := hide dd.size
  have D6 := hide (D5.out.trans (dd.mono D5.out.size))
  have HR6 : Hid (OwnL W0.heap.size w6 (.slice b1 l1 d1) L1 ∧ OwnL w1.heap.size w6 (.slice b2 l2 d2) L2 ∧ OwnL w2.heap.size w6 (.slice b3 lr d3) LR ∧ OwnL w3.heap.size w6 (.slice b4 lr d4) LR ∧ OwnL w4.heap.size w6 (.slice b5 lc d5) LC ∧ OwnL w5.heap.size w6 (.slice b6 lc d6) LC) := hide ⟨own_below HR5.out.1 dd, own_below HR5.out.2.1 dd, own_below HR5.out.2.2.1 dd, own_below HR5.out.2.2.2.1 dd, own_below HR5.out.2.2.2.2 dd, HO6.out⟩
  clear dd HR5 HO6 q0 q1 q2 q3 q4 p0 p1 p2 p3 p4
  obtain ⟨_, _, _, _, ⟨q0, q1, q2, q3, q4⟩, ⟨p0, p1, p2, p3, p4⟩⟩ := GX.out w6 D6.out
  go_upto_region 8 with (go_at_call 20; refine (P20.out w6 D6.out).mono ?_; rintro e w7 ⟨b7, d7, rfl, HO7, dd⟩)
  have UB7 : Hid (∀ k, (Value.slice b7 ld d7).ownBlock = some k → w6.heap.size ≤ k ∧ k < w7.heap.size) := hide (ownL_in (HO7.out))
  have SZ7 : Hid (w6.heap.size ≤ w7.heap.size) := hide dd.size
  have D7 := hide (D6.out.trans (dd.mono D6.out.size))
  have HR7 : Hid (OwnL W0.heap.size w7 (.slice b1 l1 d1) L1 ∧ OwnL w1.heap.size w7 (.slice b2 l2 d2) L2 ∧ OwnL w2.heap.size w7 (.slice b3 lr d3) LR ∧ OwnL w3.heap.size w7 (.slice b4 lr d4) LR ∧ OwnL w4.heap.size w7 (.slice b5 lc d5) LC ∧ OwnL w5.heap.size w7 (.slice b6 lc d6) LC ∧ OwnL w6.heap.size w7 (.slice b7 ld d7) LD) := hide ⟨own_below HR6.out.1 dd, own_below HR6.out.2.1 dd, own_below HR6.out.2.2.1 dd, own_below HR6.out.2.2.2.1 dd, own_below HR6.out.2.2.2.2.1 dd, own_below HR6.out.2.2.2.2.2 dd, HO7.out⟩
  clear dd HR6 HO7 q0 q1 q2 q3 q4 p0 p1 p2 p3 p4
  obtain ⟨_, _, _, _, ⟨q0, q1, q2, q3, q4⟩, ⟨p0, p1, p2, p3, p4⟩⟩ := GX.out w7 D7.out
  go_upto_region 9 with (go_at_call 20; refine (P20.out w7 D7.out).mono ?_; rintro e w8 ⟨b8, d8, rfl, HO8, dd⟩)
  have UB8 : Hid (∀ k, (Value.slice b8 ld d8).ownBlock = some k → w7.heap.size ≤ k ∧ k < w8.heap.size) := hide (ownL_in (HO8.out))
  have SZ8 : Hid (w7.heap.size ≤ w8.heap.size) := hide dd.size
  have D8 := hide (D7.out.trans (dd.mono D7.out.size))
  have HR8 : Hid (OwnL W0.heap.size w8 (.slice b1 l1 d1) L1 ∧ OwnL w1.heap.size w8 (.slice b2 l2 d2) L2 ∧ OwnL w2.heap.size w8 (.slice b3 lr d3) LR ∧ OwnL w3.heap.size w8 (.slice b4 lr d4) LR ∧ OwnL w4.heap.size w8 (.slice b5 lc d5) LC ∧ OwnL w5.heap.size w8 (.slice b6 lc d6) LC ∧ OwnL w6.heap.size w8 (.slice b7 ld d7) LD ∧ OwnL w7.heap.size w8 (.slice b8 ld d8) LD) := hide ⟨own_below HR7.out.1 dd, own_below HR7.out.2.1 dd, own_below HR7.out.2.2.1 dd, own_below HR7.out.2.2.2.1 dd, own_below HR7.out.2.2.2.2.1 dd, own_below HR7.out.2.2.2.2.2.1 dd, own_below HR7.out.2.2.2.2.2.2 dd, HO8.out⟩
  clear dd HR7 HO8 q0 q1 q2 q3 q4 p0 p1 p2 p3 p4
  obtain ⟨_, _, _, _, ⟨q0, q1, q2, q3, q4⟩, ⟨p0, p1, p2, p3, p4⟩⟩ := GX.out w8 D8.out
  have T9 : Calls Tryz.prog 21 #[.agg #[.int .i64 (N : Int), .int .i64 mv, .slice a1 n1 c1, .slice a2 n2 c2, .slice a3 n3 c3]] w8 fun e W' => ∃ b c, e = .returned (.tuple #[.bool no2, .slice b l2 c, .int .i64 0]) ∧ Hid (OwnL w8.heap.size W' (.slice b l2 c) L2) ∧ Below w8.heap.size w8 W' := by
    obtain ⟨gx, ga, gt, g0, _⟩ := GX.out w8 D8.out
    have t := HX2.out.2.2.2 w8 a1 a2 a3 c1 c2 c3 ⟨ga.rs, ga.rf, ga.re⟩
    rw [HE.out.1, HE.out.2.1, HE.out.2.2] at t
    refine t.mono ?_
    rintro e W' ⟨v, he, ho, dd⟩
    obtain ⟨b, c, hv⟩ := own_slice ho
    rw [HX2.out.1] at hv
    subst hv
    exact ⟨b, c, he, hide ho, dd⟩
  go_upto_region 10 with (go_at_call 21; refine T9.mono ?_; rintro e w9 ⟨b9, d9, rfl, HO9, dd⟩)
  clear T9
  have UB9 : Hid (∀ k, (Value.slice b9 l2 d9).ownBlock = some k → w8.heap.size ≤ k ∧ k < w9.heap.size) := hide (ownL_in (HO9.out))
  have SZ9 : Hid (w8.heap.size ≤ w9.heap.size) := hide dd.size
  have D9 := hide (D8.out.trans (dd.mono D8.out.size))
  have HR9 : Hid (OwnL W0.heap.size w9 (.slice b1 l1 d1) L1 ∧ OwnL w1.heap.size w9 (.slice b2 l2 d2) L2 ∧ OwnL w2.heap.size w9 (.slice b3 lr d3) LR ∧ OwnL w3.heap.size w9 (.slice b4 lr d4) LR ∧ OwnL w4.heap.size w9 (.slice b5 lc d5) LC ∧ OwnL w5.heap.size w9 (.slice b6 lc d6) LC ∧ OwnL w6.heap.size w9 (.slice b7 ld d7) LD ∧ OwnL w7.heap.size w9 (.slice b8 ld d8) LD ∧ OwnL w8.heap.size w9 (.slice b9 l2 d9) L2) := hide ⟨own_below HR8.out.1 dd, own_below HR8.out.2.1 dd, own_below HR8.out.2.2.1 dd, own_below HR8.out.2.2.2.1 dd, own_below HR8.out.2.2.2.2.1 dd, own_below HR8.out.2.2.2.2.2.1 dd, own_below HR8.out.2.2.2.2.2.2.1 dd, own_below HR8.out.2.2.2.2.2.2.2 dd, HO9.out⟩
  clear dd HR8 HO9 q0 q1 q2 q3 q4 p0 p1 p2 p3 p4
  obtain ⟨_, _, _, _, ⟨q0, q1, q2, q3, q4⟩, ⟨p0, p1, p2, p3, p4⟩⟩ := GX.out w9 D9.out
  go_upto_region 11 with (go_at_call 22; refine (P22.out w9 D9.out).mono ?_; rintro e w10 ⟨b10, d10, rfl, HO10, dd⟩)
  have UB10 : Hid (∀ k, (Value.slice b10 lr d10).ownBlock = some k → w9.heap.size ≤ k ∧ k < w10.heap.size) := hide (ownL_in (HO10.out))
  have SZ10 : Hid (w9.heap.size ≤ w10.heap.size) := hide dd.size
  have D10 := hide (D9.out.trans (dd.mono D9.out.size))
  have HR10 : Hid (OwnL W0.heap.size w10 (.slice b1 l1 d1) L1 ∧ OwnL w1.heap.size w10 (.slice b2 l2 d2) L2 ∧ OwnL w2.heap.size w10 (.slice b3 lr d3) LR ∧ OwnL w3.heap.size w10 (.slice b4 lr d4) LR ∧ OwnL w4.heap.size w10 (.slice b5 lc d5) LC ∧ OwnL w5.heap.size w10 (.slice b6 lc d6) LC ∧ OwnL w6.heap.size w10 (.slice b7 ld d7) LD ∧ OwnL w7.heap.size w10 (.slice b8 ld d8) LD ∧ OwnL w8.heap.size w10 (.slice b9 l2 d9) L2 ∧ OwnL w9.heap.size w10 (.slice b10 lr d10) LR) := hide ⟨own_below HR9.out.1 dd, own_below HR9.out.2.1 dd, own_below HR9.out.2.2.1 dd, own_below HR9.out.2.2.2.1 dd, own_below HR9.out.2.2.2.2.1 dd, own_below HR9.out.2.2.2.2.2.1 dd, own_below HR9.out.2.2.2.2.2.2.1 dd, own_below HR9.out.2.2.2.2.2.2.2.1 dd, own_below HR9.out.2.2.2.2.2.2.2.2 dd, HO10.out⟩
  clear dd HR9 HO10 q0 q1 q2 q3 q4 p0 p1 p2 p3 p4
  obtain ⟨_, _, _, _, ⟨q0, q1, q2, q3, q4⟩, ⟨p0, p1, p2, p3, p4⟩⟩ := GX.out w10 D10.out
  go_upto_region 12 with (go_at_call 23; refine (P23.out w10 D10.out).mono ?_; rintro e w11 ⟨b11, d11, rfl, HO11, dd⟩)
  have UB11 : Hid (∀ k, (Value.slice b11 lc d11).ownBlock = some k → w10.heap.size ≤ k ∧ k < w11.heap.size) := hide (ownL_in (HO11.out))
  have SZ11 : Hid (w10.heap.size ≤ w11.heap.size) := hide dd.size
  have D11 := hide (D10.out.trans (dd.mono D10.out.size))
  have HR11 : Hid (OwnL W0.heap.size w11 (.slice b1 l1 d1) L1 ∧ OwnL w1.heap.size w11 (.slice b2 l2 d2) L2 ∧ OwnL w2.heap.size w11 (.slice b3 lr d3) LR ∧ OwnL w3.heap.size w11 (.slice b4 lr d4) LR ∧ OwnL w4.heap.size w11 (.slice b5 lc d5) LC ∧ OwnL w5.heap.size w11 (.slice b6 lc d6) LC ∧ OwnL w6.heap.size w11 (.slice b7 ld d7) LD ∧ OwnL w7.heap.size w11 (.slice b8 ld d8) LD ∧ OwnL w8.heap.size w11 (.slice b9 l2 d9) L2 ∧ OwnL w9.heap.size w11 (.slice b10 lr d10) LR ∧ OwnL w10.heap.size w11 (.slice b11 lc d11) LC) := hide ⟨own_below HR10.out.1 dd, own_below HR10.out.2.1 dd, own_below HR10.out.2.2.1 dd, own_below HR10.out.2.2.2.1 dd, own_below HR10.out.2.2.2.2.1 dd, own_below HR10.out.2.2.2.2.2.1 dd, own_below HR10.out.2.2.2.2.2.2.1 dd, own_below HR10.out.2.2.2.2.2.2.2.1 dd, own_below HR10.out.2.2.2.2.2.2.2.2.1 dd, own_below HR10.out.2.2.2.2.2.2.2.2.2 dd, HO11.out⟩
  clear dd HR10 HO11 q0 q1 q2 q3 q4 p0 p1 p2 p3 p4
  obtain ⟨_, _, _, _, ⟨q0, q1, q2, q3, q4⟩, ⟨p0, p1, p2, p3, p4⟩⟩ := GX.out w11 D11.out
  go_upto_region 13 with (go_at_call 24; refine (P24.out w11 D11.out).mono ?_; rintro e w12 ⟨b12, d12, rfl, HO12, dd⟩)
  have UB12 : Hid (∀ k, (Value.slice b12 ld d12).ownBlock = some k → w11.heap.size ≤ k ∧ k < w12.heap.size) := hide (ownL_in (HO12.out))
  have SZ12 : Hid (w11.heap.size ≤ w12.heap.size) := hide dd.size
  have D12 := hide (D11.out.trans (dd.mono D11.out.size))
  have HR12 : Hid (OwnL W0.heap.size w12 (.slice b1 l1 d1) L1 ∧ OwnL w1.heap.size w12 (.slice b2 l2 d2) L2 ∧ OwnL w2.heap.size w12 (.slice b3 lr d3) LR ∧ OwnL w3.heap.size w12 (.slice b4 lr d4) LR ∧ OwnL w4.heap.size w12 (.slice b5 lc d5) LC ∧ OwnL w5.heap.size w12 (.slice b6 lc d6) LC ∧ OwnL w6.heap.size w12 (.slice b7 ld d7) LD ∧ OwnL w7.heap.size w12 (.slice b8 ld d8) LD ∧ OwnL w8.heap.size w12 (.slice b9 l2 d9) L2 ∧ OwnL w9.heap.size w12 (.slice b10 lr d10) LR ∧ OwnL w10.heap.size w12 (.slice b11 lc d11) LC ∧ OwnL w11.heap.size w12 (.slice b12 ld d12) LD) := hide ⟨own_below HR11.out.1 dd, own_below HR11.out.2.1 dd, own_below HR11.out.2.2.1 dd, own_below HR11.out.2.2.2.1 dd, own_below HR11.out.2.2.2.2.1 dd, own_below HR11.out.2.2.2.2.2.1 dd, own_below HR11.out.2.2.2.2.2.2.1 dd, own_below HR11.out.2.2.2.2.2.2.2.1 dd, own_below HR11.out.2.2.2.2.2.2.2.2.1 dd, own_below HR11.out.2.2.2.2.2.2.2.2.2.1 dd, own_below HR11.out.2.2.2.2.2.2.2.2.2.2 dd, HO12.out⟩
  clear dd HR11 HO12 q0 q1 q2 q3 q4 p0 p1 p2 p3 p4
  obtain ⟨wB, hwB⟩ : ∃ W, w12 = W := ⟨_, rfl⟩
  rw [hwB] at HR12 D12 UB12 SZ12 ⊢
  clear hwB P17 P18 P19 P20 P22 P23 P24
  go_upto_region 14 with fail
  obtain ⟨gL, hgL⟩ : ∃ g, wB.heap.size = g := ⟨_, rfl⟩
  rw [hgL]
  obtain ⟨wC, hwC⟩ : ∃ W, wB.alloc (.cells #[.slice b1 l1 d1, .slice b3 lr d3, .slice b5 lc d5, .slice b7 ld d7] 49) = W := ⟨_, rfl⟩
  rw [hwC]
  have HBd : Hid (l1 ≤ 4096 ∧ lr ≤ 4096 ∧ lc ≤ 4096 ∧ ld ≤ 4096) := hide ⟨HX1.out.2.1, HLl.out⟩
  obtain ⟨vF, hvF⟩ : ∃ f, g4 (Value.slice b1 l1 d1) (.slice b3 lr d3) (.slice b5 lc d5) (.slice b7 ld d7) = f := ⟨_, rfl⟩
  obtain ⟨nF, hnF⟩ : ∃ f, g4 l1 lr lc ld = f := ⟨_, rfl⟩
  obtain ⟨xF, hxF⟩ : ∃ f, g4 (L1.map (Value.int .i64)) (LR.map (Value.int .i64)) (LC.map (Value.int .i64)) (LD.map (Value.int .i64)) = f := ⟨_, rfl⟩
  obtain ⟨eF, heF⟩ : ∃ f : Nat → Nat, (fun _ => 3) = f := ⟨_, rfl⟩
  obtain ⟨zF, hzF⟩ : ∃ f : Nat → Nat, (fun _ => 1) = f := ⟨_, rfl⟩
  obtain ⟨mkF, hmkF⟩ : ∃ f : Nat → Nat → Value, (fun k i => .int .i64 (-9000 * (k : Int) - (i : Int) - 1)) = f := ⟨_, rfl⟩
  obtain ⟨yF, hyF⟩ : ∃ f : Nat → List Value, (fun i => (List.range (nF i)).map (mkF i)) = f := ⟨_, rfl⟩
  have hA : Hid (∀ k, k < 4 → ∃ ao cp, vF k = .slice ao (nF k) cp ∧ (#[.slice b1 l1 d1, .slice b3 lr d3, .slice b5 lc d5, .slice b7 ld d7] : Array Value)[k]? = some (.slice ao (nF k) cp) ∧ nF k ≤ 4096) := hide (by
    subst hvF hnF
    intro k hk
    match k, hk with
    | 0, _ => exact ⟨b1, d1, rfl, rfl, HBd.out.1⟩
    | 1, _ => exact ⟨b3, d3, rfl, rfl, HBd.out.2.1⟩
    | 2, _ => exact ⟨b5, d5, rfl, rfl, HBd.out.2.2.1⟩
    | 3, _ => exact ⟨b7, d7, rfl, rfl, HBd.out.2.2.2⟩)
  have hz1 : Hid (∀ k, k < 4 → zF k = 1) := hide (fun k _ => by rw [← hzF])
  have he1 : Hid (∀ k, k < 4 → eF k = 3) := hide (fun k _ => by rw [← heF])
  have hmk : Hid (∀ k i, k < 4 → mkF k i = .int .i64 (-9000 * (k : Int) - (i : Int) - 1)) := hide (fun k i _ => by rw [← hmkF])
  have hyl : Hid (∀ k, k < 4 → (yF k).length = nF k) := hide (fun k _ => by rw [← hyF]; simp)
  have hya : Hid (∀ k, k < 4 → ∀ i, i < nF k → ∀ h : i < (yF k).length, some (yF k)[i] = some (Value.int .i64 (-9000 * (k : Int) - (i : Int) - 1))) := hide (fun k _ i hi h => by subst hyF; simp [← hmkF])
  have hRk : Hid (∀ k, (∃ i, i < 4 ∧ (vF i).ownBlock = some k) → (W0.heap.size ≤ k ∧ k < w1.heap.size) ∨ (w2.heap.size ≤ k ∧ k < w3.heap.size) ∨ (w4.heap.size ≤ k ∧ k < w5.heap.size) ∨ (w6.heap.size ≤ k ∧ k < w7.heap.size)) := hide (by
    subst hvF
    rintro k ⟨i, hi, hq⟩
    match i, hi, hq with
    | 0, _, hq => exact .inl (UB1.out k hq)
    | 1, _, hq => exact .inr (.inl (UB3.out k hq))
    | 2, _, hq => exact .inr (.inr (.inl (UB5.out k hq)))
    | 3, _, hq => exact .inr (.inr (.inr (UB7.out k hq))))
  have HSZ := hide (And.intro SZ1.out (And.intro SZ2.out (And.intro SZ3.out (And.intro SZ4.out (And.intro SZ5.out (And.intro SZ6.out (And.intro SZ7.out (And.intro SZ8.out (And.intro SZ9.out (And.intro SZ10.out (And.intro SZ11.out SZ12.out)))))))))))
  have HS : Hid (Gst wB 4 vF [(gL, #[.slice b1 l1 d1, .slice b3 lr d3, .slice b5 lc d5, .slice b7 ld d7], 49)]) := hide ⟨fun i hi k hk => by
      have := hRk.out k ⟨i, hi, hk⟩
      obtain ⟨s1, s2, s3, s4, s5, s6, s7, s8, s9, s10, s11, s12⟩ := HSZ.out
      omega, (by
      subst hvF
      intro i j hi hj hij k hk hq
      obtain ⟨s1, s2, s3, s4, s5, s6, s7, s8, s9, s10, s11, s12⟩ := HSZ.out
      match i, j, hi, hj, hij, hk, hq with
      | 0, 1, _, _, _, hk, hq => have := UB1.out k hk; have := UB3.out k hq; omega
      | 0, 2, _, _, _, hk, hq => have := UB1.out k hk; have := UB5.out k hq; omega
      | 0, 3, _, _, _, hk, hq => have := UB1.out k hk; have := UB7.out k hq; omega
      | 1, 0, _, _, _, hk, hq => have := UB3.out k hk; have := UB1.out k hq; omega
      | 1, 2, _, _, _, hk, hq => have := UB3.out k hk; have := UB5.out k hq; omega
      | 1, 3, _, _, _, hk, hq => have := UB3.out k hk; have := UB7.out k hq; omega
      | 2, 0, _, _, _, hk, hq => have := UB5.out k hk; have := UB1.out k hq; omega
      | 2, 1, _, _, _, hk, hq => have := UB5.out k hk; have := UB3.out k hq; omega
      | 2, 3, _, _, _, hk, hq => have := UB5.out k hk; have := UB7.out k hq; omega
      | 3, 0, _, _, _, hk, hq => have := UB7.out k hk; have := UB1.out k hq; omega
      | 3, 1, _, _, _, hk, hq => have := UB7.out k hk; have := UB3.out k hq; omega
      | 3, 2, _, _, _, hk, hq => have := UB7.out k hk; have := UB5.out k hq; omega
      | 0, 0, _, _, h, _, _ => exact absurd rfl h
      | 1, 1, _, _, h, _, _ => exact absurd rfl h
      | 2, 2, _, _, h, _, _ => exact absurd rfl h
      | 3, 3, _, _, h, _, _ => exact absurd rfl h), fun q hq => by rw [List.mem_singleton.1 hq]; exact Nat.le_of_eq hgL⟩
  have HF : Hid (Gf wB wC 4 vF [(gL, #[.slice b1 l1 d1, .slice b3 lr d3, .slice b5 lc d5, .slice b7 ld d7], 49)] eF zF nF mkF xF (aW nF 0)) := hide (by
    have dC : Below wB.heap.size wB wC := by rw [← hwC]; exact (Below.refl _ _).alloc (Nat.le_refl _) _
    refine ⟨fun q hq => by rw [List.mem_singleton.1 hq]; show wC.heap[gL]? = _; rw [← hwC, ← hgL]; exact World.alloc_heap_new _ _, Only.ofBelow dC, ?_⟩
    intro i hi
    have e0 : aW nF 0 i = 0 := by unfold aW; rw [if_neg (by omega)]
    rw [e0, gx_zero, ← heF, ← hzF]
    subst hvF hnF hxF
    match i, hi with
    | 0, _ => have t := owns_down (own_below HR12.out.1 dC) (Nat.zero_le _); rw [HX1.out.1] at t; exact t
    | 1, _ => have t := owns_down (own_below HR12.out.2.2.1 dC) (Nat.zero_le _); rw [HEl.out.1] at t; exact t
    | 2, _ => have t := owns_down (own_below HR12.out.2.2.2.2.1 dC) (Nat.zero_le _); rw [HEl.out.2.1] at t; exact t
    | 3, _ => have t := owns_down (own_below HR12.out.2.2.2.2.2.2.1 dC) (Nat.zero_le _); rw [HEl.out.2.2] at t; exact t)
  have hA2 : Hid (∀ k, k < 4 → 0 < nF k → ∀ ao cp, vF k = .slice ao (nF k) cp → ∃ g, ao = some ⟨g, 0, none⟩) := hide (fun k hk h0 ao cp hv => by
    have t := HF.out.r k hk
    rw [hv] at t
    obtain ⟨g, c, e, _, _⟩ := t.form h0
    cases e
    exact ⟨g, rfl⟩)
  have HFull : Hid (∀ W, Gf wB W 4 vF [(gL, #[.slice b1 l1 d1, .slice b3 lr d3, .slice b5 lc d5, .slice b7 ld d7], 49)] eF zF nF mkF xF (aW nF 4) → Gg wB W 4 vF [(gL, #[.slice b1 l1 d1, .slice b3 lr d3, .slice b5 lc d5, .slice b7 ld d7], 49)] yF ∧ (∀ r, r < 4 → 0 ≤ r → W.ownsRow 0 (eF r) (zF r) (vF r) (nF r) (yF r))) := hide (fun W h => by
    have q := Gf.full (z := nF) h (fun i hi => ⟨by have t := (h.r i hi).1; rw [gx_len, hz1.out i hi, Nat.mul_one] at t; exact t, by unfold aW; rw [if_pos hi]; exact Nat.le_refl _⟩)
    subst hyF
    exact ⟨q.1, fun r hr _ => q.2 r hr⟩)
  have HRd : Hid (∀ W, Gg wB W 4 vF [(gL, #[.slice b1 l1 d1, .slice b3 lr d3, .slice b5 lc d5, .slice b7 ld d7], 49)] yF → RdN W b2 L2 ∧ RdN W b9 L2 ∧ RdN W b4 LR ∧ RdN W b10 LR ∧ RdN W b6 LC ∧ RdN W b11 LC ∧ RdN W b8 LD ∧ RdN W b12 LD ∧ Below W0.heap.size W0 W) := hide (fun W hg => by
    obtain ⟨s1, s2, s3, s4, s5, s6, s7, s8, s9, s10, s11, s12⟩ := HSZ.out
    have dW : Below W0.heap.size W0 W := D12.out.trans (hg.on.toBelow D12.out.size (fun k hk => by have := hRk.out k hk; omega))
    refine ⟨?_, ?_, ?_, ?_, ?_, ?_, ?_, ?_, dW⟩
    · have t := row_only HR12.out.2.1 hg.on (fun k hk hr => by have := hRk.out k hr; have := UB2.out k hk; omega); rw [← HX2.out.1] at t; exact own_rdN t
    · have t := row_only HR12.out.2.2.2.2.2.2.2.2.1 hg.on (fun k hk hr => by have := hRk.out k hr; have := UB9.out k hk; omega); rw [← HX2.out.1] at t; exact own_rdN t
    · have t := row_only HR12.out.2.2.2.1 hg.on (fun k hk hr => by have := hRk.out k hr; have := UB4.out k hk; omega); rw [← HEl.out.1] at t; exact own_rdN t
    · have t := row_only HR12.out.2.2.2.2.2.2.2.2.2.1 hg.on (fun k hk hr => by have := hRk.out k hr; have := UB10.out k hk; omega); rw [← HEl.out.1] at t; exact own_rdN t
    · have t := row_only HR12.out.2.2.2.2.2.1 hg.on (fun k hk hr => by have := hRk.out k hr; have := UB6.out k hk; omega); rw [← HEl.out.2.1] at t; exact own_rdN t
    · have t := row_only HR12.out.2.2.2.2.2.2.2.2.2.2.1 hg.on (fun k hk hr => by have := hRk.out k hr; have := UB11.out k hk; omega); rw [← HEl.out.2.1] at t; exact own_rdN t
    · have t := row_only HR12.out.2.2.2.2.2.2.2.1 hg.on (fun k hk hr => by have := hRk.out k hr; have := UB8.out k hk; omega); rw [← HEl.out.2.2] at t; exact own_rdN t
    · have t := row_only HR12.out.2.2.2.2.2.2.2.2.2.2.2 hg.on (fun k hk hr => by have := hRk.out k hr; have := UB12.out k hk; omega); rw [← HEl.out.2.2] at t; exact own_rdN t)
  obtain ⟨i3, hi3, hz30, hz31, hz32⟩ := info_parts info3
  clear hvF hnF hxF heF hzF hmkF hyF hwC hgL HR12 UB1 SZ1 UB2 SZ2 UB3 SZ3 UB4 SZ4 UB5 SZ5 UB6 SZ6 UB7 SZ7 UB8 SZ8 UB9 SZ9 UB10 SZ10 UB11 SZ11 UB12 SZ12 D0 D1 D2 D3 D4 D5 D6 D7 D8 D9 D10 D11 D12 HSZ hRk
  go_wp2_with fail
  go_loopw [33] (fun kv wr => ∃ k : Nat, k ≤ 4 ∧ kv = .int .i64 (k : Int) ∧ Hid (Gf wB wr 4 vF [(gL, #[.slice b1 l1 d1, .slice b3 lr d3, .slice b5 lc d5, .slice b7 ld d7], 49)] eF zF nF mkF xF (aW nF k))) (fun kv _ => 4 - (intOf kv).toNat)
  case atStart => exact ⟨0, Nat.zero_le _, rfl, HF⟩
  case round =>
    obtain ⟨k, hk, rfl, HX⟩ := hrel
    clear HF
    by_cases hlt : k < 4
    · have i1 : (k : Int) < 4 := by omega
      have i0 : (0 : Int) ≤ (k : Int) := by omega
      obtain ⟨ao, cp, hkv, hkc, hm⟩ := hA.out k hlt
      obtain ⟨m, hmm⟩ : ∃ m, nF k = m := ⟨_, rfl⟩
      rw [hmm] at hkv hkc hm
      have HK := hide (And.intro hkv (And.intro hmm hkc))
      have HX2 := hide (show Gf wB wr 4 vF [(gL, #[.slice b1 l1 d1, .slice b3 lr d3, .slice b5 lc d5, .slice b7 ld d7], 49)] eF zF nF mkF xF (upd (aW nF k) k 0) by rw [aW_zero]; exact HX.out)
      clear hkv hmm hkc HX
      rename World => wo
      go_wp2_with fail
      go_loopw [34] (fun iv wr => ∃ i : Nat, i ≤ m ∧ iv = .int .i64 (i : Int) ∧ Hid (Gf wB wr 4 vF [(gL, #[.slice b1 l1 d1, .slice b3 lr d3, .slice b5 lc d5, .slice b7 ld d7], 49)] eF zF nF mkF xF (upd (aW nF k) k i))) (fun iv _ => m - (intOf iv).toNat)
      case atStart => exact ⟨0, Nat.zero_le _, rfl, HX2⟩
      case round =>
        obtain ⟨i, hi, rfl, HY⟩ := hrel
        clear HX2
        have q0 : wr.cell? ⟨gL, k, none⟩ = some (.slice ao m cp) := cell_of (HY.out.b (gL, #[.slice b1 l1 d1, .slice b3 lr d3, .slice b5 lc d5, .slice b7 ld d7], 49) (by simp)) HK.out.2.2
        have i2 : (0 : Int) ≤ (i : Int) := by omega
        by_cases hil : i < m
        · have i3 : (i : Int) < (m : Int) := by omega
          obtain ⟨g, rfl, hcs⟩ := HY.out.cell k (by omega) (z := 1) HK.out.1 HK.out.2.1 (hz1.out k hlt) i (by omega)
          obtain ⟨⟨u, q1⟩, f1⟩ := hcs i (by omega)
          clear hcs
          have e1 : IntKind.i64.wrap (-9000 * (k : Int)) = -9000 * (k : Int) := by rw [IntKind.wrap_i64]; omega
          have e2 : IntKind.i64.wrap (-9000 * (k : Int) - (i : Int)) = -9000 * (k : Int) - (i : Int) := by rw [IntKind.wrap_i64]; omega
          have e3 : IntKind.i64.wrap (-9000 * (k : Int) - (i : Int) - 1) = -9000 * (k : Int) - (i : Int) - 1 := by rw [IntKind.wrap_i64]; omega
          have J := hide (Gf.puti HS.out k i HY.out (by omega) HK.out.1 HK.out.2.1 (.int .i64 (-9000 * (k : Int) - (i : Int) - 1)) (hmk.out k i hlt))
          clear HY
          go_wp2_with fail
          go_roundw
          case rel => exact ⟨i + 1, by omega, by go_num, J⟩
          case measure => simp [intOf]; omega
        · obtain rfl : i = m := by omega
          have i3 : ¬ (i : Int) < (i : Int) := by omega
          have J : Hid (Gf wB wr 4 vF [(gL, #[.slice b1 l1 d1, .slice b3 lr d3, .slice b5 lc d5, .slice b7 ld d7], 49)] eF zF nF mkF xF (aW nF (k + 1))) := hide (by have q := HY.out; rw [← HK.out.2.1, aW_next] at q; exact q)
          clear HY
          go_wp2_with fail
          go_roundw
          case rel => exact ⟨k + 1, by omega, by go_num, J⟩
          case measure => simp [intOf]; omega
    · obtain rfl : k = 4 := by omega
      have i1 : ¬ ((4 : Nat) : Int) < 4 := by omega
      have HO := hide (HFull.out wr HX.out)
      clear HX
      go_upto_region 21 with fail
      go_wp2_with fail
      go_loopw [35, 36] (fun nv kv wr => ∃ k : Nat, k ≤ 4 ∧ nv = .int .i64 (64 * (k : Int)) ∧ kv = .int .i64 (k : Int) ∧ Hid (Gg wB wr 4 vF [(gL, #[.slice b1 l1 d1, .slice b3 lr d3, .slice b5 lc d5, .slice b7 ld d7], 49)] yF ∧ (∀ r, r < 4 → k ≤ r → wr.ownsRow 0 (eF r) (zF r) (vF r) (nF r) (yF r)))) (fun _ kv _ => 4 - (intOf kv).toNat)
      case atStart => exact ⟨0, Nat.zero_le _, rfl, rfl, HO⟩
      case round =>
        obtain ⟨k, hk, rfl, rfl, HX⟩ := hrel
        clear HO
        by_cases hlt : k < 4
        · have i1 : (k : Int) < 4 := by omega
          have i0 : (0 : Int) ≤ (k : Int) := by omega
          obtain ⟨ao, cp, hkv, hkc, hm⟩ := hA.out k hlt
          obtain ⟨m, hmm⟩ : ∃ m, nF k = m := ⟨_, rfl⟩
          rw [hmm] at hkv hkc hm
          have q0 : wr.cell? ⟨gL, k, none⟩ = some (.slice ao m cp) := cell_of (HX.out.1.b (gL, #[.slice b1 l1 d1, .slice b3 lr d3, .slice b5 lc d5, .slice b7 ld d7], 49) (by simp)) hkc
          have HK := hide (And.intro hkv (And.intro hmm hkc))
          have HZ : Hid (Gg wB wr 4 vF [(gL, #[.slice b1 l1 d1, .slice b3 lr d3, .slice b5 lc d5, .slice b7 ld d7], 49)] yF ∧ (∀ r, r < 4 → k + 1 ≤ r → wr.ownsRow 0 (eF r) (zF r) (vF r) (nF r) (yF r)) ∧ Gx wB wr (vF k) [(gL, #[.slice b1 l1 d1, .slice b3 lr d3, .slice b5 lc d5, .slice b7 ld d7], 49)] 3 1 (nF k) (yF k) [.int .i64 7] (.slice ao (m + 0) cp) 0) := hide ⟨HX.out.1, fun r hr hc => HX.out.2 r hr (by omega), Gx.zero' hkv (by have t := HX.out.2 k (by omega) (Nat.le_refl _); rw [he1.out k hlt, hz1.out k hlt] at t; exact t)⟩
          clear hkv hmm hkc HX
          rename World => wo
          go_wp2_with fail
          go_loopw [37, 38] (fun mv jv wr => ∃ j av cv, j ≤ 64 ∧ mv = .slice av (m + j) cv ∧ jv = .int .i64 (j : Nat) ∧ Hid (Gg wB wr 4 vF [(gL, #[.slice b1 l1 d1, .slice b3 lr d3, .slice b5 lc d5, .slice b7 ld d7], 49)] yF ∧ (∀ r, r < 4 → k + 1 ≤ r → wr.ownsRow 0 (eF r) (zF r) (vF r) (nF r) (yF r)) ∧ Gx wB wr (vF k) [(gL, #[.slice b1 l1 d1, .slice b3 lr d3, .slice b5 lc d5, .slice b7 ld d7], 49)] 3 1 (nF k) (yF k) [.int .i64 7] (.slice av (m + j) cv) j)) (fun _ jv _ => 64 - (intOf jv).toNat)
          case atStart => exact ⟨0, ao, cp, Nat.zero_le _, rfl, rfl, HZ⟩
          case round =>
            obtain ⟨j, av, cv, hj, rfl, rfl, HY⟩ := hrel
            clear HZ
            by_cases hjl : j < 64
            · have i2 : (j : Int) < 64 := by omega
              have dA : Below wr.heap.size wr (wr.alloc (.cells #[.int .i64 7] 3)) := (Below.refl _ _).alloc (Nat.le_refl _) _
              have HB := hide (And.intro (HY.out.1.below dA) (And.intro (fun (r : Nat) (hr : r < 4) (hc : k + 1 ≤ r) => own_below (HY.out.2.1 r hr hc) dA) (HY.out.2.2.below dA)))
              clear dA HY q0
              go_wp2_with (at_builtin; refine wpList_gx Tryz.underlying22 hi3 hz30 hz31 hz32 rfl (by omega) (by omega) HS.out HB.out.1 k (by omega) HB.out.2.2 rfl _ _ rfl rfl ⟨wr.heap.size, 0, none⟩ rfl rfl (cnewL wr [.int .i64 7] 3) (fun u hu => by rw [List.mem_singleton.1 hu]; rfl) (by have := HK.out.2.1; omega) ?_)
              intro gv cw w9 H9
              have J : Hid (Gg wB w9 4 vF [(gL, #[.slice b1 l1 d1, .slice b3 lr d3, .slice b5 lc d5, .slice b7 ld d7], 49)] yF ∧ (∀ r, r < 4 → k + 1 ≤ r → w9.ownsRow 0 (eF r) (zF r) (vF r) (nF r) (yF r)) ∧ Gx wB w9 (vF k) [(gL, #[.slice b1 l1 d1, .slice b3 lr d3, .slice b5 lc d5, .slice b7 ld d7], 49)] 3 1 (nF k) (yF k) [.int .i64 7] (.slice (some ⟨gv, 0, none⟩) (m + (j + 1)) cw) (j + 1)) := hide ⟨H9.out.2.1, fun r hr hc => H9.out.2.2.2 r hr (by omega) _ _ _ _ _ (HB.out.2.1 r hr hc), by have t := H9.out.1; rw [HK.out.2.1] at t ⊢; exact t⟩
              clear H9 HB
              rw [HK.out.2.1]
              go_wp2_with fail
              go_roundw
              case rel => exact ⟨j + 1, some ⟨gv, 0, none⟩, cw, by omega, rfl, by go_num, J⟩
              case measure => simp [intOf]; omega
            · obtain rfl : j = 64 := by omega
              have i2 : ¬ ((64 : Nat) : Int) < 64 := by omega
              have q1 : wr.cell? ⟨gL, k, none⟩ = some (.slice ao m cp) := cell_of (HY.out.1.b (gL, #[.slice b1 l1 d1, .slice b3 lr d3, .slice b5 lc d5, .slice b7 ld d7], 49) (by simp)) HK.out.2.2
              have e1 : IntKind.i64.wrap (64 * (k : Int) + ((m + 64 : Nat) : Int)) = 64 * (k : Int) + (m : Int) + 64 := by rw [IntKind.wrap_i64]; omega
              have e1' : IntKind.i64.wrap (64 * (k : Int) + ((m : Int) + 64)) = 64 * (k : Int) + (m : Int) + 64 := by rw [IntKind.wrap_i64]; omega
              have e2 : IntKind.i64.wrap (64 * (k : Int) + (m : Int) + 64 - (m : Int)) = 64 * ((k + 1 : Nat) : Int) := by rw [IntKind.wrap_i64]; omega
              have J : Hid (Gg wB wr 4 vF [(gL, #[.slice b1 l1 d1, .slice b3 lr d3, .slice b5 lc d5, .slice b7 ld d7], 49)] yF ∧ (∀ r, r < 4 → k + 1 ≤ r → wr.ownsRow 0 (eF r) (zF r) (vF r) (nF r) (yF r))) := hide ⟨HY.out.1, HY.out.2.1⟩
              clear HY q0
              go_wp2_with fail
              go_roundw
              case rel => exact ⟨k + 1, by omega, by first | rfl | (simp only [e1, e1', e2]) | go_num, by go_num, J⟩
              case measure => simp [intOf]; omega
        · obtain rfl : k = 4 := by omega
          have i1 : ¬ ((4 : Nat) : Int) < 4 := by omega
          have HG : Hid (Gg wB wr 4 vF [(gL, #[.slice b1 l1 d1, .slice b3 lr d3, .slice b5 lc d5, .slice b7 ld d7], 49)] yF) := hide HX.out.1
          clear HX
          obtain ⟨ws, hws⟩ : ∃ z, wr = z := ⟨_, rfl⟩
          rw [hws] at HG ⊢
          go_upto_region 31 with fail
          go_wp2_with fail
          go_loopw [39] (fun kv wr => ∃ k : Nat, k ≤ 4 ∧ kv = .int .i64 (k : Int) ∧ wr = ws) (fun kv _ => 4 - (intOf kv).toNat)
          case atStart => exact ⟨0, Nat.zero_le _, rfl, rfl⟩
          case round =>
            obtain ⟨k, hk, rfl, hws⟩ := hrel
            subst hws
            by_cases hlt : k < 4
            · have i1 : (k : Int) < 4 := by omega
              have i0 : (0 : Int) ≤ (k : Int) := by omega
              obtain ⟨ao, cp, hkv, hkc, hm⟩ := hA.out k hlt
              have HP := hide (fun h => hA2.out k hlt h ao cp hkv)
              obtain ⟨m, hmm⟩ : ∃ m, nF k = m := ⟨_, rfl⟩
              rw [hmm] at hkv hkc hm HP
              have q0 : wr.cell? ⟨gL, k, none⟩ = some (.slice ao m cp) := cell_of (HG.out.b (gL, #[.slice b1 l1 d1, .slice b3 lr d3, .slice b5 lc d5, .slice b7 ld d7], 49) (by simp)) hkc
              have HK := hide (And.intro hkv (And.intro hmm hkc))
              clear hkv hmm hkc
              rename World => wo
              go_wp2_with fail
              go_loopw [40] (fun iv wr => ∃ i : Nat, i ≤ m ∧ iv = .int .i64 (i : Int) ∧ wr = wo) (fun iv _ => m - (intOf iv).toNat)
              case atStart => exact ⟨0, Nat.zero_le _, rfl, rfl⟩
              case round =>
                obtain ⟨i, hi, rfl, hwo⟩ := hrel
                subst hwo
                have i2 : (0 : Int) ≤ (i : Int) := by omega
                by_cases hil : i < m
                · have i3 : (i : Int) < (m : Int) := by omega
                  obtain ⟨g, hg⟩ := HP.out (by omega)
                  subst hg
                  have q1 : wr.cell? ⟨g, i, none⟩ = some (.int .i64 (-9000 * (k : Int) - (i : Int) - 1)) := by
                    have t := HG.out.r k (by omega) g (by rw [HK.out.1]; rfl) i (by rw [hyl.out k hlt, HK.out.2.1]; exact hil)
                    rw [t]
                    exact hya.out k hlt i (by rw [HK.out.2.1]; exact hil) _
                  have e1 : IntKind.i64.wrap (-9000 * (k : Int)) = -9000 * (k : Int) := by rw [IntKind.wrap_i64]; omega
                  have e2 : IntKind.i64.wrap (-9000 * (k : Int) - (i : Int)) = -9000 * (k : Int) - (i : Int) := by rw [IntKind.wrap_i64]; omega
                  have e3 : IntKind.i64.wrap (-9000 * (k : Int) - (i : Int) - 1) = -9000 * (k : Int) - (i : Int) - 1 := by rw [IntKind.wrap_i64]; omega
                  have e4 : ((-9000 * (k : Int) - (i : Int) - 1) != (-9000 * (k : Int) - (i : Int) - 1)) = false := by simp
                  go_wp2_with fail
                  go_roundw
                  case rel => exact ⟨i + 1, by omega, by go_num, by trivial⟩
                  case measure => simp [intOf]; omega
                · obtain rfl : i = m := by omega
                  have i3 : ¬ (i : Int) < (i : Int) := by omega
                  go_wp2_with fail
                  go_roundw
                  case rel => exact ⟨k + 1, by omega, by go_num, by trivial⟩
                  case measure => simp [intOf]; omega
            · obtain rfl : k = 4 := by omega
              have i1 : ¬ ((4 : Nat) : Int) < 4 := by omega
              go_upto_region 39 with fail
              have HT : Hid (∀ W, Below wr.heap.size wr W → (Calls Tryz.prog 10 #[.slice b2 l2 d2, .slice b9 l2 d9] W fun e w' => e = .returned (.bool true) ∧ Below wr.heap.size wr w') ∧ (Calls Tryz.prog 10 #[.slice b4 lr d4, .slice b10 lr d10] W fun e w' => e = .returned (.bool true) ∧ Below wr.heap.size wr w') ∧ (Calls Tryz.prog 10 #[.slice b6 lc d6, .slice b11 lc d11] W fun e w' => e = .returned (.bool true) ∧ Below wr.heap.size wr w') ∧ (Calls Tryz.prog 10 #[.slice b8 ld d8, .slice b12 ld d12] W fun e w' => e = .returned (.bool true) ∧ Below wr.heap.size wr w') ∧ (Calls Tryz.prog 11 #[.agg #[.int .i64 (N : Int), .int .i64 mv, .slice (some ⟨x1, 0, none⟩) n1 kk1, .slice (some ⟨x2, 0, none⟩) n2 kk2, .slice (some ⟨x3, 0, none⟩) n3 kk3], .agg #[.int .i64 (N : Int), .int .i64 mv, .slice a1 n1 c1, .slice a2 n2 c2, .slice a3 n3 c3]] W fun e w' => e = .returned (.bool true) ∧ Below wr.heap.size wr w')) := hide (fun W d => by
                obtain ⟨r1, r2, r3, r4, r5, r6, r7, r8, dW⟩ := HRd.out wr HG.out
                have sm : ∀ (aa ab : Option Addr) (ca cb l : Nat) (A : List Int), A.length = l → l ≤ 4194304 → RdN wr aa A → RdN wr ab A → Calls Tryz.prog 10 #[.slice aa l ca, .slice ab l cb] W fun e w' => e = .returned (.bool true) ∧ Below wr.heap.size wr w' := fun aa ab ca cb l A hl hle ha hb => by
                  have t := same7_any W aa ab ca cb A A (ha.on d) (hb.on d) (by omega)
                  rw [hl, decide_eq_true rfl] at t
                  exact t.mono fun e w' ⟨he, dd⟩ => ⟨he, d.trans (dd.mono d.size)⟩
                have hb := HBd.out
                refine ⟨sm _ _ _ _ _ _ HX2.out.1 (by have := HX2.out.2.1; omega) r1 r2, sm _ _ _ _ _ _ HEl.out.1 (by omega) r3 r4, sm _ _ _ _ _ _ HEl.out.2.1 (by omega) r5 r6, sm _ _ _ _ _ _ HEl.out.2.2 (by omega) r7 r8, ?_⟩
                have dw := HB.out.2.2.trans ((dW.trans (d.mono dW.size)).mono HB.out.2.2.size)
                have t := autoLeft_any W (N : Int) mv St Fi Ed x1 x2 x3 a1 a2 a3 c1 c2 c3 (hide (hX.out.on dw)) (hide ⟨hA0.out.s.on dw, hA0.out.f.on dw, hA0.out.e.on dw⟩) HL.out.1 HL.out.2.1 HL.out.2.2
                rw [HE.out.1, HE.out.2.1, HE.out.2.2, HK0.out.1, HK0.out.2.1, HK0.out.2.2] at t
                exact t.mono fun e w' ⟨he, dd⟩ => ⟨he, d.trans (dd.mono d.size)⟩)
              have HCl : Hid (∀ W, Below wr.heap.size wr W → (W.cell? ⟨w.heap.size, 0, none⟩ = some (.int .i64 (N : Int)) ∧ W.cell? ⟨w.heap.size, 1, none⟩ = some (.int .i64 mv) ∧ W.cell? ⟨w.heap.size, 2, none⟩ = some (.slice (some ⟨x1, 0, none⟩) n1 kk1) ∧ W.cell? ⟨w.heap.size, 3, none⟩ = some (.slice (some ⟨x2, 0, none⟩) n2 kk2) ∧ W.cell? ⟨w.heap.size, 4, none⟩ = some (.slice (some ⟨x3, 0, none⟩) n3 kk3)) ∧ (W.cell? ⟨w.heap.size + 1, 0, none⟩ = some (.int .i64 (N : Int)) ∧ W.cell? ⟨w.heap.size + 1, 1, none⟩ = some (.int .i64 mv) ∧ W.cell? ⟨w.heap.size + 1, 2, none⟩ = some (.slice a1 n1 c1) ∧ W.cell? ⟨w.heap.size + 1, 3, none⟩ = some (.slice a2 n2 c2) ∧ W.cell? ⟨w.heap.size + 1, 4, none⟩ = some (.slice a3 n3 c3)) ∧ Below w.heap.size w W) := hide (fun W d => by
                obtain ⟨r1, r2, r3, r4, r5, r6, r7, r8, dW⟩ := HRd.out wr HG.out
                have dW2 := dW.trans (d.mono dW.size)
                obtain ⟨_, _, _, _, g5, g6⟩ := GX.out W dW2
                exact ⟨g5, g6, HB.out.2.2.trans (dW2.mono HB.out.2.2.size)⟩)
              clear HRd hA hA2 hyl hya hmk HS hz1 he1 HFull HG
              obtain ⟨⟨q0, q1, q2, q3, q4⟩, ⟨p0, p1, p2, p3, p4⟩, _⟩ := HCl.out wr (Below.refl _ _)
              go_wp2_with (first
                | (go_at_call_of 10 b2; refine (HT.out wr (Below.refl _ _)).1.mono ?_; rintro e wa ⟨rfl, da⟩)
                | (go_at_call_of 10 b4; refine (HT.out wa da).2.1.mono ?_; rintro e wb ⟨rfl, db⟩)
                | (go_at_call_of 10 b6; refine (HT.out wb db).2.2.1.mono ?_; rintro e wc ⟨rfl, dc⟩)
                | (go_at_call_of 10 b8; refine (HT.out wc dc).2.2.2.1.mono ?_; rintro e wd ⟨rfl, dd⟩; clear q0 q1 q2 q3 q4 p0 p1 p2 p3 p4; obtain ⟨⟨q0, q1, q2, q3, q4⟩, ⟨p0, p1, p2, p3, p4⟩, _⟩ := HCl.out wd dd)
                | (go_at_call 11; refine (HT.out wd dd).2.2.2.2.mono ?_; rintro e we ⟨rfl, de⟩))
              go_ret
              exact ⟨rfl, (HCl.out we de).2.2⟩
end Go.Proofs.YtojnlpicgemlaabGreatDoor
