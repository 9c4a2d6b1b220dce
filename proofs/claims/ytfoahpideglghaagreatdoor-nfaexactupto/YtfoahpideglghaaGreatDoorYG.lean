import Derived.Test.YtfoahpideglghaaGreatDoorYD
import Derived.Deep.RegionHeld3
import Derived.Test.YtfoahpideglghaaGreatDoorPM
namespace Go.Proofs.YtfoahpideglghaaGreatDoor
open Go.RowKit Go.Maps Go.Shelf
attribute [local go_sem] Oper.semAt_some

/-- A row of one number, just made. -/
def oneY (v : Value) : MkP := fun x lo hi W => x = .slice (some ⟨lo, 0, none⟩) 1 1 ∧ lo < hi ∧ W.heap[lo]? = some (.cells #[v] 3 (0, 0))
theorem oneY_mono {v : Value} : MonoP (oneY v) := fun _ _ _ _ _ hs d ⟨e, l, z⟩ => ⟨e, l, (d.block _ (by omega)).trans z⟩
theorem rd_oneY {W : World} {p : Int} {g : Nat} (z : W.heap[g]? = some (.cells #[.int .i64 p] 3 (0, 0))) : RdN W (some ⟨g, 0, none⟩) [p] := fun j hj => by
  have : j = 0 := by simp at hj; omega
  subst this
  exact ⟨g, 0, rfl, cell_of z rfl⟩
def rowY (L : List Int) : MkP := fun x _ hi W => ∃ b c, x = .slice b L.length c ∧ W.ownsRow 0 3 1 (.slice b L.length c) L.length (L.map (Value.int .i64)) ∧ ∀ k, (Value.slice b L.length c).ownBlock = some k → k < hi
theorem rowY_mono {L : List Int} : MonoP (rowY L) := fun _ _ _ _ _ _ d ⟨b, c, e, o, l⟩ => ⟨b, c, e, own_below o d, l⟩
set_option maxRecDepth 100000 in
set_option maxHeartbeats 8000000 in
theorem rpath_any (w : World) (n m : Int) (a1 a2 a3 : Option Addr) (c1 c2 c3 : Nat) (St Fi : List Int) (Ed : List EdT) (u1 : Option Addr) (cw : Nat) (Wd : List Int) (hA : Hid (RdA w a1 a2 a3 St Fi Ed)) (hU : Hid (RdN w u1 Wd)) (h1 : St.length ≤ 4194304) (h2 : Fi.length ≤ 4194304) (h3 : Ed.length ≤ 4194304) (hw : Wd.length ≤ 4194304) :
    Calls Tryz.prog 44 #[.agg #[.int .i64 n, .int .i64 m, .slice a1 St.length c1, .slice a2 Fi.length c2, .slice a3 Ed.length c3], .slice u1 Wd.length cw] w (LAns w (pthA n m St Fi Ed Wd)) := by
  obtain ⟨W0, hW0⟩ : ∃ W0, w.alloc (.cells #[.int .i64 n, .int .i64 m, .slice a1 St.length c1, .slice a2 Fi.length c2, .slice a3 Ed.length c3] 25) = W0 := ⟨_, rfl⟩
  have H0 : Hid (Below w.heap.size w W0 ∧ W0.heap[w.heap.size]? = some (.cells #[.int .i64 n, .int .i64 m, .slice a1 St.length c1, .slice a2 Fi.length c2, .slice a3 Ed.length c3] 25 (0, 0))) := hide ⟨by rw [← hW0]; exact alloc_below _ _, by rw [← hW0]; exact World.alloc_heap_new _ _⟩
  have y0 : W0.cell? ⟨w.heap.size, 0, none⟩ = some (.int .i64 n) := cell_of H0.out.2 rfl
  have y1 : W0.cell? ⟨w.heap.size, 1, none⟩ = some (.int .i64 m) := cell_of H0.out.2 rfl
  have y2 : W0.cell? ⟨w.heap.size, 2, none⟩ = some (.slice a1 St.length c1) := cell_of H0.out.2 rfl
  have y3 : W0.cell? ⟨w.heap.size, 3, none⟩ = some (.slice a2 Fi.length c2) := cell_of H0.out.2 rfl
  have y4 : W0.cell? ⟨w.heap.size, 4, none⟩ = some (.slice a3 Ed.length c3) := cell_of H0.out.2 rfl
  have TA := rword_any W0 n m a1 a2 a3 c1 c2 c3 St Fi Ed u1 cw Wd (hide (hA.out.on H0.out.1)) (hide (hU.out.on H0.out.1)) h1 h2 h3 hw
  unfold pthA
  by_cases e0 : wordErr n m St Fi Ed Wd = 0
  case neg =>
    rw [if_neg e0]
    generalize wordErr n m St Fi Ed Wd = er at e0 TA ⊢
    have e1 : (er != 0) = true := by simpa using e0
    clear e0
    go_enter Tryz.func44, Tryz.ntmps44
    go_wp2_with (go_at_call 79; refine TA.mono ?_; rintro e w1 ⟨rfl, d1⟩; have H1 := hide (H0.out.1.trans (d1.mono H0.out.1.size)); clear d1)
    go_ret2
    exact lans_bad rfl H1.out
  case pos =>
    rw [if_pos e0]
    have HNS : Hid (∀ x ∈ St, 0 ≤ x) := hide (fun x hx => (inB_iff.1 (List.all_eq_true.1 (may_parts (word_may e0)).2.2.2.1 x hx)).1)
    have HNE : Hid (∀ e ∈ Ed, 0 ≤ e.2.2) := hide (fun x hx => ((may_parts (word_may e0)).2.2.2.2.2 x hx).2.2.1)
    rw [e0] at TA
    clear e0
    obtain ⟨V, hV⟩ : ∃ V, pthV (pthR Ed Fi Wd (riseL St)) = V := ⟨_, rfl⟩
    have FN : Hid (pthR Ed Fi Wd (riseL St) = none → V = ([], 60)) := hide (fun h => by rw [← hV, h]; rfl)
    have FS : Hid (∀ L, pthR Ed Fi Wd (riseL St) = some L → V = (L, 0)) := hide (fun L h => by rw [← hV, h]; rfl)
    rw [hV]
    clear hV
    have TN : Hid (∀ W b c X x, Below w.heap.size w W → RdN W b X → X.length ≤ 4194304 → Calls Tryz.prog 77 #[.agg #[.int .i64 n, .int .i64 m, .slice a1 St.length c1, .slice a2 Fi.length c2, .slice a3 Ed.length c3], .slice b X.length c, .int .i64 x] W fun e w' => ∃ b c, e = .returned (.slice b (riseL (imgL false Ed X x)).length c) ∧ Hid (w'.ownsRow W.heap.size 3 1 (.slice b (riseL (imgL false Ed X x)).length c) (riseL (imgL false Ed X x)).length ((riseL (imgL false Ed X x)).map (Value.int .i64))) ∧ Below W.heap.size W w') := hide (fun W b c X x d hx hl => rnext_any W n m a1 a2 a3 b c1 c2 c3 c St Fi Ed X x (hide (hA.out.on d)) (hide hx) h3 hl)
    have TB : Hid (∀ W b c X x, Below w.heap.size w W → RdN W b X → X.length ≤ 4194304 → Calls Tryz.prog 78 #[.agg #[.int .i64 n, .int .i64 m, .slice a1 St.length c1, .slice a2 Fi.length c2, .slice a3 Ed.length c3], .slice b X.length c, .int .i64 x] W fun e w' => ∃ b c, e = .returned (.slice b (riseL (imgL true Ed X x)).length c) ∧ Hid (w'.ownsRow W.heap.size 3 1 (.slice b (riseL (imgL true Ed X x)).length c) (riseL (imgL true Ed X x)).length ((riseL (imgL true Ed X x)).map (Value.int .i64))) ∧ Below W.heap.size W w') := hide (fun W b c X x d hx hl => rback_any W n m a1 a2 a3 b c1 c2 c3 c St Fi Ed X x (hide (hA.out.on d)) (hide hx) h3 hl)
    have SB : Hid (∀ W, Below W0.heap.size W0 W → (fun W => W.cell? ⟨w.heap.size, 0, none⟩ = some (.int .i64 n) ∧ W.cell? ⟨w.heap.size, 1, none⟩ = some (.int .i64 m) ∧ W.cell? ⟨w.heap.size, 2, none⟩ = some (.slice a1 St.length c1) ∧ W.cell? ⟨w.heap.size, 3, none⟩ = some (.slice a2 Fi.length c2) ∧ W.cell? ⟨w.heap.size, 4, none⟩ = some (.slice a3 Ed.length c3)) W) := hide (fun W d => by
      have e := blk_on H0.out.2 d
      exact ⟨cell_of e rfl, cell_of e rfl, cell_of e rfl, cell_of e rfl, cell_of e rfl⟩)
    obtain ⟨i9, hi9, hz90, hz91, hz92⟩ := info_parts info22
    obtain ⟨M, hM⟩ : ∃ M, M = madeCells (Value.slice none 0 0).cells ((((Wd.length : Nat) : Int) + 1).toNat * i9.size) := ⟨_, rfl⟩
    have hmk : ∀ W : World, (Instr.makeSlice 50 (.int .i64 ((Wd.length : Int) + 1)) (.int .i64 ((Wd.length : Int) + 1))).run Tryz.prog W = .ok (.slice (some ⟨W.heap.size, 0, none⟩) (Wd.length + 1) (Wd.length + 1)) (W.alloc (.cells M 22)) := fun W => by
      have h := run_make (P := Tryz.prog) W 50 22 i9 (.slice none 0 0) Tryz.underlying50 hi9 hz90 .i64 .i64 ((Wd.length : Int) + 1) ((Wd.length : Int) + 1) (by omega) (by omega) (by rw [hz92]; omega) (by omega)
      rw [← hM] at h
      rw [h]
      have : ((Wd.length : Int) + 1).toNat = Wd.length + 1 := by omega
      rw [this]
    have HM : Hid (M.size = Wd.length + 1 ∧ ∀ j, j < Wd.length + 1 → M[j]? = some (.slice none 0 0)) := hide (by
      have e : ((Wd.length : Int) + 1).toNat = Wd.length + 1 := by omega
      rw [hM, hz91, e]
      refine ⟨by rw [size_madeCells]; simp, fun j hj => ?_⟩
      rw [← Array.getElem?_toList, show (Value.slice none 0 0).cells = #[Value.slice none 0 0] from rfl, toList_madeCells_one, List.getElem?_replicate, if_pos (by omega)])
    clear hM hi9 hz90 hz91 hz92
    have l1 : (0 : Int) ≤ (Wd.length : Int) := by omega
    have l2 : (Wd.length : Int) < (Wd.length : Int) + 1 := by omega
    go_enter Tryz.func44, Tryz.ntmps44
    go_upto_region 5 with (go_at_call 79; refine TA.mono ?_; rintro e w1 ⟨rfl, d1⟩; have H1 := hide d1; clear d1 y0 y1 y2 y3 y4; obtain ⟨y0, y1, y2, y3, y4⟩ := SB.out w1 H1.out)
    obtain ⟨W1, hW1⟩ : ∃ W1, w1.alloc (.cells M 22) = W1 := ⟨_, rfl⟩
    have G1 : Hid (Below W0.heap.size W0 W1 ∧ W1.heap[w1.heap.size]? = some (.cells M 22 (0, 0)) ∧ W0.heap.size ≤ w1.heap.size) := hide ⟨by rw [← hW1]; exact H1.out.trans ((alloc_below _ _).mono H1.out.size), by rw [← hW1]; exact World.alloc_heap_new _ _, H1.out.size⟩
    rw [hW1]
    clear hW1 hmk y0 y1 y2 y3 y4 hW0 TA
    obtain ⟨gl, hgl⟩ : ∃ gl, w1.heap.size = gl := ⟨_, rfl⟩
    rw [hgl] at G1 ⊢
    clear hgl H1
    obtain ⟨y0, y1, y2, y3, y4⟩ := SB.out W1 G1.out.1
    go_upto_region 6 with (go_at_call 72; refine (set_any W1 a2 Fi c2 (hide (hA.out.f.on (H0.out.1.trans (G1.out.1.mono H0.out.1.size)))) h2).mono ?_; rintro e w5 ⟨b5, c5, rfl, HO5, d5⟩; have z5 := blk_on G1.out.2.1 d5; have yk : w5.cell? ⟨gl, Wd.length, none⟩ = some (.slice none 0 0) := cell_of z5 (HM.out.2 _ (by omega)); have yf : w5.frozen? ⟨gl, Wd.length, none⟩ = false := fz_of z5; have H5 := hide (And.intro (G1.out.1.trans (d5.mono G1.out.1.size)) z5); clear d5 z5 y0 y1 y2 y3 y4)
    obtain ⟨W5, hW5⟩ : ∃ W5, w5.setCell ⟨gl, Wd.length, none⟩ (.slice b5 (riseL Fi).length c5) = W5 := ⟨_, rfl⟩
    have G5 : Hid (Below W0.heap.size W0 W5 ∧ LvR W5 gl (Wd.length + 1) (liveL Ed Fi Wd) Wd.length) := hide (by
      have o := only_set w5 gl Wd.length (.slice b5 (riseL Fi).length c5)
      rw [hW5] at o
      refine ⟨H5.out.1.trans (o.toBelow H5.out.1.size fun k hk => by rw [hk]; exact G1.out.2.2), ?_⟩
      have h5 : LvR w5 gl (Wd.length + 1) (liveL Ed Fi Wd) (Wd.length + 1) := ⟨⟨M, H5.out.2, HM.out.1⟩, fun j a b => by omega⟩
      have t := h5.put (k := Wd.length) (by omega) (b := b5) (c := c5) (by rw [liveL_last]; exact owns_down HO5.out (Nat.zero_le _))
      rw [liveL_last, hW5] at t
      exact t)
    rw [hW5]
    clear hW5 yk yf HO5 H5
    have HG := hide G1.out.2.2
    clear G1
    have HFL : Hid (∀ j, ((liveL Ed Fi Wd) j).length ≤ 4194304) := hide (fun j => liveL_len h2 h3)
    have HFS : Hid (∀ j (h : j < Wd.length), (liveL Ed Fi Wd) j = riseL (imgL true Ed ((liveL Ed Fi Wd) (j + 1)) Wd[j])) := hide (fun j h => liveL_step Ed Fi Wd j h)
    go_wp2_with fail
    go_loopw [8] (fun iv wr => ∃ k : Nat, k ≤ Wd.length ∧ iv = .int .i64 ((k : Int) - 1) ∧ Hid (Below W0.heap.size W0 wr ∧ LvR wr gl (Wd.length + 1) (liveL Ed Fi Wd) k)) (fun iv _ => (intOf iv + 1).toNat)
    case atStart => exact ⟨Wd.length, Nat.le_refl _, rfl, G5⟩
    case round =>
      clear G5
      obtain ⟨k0, hk, rfl, HY⟩ := hrel
      by_cases hk0 : 0 < k0
      · obtain ⟨k, rfl⟩ : ∃ k, k0 = k + 1 := ⟨k0 - 1, by omega⟩
        have ek : (((k + 1 : Nat) : Int) - 1) = (k : Int) := by omega
        rw [ek]
        have i0 : (0 : Int) ≤ (k : Int) := by omega
        have i1 : (k : Int) < (Wd.length : Int) := by omega
        have i2 : (k : Int) + 1 < (Wd.length : Int) + 1 := by omega
        have i3 : (k : Int) < (Wd.length : Int) + 1 := by omega
        have i4 : (0 : Int) ≤ (k : Int) + 1 := by omega
        have i5 : (k : Int) ≤ 4194304 := by omega
        have iw : IntKind.i64.wrap ((k : Int) - 1) = (k : Int) - 1 := by rw [IntKind.wrap_i64]; omega
        have iw2 : IntKind.i64.wrap ((k : Int) + 1) = (k : Int) + 1 := by rw [IntKind.wrap_i64]; omega
        have HDW := hide (H0.out.1.trans (HY.out.1.mono H0.out.1.size))
        obtain ⟨gu, ou, hao, qx⟩ := hU.out k (by omega)
        subst hao
        obtain ⟨bk, ck, qk, ok⟩ := HY.out.2.row (k + 1) (by omega) (by omega)
        have HX := hide (own_rdN ok)
        have HL := HFL.out (k + 1)
        have HE := hide (HFS.out k (by omega))
        have SQ : Hid (∀ W, Below W0.heap.size W0 W → W.cell? ⟨gu, ou + k, none⟩ = some (.int .i64 (Wd[k]'(by omega)))) := hide (fun W d => (Below.cell (H0.out.1.trans (d.mono H0.out.1.size)) (p := ⟨gu, ou + k, none⟩) (World.block_lt_of_cell? w _ qx)).trans qx)
        generalize Wd[k]'(by omega) = x at SQ HE qx
        have HK : Hid (∀ W, Below wr.heap.size wr W → W.cell? ⟨gl, k + 1, none⟩ = some (.slice bk ((liveL Ed Fi Wd) (k + 1)).length ck)) := hide (fun W d => (d.cell (p := ⟨gl, k + 1, none⟩) (World.block_lt_of_cell? wr _ qk)).trans qk)
        clear qx qk ok
        obtain ⟨X, hX⟩ : ∃ X, (liveL Ed Fi Wd) (k + 1) = X := ⟨_, rfl⟩
        have HXE := hide hX
        rw [hX] at HX HL HE HK
        clear hX
        have SX : Hid (∀ W, Below W0.heap.size W0 W → W.cell? ⟨gl, k + 1, none⟩ = some (.slice bk X.length ck) → (fun W => (fun W => W.cell? ⟨w.heap.size, 0, none⟩ = some (.int .i64 n) ∧ W.cell? ⟨w.heap.size, 1, none⟩ = some (.int .i64 m) ∧ W.cell? ⟨w.heap.size, 2, none⟩ = some (.slice a1 St.length c1) ∧ W.cell? ⟨w.heap.size, 3, none⟩ = some (.slice a2 Fi.length c2) ∧ W.cell? ⟨w.heap.size, 4, none⟩ = some (.slice a3 Ed.length c3)) W ∧ W.cell? ⟨gu, ou + k, none⟩ = some (.int .i64 x) ∧ W.cell? ⟨gl, k + 1, none⟩ = some (.slice bk X.length ck)) W) := hide (fun W d e => ⟨SB.out W d, SQ.out W d, e⟩)
        have S0 := SX.out wr.drew HY.out.1.drew (HK.out _ (Below.refl _ _).drew)
        go_upto_region 9 with fail
        go_region_held3 (fun W => (fun W => W.cell? ⟨w.heap.size, 0, none⟩ = some (.int .i64 n) ∧ W.cell? ⟨w.heap.size, 1, none⟩ = some (.int .i64 m) ∧ W.cell? ⟨w.heap.size, 2, none⟩ = some (.slice a1 St.length c1) ∧ W.cell? ⟨w.heap.size, 3, none⟩ = some (.slice a2 Fi.length c2) ∧ W.cell? ⟨w.heap.size, 4, none⟩ = some (.slice a3 Ed.length c3)) W ∧ W.cell? ⟨gu, ou + k, none⟩ = some (.int .i64 x) ∧ W.cell? ⟨gl, k + 1, none⟩ = some (.slice bk X.length ck))
          (with_reducible assumption)
          ((go_at_call 78; refine (TB.out _ _ _ _ _ HDW.out.drew (HX.out.on (Below.refl _ wr).drew) HL).mono ?_; rintro e w3 ⟨b2, c2, rfl, HO, d3⟩; have D3 : Below wr.heap.size wr w3 := ⟨d3.os, d3.tape, d3.output, d3.size, d3.block⟩; have D03 := HY.out.1.trans (D3.mono HY.out.1.size); have S3 := SX.out w3 D03 (HK.out w3 D3); have L3 := hide (HY.out.2.on D3); obtain ⟨vk, yk, yf⟩ := L3.out.cell k (by omega); have P3 := hide (L3.out.put (b := b2) (c := c2) (by omega) (by rw [HE.out]; exact owns_down HO.out (Nat.zero_le _))); rw [HE.out] at P3; have oo := only_set w3 gl k (.slice b2 (riseL (imgL true Ed X x)).length c2); have D5 : Hid (Below W0.heap.size W0 (w3.setCell ⟨gl, k, none⟩ (.slice b2 (riseL (imgL true Ed X x)).length c2))) := hide (D03.trans (oo.toBelow D03.size fun j hj => by rw [hj]; exact HG.out)); have K5 : (w3.setCell ⟨gl, k, none⟩ (.slice b2 (riseL (imgL true Ed X x)).length c2)).cell? ⟨gl, k + 1, none⟩ = some (.slice bk X.length ck) := (by obtain ⟨cur, hc, hs⟩ := L3.out.blk; have hc2 : cur[k + 1]? = some (.slice bk X.length ck) := (by simpa [World.cell?, hc] using HK.out w3 D3); exact cell_of (heap_setCell_same w3 gl k cur 22 _ hc) (by rw [Array.getElem?_setIfInBounds_ne (by omega)]; exact hc2)); have S5 := SX.out _ D5.out K5; clear d3 D3 D03 oo))
        clear S0 S3 S5 K5 yk yf
        go_wp2_with fail
        go_roundw
        case rel => exact ⟨k, by omega, rfl, hide ⟨D5.out, P3.out⟩⟩
        case measure => simp [intOf]
      · obtain rfl : k0 = 0 := by omega
        rw [show (((0 : Nat) : Int) - 1) = -1 from rfl]
        obtain ⟨wl, hwl⟩ : ∃ z, z = wr := ⟨_, rfl⟩
        subst hwl
        obtain ⟨y0, y1, y2, y3, y4⟩ := SB.out wl HY.out.1
        clear TB HFS hk hk0
        go_wp2_with (go_at_call 72; refine (set_any wl a1 St c1 (hide (hA.out.s.on (H0.out.1.trans (HY.out.1.mono H0.out.1.size)))) h1).mono ?_; rintro e w6 ⟨b6, c6, rfl, HO6, d6⟩; have H6 : Hid (Below W0.heap.size W0 w6 ∧ LvR w6 gl (Wd.length + 1) (liveL Ed Fi Wd) 0) := hide ⟨HY.out.1.trans (d6.mono HY.out.1.size), HY.out.2.on d6⟩; have HC6 := hide (owns_down HO6.out (Nat.zero_le _)); clear d6 HO6 y0 y1 y2 y3 y4)
        clear HY
        go_loopw [9, 10, 11] (fun ov cv iv wr => ∃ (i : Nat) (O C : List Int) (bo : Option Addr) (co : Nat) (bc : Option Addr) (cc : Nat), i ≤ Wd.length + 1 ∧ ov = .slice bo O.length co ∧ cv = .slice bc C.length cc ∧ iv = .int .i64 i ∧ Hid (Below w6.heap.size w6 wr ∧ wr.ownsRow w6.heap.size 3 1 (.slice bo (O).length co) (O).length ((O).map (Value.int .i64)) ∧ (i ≤ Wd.length → wr.ownsRow 0 3 1 (.slice bc (C).length cc) (C).length ((C).map (Value.int .i64))) ∧ PhI Ed St Fi Wd i O C)) (fun _ _ iv _ => Wd.length + 1 - (intOf iv).toNat)
        case atStart => exact ⟨0, [], riseL St, none, 0, b6, c6, Nat.zero_le _, rfl, rfl, rfl, hide ⟨Below.refl _ _, World.ownsRow_nil _ _ _ _, fun _ => HC6.out, PhI.zero HNS.out h1⟩⟩
        case round =>
          clear HC6
          obtain ⟨i, O, C, bo, co, bc, cc, hi, rfl, rfl, rfl, HY⟩ := hrel
          by_cases hle : i ≤ Wd.length
          · have i0 : (i : Int) ≤ (Wd.length : Int) := by omega
            have i1 : (0 : Int) ≤ (i : Int) := by omega
            have i2 : (i : Int) < (Wd.length : Int) + 1 := by omega
            have iw : IntKind.i64.wrap ((i : Int) + 1) = (i : Int) + 1 := by rw [IntKind.wrap_i64]; omega
            obtain ⟨wo, hwo⟩ : ∃ z, z = wr := ⟨_, rfl⟩
            subst hwo
            obtain ⟨bi, ci, qi, oi⟩ := (H6.out.2.on HY.out.1).row i (Nat.zero_le _) (by omega)
            have HLI := hide (And.intro qi oi)
            clear qi oi
            have HL := HFL.out i
            obtain ⟨L, hL⟩ : ∃ L, (liveL Ed Fi Wd) i = L := ⟨_, rfl⟩
            have HLE := hide hL
            rw [hL] at HLI HL
            clear hL
            have HCR := hide (own_rdN (HY.out.2.2.1 hle))
            have HCL := HY.out.2.2.2.cl
            have HCN := hide HY.out.2.2.2.nn
            go_wp2_with fail
            go_loopw [12, 13] (fun lv kv wr => ∃ (k : Nat) (p : Int), k ≤ C.length ∧ kv = .int .i64 k ∧ lv = .int .i64 p ∧ Hid ((p = -1 ∧ ∀ t (h : t < C.length), t < k → C[t] ∉ L) ∨ (0 ≤ p ∧ fstL C L = some p)) ∧ Hid (Below wo.heap.size wo wr)) (fun _ kv _ => C.length - (intOf kv).toNat)
            case atStart => exact ⟨0, -1, Nat.zero_le _, rfl, rfl, hide (Or.inl ⟨rfl, fun t _ h => by omega⟩), hide (Below.refl _ _)⟩
            case round =>
              obtain ⟨k, p, hk, rfl, rfl, HP0, HZ⟩ := hrel
              have HBR : Hid (Below w6.heap.size w6 wr) := hide (HY.out.1.trans (HZ.out.mono HY.out.1.size))
              have HOW := hide (own_below HY.out.2.1 HZ.out)
              have HBL : Hid (Below W0.heap.size W0 wr) := hide (H6.out.1.trans (HBR.out.mono H6.out.1.size))
              by_cases hp : 0 ≤ p
              · have HP : Hid (0 ≤ p ∧ fstL C ((liveL Ed Fi Wd) i) = some p) := hide (by
                  rcases HP0.out with ⟨h, _⟩ | h
                  · omega
                  · rw [HLE.out]; exact h)
                clear HP0
                have p0 : ¬ p < 0 := by omega
                obtain ⟨y0, y1, y2, y3, y4⟩ := SB.out wr HBL.out
                rcases Nat.lt_or_ge k C.length with kl | kl
                · have k0 : (k : Int) < (C.length : Int) := by omega
                  have NL : ¬ p < 0 := by have := HP.out.1; omega
                  obtain ⟨OX, hOX⟩ : ∃ OX, O ++ [p] = OX := ⟨_, rfl⟩
                  have HOL : Hid (O.length ≤ 16777216) := hide (by have := HY.out.2.2.2.len; omega)
                  by_cases hil : i < Wd.length
                  · have j0 : (i : Int) < (Wd.length : Int) := by omega
                    have PN := hide (HY.out.2.2.2.next hil HP.out.2 HNE.out h3)
                    obtain ⟨gu, ou, hau, qx⟩ := hU.out i hil
                    subst hau
                    have SQ : Hid (∀ W, Below W0.heap.size W0 W → W.cell? ⟨gu, ou + i, none⟩ = some (.int .i64 Wd[i])) := hide (fun W d => (Below.cell (H0.out.1.trans (d.mono H0.out.1.size)) (p := ⟨gu, ou + i, none⟩) (World.block_lt_of_cell? w _ qx)).trans qx)
                    clear qx hOX
                    generalize Wd[i] = y at SQ PN
                    go_upto_region 25 with (at_builtin; refine wpList_appI rfl _ _ rfl w6.heap.size (.slice bo O.length co) O rfl (own_below HOW.out ((Below.refl _ _).alloc (Nat.le_refl _) _)) wr.heap.size p rfl (World.alloc_heap_new _ _) HOL.out w6 (HBR.out.alloc HBR.out.size _) (Nat.le_refl _) ?_; intro v2 w2 HO2 HD2; obtain ⟨bo2, co2, rfl⟩ := own_slice HO2.out)
                    have HB : Hid (Below W0.heap.size W0 w2) := hide (H6.out.1.trans (HD2.out.mono H6.out.1.size))
                    have HBW : Hid (Below w.heap.size w w2) := hide (H0.out.1.trans (HB.out.mono H0.out.1.size))
                    have hmo : MonIL 0 [vI 0 (.agg #[.int .i64 n, .int .i64 m, .slice a1 St.length c1, .slice a2 Fi.length c2, .slice a3 Ed.length c3]), vI 1 (.int .i64 p), pI 2 (oneY (.int .i64 p)), vI 3 (.slice (some ⟨gu, ou, none⟩) Wd.length cw), vI 4 (.int .i64 i), vI 5 (.pointer (some ⟨gu, ou + i, none⟩)), vI 6 (.int .i64 y), pI 7 (rowY (riseL (imgL false Ed [p] y)))] := ⟨vI_mono _ _, vI_mono _ _, pI_mono oneY_mono, vI_mono _ _, vI_mono _ _, vI_mono _ _, vI_mono _ _, pI_mono rowY_mono, trivial⟩
                    refine wp_region_sl [vI 0 (.agg #[.int .i64 n, .int .i64 m, .slice a1 St.length c1, .slice a2 Fi.length c2, .slice a3 Ed.length c3]), vI 1 (.int .i64 p), pI 2 (oneY (.int .i64 p)), vI 3 (.slice (some ⟨gu, ou, none⟩) Wd.length cw), vI 4 (.int .i64 i), vI 5 (.pointer (some ⟨gu, ou + i, none⟩)), vI 6 (.int .i64 y), pI 7 (rowY (riseL (imgL false Ed [p] y)))] (by kernel_rfl) (by kernel_rfl) (by kernel_rfl) (by kernel_rfl) hmo ⟨?o0, ?o1, ?o2, ?o3, ?o4, ?o5, ?o6, ?o7, trivial⟩ ?fin
                    case o0 =>
                      intro At yy W hy hb d hd K hK
                      have s2 : At.tmps.getD 2 undef = .pointer (some ⟨w.heap.size, 0, none⟩) := hb 2 rfl
                      have s2' := s2
                      rw [Array.getD_eq_getD_getElem?] at s2'
                      clear hd hy hb
                      obtain ⟨y0, y1, y2, y3, y4⟩ := SB.out W (HB.out.trans (d.mono HB.out.size))
                      go_simp
                      exact hK.out _ W (stp_of hmo d (Below.refl _ _)) (if_pos rfl)
                    case o1 =>
                      intro At yy W hy hb d hd K hK
                      have s12 : At.tmps.getD 12 undef = .int .i64 p := hb 12 rfl
                      have s12' := s12
                      rw [Array.getD_eq_getD_getElem?] at s12'
                      clear hd hy hb
                      go_simp
                      exact hK.out _ W (stp_of hmo d (Below.refl _ _)) (if_pos rfl)
                    case o2 =>
                      intro At yy W hy hb d hd K hK
                      have e1 : yy 1 = .int .i64 p := by obtain ⟨_, _, _, _, e⟩ := hd ⟨1, .data⟩ (by simp) rfl rfl; exact e
                      have s95 := (hy 1 _ 95 rfl rfl).trans e1
                      have s95' := s95
                      rw [Array.getD_eq_getD_getElem?] at s95'
                      clear hd hy hb
                      go_simp
                      exact hK.out _ _ (stp_of hmo d ((Below.refl _ _).alloc (Nat.le_refl _) _)) ⟨if_pos rfl, by simp, World.alloc_heap_new _ _⟩
                    case o3 =>
                      intro At yy W hy hb d hd K hK
                      have s1 : At.tmps.getD 1 undef = .slice (some ⟨gu, ou, none⟩) Wd.length cw := hb 1 rfl
                      have s1' := s1
                      rw [Array.getD_eq_getD_getElem?] at s1'
                      clear hd hy hb
                      go_simp
                      exact hK.out _ W (stp_of hmo d (Below.refl _ _)) (if_pos rfl)
                    case o4 =>
                      intro At yy W hy hb d hd K hK
                      have s11 : At.tmps.getD 11 undef = .int .i64 i := hb 11 rfl
                      have s11' := s11
                      rw [Array.getD_eq_getD_getElem?] at s11'
                      clear hd hy hb
                      go_simp
                      exact hK.out _ W (stp_of hmo d (Below.refl _ _)) (if_pos rfl)
                    case o5 =>
                      intro At yy W hy hb d hd K hK
                      have e3 : yy 3 = .slice (some ⟨gu, ou, none⟩) Wd.length cw := by obtain ⟨_, _, _, _, e⟩ := hd ⟨3, .data⟩ (by simp) rfl rfl; exact e
                      have e4 : yy 4 = .int .i64 i := by obtain ⟨_, _, _, _, e⟩ := hd ⟨4, .data⟩ (by simp) rfl rfl; exact e
                      have s97 := (hy 3 _ 97 rfl rfl).trans e3
                      have s97' := s97
                      rw [Array.getD_eq_getD_getElem?] at s97'
                      have s98 := (hy 4 _ 98 rfl rfl).trans e4
                      have s98' := s98
                      rw [Array.getD_eq_getD_getElem?] at s98'
                      clear hd hy hb
                      go_simp
                      exact hK.out _ W (stp_of hmo d (Below.refl _ _)) (if_pos rfl)
                    case o6 =>
                      intro At yy W hy hb d hd K hK
                      have e5 : yy 5 = .pointer (some ⟨gu, ou + i, none⟩) := by obtain ⟨_, _, _, _, e⟩ := hd ⟨5, .data⟩ (by simp) rfl rfl; exact e
                      have s99 := (hy 5 _ 99 rfl rfl).trans e5
                      have s99' := s99
                      rw [Array.getD_eq_getD_getElem?] at s99'
                      clear hd hy hb
                      have q2 := SQ.out W (HB.out.trans (d.mono HB.out.size))
                      go_simp
                      exact hK.out _ W (stp_of hmo d (Below.refl _ _)) (if_pos rfl)
                    case o7 =>
                      intro At yy W hy hb d hd K hK
                      have e0 : yy 0 = .agg #[.int .i64 n, .int .i64 m, .slice a1 St.length c1, .slice a2 Fi.length c2, .slice a3 Ed.length c3] := by obtain ⟨_, _, _, _, e⟩ := hd ⟨0, .data⟩ (by simp) rfl rfl; exact e
                      have f2 := hd ⟨2, .data⟩ (by simp) rfl rfl
                      have e6 : yy 6 = .int .i64 y := by obtain ⟨_, _, _, _, e⟩ := hd ⟨6, .data⟩ (by simp) rfl rfl; exact e
                      have DW := HBW.out.trans (d.mono HBW.out.size)
                      obtain ⟨lo2, _, _, _, e2, l2, z2⟩ := f2
                      have s94 := (hy 0 _ 94 rfl rfl).trans e0
                      have s94' := s94
                      rw [Array.getD_eq_getD_getElem?] at s94'
                      have s96 := (hy 2 _ 96 rfl rfl).trans e2
                      have s96' := s96
                      rw [Array.getD_eq_getD_getElem?] at s96'
                      have s100 := (hy 6 _ 100 rfl rfl).trans e6
                      have s100' := s100
                      rw [Array.getD_eq_getD_getElem?] at s100'
                      clear hd hy hb
                      go_simp
                      go_wp2_with (go_at_call 77; refine (TN.out _ _ _ [p] y DW (rd_oneY z2) (by simp)).mono ?_; rintro e wa ⟨b2, c2, rfl, HO, da⟩)
                      exact hK.out _ wa (stp_of hmo d da) ⟨b2, c2, if_pos rfl, owns_down HO.out (Nat.zero_le _), fun k hk => (HO.out.lt k hk).2⟩
                    case fin =>
                      intro yy lo hi W hM
                      show wpList _ _ _ [_] _ _
                      have e0 : yy 0 = .agg #[.int .i64 n, .int .i64 m, .slice a1 St.length c1, .slice a2 Fi.length c2, .slice a3 Ed.length c3] := hM.fact 0 (by simp) rfl (notR_all 0 rfl)
                      have e1 : yy 1 = .int .i64 p := hM.fact 1 (by simp) rfl (notR_all 1 rfl)
                      have e3 : yy 3 = .slice (some ⟨gu, ou, none⟩) Wd.length cw := hM.fact 3 (by simp) rfl (notR_all 3 rfl)
                      have e4 : yy 4 = .int .i64 i := hM.fact 4 (by simp) rfl (notR_all 4 rfl)
                      have e5 : yy 5 = .pointer (some ⟨gu, ou + i, none⟩) := hM.fact 5 (by simp) rfl (notR_all 5 rfl)
                      have e6 : yy 6 = .int .i64 y := hM.fact 6 (by simp) rfl (notR_all 6 rfl)
                      have DZ := hide hM.d
                      have HO3 := hide (own_below HO2.out hM.d)
                      obtain ⟨b7, c7, e7, o7, _⟩ := hM.fact 7 (by simp) rfl (notR_all 7 rfl)
                      have HO7 := hide o7
                      obtain ⟨e2, _, _⟩ := hM.fact 2 (by simp) rfl (notR_all 2 rfl)
                      simp only [fills, Act.put, List.take, List.length, List.setIfInBounds_toArray, List.set_cons_zero, List.set_cons_succ, e0, e1, e3, e4, e5, e6, e2, e7]
                      clear hM hmo e0 e1 e3 e4 e5 e6 e2 e7 o7
                      go_wp2_with fail
                      go_roundw
                      case rel => exact ⟨i + 1, O ++ [p], _, bo2, co2, b7, c7, by omega, by rw [List.length_append]; rfl, rfl, by go_num, hide ⟨HD2.out.trans (DZ.out.mono (Nat.le_trans HD2.out.size (Nat.le_refl _))), HO3.out, fun _ => HO7.out, PN.out⟩⟩
                      case measure => simp [intOf]; omega
                  · have j0 : ¬ (i : Int) < (Wd.length : Int) := by omega
                    obtain rfl : i = Wd.length := by omega
                    have PN := hide (HY.out.2.2.2.last HP.out.2)
                    clear hOX
                    go_wp2_with (at_builtin; refine wpList_appI rfl _ _ rfl w6.heap.size (.slice bo O.length co) O rfl (own_below HOW.out ((Below.refl _ _).alloc (Nat.le_refl _) _)) wr.heap.size p rfl (World.alloc_heap_new _ _) HOL.out w6 (HBR.out.alloc HBR.out.size _) (Nat.le_refl _) ?_; intro v2 w2 HO2 HD2; obtain ⟨bo2, co2, rfl⟩ := own_slice HO2.out)
                    go_roundw
                    case rel => exact ⟨Wd.length + 1, O ++ [p], C, bo2, co2, bc, cc, by omega, by rw [List.length_append]; rfl, rfl, by go_num, hide ⟨HD2.out, HO2.out, fun h => by omega, PN.out⟩⟩
                    case measure => simp [intOf]
                · have k0 : ¬ (k : Int) < (C.length : Int) := by omega
                  have NL : ¬ p < 0 := by have := HP.out.1; omega
                  obtain ⟨OX, hOX⟩ : ∃ OX, O ++ [p] = OX := ⟨_, rfl⟩
                  have HOL : Hid (O.length ≤ 16777216) := hide (by have := HY.out.2.2.2.len; omega)
                  by_cases hil : i < Wd.length
                  · have j0 : (i : Int) < (Wd.length : Int) := by omega
                    have PN := hide (HY.out.2.2.2.next hil HP.out.2 HNE.out h3)
                    obtain ⟨gu, ou, hau, qx⟩ := hU.out i hil
                    subst hau
                    have SQ : Hid (∀ W, Below W0.heap.size W0 W → W.cell? ⟨gu, ou + i, none⟩ = some (.int .i64 Wd[i])) := hide (fun W d => (Below.cell (H0.out.1.trans (d.mono H0.out.1.size)) (p := ⟨gu, ou + i, none⟩) (World.block_lt_of_cell? w _ qx)).trans qx)
                    clear qx hOX
                    generalize Wd[i] = y at SQ PN
                    go_upto_region 25 with (at_builtin; refine wpList_appI rfl _ _ rfl w6.heap.size (.slice bo O.length co) O rfl (own_below HOW.out ((Below.refl _ _).alloc (Nat.le_refl _) _)) wr.heap.size p rfl (World.alloc_heap_new _ _) HOL.out w6 (HBR.out.alloc HBR.out.size _) (Nat.le_refl _) ?_; intro v2 w2 HO2 HD2; obtain ⟨bo2, co2, rfl⟩ := own_slice HO2.out)
                    have HB : Hid (Below W0.heap.size W0 w2) := hide (H6.out.1.trans (HD2.out.mono H6.out.1.size))
                    have HBW : Hid (Below w.heap.size w w2) := hide (H0.out.1.trans (HB.out.mono H0.out.1.size))
                    have hmo : MonIL 0 [vI 0 (.agg #[.int .i64 n, .int .i64 m, .slice a1 St.length c1, .slice a2 Fi.length c2, .slice a3 Ed.length c3]), vI 1 (.int .i64 p), pI 2 (oneY (.int .i64 p)), vI 3 (.slice (some ⟨gu, ou, none⟩) Wd.length cw), vI 4 (.int .i64 i), vI 5 (.pointer (some ⟨gu, ou + i, none⟩)), vI 6 (.int .i64 y), pI 7 (rowY (riseL (imgL false Ed [p] y)))] := ⟨vI_mono _ _, vI_mono _ _, pI_mono oneY_mono, vI_mono _ _, vI_mono _ _, vI_mono _ _, vI_mono _ _, pI_mono rowY_mono, trivial⟩
                    refine wp_region_sl [vI 0 (.agg #[.int .i64 n, .int .i64 m, .slice a1 St.length c1, .slice a2 Fi.length c2, .slice a3 Ed.length c3]), vI 1 (.int .i64 p), pI 2 (oneY (.int .i64 p)), vI 3 (.slice (some ⟨gu, ou, none⟩) Wd.length cw), vI 4 (.int .i64 i), vI 5 (.pointer (some ⟨gu, ou + i, none⟩)), vI 6 (.int .i64 y), pI 7 (rowY (riseL (imgL false Ed [p] y)))] (by kernel_rfl) (by kernel_rfl) (by kernel_rfl) (by kernel_rfl) hmo ⟨?o0, ?o1, ?o2, ?o3, ?o4, ?o5, ?o6, ?o7, trivial⟩ ?fin
                    case o0 =>
                      intro At yy W hy hb d hd K hK
                      have s2 : At.tmps.getD 2 undef = .pointer (some ⟨w.heap.size, 0, none⟩) := hb 2 rfl
                      have s2' := s2
                      rw [Array.getD_eq_getD_getElem?] at s2'
                      clear hd hy hb
                      obtain ⟨y0, y1, y2, y3, y4⟩ := SB.out W (HB.out.trans (d.mono HB.out.size))
                      go_simp
                      exact hK.out _ W (stp_of hmo d (Below.refl _ _)) (if_pos rfl)
                    case o1 =>
                      intro At yy W hy hb d hd K hK
                      have s12 : At.tmps.getD 12 undef = .int .i64 p := hb 12 rfl
                      have s12' := s12
                      rw [Array.getD_eq_getD_getElem?] at s12'
                      clear hd hy hb
                      go_simp
                      exact hK.out _ W (stp_of hmo d (Below.refl _ _)) (if_pos rfl)
                    case o2 =>
                      intro At yy W hy hb d hd K hK
                      have e1 : yy 1 = .int .i64 p := by obtain ⟨_, _, _, _, e⟩ := hd ⟨1, .data⟩ (by simp) rfl rfl; exact e
                      have s95 := (hy 1 _ 95 rfl rfl).trans e1
                      have s95' := s95
                      rw [Array.getD_eq_getD_getElem?] at s95'
                      clear hd hy hb
                      go_simp
                      exact hK.out _ _ (stp_of hmo d ((Below.refl _ _).alloc (Nat.le_refl _) _)) ⟨if_pos rfl, by simp, World.alloc_heap_new _ _⟩
                    case o3 =>
                      intro At yy W hy hb d hd K hK
                      have s1 : At.tmps.getD 1 undef = .slice (some ⟨gu, ou, none⟩) Wd.length cw := hb 1 rfl
                      have s1' := s1
                      rw [Array.getD_eq_getD_getElem?] at s1'
                      clear hd hy hb
                      go_simp
                      exact hK.out _ W (stp_of hmo d (Below.refl _ _)) (if_pos rfl)
                    case o4 =>
                      intro At yy W hy hb d hd K hK
                      have s11 : At.tmps.getD 11 undef = .int .i64 i := hb 11 rfl
                      have s11' := s11
                      rw [Array.getD_eq_getD_getElem?] at s11'
                      clear hd hy hb
                      go_simp
                      exact hK.out _ W (stp_of hmo d (Below.refl _ _)) (if_pos rfl)
                    case o5 =>
                      intro At yy W hy hb d hd K hK
                      have e3 : yy 3 = .slice (some ⟨gu, ou, none⟩) Wd.length cw := by obtain ⟨_, _, _, _, e⟩ := hd ⟨3, .data⟩ (by simp) rfl rfl; exact e
                      have e4 : yy 4 = .int .i64 i := by obtain ⟨_, _, _, _, e⟩ := hd ⟨4, .data⟩ (by simp) rfl rfl; exact e
                      have s97 := (hy 3 _ 97 rfl rfl).trans e3
                      have s97' := s97
                      rw [Array.getD_eq_getD_getElem?] at s97'
                      have s98 := (hy 4 _ 98 rfl rfl).trans e4
                      have s98' := s98
                      rw [Array.getD_eq_getD_getElem?] at s98'
                      clear hd hy hb
                      go_simp
                      exact hK.out _ W (stp_of hmo d (Below.refl _ _)) (if_pos rfl)
                    case o6 =>
                      intro At yy W hy hb d hd K hK
                      have e5 : yy 5 = .pointer (some ⟨gu, ou + i, none⟩) := by obtain ⟨_, _, _, _, e⟩ := hd ⟨5, .data⟩ (by simp) rfl rfl; exact e
                      have s99 := (hy 5 _ 99 rfl rfl).trans e5
                      have s99' := s99
                      rw [Array.getD_eq_getD_getElem?] at s99'
                      clear hd hy hb
                      have q2 := SQ.out W (HB.out.trans (d.mono HB.out.size))
                      go_simp
                      exact hK.out _ W (stp_of hmo d (Below.refl _ _)) (if_pos rfl)
                    case o7 =>
                      intro At yy W hy hb d hd K hK
                      have e0 : yy 0 = .agg #[.int .i64 n, .int .i64 m, .slice a1 St.length c1, .slice a2 Fi.length c2, .slice a3 Ed.length c3] := by obtain ⟨_, _, _, _, e⟩ := hd ⟨0, .data⟩ (by simp) rfl rfl; exact e
                      have f2 := hd ⟨2, .data⟩ (by simp) rfl rfl
                      have e6 : yy 6 = .int .i64 y := by obtain ⟨_, _, _, _, e⟩ := hd ⟨6, .data⟩ (by simp) rfl rfl; exact e
                      have DW := HBW.out.trans (d.mono HBW.out.size)
                      obtain ⟨lo2, _, _, _, e2, l2, z2⟩ := f2
                      have s94 := (hy 0 _ 94 rfl rfl).trans e0
                      have s94' := s94
                      rw [Array.getD_eq_getD_getElem?] at s94'
                      have s96 := (hy 2 _ 96 rfl rfl).trans e2
                      have s96' := s96
                      rw [Array.getD_eq_getD_getElem?] at s96'
                      have s100 := (hy 6 _ 100 rfl rfl).trans e6
                      have s100' := s100
                      rw [Array.getD_eq_getD_getElem?] at s100'
                      clear hd hy hb
                      go_simp
                      go_wp2_with (go_at_call 77; refine (TN.out _ _ _ [p] y DW (rd_oneY z2) (by simp)).mono ?_; rintro e wa ⟨b2, c2, rfl, HO, da⟩)
                      exact hK.out _ wa (stp_of hmo d da) ⟨b2, c2, if_pos rfl, owns_down HO.out (Nat.zero_le _), fun k hk => (HO.out.lt k hk).2⟩
                    case fin =>
                      intro yy lo hi W hM
                      show wpList _ _ _ [_] _ _
                      have e0 : yy 0 = .agg #[.int .i64 n, .int .i64 m, .slice a1 St.length c1, .slice a2 Fi.length c2, .slice a3 Ed.length c3] := hM.fact 0 (by simp) rfl (notR_all 0 rfl)
                      have e1 : yy 1 = .int .i64 p := hM.fact 1 (by simp) rfl (notR_all 1 rfl)
                      have e3 : yy 3 = .slice (some ⟨gu, ou, none⟩) Wd.length cw := hM.fact 3 (by simp) rfl (notR_all 3 rfl)
                      have e4 : yy 4 = .int .i64 i := hM.fact 4 (by simp) rfl (notR_all 4 rfl)
                      have e5 : yy 5 = .pointer (some ⟨gu, ou + i, none⟩) := hM.fact 5 (by simp) rfl (notR_all 5 rfl)
                      have e6 : yy 6 = .int .i64 y := hM.fact 6 (by simp) rfl (notR_all 6 rfl)
                      have DZ := hide hM.d
                      have HO3 := hide (own_below HO2.out hM.d)
                      obtain ⟨b7, c7, e7, o7, _⟩ := hM.fact 7 (by simp) rfl (notR_all 7 rfl)
                      have HO7 := hide o7
                      obtain ⟨e2, _, _⟩ := hM.fact 2 (by simp) rfl (notR_all 2 rfl)
                      simp only [fills, Act.put, List.take, List.length, List.setIfInBounds_toArray, List.set_cons_zero, List.set_cons_succ, e0, e1, e3, e4, e5, e6, e2, e7]
                      clear hM hmo e0 e1 e3 e4 e5 e6 e2 e7 o7
                      go_wp2_with fail
                      go_roundw
                      case rel => exact ⟨i + 1, O ++ [p], _, bo2, co2, b7, c7, by omega, by rw [List.length_append]; rfl, rfl, by go_num, hide ⟨HD2.out.trans (DZ.out.mono (Nat.le_trans HD2.out.size (Nat.le_refl _))), HO3.out, fun _ => HO7.out, PN.out⟩⟩
                      case measure => simp [intOf]; omega
                  · have j0 : ¬ (i : Int) < (Wd.length : Int) := by omega
                    obtain rfl : i = Wd.length := by omega
                    have PN := hide (HY.out.2.2.2.last HP.out.2)
                    clear hOX
                    go_wp2_with (at_builtin; refine wpList_appI rfl _ _ rfl w6.heap.size (.slice bo O.length co) O rfl (own_below HOW.out ((Below.refl _ _).alloc (Nat.le_refl _) _)) wr.heap.size p rfl (World.alloc_heap_new _ _) HOL.out w6 (HBR.out.alloc HBR.out.size _) (Nat.le_refl _) ?_; intro v2 w2 HO2 HD2; obtain ⟨bo2, co2, rfl⟩ := own_slice HO2.out)
                    go_roundw
                    case rel => exact ⟨Wd.length + 1, O ++ [p], C, bo2, co2, bc, cc, by omega, by rw [List.length_append]; rfl, rfl, by go_num, hide ⟨HD2.out, HO2.out, fun h => by omega, PN.out⟩⟩
                    case measure => simp [intOf]
              · obtain ⟨rfl, HT⟩ : p = -1 ∧ Hid (∀ t (h : t < C.length), t < k → C[t] ∉ L) := by
                  rcases HP0.out with ⟨h, h'⟩ | h
                  · exact ⟨h, hide h'⟩
                  · exact absurd h.1 hp
                clear HP0 hp
                by_cases kl : k < C.length
                · have k0 : (k : Int) < (C.length : Int) := by omega
                  have k1 : (0 : Int) ≤ (k : Int) := by omega
                  have kw : IntKind.i64.wrap ((k : Int) + 1) = (k : Int) + 1 := by rw [IntKind.wrap_i64]; omega
                  obtain ⟨gc, oc, hbc, qc⟩ := (HCR.out.on HZ.out) k kl
                  subst hbc
                  have qi := (HZ.out.cell (p := ⟨gl, i, none⟩) (World.block_lt_of_cell? wo _ HLI.out.1)).trans HLI.out.1
                  have HRL := hide (own_rdN (own_below HLI.out.2 HZ.out))
                  have TI : Hid (∀ W, RdN W bi L → Calls Tryz.prog 60 #[.slice bi L.length ci, .int .i64 C[k]] W fun e w' => e = .returned (.bool (decide (C[k] ∈ L))) ∧ w' = W) := hide (fun W h => in60 W bi L ci C[k] (hide h) HL)
                  by_cases hm : C[k] ∈ L
                  · have HN : Hid (0 ≤ C[k] ∧ fstL C L = some C[k]) := hide ⟨HCN.out _ (List.getElem_mem kl), fst_some kl hm HT.out⟩
                    have hd : decide (C[k] ∈ L) = true := by simpa using hm
                    rw [hd] at TI
                    clear hd hm
                    generalize C[k] = x at qc HN TI
                    go_upto_region 19 with fail
                    refine wp_region_phase 8 #[true, true, true, true, true, true, true, true, false] (by kernel_rfl) (by kernel_rfl) ?_
                    simp only [List.take_succ_cons, List.take_zero, List.drop_succ_cons, List.drop_zero]
                    repeat (go_big_quiet_step (fail))
                    refine wpQuiet_nil ?_
                    intro wz hzz
                    obtain ⟨nq, rfl⟩ := hzz
                    go_wp2_with (go_at_call 60; refine (TI.out _ (HRL.out.on (below_drewN2 (Below.refl _ wr) nq))).mono ?_; rintro e w7 ⟨rfl, hw7⟩; obtain rfl := hw7.symm; clear hw7)
                    go_roundw
                    case rel => exact ⟨k + 1, x, by omega, by go_num, rfl, hide (Or.inr HN.out), hide (below_drewN2 HZ.out nq)⟩
                    case measure => simp [intOf]; omega
                  · have HN : Hid (∀ t (h : t < C.length), t < k + 1 → C[t] ∉ L) := hide (fun t ht h2 => by
                      rcases Nat.lt_or_ge t k with h3 | h3
                      · exact HT.out t ht h3
                      · obtain rfl : t = k := by omega
                        exact hm)
                    have hd : decide (C[k] ∈ L) = false := by simpa using hm
                    rw [hd] at TI
                    clear hd hm
                    generalize C[k] = x at qc TI
                    go_upto_region 19 with fail
                    refine wp_region_phase 8 #[true, true, true, true, true, true, true, true, false] (by kernel_rfl) (by kernel_rfl) ?_
                    simp only [List.take_succ_cons, List.take_zero, List.drop_succ_cons, List.drop_zero]
                    repeat (go_big_quiet_step (fail))
                    refine wpQuiet_nil ?_
                    intro wz hzz
                    obtain ⟨nq, rfl⟩ := hzz
                    go_wp2_with (go_at_call 60; refine (TI.out _ (HRL.out.on (below_drewN2 (Below.refl _ wr) nq))).mono ?_; rintro e w7 ⟨rfl, hw7⟩; obtain rfl := hw7.symm; clear hw7)
                    go_roundw
                    case rel => exact ⟨k + 1, -1, by omega, by go_num, rfl, hide (Or.inl ⟨rfl, HN.out⟩), hide (below_drewN2 HZ.out nq)⟩
                    case measure => simp [intOf]; omega
                · have k0 : ¬ (k : Int) < (C.length : Int) := by omega
                  have HVN := hide (FN.out (HY.out.2.2.2.none hle (by rw [HLE.out]; exact fst_none fun t ht => HT.out t ht (by omega))))
                  go_wp2_with fail
                  go_ret2
                  rw [HVN.out]
                  exact lans_bad rfl (H0.out.1.trans (HBL.out.mono H0.out.1.size))
          · have i0 : ¬ (i : Int) ≤ (Wd.length : Int) := by omega
            have HVS := hide (FS.out _ (HY.out.2.2.2.fin (by omega)))
            have HDF := hide (And.intro (owns_down HY.out.2.1 (Nat.le_trans H0.out.1.size H6.out.1.size)) (H0.out.1.trans ((H6.out.1.trans (HY.out.1.mono H6.out.1.size)).mono H0.out.1.size)))
            go_wp2_with fail
            go_ret2
            rw [HVS.out]
            exact ⟨bo, co, rfl, hide HDF.out.1, HDF.out.2⟩
end Go.Proofs.YtfoahpideglghaaGreatDoor
namespace Go.Proofs.YtfoahpideglghaaGreatDoor
open Go.RowKit Go.Maps Go.Shelf

/-- The rest of a word as a set. -/
def restW (Ed : List EdT) (F0 : Nat) (W : List Int) : Nat := W.foldr (fun y X => imgF true X y Ed) F0
theorem live_is {N : Nat} {Ed : List EdT} {Fi : List Int} (hi : ∀ x ∈ Ed, (0 ≤ x.1 ∧ x.1 < (N : Int)) ∧ 0 ≤ x.2.2 ∧ x.2.2 < (N : Int)) (hF : Fi.all (inB N) = true) : ∀ W : List Int, itl (elems N (restW Ed (setI N Fi) W)) = liveW Ed Fi W
  | [] => set_step hF
  | y :: W => by
    show itl (elems N (imgF true (restW Ed (setI N Fi) W) y Ed)) = riseL (imgL true Ed (liveW Ed Fi W) y)
    rw [img_step hi, live_is hi hF W]
theorem fst_least {C L : List Int} {p : Int} (hC : C.Pairwise (· < ·)) (hp : p ∈ C) (hL : p ∈ L) (hm : ∀ x ∈ C, x ∈ L → p ≤ x) : fstL C L = some p := by
  obtain ⟨k, hk, rfl⟩ := List.getElem_of_mem hp
  refine fst_some hk hL fun t ht htk hx => ?_
  have a := hm _ (List.getElem_mem ht) hx
  have b := List.pairwise_iff_getElem.1 hC t k ht hk htk
  omega
theorem fst_mem {C L : List Int} {p : Int} (h : fstL C L = some p) : p ∈ C ∧ p ∈ L := by
  have := List.find?_some h
  exact ⟨List.mem_of_find?_eq_some h, by simpa using this⟩
theorem stP_shift (Es : List EdT) (F : Nat → Nat) (y : Int) (W : List Int) (p0 : Nat) : ∀ i, stP Es F (y :: W) p0 (i + 1) = stP Es (fun i => F (i + 1)) W (nxtP Es (F 1) p0 y) i
  | 0 => rfl
  | i + 1 => by
    show nxtP Es (F (i + 1 + 1)) (stP Es F (y :: W) p0 (i + 1)) ((y :: W).getD (i + 1) 0) = _
    rw [stP_shift Es F y W p0 i]
    rfl
theorem path_shift (Es : List EdT) (F : Nat → Nat) (y : Int) (W : List Int) (p0 k : Nat) : pathF Es F (y :: W) p0 (k + 1) = p0 :: pathF Es (fun i => F (i + 1)) W (nxtP Es (F 1) p0 y) k := by
  unfold pathF
  rw [List.range_succ_eq_map, List.map_cons, List.map_map]
  congr 1
  exact List.map_congr_left fun i _ => stP_shift Es F y W p0 i
theorem nxt_is {N : Nat} {Ed : List EdT} {Fi : List Int} (hi : ∀ x ∈ Ed, (0 ≤ x.1 ∧ x.1 < (N : Int)) ∧ 0 ≤ x.2.2 ∧ x.2.2 < (N : Int)) (hF : Fi.all (inB N) = true) (y : Int) (W : List Int) (p0 : Nat) (h : (p0 : Int) ∈ liveW Ed Fi (y :: W)) : fstL (riseL (imgL false Ed [(p0 : Int)] y)) (liveW Ed Fi W) = some ((nxtP (riseE Ed) (restW Ed (setI N Fi) W) p0 y : Nat) : Int) := by
  have hb : ∀ x : Int, hasB (restW Ed (setI N Fi) W) x = true → x < (N : Int) → x ∈ liveW Ed Fi W := fun x hx hn => by
    rw [← live_is hi hF W]
    have := hasB_nat hx
    exact mem_el.2 ⟨⟨this.1, hn⟩, this.2⟩
  have hb2 : ∀ x : Int, x ∈ liveW Ed Fi W → hasB (restW Ed (setI N Fi) W) x = true := fun x hx => by
    rw [← live_is hi hF W] at hx
    have := mem_el.1 hx
    exact hasB_of this.1.1 this.2
  obtain ⟨e, he, hs, h1, h2⟩ := imgL_iff.1 ((riseL_iff _ _).1 (show (p0 : Int) ∈ riseL (imgL true Ed (liveW Ed Fi W) y) from h))
  have h1 : e.2.2 ∈ liveW Ed Fi W := h1
  have h2 : e.1 = (p0 : Int) := h2
  have hf : e ∈ fromL (riseE Ed) p0 y := fromL_iff.2 ⟨(riseE_iff Ed e).2 he, h2, hs⟩
  obtain ⟨hk, hx, hz⟩ := frst_in (X := restW Ed (setI N Fi) W) ⟨e, hf, hb2 _ h1⟩
  have ss := fromL_ss (riseE_ss Ed) p0 y
  have hn : nxtP (riseE Ed) (restW Ed (setI N Fi) W) p0 y = (fromL (riseE Ed) p0 y)[frstE (restW Ed (setI N Fi) W) (fromL (riseE Ed) p0 y)].2.2.toNat := by
    unfold nxtP
    rw [List.getD_eq_getElem?_getD, List.getElem?_eq_getElem hk]
    rfl
  have hm := fromL_iff.1 (List.getElem_mem hk)
  have hk2 := hi _ ((riseE_iff Ed _).1 hm.1)
  rw [hn, Int.toNat_of_nonneg hk2.2.1]
  refine fst_least (riseL_ss _) ((riseL_iff _ _).2 (imgL_iff.2 ⟨_, (riseE_iff Ed _).1 hm.1, hm.2.2, by simpa [ends] using hm.2.1, rfl⟩)) (hb _ hx hk2.2.2) fun x hc hl => ?_
  obtain ⟨e', he', hs', h1', h2'⟩ := imgL_iff.1 ((riseL_iff _ _).1 hc)
  have h1' : e'.1 = (p0 : Int) := by simpa [ends] using h1'
  have h2' : e'.2.2 = x := h2'
  have hf' : e' ∈ fromL (riseE Ed) p0 y := fromL_iff.2 ⟨(riseE_iff Ed e').2 he', h1', hs'⟩
  obtain ⟨t, ht, het⟩ := List.getElem_of_mem hf'
  have hge : frstE (restW Ed (setI N Fi) W) (fromL (riseE Ed) p0 y) ≤ t := Nat.le_of_not_lt fun hlt => by
    have := hz t ht hlt
    rw [het, h2', hb2 x hl] at this
    cases this
  rcases Nat.lt_or_eq_of_le hge with hlt | heq
  · have := List.pairwise_iff_getElem.1 ss _ t hk ht hlt
    rw [het, ltE_iff] at this
    have a := hm.2
    omega
  · have : (fromL (riseE Ed) p0 y)[frstE (restW Ed (setI N Fi) W) (fromL (riseE Ed) p0 y)] = e' := by rw [← het]; congr 1
    rw [this, h2']
    exact Int.le_refl _
theorem pth_is {N : Nat} {Ed : List EdT} {Fi : List Int} (hi : ∀ x ∈ Ed, (0 ≤ x.1 ∧ x.1 < (N : Int)) ∧ 0 ≤ x.2.2 ∧ x.2.2 < (N : Int)) (hF : Fi.all (inB N) = true) : ∀ (W C : List Int) (p0 : Nat), fstL C (liveW Ed Fi W) = some (p0 : Int) → pthR Ed Fi W C = some (itl (pathF (riseE Ed) (fun j => restW Ed (setI N Fi) (W.drop j)) W p0 (W.length + 1)))
  | [], C, p0, h => by
    unfold pthR
    rw [h]
    rfl
  | y :: W, C, p0, h => by
    rw [pthR, h]
    have q := pth_is hi hF W (riseL (imgL false Ed [(p0 : Int)] y)) _ (nxt_is hi hF y W p0 (fst_mem h).2)
    simp only [Option.bind_some]
    rw [q, List.length_cons, path_shift]
    rfl
theorem pth_none {N : Nat} {Ed : List EdT} {St Fi Wd : List Int} (hi : ∀ x ∈ Ed, (0 ≤ x.1 ∧ x.1 < (N : Int)) ∧ 0 ≤ x.2.2 ∧ x.2.2 < (N : Int)) (hF : Fi.all (inB N) = true) (hS : St.all (inB N) = true) (hz : setI N St &&& restF Ed (setI N Fi) Wd 0 = 0) : pthR Ed Fi Wd (riseL St) = none := by
  have hn : fstL (riseL St) (liveW Ed Fi Wd) = none := List.find?_eq_none.2 fun x hx hl => by
    have hl : x ∈ liveW Ed Fi Wd := by simpa using hl
    rw [← live_is hi hF Wd] at hl
    rw [← set_step hS] at hx
    have a := mem_el.1 hx
    have b := mem_el.1 hl
    exact (and_zero_iff _ _).1 hz ⟨x, hasB_of a.1.1 a.2, hasB_of b.1.1 b.2⟩
  cases Wd with
  | nil => unfold pthR; rw [hn]; rfl
  | cons y W => unfold pthR; rw [hn]; rfl
theorem pth_some {N : Nat} {Ed : List EdT} {St Fi Wd : List Int} (hi : ∀ x ∈ Ed, (0 ≤ x.1 ∧ x.1 < (N : Int)) ∧ 0 ≤ x.2.2 ∧ x.2.2 < (N : Int)) (hF : Fi.all (inB N) = true) (hS : St.all (inB N) = true) (hz : setI N St &&& restF Ed (setI N Fi) Wd 0 ≠ 0) : ∃ p0 : Nat, nextL (elems N (setI N St &&& restF Ed (setI N Fi) Wd 0)) 0 = (p0 : Int) ∧ pthR Ed Fi Wd (riseL St) = some (itl (pathF (riseE Ed) (restF Ed (setI N Fi) Wd) Wd p0 (Wd.length + 1))) := by
  obtain ⟨q, hq⟩ : ∃ q, (setI N St &&& restF Ed (setI N Fi) Wd 0).testBit q = true := Nat.exists_testBit_of_ne_zero hz
  have hq1 : (setI N St).testBit q = true := by rw [Nat.testBit_and, Bool.and_eq_true] at hq; exact hq.1
  have hqe : q ∈ elems N (setI N St &&& restF Ed (setI N Fi) Wd 0) := mem_elems.2 ⟨bit_lt (setI_lt N St) hq1, hq⟩
  have hs := elems_sorted N (setI N St &&& restF Ed (setI N Fi) Wd 0)
  obtain ⟨p0, l, hl⟩ : ∃ p0 l, elems N (setI N St &&& restF Ed (setI N Fi) Wd 0) = p0 :: l := by
    cases hE : elems N (setI N St &&& restF Ed (setI N Fi) Wd 0) with
    | nil => rw [hE] at hqe; cases hqe
    | cons a l => exact ⟨a, l, rfl⟩
  refine ⟨p0, by rw [hl]; unfold nextL; rw [if_pos (by omega)], ?_⟩
  have hp := mem_elems.1 (show p0 ∈ elems N (setI N St &&& restF Ed (setI N Fi) Wd 0) by rw [hl]; exact List.mem_cons_self)
  have hp2 := hp.2
  rw [Nat.testBit_and, Bool.and_eq_true] at hp2
  have e0 : restF Ed (setI N Fi) Wd 0 = restW Ed (setI N Fi) Wd := by unfold restF restW; rw [List.drop_zero]
  have hfst : fstL (riseL St) (liveW Ed Fi Wd) = some (p0 : Int) := by
    rw [← live_is hi hF Wd, ← set_step hS]
    refine fst_least (itl_ss _ _) (mem_el.2 ⟨⟨by omega, by omega⟩, by simpa using hp2.1⟩) (mem_el.2 ⟨⟨by omega, by omega⟩, by rw [← e0]; simpa using hp2.2⟩) fun x hx hy => ?_
    have a := mem_el.1 hx
    have b := mem_el.1 hy
    have hm : x.toNat ∈ elems N (setI N St &&& restF Ed (setI N Fi) Wd 0) := mem_elems.2 ⟨by omega, by rw [Nat.testBit_and, a.2, e0, b.2]; rfl⟩
    rw [hl] at hm hs
    rcases List.mem_cons.1 hm with e | e
    · omega
    · have := (List.pairwise_cons.1 hs).1 _ e
      omega
  exact pth_is hi hF Wd (riseL St) p0 hfst
theorem path_ans (w : World) (n m : Int) (a1 a2 a3 : Option Addr) (c1 c2 c3 : Nat) (St Fi : List Int) (Ed : List EdT) (u1 : Option Addr) (cw : Nat) (Wd : List Int) (hA : Hid (RdA w a1 a2 a3 St Fi Ed)) (hU : Hid (RdN w u1 Wd)) (hT : Hid (TabAt w ∧ 0 < w.heap.size)) (h1 : St.length ≤ 4194304) (h2 : Fi.length ≤ 4194304) (h3 : Ed.length ≤ 4194304) (hw : Wd.length ≤ 4194304) :
    Calls Tryz.prog 12 #[.agg #[.int .i64 n, .int .i64 m, .slice a1 St.length c1, .slice a2 Fi.length c2, .slice a3 Ed.length c3], .slice u1 Wd.length cw] w (LAns w (pthA n m St Fi Ed Wd)) := by
  unfold pthA
  by_cases e0 : wordErr n m St Fi Ed Wd = 0
  · rw [if_pos e0]
    have em := word_may e0
    obtain ⟨N, rfl⟩ := Int.eq_ofNat_of_zero_le (may_parts em).1.1
    have hi := may_in em
    have hS := (may_parts em).2.2.2.1
    have hF := (may_parts em).2.2.2.2.1
    by_cases hz : setI N St &&& restF Ed (setI N Fi) Wd 0 = 0
    · rw [pth_none hi hF hS hz]
      exact (Path_none w N m a1 a2 a3 u1 c1 c2 c3 cw St Fi Ed Wd hA hU hT h1 h2 h3 hw e0 hz).mono fun e w' ⟨he, d⟩ => lans_bad he d
    · obtain ⟨p0, hp0, hr⟩ := pth_some hi hF hS hz
      rw [hr]
      have l : (pathF (riseE Ed) (restF Ed (setI N Fi) Wd) Wd p0 (Wd.length + 1)).length = Wd.length + 1 := pathF_len _ _ _ _ _
      refine (Path_ok w N m a1 a2 a3 u1 c1 c2 c3 cw St Fi Ed Wd hA hU hT h1 h2 h3 hw e0 p0 (hide hz) hp0).mono fun e w' ⟨gl, cl, he, ho, d⟩ => ?_
      have ho := ho.out
      generalize pathF (riseE Ed) (restF Ed (setI N Fi) Wd) Wd p0 (Wd.length + 1) = Z at l ho ⊢
      rw [← l] at he ho
      exact lans_of rfl he ho d
  · rw [if_neg e0]
    exact (Path_bad w n m a1 a2 a3 u1 c1 c2 c3 cw St Fi Ed Wd hA hU h1 h2 h3 hw e0).mono fun e w' ⟨he, d⟩ => lans_bad he d
end Go.Proofs.YtfoahpideglghaaGreatDoor
