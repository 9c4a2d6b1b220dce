import Derived.Test.YtdgmokelmocejabDoorRfrom2
namespace Go.Proofs.YtdgmokelmocejabDoor
open Go.RowKit

theorem Reads.below {w w' : World} {ao : Option Addr} {l : List Nat} (h : Reads w ao l) (hb : Below w.heap.size w w') : Reads w' ao l := fun k hk => by
  obtain ⟨g, rfl, hc⟩ := h k hk
  exact ⟨g, rfl, (hb.cell (p := ⟨g, k, none⟩) (World.block_lt_of_cell? w _ hc)).trans hc⟩

/-- What 'shows' has at hand: its copy of the document's set (block R), the program's set, the table of math/bits. -/
structure Ctx (wq : World) (R b g cs n X : Nat) (ao : Option Addr) (cap : Nat) : Prop where
  box : wq.heap[R]? = some (.cells #[.int .i64 n, .slice ao (elems n X).length cap] 42 (0, 0))
  set : IsSet wq b g cs n X
  tab : TabAt wq
  reads : Reads wq ao (elems n X)

theorem Ctx.below {w w' : World} {R b g cs n X : Nat} {ao : Option Addr} {cap : Nat} (h : Ctx w R b g cs n X ao cap) (hb : Below w.heap.size w w') : Ctx w' R b g cs n X ao cap :=
  ⟨by rw [hb.block _ (cell_lt h.box)]; exact h.box, h.set.below hb, h.tab.below hb (Nat.lt_of_le_of_lt (Nat.zero_le _) h.set.blt), h.reads.below hb⟩

theorem Ctx.r0 {w : World} {R b g cs n X : Nat} {ao : Option Addr} {cap : Nat} (h : Ctx w R b g cs n X ao cap) : w.cell? ⟨R, 0, none⟩ = some (.int .i64 n) := by rw [cell_of_row w _ 0 _ 42 (0, 0) h.box]; rfl
theorem Ctx.r1 {w : World} {R b g cs n X : Nat} {ao : Option Addr} {cap : Nat} (h : Ctx w R b g cs n X ao cap) : w.cell? ⟨R, 1, none⟩ = some (.slice ao (elems n X).length cap) := by rw [cell_of_row w _ 1 _ 42 (0, 0) h.box]; rfl

theorem owns_below {w w' : World} {base e size : Nat} {v : Value} {n : Nat} {xs : List Value} (h : w.ownsRow base e size v n xs) (hb : Below w.heap.size w w') : w'.ownsRow base e size v n xs :=
  h.kept (row := none) ⟨hb.os, hb.tape, hb.output, hb.size, fun k hk _ => hb.block k hk⟩ (by cases hv : v.ownBlock <;> simp)

theorem same_true {a1 a2 : Option Addr} {c1 c2 n1 n2 : Nat} {l : List Nat} {w : World} (e1 : n1 = l.length) (e2 : n2 = l.length) (r1 : Reads w a1 l) (r2 : Reads w a2 l) (hlen : l.length ≤ 100000) :
    Calls Tryd.prog 22 #[.slice a1 n1 c1, .slice a2 n2 c2] w fun e w' => e = .returned (.bool true) ∧ ∃ q, w' = w.drewN q := by
  have := same_any (c1 := c1) (c2 := c2) e1 e2 r1 r2 hlen
  rwa [decide_eq_true rfl] at this

theorem below_drewN' {B : Nat} {w w' : World} (h : Below B w w') (q : Nat) : Below B w (w'.drewN q) := ⟨h.os, h.tape, h.output, h.size, h.block⟩

theorem keepS {W0 w1 w2 : World} {R : Nat} {v0 v1 : Value} (h : w1.cell? ⟨R, 0, none⟩ = some v0 ∧ w1.cell? ⟨R, 1, none⟩ = some v1 ∧ Below W0.heap.size W0 w1) (hb : Below w1.heap.size w1 w2) :
    w2.cell? ⟨R, 0, none⟩ = some v0 ∧ w2.cell? ⟨R, 1, none⟩ = some v1 ∧ Below W0.heap.size W0 w2 :=
  ⟨(hb.cell (p := ⟨R, 0, none⟩) (World.block_lt_of_cell? w1 _ h.1)).trans h.1, (hb.cell (p := ⟨R, 1, none⟩) (World.block_lt_of_cell? w1 _ h.2.1)).trans h.2.1, h.2.2.trans (hb.mono h.2.2.size)⟩
theorem ctxS {W0 w1 : World} {R b g cs n X : Nat} {ao : Option Addr} {cap : Nat} (H : Hid (Ctx W0 R b g cs n X ao cap))
    (h : w1.cell? ⟨R, 0, none⟩ = some (.int .i64 n) ∧ w1.cell? ⟨R, 1, none⟩ = some (.slice ao (elems n X).length cap) ∧ Below W0.heap.size W0 w1) : Ctx w1 R b g cs n X ao cap := H.out.below h.2.2

theorem bound_b (b n : Nat) (w : World) (hc : w.cell? ⟨b, 0, none⟩ = some (.int .i64 n)) :
    Calls Tryd.prog 36 #[.pointer (some ⟨b, 0, none⟩)] w fun e w' => e = .returned (.int .i64 n) ∧ Below w.heap.size w w' :=
  (bound_any b n w hc).mono fun _ _ h => ⟨h.1, by rw [h.2]; exact Below.refl _ _⟩
theorem count_b (b g cap n X : Nat) (w : World) (hs : IsSet w b g cap n X) :
    Calls Tryd.prog 16 #[.pointer (some ⟨b, 0, none⟩)] w fun e w' => e = .returned (.int .i64 (elems n X).length) ∧ Below w.heap.size w w' :=
  (count_any b g cap n X w hs).mono fun _ _ h => ⟨h.1, by rw [h.2]; exact Below.refl _ _⟩
theorem has_b (b g cap n X : Nat) (i : Int) (hv : Bool) (w : World) (HV : Hid (hasB X i = hv)) (hs : IsSet w b g cap n X) :
    Calls Tryd.prog 27 #[.pointer (some ⟨b, 0, none⟩), .int .i64 i] w fun e w' => e = .returned (.bool hv) ∧ Below w.heap.size w w' :=
  (has_any b g cap n X i w hs).mono fun _ _ h => ⟨by rw [h.1, HV.out], by obtain ⟨q, hq⟩ := h.2; rw [hq]; exact below_drewN' (Below.refl _ _) _⟩
theorem rhas_b (a1 : Option Addr) (c1 n X : Nat) (i : Int) (hv : Bool) (w : World) (HV : Hid (hasB X i = hv)) (h : Reads w a1 (elems n X) ∧ X < 2 ^ n) (hl : (elems n X).length ≤ 100000) :
    Calls Tryd.prog 54 #[.agg #[.int .i64 n, .slice a1 (elems n X).length c1], .int .i64 i] w fun e w' => e = .returned (.bool hv) ∧ Below w.heap.size w w' :=
  (rhas_any a1 c1 n i _ w h.1 hl).mono fun _ _ k => ⟨by rw [k.1, rhas_elems n X i h.2, HV.out], k.2⟩
theorem next_b (b g cap n X : Nat) (i nx : Int) (w : World) (HX : Hid (nextL (elems n X) i = nx)) (h : IsSet w b g cap n X ∧ TabAt w) :
    Calls Tryd.prog 17 #[.pointer (some ⟨b, 0, none⟩), .int .i64 i] w fun e w' => e = .returned (.int .i64 nx) ∧ Below w.heap.size w w' :=
  (next_any b g cap n X i w h.1 h.2).mono fun _ _ k => ⟨by rw [k.1, HX.out], by obtain ⟨q, hq⟩ := k.2; rw [hq]; exact below_drewN' (Below.refl _ _) _⟩
theorem rnext_b (a1 : Option Addr) (c1 n X : Nat) (i nx : Int) (w : World) (HX : Hid (nextL (elems n X) i = nx)) (h : Reads w a1 (elems n X)) (hl : (elems n X).length ≤ 100000) :
    Calls Tryd.prog 55 #[.agg #[.int .i64 n, .slice a1 (elems n X).length c1], .int .i64 i] w fun e w' => e = .returned (.int .i64 nx) ∧ Below w.heap.size w w' :=
  (rnext_any a1 c1 n i _ w h hl).mono fun _ _ k => ⟨by rw [k.1, HX.out], k.2⟩
theorem key_b (b g cap n X : Nat) (K : ByteArray) (w : World) (HK : Hid ((⟨(keyPre n X ((n + 7) / 8)).toArray⟩ : ByteArray) = K)) (hs : IsSet w b g cap n X) :
    Calls Tryd.prog 7 #[.pointer (some ⟨b, 0, none⟩)] w fun e w' => e = .returned (.string K) ∧ Below w.heap.size w w' :=
  (key_any b g cap n X w hs).mono fun _ _ k => ⟨by rw [k.1, HK.out], k.2⟩
theorem rkey_b (a1 : Option Addr) (c1 n X : Nat) (K : ByteArray) (w : World) (HK : Hid ((⟨(keyPre n X ((n + 7) / 8)).toArray⟩ : ByteArray) = K)) (h : Reads w a1 (elems n X) ∧ X < 2 ^ n) (hn : n ≤ 8192) (hl : (elems n X).length ≤ 100000) :
    Calls Tryd.prog 56 #[.agg #[.int .i64 n, .slice a1 (elems n X).length c1]] w fun e w' => e = .returned (.string K) ∧ Below w.heap.size w w' :=
  (rkey_any a1 c1 n _ w h.1 hn hl (elems_sorted _ _) (fun e he => (mem_elems.1 he).1)).mono fun _ _ k => ⟨by rw [k.1, setOf_elems, Nat.mod_eq_of_lt h.2, HK.out], k.2⟩
theorem same_b {a1 a2 : Option Addr} {c1 c2 : Nat} {l : List Nat} {w : World} (r1 : Reads w a1 l) (r2 : Reads w a2 l) (hlen : l.length ≤ 100000) :
    Calls Tryd.prog 22 #[.slice a1 l.length c1, .slice a2 l.length c2] w fun e w' => e = .returned (.bool true) ∧ Below w.heap.size w w' :=
  (same_true rfl rfl r1 r2 hlen).mono fun _ _ k => ⟨k.1, by obtain ⟨q, hq⟩ := k.2; rw [hq]; exact below_drewN' (Below.refl _ _) _⟩

set_option maxRecDepth 100000 in
set_option maxHeartbeats 2000000 in
theorem shows_any (b g cs n X cap : Nat) (ao : Option Addr) (i : Int) (w : World) (hs : IsSet w b g cs n X) (hT : TabAt w) (hR : Reads w ao (elems n X)) :
    Calls Tryd.prog 24 #[.pointer (some ⟨b, 0, none⟩), .agg #[.int .i64 n, .slice ao (elems n X).length cap], .int .i64 i] w fun e w' => e = .returned (.bool true) ∧ Below w.heap.size w w' := by
  obtain ⟨i0, hi, hz0, hz1, hz2⟩ := info_parts info3
  have hn := hs.hn
  have hlen := cnt_le n X
  unfold cnt at hlen
  have hbA : Below w.heap.size w (w.alloc (.cells #[.int .i64 n, .slice ao (elems n X).length cap] 42)) := (Below.refl _ _).alloc (Nat.le_refl _) _
  have hX0 : Ctx (w.alloc (.cells #[.int .i64 n, .slice ao (elems n X).length cap] 42)) w.heap.size b g cs n X ao cap := ⟨heap_alloc_new _ _, hs.below hbA, hT.below hbA (Nat.lt_of_le_of_lt (Nat.zero_le _) hs.blt), hR.below hbA⟩
  have hw0 : 0 < w.heap.size := Nat.lt_of_le_of_lt (Nat.zero_le _) hs.blt
  have HS := hide (And.intro hs (And.intro hT hR))
  clear hs hT hR
  go_enter Tryd.func24, Tryd.ntmps24
  go_wp2_with fail
  refine (list_any b g cs n X _ hX0.set hX0.tab).mono ?_
  rintro e w1 ⟨gl, cl, rfl, hol, hb1⟩
  have hX1 := hX0.below hb1
  have hBw1 : Below w.heap.size w w1 := hbA.trans (hb1.mono (by simp))
  have hsz1 : w.heap.size + 1 ≤ w1.heap.size := by have := hb1.size; simp at this; omega
  have hgl := hol.lt gl rfl
  simp only [World.size_alloc] at hgl hol
  clear hX0 hb1 hbA
  go_wp2_with fail
  refine (list_any b g cs n X _ hX1.set hX1.tab).mono ?_
  rintro e w2 ⟨gm, cm, rfl, hom, hb2⟩
  have hX2 := hX1.below hb2
  have hol2 := owns_below hol hb2
  have hBw2 : Below w.heap.size w w2 := hBw1.trans (hb2.mono (by omega))
  have hgm := hom.lt gm rfl
  have hsz2 := hb2.size
  clear hX1 hb2 hBw1 hol
  have q0 := hX2.r0
  have q1 := hX2.r1
  go_wp2_with fail
  refine (same_true rfl rfl (owns_reads2 hom) hX2.reads (by omega)).mono ?_
  rintro e w3 ⟨rfl, q, rfl⟩
  go_wp2_with fail
  refine (same_true rfl rfl ((owns_reads2 hol2).drewN q) (hX2.reads.drewN q) (by omega)).mono ?_
  rintro e w3 ⟨rfl, q', rfl⟩
  have hgne : gl ≠ gm := by omega
  clear q0 q1
  go_wp2
  go_loopw [10] (fun ii wr => ∃ (k : Nat) (xs : List Value), k ≤ (elems n X).length ∧ ii = .int .i64 k ∧ wr.ownsRow (w.heap.size + 1) 3 1 (.slice (some ⟨gl, 0, none⟩) (elems n X).length cl) (elems n X).length xs ∧ wr.ownsRow w1.heap.size 3 1 (.slice (some ⟨gm, 0, none⟩) (elems n X).length cm) (elems n X).length (intV (elems n X)) ∧ Below gl w2 wr) (fun ii _ => (elems n X).length - (intOf ii).toNat)
  case atStart => exact ⟨0, _, Nat.zero_le _, rfl, hol2, hom, below_drewN' (Below.refl _ _) _⟩
  case round =>
    obtain ⟨k, xs, hk, rfl, hor, homr, hbr⟩ := hrel
    clear hol2 hom
    by_cases hlt : k < (elems n X).length
    · have hst := hor.stored k (.int .i64 (-1))
      have hxl := hor.1
      have hcl : wr.cell? ⟨gl, k, none⟩ = xs[k]? := hor.cellAt k (by omega)
      obtain ⟨x, hx⟩ : ∃ x, xs[k]? = some x := ⟨xs[k]'(by omega), List.getElem?_eq_getElem (by omega)⟩
      rw [hx] at hcl
      have hfz : wr.frozen? ⟨gl, k, none⟩ = false := hor.frozenAt k
      have hm2 := homr.kept hst.2 (.inr (by simp [Value.ownBlock]; omega))
      have hS := hst.1
      clear hst hx hxl hor homr
      go_wp2
      go_roundw
      case rel => exact ⟨k + 1, _, by omega, by go_num, hS, hm2, hbr.setCell (Nat.le_refl _) _⟩
      case measure => simp [intOf]; omega
    · go_wp2
      go_loopw [11, 12] (fun v ii wr => ∃ (k gv cv : Nat) (xs : List Value), k ≤ 64 ∧ ii = .int .i64 k ∧ v = .slice (some ⟨gv, 0, none⟩) ((elems n X).length + k) cv ∧ gv ≠ gm ∧ wr.ownsRow (w.heap.size + 1) 3 1 (.slice (some ⟨gv, 0, none⟩) ((elems n X).length + k) cv) ((elems n X).length + k) xs ∧ wr.ownsRow w1.heap.size 3 1 (.slice (some ⟨gm, 0, none⟩) (elems n X).length cm) (elems n X).length (intV (elems n X)) ∧ Below (w.heap.size + 1) w2 wr) (fun _ ii _ => 64 - (intOf ii).toNat)
      case atStart => exact ⟨0, gl, cl, xs, by omega, rfl, rfl, hgne, hor, homr, hbr.mono hgl.1⟩
      case round =>
        obtain ⟨k2, gv, cv, xs2, hk2, rfl, rfl, hgv, hov, hom2, hb4⟩ := hrel
        clear hor homr hbr
        by_cases hlt2 : k2 < 64
        · have hs4 := hb4.size
          have hgml := (hom2.lt gm rfl).2
          go_wp2_with (at_builtin; refine wpList_append_lies _ rfl _ _ _ rfl (w.heap.size + 1) 3 i0 _ 1 8 Tryd.underlying22 hi hz0 hz1 hz2 rfl (by omega) _ ((elems n X).length + k2) xs2 rfl (hov.alloc _) ⟨wr.heap.size, 0, none⟩ 1 1 [.int .i64 (-2)] rfl rfl (World.news_of_block (cs := #[.int .i64 (-2)]) (t := 3) (fr := (0, 0)) (heap_alloc_new wr _)) (by simp [Value.oneCell']) (by omega) (by unfold maxLen; omega) (by omega) (by simp; omega) (wr.heap.size + 1) (by simp) ?_)
          intro g5 c5 w5 hown5 hgr hat hlt5
          have hb5 : Below (w.heap.size + 1) w2 w5 := (hb4.alloc (by omega) _).grown hgr (by simp; omega) (by intro k hk; have := (hov.lt k hk).1; omega)
          have hom5 := (hom2.alloc (.cells #[.int .i64 (-2)] 3)).kept hgr (.inr (by simp [Value.ownBlock]; omega))
          have hg5 : g5 ≠ gm := by
            rcases hat with h | h
            · simp [Value.ownBlock] at h; omega
            · omega
          clear hgr hat hov hom2 hb4 hlt5
          go_wp2
          go_roundw
          case rel => exact ⟨k2 + 1, g5, c5, _, by omega, by go_num, rfl, hg5, hown5, hom5, hb5⟩
          case measure => simp [intOf]; omega
        · clear hov
          have hBq : Below w.heap.size w wr := hBw2.trans (hb4.mono (by omega))
          have hXq : Ctx wr w.heap.size b g cs n X ao cap := ⟨by rw [hb4.block _ (by omega)]; exact hX2.box, HS.out.1.below hBq, HS.out.2.1.below hBq hw0, HS.out.2.2.below hBq⟩
          have q0 := hXq.r0
          have q1 := hXq.r1
          clear hb4 hX2 hBw2 hlt hk hgv
          go_wp2_with fail
          refine (same_true rfl rfl (owns_reads2 hom2) hXq.reads (by omega)).mono ?_
          rintro e w6 ⟨rfl, q6, rfl⟩
          clear hom2
          have hXr : Ctx (wr.drewN q6) w.heap.size b g cs n X ao cap := hXq.below (below_drewN' (Below.refl _ _) _)
          have hBr : Below w.heap.size w (wr.drewN q6) := below_drewN' hBq _
          have hk2e : k2 = 64 := by omega
          have HR := hide hXr
          clear hXq hBq q0 q1
          have p0 : (wr.drewN q6).cell? ⟨w.heap.size, 0, none⟩ = some (.int .i64 n) := hXr.r0
          have p1 : (wr.drewN q6).cell? ⟨w.heap.size, 1, none⟩ = some (.slice ao (elems n X).length cap) := hXr.r1
          subst hk2e
          clear hXr
          go_wp2_with fail
          obtain ⟨M, hM⟩ : ∃ M : Nat, (elems n X).length + 64 = M := ⟨_, rfl⟩
          rw [hM]
          have hM1 : ((M : Int) == ((elems n X).length : Int) + 64) = true := by rw [beq_iff_eq]; omega
          have hM2 : ((M : Int) == IntKind.i64.wrap (((elems n X).length : Int) + 64)) = true := by rw [beq_iff_eq, IntKind.wrap_i64]; omega
          clear hM
          obtain ⟨hv, hhv⟩ : ∃ hv : Bool, hasB X i = hv := ⟨_, rfl⟩
          obtain ⟨nx, hnx⟩ : ∃ nx : Int, nextL (elems n X) i = nx := ⟨_, rfl⟩
          obtain ⟨K, hK⟩ : ∃ K : ByteArray, (⟨(keyPre n X ((n + 7) / 8)).toArray⟩ : ByteArray) = K := ⟨_, rfl⟩
          have HV := hide hhv
          have HX := hide hnx
          have HK := hide hK
          have HB := hide hBr
          clear hhv hnx hK hBr
          go_region_held3 (fun w' => w'.cell? ⟨w.heap.size, 0, none⟩ = some (.int .i64 n) ∧ w'.cell? ⟨w.heap.size, 1, none⟩ = some (.slice ao (elems n X).length cap) ∧ Below (wr.drewN q6).heap.size (wr.drewN q6) w')
            (first | exact ⟨p0, p1, (Below.refl _ _).drew⟩ | exact keepS (by assumption) hbX | exact keepS (by assumption) (below_drewN' (Below.refl _ _) _) | go_keep)
            (first
              | (go_at_call 36; refine (bound_b b n _ (by exact (ctxS HR (by assumption)).set.c0)).mono ?_; rintro e wX ⟨rfl, hbX⟩)
              | (go_at_call 16; refine (count_b b g cs n X _ (by exact (ctxS HR (by assumption)).set)).mono ?_; rintro e wX ⟨rfl, hbX⟩)
              | (go_at_call 27; refine (has_b b g cs n X i hv _ HV (by exact (ctxS HR (by assumption)).set)).mono ?_; rintro e wX ⟨rfl, hbX⟩)
              | (go_at_call 54; refine (rhas_b ao cap n X i hv _ HV (by exact ⟨(ctxS HR (by assumption)).reads, HS.out.1.hX⟩) (by omega)).mono ?_; rintro e wX ⟨rfl, hbX⟩)
              | (go_at_call 17; refine (next_b b g cs n X i nx _ HX (by exact ⟨(ctxS HR (by assumption)).set, (ctxS HR (by assumption)).tab⟩)).mono ?_; rintro e wX ⟨rfl, hbX⟩)
              | (go_at_call 55; refine (rnext_b ao cap n X i nx _ HX (by exact (ctxS HR (by assumption)).reads) (by omega)).mono ?_; rintro e wX ⟨rfl, hbX⟩)
              | (go_at_call 7; refine (key_b b g cs n X K _ HK (by exact (ctxS HR (by assumption)).set)).mono ?_; rintro e wX ⟨rfl, hbX⟩)
              | (go_at_call 56; refine (rkey_b ao cap n X K _ HK (by exact ⟨(ctxS HR (by assumption)).reads, HS.out.1.hX⟩) (by omega) (by omega)).mono ?_; rintro e wX ⟨rfl, hbX⟩)
              | (go_at_call 23; refine (list_any b g cs n X _ (by exact (ctxS HR (by assumption)).set) (by exact (ctxS HR (by assumption)).tab)).mono ?_; rintro e wX ⟨gL, cL, rfl, hoL, hbX⟩)
              | (go_at_call 22; refine (same_b (owns_reads2 hoL) (by exact (ctxS HR (by assumption)).reads) (by omega)).mono ?_; rintro e wX ⟨rfl, hbX⟩))
          go_wp2
          go_ret
          have hfin : wX.cell? ⟨w.heap.size, 0, none⟩ = some (.int .i64 n) ∧ wX.cell? ⟨w.heap.size, 1, none⟩ = some (.slice ao (elems n X).length cap) ∧ Below (wr.drewN q6).heap.size (wr.drewN q6) wX := by assumption
          exact ⟨rfl, HB.out.trans (hfin.2.2.mono HB.out.size)⟩
end Go.Proofs.YtdgmokelmocejabDoor
