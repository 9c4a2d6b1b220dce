import Derived.Test.YtdgmokelmocejabDoorPl4
namespace Go.Proofs.YtdgmokelmocejabDoor
open Go.RowKit

def ofC (n : Int) (l : List Int) : Int := if n < 0 ∨ 8192 < n then 1 else if okI n.toNat l then 0 else 10
theorem ofC_zero {n : Int} {l : List Int} (h : ofC n l = 0) : 0 ≤ n ∧ n ≤ 8192 ∧ okI n.toNat l = true := by
  unfold ofC at h
  by_cases h1 : n < 0 ∨ 8192 < n
  · rw [if_pos h1] at h; omega
  · rw [if_neg h1] at h
    by_cases h2 : okI n.toNat l = true
    · exact ⟨by omega, by omega, h2⟩
    · rw [if_neg h2] at h; omega

/-- What Of hands out: a set, or none. -/
structure OfR (n : Int) (l : List Int) (p : Option Addr) (c : Int) (w w' : World) : Prop where
  code : c = ofC n l
  none : c ≠ 0 → p = .none
  some : c = 0 → ∃ b g cap, p = .some ⟨b, 0, .none⟩ ∧ IsSet w' b g cap n.toNat (setI n.toNat l) ∧ w.heap.size ≤ b ∧ w.heap.size ≤ g ∧ b ≠ g
  below : Below w.heap.size w w'
theorem of81_u (ao : Option Addr) (cp : Nat) (n : Int) (l : List Int) (w : World) (hr : ReadsI w ao l) (hlen : l.length ≤ 9223372036854775807) :
    Calls Tryd.prog 81 #[.int .i64 n, .slice ao l.length cp] w fun e w' => ∃ p c, e = .returned (.tuple #[.pointer p, .int .i64 c]) ∧ OfR n l p c w w' := by
  by_cases h1 : n < 0 ∨ 8192 < n
  · refine (of81_bad n _ w h1).mono ?_
    rintro e w' ⟨rfl, rfl⟩
    exact ⟨none, 1, rfl, by unfold ofC; rw [if_pos h1], fun _ => rfl, fun h => by omega, Below.refl _ _⟩
  · obtain ⟨m, rfl⟩ := Int.eq_ofNat_of_zero_le (show 0 ≤ n by omega)
    refine (of81_any ao cp m l w (by omega) hr hlen).mono ?_
    rintro e w' (⟨ho, b, g, cap, rfl, hs, hb, hg, hbg, d⟩ | ⟨ho, rfl, d⟩)
    · exact ⟨_, 0, rfl, by unfold ofC; rw [if_neg h1, if_pos (by simpa using ho)], fun h => absurd rfl h, fun _ => ⟨b, g, cap, rfl, by simpa using hs, hb, hg, hbg⟩, d⟩
    · exact ⟨none, 10, rfl, by unfold ofC; rw [if_neg h1, if_neg (by simp [ho])], fun _ => rfl, fun h => by omega, d⟩
structure OfQ (n : Int) (l : List Int) (m : Int) (v : Value) (c : Int) (w w' : World) : Prop where
  code : c = ofC n l
  none : c ≠ 0 → m = 0 ∧ v = .slice .none 0 0
  some : c = 0 → m = n ∧ ∃ ao cap, v = .slice ao (elems n.toNat (setI n.toNat l)).length cap ∧ Row3 w' ao (elems n.toNat (setI n.toNat l))
  below : Below w.heap.size w w'
theorem of66_u (ao : Option Addr) (cp : Nat) (n : Int) (l : List Int) (w : World) (hr : ReadsI w ao l) (hlen : l.length ≤ 9223372036854775807) :
    Calls Tryd.prog 66 #[.int .i64 n, .slice ao l.length cp] w fun e w' => ∃ m v c, e = .returned (.tuple #[.agg #[.int .i64 m, v], .int .i64 c]) ∧ OfQ n l m v c w w' := by
  by_cases h1 : n < 0 ∨ 8192 < n
  · refine (of66_bad n _ w h1).mono ?_
    rintro e w' ⟨rfl, d⟩
    exact ⟨0, _, 1, rfl, by unfold ofC; rw [if_pos h1], fun _ => ⟨rfl, rfl⟩, fun h => by omega, d⟩
  · obtain ⟨m, rfl⟩ := Int.eq_ofNat_of_zero_le (show 0 ≤ n by omega)
    refine (of66_any ao cp m l w (by omega) hr hlen).mono ?_
    rintro e w' (⟨ho, ao2, cap, rfl, hr2, d⟩ | ⟨ho, rfl, d⟩)
    · exact ⟨m, _, 0, rfl, by unfold ofC; rw [if_neg h1, if_pos (by simpa using ho)], fun h => absurd rfl h, fun _ => ⟨rfl, ao2, cap, rfl, by simpa using hr2⟩, d⟩
    · exact ⟨0, _, 10, rfl, by unfold ofC; rw [if_neg h1, if_neg (by simp [ho])], fun _ => ⟨rfl, rfl⟩, fun h => by omega, d⟩

def valsI (L : List Int) : List Value := L.map fun x => .int .i64 x
theorem valsI_get (L : List Int) (k : Nat) (h : k < L.length) : (valsI L)[k]? = some (.int .i64 (L.getD k 0)) := by simp [valsI, h]
theorem valsI_set (L : List Int) (k : Nat) (x : Int) : (valsI L).set k (.int .i64 x) = valsI (L.set k x) := by
  unfold valsI
  rw [List.map_set]
theorem getD_set_self (L : List Int) (k : Nat) (x : Int) (h : k < L.length) : (L.set k x).getD k 0 = x := by simp [h]
theorem getD_set_ne (L : List Int) (k j : Nat) (x : Int) (h : k ≠ j) : (L.set k x).getD j 0 = L.getD j 0 := by
  rw [List.getD_eq_getElem?_getD, List.getElem?_set_ne h, List.getD_eq_getElem?_getD]
/-- The law's own list: m numbers and the mark's place. -/
structure OfL (w : World) (m : Nat) (L : List Int) (wr : World) : Prop where
  len : L.length = m + 1
  own : wr.ownsRow w.heap.size 3 1 (.slice (some ⟨w.heap.size, 0, none⟩) (m + 1) (m + 1)) (m + 1) (valsI L)
  below : Below w.heap.size w wr
theorem OfL.cell {w wr : World} {m k : Nat} {L : List Int} (h : OfL w m L wr) (hk : k < m + 1) : wr.cell? ⟨w.heap.size, k, none⟩ = some (.int .i64 (L.getD k 0)) := by
  have := h.own.cellAt k (by omega)
  rwa [valsI_get L k (by rw [h.len]; exact hk)] at this
theorem OfL.fz {w wr : World} {m : Nat} {L : List Int} (h : OfL w m L wr) (k : Nat) : wr.frozen? ⟨w.heap.size, k, none⟩ = false := h.own.frozenAt k
theorem OfL.put {w wr : World} {m k : Nat} {L : List Int} (h : OfL w m L wr) (x : Int) : OfL w m (L.set k x) (wr.setCell ⟨w.heap.size, k, none⟩ (.int .i64 x)) := by
  have hs := (h.own.stored k (.int .i64 x)).1
  rw [valsI_set] at hs
  exact ⟨by rw [List.length_set]; exact h.len, hs, h.below.setCell (Nat.le_refl _) _⟩
theorem OfL.on {w wr wr' : World} {m : Nat} {L : List Int} (h : OfL w m L wr) (d : Below wr.heap.size wr wr') : OfL w m L wr' :=
  ⟨h.len, owns_below h.own d, h.below.trans (d.mono h.below.size)⟩
theorem OfL.reads {w wr : World} {m : Nat} {L l : List Int} (h : OfL w m L wr) (hl : l.length ≤ m) (he : ∀ j, j < l.length → L.getD j 0 = l.getD j 0) : ReadsI wr (some ⟨w.heap.size, 0, none⟩) l := fun k hk => by
  refine ⟨w.heap.size, 0, rfl, ?_⟩
  have := h.cell (k := k) (by omega)
  rw [he k hk] at this
  simpa using this

theorem g_trans {w w1 w2 : World} {r : Option Nat} (h : w.grownBy w1 r) (k : w1.grownBy w2 r) : w.grownBy w2 r :=
  ⟨k.os.trans h.os, k.tape.trans h.tape, k.output.trans h.output, Nat.le_trans h.size k.size, fun j hj hr => (k.block j (Nat.lt_of_lt_of_le hj h.size) hr).trans (h.block j hj hr)⟩
theorem of_keep {w0 w1 w2 : World} {a : Addr} {x : Value} (h : w1.cell? a = some x ∧ Below w0.heap.size w0 w1) (hb : Below w1.heap.size w1 w2) : w2.cell? a = some x ∧ Below w0.heap.size w0 w2 :=
  ⟨(hb.cell (World.block_lt_of_cell? _ _ h.1)).trans h.1, h.2.trans (hb.mono h.2.size)⟩
theorem of_s {w0 w1 : World} {a : Addr} {x : Option Value} (h : w1.cell? a = x ∧ Below w0.heap.size w0 w1) : Below w0.heap.size w0 w1 := h.2
theorem OfR.to {n : Int} {l : List Int} {p : Option Addr} {c : Int} {W w2 w wE : World} (h : OfR n l p c W w2) (hW : w.heap.size < W.heap.size) (hg : w2.grownBy wE (.some w.heap.size)) (hb : Below w.heap.size w wE) : OfR n l p c w wE := by
  refine ⟨h.code, h.none, fun e => ?_, hb⟩
  obtain ⟨b, g, cap, hp, hs, h1, h2, h3⟩ := h.some e
  exact ⟨b, g, cap, hp, hs.other hg (by omega) (by omega), by omega, by omega, h3⟩
set_option maxRecDepth 100000 in
set_option maxHeartbeats 4000000 in
theorem of65_any (ao : Option Addr) (cp : Nat) (n : Int) (l : List Int) (w : World) (hT : TabAt w) (hw0 : 0 < w.heap.size) (hr : ReadsI w ao l) (hlen : l.length ≤ 1048576) :
    Calls Tryd.prog 65 #[.int .i64 n, .slice ao l.length cp] w fun e w' => ∃ p c, e = .returned (.tuple #[.pointer p, .int .i64 c, .bool true]) ∧ OfR n l p c w w' := by
  obtain ⟨i0, hi, hz0, hz1, hz2⟩ := info_parts info3
  have HR := hide hr
  clear hr
  have HT := hide (And.intro hT hw0)
  clear hT hw0
  generalize hm : l.length = m at hlen ⊢
  have HM := hide hm
  clear hm
  go_enter Tryd.func65, Tryd.ntmps65
  go_wp2_with (at_make; refine wpList_make_full _ rfl _ _ 22 rfl w.heap.size 3 i0 (.int .i64 0) 1 Tryd.underlying22 hi hz0 hz1 _ _ _ _ (m + 1) rfl rfl ?_ ?_ ?_ ?_ ?_ ?_)
  · omega
  · omega
  · rw [hz2]; omega
  · unfold maxLen; omega
  · exact Nat.le_refl _
  · intro w1 hown hgrow
    rw [toList_madeCells_one] at hown
    have S0 : OfL w m (List.replicate (m + 1) 0) w1 := ⟨by simp, by simpa [valsI] using hown, (Below.refl _ _).grown hgrow (Nat.le_refl _) (by intro k hk; cases hk)⟩
    have HS0 := hide S0
    clear hown hgrow S0
    go_wp2
    go_loopw [8] (fun i wr => ∃ (k : Nat) (L : List Int), k ≤ m ∧ i = .int .i64 k ∧ Hid (OfL w m L wr) ∧ Hid (∀ j, j < k → L.getD j 0 = l.getD j 0)) (fun i _ => m - (intOf i).toNat)
    case atStart => exact ⟨0, _, Nat.zero_le _, rfl, HS0, fun j hj => by omega⟩
    case round =>
      obtain ⟨k, L, hk, rfl, S, E⟩ := hrel
      clear HS0
      by_cases hlt : k < m
      · obtain ⟨ga, oa, rfl, hc⟩ := HR.out k (by rw [HM.out]; exact hlt)
        have hgl : ga < w.heap.size := World.block_lt_of_cell? w ⟨ga, oa + k, none⟩ hc
        have hc2 := (S.out.below.cell (p := ⟨ga, oa + k, none⟩) hgl).trans hc
        obtain ⟨x, hx⟩ : ∃ x, l.getD k 0 = x := ⟨_, rfl⟩
        rw [hx] at hc2
        have hq := S.out.cell (k := k) (by omega)
        have hf := S.out.fz k
        have S2 := hide (S.out.put (k := k) x)
        have E2 : Hid (∀ j, j < k + 1 → (L.set k x).getD j 0 = l.getD j 0) := by
          intro j hj
          by_cases hjk : j = k
          · subst hjk; rw [getD_set_self _ _ _ (by rw [S.out.len]; omega), hx]
          · rw [getD_set_ne _ _ _ _ (by omega)]; exact E.out j (by omega)
        have i0' : (0 : Int) ≤ (k : Int) := by omega
        have i1' : (k : Int) < (m : Int) := by omega
        have i2' : (k : Int) < ((m + 1 : Nat) : Int) := by omega
        clear hc hx S E
        go_wp2
        go_roundw
        case rel => exact ⟨k + 1, _, by omega, by go_num, S2, E2⟩
        case measure => simp [intOf]; omega
      · obtain rfl : k = m := by omega
        have hq := S.out.cell (k := k) (by omega)
        have hf := S.out.fz k
        have S2 := hide (S.out.put (k := k) 777)
        have E2 : Hid (∀ j, j < l.length → (L.set k 777).getD j 0 = l.getD j 0) := by
          intro j hj
          rw [HM.out] at hj
          rw [getD_set_ne _ _ _ _ (by omega)]; exact E.out j (by omega)
        have E3 : Hid ((L.set k 777).getD k 0 = 777) := by
          show _ = _
          rw [getD_set_self _ _ _ (by rw [S.out.len]; omega)]
        generalize L.set k 777 = M at S2 E2 E3
        clear S E
        have A1 := of81_u (some ⟨w.heap.size, 0, none⟩) (k + 1) n l _ (S2.out.reads (by rw [HM.out]; exact Nat.le_refl _) E2.out) (by rw [HM.out]; omega)
        rw [HM.out] at A1
        have hW : w.heap.size < (wr.setCell ⟨w.heap.size, k, none⟩ (.int .i64 777)).heap.size := (S2.out.own.lt _ rfl).2
        have HW := hide hW
        go_wp2_with fail
        refine A1.mono ?_
        rintro e w2 ⟨p1, c1, rfl, Q1⟩
        have S3 := hide (S2.out.on Q1.below)
        have HQ1 := hide Q1
        have hq2 : w2.cell? ⟨w.heap.size, k, none⟩ = some (.int .i64 777) := by rw [S3.out.cell (by omega), E3.out]
        have i2' : (k : Int) < ((k + 1 : Nat) : Int) := by omega
        clear A1 S2 hW Q1 hq hf
        go_wp2
        go_loopw [11, 12] (fun okv i wr => ∃ (j : Nat) (L : List Int), j ≤ k ∧ okv = .bool true ∧ i = .int .i64 j ∧ Hid (OfL w k L wr) ∧ Hid ((∀ t, t < j → L.getD t 0 = 1) ∧ ∀ t, j ≤ t → t < k → L.getD t 0 = l.getD t 0) ∧ Hid (w2.grownBy wr (some w.heap.size))) (fun _ i _ => k - (intOf i).toNat)
        case atStart => exact ⟨0, M, Nat.zero_le _, rfl, rfl, S3, ⟨fun t ht => by omega, fun t _ ht => E2.out t (by rw [HM.out]; exact ht)⟩, g_refl _ _⟩
        case round =>
          obtain ⟨j, L2, hj, rfl, rfl, S, E, G⟩ := hrel
          clear S3 E2 E3 hq2
          by_cases hlt2 : j < k
          · obtain ⟨ga, oa, rfl, hc⟩ := HR.out j (by rw [HM.out]; exact hlt2)
            have hgl : ga < w.heap.size := World.block_lt_of_cell? w ⟨ga, oa + j, none⟩ hc
            have hc2 := (S.out.below.cell (p := ⟨ga, oa + j, none⟩) hgl).trans hc
            have hq := S.out.cell (k := j) (by omega)
            rw [E.out.2 j (Nat.le_refl _) hlt2] at hq
            obtain ⟨x, hx⟩ : ∃ x, l.getD j 0 = x := ⟨_, rfl⟩
            rw [hx] at hc2 hq
            have hf := S.out.fz j
            have S2 := hide (S.out.put (k := j) 1)
            have G2 := hide (g_set G.out j (.int .i64 1))
            have E2 : Hid ((∀ t, t < j + 1 → (L2.set j 1).getD t 0 = 1) ∧ ∀ t, j + 1 ≤ t → t < k → (L2.set j 1).getD t 0 = l.getD t 0) := by
              refine ⟨fun t ht => ?_, fun t ht ht2 => ?_⟩
              · by_cases hjk : t = j
                · subst hjk; rw [getD_set_self _ _ _ (by rw [S.out.len]; omega)]
                · rw [getD_set_ne _ _ _ _ (by omega)]; exact E.out.1 t (by omega)
              · rw [getD_set_ne _ _ _ _ (by omega)]; exact E.out.2 t (by omega) ht2
            have hxx : (x == x) = true := by simp
            have i0' : (0 : Int) ≤ (j : Int) := by omega
            have i1' : (j : Int) < (k : Int) := by omega
            have i2' : (j : Int) < ((k + 1 : Nat) : Int) := by omega
            clear hc hx S E G
            go_wp2_with fail
            go_quiet (fail)
            go_wp2
            go_roundw
            case rel => exact ⟨j + 1, _, by omega, rfl, by go_num, S2.out.on (below_drewN' (Below.refl _ _) _), E2, g_drewN G2.out _⟩
            case measure => simp [intOf]; omega
          · obtain rfl : j = k := by omega
            have hrep : (List.replicate j (1 : Int)).length = j := by simp
            have E1 : Hid (∀ t, t < (List.replicate j (1 : Int)).length → L2.getD t 0 = (List.replicate j (1 : Int)).getD t 0) := by
              intro t ht
              rw [hrep] at ht
              rw [E.out.1 t ht]
              simp [ht]
            have A1 := of81_u (some ⟨w.heap.size, 0, none⟩) (j + 1) n (List.replicate j 1) _ (S.out.reads (by rw [hrep]; exact Nat.le_refl _) E1.out) (by rw [hrep]; omega)
            rw [hrep] at A1
            have HREP := hide hrep
            clear hrep E
            go_wp2_with fail
            refine A1.mono ?_
            rintro e w3 ⟨p2, c2, rfl, Q2⟩
            have S3 := hide (S.out.on Q2.below)
            have G3 := hide (g_trans G.out (g_below Q2.below))
            have HQ2 := hide Q2
            have A2 := of66_u (some ⟨w.heap.size, 0, none⟩) (j + 1) n (List.replicate j 1) _ (S3.out.reads (by rw [HREP.out]; exact Nat.le_refl _) E1.out) (by rw [HREP.out]; omega)
            rw [HREP.out] at A2
            clear A1 Q2 S G
            go_wp2_with fail
            refine A2.mono ?_
            rintro e w4 ⟨m3, v3, c3, rfl, Q3⟩
            have S4 := hide (S3.out.on Q3.below)
            have G4 := hide (g_trans G3.out (g_below Q3.below))
            obtain rfl : c3 = c2 := by rw [Q3.code, HQ2.out.code]
            have hcc : (c3 != c3) = false := by simp
            have HQ3 := hide Q3
            clear A2 Q3 S3 G3
            by_cases hc0 : c3 = 0
            · subst hc0
              obtain ⟨b, g, cap, rfl, hs, _, _, _⟩ := HQ2.out.some rfl
              obtain ⟨rfl, ao3, cap3, rfl, hr3⟩ := HQ3.out.some rfl
              have hs4 := hide (hs.below HQ3.out.below)
              have hr4 := hide hr3
              have hT4 := hide (HT.out.1.below S4.out.below HT.out.2)
              have hB4 := hide S4.out.below
              have hn8 := (ofC_zero HQ2.out.code.symm).2.1
              have hlE := cnt_le m3.toNat (setI m3.toNat (List.replicate j 1))
              unfold cnt at hlE
              generalize setI m3.toNat (List.replicate j 1) = X at *
              have q1 : (w4.alloc (.cells #[.int .i64 m3, .slice ao3 (elems m3.toNat X).length cap3] 42)).cell? ⟨w4.heap.size, 1, none⟩ = some (.slice ao3 (elems m3.toNat X).length cap3) := by
                rw [cell_of_row _ _ 1 _ 42 (0, 0) (heap_alloc_new _ _)]; rfl
              have HB4 := hide (And.intro S4.out G4.out)
              clear hs hr3 S4 G4 HQ2 HQ3
              go_wp2_with fail
              generalize hW4 : (w4.alloc (.cells #[.int .i64 m3, .slice ao3 (elems m3.toNat X).length cap3] 42)) = W4 at *
              have dW4 : Below w4.heap.size w4 W4 := by rw [← hW4]; exact bw1
              have HD4 := hide dW4
              clear hW4 dW4
              go_region_held3 (fun w' => w'.cell? ⟨w4.heap.size, 1, none⟩ = some (.slice ao3 (elems m3.toNat X).length cap3) ∧ Below w4.heap.size w4 w')
                (first | exact ⟨q1, HD4.out.drew⟩ | exact of_keep (by assumption) hbX | go_keep)
                (first
                  | (go_at_call 23; refine (list_any b g cap m3.toNat X _ (by exact hs4.out.below (of_s (by assumption))) (by exact hT4.out.below (of_s (by assumption)) (Nat.lt_of_lt_of_le HT.out.2 hB4.out.size))).mono ?_; rintro e wX ⟨gl, cl, rfl, hol, hbX⟩)
                  | (go_at_call 22; refine (same_b (owns_reads2 (by exact hol)) (by exact (hr4.out.below (of_s (by assumption))).reads) (by omega)).mono ?_; rintro e wX ⟨rfl, hbX⟩))
              rename_i hS
              have HS := hide hS
              clear hS hol
              go_wp2
              exact bodyPost_ret (v := .tuple #[.pointer p1, .int .i64 c1, .bool true]) (by simp [results, Tryd.results65, go_sem]) rfl ⟨p1, c1, rfl, HQ1.out.to HW.out (g_trans HB4.out.2 (g_below HS.out.2)) (hB4.out.trans (HS.out.2.mono hB4.out.size))⟩
            · have hcz : (c3 == 0) = false := by rw [beq_eq_false_iff_ne]; exact hc0
              obtain ⟨rfl, rfl⟩ := HQ3.out.none hc0
              clear hc0
              go_wp2
              exact bodyPost_ret (v := .tuple #[.pointer p1, .int .i64 c1, .bool true]) (by simp [results, Tryd.results65, go_sem]) rfl ⟨p1, c1, rfl, HQ1.out.to HW.out (g_trans G4.out (g_below bw1)) (S4.out.below.trans (bw1.mono S4.out.below.size))⟩
end Go.Proofs.YtdgmokelmocejabDoor
