import Derived.Test.YtmagchclmmphaaaGreatDoorQB
namespace Go.Proofs.YtmagchclmmphaaaGreatDoor.rf
open Go.RowKit Go.Maps

theorem beq_bts (a b : ByteArray) : (a.toList == b.toList) = decide (bts a = bts b) := by
  rw [str_beq, Bool.eq_iff_iff, decide_eq_true_iff, decide_eq_true_iff]
  exact ⟨fun h => by rw [h], bts_inj⟩
theorem word_256 (sec : Nat) : ∀ b ∈ wordL sec, b < 256 := by
  unfold wordL
  split <;> decide
theorem word_len (sec : Nat) : (wordL sec).length ≤ 12 := by
  unfold wordL
  split <;> decide

set_option maxRecDepth 100000 in
set_option maxHeartbeats 4000000 in
theorem line_any (sec : Nat) (s : ByteArray) (w : World) (hs : s.size ≤ 130000100) (hsec : sec ≤ 5) : Calls Tryz.prog 52 #[.int .i64 sec, .string s] w fun e w' => e = .returned (.tuple #[.bool (lineF sec (bts s)).1, .bool (lineF sec (bts s)).2.1, .bool (lineF sec (bts s)).2.2]) ∧ Below w.heap.size w w' := by
  have hbk := fun W => blanks_any s W (by omega)
  have hl := bts_len s
  cases hA : (bts s).all blk
  · rw [hA] at hbk
    by_cases h5 : sec = 5
    · have i5 : ((sec : Int) == 5) = true := by rw [beq_iff_eq]; omega
      have HE : Hid (lineF sec (bts s) = ((ruleF (bts s)).1, false, (ruleF (bts s)).2)) := hide (by unfold lineF; rw [if_neg (by rw [hA]; simp), if_pos h5])
      have hru := fun W => rule_any s W (by omega)
      generalize ruleF (bts s) = pq at *
      obtain ⟨p, q⟩ := pq
      clear hA h5 hl
      go_enter Tryz.func52, Tryz.ntmps52
      go_wp2_with (first
        | (go_at_call 78; refine (hbk _).mono ?_; rintro e w' ⟨rfl, hw'⟩; obtain rfl := hw'.symm)
        | (go_at_call 79; refine (hru _).mono ?_; rintro e w' ⟨rfl, hw'⟩; obtain rfl := hw'.symm))
      go_ret3
      exact ⟨by rw [HE.out]; rfl, Below.refl _ _⟩
    · have i5 : ((sec : Int) == 5) = false := by rw [beq_eq_false_iff_ne]; omega
      have hwd := fun W => word_any sec W
      have hwb := bts_strB (wordL sec) (word_256 sec)
      have hwz := strB_size (wordL sec)
      have hw12 := word_len sec
      by_cases h6 : s.size < (wordL sec).length
      · have HE : Hid (lineF sec (bts s) = (false, false, decide ((wordL sec).take s.size = bts s))) := hide (by unfold lineF; rw [if_neg (by rw [hA]; simp), if_neg h5, hl, if_pos h6])
        have hbe := beq_bts ((strB (wordL sec)).extract 0 s.size) s
        rw [bts_take, hwb] at hbe
        have HB := hide hbe
        have j1 : (s.size : Int) < ((strB (wordL sec)).size : Int) := by rw [hwz]; omega
        have j2 : (0 : Int) ≤ (s.size : Int) := by omega
        have j3 : (s.size : Int) ≤ ((strB (wordL sec)).size : Int) := by rw [hwz]; omega
        generalize strB (wordL sec) = wd at *
        clear hA h5 hl h6 hbe hwb hwz
        go_enter Tryz.func52, Tryz.ntmps52
        go_wp2_with (first
          | (go_at_call 78; refine (hbk _).mono ?_; rintro e w' ⟨rfl, hw'⟩; obtain rfl := hw'.symm)
          | (go_at_call 80; refine (hwd _).mono ?_; rintro e w' ⟨rfl, hw'⟩; obtain rfl := hw'.symm))
        go_quiet (fail)
        go_wp2
        go_ret3
        exact ⟨by rw [HE.out, ← HB.out]; rfl, below_drewN' (Below.refl _ _) _⟩
      · have j1 : ¬ (s.size : Int) < ((strB (wordL sec)).size : Int) := by rw [hwz]; omega
        have j2 : (0 : Int) ≤ ((strB (wordL sec)).size : Int) := by omega
        have j3 : ((strB (wordL sec)).size : Int) ≤ (s.size : Int) := by rw [hwz]; omega
        have hbe := beq_bts (s.extract 0 (strB (wordL sec)).size) (strB (wordL sec))
        rw [bts_take, hwb] at hbe
        by_cases h7 : (bts s).take (wordL sec).length = wordL sec
        · rw [decide_eq_true (show (bts s).take (strB (wordL sec)).size = wordL sec by rw [hwz]; exact h7)] at hbe
          have HE : Hid (lineF sec (bts s) = ((restF sec ((bts s).drop (wordL sec).length)).1, (restF sec ((bts s).drop (wordL sec).length)).1, (restF sec ((bts s).drop (wordL sec).length)).2)) := hide (by unfold lineF; rw [if_neg (by rw [hA]; simp), if_neg h5, hl, if_neg h6, if_neg (fun h => h h7)])
          have hre := fun W => rest_any sec (s.extract (strB (wordL sec)).size s.size) W (by rw [ByteArray.size_extract]; omega) hsec
          have hrb : bts (s.extract (strB (wordL sec)).size s.size) = (bts s).drop (wordL sec).length := by rw [bts_tail, hwz]
          rw [hrb] at hre
          clear hrb
          generalize restF sec ((bts s).drop (wordL sec).length) = pq at *
          obtain ⟨p, q⟩ := pq
          generalize strB (wordL sec) = wd at *
          clear hA h5 hl h6 h7 hwb hwz
          go_enter Tryz.func52, Tryz.ntmps52
          go_wp2_with (first
            | (go_at_call 78; refine (hbk _).mono ?_; rintro e w' ⟨rfl, hw'⟩; obtain rfl := hw'.symm)
            | (go_at_call 80; refine (hwd _).mono ?_; rintro e w' ⟨rfl, hw'⟩; obtain rfl := hw'.symm)
            | (go_at_call 81; refine (hre _).mono ?_; rintro e w' ⟨rfl, hd⟩))
          go_ret3
          exact ⟨by rw [HE.out]; rfl, hd⟩
        · rw [decide_eq_false (show ¬ (bts s).take (strB (wordL sec)).size = wordL sec by rw [hwz]; exact h7)] at hbe
          have HE : Hid (lineF sec (bts s) = (false, false, false)) := hide (by unfold lineF; rw [if_neg (by rw [hA]; simp), if_neg h5, hl, if_neg h6, if_pos h7])
          generalize strB (wordL sec) = wd at *
          clear hA h5 hl h6 h7 hwb hwz
          go_enter Tryz.func52, Tryz.ntmps52
          go_wp2_with (first
            | (go_at_call 78; refine (hbk _).mono ?_; rintro e w' ⟨rfl, hw'⟩; obtain rfl := hw'.symm)
            | (go_at_call 80; refine (hwd _).mono ?_; rintro e w' ⟨rfl, hw'⟩; obtain rfl := hw'.symm))
          go_ret3
          exact ⟨by rw [HE.out]; rfl, Below.refl _ _⟩
  · rw [hA] at hbk
    have HE : Hid (lineF sec (bts s) = (true, false, true)) := hide (by unfold lineF; rw [if_pos hA])
    clear hA hl
    go_enter Tryz.func52, Tryz.ntmps52
    go_wp2_with (go_at_call 78; refine (hbk _).mono ?_; rintro e w' ⟨rfl, hw'⟩; obtain rfl := hw'.symm)
    go_ret3
    exact ⟨by rw [HE.out]; rfl, Below.refl _ _⟩

set_option maxRecDepth 100000 in
set_option maxHeartbeats 1000000 in
theorem begun_any (sec : Nat) (s : ByteArray) (w : World) (hs : s.size ≤ 130000100) (hsec : sec ≤ 5) : Calls Tryz.prog 51 #[.int .i64 sec, .string s] w fun e w' => e = .returned (.bool (lineF sec (bts s)).2.2) ∧ Below w.heap.size w w' := by
  have hli := fun W => line_any sec s W hs hsec
  generalize lineF sec (bts s) = v at *
  obtain ⟨a, b, c⟩ := v
  go_enter Tryz.func51, Tryz.ntmps51
  go_wp2_with (go_at_call 52; refine (hli _).mono ?_; rintro e w' ⟨rfl, hd⟩)
  go_ret
  exact ⟨rfl, hd⟩
end Go.Proofs.YtmagchclmmphaaaGreatDoor.rf
namespace Go.Proofs.YtmagchclmmphaaaGreatDoor.rf
open Go.RowKit Go.Maps

/-- A block that holds a Place. -/
def PlcAt (w : World) (b x y z : Nat) : Prop := w.heap[b]? = some (.cells #[.int .i64 (x : Nat), .int .i64 (y : Nat), .int .i64 (z : Nat)] 46)
theorem PlcAt.facts {w : World} {b x y z : Nat} (h : PlcAt w b x y z) : (w.cell? ⟨b, 0, none⟩ = some (.int .i64 (x : Nat)) ∧ w.cell? ⟨b, 1, none⟩ = some (.int .i64 (y : Nat)) ∧ w.cell? ⟨b, 2, none⟩ = some (.int .i64 (z : Nat))) ∧ w.frozen? ⟨b, 0, none⟩ = false ∧ w.frozen? ⟨b, 1, none⟩ = false ∧ w.frozen? ⟨b, 2, none⟩ = false := by
  unfold PlcAt at h
  refine ⟨⟨?_, ?_, ?_⟩, ?_, ?_, ?_⟩ <;> simp [World.cell?, World.frozen?, h]
theorem PlcAt.lt {w : World} {b x y z : Nat} (h : PlcAt w b x y z) : b < w.heap.size := (Array.getElem?_eq_some_iff.1 h).1
theorem PlcAt.below {w w' : World} {b x y z B : Nat} (h : PlcAt w b x y z) (hb : Below B w w') (hB : b < B) : PlcAt w' b x y z := (hb.block b hB).trans h
theorem PlcAt.set0 {w : World} {b x y z : Nat} (h : PlcAt w b x y z) (v : Nat) : PlcAt (w.setCell ⟨b, 0, none⟩ (.int .i64 (v : Nat))) b v y z := by unfold PlcAt at *; rw [heap_setCell_same w b 0 _ 46 _ h]; simp
theorem PlcAt.set1 {w : World} {b x y z : Nat} (h : PlcAt w b x y z) (v : Nat) : PlcAt (w.setCell ⟨b, 1, none⟩ (.int .i64 (v : Nat))) b x v z := by unfold PlcAt at *; rw [heap_setCell_same w b 1 _ 46 _ h]; simp
theorem PlcAt.set2 {w : World} {b x y z : Nat} (h : PlcAt w b x y z) (v : Nat) : PlcAt (w.setCell ⟨b, 2, none⟩ (.int .i64 (v : Nat))) b x y v := by unfold PlcAt at *; rw [heap_setCell_same w b 2 _ 46 _ h]; simp
theorem PlcAt.other {w : World} {b b' x y z : Nat} (h : PlcAt w b x y z) (o : Nat) (u : Value) (hn : b ≠ b') : PlcAt (w.setCell ⟨b', o, none⟩ u) b x y z := by unfold PlcAt at *; rw [Below.heap_setCell _ _ _ _ hn]; exact h

/-- What the loop of place holds. -/
structure PlL (w w' : World) (s : ByteArray) (k sec f : Nat) (e : Nat × Nat) : Prop where
  sec5 : sec ≤ 5
  fk : f ≤ k
  r : PlcAt w' w.heap.size 0 0 0
  p : PlcAt w' (w.heap.size + 1) k sec f
  bel : Below w.heap.size w w'
  go : goF (1, 0) ((bts s).take k) = (e, k)
  ln : LInv sec (((bts s).take k).drop f) e
theorem bts_seg (s : ByteArray) (f k : Nat) : bts (s.extract f k) = ((bts s).take k).drop f := by rw [bts_extract, List.drop_take]
theorem seg_snoc (s : ByteArray) (f k b : Nat) (hf : f ≤ k) (hk : k < (bts s).length) (hb : (bts s)[k] = b) : ((bts s).take (k + 1)).drop f = ((bts s).take k).drop f ++ [b] := by
  rw [List.take_succ_eq_append_getElem hk, hb, List.drop_append_of_le_length (by simp; omega)]
theorem seg_nil (s : ByteArray) (k : Nat) : ((bts s).take k).drop k = [] := by simp
theorem ls_ne {sec : Nat} : (Ls sec).1 ≠ 0 := by unfold Ls; split <;> simp

theorem keep_pl {w wr w1 : World} {s : ByteArray} {k sec f : Nat} {e : Nat × Nat} (P : PlL w wr s k sec f e) (d : Below wr.drew.heap.size wr.drew w1) : PlcAt w1 (w.heap.size + 1) k sec f ∧ PlcAt w1 w.heap.size 0 0 0 ∧ Below w.heap.size w w1 :=
  ⟨PlcAt.below (w := wr.drew) P.p d P.p.lt, PlcAt.below (w := wr.drew) P.r d P.r.lt, P.bel.drew.trans (d.mono P.bel.size)⟩

set_option maxRecDepth 100000 in
set_option maxHeartbeats 4000000 in
theorem place_any (s : ByteArray) (w : World) (hs : s.size ≤ 130000000) :
    Calls Tryz.prog 21 #[.string s] w fun e w' => ∃ sec f, e = .returned (.agg #[.int .i64 (lenF s : Nat), .int .i64 (sec : Nat), .int .i64 (f : Nat)]) ∧ sec ≤ 5 ∧ f ≤ lenF s ∧ LInv sec (((bts s).take (lenF s)).drop f) (endF s) ∧ Below w.heap.size w w' := by
  have HL := hide (bts_len s)
  go_enter Tryz.func21, Tryz.ntmps21
  go_wp2
  go_loopw [4] (fun i wr => ∃ (k sec f : Nat), k ≤ s.size ∧ sec ≤ 5 ∧ f ≤ k ∧ i = .int .i64 k ∧ Hid (∃ e, PlL w wr s k sec f e)) (fun i _ => s.size - (intOf i).toNat)
  case atStart =>
    refine ⟨0, 0, 0, Nat.zero_le _, by omega, Nat.le_refl _, rfl, hide ⟨(1, 0), by omega, Nat.le_refl _, ?_, ?_, ?_, rfl, L_start (by omega)⟩⟩
    · show (((w.alloc _).alloc _).heap[w.heap.size]?) = _
      rw [Below.heap_alloc _ _ _ (by simp)]
      exact (MapKept.heap_alloc _ _).1
    · show (((w.alloc _).alloc _).heap[w.heap.size + 1]?) = _
      rw [show w.heap.size + 1 = (w.alloc (Obj.cells #[Value.int IntKind.i64 0, Value.int IntKind.i64 0, Value.int IntKind.i64 0] 46)).heap.size by simp]
      exact (MapKept.heap_alloc _ _).1
    · exact ((Below.refl _ _).alloc (Nat.le_refl _) _).alloc (by simp) _
  case round =>
    obtain ⟨k, sec, f, hk, hsec, hfk, rfl, HH⟩ := hrel
    obtain ⟨e, P⟩ := HH.out
    obtain ⟨⟨c0, c1, c2⟩, f0, f1, f2⟩ := P.p.facts
    obtain ⟨⟨r0, r1, r2⟩, g0, g1, g2⟩ := P.r.facts
    have hsz := P.p.lt
    by_cases hlt : k < s.size
    · have hkl : k < (bts s).length := by rw [bts_len]; exact hlt
      have hix := idx_b s k hlt
      obtain ⟨b, hb⟩ : ∃ b, (bts s)[k]'hkl = b := ⟨_, rfl⟩
      rw [hb] at hix
      have HB := hide hb
      have i1 : (k : Int) < (s.size : Int) := by omega
      have k0 : (0 : Int) ≤ (k : Int) := by omega
      have k1 : (0 : Int) ≤ (f : Int) := by omega
      by_cases h10 : b = 10
      · subst h10
        have k2 : (f : Int) ≤ (k : Int) := by omega
        have k3 : (k : Int) ≤ (s.size : Int) := by omega
        have hli := fun W => line_any sec (s.extract f k) W (by rw [ByteArray.size_extract]; omega) hsec
        rw [bts_seg] at hli
        have hval := L_val P.ln
        have HP := hide P
        rcases hval with ⟨hv, hst⟩ | ⟨hv, hs4, hst⟩ | ⟨hv, hst⟩
        · rw [hv] at hli
          have HG := hide (goF_more P.go hkl (by rw [hb, hst]; exact ls_ne))
          have HS := hide hst
          clear hb hst hv P HH c0 c1 c2 f0 f1 f2 r0 r1 r2 g0 g1 g2
          obtain ⟨⟨c0, c1, c2⟩, f0, f1, f2⟩ := HP.out.p.facts
          go_wp2_with fail
          go_region_with (go_at_call 52; refine (hli _).mono ?_; rintro e' w1 ⟨rfl, d⟩; obtain ⟨hp1, hr1, hbb1⟩ := keep_pl HP.out d; obtain ⟨⟨c0', c1', c2'⟩, f0', f1', f2'⟩ := hp1.facts; obtain ⟨⟨r0', r1', r2'⟩, g0', g1', g2'⟩ := hr1.facts)
          all_goals
            (have H1 := hide (And.intro hp1 (And.intro hr1 hbb1))
             clear hp1 hr1 hbb1 d
             go_wp2
             go_roundw
             case rel =>
               refine ⟨k + 1, sec, k + 1, by omega, by omega, by omega, by go_num, hide ⟨Ls (sec), by omega, by omega, ?_, ?_, ?_, ?_, ?_⟩⟩
               · exact (H1.out.2.1.other _ _ (by omega)).other _ _ (by omega)
               · exact (H1.out.1.set0 (k + 1)).set2 (k + 1)
               · exact (H1.out.2.2.setCell (by simp) _).setCell (by simp) _
               · have := HG.out; rw [HB.out, HS.out] at this; exact this
               · rw [seg_nil]; exact L_start (by omega)
             case measure => simp [intOf]; omega)
        · rw [hv] at hli
          have HG := hide (goF_more P.go hkl (by rw [hb, hst]; exact ls_ne))
          have HS := hide hst
          clear hb hst hv P HH c0 c1 c2 f0 f1 f2 r0 r1 r2 g0 g1 g2
          obtain ⟨⟨c0, c1, c2⟩, f0, f1, f2⟩ := HP.out.p.facts
          go_wp2_with fail
          go_region_with (go_at_call 52; refine (hli _).mono ?_; rintro e' w1 ⟨rfl, d⟩; obtain ⟨hp1, hr1, hbb1⟩ := keep_pl HP.out d; obtain ⟨⟨c0', c1', c2'⟩, f0', f1', f2'⟩ := hp1.facts; obtain ⟨⟨r0', r1', r2'⟩, g0', g1', g2'⟩ := hr1.facts)
          all_goals
            (have H1 := hide (And.intro hp1 (And.intro hr1 hbb1))
             clear hp1 hr1 hbb1 d
             go_wp2
             go_roundw
             case rel =>
               refine ⟨k + 1, sec + 1, k + 1, by omega, by omega, by omega, by go_num, hide ⟨Ls (sec + 1), by omega, by omega, ?_, ?_, ?_, ?_, ?_⟩⟩
               · exact ((H1.out.2.1.other _ _ (by omega)).other _ _ (by omega)).other _ _ (by omega)
               · exact ((H1.out.1.set1 (sec + 1)).set0 (k + 1)).set2 (k + 1)
               · exact ((H1.out.2.2.setCell (by simp) _).setCell (by simp) _).setCell (by simp) _
               · have := HG.out; rw [HB.out, HS.out] at this; exact this
               · rw [seg_nil]; exact L_start (by omega)
             case measure => simp [intOf]; omega)
        · rw [hv] at hli
          have HG : Hid (lenF s = k ∧ endF s = e) := hide (by
            have := goF_halt P.go hkl (by rw [hb]; exact hst)
            exact ⟨congrArg Prod.snd this, congrArg Prod.fst this⟩)
          clear hb hst hv P HH c0 c1 c2 f0 f1 f2 r0 r1 r2 g0 g1 g2
          obtain ⟨⟨c0, c1, c2⟩, f0, f1, f2⟩ := HP.out.p.facts
          go_wp2_with fail
          go_region_with (go_at_call 52; refine (hli _).mono ?_; rintro e' w1 ⟨rfl, d⟩; obtain ⟨hp1, hr1, hbb1⟩ := keep_pl HP.out d; obtain ⟨⟨c0', c1', c2'⟩, f0', f1', f2'⟩ := hp1.facts; obtain ⟨⟨r0', r1', r2'⟩, g0', g1', g2'⟩ := hr1.facts)
          all_goals
            (have H1 := hide (And.intro hp1 (And.intro hr1 hbb1))
             clear hp1 hr1 hbb1 d
             go_wp2
             have hr2 := ((H1.out.2.1.set0 k).set1 sec).set2 f
             obtain ⟨⟨k0', k1', k2'⟩, _⟩ := hr2.facts
             refine bodyPost_ret (v := .agg #[.int .i64 (k : Nat), .int .i64 (sec : Nat), .int .i64 (f : Nat)]) (by simp [results, go_sem, k0', k1', k2']) rfl ⟨sec, f, ?_⟩
             obtain ⟨h1, h2⟩ := HG.out
             rw [h1, h2]
             exact ⟨rfl, HP.out.sec5, HP.out.fk, HP.out.ln, ((H1.out.2.2.setCell (Nat.le_refl _) _).setCell (Nat.le_refl _) _).setCell (Nat.le_refl _) _⟩)
      · have hbn : ((b : Int) != 10) = true := by rw [bne_iff_ne]; omega
        have hwr : IntKind.i64.wrap ((k : Int) + 1) = (k : Int) + 1 := by rw [IntKind.wrap_i64]; omega
        have c3a : (f : Int) ≤ (k : Int) + 1 := by omega
        have c4a : (0 : Int) ≤ (k : Int) + 1 := by omega
        have c6a : (k : Int) + 1 ≤ (s.size : Int) := by omega
        have hbg := fun W => begun_any sec (s.extract f (k + 1)) W (by rw [ByteArray.size_extract]; omega) hsec
        rw [bts_seg, seg_snoc s f k b hfk hkl hb] at hbg
        have HP := hide P
        rcases L_next P.ln h10 with ⟨hst, hln⟩ | ⟨hst, hln⟩
        · have hv : (lineF sec (((bts s).take k).drop f ++ [b])).2.2 = true := by
            rcases L_val hln with ⟨hv, _⟩ | ⟨hv, _⟩ | ⟨hv, _⟩ <;> rw [hv]
          rw [hv] at hbg
          have HG := hide (goF_more P.go hkl (by rw [hb]; exact hst))
          have HN := hide hln
          clear hb hst hv P HH h10 hln c0 c1 c2 f0 f1 f2 r0 r1 r2 g0 g1 g2
          obtain ⟨⟨c0, c1, c2⟩, f0, f1, f2⟩ := HP.out.p.facts
          go_wp2_with fail
          go_region_with (go_at_call 51; refine (hbg _).mono ?_; rintro e' w1 ⟨rfl, d⟩; obtain ⟨hp1, hr1, hbb1⟩ := keep_pl HP.out d; obtain ⟨⟨c0', c1', c2'⟩, f0', f1', f2'⟩ := hp1.facts; obtain ⟨⟨r0', r1', r2'⟩, g0', g1', g2'⟩ := hr1.facts)
          all_goals
            (have H1 := hide (And.intro hp1 (And.intro hr1 hbb1))
             clear hp1 hr1 hbb1 d
             go_wp2
             go_roundw
             case rel =>
               refine ⟨k + 1, sec, f, by omega, by omega, by omega, by go_num, hide ⟨stepF e b, by omega, by omega, ?_, ?_, ?_, ?_, ?_⟩⟩
               · exact H1.out.2.1.other _ _ (by omega)
               · exact H1.out.1.set0 (k + 1)
               · exact H1.out.2.2.setCell (by simp) _
               · have := HG.out; rw [HB.out] at this; exact this
               · rw [seg_snoc s f k b hfk hkl HB.out]; exact HN.out
             case measure => simp [intOf]; omega)
        · rw [hln] at hbg
          have HG : Hid (lenF s = k ∧ endF s = e) := hide (by
            have := goF_halt P.go hkl (by rw [hb]; exact hst)
            exact ⟨congrArg Prod.snd this, congrArg Prod.fst this⟩)
          clear hb hst P HH h10 hln c0 c1 c2 f0 f1 f2 r0 r1 r2 g0 g1 g2
          obtain ⟨⟨c0, c1, c2⟩, f0, f1, f2⟩ := HP.out.p.facts
          go_wp2_with fail
          go_region_with (go_at_call 51; refine (hbg _).mono ?_; rintro e' w1 ⟨rfl, d⟩; obtain ⟨hp1, hr1, hbb1⟩ := keep_pl HP.out d; obtain ⟨⟨c0', c1', c2'⟩, f0', f1', f2'⟩ := hp1.facts; obtain ⟨⟨r0', r1', r2'⟩, g0', g1', g2'⟩ := hr1.facts)
          all_goals
            (have H1 := hide (And.intro hp1 (And.intro hr1 hbb1))
             clear hp1 hr1 hbb1 d
             go_wp2
             have hr2 := ((H1.out.2.1.set0 k).set1 sec).set2 f
             obtain ⟨⟨k0', k1', k2'⟩, _⟩ := hr2.facts
             refine bodyPost_ret (v := .agg #[.int .i64 (k : Nat), .int .i64 (sec : Nat), .int .i64 (f : Nat)]) (by simp [results, go_sem, k0', k1', k2']) rfl ⟨sec, f, ?_⟩
             obtain ⟨h1, h2⟩ := HG.out
             rw [h1, h2]
             exact ⟨rfl, HP.out.sec5, HP.out.fk, HP.out.ln, ((H1.out.2.2.setCell (Nat.le_refl _) _).setCell (Nat.le_refl _) _).setCell (Nat.le_refl _) _⟩)
    · have i1 : ¬ (k : Int) < (s.size : Int) := by omega
      have HG : Hid (lenF s = k ∧ endF s = e) := hide (by
        have hg := P.go
        rw [List.take_of_length_le (by rw [bts_len]; omega)] at hg
        exact ⟨congrArg Prod.snd hg, congrArg Prod.fst hg⟩)
      have H1 := hide P
      clear P HH
      go_wp2
      have hr2 := ((H1.out.r.set0 k).set1 sec).set2 f
      obtain ⟨⟨k0', k1', k2'⟩, _⟩ := hr2.facts
      refine bodyPost_ret (v := .agg #[.int .i64 (k : Nat), .int .i64 (sec : Nat), .int .i64 (f : Nat)]) (by simp [results, go_sem, k0', k1', k2']) rfl ⟨sec, f, ?_⟩
      obtain ⟨h1, h2⟩ := HG.out
      rw [h1, h2]
      exact ⟨rfl, H1.out.sec5, H1.out.fk, H1.out.ln, ((H1.out.bel.setCell (Nat.le_refl _) _).setCell (Nat.le_refl _) _).setCell (Nat.le_refl _) _⟩
end Go.Proofs.YtmagchclmmphaaaGreatDoor.rf
namespace Go.Proofs.YtmagchclmmphaaaGreatDoor.rf
open Go.RowKit Go.Maps

/-- What file says. -/
theorem file_val {sec : Nat} {x : List Nat} {e : Nat × Nat} (h5 : sec ≤ 5) (h : LInv sec x e) : ((lineF sec x).1 && (decide (sec = 5) || (decide (sec = 4) && (lineF sec x).2.1))) = isF e := by
  rcases L_val h with ⟨hv, hs⟩ | ⟨hv, h4, hs⟩ | ⟨hv, hs⟩
  · rw [hv]
    unfold isF
    rw [hs]
    have hc : sec = 0 ∨ sec = 1 ∨ sec = 2 ∨ sec = 3 ∨ sec = 4 ∨ sec = 5 := by omega
    rcases hc with rfl | rfl | rfl | rfl | rfl | rfl <;> rfl
  · rw [hv]
    unfold isF
    rw [hs]
    have hc : sec = 0 ∨ sec = 1 ∨ sec = 2 ∨ sec = 3 ∨ sec = 4 := by omega
    rcases hc with rfl | rfl | rfl | rfl | rfl <;> rfl
  · rw [hv]
    unfold isF
    rw [Bool.false_and, hs]
    rfl

set_option maxRecDepth 100000 in
set_option maxHeartbeats 2000000 in
theorem file_any (s : ByteArray) (x sec f : Nat) (e : Nat × Nat) (w : World) (hs : s.size ≤ 130000000) (h5 : sec ≤ 5) (hf : f ≤ s.size) (hln : LInv sec ((bts s).drop f) e) :
    Calls Tryz.prog 22 #[.string s, .agg #[.int .i64 (x : Nat), .int .i64 (sec : Nat), .int .i64 (f : Nat)]] w fun e' w' => e' = .returned (.bool (isF e)) ∧ Below w.heap.size w w' := by
  have hli := fun W => line_any sec (s.extract f s.size) W (by rw [ByteArray.size_extract]; omega) h5
  rw [bts_tail] at hli
  have HF := hide (file_val h5 hln)
  generalize lineF sec ((bts s).drop f) = v at *
  obtain ⟨a, b, c⟩ := v
  simp only at HF
  have k0 : (0 : Int) ≤ (f : Int) := by omega
  have k1 : (f : Int) ≤ (s.size : Int) := by omega
  have hc : sec = 5 ∨ sec = 4 ∨ (sec ≠ 5 ∧ sec ≠ 4) := by omega
  clear hln
  have hd1 : Below w.heap.size w (w.alloc (.cells #[.int .i64 (x : Nat), .int .i64 (sec : Nat), .int .i64 (f : Nat)] 46)) := (Below.refl _ _).alloc (Nat.le_refl _) _
  have HD1 := hide hd1
  have HC : Hid (PlcAt (w.alloc (.cells #[.int .i64 (x : Nat), .int .i64 (sec : Nat), .int .i64 (f : Nat)] 46)) w.heap.size x sec f) := hide (MapKept.heap_alloc _ _).1
  clear hd1
  go_enter Tryz.func22, Tryz.ntmps22
  go_wp2_with fail
  refine (hli _).mono ?_
  rintro e' w1 ⟨rfl, d⟩
  have hp := HC.out.below d HC.out.lt
  obtain ⟨⟨c0, c1, c2⟩, _⟩ := hp.facts
  have HD := hide (HD1.out.trans (d.mono HD1.out.size))
  clear hp d hli
  cases a
  · go_wp2
    go_ret
    exact ⟨by rw [← HF.out]; first | rfl | simp, HD.out⟩
  · rcases hc with h | h | ⟨h, h'⟩
    · have i5 : ((sec : Int) == 5) = true := by rw [beq_iff_eq]; omega
      have HE : Hid (isF e = true) := hide (by rw [← HF.out, decide_eq_true h]; rfl)
      clear h
      go_wp2
      go_ret
      exact ⟨by rw [HE.out]; first | rfl | simp, HD.out⟩
    · have i5 : ((sec : Int) == 5) = false := by rw [beq_eq_false_iff_ne]; omega
      have i4 : ((sec : Int) == 4) = true := by rw [beq_iff_eq]; omega
      have HE : Hid (isF e = b) := hide (by rw [← HF.out, decide_eq_true h, decide_eq_false (show ¬ sec = 5 by omega)]; simp)
      clear h
      go_wp2
      go_ret
      exact ⟨by rw [HE.out]; first | rfl | simp, HD.out⟩
    · have i5 : ((sec : Int) == 5) = false := by rw [beq_eq_false_iff_ne]; omega
      have i4 : ((sec : Int) == 4) = false := by rw [beq_eq_false_iff_ne]; omega
      have HE : Hid (isF e = false) := hide (by rw [← HF.out, decide_eq_false h, decide_eq_false h']; simp)
      clear h h'
      go_wp2
      go_ret
      exact ⟨by rw [HE.out]; first | rfl | simp, HD.out⟩

set_option maxRecDepth 100000 in
set_option maxHeartbeats 2000000 in
theorem rcheck_any (s : ByteArray) (w : World) (hs : s.size ≤ 130000000) :
    Calls Tryz.prog 8 #[.string s] w fun e w' => e = .returned (.tuple #[.int .i64 (lenF s : Nat), .int .i64 (errF s : Nat)]) ∧ Below w.heap.size w w' := by
  have hpl := fun W => place_any s W hs
  have hle := len_le s
  have HE : Hid (errF s = if lenF s < s.size ∨ isF (endF s) = false then 30 else 0) := hide rfl
  have HT : Hid (∀ f, lenF s = s.size → ((bts s).take (lenF s)).drop f = (bts s).drop f) := hide (fun f h => by rw [h, List.take_of_length_le (by rw [bts_len]; exact Nat.le_refl _)])
  generalize endF s = en at *
  generalize hn : lenF s = n at *
  go_enter Tryz.func8, Tryz.ntmps8
  go_wp2_with fail
  refine (hpl _).mono ?_
  rintro e w1 ⟨sec, f, rfl, h5, hfn, hln, d⟩
  have HD := hide (d.alloc d.size (.cells #[.int .i64 (n : Nat), .int .i64 (sec : Nat), .int .i64 (f : Nat)] 46))
  have HC : Hid (PlcAt (w1.alloc (.cells #[.int .i64 (n : Nat), .int .i64 (sec : Nat), .int .i64 (f : Nat)] 46)) w1.heap.size n sec f) := hide (MapKept.heap_alloc _ _).1
  clear hpl d
  by_cases hlt : n < s.size
  · have i1 : (n : Int) < (s.size : Int) := by omega
    have i2 : decide ((n : Int) < (s.size : Int)) = true := decide_eq_true i1
    have HL := hide hlt
    clear hlt hln hn
    go_wp2
    go_ret2
    exact ⟨by rw [HE.out, if_pos (.inl HL.out)]; rfl, HD.out⟩
  · have i1 : ¬ (n : Int) < (s.size : Int) := by omega
    have HL := hide hlt
    have hns : n = s.size := by omega
    rw [HT.out f hns] at hln
    have hfi := fun W => file_any s n sec f en W hs h5 (by omega) hln
    clear hlt hln hns hn
    go_wp2_with fail
    refine (hfi _).mono ?_
    rintro e w2 ⟨rfl, d2⟩
    have hp := HC.out.below d2 HC.out.lt
    obtain ⟨⟨c0, c1, c2⟩, _⟩ := hp.facts
    have HD2 := hide (HD.out.trans (d2.mono HD.out.size))
    clear hp d2 hfi
    generalize isF en = fl at *
    cases fl
    · go_wp2
      go_ret2
      exact ⟨by rw [HE.out, if_pos (by simp)]; rfl, HD2.out⟩
    · go_wp2
      go_ret2
      exact ⟨by rw [HE.out, if_neg (by have := HL.out; simp; omega)]; rfl, HD2.out⟩
end Go.Proofs.YtmagchclmmphaaaGreatDoor.rf
