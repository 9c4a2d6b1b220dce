import Derived.Test.YtgifamdoolcemaaDoorRh
namespace Go.Proofs.YtgifamdoolcemaaDoor
open Go.RowKit Go.Maps

/-- A block that holds a Place. -/
def PlcAt (w : World) (b x y z : Nat) : Prop := w.heap[b]? = some (.cells #[.int .i64 (x : Nat), .int .i64 (y : Nat), .int .i64 (z : Nat)] 45)
theorem PlcAt.facts {w : World} {b x y z : Nat} (h : PlcAt w b x y z) : (w.cell? ⟨b, 0, none⟩ = some (.int .i64 (x : Nat)) ∧ w.cell? ⟨b, 1, none⟩ = some (.int .i64 (y : Nat)) ∧ w.cell? ⟨b, 2, none⟩ = some (.int .i64 (z : Nat))) ∧ w.frozen? ⟨b, 0, none⟩ = false ∧ w.frozen? ⟨b, 1, none⟩ = false ∧ w.frozen? ⟨b, 2, none⟩ = false := by
  unfold PlcAt at h
  refine ⟨⟨?_, ?_, ?_⟩, ?_, ?_, ?_⟩ <;> simp [World.cell?, World.frozen?, h]
theorem PlcAt.lt {w : World} {b x y z : Nat} (h : PlcAt w b x y z) : b < w.heap.size := (Array.getElem?_eq_some_iff.1 h).1
theorem PlcAt.below {w w' : World} {b x y z B : Nat} (h : PlcAt w b x y z) (hb : Below B w w') (hB : b < B) : PlcAt w' b x y z := (hb.block b hB).trans h
theorem PlcAt.set0 {w : World} {b x y z : Nat} (h : PlcAt w b x y z) (v : Nat) : PlcAt (w.setCell ⟨b, 0, none⟩ (.int .i64 (v : Nat))) b v y z := by unfold PlcAt at *; rw [heap_setCell_same w b 0 _ 45 _ h]; simp
theorem PlcAt.set1 {w : World} {b x y z : Nat} (h : PlcAt w b x y z) (v : Nat) : PlcAt (w.setCell ⟨b, 1, none⟩ (.int .i64 (v : Nat))) b x v z := by unfold PlcAt at *; rw [heap_setCell_same w b 1 _ 45 _ h]; simp
theorem PlcAt.set2 {w : World} {b x y z : Nat} (h : PlcAt w b x y z) (v : Nat) : PlcAt (w.setCell ⟨b, 2, none⟩ (.int .i64 (v : Nat))) b x y v := by unfold PlcAt at *; rw [heap_setCell_same w b 2 _ 45 _ h]; simp
theorem PlcAt.other {w : World} {b b' x y z : Nat} (h : PlcAt w b x y z) (o : Nat) (u : Value) (hn : b ≠ b') : PlcAt (w.setCell ⟨b', o, none⟩ u) b x y z := by unfold PlcAt at *; rw [Below.heap_setCell _ _ _ _ hn]; exact h

/-- What the loop of place holds. -/
structure PlL (w w' : World) (s : ByteArray) (k sec f : Nat) (e : Nat × Nat) : Prop where
  sec5 : sec ≤ 5
  fk : f ≤ k
  r : PlcAt w' w.heap.size 0 0 0
  p : PlcAt w' (w.heap.size + 1) k sec f
  bel : Below w.heap.size w w'
  go : goF (1, 0) ((bts s).take k) = (e, k)
  ln : LInv sec (((bts s).take k).drop f) e
theorem bts_seg (s : ByteArray) (f k : Nat) : bts (s.extract f k) = ((bts s).take k).drop f := by rw [bts_extract, List.drop_take]
theorem seg_snoc (s : ByteArray) (f k b : Nat) (hf : f ≤ k) (hk : k < (bts s).length) (hb : (bts s)[k] = b) : ((bts s).take (k + 1)).drop f = ((bts s).take k).drop f ++ [b] := by
  rw [List.take_succ_eq_append_getElem hk, hb, List.drop_append_of_le_length (by simp; omega)]
theorem seg_nil (s : ByteArray) (k : Nat) : ((bts s).take k).drop k = [] := by simp
theorem ls_ne {sec : Nat} : (Ls sec).1 ≠ 0 := by unfold Ls; split <;> simp

theorem keep_pl {w wr w1 : World} {s : ByteArray} {k sec f : Nat} {e : Nat × Nat} (P : PlL w wr s k sec f e) (d : Below wr.drew.heap.size wr.drew w1) : PlcAt w1 (w.heap.size + 1) k sec f ∧ PlcAt w1 w.heap.size 0 0 0 ∧ Below w.heap.size w w1 :=
  ⟨PlcAt.below (w := wr.drew) P.p d P.p.lt, PlcAt.below (w := wr.drew) P.r d P.r.lt, P.bel.drew.trans (d.mono P.bel.size)⟩

set_option maxRecDepth 100000 in
set_option maxHeartbeats 4000000 in
theorem place_any (s : ByteArray) (w : World) (hs : s.size ≤ 1048600) :
    Calls Tryd.prog 19 #[.string s] w fun e w' => ∃ sec f, e = .returned (.agg #[.int .i64 (lenF s : Nat), .int .i64 (sec : Nat), .int .i64 (f : Nat)]) ∧ sec ≤ 5 ∧ f ≤ lenF s ∧ LInv sec (((bts s).take (lenF s)).drop f) (endF s) ∧ Below w.heap.size w w' := by
  have HL := hide (bts_len s)
  go_enter Tryd.func19, Tryd.ntmps19
  go_wp2
  go_loopw [4] (fun i wr => ∃ (k sec f : Nat), k ≤ s.size ∧ sec ≤ 5 ∧ f ≤ k ∧ i = .int .i64 k ∧ Hid (∃ e, PlL w wr s k sec f e)) (fun i _ => s.size - (intOf i).toNat)
  case atStart =>
    refine ⟨0, 0, 0, Nat.zero_le _, by omega, Nat.le_refl _, rfl, hide ⟨(1, 0), by omega, Nat.le_refl _, ?_, ?_, ?_, rfl, L_start (by omega)⟩⟩
    · show (((w.alloc _).alloc _).heap[w.heap.size]?) = _
      rw [Below.heap_alloc _ _ _ (by simp)]
      exact (MapKept.heap_alloc _ _).1
    · show (((w.alloc _).alloc _).heap[w.heap.size + 1]?) = _
      rw [show w.heap.size + 1 = (w.alloc (Obj.cells #[Value.int IntKind.i64 0, Value.int IntKind.i64 0, Value.int IntKind.i64 0] 45)).heap.size by simp]
      exact (MapKept.heap_alloc _ _).1
    · exact ((Below.refl _ _).alloc (Nat.le_refl _) _).alloc (by simp) _
  case round =>
    obtain ⟨k, sec, f, hk, hsec, hfk, rfl, HH⟩ := hrel
    obtain ⟨e, P⟩ := HH.out
    obtain ⟨⟨c0, c1, c2⟩, f0, f1, f2⟩ := P.p.facts
    obtain ⟨⟨r0, r1, r2⟩, g0, g1, g2⟩ := P.r.facts
    have hsz := P.p.lt
    by_cases hlt : k < s.size
    · have hkl : k < (bts s).length := by rw [bts_len]; exact hlt
      have hix := idx_b s k hlt
      obtain ⟨b, hb⟩ : ∃ b, (bts s)[k]'hkl = b := ⟨_, rfl⟩
      rw [hb] at hix
      have HB := hide hb
      have i1 : (k : Int) < (s.size : Int) := by omega
      have k0 : (0 : Int) ≤ (k : Int) := by omega
      have k1 : (0 : Int) ≤ (f : Int) := by omega
      by_cases h10 : b = 10
      · subst h10
        have k2 : (f : Int) ≤ (k : Int) := by omega
        have k3 : (k : Int) ≤ (s.size : Int) := by omega
        have hli := fun W => line_any sec (s.extract f k) W (by rw [ByteArray.size_extract]; omega) hsec
        rw [bts_seg] at hli
        have hval := L_val P.ln
        have HP := hide P
        rcases hval with ⟨hv, hst⟩ | ⟨hv, hs4, hst⟩ | ⟨hv, hst⟩
        · rw [hv] at hli
          have HG := hide (goF_more P.go hkl (by rw [hb, hst]; exact ls_ne))
          have HS := hide hst
          clear hb hst hv P HH c0 c1 c2 f0 f1 f2 r0 r1 r2 g0 g1 g2
          obtain ⟨⟨c0, c1, c2⟩, f0, f1, f2⟩ := HP.out.p.facts
          go_wp2_with fail
          go_region_with (go_at_call 28; refine (hli _).mono ?_; rintro e' w1 ⟨rfl, d⟩; obtain ⟨hp1, hr1, hbb1⟩ := keep_pl HP.out d; obtain ⟨⟨c0', c1', c2'⟩, f0', f1', f2'⟩ := hp1.facts; obtain ⟨⟨r0', r1', r2'⟩, g0', g1', g2'⟩ := hr1.facts)
          all_goals
            (have H1 := hide (And.intro hp1 (And.intro hr1 hbb1))
             clear hp1 hr1 hbb1 d
             go_wp2
             go_roundw
             case rel =>
               refine ⟨k + 1, sec, k + 1, by omega, by omega, by omega, by go_num, hide ⟨Ls (sec), by omega, by omega, ?_, ?_, ?_, ?_, ?_⟩⟩
               · exact (H1.out.2.1.other _ _ (by omega)).other _ _ (by omega)
               · exact (H1.out.1.set0 (k + 1)).set2 (k + 1)
               · exact (H1.out.2.2.setCell (by simp) _).setCell (by simp) _
               · have := HG.out; rw [HB.out, HS.out] at this; exact this
               · rw [seg_nil]; exact L_start (by omega)
             case measure => simp [intOf]; omega)
        · rw [hv] at hli
          have HG := hide (goF_more P.go hkl (by rw [hb, hst]; exact ls_ne))
          have HS := hide hst
          clear hb hst hv P HH c0 c1 c2 f0 f1 f2 r0 r1 r2 g0 g1 g2
          obtain ⟨⟨c0, c1, c2⟩, f0, f1, f2⟩ := HP.out.p.facts
          go_wp2_with fail
          go_region_with (go_at_call 28; refine (hli _).mono ?_; rintro e' w1 ⟨rfl, d⟩; obtain ⟨hp1, hr1, hbb1⟩ := keep_pl HP.out d; obtain ⟨⟨c0', c1', c2'⟩, f0', f1', f2'⟩ := hp1.facts; obtain ⟨⟨r0', r1', r2'⟩, g0', g1', g2'⟩ := hr1.facts)
          all_goals
            (have H1 := hide (And.intro hp1 (And.intro hr1 hbb1))
             clear hp1 hr1 hbb1 d
             go_wp2
             go_roundw
             case rel =>
               refine ⟨k + 1, sec + 1, k + 1, by omega, by omega, by omega, by go_num, hide ⟨Ls (sec + 1), by omega, by omega, ?_, ?_, ?_, ?_, ?_⟩⟩
               · exact ((H1.out.2.1.other _ _ (by omega)).other _ _ (by omega)).other _ _ (by omega)
               · exact ((H1.out.1.set1 (sec + 1)).set0 (k + 1)).set2 (k + 1)
               · exact ((H1.out.2.2.setCell (by simp) _).setCell (by simp) _).setCell (by simp) _
               · have := HG.out; rw [HB.out, HS.out] at this; exact this
               · rw [seg_nil]; exact L_start (by omega)
             case measure => simp [intOf]; omega)
        · rw [hv] at hli
          have HG : Hid (lenF s = k ∧ endF s = e) := hide (by
            have := goF_halt P.go hkl (by rw [hb]; exact hst)
            exact ⟨congrArg Prod.snd this, congrArg Prod.fst this⟩)
          clear hb hst hv P HH c0 c1 c2 f0 f1 f2 r0 r1 r2 g0 g1 g2
          obtain ⟨⟨c0, c1, c2⟩, f0, f1, f2⟩ := HP.out.p.facts
          go_wp2_with fail
          go_region_with (go_at_call 28; refine (hli _).mono ?_; rintro e' w1 ⟨rfl, d⟩; obtain ⟨hp1, hr1, hbb1⟩ := keep_pl HP.out d; obtain ⟨⟨c0', c1', c2'⟩, f0', f1', f2'⟩ := hp1.facts; obtain ⟨⟨r0', r1', r2'⟩, g0', g1', g2'⟩ := hr1.facts)
          all_goals
            (have H1 := hide (And.intro hp1 (And.intro hr1 hbb1))
             clear hp1 hr1 hbb1 d
             go_wp2
             have hr2 := ((H1.out.2.1.set0 k).set1 sec).set2 f
             obtain ⟨⟨k0', k1', k2'⟩, _⟩ := hr2.facts
             refine bodyPost_ret (v := .agg #[.int .i64 (k : Nat), .int .i64 (sec : Nat), .int .i64 (f : Nat)]) (by simp [results, go_sem, k0', k1', k2']) rfl ⟨sec, f, ?_⟩
             obtain ⟨h1, h2⟩ := HG.out
             rw [h1, h2]
             exact ⟨rfl, HP.out.sec5, HP.out.fk, HP.out.ln, ((H1.out.2.2.setCell (Nat.le_refl _) _).setCell (Nat.le_refl _) _).setCell (Nat.le_refl _) _⟩)
      · have hbn : ((b : Int) != 10) = true := by rw [bne_iff_ne]; omega
        have hwr : IntKind.i64.wrap ((k : Int) + 1) = (k : Int) + 1 := by rw [IntKind.wrap_i64]; omega
        have c3a : (f : Int) ≤ (k : Int) + 1 := by omega
        have c4a : (0 : Int) ≤ (k : Int) + 1 := by omega
        have c6a : (k : Int) + 1 ≤ (s.size : Int) := by omega
        have hbg := fun W => begun_any sec (s.extract f (k + 1)) W (by rw [ByteArray.size_extract]; omega) hsec
        rw [bts_seg, seg_snoc s f k b hfk hkl hb] at hbg
        have HP := hide P
        rcases L_next P.ln h10 with ⟨hst, hln⟩ | ⟨hst, hln⟩
        · have hv : (lineF sec (((bts s).take k).drop f ++ [b])).2.2 = true := by
            rcases L_val hln with ⟨hv, _⟩ | ⟨hv, _⟩ | ⟨hv, _⟩ <;> rw [hv]
          rw [hv] at hbg
          have HG := hide (goF_more P.go hkl (by rw [hb]; exact hst))
          have HN := hide hln
          clear hb hst hv P HH h10 hln c0 c1 c2 f0 f1 f2 r0 r1 r2 g0 g1 g2
          obtain ⟨⟨c0, c1, c2⟩, f0, f1, f2⟩ := HP.out.p.facts
          go_wp2_with fail
          go_region_with (go_at_call 27; refine (hbg _).mono ?_; rintro e' w1 ⟨rfl, d⟩; obtain ⟨hp1, hr1, hbb1⟩ := keep_pl HP.out d; obtain ⟨⟨c0', c1', c2'⟩, f0', f1', f2'⟩ := hp1.facts; obtain ⟨⟨r0', r1', r2'⟩, g0', g1', g2'⟩ := hr1.facts)
          all_goals
            (have H1 := hide (And.intro hp1 (And.intro hr1 hbb1))
             clear hp1 hr1 hbb1 d
             go_wp2
             go_roundw
             case rel =>
               refine ⟨k + 1, sec, f, by omega, by omega, by omega, by go_num, hide ⟨stepF e b, by omega, by omega, ?_, ?_, ?_, ?_, ?_⟩⟩
               · exact H1.out.2.1.other _ _ (by omega)
               · exact H1.out.1.set0 (k + 1)
               · exact H1.out.2.2.setCell (by simp) _
               · have := HG.out; rw [HB.out] at this; exact this
               · rw [seg_snoc s f k b hfk hkl HB.out]; exact HN.out
             case measure => simp [intOf]; omega)
        · rw [hln] at hbg
          have HG : Hid (lenF s = k ∧ endF s = e) := hide (by
            have := goF_halt P.go hkl (by rw [hb]; exact hst)
            exact ⟨congrArg Prod.snd this, congrArg Prod.fst this⟩)
          clear hb hst P HH h10 hln c0 c1 c2 f0 f1 f2 r0 r1 r2 g0 g1 g2
          obtain ⟨⟨c0, c1, c2⟩, f0, f1, f2⟩ := HP.out.p.facts
          go_wp2_with fail
          go_region_with (go_at_call 27; refine (hbg _).mono ?_; rintro e' w1 ⟨rfl, d⟩; obtain ⟨hp1, hr1, hbb1⟩ := keep_pl HP.out d; obtain ⟨⟨c0', c1', c2'⟩, f0', f1', f2'⟩ := hp1.facts; obtain ⟨⟨r0', r1', r2'⟩, g0', g1', g2'⟩ := hr1.facts)
          all_goals
            (have H1 := hide (And.intro hp1 (And.intro hr1 hbb1))
             clear hp1 hr1 hbb1 d
             go_wp2
             have hr2 := ((H1.out.2.1.set0 k).set1 sec).set2 f
             obtain ⟨⟨k0', k1', k2'⟩, _⟩ := hr2.facts
             refine bodyPost_ret (v := .agg #[.int .i64 (k : Nat), .int .i64 (sec : Nat), .int .i64 (f : Nat)]) (by simp [results, go_sem, k0', k1', k2']) rfl ⟨sec, f, ?_⟩
             obtain ⟨h1, h2⟩ := HG.out
             rw [h1, h2]
             exact ⟨rfl, HP.out.sec5, HP.out.fk, HP.out.ln, ((H1.out.2.2.setCell (Nat.le_refl _) _).setCell (Nat.le_refl _) _).setCell (Nat.le_refl _) _⟩)
    · have i1 : ¬ (k : Int) < (s.size : Int) := by omega
      have HG : Hid (lenF s = k ∧ endF s = e) := hide (by
        have hg := P.go
        rw [List.take_of_length_le (by rw [bts_len]; omega)] at hg
        exact ⟨congrArg Prod.snd hg, congrArg Prod.fst hg⟩)
      have H1 := hide P
      clear P HH
      go_wp2
      have hr2 := ((H1.out.r.set0 k).set1 sec).set2 f
      obtain ⟨⟨k0', k1', k2'⟩, _⟩ := hr2.facts
      refine bodyPost_ret (v := .agg #[.int .i64 (k : Nat), .int .i64 (sec : Nat), .int .i64 (f : Nat)]) (by simp [results, go_sem, k0', k1', k2']) rfl ⟨sec, f, ?_⟩
      obtain ⟨h1, h2⟩ := HG.out
      rw [h1, h2]
      exact ⟨rfl, H1.out.sec5, H1.out.fk, H1.out.ln, ((H1.out.bel.setCell (Nat.le_refl _) _).setCell (Nat.le_refl _) _).setCell (Nat.le_refl _) _⟩
end Go.Proofs.YtgifamdoolcemaaDoor
