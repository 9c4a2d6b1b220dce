import Derived.Test.YtmagchclmmphaabGreatDoorSp
import Derived.Laws.IdiomStrings
namespace Go.Proofs.YtmagchclmmphaabGreatDoor
open Go.RowKit Go.Maps

theorem field0 (x y : Nat) (W : World) : (Instr.field 107 (.agg #[.int .u8 (x : Int), .int .i64 (y : Int)]) 0).run Tryz.prog W = .ok (.int .u8 (x : Int)) W := by kernel_rfl

set_option maxRecDepth 100000 in
set_option maxHeartbeats 1000000 in
theorem isF_any (s : Nat × Nat) (w : World) (hT : RowsAt w) (hw0 : 1 < w.heap.size) (hs : okS s = true) :
    Calls Tryz.prog 78 #[spV s] w fun e w' => e = .returned (.bool (isF s)) ∧ Below w.heap.size w w' := by
  have HT := hide hT
  have hst := fun W h1 h2 => step_any s 10 W h1 h2 hs (by omega)
  have HI : Hid (isF s = ((stepF s 10).1 == 24)) := hide rfl
  clear hT hs
  obtain ⟨p, r⟩ := s
  unfold spV at *
  simp only at *
  generalize stepF (p, r) 10 = q at *
  obtain ⟨x, y⟩ := q
  simp only at *
  go_enter Tryz.func78, Tryz.ntmps78
  go_wp2_with fail
  have HB := hide ((Below.refl w.heap.size w).alloc (Nat.le_refl _) (Obj.cells #[Value.int IntKind.u8 p, Value.int IntKind.i64 r] 107))
  refine (hst _ (HT.out.below HB.out hw0) (by simp; omega)).mono ?_
  rintro e w1 ⟨rfl, d⟩
  have HD := hide (HB.out.trans (d.mono (by simp)))
  clear d hst
  have hfd := field0 x y
  go_wp2
  go_ret
  refine ⟨?_, HD.out⟩
  rw [HI.out]
  have : ((x : Int) == 24) = (x == 24) := by rw [Bool.eq_iff_iff, beq_iff_eq, beq_iff_eq]; omega
  rw [this]; rfl

/-- The bytes of a text. -/
def bts (s : ByteArray) : List Nat := s.data.toList.map (·.toNat)
theorem bts_len (s : ByteArray) : (bts s).length = s.size := by unfold bts; rw [List.length_map, Array.length_toList]; rfl
theorem bts_lt (s : ByteArray) : ∀ b ∈ bts s, b < 256 := by
  intro b hb
  obtain ⟨c, _, rfl⟩ := List.mem_map.1 hb
  exact c.toNat_lt
theorem bts_get (s : ByteArray) (k : Nat) (h : k < s.size) : (bts s)[k]'(by rw [bts_len]; exact h) = s[k].toNat := by simp [bts, ByteArray.getElem_eq_getElem_data]

theorem conv_any (s : ByteArray) : ∃ (cap : World → Nat) (row : World → Array Value) (frz : World → Nat × Nat), (∀ W, (convert 9 82 (.string s)).run Tryz.prog W = .ok (.slice (some ⟨W.heap.size, 0, none⟩) s.size (cap W)) (W.drew.alloc (.cells (row W) 5 (frz W)))) ∧ ∀ W k (h : k < s.size), (row W)[k]? = some (.int .u8 ((bts s)[k]'(by rw [bts_len]; exact h) : Nat)) := by
  refine ⟨fun W => grownCap W s.size 0 5, fun W => bytesRow s (grownCap W s.size 0 5), fun W => ((bytesRow s (grownCap W s.size 0 5)).size, (bytesRow s (grownCap W s.size 0 5)).size + 1), fun W => run_bytes_of_string (P := Tryz.prog) W 9 82 5 s Tryz.underlying9 Tryz.underlying82 Tryz.underlying5, fun W k h => ?_⟩
  rw [bts_get s k h]
  unfold bytesRow
  rw [Array.getElem?_append_left (by simpa using h)]
  rw [Array.getElem?_map, Array.getElem?_eq_getElem h]
  rfl

theorem goF_more {s0 c : Nat × Nat} {l : List Nat} {k : Nat} (h : goF s0 (l.take k) = (c, k)) (hk : k < l.length) (hn : (stepF c l[k]).1 ≠ 0) : goF s0 (l.take (k + 1)) = (stepF c l[k], k + 1) := by
  have hl : (l.take k).length = k := by simp; omega
  rw [List.take_succ_eq_append_getElem hk, goF_app _ (by rw [h, hl]), h, goF_on _ hn, hl]
  rfl
theorem goF_halt {s0 c : Nat × Nat} {l : List Nat} {k : Nat} (h : goF s0 (l.take k) = (c, k)) (hk : k < l.length) (hn : (stepF c l[k]).1 = 0) : goF s0 l = (c, k) := by
  have hl : (l.take k).length = k := by simp; omega
  have e : l = l.take k ++ l[k] :: l.drop (k + 1) := by rw [List.getElem_cons_drop, List.take_append_drop]
  rw [e, goF_app _ (by rw [h, hl]), h, goF_stop _ hn, hl]
  rfl

theorem res15 : Tryz.f77.results = #[ResultVar.cell 2 107, ResultVar.tmp 3] := by kernel_rfl

/-- A block that holds a spot. -/
def SpotAt (w : World) (b : Nat) (s : Nat × Nat) : Prop := w.heap[b]? = some (.cells #[.int .u8 (s.1 : Nat), .int .i64 (s.2 : Nat)] 107)
theorem SpotAt.facts {w : World} {b : Nat} {s : Nat × Nat} (h : SpotAt w b s) : w.cell? ⟨b, 0, none⟩ = some (.int .u8 (s.1 : Nat)) ∧ w.cell? ⟨b, 1, none⟩ = some (.int .i64 (s.2 : Nat)) ∧ w.frozen? ⟨b, 0, none⟩ = false ∧ w.frozen? ⟨b, 1, none⟩ = false := by
  unfold SpotAt at h
  refine ⟨?_, ?_, ?_, ?_⟩ <;> simp [World.cell?, World.frozen?, h]
theorem SpotAt.lt {w : World} {b : Nat} {s : Nat × Nat} (h : SpotAt w b s) : b < w.heap.size := (Array.getElem?_eq_some_iff.1 h).1
theorem SpotAt.below {w w' : World} {b B : Nat} {s : Nat × Nat} (h : SpotAt w b s) (hb : Below B w w') (hB : b < B) : SpotAt w' b s := (hb.block b hB).trans h
theorem SpotAt.set {w : World} {b : Nat} {s : Nat × Nat} (h : SpotAt w b s) (x y : Nat) : SpotAt ((w.setCell ⟨b, 0, none⟩ (.int .u8 (x : Nat))).setCell ⟨b, 1, none⟩ (.int .i64 (y : Nat))) b (x, y) := by
  unfold SpotAt at *
  have h1 : (w.setCell ⟨b, 0, none⟩ (.int .u8 (x : Nat))).heap[b]? = some (.cells #[.int .u8 (x : Nat), .int .i64 (s.2 : Nat)] 107 (0, 0)) := by rw [heap_setCell_same w b 0 _ 107 _ h]; simp
  rw [heap_setCell_same _ b 1 _ 107 _ h1]
  simp
theorem SpotAt.set_other {w : World} {b b' : Nat} {s : Nat × Nat} (h : SpotAt w b s) (o : Nat) (u : Value) (hn : b ≠ b') : SpotAt (w.setCell ⟨b', o, none⟩ u) b s := by
  unfold SpotAt at *
  rw [Below.heap_setCell _ _ _ _ hn]; exact h


theorem at_0 (w : World) (o1 o2 o3 : Obj) : (((w.alloc o1).alloc o2).alloc o3).heap[w.heap.size]? = some o1 := by
  rw [Below.heap_alloc _ _ _ (by simp; omega), Below.heap_alloc _ _ _ (by simp)]
  exact (MapKept.heap_alloc _ _).1
theorem at_1 (w : World) (o1 o2 o3 : Obj) : (((w.alloc o1).alloc o2).alloc o3).heap[w.heap.size + 1]? = some o2 := by
  rw [Below.heap_alloc _ _ _ (by simp), show w.heap.size + 1 = (w.alloc o1).heap.size by simp]
  exact (MapKept.heap_alloc _ _).1
theorem at_2 (w : World) (o1 o2 o3 : Obj) : (((w.alloc o1).alloc o2).alloc o3).heap[w.heap.size + 1 + 1]? = some o3 := by
  rw [show w.heap.size + 1 + 1 = ((w.alloc o1).alloc o2).heap.size by simp]
  exact (MapKept.heap_alloc _ _).1

theorem cell_of {w : World} {b j : Nat} {cs : Array Value} {t : TypeId} {fr : Nat × Nat} {v : Value} (h : w.heap[b]? = some (.cells cs t fr)) (hv : cs[j]? = some v) : w.cell? ⟨b, j, none⟩ = some v := by simp [World.cell?, h, hv]
/-- The bytes of a text as they lie in a block. -/
def BtsAt (w : World) (b : Nat) (l : List Nat) : Prop := ∀ j (h : j < l.length), w.cell? ⟨b, j, none⟩ = some (.int .u8 (l[j] : Nat))
theorem BtsAt.below {w w' : World} {b B : Nat} {l : List Nat} (h : BtsAt w b l) (hb : Below B w w') (hB : b < B) : BtsAt w' b l := fun j hj => (hb.cell (p := ⟨b, j, none⟩) hB).trans (h j hj)

set_option maxRecDepth 100000 in
set_option maxHeartbeats 1000000 in
theorem walk_any (s : ByteArray) (w : World) (hT : RowsAt w) (hw0 : 1 < w.heap.size) (hsz : s.size ≤ 134217728) :
    Calls Tryz.prog 77 #[.string s] w fun e w' => e = .returned (.tuple #[spV (goF (1, 0) (bts s)).1, .int .i64 ((goF (1, 0) (bts s)).2 : Nat)]) ∧ Below w.heap.size w w' := by
  obtain ⟨cap, row, frz, hcv, hrow⟩ := conv_any s
  have HROW := hide hrow
  have HT := hide hT
  have HLN := hide (bts_len s)
  have HL := hide (bts_lt s)
  obtain ⟨l, hle⟩ : ∃ l, bts s = l := ⟨_, rfl⟩
  have HLE := hide hle
  rw [hle] at HLN HL
  rw [hle]
  clear hT hrow hle
  go_enter Tryz.func77, Tryz.ntmps77
  go_wp2
  go_loopw [12] (fun i wr => ∃ (k : Nat) (c : Nat × Nat), k ≤ s.size ∧ i = .int .i64 k ∧ Hid (okS c = true ∧ goF (1, 0) (l.take k) = (c, k) ∧ SpotAt wr w.heap.size (0, 0) ∧ SpotAt wr (w.heap.size + 1) c ∧ BtsAt wr (w.heap.size + 1 + 1) l ∧ Below w.heap.size w wr ∧ w.heap.size + 1 + 1 < wr.heap.size)) (fun i _ => s.size - (intOf i).toNat)
  case atStart =>
    refine ⟨0, (1, 0), Nat.zero_le _, rfl, hide ⟨by decide, rfl, at_0 _ _ _ _, at_1 _ _ _ _, fun j hj => ?_, (below3 _ _ _ _).drew, by simp [World.drew]⟩⟩
    have hj' : j < s.size := by have := HLN.out; omega
    have h1 := HROW.out ((w.alloc (Obj.cells #[Value.int IntKind.u8 0, Value.int IntKind.i64 0] 107)).alloc (Obj.cells #[Value.int IntKind.u8 1, Value.int IntKind.i64 0] 107)) j hj'
    have e : (bts s)[j]'(by rw [bts_len]; exact hj') = l[j] := by simp only [HLE.out]
    rw [e] at h1
    exact cell_of (at_2 _ _ _ _) h1
  case round =>
    obtain ⟨k, c, hk, rfl, HH⟩ := hrel
    obtain ⟨hok, hgo, hs0, hs1, hrw, hb, hbig⟩ := HH.out
    have HB := hide hb
    have HS := hide (And.intro hs0 (And.intro hs1 hrw))
    obtain ⟨c0, c1, f0, f1⟩ := hs1.facts
    obtain ⟨r0, r1, g0, g1⟩ := hs0.facts
    by_cases hlt : k < s.size
    · have hkl : k < l.length := by have := HLN.out; omega
      have q := hrw k hkl
      obtain ⟨b, hbk⟩ : ∃ b, l[k] = b := ⟨_, rfl⟩
      rw [hbk] at q
      have hb256 : b < 256 := HL.out b (hbk ▸ List.getElem_mem hkl)
      have i2 : (k : Int) < (s.size : Int) := by omega
      have i0 : (0 : Int) ≤ (k : Int) := by omega
      have hst := fun W h1 h2 => step_any c b W h1 h2 hok hb256
      have HK := hide (And.intro hok (And.intro hgo hbk))
      clear hok hgo hs0 hs1 hrw hb hbk hb256
      obtain ⟨p, r⟩ := c
      by_cases hz : (stepF (p, r) b).1 = 0
      · have HZ := hide hz
        clear hz
        go_wp2_with fail
        refine (hst _ (HT.out.below HB.out hw0) (by omega)).mono ?_
        rintro e w1 ⟨rfl, d⟩
        have hbg : w.heap.size + 1 + 1 < w1.heap.size := Nat.lt_of_lt_of_le hbig d.size
        obtain ⟨x, y, hxy⟩ : ∃ x y, stepF (p, r) b = (x, y) := ⟨_, _, rfl⟩
        have HXY := hide hxy
        rw [hxy]
        clear hxy
        unfold spV
        simp only
        have hba : Below w1.heap.size w1 (w1.alloc (Obj.cells #[Value.int IntKind.u8 (x : Nat), Value.int IntKind.i64 (y : Nat)] 107)) := (Below.refl _ _).alloc (Nat.le_refl _) _
        have hs0 := (HS.out.1.below d (by omega)).below hba (by omega)
        have hs1 := (HS.out.2.1.below d (by omega)).below hba (by omega)
        clear c0 c1 r0 r1 g0 g1 f0 f1
        obtain ⟨c0, c1, f0, f1⟩ := hs1.facts
        obtain ⟨r0, r1, g0, g1⟩ := hs0.facts
        have HD := hide ((HB.out.trans (d.mono HB.out.size)).trans (hba.mono (by omega)))
        have HS1 := hide (And.intro hs0 hs1)
        have HR1 := hide ((HS.out.2.2.below d (by omega)).below hba (by omega))
        clear hs0 hs1 d hst hbig q hba
        simp only at c0 c1 r0 r1
        have hx : ((x : Int) == 0) = true := by
          have := HZ.out
          rw [HXY.out] at this
          rw [beq_iff_eq]; simp only at this; omega
        go_wp2
        have hge : goF (1, 0) l = ((p, r), k) := goF_halt HK.out.2.1 hkl (by rw [HK.out.2.2, HXY.out]; have := HZ.out; rw [HXY.out] at this; exact this)
        obtain ⟨k0, k1, _, _⟩ := (HS1.out.1.set p r).facts
        refine bodyPost_ret (v := .tuple #[spV (p, r), .int .i64 (k : Nat)]) (by simp [results, go_sem, spV, k0, k1]) rfl ⟨by rw [hge], ?_⟩
        exact (HD.out.setCell (Nat.le_refl _) _).setCell (Nat.le_refl _) _
      · have HZ := hide hz
        clear hz
        go_wp2_with fail
        refine (hst _ (HT.out.below HB.out hw0) (by omega)).mono ?_
        rintro e w1 ⟨rfl, d⟩
        have hbg : w.heap.size + 1 + 1 < w1.heap.size := Nat.lt_of_lt_of_le hbig d.size
        obtain ⟨x, y, hxy⟩ : ∃ x y, stepF (p, r) b = (x, y) := ⟨_, _, rfl⟩
        have HXY := hide hxy
        rw [hxy]
        clear hxy
        unfold spV
        simp only
        have hba : Below w1.heap.size w1 (w1.alloc (Obj.cells #[Value.int IntKind.u8 (x : Nat), Value.int IntKind.i64 (y : Nat)] 107)) := (Below.refl _ _).alloc (Nat.le_refl _) _
        have hs0 := (HS.out.1.below d (by omega)).below hba (by omega)
        have hs1 := (HS.out.2.1.below d (by omega)).below hba (by omega)
        clear c0 c1 r0 r1 g0 g1 f0 f1
        obtain ⟨c0, c1, f0, f1⟩ := hs1.facts
        obtain ⟨r0, r1, g0, g1⟩ := hs0.facts
        have HD := hide ((HB.out.trans (d.mono HB.out.size)).trans (hba.mono (by omega)))
        have HS1 := hide (And.intro hs0 hs1)
        have HR1 := hide ((HS.out.2.2.below d (by omega)).below hba (by omega))
        clear hs0 hs1 d hst hbig q hba
        simp only at c0 c1 r0 r1
        have hx : ((x : Int) == 0) = false := by
          have := HZ.out
          rw [HXY.out] at this
          rw [beq_eq_false_iff_ne]; simp only at this; omega
        go_wp2
        go_roundw
        case rel =>
          obtain ⟨hok, hgo, hbk⟩ := HK.out
          have hn : (stepF (p, r) b).1 ≠ 0 := HZ.out
          have hg2 := goF_more hgo hkl (by rw [hbk]; exact hn)
          rw [hbk, HXY.out] at hg2
          have hok2 := step_ok hok hn
          rw [HXY.out] at hok2
          refine ⟨k + 1, (x, y), by omega, by go_num, hide ⟨hok2, hg2, ?_, ?_, ?_, ?_, ?_⟩⟩
          · exact (HS1.out.1.set_other _ _ (by omega)).set_other _ _ (by omega)
          · exact HS1.out.2.set x y
          · intro j hj
            have := HR1.out j hj
            rw [← this]
            exact (World.cell?_of_block (by rw [Below.heap_setCell _ _ _ _ (by simp), Below.heap_setCell _ _ _ _ (by simp)]))
          · exact (HD.out.setCell (by simp) _).setCell (by simp) _
          · simp [World.setCell]; omega
        case measure => simp [intOf]; omega
    · have i2 : ¬ (k : Int) < (s.size : Int) := by omega
      have hke : k = s.size := by omega
      have hge : goF (1, 0) l = (c, k) := by rw [← hgo, List.take_of_length_le (by have := HLN.out; omega)]
      have HG := hide (And.intro hge hke)
      clear hge hke hgo hs0 hs1 hrw hb hok
      obtain ⟨p, r⟩ := c
      simp only at c0 c1
      go_wp2
      obtain ⟨k0, k1, _, _⟩ := (HS.out.1.set p r).facts
      refine bodyPost_ret (v := .tuple #[spV (p, r), .int .i64 (s.size : Nat)]) (by simp [results, go_sem, spV, k0, k1]) rfl ⟨by rw [HG.out.1, HG.out.2], ?_⟩
      exact (HB.out.setCell (Nat.le_refl _) _).setCell (Nat.le_refl _) _
end Go.Proofs.YtmagchclmmphaabGreatDoor
