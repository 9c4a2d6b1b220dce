import Derived.Test.YtchoopnjckcohaaGreatDoorEm
set_option maxRecDepth 100000
set_option maxHeartbeats 40000000
namespace Go.Proofs.YtchoopnjckcohaaGreatDoor
open Go.RowKit Go.Maps Go.Shelf
attribute [local go_sem] Oper.semAt_some
def MetQ (n m n' m' : Int) (Sa Fa : List Int) (Ea : List EdT) (Sb Fb : List Int) (Eb : List EdT) (ps : List PrT) (S F : List Int) (E : List EdT) : Prop := mayA n m Sa Fa Ea = true ∧ mayA n' m' Sb Fb Eb = true ∧ m = m' ∧ MeetR m.toNat n.toNat n'.toNat (riseL Sa) (riseL Fa) (riseE Ea) (riseL Sb) (riseL Fb) (riseE Eb) ps S F E
theorem meO_mono {w : World} {R R' : List PrT → List Int → List Int → List EdT → Prop} {m : Int} (h : ∀ ps S F E, R ps S F E → R' ps S F E) {e : Ending} {w' : World} (q : MeO w R m e w') : MeO w R' m e w' := by
 obtain ⟨n, mm, er, ps, S, F, E, x1, y1, x2, y2, x3, y3, xp, yp, he, hq, d⟩ := q
 refine ⟨n, mm, er, ps, S, F, E, x1, y1, x2, y2, x3, y3, xp, yp, he, hide ⟨hq.out.1, ?_⟩, d⟩
 rcases hq.out.2 with h0 | ⟨h0, h1, h2, h3, h4, h5, h6⟩
 · exact .inl h0
 · exact .inr ⟨h0, h1, h2, h3, h4, h5, h _ _ _ _ h6⟩
theorem paired_any (w : World) (n m n' m' bud0 : Int) (a1 a2 a3 b1 b2 b3 : Option Addr) (c1 c2 c3 d1 d2 d3 : Nat) (Sa Fa Sb Fb : List Int) (Ea Eb : List EdT) (hA : Hid (RdA w a1 a2 a3 Sa Fa Ea)) (hB : Hid (RdA w b1 b2 b3 Sb Fb Eb)) (h1 : Sa.length ≤ 2000000) (h2 : Fa.length ≤ 2000000) (h3 : Ea.length ≤ 2000000) (h4 : Sb.length ≤ 2000000) (h5 : Fb.length ≤ 2000000) (h6 : Eb.length ≤ 2000000) : Calls Tryz.prog 57 #[.agg #[.int .i64 n, .int .i64 m, .slice a1 Sa.length c1, .slice a2 Fa.length c2, .slice a3 Ea.length c3], .agg #[.int .i64 n', .int .i64 m', .slice b1 Sb.length d1, .slice b2 Fb.length d2, .slice b3 Eb.length d3], .int .i64 bud0, .func (.func 58) #[] #[]] w (MeO w (MetQ n m n' m' Sa Fa Ea Sb Fb Eb) m) := by
 cases em : mayA n m Sa Fa Ea with
 | false => exact paired_a w n m n' m' bud0 a1 a2 a3 b1 b2 b3 c1 c2 c3 d1 d2 d3 Sa Fa Sb Fb Ea Eb hA hB h1 h2 h3 h4 h5 h6 _ em
 | true =>
  cases em' : mayA n' m' Sb Fb Eb with
  | false => exact paired_b w n m n' m' bud0 a1 a2 a3 b1 b2 b3 c1 c2 c3 d1 d2 d3 Sa Fa Sb Fb Ea Eb hA hB h1 h2 h3 h4 h5 h6 _ em em'
  | true =>
   by_cases hm : m = m'
   · subst hm
     obtain ⟨N, rfl⟩ := Int.eq_ofNat_of_zero_le (show 0 ≤ n by have := (may_parts em).1; omega)
     obtain ⟨M, rfl⟩ := Int.eq_ofNat_of_zero_le (show 0 ≤ n' by have := (may_parts em').1; omega)
     obtain ⟨k, rfl⟩ := Int.eq_ofNat_of_zero_le (show 0 ≤ m by have := (may_parts em).2.1; omega)
     exact (paired_ok w N M k bud0 a1 a2 a3 b1 b2 b3 c1 c2 c3 d1 d2 d3 Sa Fa Sb Fb Ea Eb hA hB h1 h2 h3 h4 h5 h6 em em').mono (fun e w' q => meO_mono (fun ps S F E q => ⟨em, em', rfl, q⟩) q)
   · exact paired_m w n m n' m' bud0 a1 a2 a3 b1 b2 b3 c1 c2 c3 d1 d2 d3 Sa Fa Sb Fb Ea Eb hA hB h1 h2 h3 h4 h5 h6 _ em em' hm
theorem meet_any (w : World) (n m n' m' bud0 : Int) (a1 a2 a3 b1 b2 b3 : Option Addr) (c1 c2 c3 d1 d2 d3 : Nat) (Sa Fa Sb Fb : List Int) (Ea Eb : List EdT) (hA : Hid (RdA w a1 a2 a3 Sa Fa Ea)) (hB : Hid (RdA w b1 b2 b3 Sb Fb Eb)) (h1 : Sa.length ≤ 2000000) (h2 : Fa.length ≤ 2000000) (h3 : Ea.length ≤ 2000000) (h4 : Sb.length ≤ 2000000) (h5 : Fb.length ≤ 2000000) (h6 : Eb.length ≤ 2000000) : Calls Tryz.prog 23 #[.agg #[.int .i64 n, .int .i64 m, .slice a1 Sa.length c1, .slice a2 Fa.length c2, .slice a3 Ea.length c3], .agg #[.int .i64 n', .int .i64 m', .slice b1 Sb.length d1, .slice b2 Fb.length d2, .slice b3 Eb.length d3], .int .i64 bud0] w (MeO w (MetQ n m n' m' Sa Fa Ea Sb Fb Eb) m) := by
 obtain ⟨W0, hW0⟩ : ∃ W0, ((w.alloc (.cells #[.int .i64 n, .int .i64 m, .slice a1 Sa.length c1, .slice a2 Fa.length c2, .slice a3 Ea.length c3] 25)).alloc (.cells #[.int .i64 n', .int .i64 m', .slice b1 Sb.length d1, .slice b2 Fb.length d2, .slice b3 Eb.length d3] 25)).alloc (.cells #[.int .i64 0, .int .i64 0, .slice none 0 0, .slice none 0 0, .slice none 0 0] 25) = W0 := ⟨_, rfl⟩
 have HD := hide (box3b w #[.int .i64 n, .int .i64 m, .slice a1 Sa.length c1, .slice a2 Fa.length c2, .slice a3 Ea.length c3] #[.int .i64 n', .int .i64 m', .slice b1 Sb.length d1, .slice b2 Fb.length d2, .slice b3 Eb.length d3] #[.int .i64 0, .int .i64 0, .slice none 0 0, .slice none 0 0, .slice none 0 0] 25)
 rw [hW0] at HD
 have TB := paired_any W0 n m n' m' bud0 a1 a2 a3 b1 b2 b3 c1 c2 c3 d1 d2 d3 Sa Fa Sb Fb Ea Eb (hide (hA.out.on HD.out.1)) (hide (hB.out.on HD.out.1)) h1 h2 h3 h4 h5 h6
 have HS := hide HD.out.2.2.2.2
 obtain ⟨y0, y1, y2, y3, y4⟩ := zd5 HD.out.2.1 rfl rfl rfl rfl rfl
 obtain ⟨x0, x1, x2, x3, x4⟩ := zd5 HD.out.2.2.1 rfl rfl rfl rfl rfl
 go_enter Tryz.func23, Tryz.ntmps23
 go_wp2_with (go_at_call 57; refine TB.mono ?_; rintro e w1 ⟨n9, m9, er, ps, S, F, E, x1, y1, x2, y2, x3, y3, xp, yp, rfl, H1, D1⟩; have F4 := blk_on HD.out.2.2.2.1 D1; have HD1 := hide D1; obtain ⟨o0, o1, o2, o3, o4⟩ := zd5 F4 rfl rfl rfl rfl rfl; have fz0 : w1.frozen? ⟨w.heap.size + 1 + 1, 0, none⟩ = false := fz_of F4; have fz1 : w1.frozen? ⟨w.heap.size + 1 + 1, 1, none⟩ = false := fz_of F4; have fz2 : w1.frozen? ⟨w.heap.size + 1 + 1, 2, none⟩ = false := fz_of F4; have fz3 : w1.frozen? ⟨w.heap.size + 1 + 1, 3, none⟩ = false := fz_of F4; have fz4 : w1.frozen? ⟨w.heap.size + 1 + 1, 4, none⟩ = false := fz_of F4; have HF4 := hide F4; clear F4 D1)
 have O6 := hide (And.intro (set5 w1 (w.heap.size + 1 + 1) _ _ _ _ _ (.int .i64 n9) (.int .i64 m9) (.slice x1 S.length y1) (.slice x2 F.length y2) (.slice x3 E.length y3) 25 HF4.out) (only5 w1 (w.heap.size + 1 + 1) (.int .i64 n9) (.int .i64 m9) (.slice x1 S.length y1) (.slice x2 F.length y2) (.slice x3 E.length y3)))
 refine bodyPost_ret (results_c3 (p := 6) (q := 7) (r := 8) (ty := 25) rfl _ _ (w.heap.size + 1 + 1) 25 _ (0, 0) _ _ _ rfl rfl rfl O6.out.1 Tryz.underlying25 rfl (by kernel_rfl)) rfl ?_
 have s := HS.out
 exact ⟨n9, m9, er, ps, S, F, E, x1, y1, x2, y2, x3, y3, xp, yp, rfl, hide ⟨(H1.out.1.keep HF4.out O6.out.2).down (by omega), H1.out.2⟩, (HD.out.1.trans (HD1.out.mono HD.out.1.size)).trans (O6.out.2.toBelow (by have := HD1.out.size; omega) (fun k hk => by omega))⟩
end Go.Proofs.YtchoopnjckcohaaGreatDoor
namespace Go.Proofs.YtchoopnjckcohaaGreatDoor
open Go.RowKit Go.Maps
theorem aftL_iff {Ed : List EdT} : ∀ (Wd S : List Int) (x : Int), x ∈ aftL Ed S Wd ↔ ∃ p ∈ S, Rch Ed Wd p x
 | [], S, x => ⟨fun h => ⟨x, h, rfl⟩, fun ⟨p, h, e⟩ => by cases e; exact h⟩
 | y :: W, S, x => by
  show x ∈ aftL Ed (riseL (imgL false Ed S y)) W ↔ _
  rw [aftL_iff W]
  constructor
  · rintro ⟨p, hp, h⟩
    obtain ⟨e, he, rfl, hs, rfl⟩ := imgL_iff.1 ((riseL_iff _ p).1 hp)
    exact ⟨e.1, hs, e.2.2, he, h⟩
  · rintro ⟨p, hp, r, he, h⟩
    exact ⟨r, (riseL_iff _ r).2 (imgL_iff.2 ⟨(p, y, r), he, rfl, hp, rfl⟩), h⟩
theorem tkF_iff {n m : Int} {St Fi : List Int} {Ed : List EdT} {Wd : List Int} : tkF n m St Fi Ed Wd = true ↔ mayA n m St Fi Ed = true ∧ Wd.all (inB m) = true ∧ Tak St Fi Ed Wd := by
 unfold tkF accA aftA
 by_cases e : wordErr n m St Fi Ed Wd = 0
 · rw [if_pos e]
   obtain ⟨h1, h2⟩ := wordErr_zero e
   simp only [decide_true, Bool.and_true, List.any_eq_true, decide_eq_true_eq]
   constructor
   · rintro ⟨x, hx, hf⟩
     obtain ⟨p, hp, hr⟩ := (aftL_iff Wd _ x).1 hx
     exact ⟨h1, h2, p, (riseL_iff St p).1 hp, x, hf, hr⟩
   · rintro ⟨_, _, p, hp, q, hq, hr⟩
     exact ⟨q, (aftL_iff Wd _ q).2 ⟨p, (riseL_iff St p).2 hp, hr⟩, hq⟩
 · rw [if_neg e]
   simp only [List.any_nil, Bool.false_and]
   exact ⟨fun h => (by cases h), fun ⟨h1, h2, _⟩ => absurd (wordErr_iff.2 ⟨h1, h2⟩) e⟩
open Go.Shelf
theorem idx_self {ps : List PrT} (h : ps.Nodup) {a : Nat} {x : PrT} (ha : ps[a]? = some x) : ps.idxOf x = a := by
 obtain ⟨hl, rfl⟩ := List.getElem?_eq_some_iff.1 ha
 have hm : ps[a] ∈ ps := List.getElem_mem hl
 have h1 := List.idxOf_lt_length_of_mem hm
 have h2 := List.getElem_idxOf h1
 exact (List.getElem_inj h).1 h2
theorem idx_of {ps : List PrT} {y : PrT} (h : y ∈ ps) : ps[ps.idxOf y]? = some y := by
 have h1 := List.idxOf_lt_length_of_mem h
 rw [List.getElem?_eq_getElem h1, List.getElem_idxOf h1]
theorem rch_meet {m N M : Nat} {S1 F1 : List Int} {E1 : List EdT} {S2 F2 : List Int} {E2 : List EdT} {ps : List PrT} {S F : List Int} {E : List EdT} (h : MeetR m N M S1 F1 E1 S2 F2 E2 ps S F E) : ∀ (W : List Int) (a : Nat) (x : PrT) (q : Int), (∀ s ∈ W, 0 ≤ s ∧ s < (m : Int)) → ps[a]? = some x → (Rch E W (a : Int) q ↔ ∃ y, y ∈ ps ∧ q = (ps.idxOf y : Int) ∧ Rch E1 W x.1 y.1 ∧ Rch E2 W x.2 y.2)
 | [], a, x, q, _, ha => by
  simp only [Rch]
  constructor
  · rintro rfl
    exact ⟨x, List.mem_of_getElem? ha, by rw [idx_self h.nd ha], rfl, rfl⟩
  · rintro ⟨y, hy, rfl, e1, e2⟩
    obtain rfl : x = y := Prod.ext e1 e2
    rw [idx_self h.nd ha]
 | s :: W, a, x, q, hW, ha => by
  have hW2 : ∀ s ∈ W, 0 ≤ s ∧ s < (m : Int) := fun y hy => hW y (by simp [hy])
  obtain ⟨s0, s1⟩ := hW s (by simp)
  obtain ⟨c, rfl⟩ := Int.eq_ofNat_of_zero_le s0
  simp only [Rch]
  constructor
  · rintro ⟨r, hr, hR⟩
    obtain ⟨a', c', x', y', e1, e2, e3, e4⟩ := (h.ed _).1 hr
    simp only [Prod.mk.injEq] at e4
    obtain ⟨e5, e6, rfl⟩ := e4
    obtain rfl : a' = a := by omega
    obtain rfl : c' = c := by omega
    rw [ha] at e1
    cases e1
    have hy := h.cl _ _ _ _ ha e2 e3
    obtain ⟨y, q1, q2, q3, q4⟩ := (rch_meet h W _ y' q hW2 (idx_of hy)).1 hR
    exact ⟨y, q1, q2, ⟨y'.1, e3.1, q3⟩, ⟨y'.2, e3.2, q4⟩⟩
  · rintro ⟨y, q1, q2, ⟨r1, h1, h2⟩, ⟨r2, h3, h4⟩⟩
    have e3 : stp E1 E2 x c (r1, r2) := ⟨h1, h3⟩
    have hc : c < m := by omega
    have hy := h.cl _ _ _ _ ha hc e3
    exact ⟨_, (h.ed _).2 ⟨a, c, x, (r1, r2), ha, hc, e3, rfl⟩, (rch_meet h W _ (r1, r2) q hW2 (idx_of hy)).2 ⟨y, q1, q2, h2, h4⟩⟩
theorem mem_prsL {X Y : List Int} {t : PrT} : t ∈ prsL X Y ↔ t.1 ∈ X ∧ t.2 ∈ Y := by
 unfold prsL
 rw [List.mem_flatMap]
 constructor
 · rintro ⟨a, ha, h⟩
   obtain ⟨b, hb, rfl⟩ := List.mem_map.1 h
   exact ⟨ha, hb⟩
 · rintro ⟨h1, h2⟩
   exact ⟨t.1, h1, List.mem_map.2 ⟨t.2, h2, rfl⟩⟩
theorem mem_enT {f1 f2 : Nat → Bool} {ps : List PrT} {q : Int} : q ∈ enT f1 f2 ps ps.length ↔ ∃ (j : Nat) (x : PrT), ps[j]? = some x ∧ enP f1 f2 x = true ∧ q = (j : Int) := by
 unfold enT
 simp only [List.mem_map, List.mem_filter, List.mem_range]
 constructor
 · rintro ⟨j, ⟨hj, h⟩, rfl⟩
   rw [List.getElem?_eq_getElem hj] at h
   exact ⟨j, ps[j], List.getElem?_eq_getElem hj, by simpa using h, rfl⟩
 · rintro ⟨j, x, h1, h2, rfl⟩
   have hj := (List.getElem?_eq_some_iff.1 h1).1
   exact ⟨j, ⟨hj, by rw [h1]; simpa using h2⟩, rfl⟩
theorem may_meet {m N M : Nat} {S1 F1 : List Int} {E1 : List EdT} {S2 F2 : List Int} {E2 : List EdT} {ps : List PrT} {S F : List Int} {E : List EdT} (h : MeetR m N M S1 F1 E1 S2 F2 E2 ps S F E) (hm : m ≤ 128) (hE : E.length ≤ 65536) : mayA (ps.length : Int) (m : Int) S F E = true := by
 have hl := h.len
 refine may_of (by omega) (by omega) hE (fun x hx => ?_) (fun x hx => ?_) (fun e he => ?_)
 · obtain ⟨t, ht, rfl⟩ := (h.st x).1 hx
   have := List.idxOf_lt_length_of_mem (h.sin t ht)
   omega
 · rw [h.fi, mem_enT] at hx
   obtain ⟨j, y, h1, _, rfl⟩ := hx
   have := (List.getElem?_eq_some_iff.1 h1).1
   omega
 · obtain ⟨a, c, x, y, h1, h2, h3, rfl⟩ := (h.ed e).1 he
   have q1 := (List.getElem?_eq_some_iff.1 h1).1
   have q2 := List.idxOf_lt_length_of_mem (h.cl _ _ _ _ h1 h2 h3)
   simp only
   omega
theorem all_rng {m : Int} {L : List Int} : L.all (inB m) = true ↔ ∀ x ∈ L, 0 ≤ x ∧ x < m := by
 rw [List.all_eq_true]
 exact forall_congr' fun x => forall_congr' fun _ => inB_iff
theorem rch_rise {E : List EdT} (W : List Int) (p q : Int) : Rch (riseE E) W p q ↔ Rch E W p q := rch_same (fun e => riseE_iff E e) W p q
theorem tak_meet {m N M : Nat} {S1 F1 : List Int} {E1 : List EdT} {S2 F2 : List Int} {E2 : List EdT} {ps : List PrT} {S F : List Int} {E : List EdT} (h : MeetR m N M S1 F1 E1 S2 F2 E2 ps S F E) {W : List Int} (hW : ∀ s ∈ W, 0 ≤ s ∧ s < (m : Int)) : Tak S F E W ↔ Tak S1 F1 E1 W ∧ Tak S2 F2 E2 W := by
 have fin : ∀ y ∈ ps, enP (finB F1) (finB F2) y = true ↔ y.1 ∈ F1 ∧ y.2 ∈ F2 := by
  intro y hy
  obtain ⟨p, q, rfl, _, _⟩ := h.bd y hy
  simp [enP, finB]
 unfold Tak
 constructor
 · rintro ⟨p, hp, q, hq, hr⟩
   obtain ⟨t, ht, rfl⟩ := (h.st p).1 hp
   have ht2 := mem_prsL.1 ht
   obtain ⟨y, hy, rfl, r1, r2⟩ := (rch_meet h W _ t q hW (idx_of (h.sin t ht))).1 hr
   rw [h.fi, mem_enT] at hq
   obtain ⟨j, x, h1, h2, h3⟩ := hq
   have e1 := idx_of hy
   rw [show ps.idxOf y = j by omega, h1] at e1
   have e2 := Option.some.inj e1
   rw [e2] at h2
   obtain ⟨f1, f2⟩ := (fin y hy).1 h2
   exact ⟨⟨t.1, ht2.1, y.1, f1, r1⟩, ⟨t.2, ht2.2, y.2, f2, r2⟩⟩
 · rintro ⟨⟨p1, hp1, q1, hq1, r1⟩, ⟨p2, hp2, q2, hq2, r2⟩⟩
   have ht : (p1, p2) ∈ prsL S1 S2 := mem_prsL.2 ⟨hp1, hp2⟩
   have step : ∀ (W : List Int) (x : PrT), x ∈ ps → (∀ s ∈ W, 0 ≤ s ∧ s < (m : Int)) → ∀ y : PrT, Rch E1 W x.1 y.1 → Rch E2 W x.2 y.2 → y ∈ ps := by
    intro W
    induction W with
    | nil => intro x hx _ y e1 e2; obtain rfl : x = y := Prod.ext e1 e2; exact hx
    | cons s W ih =>
     intro x hx hs y ⟨u1, a1, b1⟩ ⟨u2, a2, b2⟩
     obtain ⟨s0, s1⟩ := hs s (by simp)
     obtain ⟨c, rfl⟩ := Int.eq_ofNat_of_zero_le s0
     exact ih (u1, u2) (h.cl _ c _ (u1, u2) (idx_of hx) (by omega) ⟨a1, a2⟩) (fun z hz => hs z (by simp [hz])) y b1 b2
   have hy := step W (p1, p2) (h.sin _ ht) hW (q1, q2) r1 r2
   refine ⟨_, (h.st _).2 ⟨_, ht, rfl⟩, (ps.idxOf (q1, q2) : Int), ?_, (rch_meet h W _ (p1, p2) _ hW (idx_of (h.sin _ ht))).2 ⟨(q1, q2), hy, rfl, r1, r2⟩⟩
   rw [h.fi, mem_enT]
   exact ⟨_, _, idx_of hy, (fin _ hy).2 ⟨hq1, hq2⟩, rfl⟩
theorem tak_rise {St Fi : List Int} {Ed : List EdT} {W : List Int} : Tak (riseL St) (riseL Fi) (riseE Ed) W ↔ Tak St Fi Ed W := by
 unfold Tak
 simp only [riseL_iff, rch_rise]
theorem tk_meet {n m n' m' : Int} {Sa Fa : List Int} {Ea : List EdT} {Sb Fb : List Int} {Eb : List EdT} {ps : List PrT} {S F : List Int} {E : List EdT} (h : MetQ n m n' m' Sa Fa Ea Sb Fb Eb ps S F E) (hE : E.length ≤ 65536) (W : List Int) : tkF (ps.length : Int) m S F E W = (tkF n m Sa Fa Ea W && tkF n' m' Sb Fb Eb W) := by
 obtain ⟨em, em', rfl, hR⟩ := h
 obtain ⟨k, rfl⟩ := Int.eq_ofNat_of_zero_le (may_parts em).2.1.1
 rw [Int.toNat_natCast] at hR
 have hk : k ≤ 128 := by have := (may_parts em).2.1; omega
 rw [Bool.eq_iff_iff, Bool.and_eq_true, tkF_iff, tkF_iff, tkF_iff]
 constructor
 · rintro ⟨_, hw, ht⟩
   obtain ⟨t1, t2⟩ := (tak_meet hR (all_rng.1 hw)).1 ht
   exact ⟨⟨em, hw, tak_rise.1 t1⟩, ⟨em', hw, tak_rise.1 t2⟩⟩
 · rintro ⟨⟨_, hw, t1⟩, ⟨_, _, t2⟩⟩
   exact ⟨may_meet hR hk hE, hw, (tak_meet hR (all_rng.1 hw)).2 ⟨tak_rise.2 t1, tak_rise.2 t2⟩⟩
end Go.Proofs.YtchoopnjckcohaaGreatDoor
namespace Go.Proofs.YtchoopnjckcohaaGreatDoor
open Go.RowKit Go.Maps Go.Shelf
attribute [local go_sem] Oper.semAt_some
def pairP (u v : Value) : MkP := fun x lo hi W => x = .slice (some ⟨lo, 0, none⟩) 2 2 ∧ lo < hi ∧ W.heap[lo]? = some (.cells #[u, v] 22 (0, 0))
theorem pairP_mono {u v : Value} : MonoP (pairP u v) := fun _ _ _ _ _ hs d ⟨e, l, z⟩ => ⟨e, l, (d.block _ (by omega)).trans z⟩
def agaA (N m : Int) (Sa Fa : List Int) (Br : List EdT) : Ans := if 65536 < Br.length then badA 8 else ⟨N, m, [0] ++ Sa, [0] ++ Fa, Br, 0⟩
theorem again_far (w : World) (N m n1 n2 n3 : Nat) (a1 a2 a3 : Option Addr) (c1 c2 c3 : Nat) (Sa Fa : List Int) (Ea : List EdT) (en : Hid (Sa.length = n1 ∧ Fa.length = n2 ∧ Ea.length = n3)) (hA : Hid (RdA w a1 a2 a3 Sa Fa Ea)) (zA : a1 = none → c1 = 0) (_zF : a2 = none → c2 = 0) (hN : N ≤ 4096) (hm : m ≤ 128) (h1 : n1 ≤ 2000000) (h2 : n2 ≤ 2000000) (h3 : n3 ≤ 2000000) (hS : Hid (SsE Ea)) (hF : Hid (∀ e ∈ Ea, (0 ≤ e.1 ∧ e.1 < (N : Int)) ∧ (0 ≤ e.2.1 ∧ e.2.1 < (m : Int)) ∧ (0 ≤ e.2.2 ∧ e.2.2 < (N : Int)))) (hG : Hid (∀ x ∈ Fa, ∃ q : Nat, q < N ∧ x = (q : Int))) (hbig : 65536 < (brL Ea Fa Sa m N).length) :
 Calls Tryz.prog 49 #[.agg #[.int .i64 (N : Int), .int .i64 (m : Int), .slice a1 n1 c1, .slice a2 n2 c2, .slice a3 n3 c3]] w (AnsO w (badA 8)) := by
 obtain ⟨W0, hW0⟩ : ∃ W0, (w.alloc (.cells #[.int .i64 (N : Int), .int .i64 (m : Int), .slice a1 n1 c1, .slice a2 n2 c2, .slice a3 n3 c3] 25)).alloc (.cells #[.int .i64 0, .int .i64 0, .slice none 0 0, .slice none 0 0, .slice none 0 0] 25) = W0 := ⟨_, rfl⟩
 have HD := hide (box2 w #[.int .i64 (N : Int), .int .i64 (m : Int), .slice a1 n1 c1, .slice a2 n2 c2, .slice a3 n3 c3] #[.int .i64 0, .int .i64 0, .slice none 0 0, .slice none 0 0, .slice none 0 0] 25)
 rw [hW0] at HD
 have TB := bridged_any W0 N m n1 n2 n3 a1 a2 a3 a1 c1 c2 c3 n1 c1 Ea Fa Sa en.out.2.1 en.out.2.2 en.out.1 zA hN hm (hide (hA.out.e.on HD.out.1)) (hide (hA.out.f.on HD.out.1)) (hide (hA.out.s.on HD.out.1)) h2 h3 h1 hS hF hG
 obtain ⟨y0, y1, y2, y3, y4⟩ := zd5 HD.out.2.1 rfl rfl rfl rfl rfl
 unfold BrP at TB
 simp only [if_pos hbig] at TB
 clear hbig
 go_enter Tryz.func49, Tryz.ntmps49
 go_upto_region 3 with (go_at_call 82; refine TB.mono ?_; rintro e w1 ⟨rfl, D1⟩; have H1 := hide D1; clear D1)
 have F4 := blk_on HD.out.2.2.1 H1.out
 obtain ⟨o0, o1, o2, o3, o4⟩ := zd5 F4 rfl rfl rfl rfl rfl
 have fz0 : w1.frozen? ⟨w.heap.size + 1, 0, none⟩ = false := fz_of F4
 have fz1 : w1.frozen? ⟨w.heap.size + 1, 1, none⟩ = false := fz_of F4
 have fz2 : w1.frozen? ⟨w.heap.size + 1, 2, none⟩ = false := fz_of F4
 have fz3 : w1.frozen? ⟨w.heap.size + 1, 3, none⟩ = false := fz_of F4
 have fz4 : w1.frozen? ⟨w.heap.size + 1, 4, none⟩ = false := fz_of F4
 have O6 := hide (And.intro (set5 w1 (w.heap.size + 1) _ _ _ _ _ (.int .i64 0) (.int .i64 0) (.slice none 0 0) (.slice none 0 0) (.slice none 0 0) 25 F4) (only5 w1 (w.heap.size + 1) (.int .i64 0) (.int .i64 0) (.slice none 0 0) (.slice none 0 0) (.slice none 0 0)))
 clear F4
 go_wp2_with fail
 refine bodyPost_ret (results_c1 (p := 2) (q := 3) (ty := 25) rfl _ _ (w.heap.size + 1) 25 _ (0, 0) _ _ rfl rfl O6.out.1 Tryz.underlying25 rfl (by kernel_rfl)) rfl ?_
 have s1 := HD.out.2.2.2
 have s2 := H1.out.size
 exact ansO_bad rfl ((HD.out.1.trans (H1.out.mono HD.out.1.size)).trans (O6.out.2.toBelow (by omega) (fun k hk => by omega)))
theorem again_fit (w : World) (N m n1 n2 n3 : Nat) (a1 a2 a3 : Option Addr) (c1 c2 c3 : Nat) (Sa Fa : List Int) (Ea : List EdT) (en : Hid (Sa.length = n1 ∧ Fa.length = n2 ∧ Ea.length = n3)) (hA : Hid (RdA w a1 a2 a3 Sa Fa Ea)) (zA : a1 = none → c1 = 0) (zF : a2 = none → c2 = 0) (hN : N ≤ 4096) (hm : m ≤ 128) (h1 : n1 ≤ 2000000) (h2 : n2 ≤ 2000000) (h3 : n3 ≤ 2000000) (hS : Hid (SsE Ea)) (hF : Hid (∀ e ∈ Ea, (0 ≤ e.1 ∧ e.1 < (N : Int)) ∧ (0 ≤ e.2.1 ∧ e.2.1 < (m : Int)) ∧ (0 ≤ e.2.2 ∧ e.2.2 < (N : Int)))) (hG : Hid (∀ x ∈ Fa, ∃ q : Nat, q < N ∧ x = (q : Int))) (hle : (brL Ea Fa Sa m N).length ≤ 65536) :
 Calls Tryz.prog 49 #[.agg #[.int .i64 (N : Int), .int .i64 (m : Int), .slice a1 n1 c1, .slice a2 n2 c2, .slice a3 n3 c3]] w (AnsO w ⟨(N : Int), (m : Int), [0] ++ Sa, [0] ++ Fa, brL Ea Fa Sa m N, 0⟩) := by
 obtain ⟨W0, hW0⟩ : ∃ W0, (w.alloc (.cells #[.int .i64 (N : Int), .int .i64 (m : Int), .slice a1 n1 c1, .slice a2 n2 c2, .slice a3 n3 c3] 25)).alloc (.cells #[.int .i64 0, .int .i64 0, .slice none 0 0, .slice none 0 0, .slice none 0 0] 25) = W0 := ⟨_, rfl⟩
 have HD := hide (box2 w #[.int .i64 (N : Int), .int .i64 (m : Int), .slice a1 n1 c1, .slice a2 n2 c2, .slice a3 n3 c3] #[.int .i64 0, .int .i64 0, .slice none 0 0, .slice none 0 0, .slice none 0 0] 25)
 rw [hW0] at HD
 have TB := bridged_any W0 N m n1 n2 n3 a1 a2 a3 a1 c1 c2 c3 n1 c1 Ea Fa Sa en.out.2.1 en.out.2.2 en.out.1 zA hN hm (hide (hA.out.e.on HD.out.1)) (hide (hA.out.f.on HD.out.1)) (hide (hA.out.s.on HD.out.1)) h2 h3 h1 hS hF hG
 obtain ⟨y0, y1, y2, y3, y4⟩ := zd5 HD.out.2.1 rfl rfl rfl rfl rfl
 unfold BrP at TB
 simp only [if_neg (show ¬ 65536 < (brL Ea Fa Sa m N).length by omega)] at TB
 obtain ⟨E, hE⟩ : ∃ E, brL Ea Fa Sa m N = E := ⟨_, rfl⟩
 rw [hE] at TB hle ⊢
 clear hE
 obtain ⟨S1, hS1⟩ : ∃ S, [0] ++ Sa = S := ⟨_, rfl⟩
 obtain ⟨F1, hF1⟩ : ∃ F, [0] ++ Fa = F := ⟨_, rfl⟩
 have HS1 := hide hS1
 have HF1 := hide hF1
 rw [hS1, hF1]
 clear hS1 hF1
 go_enter Tryz.func49, Tryz.ntmps49
 go_upto_region 4 with (go_at_call 82; refine TB.mono ?_; rintro e w1 ⟨v1, rfl, O1, D1⟩; obtain ⟨ae, cf, rfl⟩ := own_slice O1; have H1 := hide (And.intro O1 D1); clear O1 D1)
 clear TB y0 y1 y2 y3 y4
 go_upto_region 5 with fail
 obtain ⟨WB, hWB⟩ : ∃ W, w1.alloc (.cells #[.int .i64 0] 3) = W := ⟨_, rfl⟩
 have HFr : Hid (WB.heap[w1.heap.size]? = some (.cells #[.int .i64 0] 3 (0, 0))) := hide (by rw [← hWB]; exact World.alloc_heap_new _ _)
 have HW : Hid (Below w.heap.size w WB ∧ WB.heap[w.heap.size]? = some (.cells #[.int .i64 (N : Int), .int .i64 (m : Int), .slice a1 n1 c1, .slice a2 n2 c2, .slice a3 n3 c3] 25 (0, 0)) ∧ WB.heap[w.heap.size + 1]? = some (.cells #[.int .i64 0, .int .i64 0, .slice none 0 0, .slice none 0 0, .slice none 0 0] 25 (0, 0)) ∧ WB.ownsRow w.heap.size 61 3 (.slice ae E.length cf) E.length (E.flatMap encE)) := hide (by
  have k : Below w1.heap.size w1 WB := by rw [← hWB]; exact (Below.refl _ _).alloc (Nat.le_refl _) _
  have d2 := H1.out.2.trans (k.mono H1.out.2.size)
  exact ⟨HD.out.1.trans (d2.mono HD.out.1.size), blk_on HD.out.2.1 d2, blk_on HD.out.2.2.1 d2, owns_down (own_below H1.out.1 k) HD.out.1.size⟩)
 have sz : w1.heap.size < WB.heap.size := (Array.getElem?_eq_some_iff.1 HFr.out).1
 have sz2 : w.heap.size + 2 ≤ w1.heap.size := by have := HD.out.2.2.2; have := H1.out.2.size; omega
 rw [hWB]
 clear hWB H1
 have T1 : Hid (∀ W, Below WB.heap.size WB W → ∀ l, W.heap[l]? = some (.cells #[.slice (some ⟨w1.heap.size, 0, none⟩) 1 1, .slice a1 n1 c1] 22 (0, 0)) → Calls Tryz.prog 83 #[.slice (some ⟨l, 0, none⟩) 2 2] W fun e w' => ∃ v, e = .returned v ∧ Hid (w'.ownsRow W.heap.size 3 1 v ([0] ++ Sa).length (([0] ++ Sa).map (Value.int .i64)) ∧ Below W.heap.size W w')) := hide (fun W d l hl => concat_any W l _ a1 1 n1 1 c1 [0] Sa rfl en.out.1 (by omega) (by omega) (fun e => by cases e) zA (hide (rd_one (blk_on HFr.out d))) (hide (hA.out.s.on (HW.out.1.trans (d.mono HW.out.1.size)))) hl)
 have T2 : Hid (∀ W, Below WB.heap.size WB W → ∀ l, W.heap[l]? = some (.cells #[.slice (some ⟨w1.heap.size, 0, none⟩) 1 1, .slice a2 n2 c2] 22 (0, 0)) → Calls Tryz.prog 83 #[.slice (some ⟨l, 0, none⟩) 2 2] W fun e w' => ∃ v, e = .returned v ∧ Hid (w'.ownsRow W.heap.size 3 1 v ([0] ++ Fa).length (([0] ++ Fa).map (Value.int .i64)) ∧ Below W.heap.size W w')) := hide (fun W d l hl => concat_any W l _ a2 1 n2 1 c2 [0] Fa rfl en.out.2.1 (by omega) (by omega) (fun e => by cases e) zF (hide (rd_one (blk_on HFr.out d))) (hide (hA.out.f.on (HW.out.1.trans (d.mono HW.out.1.size)))) hl)
 have hmo : MonIL 0 [vI 0 (.pointer (some ⟨w.heap.size, 0, none⟩)), vI 1 (.int .i64 (N : Int)), vI 2 (.pointer (some ⟨w.heap.size, 1, none⟩)), vI 3 (.int .i64 (m : Int)), vI 4 (.slice (some ⟨w1.heap.size, 0, none⟩) 1 1), vI 5 (.pointer (some ⟨w.heap.size, 2, none⟩)), vI 6 (.slice a1 n1 c1), pI 7 (pairP (.slice (some ⟨w1.heap.size, 0, none⟩) 1 1) (.slice a1 n1 c1)), pI 8 (ownNI ([0] ++ Sa)), vI 9 (.slice (some ⟨w1.heap.size, 0, none⟩) 1 1), vI 10 (.pointer (some ⟨w.heap.size, 3, none⟩)), vI 11 (.slice a2 n2 c2), pI 12 (pairP (.slice (some ⟨w1.heap.size, 0, none⟩) 1 1) (.slice a2 n2 c2)), pI 13 (ownNI ([0] ++ Fa)), vI 14 (.slice ae E.length cf), ⟨[8, 13], [], fun y _ _ _ => y 15 = .agg #[.int .i64 (N : Int), .int .i64 (m : Int), y 8, y 13, .slice ae E.length cf]⟩] := ⟨vI_mono _ _, vI_mono _ _, vI_mono _ _, vI_mono _ _, vI_mono _ _, vI_mono _ _, vI_mono _ _, pI_mono pairP_mono, pI_mono ownNI_mono, vI_mono _ _, vI_mono _ _, vI_mono _ _, pI_mono pairP_mono, pI_mono ownNI_mono, vI_mono _ _, (fun _ _ _ _ _ _ _ _ hy h => by dsimp only at hy h ⊢; rw [hy 15 (Or.inl rfl), hy 8 (Or.inr (by simp)), hy 13 (Or.inr (by simp))]; exact h), trivial⟩
 refine wp_region_sl _ (by kernel_rfl) (by kernel_rfl) (by kernel_rfl) (by kernel_rfl) hmo ⟨?o0, ?o1, ?o2, ?o3, ?o4, ?o5, ?o6, ?o7, ?o8, ?o9, ?o10, ?o11, ?o12, ?o13, ?o14, ?o15, trivial⟩ ?fin
 case o0 =>
  intro At yy W hy hb d hd K hK
  obtain ⟨s1, s1'⟩ := zsb (hb 1 rfl : _ = .pointer (some ⟨w.heap.size, 0, none⟩))
  clear hd hy hb
  go_simp
  exact zkq hK hmo d (if_pos rfl)
 case o1 =>
  intro At yy W hy hb d hd K hK
  obtain ⟨s19, s19'⟩ := zsg 0 19 .data hy hd rfl
  clear hd hy hb
  have bx := blk_on HW.out.2.1 d
  obtain ⟨y0, y1, y2, y3, y4⟩ := zd5 bx rfl rfl rfl rfl rfl
  clear bx
  go_simp
  exact zkq hK hmo d (if_pos rfl)
 case o2 =>
  intro At yy W hy hb d hd K hK
  obtain ⟨s1, s1'⟩ := zsb (hb 1 rfl : _ = .pointer (some ⟨w.heap.size, 0, none⟩))
  clear hd hy hb
  go_simp
  exact zkq hK hmo d (if_pos rfl)
 case o3 =>
  intro At yy W hy hb d hd K hK
  obtain ⟨s21, s21'⟩ := zsg 2 21 .data hy hd rfl
  clear hd hy hb
  have bx := blk_on HW.out.2.1 d
  obtain ⟨y0, y1, y2, y3, y4⟩ := zd5 bx rfl rfl rfl rfl rfl
  clear bx
  go_simp
  exact zkq hK hmo d (if_pos rfl)
 case o4 =>
  intro At yy W hy hb d hd K hK
  obtain ⟨s6, s6'⟩ := zsb (hb 6 rfl : _ = .slice (some ⟨w1.heap.size, 0, none⟩) 1 1)
  clear hd hy hb
  go_simp
  exact zkq hK hmo d (if_pos rfl)
 case o5 =>
  intro At yy W hy hb d hd K hK
  obtain ⟨s1, s1'⟩ := zsb (hb 1 rfl : _ = .pointer (some ⟨w.heap.size, 0, none⟩))
  clear hd hy hb
  go_simp
  exact zkq hK hmo d (if_pos rfl)
 case o6 =>
  intro At yy W hy hb d hd K hK
  obtain ⟨s24, s24'⟩ := zsg 5 24 .data hy hd rfl
  clear hd hy hb
  have bx := blk_on HW.out.2.1 d
  obtain ⟨y0, y1, y2, y3, y4⟩ := zd5 bx rfl rfl rfl rfl rfl
  clear bx
  go_simp
  exact zkq hK hmo d (if_pos rfl)
 case o7 =>
  intro At yy W hy hb d hd K hK
  obtain ⟨s23, s23'⟩ := zsg 4 23 .data hy hd rfl
  obtain ⟨s25, s25'⟩ := zsg 6 25 .data hy hd rfl
  clear hd hy hb
  go_simp
  exact hK.out _ _ (stp_of hmo d ((Below.refl _ _).alloc (Nat.le_refl _) _)) ⟨if_pos rfl, by simp, World.alloc_heap_new _ _⟩
 case o8 =>
  intro At yy W hy hb d hd K hK
  have f7 := hd ⟨7, .data⟩ (by simp) rfl rfl
  obtain ⟨l7, u7, q7, r7, e7, lt7, h7⟩ := f7
  obtain ⟨s26, s26'⟩ := zsb ((hy 7 _ 26 rfl rfl).trans e7)
  clear hd hy hb
  go_simp
  go_wp2_with (go_at_call 83; refine (T1.out _ d l7 h7).mono ?_; rintro e wa ⟨v, rfl, hR⟩)
  exact hK.out _ wa (stp_of hmo d hR.out.2) (ownNI_of (if_pos rfl) hR.out.1)
 case o9 =>
  intro At yy W hy hb d hd K hK
  obtain ⟨s6, s6'⟩ := zsb (hb 6 rfl : _ = .slice (some ⟨w1.heap.size, 0, none⟩) 1 1)
  clear hd hy hb
  go_simp
  exact zkq hK hmo d (if_pos rfl)
 case o10 =>
  intro At yy W hy hb d hd K hK
  obtain ⟨s1, s1'⟩ := zsb (hb 1 rfl : _ = .pointer (some ⟨w.heap.size, 0, none⟩))
  clear hd hy hb
  go_simp
  exact zkq hK hmo d (if_pos rfl)
 case o11 =>
  intro At yy W hy hb d hd K hK
  obtain ⟨s29, s29'⟩ := zsg 10 29 .data hy hd rfl
  clear hd hy hb
  have bx := blk_on HW.out.2.1 d
  obtain ⟨y0, y1, y2, y3, y4⟩ := zd5 bx rfl rfl rfl rfl rfl
  clear bx
  go_simp
  exact zkq hK hmo d (if_pos rfl)
 case o12 =>
  intro At yy W hy hb d hd K hK
  obtain ⟨s28, s28'⟩ := zsg 9 28 .data hy hd rfl
  obtain ⟨s30, s30'⟩ := zsg 11 30 .data hy hd rfl
  clear hd hy hb
  go_simp
  exact hK.out _ _ (stp_of hmo d ((Below.refl _ _).alloc (Nat.le_refl _) _)) ⟨if_pos rfl, by simp, World.alloc_heap_new _ _⟩
 case o13 =>
  intro At yy W hy hb d hd K hK
  have f12 := hd ⟨12, .data⟩ (by simp) rfl rfl
  obtain ⟨l12, u12, q12, r12, e12, lt12, h12⟩ := f12
  obtain ⟨s31, s31'⟩ := zsb ((hy 12 _ 31 rfl rfl).trans e12)
  clear hd hy hb
  go_simp
  go_wp2_with (go_at_call 83; refine (T2.out _ d l12 h12).mono ?_; rintro e wa ⟨v, rfl, hR⟩)
  exact hK.out _ wa (stp_of hmo d hR.out.2) (ownNI_of (if_pos rfl) hR.out.1)
 case o14 =>
  intro At yy W hy hb d hd K hK
  obtain ⟨s4, s4'⟩ := zsb (hb 4 rfl : _ = .slice ae E.length cf)
  clear hd hy hb
  go_simp
  exact zkq hK hmo d (if_pos rfl)
 case o15 =>
  intro At yy W hy hb d hd K hK
  have f8 := hd ⟨8, .data⟩ (by simp) rfl rfl
  have f13 := hd ⟨13, .data⟩ (by simp) rfl rfl
  obtain ⟨_, _, _, _, o8, _⟩ := f8
  obtain ⟨_, _, _, _, o13, _⟩ := f13
  obtain ⟨x8, k8, e8⟩ := own_slice o8
  obtain ⟨x13, k13, e13⟩ := own_slice o13
  obtain ⟨s20, s20'⟩ := zsg 1 20 .data hy hd rfl
  obtain ⟨s22, s22'⟩ := zsg 3 22 .data hy hd rfl
  obtain ⟨s27, s27'⟩ := zsb ((hy 8 _ 27 rfl rfl).trans e8)
  obtain ⟨s32, s32'⟩ := zsb ((hy 13 _ 32 rfl rfl).trans e13)
  obtain ⟨s33, s33'⟩ := zsg 14 33 .data hy hd rfl
  clear hd hy hb
  go_simp
  exact zkq hK hmo d (by show updV yy 15 _ 15 = .agg #[.int .i64 (N : Int), .int .i64 (m : Int), updV yy 15 _ 8, updV yy 15 _ 13, .slice ae E.length cf]; simp [updV, e8, e13])
 case fin =>
  intro yy lo hi W hM
  show wpList _ _ _ [_, _] _ _
  have e0 := hM.v 0 (by simp) rfl rfl rfl
  have e1 := hM.v 1 (by simp) rfl rfl rfl
  have e2 := hM.v 2 (by simp) rfl rfl rfl
  have e3 := hM.v 3 (by simp) rfl rfl rfl
  have e4 := hM.v 4 (by simp) rfl rfl rfl
  have e5 := hM.v 5 (by simp) rfl rfl rfl
  have e6 := hM.v 6 (by simp) rfl rfl rfl
  have e9 := hM.v 9 (by simp) rfl rfl rfl
  have e10 := hM.v 10 (by simp) rfl rfl rfl
  have e11 := hM.v 11 (by simp) rfl rfl rfl
  have e14 := hM.v 14 (by simp) rfl rfl rfl
  have e15 : yy 15 = .agg #[.int .i64 (N : Int), .int .i64 (m : Int), yy 8, yy 13, .slice ae E.length cf] := hM.fact 15 (by simp) rfl (notR_all 15 rfl)
  obtain ⟨o8, l8⟩ := hM.fact 8 (by simp) rfl (notR_all 8 rfl)
  obtain ⟨o13, l13⟩ := hM.fact 13 (by simp) rfl (notR_all 13 rfl)
  obtain ⟨e7, _, _⟩ := hM.fact 7 (by simp) rfl (notR_all 7 rfl)
  obtain ⟨e12, _, _⟩ := hM.fact 12 (by simp) rfl (notR_all 12 rfl)
  have t8 := hM.at' 8 (by simp) rfl
  have t13 := hM.at' 13 (by simp) rfl
  have ap := hM.apart 8 13 (by simp) (by simp) rfl rfl (by decide)
  have dd := hM.d
  have sW := HW.out.1.size
  have HOO : OwnO w.heap.size W (yy 8) (yy 13) (.slice ae E.length cf) ([0] ++ Sa) ([0] ++ Fa) E := ownO_of o8 o13 (own_below HW.out.2.2.2 dd) l8 l13 (by omega) (by omega) (Nat.le_refl _) ap
  obtain ⟨x1, k1, e8⟩ := own_slice o8
  obtain ⟨x2, k2, e13⟩ := own_slice o13
  rw [e8, e13] at HOO e15
  rw [HS1.out] at e8 HOO e15
  rw [HF1.out] at e13 HOO e15
  simp only [fills, Act.put, List.take, List.length, List.setIfInBounds_toArray, List.set_cons_zero, List.set_cons_succ, e0, e1, e2, e3, e4, e5, e6, e9, e10, e11, e14, e7, e8, e12, e13, e15]
  clear hM hmo e0 e1 e2 e3 e4 e5 e6 e9 e10 e11 e14 e7 e8 e12 e13 e15 o8 o13 l8 l13 t8 t13 ap
  have HDD := hide dd
  clear dd
  have F4 := blk_on HW.out.2.2.1 HDD.out
  obtain ⟨o0, o1, o2, o3, o4⟩ := zd5 F4 rfl rfl rfl rfl rfl
  have fz0 : W.frozen? ⟨w.heap.size + 1, 0, none⟩ = false := fz_of F4
  have fz1 : W.frozen? ⟨w.heap.size + 1, 1, none⟩ = false := fz_of F4
  have fz2 : W.frozen? ⟨w.heap.size + 1, 2, none⟩ = false := fz_of F4
  have fz3 : W.frozen? ⟨w.heap.size + 1, 3, none⟩ = false := fz_of F4
  have fz4 : W.frozen? ⟨w.heap.size + 1, 4, none⟩ = false := fz_of F4
  have O6 := hide (And.intro (set5 W (w.heap.size + 1) _ _ _ _ _ (.int .i64 (N : Int)) (.int .i64 (m : Int)) (.slice x1 S1.length k1) (.slice x2 F1.length k2) (.slice ae E.length cf) 25 F4) (only5 W (w.heap.size + 1) (.int .i64 (N : Int)) (.int .i64 (m : Int)) (.slice x1 S1.length k1) (.slice x2 F1.length k2) (.slice ae E.length cf)))
  have HO := hide (HOO.keep F4 O6.out.2)
  clear F4 HOO
  go_wp2_with fail
  refine bodyPost_ret (results_c1 (p := 2) (q := 3) (ty := 25) rfl _ _ (w.heap.size + 1) 25 _ (0, 0) _ _ rfl rfl O6.out.1 Tryz.underlying25 rfl (by kernel_rfl)) rfl ?_
  have s1 := HDD.out.size
  have s3 := HD.out.2.2.2
  have dw := HW.out.1
  exact ⟨x1, k1, x2, k2, ae, cf, rfl, hide HO.out, (dw.trans (HDD.out.mono dw.size)).trans (O6.out.2.toBelow (by omega) (fun k hk => by omega))⟩
end Go.Proofs.YtchoopnjckcohaaGreatDoor
