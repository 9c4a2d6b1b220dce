import Derived.Test.YtmagchclmmphaabGreatDoorBM
import Derived.Test.YtmagchclmmphaabGreatDoorPD
import Derived.Test.YtmagchclmmphaabGreatDoorFs
import Derived.Test.YtmagchclmmphaabGreatDoorFE
import Derived.Test.YtmagchclmmphaabGreatDoorRJ
namespace Go.Proofs.YtmagchclmmphaabGreatDoor
open Go.RowKit Go.Maps
attribute [local go_sem] Oper.semAt_some

/-! ### FormatBack -/
theorem alloc_kept {X w' : World} {c : Array Value} {t : TypeId} (d : Below (X.alloc (.cells c t)).heap.size (X.alloc (.cells c t)) w') : w'.heap[X.heap.size]? = some (.cells c t (0, 0)) := (d.block _ (by simp)).trans (World.alloc_heap_new X _)
theorem alloc_kept_d {X w' : World} {c : Array Value} {t : TypeId} (d : Below ((X.alloc (.cells c t)).drew).heap.size (X.alloc (.cells c t)).drew w') : w'.heap[X.heap.size]? = some (.cells c t (0, 0)) := alloc_kept ⟨d.os, d.tape, d.output, d.size, d.block⟩
theorem size_fix {W : World} {H K : Nat} {t : TypeId} {N : Nat} {f : Nat → Value} (h : Mrw W H t N f N) (e : H = K) : Mrw W K t N f N := e ▸ h
theorem frV_cases (ti : ByteArray) (n m : Int) (St Fi : List Int) (Ed : List EdT) (S Y : List ByteArray) : (∃ x, x ≠ 0 ∧ frV ti n m St Fi Ed S Y = noF x) ∨ (FrK ti n m St Fi Ed S Y ∧ frV ti n m St Fi Ed S Y = okFr ti St Fi Ed S Y) := by
  unfold frV
  split
  · exact .inl ⟨2, by omega, rfl⟩
  · rename_i hm
    split
    · exact .inl ⟨1, by omega, rfl⟩
    · rename_i hn
      split
      · exact .inl ⟨20, by omega, rfl⟩
      · rename_i hv
        split
        · exact .inl ⟨21, by omega, rfl⟩
        · rename_i hd
          have hn := Classical.not_not.1 hn
          have hv := Classical.not_not.1 hv
          have hd := Classical.not_not.1 hd
          exact .inr ⟨⟨by simpa using hm, hn.1, hn.2, hv.1, hv.2.1, hv.2.2, hd.1, hd.2⟩, rfl⟩
/-- What the law has when From has answered. -/
structure BkA (W0 W : World) (V : FrV) (g : Nat) (q1 q2 q3 q4 : Option Addr) (t1 t2 t3 t4 : Nat) : Prop where
  b : W.heap[g]? = some (.cells #[.string V.ti, .slice q1 V.O.length t1, .slice q2 V.S.length t2, .slice q3 V.F.length t3, .slice q4 V.R.length t4] 32 (0, 0))
  r : FrR W V q1 q2 q3 q4
  d : Below W0.heap.size W0 W
theorem FrO.below {w W W' : World} {V : FrV} {v1 v2 v3 v4 : Value} (h : FrO w W V v1 v2 v3 v4) (d : Below W.heap.size W W') : FrO w W' V v1 v2 v3 v4 := ⟨owns_below h.o d, owns_below h.s d, owns_below h.f d, owns_below h.r d, h.ne, h.d.trans (d.mono h.d.size)⟩
theorem bka_set {W0 w W X : World} {V : FrV} {g : Nat} {q1 q2 q3 q4 : Option Addr} {t1 t2 t3 t4 : Nat} {c : Array Value} (hO : FrO w W V (.slice q1 V.O.length t1) (.slice q2 V.S.length t2) (.slice q3 V.F.length t3) (.slice q4 V.R.length t4)) (hg : W.heap[g]? = some (.cells c 32 (0, 0))) (hz : X.heap[g]? = some (.cells #[.string V.ti, .slice q1 V.O.length t1, .slice q2 V.S.length t2, .slice q3 V.F.length t3, .slice q4 V.R.length t4] 32 (0, 0)) ∧ Only W X (fun k => k = g)) (d : Below W0.heap.size W0 W) (hgw : W0.heap.size ≤ g) : BkA W0 X V g q1 q2 q3 q4 t1 t2 t3 t4 := by
  have k : ∀ {B e sz n : Nat} {v : Value} {xs : List Value}, e ≠ 32 → W.ownsRow B e sz v n xs → X.ownsRow B e sz v n xs := fun he h => row_only h hz.2 fun k q z => own_ne h hg he (by rw [q, z])
  refine ⟨hz.1, ?_, d.trans (hz.2.toBelow d.size fun k z => by omega)⟩
  have hX : FrO X X V (.slice q1 V.O.length t1) (.slice q2 V.S.length t2) (.slice q3 V.F.length t3) (.slice q4 V.R.length t4) → FrR X V q1 q2 q3 q4 := fun h => by
    obtain ⟨_, _, _, _, _, _, _, _, e1, e2, e3, e4, hr⟩ := h.reads
    cases e1
    cases e2
    cases e3
    cases e4
    exact hr
  obtain ⟨_, _, e1, r1⟩ := rdO_of (k (by decide) hO.o)
  obtain ⟨_, _, e2, r2⟩ := rdS_of (k (by decide) hO.s)
  obtain ⟨_, _, e3, r3⟩ := rdS_of (k (by decide) hO.f)
  obtain ⟨_, _, e4, r4⟩ := rdR_of (k (by decide) hO.r)
  cases e1
  cases e2
  cases e3
  cases e4
  clear hX
  exact ⟨r1, r2, r3, r4⟩
theorem bka_old {W0 w W : World} {V : FrV} {g : Nat} {q1 q2 q3 q4 : Option Addr} {t1 t2 t3 t4 : Nat} (hO : FrO w W V (.slice q1 V.O.length t1) (.slice q2 V.S.length t2) (.slice q3 V.F.length t3) (.slice q4 V.R.length t4)) (hg : W.heap[g]? = some (.cells #[.string ⟨#[]⟩, .slice none 0 0, .slice none 0 0, .slice none 0 0, .slice none 0 0] 32 (0, 0))) (d : Below W0.heap.size W0 W) (hgw : W0.heap.size ≤ g) : BkA W0 (((((W.setCell ⟨g, 0, none⟩ (.string V.ti)).setCell ⟨g, 1, none⟩ (.slice q1 V.O.length t1)).setCell ⟨g, 2, none⟩ (.slice q2 V.S.length t2)).setCell ⟨g, 3, none⟩ (.slice q3 V.F.length t3)).setCell ⟨g, 4, none⟩ (.slice q4 V.R.length t4)) V g q1 q2 q3 q4 t1 t2 t3 t4 :=
  bka_set hO hg (set5 W g _ _ _ _ _ _ _ _ _ _ 32 hg) d hgw
theorem bka_new {W0 w W : World} {V : FrV} {q1 q2 q3 q4 : Option Addr} {t1 t2 t3 t4 : Nat} (hO : FrO w W V (.slice q1 V.O.length t1) (.slice q2 V.S.length t2) (.slice q3 V.F.length t3) (.slice q4 V.R.length t4)) (d : Below W0.heap.size W0 W) : BkA W0 ((((((W.alloc (.cells #[.string ⟨#[]⟩, .slice none 0 0, .slice none 0 0, .slice none 0 0, .slice none 0 0] 32)).setCell ⟨W.heap.size, 0, none⟩ (.string V.ti)).setCell ⟨W.heap.size, 1, none⟩ (.slice q1 V.O.length t1)).setCell ⟨W.heap.size, 2, none⟩ (.slice q2 V.S.length t2)).setCell ⟨W.heap.size, 3, none⟩ (.slice q3 V.F.length t3)).setCell ⟨W.heap.size, 4, none⟩ (.slice q4 V.R.length t4)) V W.heap.size q1 q2 q3 q4 t1 t2 t3 t4 :=
  bka_old (W := W.alloc (.cells #[.string ⟨#[]⟩, .slice none 0 0, .slice none 0 0, .slice none 0 0, .slice none 0 0] 32)) (hO.below ((Below.refl _ _).alloc (Nat.le_refl _) _)) (World.alloc_heap_new W _) (d.alloc d.size _) d.size
theorem bka_alloc {W0 w W : World} {V : FrV} {q1 q2 q3 q4 : Option Addr} {t1 t2 t3 t4 : Nat} (hO : FrO w W V (.slice q1 V.O.length t1) (.slice q2 V.S.length t2) (.slice q3 V.F.length t3) (.slice q4 V.R.length t4)) (d : Below W0.heap.size W0 W) : BkA W0 (W.alloc (.cells #[.string V.ti, .slice q1 V.O.length t1, .slice q2 V.S.length t2, .slice q3 V.F.length t3, .slice q4 V.R.length t4] 32)) V W.heap.size q1 q2 q3 q4 t1 t2 t3 t4 := by
  refine ⟨World.alloc_heap_new W _, ?_, d.alloc d.size _⟩
  obtain ⟨_, _, _, _, _, _, _, _, e1, e2, e3, e4, hr⟩ := (hO.below ((Below.refl _ _).alloc (Nat.le_refl _) (.cells #[.string V.ti, .slice q1 V.O.length t1, .slice q2 V.S.length t2, .slice q3 V.F.length t3, .slice q4 V.R.length t4] 32))).reads
  cases e1
  cases e2
  cases e3
  cases e4
  exact hr
set_option maxRecDepth 100000 in
set_option maxHeartbeats 8000000 in
theorem fback_any (w : World) (ti : ByteArray) (n m : Int) (St Fi : List Int) (Ed : List EdT) (S Y : List ByteArray) (a1 a2 a3 asx ay : Option Addr) (c1 c2 c3 cs cy : Nat) (hT : Hid (RowsAt w ∧ BytesAt w ∧ 1 < w.heap.size))
    (hA : Hid (RdN w a1 St ∧ RdN w a2 Fi ∧ RdE w a3 Ed ∧ ReadsS w asx S ∧ ReadsS w ay Y)) (hok : Hid (Sml S ∧ Sml Y)) (h1 : St.length ≤ 1048576) (h2 : Fi.length ≤ 1048576) (h3 : Ed.length ≤ 1048576) (hs : S.length ≤ 1048576) (hy : Y.length ≤ 1048576) :
    Calls Tryz.prog 3 #[.agg #[.int .i64 n, .int .i64 m, .slice a1 St.length c1, .slice a2 Fi.length c2, .slice a3 Ed.length c3, .slice asx S.length cs, .slice ay Y.length cy, .string ti]] w fun e w' => e = .returned (.bool true) ∧ Below w.heap.size w w' := by
  have KT : Hid (∀ W, Below w.heap.size w W → RowsAt W ∧ BytesAt W ∧ 1 < W.heap.size) := hide (fun W d => ⟨hT.out.1.below d hT.out.2.2, hT.out.2.1.below d hT.out.2.2, Nat.lt_of_lt_of_le hT.out.2.2 d.size⟩)
  have KA : Hid (∀ W, Below w.heap.size w W → RdN W a1 St ∧ RdN W a2 Fi ∧ RdE W a3 Ed ∧ ReadsS W asx S ∧ ReadsS W ay Y) := hide (fun W dd => ⟨hA.out.1.on dd, hA.out.2.1.on dd, hA.out.2.2.1.on dd, hA.out.2.2.2.1.below dd, hA.out.2.2.2.2.below dd⟩)
  obtain ⟨V, hV⟩ : ∃ V, frV ti n m St Fi Ed S Y = V := ⟨_, rfl⟩
  have HV := hide hV
  obtain ⟨W0, hW0⟩ : ∃ W0, w.alloc (.cells #[.int .i64 n, .int .i64 m, .slice a1 St.length c1, .slice a2 Fi.length c2, .slice a3 Ed.length c3, .slice asx S.length cs, .slice ay Y.length cy, .string ti] 28) = W0 := ⟨_, rfl⟩
  have d0 : Below w.heap.size w W0 := by rw [← hW0]; exact (Below.refl _ _).alloc (Nat.le_refl _) _
  have B0 : W0.heap[w.heap.size]? = some (.cells #[.int .i64 n, .int .i64 m, .slice a1 St.length c1, .slice a2 Fi.length c2, .slice a3 Ed.length c3, .slice asx S.length cs, .slice ay Y.length cy, .string ti] 28 (0, 0)) := by rw [← hW0]; exact World.alloc_heap_new _ _
  have HD := hide (And.intro d0 (And.intro B0 (show w.heap.size < W0.heap.size by rw [← hW0]; simp)))
  have KX : Hid (∀ W, Below W0.heap.size W0 W → Below w.heap.size w W) := hide (fun W d => HD.out.1.trans (d.mono HD.out.1.size))
  have T8 : Hid (∀ W, Below W0.heap.size W0 W → Calls Tryz.prog 8 #[.agg #[.int .i64 n, .int .i64 m, .slice a1 St.length c1, .slice a2 Fi.length c2, .slice a3 Ed.length c3]] W fun e w' => ∃ b1 b2 b3, e = .returned (.agg #[.int .i64 n, .int .i64 m, .slice (some ⟨b1, 0, none⟩) St.length (St.length + 64), .slice (some ⟨b2, 0, none⟩) Fi.length (Fi.length + 64), .slice (some ⟨b3, 0, none⟩) Ed.length (Ed.length + 64)]) ∧ TwA w' b1 b2 b3 St Fi Ed ∧ Below W.heap.size W w' ∧ Below W0.heap.size W0 w') := hide (fun W d => (twinA_any W n m St Fi Ed a1 a2 a3 c1 c2 c3 (hide ⟨(KA.out W (KX.out W d)).1, (KA.out W (KX.out W d)).2.1, (KA.out W (KX.out W d)).2.2.1⟩) (by omega) (by omega) (by omega)).mono fun e w' ⟨b1, b2, b3, he, ht, _, dd⟩ => ⟨b1, b2, b3, he, ht, dd, d.trans (dd.mono d.size)⟩)
  have T9 : Hid (∀ W, Below W0.heap.size W0 W → Calls Tryz.prog 9 #[.slice asx S.length cs] W fun e w' => ∃ H, e = .returned (.slice (some ⟨H, 0, none⟩) S.length (S.length + 64)) ∧ Mrw w' H 9 (S.length + 64) (padV S) (S.length + 64) ∧ Below W.heap.size W w' ∧ Below W0.heap.size W0 w') := hide (fun W d => (texts_any asx cs S W (hide (KA.out W (KX.out W d)).2.2.2.1) (by omega)).mono fun e w' ⟨he, ht, dd⟩ => ⟨_, he, ht, dd, d.trans (dd.mono d.size)⟩)
  have T9y : Hid (∀ W, Below W0.heap.size W0 W → Calls Tryz.prog 9 #[.slice ay Y.length cy] W fun e w' => ∃ H, e = .returned (.slice (some ⟨H, 0, none⟩) Y.length (Y.length + 64)) ∧ Mrw w' H 9 (Y.length + 64) (padV Y) (Y.length + 64) ∧ Below W.heap.size W w' ∧ Below W0.heap.size W0 w') := hide (fun W d => (texts_any ay cy Y W (hide (KA.out W (KX.out W d)).2.2.2.2) (by omega)).mono fun e w' ⟨he, ht, dd⟩ => ⟨_, he, ht, dd, d.trans (dd.mono d.size)⟩)
  have T7 : Hid (∀ W b1 b2 b3 Hs Hl, Below W0.heap.size W0 W → TwA W b1 b2 b3 St Fi Ed → Mrw W Hs 9 (S.length + 64) (padV S) (S.length + 64) → Mrw W Hl 9 (Y.length + 64) (padV Y) (Y.length + 64) → Calls Tryz.prog 7 #[.agg #[.int .i64 n, .int .i64 m, .slice (some ⟨b1, 0, none⟩) St.length (St.length + 64), .slice (some ⟨b2, 0, none⟩) Fi.length (Fi.length + 64), .slice (some ⟨b3, 0, none⟩) Ed.length (Ed.length + 64)], .slice (some ⟨Hs, 0, none⟩) S.length (S.length + 64), .slice (some ⟨Hl, 0, none⟩) Y.length (Y.length + 64), .string ti] W fun e w' => ∃ q1 q2 q3 q4 t1 t2 t3 t4, e = .returned (.tuple #[.agg #[.string V.ti, .slice q1 V.O.length t1, .slice q2 V.S.length t2, .slice q3 V.F.length t3, .slice q4 V.R.length t4], .int .i64 (V.er : Nat)]) ∧ FrO W w' V (.slice q1 V.O.length t1) (.slice q2 V.S.length t2) (.slice q3 V.F.length t3) (.slice q4 V.R.length t4) ∧ Below W.heap.size W w' ∧ Below W0.heap.size W0 w') := hide (fun W b1 b2 b3 Hs Hl d t1 t2 t3 => (from_any W ti n m St Fi Ed b1 b2 (some ⟨b3, 0, none⟩) (some ⟨Hs, 0, none⟩) (some ⟨Hl, 0, none⟩) (St.length + 64) (Fi.length + 64) (Ed.length + 64) (S.length + 64) (Y.length + 64) S Y (hide (KT.out W (KX.out W d)).2) (hide ⟨padN_reads t1.s, padN_reads t1.f, edPad_reads t1.e, padV_reads t2, padV_reads t3⟩) hok (by omega) (by omega) (by omega) (by omega) (by omega)).mono fun e w' hh => by
    rw [HV.out] at hh
    obtain ⟨v1, v2, v3, v4, rfl, hO⟩ := hh
    obtain ⟨q1, q2, q3, q4, u1, u2, u3, u4, rfl, rfl, rfl, rfl, hr⟩ := hO.reads
    exact ⟨q1, q2, q3, q4, u1, u2, u3, u4, rfl, hO, hO.d, d.trans (hO.d.mono d.size)⟩)
  have SK : Hid (∀ W, Below W0.heap.size W0 W → (fun W => W.cell? ⟨w.heap.size, 0, none⟩ = some (.int .i64 n) ∧ W.cell? ⟨w.heap.size, 1, none⟩ = some (.int .i64 m) ∧ W.cell? ⟨w.heap.size, 2, none⟩ = some (.slice a1 St.length c1) ∧ W.cell? ⟨w.heap.size, 3, none⟩ = some (.slice a2 Fi.length c2) ∧ W.cell? ⟨w.heap.size, 4, none⟩ = some (.slice a3 Ed.length c3) ∧ W.cell? ⟨w.heap.size, 5, none⟩ = some (.slice asx S.length cs) ∧ W.cell? ⟨w.heap.size, 6, none⟩ = some (.slice ay Y.length cy) ∧ W.cell? ⟨w.heap.size, 7, none⟩ = some (.string ti) ∧ Hid (Below W0.heap.size W0 W)) W) := hide (fun W d => by
    have e := (d.block _ HD.out.2.2).trans HD.out.2.1
    exact ⟨cell_of e rfl, cell_of e rfl, cell_of e rfl, cell_of e rfl, cell_of e rfl, cell_of e rfl, cell_of e rfl, cell_of e rfl, hide d⟩)
  have SD : Hid (∀ W, (fun W => W.cell? ⟨w.heap.size, 0, none⟩ = some (.int .i64 n) ∧ W.cell? ⟨w.heap.size, 1, none⟩ = some (.int .i64 m) ∧ W.cell? ⟨w.heap.size, 2, none⟩ = some (.slice a1 St.length c1) ∧ W.cell? ⟨w.heap.size, 3, none⟩ = some (.slice a2 Fi.length c2) ∧ W.cell? ⟨w.heap.size, 4, none⟩ = some (.slice a3 Ed.length c3) ∧ W.cell? ⟨w.heap.size, 5, none⟩ = some (.slice asx S.length cs) ∧ W.cell? ⟨w.heap.size, 6, none⟩ = some (.slice ay Y.length cy) ∧ W.cell? ⟨w.heap.size, 7, none⟩ = some (.string ti) ∧ Hid (Below W0.heap.size W0 W)) W → Below W0.heap.size W0 W) := hide (fun W h => h.2.2.2.2.2.2.2.2.out)
  have SA : Hid (∀ W (o : Obj), (fun W => W.cell? ⟨w.heap.size, 0, none⟩ = some (.int .i64 n) ∧ W.cell? ⟨w.heap.size, 1, none⟩ = some (.int .i64 m) ∧ W.cell? ⟨w.heap.size, 2, none⟩ = some (.slice a1 St.length c1) ∧ W.cell? ⟨w.heap.size, 3, none⟩ = some (.slice a2 Fi.length c2) ∧ W.cell? ⟨w.heap.size, 4, none⟩ = some (.slice a3 Ed.length c3) ∧ W.cell? ⟨w.heap.size, 5, none⟩ = some (.slice asx S.length cs) ∧ W.cell? ⟨w.heap.size, 6, none⟩ = some (.slice ay Y.length cy) ∧ W.cell? ⟨w.heap.size, 7, none⟩ = some (.string ti) ∧ Hid (Below W0.heap.size W0 W)) W → (fun W => W.cell? ⟨w.heap.size, 0, none⟩ = some (.int .i64 n) ∧ W.cell? ⟨w.heap.size, 1, none⟩ = some (.int .i64 m) ∧ W.cell? ⟨w.heap.size, 2, none⟩ = some (.slice a1 St.length c1) ∧ W.cell? ⟨w.heap.size, 3, none⟩ = some (.slice a2 Fi.length c2) ∧ W.cell? ⟨w.heap.size, 4, none⟩ = some (.slice a3 Ed.length c3) ∧ W.cell? ⟨w.heap.size, 5, none⟩ = some (.slice asx S.length cs) ∧ W.cell? ⟨w.heap.size, 6, none⟩ = some (.slice ay Y.length cy) ∧ W.cell? ⟨w.heap.size, 7, none⟩ = some (.string ti) ∧ Hid (Below W0.heap.size W0 W)) (W.alloc o)) := hide (fun W o h => SK.out _ ((SD.out W h).alloc (SD.out W h).size o))
  clear d0 B0 hV
  go_enter Tryz.func3, Tryz.ntmps3
  go_upto_region 1 with fail
  go_cut [3, 4] from 13 to 27 (fun p e W => ∃ g q1 q2 q3 q4 t1 t2 t3 t4, p = .pointer (some ⟨g, 0, none⟩) ∧ e = .int .i64 (V.er : Nat) ∧ Hid (BkA W0 W V g q1 q2 q3 q4 t1 t2 t3 t4))
  case first =>
    have S0 := SK.out W0.drew (Below.refl _ _).drew
    go_region_held3 (fun W => W.cell? ⟨w.heap.size, 0, none⟩ = some (.int .i64 n) ∧ W.cell? ⟨w.heap.size, 1, none⟩ = some (.int .i64 m) ∧ W.cell? ⟨w.heap.size, 2, none⟩ = some (.slice a1 St.length c1) ∧ W.cell? ⟨w.heap.size, 3, none⟩ = some (.slice a2 Fi.length c2) ∧ W.cell? ⟨w.heap.size, 4, none⟩ = some (.slice a3 Ed.length c3) ∧ W.cell? ⟨w.heap.size, 5, none⟩ = some (.slice asx S.length cs) ∧ W.cell? ⟨w.heap.size, 6, none⟩ = some (.slice ay Y.length cy) ∧ W.cell? ⟨w.heap.size, 7, none⟩ = some (.string ti) ∧ Hid (Below W0.heap.size W0 W))
      (first | with_reducible assumption | exact SA.out _ _ (by with_reducible assumption))
      ((first
        | (go_at_call 8; refine (T8.out _ (SD.out _ (by with_reducible assumption))).mono ?_; rintro e w1 ⟨b1, b2, b3, rfl, tw1, d1, D1⟩; have S1 := SK.out w1 D1; (first | (with_reducible have G := alloc_kept_d d1) | skip))
        | (go_at_call_of 9 asx; refine (T9.out _ (SD.out _ (by with_reducible assumption))).mono ?_; rintro e w2 ⟨Hs, rfl, ms, d2, D2⟩; have S2 := SK.out w2 D2; have tw2 : TwA w2 b1 b2 b3 St Fi Ed := (by first | with_reducible exact tw1.on d2 | exact (tw1.on ((Below.refl _ _).alloc (Nat.le_refl _) _)).on d2); (first | (with_reducible have G := alloc_kept d2) | (have G := (d2.block _ (Array.getElem?_eq_some_iff.1 G).1).trans G) | skip))
        | (go_at_call_of 9 ay; refine (T9y.out _ (SD.out _ (by with_reducible assumption))).mono ?_; rintro e w3 ⟨Hl, rfl, ml, d3, D3⟩; have S3 := SK.out w3 D3; have tw3 : TwA w3 b1 b2 b3 St Fi Ed := (by first | with_reducible exact tw2.on d3 | exact (tw2.on ((Below.refl _ _).alloc (Nat.le_refl _) _)).on d3); have ms3 : Mrw w3 Hs 9 (S.length + 64) (padV S) (S.length + 64) := (by first | with_reducible exact ms.below d3 ms.lt | exact (ms.alloc _).below d3 (ms.alloc _).lt); (first | (with_reducible have G := alloc_kept d3) | (have G := (d3.block _ (Array.getElem?_eq_some_iff.1 G).1).trans G) | skip))
        | (go_at_call 7; refine (T7.out _ b1 b2 b3 Hs Hl (SD.out _ (by with_reducible assumption)) (by first | with_reducible exact tw3 | exact tw3.on ((Below.refl _ _).alloc (Nat.le_refl _) _)) (by first | with_reducible exact ms3 | exact ms3.alloc _) (by first | with_reducible exact ml | exact ml.alloc _)).mono ?_; rintro e w4 ⟨q1, q2, q3, q4, t1, t2, t3, t4, rfl, hO, d4, D4⟩; have S4 := SK.out w4 D4; (first | (with_reducible have G := alloc_kept d4) | (have G := (d4.block _ (Array.getElem?_eq_some_iff.1 G).1).trans G) | skip); (try (have z0 := cell_of (j := 0) (v := .string ⟨#[]⟩) G rfl; have f0 := fz_of (j := 0) G; have z1 := cell_of (j := 1) (v := .slice none 0 0) G rfl; have f1 := fz_of (j := 1) G; have z2 := cell_of (j := 2) (v := .slice none 0 0) G rfl; have f2 := fz_of (j := 2) G; have z3 := cell_of (j := 3) (v := .slice none 0 0) G rfl; have f3 := fz_of (j := 3) G; have z4 := cell_of (j := 4) (v := .slice none 0 0) G rfl; have f4 := fz_of (j := 4) G)); (try (have HBK := hide (bka_old hO G D4 (by first | with_reducible exact D1.size | with_reducible exact D2.size | with_reducible exact D3.size | exact Nat.le_refl W0.heap.size)); have S5 := SK.out _ HBK.out.d)); have HB6 := hide (bka_new hO D4); have S6 := SK.out _ HB6.out.d; have bE := World.alloc_heap_new w4 (.cells #[.string ⟨#[]⟩, .slice none 0 0, .slice none 0 0, .slice none 0 0, .slice none 0 0] 32); have ya0 : (w4.alloc (.cells #[.string ⟨#[]⟩, .slice none 0 0, .slice none 0 0, .slice none 0 0, .slice none 0 0] 32)).cell? ⟨w4.heap.size, 0, none⟩ = some (.string ⟨#[]⟩) := cell_of bE rfl; have yf0 : (w4.alloc (.cells #[.string ⟨#[]⟩, .slice none 0 0, .slice none 0 0, .slice none 0 0, .slice none 0 0] 32)).frozen? ⟨w4.heap.size, 0, none⟩ = false := fz_of bE; have ya1 : (w4.alloc (.cells #[.string ⟨#[]⟩, .slice none 0 0, .slice none 0 0, .slice none 0 0, .slice none 0 0] 32)).cell? ⟨w4.heap.size, 1, none⟩ = some (.slice none 0 0) := cell_of bE rfl; have yf1 : (w4.alloc (.cells #[.string ⟨#[]⟩, .slice none 0 0, .slice none 0 0, .slice none 0 0, .slice none 0 0] 32)).frozen? ⟨w4.heap.size, 1, none⟩ = false := fz_of bE; have ya2 : (w4.alloc (.cells #[.string ⟨#[]⟩, .slice none 0 0, .slice none 0 0, .slice none 0 0, .slice none 0 0] 32)).cell? ⟨w4.heap.size, 2, none⟩ = some (.slice none 0 0) := cell_of bE rfl; have yf2 : (w4.alloc (.cells #[.string ⟨#[]⟩, .slice none 0 0, .slice none 0 0, .slice none 0 0, .slice none 0 0] 32)).frozen? ⟨w4.heap.size, 2, none⟩ = false := fz_of bE; have ya3 : (w4.alloc (.cells #[.string ⟨#[]⟩, .slice none 0 0, .slice none 0 0, .slice none 0 0, .slice none 0 0] 32)).cell? ⟨w4.heap.size, 3, none⟩ = some (.slice none 0 0) := cell_of bE rfl; have yf3 : (w4.alloc (.cells #[.string ⟨#[]⟩, .slice none 0 0, .slice none 0 0, .slice none 0 0, .slice none 0 0] 32)).frozen? ⟨w4.heap.size, 3, none⟩ = false := fz_of bE; have ya4 : (w4.alloc (.cells #[.string ⟨#[]⟩, .slice none 0 0, .slice none 0 0, .slice none 0 0, .slice none 0 0] 32)).cell? ⟨w4.heap.size, 4, none⟩ = some (.slice none 0 0) := cell_of bE rfl; have yf4 : (w4.alloc (.cells #[.string ⟨#[]⟩, .slice none 0 0, .slice none 0 0, .slice none 0 0, .slice none 0 0] 32)).frozen? ⟨w4.heap.size, 4, none⟩ = false := fz_of bE; clear bE)))
    all_goals (
      go_wp2_with fail
      go_meet
      first
        | exact ⟨_, q1, q2, q3, q4, t1, t2, t3, t4, rfl, rfl, HBK⟩
        | exact ⟨_, q1, q2, q3, q4, t1, t2, t3, t4, rfl, rfl, hide (bka_alloc hO D4)⟩)
  case rest =>
    obtain ⟨g, q1, q2, q3, q4, t1, t2, t3, t4, rfl, rfl, HB⟩ := hcut
    rename World => wx
    clear T7 T8 T9 T9y
    rcases frV_cases ti n m St Fi Ed S Y with ⟨x, hx0, hx⟩ | ⟨hK, hx⟩
    · have e := HV.out.symm.trans hx
      subst e
      have i1 : ¬ (((noF x).er : Nat) : Int) = 0 := by show ¬ ((x : Nat) : Int) = 0; omega
      have i2 : ((((noF x).er : Nat) : Int) != 0) = true := by simpa using i1
      have HX : Hid (wx.heap[g]? = some (.cells #[.string ⟨#[]⟩, .slice q1 0 t1, .slice q2 0 t2, .slice q3 0 t3, .slice q4 0 t4] 32 (0, 0))) := hide HB.out.b
      have k0 : wx.cell? ⟨g, 0, none⟩ = some (.string ⟨#[]⟩) := cell_of HX.out rfl
      have k1 : wx.cell? ⟨g, 1, none⟩ = some (.slice q1 0 t1) := cell_of HX.out rfl
      have k2 : wx.cell? ⟨g, 2, none⟩ = some (.slice q2 0 t2) := cell_of HX.out rfl
      have k3 : wx.cell? ⟨g, 3, none⟩ = some (.slice q3 0 t3) := cell_of HX.out rfl
      have k4 : wx.cell? ⟨g, 4, none⟩ = some (.slice q4 0 t4) := cell_of HX.out rfl
      have T10 := same_eq wx ⟨#[]⟩ [] [] [] [] q1 q2 q3 q4 none none none none t1 t2 t3 t4 0 0 0 0 (hide ⟨fun j h => absurd h (Nat.not_lt_zero j), fun j h => absurd h (Nat.not_lt_zero j)⟩) (hide ⟨fun j h => absurd h (Nat.not_lt_zero j), fun j h => absurd h (Nat.not_lt_zero j)⟩) (hide ⟨fun j h => absurd h (Nat.not_lt_zero j), fun j h => absurd h (Nat.not_lt_zero j)⟩) (hide ⟨fun j h => absurd h (Nat.not_lt_zero j), fun j h => absurd h (Nat.not_lt_zero j)⟩) (Nat.zero_le _) (Nat.zero_le _) (Nat.zero_le _) (Nat.zero_le _)
      simp only [List.length_nil] at T10
      have DX := hide (KX.out wx HB.out.d)
      clear HX
      go_wp2_with (first
        | (go_at_call 10; refine T10.mono ?_; rintro e w5 ⟨rfl, d5⟩; have D5 := hide (DX.out.trans (d5.mono DX.out.size)); have T11 := least_any w5 (hide (KT.out w5 D5.out)))
        | (go_at_call 11; refine T11.mono ?_; rintro e w6 ⟨rfl, d6⟩))
      go_ret
      exact ⟨rfl, D5.out.trans (d6.mono D5.out.size)⟩
    · have e := HV.out.symm.trans hx
      subst e
      have hn := hK.hn
      have hm := hK.hm
      have hIF := hide (inF_of hK.may hK.hn hK.hm)
      subst hn hm
      have i2 : ((((okFr ti St Fi Ed S Y).er : Nat) : Int) != 0) = false := rfl
      have i3 : (((okFr ti St Fi Ed S Y).er : Nat) : Int) = 0 := rfl
      have HBS : Hid ((∀ z ∈ St, 0 ≤ z ∧ z < (S.length : Int)) ∧ ∀ z ∈ Fi, 0 ≤ z ∧ z < (S.length : Int)) := hide ⟨fun z hz => hIF.out.st z ((riseL_iff _ _).2 hz), fun z hz => hIF.out.fi z ((riseL_iff _ _).2 hz)⟩
      have hle := hK.le
      have hStl : (riseL St).length ≤ 4096 := by rw [← up_rise HBS.out.1]; exact Nat.le_trans (up_len _ _) hle.1
      have hFil : (riseL Fi).length ≤ 4096 := by rw [← up_rise HBS.out.2]; exact Nat.le_trans (up_len _ _) hle.1
      have hDl := dE_len Ed
      have hval := hK.val
      have hauto := hK.auto
      have hFl : (namesAt (tN (riseL Fi)) S).length ≤ 4096 := by simpa [namesAt, tN] using hFil
      have hRl : (rulF S Y St Ed).length ≤ 69632 := by simp only [rulF, List.length_append, List.length_map]; omega
      have hOl : ((opsF Y).map opOI).length ≤ 1048576 := by rw [List.length_map, opsF_len]; omega
      have hb : wx.heap[g]? = some (.cells #[.string ti, .slice q1 ((opsF Y).map opOI).length t1, .slice q2 S.length t2, .slice q3 (namesAt (tN (riseL Fi)) S).length t3, .slice q4 (rulF S Y St Ed).length t4] 32 (0, 0)) := by rw [List.length_map]; exact HB.out.b
      have hr : RdO wx q1 ((opsF Y).map opOI) ∧ ReadsS wx q2 S ∧ ReadsS wx q3 (namesAt (tN (riseL Fi)) S) ∧ RdRu wx q4 (rulF S Y St Ed) := ⟨HB.out.r.o, HB.out.r.s, HB.out.r.f, HB.out.r.r⟩
      obtain ⟨F, hF⟩ : ∃ F, namesAt (tN (riseL Fi)) S = F := ⟨_, rfl⟩
      obtain ⟨R, hR⟩ : ∃ R, rulF S Y St Ed = R := ⟨_, rfl⟩
      obtain ⟨O, hO⟩ : ∃ O, (opsF Y).map opOI = O := ⟨_, rfl⟩
      rw [hF, hR, hO] at hb hr hval hauto
      rw [hF] at hFl
      rw [hR] at hRl
      rw [hO] at hOl
      clear hF hR hO
      have HK2 : Hid ((∀ x ∈ F, kText.ok x) ∧ ∀ x ∈ R, kRules.ok x) := hide (by
        have hw := wok_of hval (by omega) (by omega) (by omega) (by omega)
        exact ⟨fun x hx => show x.size ≤ _ by have := hw.f x hx; omega, fun x hx => by obtain ⟨a, b, c⟩ := hw.r x hx; exact ⟨by omega, by omega, by omega⟩⟩)
      have hTs := write_size hval (by omega) (by omega) (by omega) (by omega)
      obtain ⟨eE, eT, eO, eS, eF, eR⟩ := back_T hval
      have T12 : Calls Tryz.prog 12 #[.agg #[.string ti, .slice q1 O.length t1, .slice q2 S.length t2, .slice q3 F.length t3, .slice q4 R.length t4]] wx fun e w' => e = .returned (.tuple #[.string (writeT ti (O.map opN) S F R), .int .i64 0]) ∧ Below wx.heap.size wx w' := by
        have q := print_any wx ti q1 q2 q3 q4 t1 t2 t3 t4 O S F R (hide (KT.out wx (KX.out wx HB.out.d)).2) (hide hr.1) (hide hr.2.1) (hide hr.2.2.1) (hide hr.2.2.2) HK2 (by omega) (by omega) (by omega) (by omega)
        rw [hval] at q
        exact q
      obtain ⟨T, hTT⟩ : ∃ T, writeT ti (O.map opN) S F R = T := ⟨_, rfl⟩
      rw [hTT] at hTs eE eT eO eS eF eR T12
      have HX := hide HB.out.d
      have k0 : wx.cell? ⟨g, 0, none⟩ = some (.string ti) := cell_of hb rfl
      have k1 : wx.cell? ⟨g, 1, none⟩ = some (.slice q1 O.length t1) := cell_of hb rfl
      have k2 : wx.cell? ⟨g, 2, none⟩ = some (.slice q2 S.length t2) := cell_of hb rfl
      have k3 : wx.cell? ⟨g, 3, none⟩ = some (.slice q3 F.length t3) := cell_of hb rfl
      have k4 : wx.cell? ⟨g, 4, none⟩ = some (.slice q4 R.length t4) := cell_of hb rfl
      clear hb hr HB hTT hx
      go_upto_region 5 with (go_at_call 12; refine T12.mono ?_; rintro e w5 ⟨rfl, d5⟩)
      have H5 := hide (HX.out.trans (d5.mono HX.out.size))
      have T13 := parse_read T w5 (hide (KT.out w5 (KX.out w5 H5.out))) hTs eE
      rw [eT, eO, eS, eF, eR] at T13
      clear T12 d5 HX k0 k1 k2 k3 k4 hTs eE eT eO eS eF eR
      go_upto_region 6 with (go_at_call 13; refine T13.mono ?_; rintro e w6 ⟨ao, co, as', cs', an, cn, ar, cr, rfl, ro, rs, rn, rr, d6⟩)
      obtain ⟨X6, hX6⟩ : ∃ X6, (w6.alloc (.cells #[.string ti, .slice ao O.length co, .slice as' S.length cs', .slice an F.length cn, .slice ar R.length cr] 32)).alloc (.cells #[.int .i64 0, .int .i64 0] 43) = X6 := ⟨_, rfl⟩
      rw [hX6]
      have dX : Below w6.heap.size w6 X6 := by rw [← hX6]; exact ((Below.refl _ _).alloc (Nat.le_refl _) _).alloc (by simp) _
      have b0 : X6.heap[w6.heap.size]? = some (.cells #[.string ti, .slice ao O.length co, .slice as' S.length cs', .slice an F.length cn, .slice ar R.length cr] 32 (0, 0)) := by rw [← hX6]; exact (Below.heap_alloc _ _ _ (by simp)).trans (World.alloc_heap_new _ _)
      have b1 : X6.heap[w6.heap.size + 1]? = some (.cells #[.int .i64 0, .int .i64 0] 43 (0, 0)) := by rw [← hX6]; exact heap_alloc2_new w6 _ _
      have D56 := H5.out.trans (d6.mono H5.out.size)
      have H6 := hide (And.intro (D56.trans (dX.mono D56.size)) (And.intro b0 b1))
      have T14 := autoP_any X6 ti ao as' an ar co cs' cn cr O S F R (hide (KT.out X6 (KX.out X6 H6.out.1)).2) (hide (ro.on dX)) (hide (rs.below dX)) (hide (rn.below dX)) (hide (rr.on dX)) HK2 (by omega) (by omega) (by omega) (by omega)
      rw [hauto] at T14
      obtain ⟨h6, hh6⟩ : ∃ h, w6.heap.size = h := ⟨_, rfl⟩
      rw [hh6] at H6
      rw [hh6]
      have k0 : X6.cell? ⟨h6, 0, none⟩ = some (.string ti) := cell_of H6.out.2.1 rfl
      have k1 : X6.cell? ⟨h6, 1, none⟩ = some (.slice ao O.length co) := cell_of H6.out.2.1 rfl
      have k2 : X6.cell? ⟨h6, 2, none⟩ = some (.slice as' S.length cs') := cell_of H6.out.2.1 rfl
      have k3 : X6.cell? ⟨h6, 3, none⟩ = some (.slice an F.length cn) := cell_of H6.out.2.1 rfl
      have k4 : X6.cell? ⟨h6, 4, none⟩ = some (.slice ar R.length cr) := cell_of H6.out.2.1 rfl
      clear T13 d6 dX b0 b1 D56 hX6 ro rs rn rr hh6 H5 hauto hval
      go_upto_region 7 with (go_at_call 14; refine T14.mono ?_; intro e w7 hAn; obtain ⟨p1, p2, p3, p4, p5, u1, u2, u3, u4, u5, rfl, hAn, d7⟩ := hAn)
      obtain ⟨X7, hX7⟩ : ∃ X7, w7.alloc (.cells #[.int .i64 (S.length : Int), .int .i64 (Y.length : Int), .slice p1 (riseL St).length u1, .slice p2 (riseL Fi).length u2, .slice p3 (dE Ed).length u3] 25) = X7 := ⟨_, rfl⟩
      rw [hX7]
      have dX7 : Below w7.heap.size w7 X7 := by rw [← hX7]; exact (Below.refl _ _).alloc (Nat.le_refl _) _
      have bA : X7.heap[w7.heap.size]? = some (.cells #[.int .i64 (S.length : Int), .int .i64 (Y.length : Int), .slice p1 (riseL St).length u1, .slice p2 (riseL Fi).length u2, .slice p3 (dE Ed).length u3] 25 (0, 0)) := by rw [← hX7]; exact World.alloc_heap_new _ _
      have D67 : Below X6.heap.size X6 X7 := d7.trans (dX7.mono d7.size)
      have H7 := hide (And.intro (H6.out.1.trans (D67.mono H6.out.1.size)) (And.intro ((D67.block _ (Array.getElem?_eq_some_iff.1 H6.out.2.1).1).trans H6.out.2.1) (And.intro ((D67.block _ (Array.getElem?_eq_some_iff.1 H6.out.2.2).1).trans H6.out.2.2) (And.intro bA (hAn.on dX7)))))
      obtain ⟨h7, hh7⟩ : ∃ h, w7.heap.size = h := ⟨_, rfl⟩
      rw [hh7] at H7
      rw [hh7]
      have bX : X7.heap[w.heap.size]? = some (.cells #[.int .i64 (S.length : Int), .int .i64 (Y.length : Int), .slice a1 St.length c1, .slice a2 Fi.length c2, .slice a3 Ed.length c3, .slice asx S.length cs, .slice ay Y.length cy, .string ti] 28 (0, 0)) := (H7.out.1.block _ HD.out.2.2).trans HD.out.2.1
      have HBX := hide bX
      have y0 : X7.cell? ⟨h6 + 1, 0, none⟩ = some (.int .i64 0) := cell_of H7.out.2.2.1 rfl
      have y1 : X7.cell? ⟨h6, 0, none⟩ = some (.string ti) := cell_of H7.out.2.1 rfl
      have y2 : X7.cell? ⟨w.heap.size, 7, none⟩ = some (.string ti) := cell_of bX rfl
      clear T14 d7 dX7 bA D67 hX7 hh7 hAn k0 k1 k2 k3 k4 H6 bX
      go_upto_region 9 with fail
      clear y0 y1 y2
      have SK9 : Hid (∀ W, Below X7.heap.size X7 W → (fun W => W.cell? ⟨h7, 0, none⟩ = some (.int .i64 (S.length : Int)) ∧ W.cell? ⟨h7, 1, none⟩ = some (.int .i64 (Y.length : Int)) ∧ W.cell? ⟨h7, 2, none⟩ = some (.slice p1 (riseL St).length u1) ∧ W.cell? ⟨h7, 3, none⟩ = some (.slice p2 (riseL Fi).length u2) ∧ W.cell? ⟨h7, 4, none⟩ = some (.slice p3 (dE Ed).length u3) ∧ W.cell? ⟨w.heap.size, 0, none⟩ = some (.int .i64 (S.length : Int)) ∧ W.cell? ⟨w.heap.size, 1, none⟩ = some (.int .i64 (Y.length : Int)) ∧ W.cell? ⟨w.heap.size, 2, none⟩ = some (.slice a1 St.length c1) ∧ W.cell? ⟨w.heap.size, 3, none⟩ = some (.slice a2 Fi.length c2) ∧ W.cell? ⟨w.heap.size, 4, none⟩ = some (.slice a3 Ed.length c3) ∧ W.cell? ⟨w.heap.size, 5, none⟩ = some (.slice asx S.length cs) ∧ W.cell? ⟨w.heap.size, 6, none⟩ = some (.slice ay Y.length cy) ∧ Hid (Below X7.heap.size X7 W)) W) := hide (fun W d => by
        have e1 := (d.block _ (Array.getElem?_eq_some_iff.1 H7.out.2.2.2.1).1).trans H7.out.2.2.2.1
        have e2 := (d.block _ (Array.getElem?_eq_some_iff.1 HBX.out).1).trans HBX.out
        exact ⟨cell_of e1 rfl, cell_of e1 rfl, cell_of e1 rfl, cell_of e1 rfl, cell_of e1 rfl, cell_of e2 rfl, cell_of e2 rfl, cell_of e2 rfl, cell_of e2 rfl, cell_of e2 rfl, cell_of e2 rfl, cell_of e2 rfl, hide d⟩)
      have K9 : Hid (∀ W, Below X7.heap.size X7 W → Below w.heap.size w W ∧ AnR W ⟨S.length, Y.length, riseL St, riseL Fi, dE Ed, S, Y, 0⟩ p1 p2 p3 p4 p5) := hide (fun W d => ⟨KX.out W (H7.out.1.trans (d.mono H7.out.1.size)), H7.out.2.2.2.2.on d⟩)
      clear SK SD SA
      have S0 := SK9.out X7.drew (Below.refl _ _).drew
      go_region_held3 (fun W => W.cell? ⟨h7, 0, none⟩ = some (.int .i64 (S.length : Int)) ∧ W.cell? ⟨h7, 1, none⟩ = some (.int .i64 (Y.length : Int)) ∧ W.cell? ⟨h7, 2, none⟩ = some (.slice p1 (riseL St).length u1) ∧ W.cell? ⟨h7, 3, none⟩ = some (.slice p2 (riseL Fi).length u2) ∧ W.cell? ⟨h7, 4, none⟩ = some (.slice p3 (dE Ed).length u3) ∧ W.cell? ⟨w.heap.size, 0, none⟩ = some (.int .i64 (S.length : Int)) ∧ W.cell? ⟨w.heap.size, 1, none⟩ = some (.int .i64 (Y.length : Int)) ∧ W.cell? ⟨w.heap.size, 2, none⟩ = some (.slice a1 St.length c1) ∧ W.cell? ⟨w.heap.size, 3, none⟩ = some (.slice a2 Fi.length c2) ∧ W.cell? ⟨w.heap.size, 4, none⟩ = some (.slice a3 Ed.length c3) ∧ W.cell? ⟨w.heap.size, 5, none⟩ = some (.slice asx S.length cs) ∧ W.cell? ⟨w.heap.size, 6, none⟩ = some (.slice ay Y.length cy) ∧ Hid (Below X7.heap.size X7 W))
        (with_reducible assumption)
        ((first
          | (go_at_call 16; refine (inorder_any _ S.length (Y.length : Int) St Fi Ed a1 a2 a3 c1 c2 c3 (hide ⟨(KA.out _ (K9.out _ (Below.refl _ X7).drew).1).1, (KA.out _ (K9.out _ (Below.refl _ X7).drew).1).2.1, (KA.out _ (K9.out _ (Below.refl _ X7).drew).1).2.2.1⟩) HBS (by omega) (by omega) (by omega) (by omega)).mono ?_; rintro e wa ⟨r1, r2, r3, s1, s2, s3, rfl, z1, z2, z3, da⟩; have Da : Below X7.heap.size X7 wa := ⟨da.os, da.tape, da.output, da.size, da.block⟩; have Sa := SK9.out wa Da; have HZ := hide (And.intro z1 (And.intro z2 (And.intro z3 Da))); clear z1 z2 z3 da Da)
          | (go_at_call 15; refine (sameAutoZ_eq wa (S.length : Int) (Y.length : Int) (riseL St) (riseL Fi) (dE Ed) p1 p2 p3 r1 r2 r3 u1 u2 u3 s1 s2 s3 (hide ⟨(K9.out wa HZ.out.2.2.2).2.r1, (K9.out wa HZ.out.2.2.2).2.r2, (K9.out wa HZ.out.2.2.2).2.r3⟩) (hide ⟨HZ.out.1, HZ.out.2.1, HZ.out.2.2.1⟩) (by omega) (by omega) (by omega)).mono ?_; rintro e wb ⟨rfl, db⟩; have Db := HZ.out.2.2.2.trans (db.mono HZ.out.2.2.2.size); have Sb := SK9.out wb Db; have HDb := hide Db; clear db Db)
          | (go_at_call_of 17 asx; refine (sameT_eq wb p4 asx u4 cs S (hide (K9.out wb HDb.out).2.r4) (hide (KA.out wb (K9.out wb HDb.out).1).2.2.2.1) (by omega)).mono ?_; rintro e wc ⟨rfl, dc⟩; have Dc := HDb.out.trans (dc.mono HDb.out.size); have Sc := SK9.out wc Dc; have HDc := hide Dc; clear dc Dc)
          | (go_at_call_of 17 ay; refine (sameT_eq wc p5 ay u5 cy Y (hide (K9.out wc HDc.out).2.r5) (hide (KA.out wc (K9.out wc HDc.out).1).2.2.2.2) (by omega)).mono ?_; rintro e wd ⟨rfl, dd⟩; have Dd := HDc.out.trans (dd.mono HDc.out.size); have Sd := SK9.out wd Dd; have HDd := hide Dd; clear dd Dd)
          | (go_at_call 11; refine (least_any wd (hide (KT.out wd (K9.out wd HDd.out).1))).mono ?_; rintro e we ⟨rfl, de⟩; have De := HDd.out.trans (de.mono HDd.out.size); have Se := SK9.out we De; have HDe := hide De; clear de De)))
      clear S0 Sa Sb Sc Sd Se
      go_wp2_with fail
      go_ret
      exact ⟨rfl, (K9.out we HDe.out).1⟩
end Go.Proofs.YtmagchclmmphaabGreatDoor
