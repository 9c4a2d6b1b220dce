import Derived.Test.YtfoahpideglghaaGreatDoorZC
namespace Go.Proofs.YtfoahpideglghaaGreatDoor
open Go.RowKit Go.Maps Go.Shelf
attribute [local go_sem] Oper.semAt_some

/-! ### The document's Normal -/
/-- Rows of one's own, with where they lie. -/
def ownNI (X : List Int) : MkP := fun x lo hi W => W.ownsRow lo 3 1 x X.length (X.map (Value.int .i64)) ∧ ∀ g, x.ownBlock = some g → g < hi
theorem ownNI_mono {X : List Int} : MonoP (ownNI X) := fun _ _ _ _ _ _ d h => ⟨own_below h.1 d, h.2⟩
def ownEI (X : List EdT) : MkP := fun x lo hi W => W.ownsRow lo 59 3 x X.length (X.flatMap encE) ∧ ∀ g, x.ownBlock = some g → g < hi
theorem ownEI_mono {X : List EdT} : MonoP (ownEI X) := fun _ _ _ _ _ _ d h => ⟨own_below h.1 d, h.2⟩
theorem ownNI_of {X : List Int} {B : Nat} {W : World} {x v : Value} (e : x = v) (h : W.ownsRow B 3 1 v X.length (X.map (Value.int .i64))) : ownNI X x B W.heap.size W := by
  subst e
  exact ⟨h, fun g hg => (h.lt g hg).2⟩
theorem ownEI_of {X : List EdT} {B : Nat} {W : World} {x v : Value} (e : x = v) (h : W.ownsRow B 59 3 v X.length (X.flatMap encE)) : ownEI X x B W.heap.size W := by
  subst e
  exact ⟨h, fun g hg => (h.lt g hg).2⟩
/-- An automaton's lists, each in a row of one's own. -/
structure OwnO (B : Nat) (w : World) (v1 v2 v3 : Value) (S F : List Int) (E : List EdT) : Prop where
  s : w.ownsRow B 3 1 v1 S.length (S.map (Value.int .i64))
  f : w.ownsRow B 3 1 v2 F.length (F.map (Value.int .i64))
  e : w.ownsRow B 59 3 v3 E.length (E.flatMap encE)
  ne : ∀ g, v1.ownBlock = some g → v2.ownBlock ≠ some g
theorem ownO_of {B l1 l2 l3 h1 h2 : Nat} {w : World} {v1 v2 v3 : Value} {S F : List Int} {E : List EdT} (s : w.ownsRow l1 3 1 v1 S.length (S.map (Value.int .i64))) (f : w.ownsRow l2 3 1 v2 F.length (F.map (Value.int .i64))) (e : w.ownsRow l3 59 3 v3 E.length (E.flatMap encE)) (g1 : ∀ g, v1.ownBlock = some g → g < h1) (g2 : ∀ g, v2.ownBlock = some g → g < h2) (hB1 : B ≤ l1) (hB2 : B ≤ l2) (hB3 : B ≤ l3) (ap : h1 ≤ l2 ∨ h2 ≤ l1) : OwnO B w v1 v2 v3 S F E :=
  ⟨owns_down s hB1, owns_down f hB2, owns_down e hB3, fun g hg hh => by
    have a1 := s.lt g hg
    have a2 := f.lt g hh
    have b1 := g1 g hg
    have b2 := g2 g hh
    omega⟩
theorem OwnO.on {B : Nat} {w w' : World} {v1 v2 v3 : Value} {S F : List Int} {E : List EdT} (h : OwnO B w v1 v2 v3 S F E) (d : Below w.heap.size w w') : OwnO B w' v1 v2 v3 S F E := ⟨own_below h.s d, own_below h.f d, own_below h.e d, h.ne⟩
theorem OwnO.down {B C : Nat} {w : World} {v1 v2 v3 : Value} {S F : List Int} {E : List EdT} (h : OwnO C w v1 v2 v3 S F E) (hB : B ≤ C) : OwnO B w v1 v2 v3 S F E := ⟨owns_down h.s hB, owns_down h.f hB, owns_down h.e hB, h.ne⟩
theorem OwnO.keep {B p : Nat} {w w' : World} {v1 v2 v3 : Value} {S F : List Int} {E : List EdT} {cs : Array Value} (h : OwnO B w v1 v2 v3 S F E) (z : w.heap[p]? = some (.cells cs 25 (0, 0))) (o : Only w w' (fun k => k = p)) : OwnO B w' v1 v2 v3 S F E := ⟨own_keep h.s z (by decide) o, own_keep h.f z (by decide) o, own_keep h.e z (by decide) o, h.ne⟩
theorem OwnO.rd {B : Nat} {w : World} {b1 b2 b3 : Option Addr} {k1 k2 k3 : Nat} {S F : List Int} {E : List EdT} (h : OwnO B w (.slice b1 S.length k1) (.slice b2 F.length k2) (.slice b3 E.length k3) S F E) : RdA w b1 b2 b3 S F E := ⟨own_rdN h.s, own_rdN h.f, own_rdE h.e⟩
set_option maxRecDepth 100000 in
set_option maxHeartbeats 4000000 in
theorem rnormal_bad (w : World) (n m : Int) (a1 a2 a3 : Option Addr) (c1 c2 c3 : Nat) (St Fi : List Int) (Ed : List EdT) (hA : Hid (RdA w a1 a2 a3 St Fi Ed)) (h1 : St.length ≤ 4194304) (h2 : Fi.length ≤ 4194304) (h3 : Ed.length ≤ 4194304) (em : mayA n m St Fi Ed = false) :
    Calls Tryz.prog 32 #[.agg #[.int .i64 n, .int .i64 m, .slice a1 St.length c1, .slice a2 Fi.length c2, .slice a3 Ed.length c3]] w fun e w' => e = .returned (.tuple #[.agg #[.int .i64 0, .int .i64 0, .slice none 0 0, .slice none 0 0, .slice none 0 0], .int .i64 2]) ∧ Below w.heap.size w w' := by
  obtain ⟨W0, hW0⟩ : ∃ W0, (w.alloc (.cells #[.int .i64 n, .int .i64 m, .slice a1 St.length c1, .slice a2 Fi.length c2, .slice a3 Ed.length c3] 25)).alloc (.cells #[.int .i64 0, .int .i64 0, .slice none 0 0, .slice none 0 0, .slice none 0 0] 25) = W0 := ⟨_, rfl⟩
  have HD := hide (box2 w #[.int .i64 n, .int .i64 m, .slice a1 St.length c1, .slice a2 Fi.length c2, .slice a3 Ed.length c3] #[.int .i64 0, .int .i64 0, .slice none 0 0, .slice none 0 0, .slice none 0 0] 25)
  rw [hW0] at HD
  have SK : Hid (∀ W, Below W0.heap.size W0 W → W.cell? ⟨w.heap.size, 0, none⟩ = some (.int .i64 n) ∧ W.cell? ⟨w.heap.size, 1, none⟩ = some (.int .i64 m) ∧ W.cell? ⟨w.heap.size, 2, none⟩ = some (.slice a1 St.length c1) ∧ W.cell? ⟨w.heap.size, 3, none⟩ = some (.slice a2 Fi.length c2) ∧ W.cell? ⟨w.heap.size, 4, none⟩ = some (.slice a3 Ed.length c3)) := hide (fun W d => by
    have e := blk_on HD.out.2.1 d
    exact ⟨cell_of e rfl, cell_of e rfl, cell_of e rfl, cell_of e rfl, cell_of e rfl⟩)
  have TV := rvalid_any W0 n m a1 a2 a3 c1 c2 c3 St Fi Ed (hide (hA.out.on HD.out.1)) h1 h2 h3
  rw [em] at TV
  clear em
  obtain ⟨y0, y1, y2, y3, y4⟩ := SK.out W0 (Below.refl _ _)
  go_enter Tryz.func32, Tryz.ntmps32
  go_upto_region 2 with (go_at_call 39; refine TV.mono ?_; rintro e wa ⟨rfl, D1⟩; have DB := hide D1)
  have F3 := blk_on HD.out.2.2.1 DB.out
  have o0 : wa.cell? ⟨w.heap.size + 1, 0, none⟩ = some (.int .i64 0) := cell_of F3 rfl
  have g0 : wa.frozen? ⟨w.heap.size + 1, 0, none⟩ = false := fz_of F3
  have o1 : wa.cell? ⟨w.heap.size + 1, 1, none⟩ = some (.int .i64 0) := cell_of F3 rfl
  have g1 : wa.frozen? ⟨w.heap.size + 1, 1, none⟩ = false := fz_of F3
  have o2 : wa.cell? ⟨w.heap.size + 1, 2, none⟩ = some (.slice none 0 0) := cell_of F3 rfl
  have g2 : wa.frozen? ⟨w.heap.size + 1, 2, none⟩ = false := fz_of F3
  have o3 : wa.cell? ⟨w.heap.size + 1, 3, none⟩ = some (.slice none 0 0) := cell_of F3 rfl
  have g3 : wa.frozen? ⟨w.heap.size + 1, 3, none⟩ = false := fz_of F3
  have o4 : wa.cell? ⟨w.heap.size + 1, 4, none⟩ = some (.slice none 0 0) := cell_of F3 rfl
  have g4 : wa.frozen? ⟨w.heap.size + 1, 4, none⟩ = false := fz_of F3
  have O6 := hide (And.intro (set5 wa (w.heap.size + 1) _ _ _ _ _ (.int .i64 0) (.int .i64 0) (.slice none 0 0) (.slice none 0 0) (.slice none 0 0) 25 F3) (only5 wa (w.heap.size + 1) (.int .i64 0) (.int .i64 0) (.slice none 0 0) (.slice none 0 0) (.slice none 0 0)))
  clear F3
  go_wp2_with fail
  refine bodyPost_ret (results_c1 (p := 2) (q := 3) (ty := 25) rfl _ _ (w.heap.size + 1) 25 _ (0, 0) _ _ rfl rfl O6.out.1 Tryz.underlying25 rfl (by kernel_rfl)) rfl ?_
  have s1 := HD.out.2.2.2
  have s2 := DB.out.size
  exact ⟨rfl, (HD.out.1.trans (DB.out.mono (by omega))).trans (O6.out.2.toBelow (by omega) (fun k hk => by omega))⟩
set_option maxRecDepth 100000 in
set_option maxHeartbeats 4000000 in
theorem rnormal_ok (w : World) (n m : Int) (a1 a2 a3 : Option Addr) (c1 c2 c3 : Nat) (St Fi : List Int) (Ed : List EdT) (hA : Hid (RdA w a1 a2 a3 St Fi Ed)) (h1 : St.length ≤ 4194304) (h2 : Fi.length ≤ 4194304) (h3 : Ed.length ≤ 4194304) (hc : Ed.length ≤ c3) (em : mayA n m St Fi Ed = true) :
    Calls Tryz.prog 32 #[.agg #[.int .i64 n, .int .i64 m, .slice a1 St.length c1, .slice a2 Fi.length c2, .slice a3 Ed.length c3]] w fun e w' => ∃ b1 k1 b2 k2 b3 k3, e = .returned (.tuple #[.agg #[.int .i64 n, .int .i64 m, .slice b1 (riseL St).length k1, .slice b2 (riseL Fi).length k2, .slice b3 (riseE Ed).length k3], .int .i64 0]) ∧ Hid (OwnO w.heap.size w' (.slice b1 (riseL St).length k1) (.slice b2 (riseL Fi).length k2) (.slice b3 (riseE Ed).length k3) (riseL St) (riseL Fi) (riseE Ed)) ∧ Below w.heap.size w w' := by
  obtain ⟨W0, hW0⟩ : ∃ W0, (w.alloc (.cells #[.int .i64 n, .int .i64 m, .slice a1 St.length c1, .slice a2 Fi.length c2, .slice a3 Ed.length c3] 25)).alloc (.cells #[.int .i64 0, .int .i64 0, .slice none 0 0, .slice none 0 0, .slice none 0 0] 25) = W0 := ⟨_, rfl⟩
  have HD := hide (box2 w #[.int .i64 n, .int .i64 m, .slice a1 St.length c1, .slice a2 Fi.length c2, .slice a3 Ed.length c3] #[.int .i64 0, .int .i64 0, .slice none 0 0, .slice none 0 0, .slice none 0 0] 25)
  rw [hW0] at HD
  have SK : Hid (∀ W, Below W0.heap.size W0 W → W.cell? ⟨w.heap.size, 0, none⟩ = some (.int .i64 n) ∧ W.cell? ⟨w.heap.size, 1, none⟩ = some (.int .i64 m) ∧ W.cell? ⟨w.heap.size, 2, none⟩ = some (.slice a1 St.length c1) ∧ W.cell? ⟨w.heap.size, 3, none⟩ = some (.slice a2 Fi.length c2) ∧ W.cell? ⟨w.heap.size, 4, none⟩ = some (.slice a3 Ed.length c3)) := hide (fun W d => by
    have e := blk_on HD.out.2.1 d
    exact ⟨cell_of e rfl, cell_of e rfl, cell_of e rfl, cell_of e rfl, cell_of e rfl⟩)
  have TV := rvalid_any W0 n m a1 a2 a3 c1 c2 c3 St Fi Ed (hide (hA.out.on HD.out.1)) h1 h2 h3
  rw [em] at TV
  clear em
  have KA : Hid (∀ W, Below W0.heap.size W0 W → RdA W a1 a2 a3 St Fi Ed) := hide (fun W d => (hA.out.on HD.out.1).on d)
  have T1 : Hid (∀ W, Below W0.heap.size W0 W → Calls Tryz.prog 72 #[.slice a1 St.length c1] W fun e w' => ∃ b c, e = .returned (.slice b (riseL St).length c) ∧ Hid (w'.ownsRow W.heap.size 3 1 (.slice b (riseL St).length c) (riseL St).length ((riseL St).map (Value.int .i64))) ∧ Below W.heap.size W w') := hide (fun W d => set_any W a1 St c1 (hide (KA.out W d).s) h1)
  have T2 : Hid (∀ W, Below W0.heap.size W0 W → Calls Tryz.prog 72 #[.slice a2 Fi.length c2] W fun e w' => ∃ b c, e = .returned (.slice b (riseL Fi).length c) ∧ Hid (w'.ownsRow W.heap.size 3 1 (.slice b (riseL Fi).length c) (riseL Fi).length ((riseL Fi).map (Value.int .i64))) ∧ Below W.heap.size W w') := hide (fun W d => set_any W a2 Fi c2 (hide (KA.out W d).f) h2)
  have T3 : Hid (∀ W, Below W0.heap.size W0 W → Calls Tryz.prog 73 #[.slice a3 Ed.length c3] W fun e w' => ∃ b c, e = .returned (.slice b (riseE Ed).length c) ∧ Hid (w'.ownsRow W.heap.size 59 3 (.slice b (riseE Ed).length c) (riseE Ed).length ((riseE Ed).flatMap encE)) ∧ Below W.heap.size W w') := hide (fun W d => edgesR_any _ W a3 Ed c3 (Nat.le_refl _) (hide (KA.out W d).e) hc h3)
  obtain ⟨y0, y1, y2, y3, y4⟩ := SK.out W0 (Below.refl _ _)
  go_enter Tryz.func32, Tryz.ntmps32
  go_upto_region 3 with (go_at_call 39; refine TV.mono ?_; rintro e wa ⟨rfl, D1⟩; have HB := hide D1; clear D1)
  clear y0 y1 y2 y3 y4 TV
  have hmo : MonIL 0 [vI 0 (.pointer (some ⟨w.heap.size, 0, none⟩)), vI 1 (.int .i64 n), vI 2 (.pointer (some ⟨w.heap.size, 1, none⟩)), vI 3 (.int .i64 m), vI 4 (.pointer (some ⟨w.heap.size, 2, none⟩)), vI 5 (.slice a1 St.length c1), pI 6 (ownNI (riseL St)), vI 7 (.pointer (some ⟨w.heap.size, 3, none⟩)), vI 8 (.slice a2 Fi.length c2), pI 9 (ownNI (riseL Fi)), vI 10 (.pointer (some ⟨w.heap.size, 4, none⟩)), vI 11 (.slice a3 Ed.length c3), pI 12 (ownEI (riseE Ed)), ⟨[6, 9, 12], [], fun y _ _ _ => y 13 = .agg #[.int .i64 n, .int .i64 m, y 6, y 9, y 12]⟩] := ⟨vI_mono _ _, vI_mono _ _, vI_mono _ _, vI_mono _ _, vI_mono _ _, vI_mono _ _, pI_mono ownNI_mono, vI_mono _ _, vI_mono _ _, pI_mono ownNI_mono, vI_mono _ _, vI_mono _ _, pI_mono ownEI_mono, (fun _ _ _ _ _ _ _ _ hy h => by dsimp only at hy h ⊢; rw [hy 13 (Or.inl rfl), hy 6 (Or.inr (by simp)), hy 9 (Or.inr (by simp)), hy 12 (Or.inr (by simp))]; exact h), trivial⟩
  refine wp_region_sl [vI 0 (.pointer (some ⟨w.heap.size, 0, none⟩)), vI 1 (.int .i64 n), vI 2 (.pointer (some ⟨w.heap.size, 1, none⟩)), vI 3 (.int .i64 m), vI 4 (.pointer (some ⟨w.heap.size, 2, none⟩)), vI 5 (.slice a1 St.length c1), pI 6 (ownNI (riseL St)), vI 7 (.pointer (some ⟨w.heap.size, 3, none⟩)), vI 8 (.slice a2 Fi.length c2), pI 9 (ownNI (riseL Fi)), vI 10 (.pointer (some ⟨w.heap.size, 4, none⟩)), vI 11 (.slice a3 Ed.length c3), pI 12 (ownEI (riseE Ed)), ⟨[6, 9, 12], [], fun y _ _ _ => y 13 = .agg #[.int .i64 n, .int .i64 m, y 6, y 9, y 12]⟩] (by kernel_rfl) (by kernel_rfl) (by kernel_rfl) (by kernel_rfl) hmo ⟨?o0, ?o1, ?o2, ?o3, ?o4, ?o5, ?o6, ?o7, ?o8, ?o9, ?o10, ?o11, ?o12, ?o13, trivial⟩ ?fin
  case o0 =>
    intro At yy W hy hb d hd K hK
    have s1 : At.tmps.getD 1 undef = .pointer (some ⟨w.heap.size, 0, none⟩) := hb 1 rfl
    have s1' := s1
    rw [Array.getD_eq_getD_getElem?] at s1'
    clear hd hy hb
    go_simp
    exact hK.out _ W (stp_of hmo d (Below.refl _ _)) (if_pos rfl)
  case o1 =>
    intro At yy W hy hb d hd K hK
    have e0 : yy 0 = .pointer (some ⟨w.heap.size, 0, none⟩) := by obtain ⟨_, _, _, _, e⟩ := hd ⟨0, .data⟩ (by simp) rfl rfl; exact e
    have s8 := (hy 0 _ 8 rfl rfl).trans e0
    have s8' := s8
    rw [Array.getD_eq_getD_getElem?] at s8'
    clear hd hy hb
    obtain ⟨y0, y1, y2, y3, y4⟩ := SK.out W (HB.out.trans (d.mono HB.out.size))
    go_simp
    exact hK.out _ W (stp_of hmo d (Below.refl _ _)) (if_pos rfl)
  case o2 =>
    intro At yy W hy hb d hd K hK
    have s1 : At.tmps.getD 1 undef = .pointer (some ⟨w.heap.size, 0, none⟩) := hb 1 rfl
    have s1' := s1
    rw [Array.getD_eq_getD_getElem?] at s1'
    clear hd hy hb
    go_simp
    exact hK.out _ W (stp_of hmo d (Below.refl _ _)) (if_pos rfl)
  case o3 =>
    intro At yy W hy hb d hd K hK
    have e2 : yy 2 = .pointer (some ⟨w.heap.size, 1, none⟩) := by obtain ⟨_, _, _, _, e⟩ := hd ⟨2, .data⟩ (by simp) rfl rfl; exact e
    have s10 := (hy 2 _ 10 rfl rfl).trans e2
    have s10' := s10
    rw [Array.getD_eq_getD_getElem?] at s10'
    clear hd hy hb
    obtain ⟨y0, y1, y2, y3, y4⟩ := SK.out W (HB.out.trans (d.mono HB.out.size))
    go_simp
    exact hK.out _ W (stp_of hmo d (Below.refl _ _)) (if_pos rfl)
  case o4 =>
    intro At yy W hy hb d hd K hK
    have s1 : At.tmps.getD 1 undef = .pointer (some ⟨w.heap.size, 0, none⟩) := hb 1 rfl
    have s1' := s1
    rw [Array.getD_eq_getD_getElem?] at s1'
    clear hd hy hb
    go_simp
    exact hK.out _ W (stp_of hmo d (Below.refl _ _)) (if_pos rfl)
  case o5 =>
    intro At yy W hy hb d hd K hK
    have e4 : yy 4 = .pointer (some ⟨w.heap.size, 2, none⟩) := by obtain ⟨_, _, _, _, e⟩ := hd ⟨4, .data⟩ (by simp) rfl rfl; exact e
    have s12 := (hy 4 _ 12 rfl rfl).trans e4
    have s12' := s12
    rw [Array.getD_eq_getD_getElem?] at s12'
    clear hd hy hb
    obtain ⟨y0, y1, y2, y3, y4⟩ := SK.out W (HB.out.trans (d.mono HB.out.size))
    go_simp
    exact hK.out _ W (stp_of hmo d (Below.refl _ _)) (if_pos rfl)
  case o6 =>
    intro At yy W hy hb d hd K hK
    have e5 : yy 5 = .slice a1 St.length c1 := by obtain ⟨_, _, _, _, e⟩ := hd ⟨5, .data⟩ (by simp) rfl rfl; exact e
    have DW := HB.out.trans (d.mono HB.out.size)
    have s13 := (hy 5 _ 13 rfl rfl).trans e5
    have s13' := s13
    rw [Array.getD_eq_getD_getElem?] at s13'
    clear hd hy hb
    go_simp
    go_wp2_with (go_at_call 72; refine (T1.out _ DW).mono ?_; rintro e wa ⟨b, c, rfl, hR, da⟩)
    exact hK.out _ wa (stp_of hmo d da) (ownNI_of (if_pos rfl) hR.out)
  case o7 =>
    intro At yy W hy hb d hd K hK
    have s1 : At.tmps.getD 1 undef = .pointer (some ⟨w.heap.size, 0, none⟩) := hb 1 rfl
    have s1' := s1
    rw [Array.getD_eq_getD_getElem?] at s1'
    clear hd hy hb
    go_simp
    exact hK.out _ W (stp_of hmo d (Below.refl _ _)) (if_pos rfl)
  case o8 =>
    intro At yy W hy hb d hd K hK
    have e7 : yy 7 = .pointer (some ⟨w.heap.size, 3, none⟩) := by obtain ⟨_, _, _, _, e⟩ := hd ⟨7, .data⟩ (by simp) rfl rfl; exact e
    have s15 := (hy 7 _ 15 rfl rfl).trans e7
    have s15' := s15
    rw [Array.getD_eq_getD_getElem?] at s15'
    clear hd hy hb
    obtain ⟨y0, y1, y2, y3, y4⟩ := SK.out W (HB.out.trans (d.mono HB.out.size))
    go_simp
    exact hK.out _ W (stp_of hmo d (Below.refl _ _)) (if_pos rfl)
  case o9 =>
    intro At yy W hy hb d hd K hK
    have e8 : yy 8 = .slice a2 Fi.length c2 := by obtain ⟨_, _, _, _, e⟩ := hd ⟨8, .data⟩ (by simp) rfl rfl; exact e
    have DW := HB.out.trans (d.mono HB.out.size)
    have s16 := (hy 8 _ 16 rfl rfl).trans e8
    have s16' := s16
    rw [Array.getD_eq_getD_getElem?] at s16'
    clear hd hy hb
    go_simp
    go_wp2_with (go_at_call 72; refine (T2.out _ DW).mono ?_; rintro e wa ⟨b, c, rfl, hR, da⟩)
    exact hK.out _ wa (stp_of hmo d da) (ownNI_of (if_pos rfl) hR.out)
  case o10 =>
    intro At yy W hy hb d hd K hK
    have s1 : At.tmps.getD 1 undef = .pointer (some ⟨w.heap.size, 0, none⟩) := hb 1 rfl
    have s1' := s1
    rw [Array.getD_eq_getD_getElem?] at s1'
    clear hd hy hb
    go_simp
    exact hK.out _ W (stp_of hmo d (Below.refl _ _)) (if_pos rfl)
  case o11 =>
    intro At yy W hy hb d hd K hK
    have e10 : yy 10 = .pointer (some ⟨w.heap.size, 4, none⟩) := by obtain ⟨_, _, _, _, e⟩ := hd ⟨10, .data⟩ (by simp) rfl rfl; exact e
    have s18 := (hy 10 _ 18 rfl rfl).trans e10
    have s18' := s18
    rw [Array.getD_eq_getD_getElem?] at s18'
    clear hd hy hb
    obtain ⟨y0, y1, y2, y3, y4⟩ := SK.out W (HB.out.trans (d.mono HB.out.size))
    go_simp
    exact hK.out _ W (stp_of hmo d (Below.refl _ _)) (if_pos rfl)
  case o12 =>
    intro At yy W hy hb d hd K hK
    have e11 : yy 11 = .slice a3 Ed.length c3 := by obtain ⟨_, _, _, _, e⟩ := hd ⟨11, .data⟩ (by simp) rfl rfl; exact e
    have DW := HB.out.trans (d.mono HB.out.size)
    have s19 := (hy 11 _ 19 rfl rfl).trans e11
    have s19' := s19
    rw [Array.getD_eq_getD_getElem?] at s19'
    clear hd hy hb
    go_simp
    go_wp2_with (go_at_call 73; refine (T3.out _ DW).mono ?_; rintro e wa ⟨b, c, rfl, hR, da⟩)
    exact hK.out _ wa (stp_of hmo d da) (ownEI_of (if_pos rfl) hR.out)
  case o13 =>
    intro At yy W hy hb d hd K hK
    have e1 : yy 1 = .int .i64 n := by obtain ⟨_, _, _, _, e⟩ := hd ⟨1, .data⟩ (by simp) rfl rfl; exact e
    have e3 : yy 3 = .int .i64 m := by obtain ⟨_, _, _, _, e⟩ := hd ⟨3, .data⟩ (by simp) rfl rfl; exact e
    have f6 := hd ⟨6, .data⟩ (by simp) rfl rfl
    have f9 := hd ⟨9, .data⟩ (by simp) rfl rfl
    have f12 := hd ⟨12, .data⟩ (by simp) rfl rfl
    obtain ⟨_, _, _, _, o6, _⟩ := f6
    obtain ⟨_, _, _, _, o9, _⟩ := f9
    obtain ⟨_, _, _, _, o12, _⟩ := f12
    obtain ⟨b1, k1, e6⟩ := own_slice o6
    obtain ⟨b2, k2, e9⟩ := own_slice o9
    obtain ⟨b3, k3, e12⟩ := own_slice o12
    have s9 := (hy 1 _ 9 rfl rfl).trans e1
    have s9' := s9
    rw [Array.getD_eq_getD_getElem?] at s9'
    have s11 := (hy 3 _ 11 rfl rfl).trans e3
    have s11' := s11
    rw [Array.getD_eq_getD_getElem?] at s11'
    have s14 := (hy 6 _ 14 rfl rfl).trans e6
    have s14' := s14
    rw [Array.getD_eq_getD_getElem?] at s14'
    have s17 := (hy 9 _ 17 rfl rfl).trans e9
    have s17' := s17
    rw [Array.getD_eq_getD_getElem?] at s17'
    have s20 := (hy 12 _ 20 rfl rfl).trans e12
    have s20' := s20
    rw [Array.getD_eq_getD_getElem?] at s20'
    clear hd hy hb
    go_simp
    exact hK.out _ W (stp_of hmo d (Below.refl _ _)) (by show updV yy 13 _ 13 = .agg #[.int .i64 n, .int .i64 m, updV yy 13 _ 6, updV yy 13 _ 9, updV yy 13 _ 12]; simp [updV, e6, e9, e12])
  case fin =>
    intro yy lo hi W hM
    show wpList _ _ _ [_, _] _ _
    have e0 : yy 0 = .pointer (some ⟨w.heap.size, 0, none⟩) := hM.fact 0 (by simp) rfl (notR_all 0 rfl)
    have e1 : yy 1 = .int .i64 n := hM.fact 1 (by simp) rfl (notR_all 1 rfl)
    have e2 : yy 2 = .pointer (some ⟨w.heap.size, 1, none⟩) := hM.fact 2 (by simp) rfl (notR_all 2 rfl)
    have e3 : yy 3 = .int .i64 m := hM.fact 3 (by simp) rfl (notR_all 3 rfl)
    have e4 : yy 4 = .pointer (some ⟨w.heap.size, 2, none⟩) := hM.fact 4 (by simp) rfl (notR_all 4 rfl)
    have e5 : yy 5 = .slice a1 St.length c1 := hM.fact 5 (by simp) rfl (notR_all 5 rfl)
    have e7 : yy 7 = .pointer (some ⟨w.heap.size, 3, none⟩) := hM.fact 7 (by simp) rfl (notR_all 7 rfl)
    have e8 : yy 8 = .slice a2 Fi.length c2 := hM.fact 8 (by simp) rfl (notR_all 8 rfl)
    have e10 : yy 10 = .pointer (some ⟨w.heap.size, 4, none⟩) := hM.fact 10 (by simp) rfl (notR_all 10 rfl)
    have e11 : yy 11 = .slice a3 Ed.length c3 := hM.fact 11 (by simp) rfl (notR_all 11 rfl)
    have e13 : yy 13 = .agg #[.int .i64 n, .int .i64 m, yy 6, yy 9, yy 12] := hM.fact 13 (by simp) rfl (notR_all 13 rfl)
    obtain ⟨o6, l6⟩ := hM.fact 6 (by simp) rfl (notR_all 6 rfl)
    obtain ⟨o9, l9⟩ := hM.fact 9 (by simp) rfl (notR_all 9 rfl)
    obtain ⟨o12, l12⟩ := hM.fact 12 (by simp) rfl (notR_all 12 rfl)
    have t6 := hM.at' 6 (by simp) rfl
    have t9 := hM.at' 9 (by simp) rfl
    have t12 := hM.at' 12 (by simp) rfl
    have ap := hM.apart 6 9 (by simp) (by simp) rfl rfl (by decide)
    have DW := hide (HB.out.trans (hM.d.mono HB.out.size))
    have s0 := HB.out.size
    have s1 := HD.out.2.2.2
    have HOO : Hid (OwnO w.heap.size W (yy 6) (yy 9) (yy 12) (riseL St) (riseL Fi) (riseE Ed)) := hide (ownO_of o6 o9 o12 l6 l9 (by omega) (by omega) (by omega) ap)
    obtain ⟨b1, k1, e6⟩ := own_slice o6
    obtain ⟨b2, k2, e9⟩ := own_slice o9
    obtain ⟨b3, k3, e12⟩ := own_slice o12
    rw [e6, e9, e12] at HOO e13
    have F3 := blk_on HD.out.2.2.1 DW.out
    have o0' : W.cell? ⟨w.heap.size + 1, 0, none⟩ = some (.int .i64 0) := cell_of F3 rfl
    have g0 : W.frozen? ⟨w.heap.size + 1, 0, none⟩ = false := fz_of F3
    have o1' : W.cell? ⟨w.heap.size + 1, 1, none⟩ = some (.int .i64 0) := cell_of F3 rfl
    have g1 : W.frozen? ⟨w.heap.size + 1, 1, none⟩ = false := fz_of F3
    have o2' : W.cell? ⟨w.heap.size + 1, 2, none⟩ = some (.slice none 0 0) := cell_of F3 rfl
    have g2 : W.frozen? ⟨w.heap.size + 1, 2, none⟩ = false := fz_of F3
    have o3' : W.cell? ⟨w.heap.size + 1, 3, none⟩ = some (.slice none 0 0) := cell_of F3 rfl
    have g3 : W.frozen? ⟨w.heap.size + 1, 3, none⟩ = false := fz_of F3
    have o4' : W.cell? ⟨w.heap.size + 1, 4, none⟩ = some (.slice none 0 0) := cell_of F3 rfl
    have g4 : W.frozen? ⟨w.heap.size + 1, 4, none⟩ = false := fz_of F3
    have O6 := hide (And.intro (set5 W (w.heap.size + 1) _ _ _ _ _ (.int .i64 n) (.int .i64 m) (.slice b1 (riseL St).length k1) (.slice b2 (riseL Fi).length k2) (.slice b3 (riseE Ed).length k3) 25 F3) (only5 W (w.heap.size + 1) (.int .i64 n) (.int .i64 m) (.slice b1 (riseL St).length k1) (.slice b2 (riseL Fi).length k2) (.slice b3 (riseE Ed).length k3)))
    have HO2 := hide (HOO.out.keep F3 O6.out.2)
    simp only [fills, Act.put, List.take, List.length, List.setIfInBounds_toArray, List.set_cons_zero, List.set_cons_succ, e0, e1, e2, e3, e4, e5, e7, e8, e10, e11, e6, e9, e12, e13]
    clear hM hmo e0 e1 e2 e3 e4 e5 e7 e8 e10 e11 e6 e9 e12 e13 o6 o9 o12 l6 l9 l12 t6 t9 t12 ap F3 HOO
    go_wp2_with fail
    refine bodyPost_ret (results_c1 (p := 2) (q := 3) (ty := 25) rfl _ _ (w.heap.size + 1) 25 _ (0, 0) _ _ rfl rfl O6.out.1 Tryz.underlying25 rfl (by kernel_rfl)) rfl ?_
    have s2 := DW.out.size
    exact ⟨b1, k1, b2, k2, b3, k3, rfl, HO2, (HD.out.1.trans (DW.out.mono (by omega))).trans (O6.out.2.toBelow (by omega) (fun k hk => by omega))⟩

end Go.Proofs.YtfoahpideglghaaGreatDoor
namespace Go.Proofs.YtfoahpideglghaaGreatDoor
open Go.RowKit Go.Maps Go.Shelf
attribute [local go_sem] Oper.semAt_some

/-! ### The document's Reverse -/
/-- Three lists in memory of one's own. -/
structure OwnD (B : Nat) (w : World) (v1 v2 v3 : Value) (S F : List Int) (E : List EdT) : Prop where
  s : w.ownsRow B 3 1 v1 S.length (S.map (Value.int .i64))
  f : w.ownsRow B 3 1 v2 F.length (F.map (Value.int .i64))
  e : w.ownsRow B 59 3 v3 E.length (E.flatMap encE)
theorem OwnD.rd {B : Nat} {w : World} {b1 b2 b3 : Option Addr} {k1 k2 k3 : Nat} {S F : List Int} {E : List EdT} (h : OwnD B w (.slice b1 S.length k1) (.slice b2 F.length k2) (.slice b3 E.length k3) S F E) : RdA w b1 b2 b3 S F E := ⟨own_rdN h.s, own_rdN h.f, own_rdE h.e⟩
end Go.Proofs.YtfoahpideglghaaGreatDoor
