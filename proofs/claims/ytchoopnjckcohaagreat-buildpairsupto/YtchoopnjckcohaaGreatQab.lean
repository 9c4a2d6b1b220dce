import Derived.Test.YtchoopnjckcohaaGreatQaa
import Derived.Laws.IdiomStrings
import Derived.Laws.IdiomStrings
import Derived.Shelf.Sort.Plain
import Derived.Shelf.Slices.Clone
import Derived.Shelf.Slices.In.SortNone
import Derived.Laws.AppendOwnNone
import Derived.Lib.AppendZerosOnto
set_option maxRecDepth 100000
set_option maxHeartbeats 40000000
namespace Go.Proofs.YtchoopnjckcohaaGreat
open Tryz
open Go.RowKit Go.Maps Go.Shelf
attribute [local go_sem] Oper.semAt_some
def I2 (X : List Aa) : Ef := fun x lo hi W => W.ownsRow lo 50 3 x X.length (X.flatMap Ae) ∧ ∀ g, x.ownBlock = some g → g < hi
theorem DP {X : List Aa} : B8 (I2 X) := fun _ _ _ _ _ _ d h => ⟨A6 h.1 d, h.2⟩
theorem FA {X : List Aa} {B : Nat} {W : World} {x v : Value} (e : x = v) (h : W.ownsRow B 50 3 v X.length (X.flatMap Ae)) : I2 X x B W.heap.size W := by
 subst e
 exact ⟨h, fun g hg => (h.lt g hg).2⟩
theorem Df (w : World) (n m : Int) (a1 a2 a3 : Option Addr) (c1 c2 c3 : Nat) (St Fi : List Int) (Ed : List Aa) (hA : Hid (AP w a1 a2 a3 St Fi Ed)) (h1 : St.length ≤ 4194304) (h2 : Fi.length ≤ 4194304) (h3 : Ed.length ≤ 4194304) (em : AC n m St Fi Ed = false) :
 Calls prog 66 #[.agg #[.int .i64 n, .int .i64 m, .slice a1 St.length c1, .slice a2 Fi.length c2, .slice a3 Ed.length c3]] w fun e w' => e = .returned (.tuple #[.agg #[.int .i64 0, .int .i64 0, .slice none 0 0, .slice none 0 0, .slice none 0 0], .int .i64 2]) ∧ Below w.heap.size w w' := by
 obtain ⟨W0, hW0⟩ : ∃ W0, (w.alloc (.cells #[.int .i64 n, .int .i64 m, .slice a1 St.length c1, .slice a2 Fi.length c2, .slice a3 Ed.length c3] 25)).alloc (.cells #[.int .i64 0, .int .i64 0, .slice none 0 0, .slice none 0 0, .slice none 0 0] 25) = W0 := ⟨_, rfl⟩
 have HD := A0 (Br w #[.int .i64 n, .int .i64 m, .slice a1 St.length c1, .slice a2 Fi.length c2, .slice a3 Ed.length c3] #[.int .i64 0, .int .i64 0, .slice none 0 0, .slice none 0 0, .slice none 0 0] 25)
 rw [hW0] at HD
 have SK : Hid (∀ W, Below W0.heap.size W0 W → W.cell? ⟨w.heap.size, 0, none⟩ = some (.int .i64 n) ∧ W.cell? ⟨w.heap.size, 1, none⟩ = some (.int .i64 m) ∧ W.cell? ⟨w.heap.size, 2, none⟩ = some (.slice a1 St.length c1) ∧ W.cell? ⟨w.heap.size, 3, none⟩ = some (.slice a2 Fi.length c2) ∧ W.cell? ⟨w.heap.size, 4, none⟩ = some (.slice a3 Ed.length c3)) := A0 (fun W d => by
  have e := A3 HD.out.2.1 d
  exact ⟨A1 e rfl, A1 e rfl, A1 e rfl, A1 e rfl, A1 e rfl⟩)
 have TV := FX W0 n m a1 a2 a3 c1 c2 c3 St Fi Ed (A0 (hA.out.on HD.out.1)) h1 h2 h3
 rw [em] at TV
 clear em
 obtain ⟨y0, y1, y2, y3, y4⟩ := SK.out W0 (Below.refl _ _)
 go_enter func66, ntmps66
 go_upto_region 2 with (go_at_call 78; refine TV.mono ?_; rintro e wa ⟨rfl, D1⟩; have DB := A0 D1)
 have F3 := A3 HD.out.2.2.1 DB.out
 obtain ⟨o0, o1, o2, o3, o4⟩ := An F3 rfl rfl rfl rfl rfl
 have g0 : wa.frozen? ⟨w.heap.size + 1, 0, none⟩ = false := A4 F3
 have g1 : wa.frozen? ⟨w.heap.size + 1, 1, none⟩ = false := A4 F3
 have g2 : wa.frozen? ⟨w.heap.size + 1, 2, none⟩ = false := A4 F3
 have g3 : wa.frozen? ⟨w.heap.size + 1, 3, none⟩ = false := A4 F3
 have g4 : wa.frozen? ⟨w.heap.size + 1, 4, none⟩ = false := A4 F3
 have O6 := A0 (And.intro (AT wa (w.heap.size + 1) _ _ _ _ _ (.int .i64 0) (.int .i64 0) (.slice none 0 0) (.slice none 0 0) (.slice none 0 0) 25 F3) (AF wa (w.heap.size + 1) (.int .i64 0) (.int .i64 0) (.slice none 0 0) (.slice none 0 0) (.slice none 0 0)))
 clear F3
 go_wp2_with fail
 refine bodyPost_ret (B6 (p := 2) (q := 3) (ty := 25) rfl _ _ (w.heap.size + 1) 25 _ (0, 0) _ _ rfl rfl O6.out.1 underlying25 rfl (by kernel_rfl)) rfl ?_
 have s1 := HD.out.2.2.2
 have s2 := DB.out.size
 exact ⟨rfl, (HD.out.1.trans (DB.out.mono (by omega))).trans (O6.out.2.toBelow (by omega) (fun k hk => by omega))⟩
theorem J2 (w : World) (n m : Int) (a1 a2 a3 : Option Addr) (c1 c2 c3 : Nat) (St Fi : List Int) (Ed : List Aa) (hA : Hid (AP w a1 a2 a3 St Fi Ed)) (h1 : St.length ≤ 4194304) (h2 : Fi.length ≤ 4194304) (h3 : Ed.length ≤ 4194304) (hc : Ed.length ≤ c3) (em : AC n m St Fi Ed = true) :
 Calls prog 66 #[.agg #[.int .i64 n, .int .i64 m, .slice a1 St.length c1, .slice a2 Fi.length c2, .slice a3 Ed.length c3]] w fun e w' => ∃ b1 k1 b2 k2 b3 k3, e = .returned (.tuple #[.agg #[.int .i64 n, .int .i64 m, .slice b1 (A5 St).length k1, .slice b2 (A5 Fi).length k2, .slice b3 (A7 Ed).length k3], .int .i64 0]) ∧ Hid (AE w.heap.size w' (.slice b1 (A5 St).length k1) (.slice b2 (A5 Fi).length k2) (.slice b3 (A7 Ed).length k3) (A5 St) (A5 Fi) (A7 Ed)) ∧ Below w.heap.size w w' := by
 obtain ⟨W0, hW0⟩ : ∃ W0, (w.alloc (.cells #[.int .i64 n, .int .i64 m, .slice a1 St.length c1, .slice a2 Fi.length c2, .slice a3 Ed.length c3] 25)).alloc (.cells #[.int .i64 0, .int .i64 0, .slice none 0 0, .slice none 0 0, .slice none 0 0] 25) = W0 := ⟨_, rfl⟩
 have HD := A0 (Br w #[.int .i64 n, .int .i64 m, .slice a1 St.length c1, .slice a2 Fi.length c2, .slice a3 Ed.length c3] #[.int .i64 0, .int .i64 0, .slice none 0 0, .slice none 0 0, .slice none 0 0] 25)
 rw [hW0] at HD
 have SK : Hid (∀ W, Below W0.heap.size W0 W → W.cell? ⟨w.heap.size, 0, none⟩ = some (.int .i64 n) ∧ W.cell? ⟨w.heap.size, 1, none⟩ = some (.int .i64 m) ∧ W.cell? ⟨w.heap.size, 2, none⟩ = some (.slice a1 St.length c1) ∧ W.cell? ⟨w.heap.size, 3, none⟩ = some (.slice a2 Fi.length c2) ∧ W.cell? ⟨w.heap.size, 4, none⟩ = some (.slice a3 Ed.length c3)) := A0 (fun W d => by
  have e := A3 HD.out.2.1 d
  exact ⟨A1 e rfl, A1 e rfl, A1 e rfl, A1 e rfl, A1 e rfl⟩)
 have TV := FX W0 n m a1 a2 a3 c1 c2 c3 St Fi Ed (A0 (hA.out.on HD.out.1)) h1 h2 h3
 rw [em] at TV
 clear em
 have KA : Hid (∀ W, Below W0.heap.size W0 W → AP W a1 a2 a3 St Fi Ed) := A0 (fun W d => (hA.out.on HD.out.1).on d)
 have T1 : Hid (∀ W, Below W0.heap.size W0 W → Calls prog 63 #[.slice a1 St.length c1] W fun e w' => ∃ b c, e = .returned (.slice b (A5 St).length c) ∧ Hid (w'.ownsRow W.heap.size 3 1 (.slice b (A5 St).length c) (A5 St).length ((A5 St).map (Value.int .i64))) ∧ Below W.heap.size W w') := A0 (fun W d => Dn W a1 St c1 (A0 (KA.out W d).s) h1)
 have T2 : Hid (∀ W, Below W0.heap.size W0 W → Calls prog 63 #[.slice a2 Fi.length c2] W fun e w' => ∃ b c, e = .returned (.slice b (A5 Fi).length c) ∧ Hid (w'.ownsRow W.heap.size 3 1 (.slice b (A5 Fi).length c) (A5 Fi).length ((A5 Fi).map (Value.int .i64))) ∧ Below W.heap.size W w') := A0 (fun W d => Dn W a2 Fi c2 (A0 (KA.out W d).f) h2)
 have T3 : Hid (∀ W, Below W0.heap.size W0 W → Calls prog 68 #[.slice a3 Ed.length c3] W fun e w' => ∃ b c, e = .returned (.slice b (A7 Ed).length c) ∧ Hid (w'.ownsRow W.heap.size 50 3 (.slice b (A7 Ed).length c) (A7 Ed).length ((A7 Ed).flatMap Ae)) ∧ Below W.heap.size W w') := A0 (fun W d => DN _ W a3 Ed c3 (Nat.le_refl _) (A0 (KA.out W d).e) hc h3)
 obtain ⟨y0, y1, y2, y3, y4⟩ := SK.out W0 (Below.refl _ _)
 go_enter func66, ntmps66
 go_upto_region 3 with (go_at_call 78; refine TV.mono ?_; rintro e wa ⟨rfl, D1⟩; have HB := A0 D1; clear D1)
 clear y0 y1 y2 y3 y4 TV
 have hmo : AJ 0 [vI 0 (.pointer (some ⟨w.heap.size, 0, none⟩)), vI 1 (.int .i64 n), vI 2 (.pointer (some ⟨w.heap.size, 1, none⟩)), vI 3 (.int .i64 m), vI 4 (.pointer (some ⟨w.heap.size, 2, none⟩)), vI 5 (.slice a1 St.length c1), pI 6 (DL (A5 St)), vI 7 (.pointer (some ⟨w.heap.size, 3, none⟩)), vI 8 (.slice a2 Fi.length c2), pI 9 (DL (A5 Fi)), vI 10 (.pointer (some ⟨w.heap.size, 4, none⟩)), vI 11 (.slice a3 Ed.length c3), pI 12 (I2 (A7 Ed)), ⟨[6, 9, 12], [], fun y _ _ _ => y 13 = .agg #[.int .i64 n, .int .i64 m, y 6, y 9, y 12]⟩] := ⟨A2 _ _, A2 _ _, A2 _ _, A2 _ _, A2 _ _, A2 _ _, Am Bq, A2 _ _, A2 _ _, Am Bq, A2 _ _, A2 _ _, Am DP, (fun _ _ _ _ _ _ _ _ hy h => by dsimp only at hy h ⊢; rw [hy 13 (Or.inl rfl), hy 6 (Or.inr (by simp)), hy 9 (Or.inr (by simp)), hy 12 (Or.inr (by simp))]; exact h), trivial⟩
 refine Aj _ (by kernel_rfl) (by kernel_rfl) (by kernel_rfl) (by kernel_rfl) hmo ⟨?o0, ?o1, ?o2, ?o3, ?o4, ?o5, ?o6, ?o7, ?o8, ?o9, ?o10, ?o11, ?o12, ?o13, trivial⟩ ?fin
 case o0 =>
  intro At yy W hy hb d hd K hK
  obtain ⟨s1, s1'⟩ := AG (hb 1 rfl : _ = .pointer (some ⟨w.heap.size, 0, none⟩))
  clear hd hy hb
  go_simp
  exact Ak hK hmo d (if_pos rfl)
 case o1 =>
  intro At yy W hy hb d hd K hK
  obtain ⟨s8, s8'⟩ := Ao 0 8 .data hy hd rfl
  clear hd hy hb
  obtain ⟨y0, y1, y2, y3, y4⟩ := SK.out W (HB.out.trans (d.mono HB.out.size))
  go_simp
  exact Ak hK hmo d (if_pos rfl)
 case o2 =>
  intro At yy W hy hb d hd K hK
  obtain ⟨s1, s1'⟩ := AG (hb 1 rfl : _ = .pointer (some ⟨w.heap.size, 0, none⟩))
  clear hd hy hb
  go_simp
  exact Ak hK hmo d (if_pos rfl)
 case o3 =>
  intro At yy W hy hb d hd K hK
  obtain ⟨s10, s10'⟩ := Ao 2 10 .data hy hd rfl
  clear hd hy hb
  obtain ⟨y0, y1, y2, y3, y4⟩ := SK.out W (HB.out.trans (d.mono HB.out.size))
  go_simp
  exact Ak hK hmo d (if_pos rfl)
 case o4 =>
  intro At yy W hy hb d hd K hK
  obtain ⟨s1, s1'⟩ := AG (hb 1 rfl : _ = .pointer (some ⟨w.heap.size, 0, none⟩))
  clear hd hy hb
  go_simp
  exact Ak hK hmo d (if_pos rfl)
 case o5 =>
  intro At yy W hy hb d hd K hK
  obtain ⟨s12, s12'⟩ := Ao 4 12 .data hy hd rfl
  clear hd hy hb
  obtain ⟨y0, y1, y2, y3, y4⟩ := SK.out W (HB.out.trans (d.mono HB.out.size))
  go_simp
  exact Ak hK hmo d (if_pos rfl)
 case o6 =>
  intro At yy W hy hb d hd K hK
  have DW := HB.out.trans (d.mono HB.out.size)
  obtain ⟨s13, s13'⟩ := Ao 5 13 .data hy hd rfl
  clear hd hy hb
  go_simp
  go_wp2_with (go_at_call 63; refine (T1.out _ DW).mono ?_; rintro e wa ⟨b, c, rfl, hR, da⟩)
  exact hK.out _ wa (Av hmo d da) (BU (if_pos rfl) hR.out)
 case o7 =>
  intro At yy W hy hb d hd K hK
  obtain ⟨s1, s1'⟩ := AG (hb 1 rfl : _ = .pointer (some ⟨w.heap.size, 0, none⟩))
  clear hd hy hb
  go_simp
  exact Ak hK hmo d (if_pos rfl)
 case o8 =>
  intro At yy W hy hb d hd K hK
  obtain ⟨s15, s15'⟩ := Ao 7 15 .data hy hd rfl
  clear hd hy hb
  obtain ⟨y0, y1, y2, y3, y4⟩ := SK.out W (HB.out.trans (d.mono HB.out.size))
  go_simp
  exact Ak hK hmo d (if_pos rfl)
 case o9 =>
  intro At yy W hy hb d hd K hK
  have DW := HB.out.trans (d.mono HB.out.size)
  obtain ⟨s16, s16'⟩ := Ao 8 16 .data hy hd rfl
  clear hd hy hb
  go_simp
  go_wp2_with (go_at_call 63; refine (T2.out _ DW).mono ?_; rintro e wa ⟨b, c, rfl, hR, da⟩)
  exact hK.out _ wa (Av hmo d da) (BU (if_pos rfl) hR.out)
 case o10 =>
  intro At yy W hy hb d hd K hK
  obtain ⟨s1, s1'⟩ := AG (hb 1 rfl : _ = .pointer (some ⟨w.heap.size, 0, none⟩))
  clear hd hy hb
  go_simp
  exact Ak hK hmo d (if_pos rfl)
 case o11 =>
  intro At yy W hy hb d hd K hK
  obtain ⟨s18, s18'⟩ := Ao 10 18 .data hy hd rfl
  clear hd hy hb
  obtain ⟨y0, y1, y2, y3, y4⟩ := SK.out W (HB.out.trans (d.mono HB.out.size))
  go_simp
  exact Ak hK hmo d (if_pos rfl)
 case o12 =>
  intro At yy W hy hb d hd K hK
  have DW := HB.out.trans (d.mono HB.out.size)
  obtain ⟨s19, s19'⟩ := Ao 11 19 .data hy hd rfl
  clear hd hy hb
  go_simp
  go_wp2_with (go_at_call 68; refine (T3.out _ DW).mono ?_; rintro e wa ⟨b, c, rfl, hR, da⟩)
  exact hK.out _ wa (Av hmo d da) (FA (if_pos rfl) hR.out)
 case o13 =>
  intro At yy W hy hb d hd K hK
  have f6 := hd ⟨6, .data⟩ (by simp) rfl rfl
  have f9 := hd ⟨9, .data⟩ (by simp) rfl rfl
  have f12 := hd ⟨12, .data⟩ (by simp) rfl rfl
  obtain ⟨_, _, _, _, o6, _⟩ := f6
  obtain ⟨_, _, _, _, o9, _⟩ := f9
  obtain ⟨_, _, _, _, o12, _⟩ := f12
  obtain ⟨b1, k1, e6⟩ := A8 o6
  obtain ⟨b2, k2, e9⟩ := A8 o9
  obtain ⟨b3, k3, e12⟩ := A8 o12
  obtain ⟨s9, s9'⟩ := Ao 1 9 .data hy hd rfl
  obtain ⟨s11, s11'⟩ := Ao 3 11 .data hy hd rfl
  obtain ⟨s14, s14'⟩ := AG ((hy 6 _ 14 rfl rfl).trans e6)
  obtain ⟨s17, s17'⟩ := AG ((hy 9 _ 17 rfl rfl).trans e9)
  obtain ⟨s20, s20'⟩ := AG ((hy 12 _ 20 rfl rfl).trans e12)
  clear hd hy hb
  go_simp
  exact Ak hK hmo d (by show AK yy 13 _ 13 = .agg #[.int .i64 n, .int .i64 m, AK yy 13 _ 6, AK yy 13 _ 9, AK yy 13 _ 12]; simp [AK, e6, e9, e12])
 case fin =>
  intro yy lo hi W hM
  show wpList _ _ _ [_, _] _ _
  have e0 := hM.v 0 (by simp) rfl rfl rfl
  have e1 := hM.v 1 (by simp) rfl rfl rfl
  have e2 := hM.v 2 (by simp) rfl rfl rfl
  have e3 := hM.v 3 (by simp) rfl rfl rfl
  have e4 := hM.v 4 (by simp) rfl rfl rfl
  have e5 := hM.v 5 (by simp) rfl rfl rfl
  have e7 := hM.v 7 (by simp) rfl rfl rfl
  have e8 := hM.v 8 (by simp) rfl rfl rfl
  have e10 := hM.v 10 (by simp) rfl rfl rfl
  have e11 := hM.v 11 (by simp) rfl rfl rfl
  have e13 : yy 13 = .agg #[.int .i64 n, .int .i64 m, yy 6, yy 9, yy 12] := hM.fact 13 (by simp) rfl (Ad 13 rfl)
  obtain ⟨o6, l6⟩ := hM.fact 6 (by simp) rfl (Ad 6 rfl)
  obtain ⟨o9, l9⟩ := hM.fact 9 (by simp) rfl (Ad 9 rfl)
  obtain ⟨o12, l12⟩ := hM.fact 12 (by simp) rfl (Ad 12 rfl)
  have t6 := hM.at' 6 (by simp) rfl
  have t9 := hM.at' 9 (by simp) rfl
  have t12 := hM.at' 12 (by simp) rfl
  have ap := hM.apart 6 9 (by simp) (by simp) rfl rfl (by decide)
  have DW := A0 (HB.out.trans (hM.d.mono HB.out.size))
  have s0 := HB.out.size
  have s1 := HD.out.2.2.2
  have HOO : Hid (AE w.heap.size W (yy 6) (yy 9) (yy 12) (A5 St) (A5 Fi) (A7 Ed)) := A0 (Fr o6 o9 o12 l6 l9 (by omega) (by omega) (by omega) ap)
  obtain ⟨b1, k1, e6⟩ := A8 o6
  obtain ⟨b2, k2, e9⟩ := A8 o9
  obtain ⟨b3, k3, e12⟩ := A8 o12
  rw [e6, e9, e12] at HOO e13
  have F3 := A3 HD.out.2.2.1 DW.out
  obtain ⟨o0', o1', o2', o3', o4'⟩ := An F3 rfl rfl rfl rfl rfl
  have g0 : W.frozen? ⟨w.heap.size + 1, 0, none⟩ = false := A4 F3
  have g1 : W.frozen? ⟨w.heap.size + 1, 1, none⟩ = false := A4 F3
  have g2 : W.frozen? ⟨w.heap.size + 1, 2, none⟩ = false := A4 F3
  have g3 : W.frozen? ⟨w.heap.size + 1, 3, none⟩ = false := A4 F3
  have g4 : W.frozen? ⟨w.heap.size + 1, 4, none⟩ = false := A4 F3
  have O6 := A0 (And.intro (AT W (w.heap.size + 1) _ _ _ _ _ (.int .i64 n) (.int .i64 m) (.slice b1 (A5 St).length k1) (.slice b2 (A5 Fi).length k2) (.slice b3 (A7 Ed).length k3) 25 F3) (AF W (w.heap.size + 1) (.int .i64 n) (.int .i64 m) (.slice b1 (A5 St).length k1) (.slice b2 (A5 Fi).length k2) (.slice b3 (A7 Ed).length k3)))
  have HO2 := A0 (HOO.out.keep F3 O6.out.2)
  simp only [Aw, Act.put, List.take, List.length, List.setIfInBounds_toArray, List.set_cons_zero, List.set_cons_succ, e0, e1, e2, e3, e4, e5, e7, e8, e10, e11, e6, e9, e12, e13]
  clear hM hmo e0 e1 e2 e3 e4 e5 e7 e8 e10 e11 e6 e9 e12 e13 o6 o9 o12 l6 l9 l12 t6 t9 t12 ap F3 HOO
  go_wp2_with fail
  refine bodyPost_ret (B6 (p := 2) (q := 3) (ty := 25) rfl _ _ (w.heap.size + 1) 25 _ (0, 0) _ _ rfl rfl O6.out.1 underlying25 rfl (by kernel_rfl)) rfl ?_
  have s2 := DW.out.size
  exact ⟨b1, k1, b2, k2, b3, k3, rfl, HO2, (HD.out.1.trans (DW.out.mono (by omega))).trans (O6.out.2.toBelow (by omega) (fun k hk => by omega))⟩
theorem Iu (f : Int → Int) (L M : List Int) (i : Nat) (h : i < L.length) : ((Bh f L i ++ M).map (Value.int .i64))[i]? = some (.int .i64 L[i]) := by
 rw [List.getElem?_map, List.getElem?_append_left (by rw [Cx]; exact h), IE f L i h]
 rfl
theorem IA (f : Int → Int) (L M : List Int) (i : Nat) (h : i < L.length) : ((Bh f L i ++ M).map (Value.int .i64)).set i (.int .i64 (f L[i])) = (Bh f L (i + 1) ++ M).map (Value.int .i64) := by
 rw [← Iy f L i h, ← List.set_append_left _ _ (by rw [Cx]; exact h), List.map_set]
theorem MH {T e : TypeId} {sz bytes : Nat} {i : TypeInfo} {z : Value} (hT : prog.underlying T = some (.slice e)) (hi : prog.info? e = some i) (hz0 : i.zero = some z) (hz1 : i.size = sz) (hz2 : i.bytes = bytes) (hzs : z.cells.size = sz) (hsz : 0 < sz) (hby : bytes ≤ 48)
 (w : World) (ty : TypeId) (v : Value) (n : Nat) (xs ys : List Value) (hown : w.ownsRow 0 e sz v n xs) (ad : Addr) (hys : ys.length = 1 * sz) (hnews : ∀ j u, ys[j]? = some u → w.cell? (ad.add j) = some u) (hone : ∀ u ∈ ys, u.oneCell' = true) (hl : n ≤ 4194304) :
 ∃ gv cv w', (Builtin.append_ #[T, T] ty #[v, .slice (some ad) 1 1]).run prog w = .ok (.slice (some ⟨gv, 0, none⟩) (n + 1) cv) w' ∧ w'.ownsRow 0 e sz (.slice (some ⟨gv, 0, none⟩) (n + 1) cv) (n + 1) (xs ++ ys) ∧
  ((v.ownBlock = some gv ∧ w.grownBy w' (some gv)) ∨ (gv = w.heap.size ∧ w.grownBy w' none)) := by
 have hb48 : (n + 1) * bytes ≤ (n + 1) * 48 := Nat.mul_le_mul_left _ hby
 obtain ⟨v', w', hr, h2, h3, _, h4⟩ := run_append_own_at (P := prog) w 0 T ty e i z sz bytes hT hi hz0 hz1 hz2 hzs hsz v n xs hown ad 1 1 ys hys hnews hone (by unfold maxLen; omega) (by omega) (Nat.zero_le _)
 obtain ⟨gv, cv, rfl, _, _⟩ := h2.form (by omega)
 refine ⟨gv, cv, w', hr, h2, ?_⟩
 rcases hown.2 with ⟨rfl, hn⟩ | ⟨g, cap, cur, rfl, hb, hg, hnc, hcm, hcs, htake⟩
 · right
   refine ⟨?_, h3⟩
   rcases h4 with e | e
   · simp [Value.ownBlock] at e
   · simpa [Value.ownBlock] using e
 · by_cases hroom : n + 1 ≤ cap
   · left
     have hr2 := run_append_room (P := prog) w T ty e i hT hi g n cap cur hg ad 1 1 ys (by rw [hz1]; exact hys) hnews hone hroom (by rw [hz1, hys]; have : (n + 1) * sz ≤ cap * sz := Nat.mul_le_mul_right _ hroom; rw [Nat.add_mul] at this; omega)
     rw [hr] at hr2
     simp only [Result.ok.injEq, Value.slice.injEq, Option.some.injEq, Addr.mk.injEq] at hr2
     have e : gv = g := hr2.1.1.1
     subst e
     exact ⟨rfl, h3⟩
   · right
     have holds : ∀ j u, xs[j]? = some u → w.cell? ((⟨g, 0, none⟩ : Addr).add j) = some u := World.ownsRow.cells hown (g := g) rfl
     have hr2 := run_append_grow (P := prog) w T ty e i _ hT hi hz0 ⟨g, 0, none⟩ n cap xs (by rw [hz1]; exact hown.1) holds ad 1 1 ys (by rw [hz1]; exact hys) hnews (by omega) (by omega) (growslice_fits (by omega) (by rw [hz2]; omega))
     rw [hr] at hr2
     simp only [Result.ok.injEq, Value.slice.injEq, Option.some.injEq, Addr.mk.injEq] at hr2
     refine ⟨hr2.1.1.1, ?_⟩
     rw [hr2.2]
     exact ⟨rfl, rfl, rfl, by simp, fun k hk _ => Below.heap_alloc w.drew _ k hk⟩
theorem Ab.grown {w w' : World} {r : Option Nat} {R : Nat → Prop} (h : w.grownBy w' r) (hr : ∀ k, r = some k → R k) : Ab w w' R :=
 ⟨h.os, h.tape, h.output, h.size, fun k hk hn => h.block k hk (fun e => hn (hr k e.symm))⟩
def gx {α : Type} (m : Nat → α) (d : α) (L : List α) (i : Nat) : List α := (List.range L.length).map fun j => if j < i then m j else L.getD j d
theorem OG {α : Type} (m : Nat → α) (d : α) (L : List α) (i : Nat) : (gx m d L i).set i (m i) = gx m d L (i + 1) := by
 apply List.ext_getElem
 · simp [gx]
 · intro j h1 h2
   have hj : j < L.length := by simpa [gx] using h2
   rw [List.getElem_set]
   by_cases e : i = j
   · subst e; simp [gx]
   · rw [if_neg e]
     simp only [gx, List.getElem_map, List.getElem_range]
     by_cases h : j < i
     · rw [if_pos h, if_pos (by omega)]
     · rw [if_neg h, if_neg (by omega)]
def upd {α : Type} (a : Nat → α) (i : Nat) (y : α) : Nat → α := fun j => if j = i then y else a j
def Rv (W : World) (v : Value) (xs : List Value) : Prop := ∀ g, v.ownBlock = some g → ∀ j (h : j < xs.length), W.cell? ⟨g, j, none⟩ = some xs[j]
theorem Lu {W : World} {B e sz n : Nat} {v : Value} {xs : List Value} (h : W.ownsRow B e sz v n xs) : Rv W v xs := fun g hg j hj => by
 have := h.cells hg j xs[j] (List.getElem?_eq_getElem hj)
 rwa [Addr.add_lit, Nat.zero_add] at this
theorem Rv.only {W W' : World} {v : Value} {xs : List Value} {R : Nat → Prop} (h : Rv W v xs) (o : Ab W W' R) (hn : ∀ k, v.ownBlock = some k → ¬ R k) : Rv W' v xs := fun g hg j hj => by
 have c := h g hg j hj
 exact (World.cell?_of_block (w := W) (o.block g (World.block_lt_of_cell? W _ c) (hn g hg))).trans c
structure Pb (w : World) (N : Nat) (v : Nat → Value) (bx : List (Nat × Array Value × TypeId)) : Prop where
 lt : ∀ i, i < N → ∀ k, (v i).ownBlock = some k → k < w.heap.size
 ap : ∀ i j, i < N → j < N → i ≠ j → ∀ k, (v i).ownBlock = some k → (v j).ownBlock ≠ some k
 bge : ∀ q ∈ bx, w.heap.size ≤ q.1
structure Gf (w W : World) (N : Nat) (v : Nat → Value) (bx : List (Nat × Array Value × TypeId)) (e sz n : Nat → Nat) (mk : Nat → Nat → Value) (x : Nat → List Value) (a : Nat → Nat) : Prop where
 b : ∀ q ∈ bx, W.heap[q.1]? = some (.cells q.2.1 q.2.2 (0, 0))
 on : Ab w W (fun k => ∃ i, i < N ∧ (v i).ownBlock = some k)
 r : ∀ i, i < N → W.ownsRow 0 (e i) (sz i) (v i) (n i) (gx (mk i) undef (x i) (a i))
section
variable {w W W' : World} {N : Nat} {v : Nat → Value} {bx : List (Nat × Array Value × TypeId)} {e sz n : Nat → Nat} {mk : Nat → Nat → Value} {x : Nat → List Value} {a : Nat → Nat}
theorem Gf.put (s : Pb w N v bx) (h : Gf w W N v bx e sz n mk x a) (i : Nat) (hi : i < N) {g cap m : Nat} (hv : v i = .slice (some ⟨g, 0, none⟩) m cap) (hm : n i = m) (u : Value) (hu : mk i (a i) = u) : Gf w (W.setCell ⟨g, a i, none⟩ u) N v bx e sz n mk x (upd a i (a i + 1)) := by
 have hg : (v i).ownBlock = some g := by rw [hv]; rfl
 have o1 := Ah W g (a i) u
 refine ⟨fun q hq => (o1.block _ (Array.getElem?_eq_some_iff.1 (h.b q hq)).1 ?_).trans (h.b q hq), h.on.trans (o1.mono fun k _ z => ⟨i, hi, by rw [z]; exact hg⟩), fun j hj => ?_⟩
 · have := s.bge q hq
   have := s.lt i hi g hg
   omega
 · by_cases e1 : j = i
   · subst e1
     have k := h.r j hj
     rw [hv, hm] at k
     have k2 := (k.stored (a j) u).1
     rw [← hu, OG] at k2
     rw [hv, hm, hu] at *
     simpa [upd] using k2
   · have k := A9 (h.r j hj) o1 fun b q z => s.ap j i hj hi e1 b q (by rw [z]; exact hg)
     simpa [upd, e1] using k
theorem MP (m : Nat → Value) (d : Value) (L : List Value) (i : Nat) (h : L.length ≤ i) : gx m d L i = (List.range L.length).map m := by
 apply List.ext_getElem
 · simp [gx]
 · intro j h1 h2
   simp only [gx, List.length_map, List.length_range] at h1
   simp only [gx, List.getElem_map, List.getElem_range]
   rw [if_pos (by omega)]
structure Gg (w W : World) (N : Nat) (v : Nat → Value) (bx : List (Nat × Array Value × TypeId)) (x : Nat → List Value) : Prop where
 b : ∀ q ∈ bx, W.heap[q.1]? = some (.cells q.2.1 q.2.2 (0, 0))
 on : Ab w W (fun k => ∃ i, i < N ∧ (v i).ownBlock = some k)
 r : ∀ i, i < N → Rv W (v i) (x i)
theorem Gg.below {y : Nat → List Value} (h : Gg w W N v bx y) (d : Below W.heap.size W W') : Gg w W' N v bx y :=
 ⟨fun q hq => (d.block _ (Array.getElem?_eq_some_iff.1 (h.b q hq)).1).trans (h.b q hq), h.on.trans (Ab.ofBelow d), fun i hi => (h.r i hi).only (Ab.ofBelow (R := fun _ => False) d) fun _ _ z => z⟩
def Kr (W W' : World) (u : Value) : Prop := ∀ B e sz n xs, W.ownsRow B e sz u n xs → W'.ownsRow B e sz u n xs
structure Gx (w W : World) (v : Value) (bx : List (Nat × Array Value × TypeId)) (e sz n : Nat) (xs ys : List Value) (vm : Value) (j : Nat) : Prop where
 o : W.ownsRow 0 e sz vm (n + j) (xs ++ (List.replicate j ys).flatten)
 rel : vm.ownBlock = v.ownBlock ∨ ∃ b, vm.ownBlock = some b ∧ w.heap.size ≤ b ∧ ∀ q ∈ bx, q.1 ≠ b
theorem Gx.below {v : Value} {e sz n j : Nat} {xs ys : List Value} {vm : Value} (h : Gx w W v bx e sz n xs ys vm j) (d : Below W.heap.size W W') : Gx w W' v bx e sz n xs ys vm j := ⟨A6 h.o d, h.rel⟩
theorem Gx.zero {v : Value} {e sz n : Nat} {xs ys : List Value} (h : W.ownsRow 0 e sz v n xs) : Gx w W v bx e sz n xs ys v 0 := ⟨by simpa using h, .inl rfl⟩
theorem Gf.full {z : Nat → Nat} (h : Gf w W N v bx e sz n mk x a) (hl : ∀ i, i < N → (x i).length = z i ∧ z i ≤ a i) : Gg w W N v bx (fun i => (List.range (z i)).map (mk i)) ∧ ∀ i, i < N → W.ownsRow 0 (e i) (sz i) (v i) (n i) ((List.range (z i)).map (mk i)) := by
 have k : ∀ i, i < N → W.ownsRow 0 (e i) (sz i) (v i) (n i) ((List.range (z i)).map (mk i)) := fun i hi => by
  obtain ⟨e1, e2⟩ := hl i hi
  have := h.r i hi
  rwa [MP _ _ _ _ (by omega), e1] at this
 exact ⟨⟨h.b, h.on, fun i hi => Lu (k i hi)⟩, k⟩
end
theorem BR {W : World} {B C e d sz tz n m k : Nat} {u v : Value} {xs ys : List Value} (h : W.ownsRow B e sz u n xs) (h' : W.ownsRow C d tz v m ys) (hed : e ≠ d) (q : u.ownBlock = some k) (z : v.ownBlock = some k) : False := by
 rcases h.2 with ⟨rfl, _⟩ | ⟨g, cap, cur, rfl, _, hg, _⟩
 · cases q
 · rcases h'.2 with ⟨rfl, _⟩ | ⟨g', cap', cur', rfl, _, hg', _⟩
   · cases z
   · cases q
     cases z
     rw [hg] at hg'
     cases hg'
     exact hed rfl
theorem M5 {α : Type} (a : Nat → α) (i : Nat) (x : α) : upd a i x i = x := by simp [upd]
theorem Gf.cell {w W : World} {N : Nat} {v : Nat → Value} {bx : List (Nat × Array Value × TypeId)} {e sz n : Nat → Nat} {mk : Nat → Nat → Value} {x : Nat → List Value} {a : Nat → Nat} (h : Gf w W N v bx e sz n mk x a) (i : Nat) (hi : i < N) {ao : Option Addr} {cap m z : Nat} (hv : v i = .slice ao m cap) (hm : n i = m) (hz : sz i = z) (j : Nat) (hj : j < m * z) : ∃ g, ao = some ⟨g, 0, none⟩ ∧ ∀ c, c < m * z → (∃ u, W.cell? ⟨g, c, none⟩ = some u) ∧ W.frozen? ⟨g, c, none⟩ = false := by
 have k := h.r i hi
 rw [hv, hm, hz] at k
 obtain ⟨g, cp, e1, _, _⟩ := k.form (Nat.pos_of_ne_zero fun e0 => by rw [e0] at hj; omega)
 cases e1
 refine ⟨g, rfl, fun c hc => ⟨⟨_, Lu k g rfl c (by rw [k.1]; exact hc)⟩, ?_⟩⟩
 rcases k.2 with ⟨e2, _⟩ | ⟨g', cap', cur, e2, _, hg, _⟩
 · cases e2
 · cases e2
   simp [World.frozen?, hg]
theorem Ft {α : Type} (m : Nat → α) (d : α) (L : List α) : gx m d L 0 = L := by
 apply List.ext_getElem
 · simp [gx]
 · intro j h1 h2
   simp [gx, h2]
section
variable {w W W' : World} {N : Nat} {v : Nat → Value} {bx : List (Nat × Array Value × TypeId)} {e sz n : Nat → Nat} {mk : Nat → Nat → Value} {x : Nat → List Value} {a : Nat → Nat}
theorem Oh {T E : TypeId} {sZ bytes : Nat} {inf : TypeInfo} {z0 : Value} (hT : prog.underlying T = some (.slice E)) (hi : prog.info? E = some inf) (hz0 : inf.zero = some z0) (hz1 : inf.size = sZ) (hz2 : inf.bytes = bytes) (hzs : z0.cells.size = sZ) (hsz : 0 < sZ) (hby : bytes ≤ 48)
 (s : Pb w N v bx) {y : Nat → List Value} (h : Gg w W N v bx y) (i : Nat) (hN : i < N) {m j : Nat} {ys : List Value} {vm : Value} (hx : Gx w W (v i) bx E sZ m (y i) ys vm j) (ty : TypeId) (ad : Addr) (hys : ys.length = 1 * sZ) (hnews : ∀ j u, ys[j]? = some u → W.cell? (ad.add j) = some u) (hone : ∀ u ∈ ys, u.oneCell' = true) (hl : m + j ≤ 4194304) :
 ∃ gv cv w', (Builtin.append_ #[T, T] ty #[vm, .slice (some ad) 1 1]).run prog W = .ok (.slice (some ⟨gv, 0, none⟩) (m + j + 1) cv) w' ∧ Gx w w' (v i) bx E sZ m (y i) ys (.slice (some ⟨gv, 0, none⟩) (m + j + 1) cv) (j + 1) ∧ Gg w w' N v bx y ∧ Ab W w' (fun k => vm.ownBlock = some k) ∧ ∀ c, c < N → c ≠ i → Kr W w' (v c) := by
 obtain ⟨gv, cv, w', hr, ho, hd⟩ := MH hT hi hz0 hz1 hz2 hzs hsz hby W ty vm (m + j) _ ys hx.o ad hys hnews hone hl
 have ho' : w'.ownsRow 0 E sZ (.slice (some ⟨gv, 0, none⟩) (m + j + 1) cv) (m + (j + 1)) (y i ++ (List.replicate (j + 1) ys).flatten) := by
  rw [List.replicate_succ', List.flatten_append, ← List.append_assoc]
  simpa [Nat.add_assoc] using ho
 refine ⟨gv, cv, w', hr, ?_⟩
 rcases hd with ⟨hb, hg⟩ | ⟨rfl, hg⟩
 · have o1 : Ab W w' (fun k => k = gv) := Ab.grown hg fun k q => by cases q; rfl
   have o2 : Ab W w' (fun k => vm.ownBlock = some k) := o1.mono fun k _ q => by rw [q]; exact hb
   rcases hx.rel with q | ⟨b, q, q1, q2⟩
   · have hvi : (v i).ownBlock = some gv := by rw [← q]; exact hb
     have hlt := s.lt i hN gv hvi
     refine ⟨⟨ho', .inl (by rw [hvi]; rfl)⟩, ⟨fun t ht => (o1.block _ (Array.getElem?_eq_some_iff.1 (h.b t ht)).1 ?_).trans (h.b t ht), h.on.trans (o1.mono fun k _ z => ⟨i, hN, by rw [z]; exact hvi⟩), fun c hc => ?_⟩, o2, fun c hc e1 _ _ _ _ _ hr => ?_⟩
     · have := s.bge t ht
       omega
     · by_cases e1 : c = i
       · subst e1
         intro g hg j hj
         rw [hvi] at hg
         cases hg
         have := Lu ho' gv rfl j (by simp; omega)
         rw [this, List.getElem_append_left hj]
       · exact (h.r c hc).only o1 fun k qk z => s.ap c i hc hN e1 k qk (by rw [z]; exact hvi)
     · exact A9 hr o1 fun k qk z => s.ap c i hc hN e1 k qk (by rw [z]; exact hvi)
   · have e0 : b = gv := by rw [q] at hb; cases hb; rfl
     subst e0
     refine ⟨⟨ho', .inr ⟨b, rfl, q1, q2⟩⟩, ⟨fun t ht => (o1.block _ (Array.getElem?_eq_some_iff.1 (h.b t ht)).1 (q2 t ht)).trans (h.b t ht), h.on.andNew o1 fun k hk z => by omega, fun c hc => ?_⟩, o2, fun c hc _ _ _ _ _ _ hr => A9 hr o1 fun k qk z => by have := s.lt c hc k qk; omega⟩
     exact (h.r c hc).only o1 fun k qk z => by have := s.lt c hc k qk; omega
 · have o1 : Ab W w' (fun _ => False) := Ab.grown hg fun k q => by cases q
   have hs := h.on.size
   refine ⟨⟨ho', .inr ⟨W.heap.size, rfl, hs, fun t ht z => ?_⟩⟩, ⟨fun t ht => (o1.block _ (Array.getElem?_eq_some_iff.1 (h.b t ht)).1 fun z => z).trans (h.b t ht), h.on.andNew o1 fun k hk z => z.elim, fun c hc => (h.r c hc).only o1 fun _ _ z => z⟩, o1.mono fun _ _ z => z.elim, fun c _ _ _ _ _ _ _ hr => A9 hr o1 fun _ _ z => z⟩
   have := (Array.getElem?_eq_some_iff.1 (h.b t ht)).1
   omega
theorem Dq {T E : TypeId} {sZ bytes : Nat} {inf : TypeInfo} {z0 : Value} (hT : prog.underlying T = some (.slice E)) (hi : prog.info? E = some inf) (hz0 : inf.zero = some z0) (hz1 : inf.size = sZ) (hz2 : inf.bytes = bytes) (hzs : z0.cells.size = sZ) (hsz : 0 < sZ) (hby : bytes ≤ 48)
 (s : Pb w N v bx) {y : Nat → List Value} (h : Gg w W N v bx y) (i : Nat) (hN : i < N) {m j : Nat} {ys : List Value} {vm : Value} (hx : Gx w W (v i) bx E sZ m (y i) ys vm j) {ops : Array Oper} {rest : List Oper} {o : Oper} {ac : Act} {Q : Exit → Act → World → Prop} (hgd : o.guard = none) (s1 y1 : Operand)
 (ho : o.op = .call { callee := .builtin .append, args := #[s1, y1], argTypes := #[T, T] }) (hs : ac.eval s1 = vm) (ad : Addr) (hy : ac.eval y1 = .slice (some ad) 1 1) (hys : ys.length = 1 * sZ) (hnews : ∀ j u, ys[j]? = some u → W.cell? (ad.add j) = some u) (hone : ∀ u ∈ ys, u.oneCell' = true) (hl : m + j ≤ 4194304)
 (hK : ∀ gv cv w', Hid (Gx w w' (v i) bx E sZ m (y i) ys (.slice (some ⟨gv, 0, none⟩) (m + j + 1) cv) (j + 1) ∧ Gg w w' N v bx y ∧ Ab W w' (fun k => vm.ownBlock = some k) ∧ ∀ c, c < N → c ≠ i → Kr W w' (v c)) → wpList prog ops Q rest (ac.put o.dst (.slice (some ⟨gv, 0, none⟩) (m + j + 1) cv)) w') :
 wpList prog ops Q (o :: rest) ac W := by
 refine wpList_plain hgd fun K hKK => ?_
 obtain ⟨gv, cv, w', hr, h2, h3, h4⟩ := Oh hT hi hz0 hz1 hz2 hzs hsz hby s h i hN hx o.type ad hys hnews hone hl
 unfold Oper.wp execOp
 simp only [ho, resolve, invoke, builtin, Sem.run_bind, Sem.run_pure, Result.andThen_ok, List.map_toArray, List.map_cons, List.map_nil, hs, hy, hr]
 exact hKK _ _ (hK gv cv w' (A0 ⟨h2, h3, h4⟩))
end
theorem MN {α : Type} (a : Nat → α) (i : Nat) (x y : α) : upd (upd a i x) i y = upd a i y := by
 funext r
 unfold upd
 by_cases e : r = i
 · simp [e]
 · simp [e]
theorem DX {α : Type} (a : Nat → α) (i : Nat) (x : α) (h : a i = x) : upd a i x = a := by
 funext r
 unfold upd
 by_cases e : r = i
 · rw [if_pos e, e, h]
 · rw [if_neg e]
theorem Gx.zero' {w W : World} {bx : List (Nat × Array Value × TypeId)} {v u : Value} {e sz n : Nat} {xs ys : List Value} (hv : v = u) (h : W.ownsRow 0 e sz v n xs) : Gx w W v bx e sz n xs ys u 0 := by
 subst hv
 exact Gx.zero h
theorem Jz (W : World) (xs : List Value) (t : TypeId) : ∀ j u, xs[j]? = some u → (W.alloc (.cells xs.toArray t)).cell? ((⟨W.heap.size, 0, none⟩ : Addr).add j) = some u := by
 intro j u hu
 rw [Addr.add_lit, Nat.zero_add]
 exact A1 (World.alloc_heap_new W _) (by simpa using hu)
theorem Gf.puti {w W : World} {N : Nat} {v : Nat → Value} {bx : List (Nat × Array Value × TypeId)} {e sz n : Nat → Nat} {mk : Nat → Nat → Value} {x : Nat → List Value} {a : Nat → Nat} (s : Pb w N v bx) (i c : Nat) (h : Gf w W N v bx e sz n mk x (upd a i c)) (hi : i < N) {g cap m : Nat} (hv : v i = .slice (some ⟨g, 0, none⟩) m cap) (hm : n i = m) (u : Value) (hu : mk i c = u) : Gf w (W.setCell ⟨g, c, none⟩ u) N v bx e sz n mk x (upd a i (c + 1)) := by
 have k := Gf.put s h i hi hv hm u (by rw [M5]; exact hu)
 rwa [M5, MN] at k
section
variable {w W W' : World} {N : Nat} {v : Nat → Value} {bx : List (Nat × Array Value × TypeId)} {e sz n : Nat → Nat} {mk : Nat → Nat → Value} {x : Nat → List Value} {a : Nat → Nat}
end
abbrev Bx := List (Nat × Array Value × TypeId)
section
variable {w W W' : World} {K : Nat} {v : Nat → Value} {bx : Bx} {n : Nat → Nat} {u : Nat → Value} {k c : Nat} {lv : Value}
end
structure Cb (B : Nat) (w : World) (v1 v2 v3 : Value) (S F : List Int) (E : List Aa) : Prop where
 s : w.ownsRow B 3 1 v1 S.length (S.map (Value.int .i64))
 f : w.ownsRow B 3 1 v2 F.length (F.map (Value.int .i64))
 e : w.ownsRow B 50 3 v3 E.length (E.flatMap Ae)
theorem Cb.rd {B : Nat} {w : World} {b1 b2 b3 : Option Addr} {k1 k2 k3 : Nat} {S F : List Int} {E : List Aa} (h : Cb B w (.slice b1 S.length k1) (.slice b2 F.length k2) (.slice b3 E.length k3) S F E) : AP w b1 b2 b3 S F E := ⟨AM h.s, AM h.f, BT h.e⟩
def g2 {α : Type} (p q : α) : Nat → α
 | 0 => p
 | _ => q
end Go.Proofs.YtchoopnjckcohaaGreat
namespace Go.Proofs.YtchoopnjckcohaaGreat
open Tryz
open Go.RowKit Go.Maps Go.Shelf
structure OU where
 n : Int
 m : Int
 s : List Int
 f : List Int
 e : List Aa
 er : Int
def Jd (w : World) (r : OU) (e : Ending) (w' : World) : Prop := ∃ b1 k1 b2 k2 b3 k3, e = .returned (.tuple #[.agg #[.int .i64 r.n, .int .i64 r.m, .slice b1 r.s.length k1, .slice b2 r.f.length k2, .slice b3 r.e.length k3], .int .i64 r.er]) ∧ Hid (AE w.heap.size w' (.slice b1 r.s.length k1) (.slice b2 r.f.length k2) (.slice b3 r.e.length k3) r.s r.f r.e) ∧ Below w.heap.size w w'
def Ga (w : World) (r : OU) (e : Ending) (w' : World) : Prop := ∃ b1 k1 b2 k2 b3 k3, e = .returned (.tuple #[.agg #[.int .i64 r.n, .int .i64 r.m, .slice b1 r.s.length k1, .slice b2 r.f.length k2, .slice b3 r.e.length k3], .int .i64 r.er]) ∧ Hid (Cb w.heap.size w' (.slice b1 r.s.length k1) (.slice b2 r.f.length k2) (.slice b3 r.e.length k3) r.s r.f r.e) ∧ Below w.heap.size w w'
theorem Jd.r {w w' : World} {r : OU} {e : Ending} (h : Jd w r e w') : Ga w r e w' := by
 obtain ⟨b1, k1, b2, k2, b3, k3, he, ho, d⟩ := h
 exact ⟨b1, k1, b2, k2, b3, k3, he, A0 ⟨ho.out.s, ho.out.f, ho.out.e⟩, d⟩
def I4 (er : Int) : OU := ⟨0, 0, [], [], [], er⟩
theorem FD {w w' : World} {er : Int} {e : Ending} (he : e = .returned (.tuple #[.agg #[.int .i64 0, .int .i64 0, .slice none 0 0, .slice none 0 0, .slice none 0 0], .int .i64 er])) (d : Below w.heap.size w w') : Jd w (I4 er) e w' :=
 ⟨none, 0, none, 0, none, 0, he, A0 ⟨⟨rfl, .inl ⟨rfl, rfl⟩⟩, ⟨rfl, .inl ⟨rfl, rfl⟩⟩, ⟨rfl, .inl ⟨rfl, rfl⟩⟩, fun g q => by cases q⟩, d⟩
def CP (n m : Int) (St Fi : List Int) (Ed : List Aa) : OU := if AC n m St Fi Ed = true then ⟨n, m, A5 St, A5 Fi, A7 Ed, 0⟩ else I4 2
theorem C3 (w : World) (n m : Int) (a1 a2 a3 : Option Addr) (c1 c2 c3 : Nat) (St Fi : List Int) (Ed : List Aa) (hA : Hid (AP w a1 a2 a3 St Fi Ed)) (h1 : St.length ≤ 4194304) (h2 : Fi.length ≤ 4194304) (h3 : Ed.length ≤ 4194304) (hc : Ed.length ≤ c3) : Calls prog 66 #[.agg #[.int .i64 n, .int .i64 m, .slice a1 St.length c1, .slice a2 Fi.length c2, .slice a3 Ed.length c3]] w (Ga w (CP n m St Fi Ed)) := by
 unfold CP
 by_cases em : AC n m St Fi Ed = true
 · rw [if_pos em]
   exact (J2 w n m a1 a2 a3 c1 c2 c3 St Fi Ed hA h1 h2 h3 hc em).mono fun e w' ⟨g1, k1, g2, k2, g3, k3, he, ho, d⟩ => ⟨_, k1, _, k2, _, k3, he, A0 ⟨ho.out.s, ho.out.f, ho.out.e⟩, d⟩
 · rw [if_neg em]
   exact (Df w n m a1 a2 a3 c1 c2 c3 St Fi Ed hA h1 h2 h3 (by simpa using em)).mono fun e w' ⟨he, d⟩ => (FD he d).r
end Go.Proofs.YtchoopnjckcohaaGreat
namespace Go.Proofs.YtchoopnjckcohaaGreat
open Tryz
open Go.RowKit Go.Maps Go.Shelf
attribute [local go_sem] Oper.semAt_some
def Gs (m : Int) : Bool := decide (0 ≤ m ∧ m ≤ 128)
def E4 (m x : Int) : Bool := decide (x < 0 ∨ m ≤ x)
theorem KI (w : World) (m : Int) : Calls prog 30 #[.int .i64 m] w fun e w' => e = .returned (.bool (Gs m)) ∧ w' = w := by
 by_cases h0 : 0 ≤ m
 · by_cases h1 : m ≤ 128
   · have e : Gs m = true := decide_eq_true ⟨h0, h1⟩
     rw [e]
     clear e
     go_enter func30, ntmps30
     go_wp2_with fail
     go_ret
     exact ⟨rfl, rfl⟩
   · have e : Gs m = false := decide_eq_false (fun h => h1 h.2)
     rw [e]
     clear e
     go_enter func30, ntmps30
     go_wp2_with fail
     go_ret
     exact ⟨rfl, rfl⟩
 · have e : Gs m = false := decide_eq_false (fun h => h0 h.1)
   rw [e]
   clear e
   have h0' : m < 0 := by omega
   go_enter func30, ntmps30
   go_wp2_with fail
   go_ret
   exact ⟨rfl, rfl⟩
theorem NT (w : World) (b : Nat) (m x : Int) (hb : w.cell? ⟨b, 0, none⟩ = some (.int .i64 m)) : Calls prog 29 #[.int .i64 x, .pointer (some ⟨b, 0, none⟩)] w fun e w' => e = .returned (.bool (E4 m x)) ∧ Below w.heap.size w w' := by
 by_cases h0 : x < 0
 · have e : E4 m x = true := decide_eq_true (.inl h0)
   rw [e]
   clear e
   go_enter func29, ntmps29
   go_wp2_with fail
   go_ret
   exact ⟨rfl, Below.refl _ _⟩
 · by_cases h1 : m ≤ x
   · have e : E4 m x = true := decide_eq_true (.inr h1)
     rw [e]
     clear e
     have h0' : 0 ≤ x := by omega
     go_enter func29, ntmps29
     go_wp2_with fail
     go_ret
     exact ⟨rfl, Below.refl _ _⟩
   · have e : E4 m x = false := decide_eq_false (fun h => h.elim h0 h1)
     rw [e]
     clear e
     have h0' : 0 ≤ x := by omega
     have h1' : x < m := by omega
     go_enter func29, ntmps29
     go_wp2_with fail
     go_ret
     exact ⟨rfl, Below.refl _ _⟩
theorem Nf (w : World) (b gf N q : Nat) (f : Nat → Bool) (hb : w.cell? ⟨b, 0, none⟩ = some (.slice (some ⟨gf, 0, none⟩) N N)) (hM : Bd w gf 4 N (fun c => .bool (f c)) N) (hq : q < N) : Calls prog 74 #[.int .i64 (q : Int), .pointer (some ⟨b, 0, none⟩)] w fun e w' => e = .returned (.bool (f q)) ∧ Below w.heap.size w w' := by
 have q0 : (0 : Int) ≤ (q : Int) := by omega
 have q1 : (q : Int) < (N : Int) := by omega
 have c1 := hM.at q hq
 clear hM
 generalize f q = y at c1
 go_enter func74, ntmps74
 go_wp2_with fail
 go_ret
 exact ⟨rfl, Below.refl _ _⟩
theorem MM (w : World) (b gf N q : Nat) (f : Nat → Bool) (hb : w.cell? ⟨b, 0, none⟩ = some (.slice (some ⟨gf, 0, none⟩) N N)) (hM : Bd w gf 4 N (fun c => .bool (f c)) N) (hq : q < N) : Calls prog 76 #[.int .i64 (q : Int), .pointer (some ⟨b, 0, none⟩)] w fun e w' => e = .returned (.bool (f q)) ∧ Below w.heap.size w w' := by
 have q0 : (0 : Int) ≤ (q : Int) := by omega
 have q1 : (q : Int) < (N : Int) := by omega
 have c1 := hM.at q hq
 clear hM
 generalize f q = y at c1
 go_enter func76, ntmps76
 go_wp2_with fail
 go_ret
 exact ⟨rfl, Below.refl _ _⟩
theorem Ps (w : World) (ao : Option Addr) (c : Nat) (L : List Int) (b : Nat) (m : Int) (hb : Hid (w.cell? ⟨b, 0, none⟩ = some (.int .i64 m))) (hr : Hid (BB w ao L)) (hl : L.length ≤ 4194304) :
 Calls prog 52 #[.slice ao L.length c, .func (.func 29) #[] #[.pointer (some ⟨b, 0, none⟩)]] w fun e w' => ∃ r : Int, e = .returned (.int .i64 r) ∧ decide (0 ≤ r) = L.any (E4 m) ∧ Below w.heap.size w w' := by
 obtain ⟨n, en⟩ : ∃ n, L.length = n := ⟨_, rfl⟩
 rw [en]
 rw [en] at hl
 have HN := A0 en
 clear en
 go_enter func52, ntmps52
 go_wp2_with fail
 go_loopw [8] (fun iv wr => ∃ i : Nat, i ≤ n ∧ iv = .int .i64 (i : Int) ∧ Hid ((∀ x ∈ L.take i, (E4 m) x = false) ∧ Below w.heap.size w wr)) (fun iv _ => n - (intOf iv).toNat)
 case atStart => exact ⟨0, Nat.zero_le _, rfl, A0 ⟨fun x hx => by simp at hx, Below.refl _ _⟩⟩
 case round =>
  obtain ⟨i, hi, rfl, HY⟩ := hrel
  by_cases hlt : i < n
  · have l0 : (i : Int) < (n : Int) := by omega
    have i0 : (0 : Int) ≤ (i : Int) := by omega
    have hil : i < L.length := by have := HN.out; omega
    obtain ⟨g, o, ea, ca⟩ := (hr.out.on HY.out.2) i hil
    subst ea
    have HX := A0 (List.getElem_mem hil)
    have HT := A0 (List.take_succ_eq_append_getElem hil)
    have HG := A0 (show L[i] ∈ L from List.getElem_mem hil)
    obtain ⟨x, hx⟩ : ∃ x, L[i] = x := ⟨_, rfl⟩
    rw [hx] at ca HT HG
    clear hx HX
    have TC : Calls prog 29 #[.int .i64 x, .pointer (some ⟨b, 0, none⟩)] wr fun e w' => e = .returned (.bool ((E4 m) x)) ∧ Below wr.heap.size wr w' := NT wr b m x ((HY.out.2.cell (World.block_lt_of_cell? w _ hb.out)).trans hb.out)
    obtain ⟨y, hy⟩ : ∃ y, (E4 m) x = y := ⟨_, rfl⟩
    rw [hy] at TC
    have HP := A0 hy
    clear hy
    go_wp2_with fail
    refine TC.mono ?_
    rintro e w2 ⟨rfl, d2⟩
    have HD := A0 (HY.out.2.trans (d2.mono HY.out.2.size))
    clear d2 TC
    cases y with
    | true =>
     go_wp2_with fail
     go_ret
     refine ⟨(i : Int), rfl, ?_, HD.out⟩
     rw [decide_eq_true i0, eq_comm, List.any_eq_true]
     exact ⟨x, HG.out, HP.out⟩
    | false =>
     go_wp2_with fail
     go_roundw
     case rel => exact ⟨i + 1, by omega, by go_num, A0 ⟨fun z hz => by
      rw [HT.out] at hz
      rcases List.mem_append.1 hz with hz | hz
      · exact HY.out.1 z hz
      · rw [List.mem_singleton.1 hz]; exact HP.out, HD.out⟩⟩
     case measure => simp [intOf]; omega
  · have l0 : ¬ (i : Int) < (n : Int) := by omega
    have e : L.any (E4 m) = false := by
     have hi2 : i = n := by omega
     have t := HY.out.1
     rw [hi2, List.take_of_length_le (by have := HN.out; omega)] at t
     rw [List.any_eq_false]
     intro x hx hc
     have t2 := t x hx
     rw [show (E4 m) x = true from hc] at t2
     cases t2
    have HE := A0 e
    clear e
    go_wp2_with fail
    go_ret
    exact ⟨-1, rfl, by rw [HE.out]; decide, HY.out.2⟩
theorem NY (w : World) (ao : Option Addr) (c : Nat) (L : List Int) (b : Nat) (m : Int) (hb : Hid (w.cell? ⟨b, 0, none⟩ = some (.int .i64 m))) (hr : Hid (BB w ao L)) (hl : L.length ≤ 4194304) :
 Calls prog 28 #[.slice ao L.length c, .func (.func 29) #[] #[.pointer (some ⟨b, 0, none⟩)]] w fun e w' => e = .returned (.bool (L.any (E4 m))) ∧ Below w.heap.size w w' := by
 have T := Ps w ao c L b m hb hr hl
 obtain ⟨y, hy⟩ : ∃ y, L.any (E4 m) = y := ⟨_, rfl⟩
 rw [hy] at T ⊢
 generalize L.length = n at T
 clear hy
 go_enter func28, ntmps28
 go_wp2_with fail
 refine T.mono ?_
 rintro e w2 ⟨r, rfl, hr2, d2⟩
 have HR := A0 (And.intro hr2 d2)
 clear hr2 d2 T
 go_wp2_with fail
 go_ret
 exact ⟨by rw [← HR.out.1]; rfl, HR.out.2⟩
theorem Ol (w : World) (ao : Option Addr) (c : Nat) (L : List Int) (b gf N : Nat) (f : Nat → Bool) (hb : Hid (w.cell? ⟨b, 0, none⟩ = some (.slice (some ⟨gf, 0, none⟩) N N))) (hM : Hid (Bd w gf 4 N (fun c => .bool (f c)) N)) (hin : Hid (∀ x ∈ L, ∃ q : Nat, q < N ∧ x = (q : Int))) (hr : Hid (BB w ao L)) (hl : L.length ≤ 4194304) :
 Calls prog 52 #[.slice ao L.length c, .func (.func 74) #[] #[.pointer (some ⟨b, 0, none⟩)]] w fun e w' => ∃ r : Int, e = .returned (.int .i64 r) ∧ decide (0 ≤ r) = L.any (fun x => f x.toNat) ∧ Below w.heap.size w w' := by
 obtain ⟨n, en⟩ : ∃ n, L.length = n := ⟨_, rfl⟩
 rw [en]
 rw [en] at hl
 have HN := A0 en
 clear en
 go_enter func52, ntmps52
 go_wp2_with fail
 go_loopw [8] (fun iv wr => ∃ i : Nat, i ≤ n ∧ iv = .int .i64 (i : Int) ∧ Hid ((∀ x ∈ L.take i, (fun x => f x.toNat) x = false) ∧ Below w.heap.size w wr)) (fun iv _ => n - (intOf iv).toNat)
 case atStart => exact ⟨0, Nat.zero_le _, rfl, A0 ⟨fun x hx => by simp at hx, Below.refl _ _⟩⟩
 case round =>
  obtain ⟨i, hi, rfl, HY⟩ := hrel
  by_cases hlt : i < n
  · have l0 : (i : Int) < (n : Int) := by omega
    have i0 : (0 : Int) ≤ (i : Int) := by omega
    have hil : i < L.length := by have := HN.out; omega
    obtain ⟨g, o, ea, ca⟩ := (hr.out.on HY.out.2) i hil
    subst ea
    have HX := A0 (List.getElem_mem hil)
    have HT := A0 (List.take_succ_eq_append_getElem hil)
    have HG := A0 (show L[i] ∈ L from List.getElem_mem hil)
    obtain ⟨x, hx⟩ : ∃ x, L[i] = x := ⟨_, rfl⟩
    rw [hx] at ca HT HG
    clear hx HX
    have TC : Calls prog 74 #[.int .i64 x, .pointer (some ⟨b, 0, none⟩)] wr fun e w' => e = .returned (.bool ((fun x => f x.toNat) x)) ∧ Below wr.heap.size wr w' := (by
     obtain ⟨q, hq, e⟩ := hin.out x HG.out
     have t := Nf wr b gf N q f ((HY.out.2.cell (World.block_lt_of_cell? w _ hb.out)).trans hb.out) (hM.out.below HY.out.2 hM.out.lt) hq
     subst e
     exact t)
    obtain ⟨y, hy⟩ : ∃ y, (fun x => f x.toNat) x = y := ⟨_, rfl⟩
    rw [hy] at TC
    have HP := A0 hy
    clear hy
    go_wp2_with fail
    refine TC.mono ?_
    rintro e w2 ⟨rfl, d2⟩
    have HD := A0 (HY.out.2.trans (d2.mono HY.out.2.size))
    clear d2 TC
    cases y with
    | true =>
     go_wp2_with fail
     go_ret
     refine ⟨(i : Int), rfl, ?_, HD.out⟩
     rw [decide_eq_true i0, eq_comm, List.any_eq_true]
     exact ⟨x, HG.out, HP.out⟩
    | false =>
     go_wp2_with fail
     go_roundw
     case rel => exact ⟨i + 1, by omega, by go_num, A0 ⟨fun z hz => by
      rw [HT.out] at hz
      rcases List.mem_append.1 hz with hz | hz
      · exact HY.out.1 z hz
      · rw [List.mem_singleton.1 hz]; exact HP.out, HD.out⟩⟩
     case measure => simp [intOf]; omega
  · have l0 : ¬ (i : Int) < (n : Int) := by omega
    have e : L.any (fun x => f x.toNat) = false := by
     have hi2 : i = n := by omega
     have t := HY.out.1
     rw [hi2, List.take_of_length_le (by have := HN.out; omega)] at t
     rw [List.any_eq_false]
     intro x hx hc
     have t2 := t x hx
     rw [show (fun x => f x.toNat) x = true from hc] at t2
     cases t2
    have HE := A0 e
    clear e
    go_wp2_with fail
    go_ret
    exact ⟨-1, rfl, by rw [HE.out]; decide, HY.out.2⟩
theorem Na (w : World) (ao : Option Addr) (c : Nat) (L : List Int) (b gf N : Nat) (f : Nat → Bool) (hb : Hid (w.cell? ⟨b, 0, none⟩ = some (.slice (some ⟨gf, 0, none⟩) N N))) (hM : Hid (Bd w gf 4 N (fun c => .bool (f c)) N)) (hin : Hid (∀ x ∈ L, ∃ q : Nat, q < N ∧ x = (q : Int))) (hr : Hid (BB w ao L)) (hl : L.length ≤ 4194304) :
 Calls prog 28 #[.slice ao L.length c, .func (.func 74) #[] #[.pointer (some ⟨b, 0, none⟩)]] w fun e w' => e = .returned (.bool (L.any (fun x => f x.toNat))) ∧ Below w.heap.size w w' := by
 have T := Ol w ao c L b gf N f hb hM hin hr hl
 obtain ⟨y, hy⟩ : ∃ y, L.any (fun x => f x.toNat) = y := ⟨_, rfl⟩
 rw [hy] at T ⊢
 generalize L.length = n at T
 clear hy
 go_enter func28, ntmps28
 go_wp2_with fail
 refine T.mono ?_
 rintro e w2 ⟨r, rfl, hr2, d2⟩
 have HR := A0 (And.intro hr2 d2)
 clear hr2 d2 T
 go_wp2_with fail
 go_ret
 exact ⟨by rw [← HR.out.1]; rfl, HR.out.2⟩
theorem OM (w : World) (ao : Option Addr) (c : Nat) (L : List Int) (b gf N : Nat) (f : Nat → Bool) (hb : Hid (w.cell? ⟨b, 0, none⟩ = some (.slice (some ⟨gf, 0, none⟩) N N))) (hM : Hid (Bd w gf 4 N (fun c => .bool (f c)) N)) (hin : Hid (∀ x ∈ L, ∃ q : Nat, q < N ∧ x = (q : Int))) (hr : Hid (BB w ao L)) (hl : L.length ≤ 4194304) :
 Calls prog 52 #[.slice ao L.length c, .func (.func 76) #[] #[.pointer (some ⟨b, 0, none⟩)]] w fun e w' => ∃ r : Int, e = .returned (.int .i64 r) ∧ decide (0 ≤ r) = L.any (fun x => f x.toNat) ∧ Below w.heap.size w w' := by
 obtain ⟨n, en⟩ : ∃ n, L.length = n := ⟨_, rfl⟩
 rw [en]
 rw [en] at hl
 have HN := A0 en
 clear en
 go_enter func52, ntmps52
 go_wp2_with fail
 go_loopw [8] (fun iv wr => ∃ i : Nat, i ≤ n ∧ iv = .int .i64 (i : Int) ∧ Hid ((∀ x ∈ L.take i, (fun x => f x.toNat) x = false) ∧ Below w.heap.size w wr)) (fun iv _ => n - (intOf iv).toNat)
 case atStart => exact ⟨0, Nat.zero_le _, rfl, A0 ⟨fun x hx => by simp at hx, Below.refl _ _⟩⟩
 case round =>
  obtain ⟨i, hi, rfl, HY⟩ := hrel
  by_cases hlt : i < n
  · have l0 : (i : Int) < (n : Int) := by omega
    have i0 : (0 : Int) ≤ (i : Int) := by omega
    have hil : i < L.length := by have := HN.out; omega
    obtain ⟨g, o, ea, ca⟩ := (hr.out.on HY.out.2) i hil
    subst ea
    have HX := A0 (List.getElem_mem hil)
    have HT := A0 (List.take_succ_eq_append_getElem hil)
    have HG := A0 (show L[i] ∈ L from List.getElem_mem hil)
    obtain ⟨x, hx⟩ : ∃ x, L[i] = x := ⟨_, rfl⟩
    rw [hx] at ca HT HG
    clear hx HX
    have TC : Calls prog 76 #[.int .i64 x, .pointer (some ⟨b, 0, none⟩)] wr fun e w' => e = .returned (.bool ((fun x => f x.toNat) x)) ∧ Below wr.heap.size wr w' := (by
     obtain ⟨q, hq, e⟩ := hin.out x HG.out
     have t := MM wr b gf N q f ((HY.out.2.cell (World.block_lt_of_cell? w _ hb.out)).trans hb.out) (hM.out.below HY.out.2 hM.out.lt) hq
     subst e
     exact t)
    obtain ⟨y, hy⟩ : ∃ y, (fun x => f x.toNat) x = y := ⟨_, rfl⟩
    rw [hy] at TC
    have HP := A0 hy
    clear hy
    go_wp2_with fail
    refine TC.mono ?_
    rintro e w2 ⟨rfl, d2⟩
    have HD := A0 (HY.out.2.trans (d2.mono HY.out.2.size))
    clear d2 TC
    cases y with
    | true =>
     go_wp2_with fail
     go_ret
     refine ⟨(i : Int), rfl, ?_, HD.out⟩
     rw [decide_eq_true i0, eq_comm, List.any_eq_true]
     exact ⟨x, HG.out, HP.out⟩
    | false =>
     go_wp2_with fail
     go_roundw
     case rel => exact ⟨i + 1, by omega, by go_num, A0 ⟨fun z hz => by
      rw [HT.out] at hz
      rcases List.mem_append.1 hz with hz | hz
      · exact HY.out.1 z hz
      · rw [List.mem_singleton.1 hz]; exact HP.out, HD.out⟩⟩
     case measure => simp [intOf]; omega
  · have l0 : ¬ (i : Int) < (n : Int) := by omega
    have e : L.any (fun x => f x.toNat) = false := by
     have hi2 : i = n := by omega
     have t := HY.out.1
     rw [hi2, List.take_of_length_le (by have := HN.out; omega)] at t
     rw [List.any_eq_false]
     intro x hx hc
     have t2 := t x hx
     rw [show (fun x => f x.toNat) x = true from hc] at t2
     cases t2
    have HE := A0 e
    clear e
    go_wp2_with fail
    go_ret
    exact ⟨-1, rfl, by rw [HE.out]; decide, HY.out.2⟩
theorem N9 (w : World) (ao : Option Addr) (c : Nat) (L : List Int) (b gf N : Nat) (f : Nat → Bool) (hb : Hid (w.cell? ⟨b, 0, none⟩ = some (.slice (some ⟨gf, 0, none⟩) N N))) (hM : Hid (Bd w gf 4 N (fun c => .bool (f c)) N)) (hin : Hid (∀ x ∈ L, ∃ q : Nat, q < N ∧ x = (q : Int))) (hr : Hid (BB w ao L)) (hl : L.length ≤ 4194304) :
 Calls prog 28 #[.slice ao L.length c, .func (.func 76) #[] #[.pointer (some ⟨b, 0, none⟩)]] w fun e w' => e = .returned (.bool (L.any (fun x => f x.toNat))) ∧ Below w.heap.size w w' := by
 have T := OM w ao c L b gf N f hb hM hin hr hl
 obtain ⟨y, hy⟩ : ∃ y, L.any (fun x => f x.toNat) = y := ⟨_, rfl⟩
 rw [hy] at T ⊢
 generalize L.length = n at T
 clear hy
 go_enter func28, ntmps28
 go_wp2_with fail
 refine T.mono ?_
 rintro e w2 ⟨r, rfl, hr2, d2⟩
 have HR := A0 (And.intro hr2 d2)
 clear hr2 d2 T
 go_wp2_with fail
 go_ret
 exact ⟨by rw [← HR.out.1]; rfl, HR.out.2⟩
def Ay (Fi : List Int) (q : Nat) : Bool := decide ((q : Int) ∈ Fi)
theorem KK {Fi : List Int} {i f : Nat} (hi : i < Fi.length) (ef : Fi[i] = (f : Int)) (c : Nat) : Ay (Fi.take (i + 1)) c = if c = f then true else Ay (Fi.take i) c := by
 unfold Ay
 rw [List.take_succ_eq_append_getElem hi, ef]
 by_cases e : c = f
 · subst e
   rw [if_pos rfl]
   exact decide_eq_true (by simp)
 · rw [if_neg e]
   refine decide_eq_decide.2 ?_
   rw [List.mem_append, List.mem_singleton]
   constructor
   · rintro (h | h)
     · exact h
     · exact absurd (Int.ofNat.inj h) e
   · exact .inl
theorem BL (w : World) (N : Nat) (mv : Int) (a1 a2 a3 : Option Addr) (c1 c2 c3 n1 n3 : Nat) (Fi : List Int) (hf : Hid (BB w a2 Fi)) (hin : Hid (∀ x ∈ Fi, ∃ q : Nat, q < N ∧ x = (q : Int))) (hl : Fi.length ≤ 4194304) (hN : N ≤ 8192) :
 Calls prog 38 #[.agg #[.int .i64 (N : Int), .int .i64 mv, .slice a1 n1 c1, .slice a2 Fi.length c2, .slice a3 n3 c3]] w fun e w' => ∃ gf, e = .returned (.slice (some ⟨gf, 0, none⟩) N N) ∧ Hid (Bd w' gf 4 N (fun c => .bool (Ay Fi c)) N ∧ w.heap.size ≤ gf) ∧ Below w.heap.size w w' := by
 obtain ⟨n2, e2⟩ : ∃ n, Fi.length = n := ⟨_, rfl⟩
 rw [e2]
 rw [e2] at hl
 have HE := A0 e2
 clear e2
 obtain ⟨W0, hW0⟩ : ∃ W0, w.alloc (.cells #[.int .i64 (N : Int), .int .i64 mv, .slice a1 n1 c1, .slice a2 n2 c2, .slice a3 n3 c3] 25) = W0 := ⟨_, rfl⟩
 have HB : Hid (W0.heap[w.heap.size]? = some (.cells #[.int .i64 (N : Int), .int .i64 mv, .slice a1 n1 c1, .slice a2 n2 c2, .slice a3 n3 c3] 25 (0, 0)) ∧ Below w.heap.size w W0) := A0 (by rw [← hW0]; exact ⟨World.alloc_heap_new _ _, (Below.refl _ _).alloc (Nat.le_refl _) _⟩)
 have q0 : W0.cell? ⟨w.heap.size, 0, none⟩ = some (.int .i64 (N : Int)) := A1 HB.out.1 rfl
 obtain ⟨i4, hi4, hz40, hz41, hz42⟩ := AA Pj
 go_enter func38, ntmps38
 go_upto_region 2 with (at_make; refine wpList_make_full _ rfl _ _ 76 rfl W0.heap.size 4 i4 (.bool false) 1 underlying76 hi4 hz40 hz41 _ _ _ _ N rfl rfl (by go_num) (by go_num) (by rw [hz42]; omega) (by unfold maxLen; omega) (Nat.le_refl _) ?_; intro w6 ho hg)
 have D6 : Below W0.heap.size W0 w6 := (Below.refl _ _).grown hg (Nat.le_refl _) (by intro k hk; cases hk)
 have M6 : Bd w6 W0.heap.size 4 N (fun c => .bool (Ay (Fi.take 0) c)) N := by
  have t := ho
  rw [Nat.mul_one] at t
  exact (Kt t).2.congr (fun c _ => by simp [Ay])
 have H6 := A0 (And.intro M6 D6)
 have B1 := A3 HB.out.1 D6
 have q3 : w6.cell? ⟨w.heap.size, 3, none⟩ = some (.slice a2 n2 c2) := A1 B1 rfl
 clear ho hg D6 M6 q0 hW0 B1
 go_wp2_with fail
 go_loopw [12] (fun iv wr => ∃ i : Nat, i ≤ n2 ∧ iv = .int .i64 (i : Int) ∧ Hid (Bd wr W0.heap.size 4 N (fun c => .bool (Ay (Fi.take i) c)) N ∧ Below W0.heap.size W0 wr)) (fun iv _ => n2 - (intOf iv).toNat)
 case atStart => exact ⟨0, Nat.zero_le _, rfl, H6⟩
 case round =>
  obtain ⟨i, hi, rfl, HY⟩ := hrel
  clear H6
  by_cases hlt : i < n2
  · have l0 : (i : Int) < (n2 : Int) := by omega
    have i0 : (0 : Int) ≤ (i : Int) := by omega
    have hil : i < Fi.length := by have := HE.out; omega
    obtain ⟨g, o, ea, ca⟩ := (hf.out.on (HB.out.2.trans (HY.out.2.mono HB.out.2.size))) i hil
    subst ea
    obtain ⟨f, hf2, ef⟩ := hin.out _ (List.getElem_mem hil)
    have HN := A0 (KK hil ef)
    rw [ef] at ca
    have f0 : (0 : Int) ≤ (f : Int) := by omega
    have f1 : (f : Int) < (N : Int) := by omega
    have cu := HY.out.1.at f hf2
    have zu : wr.frozen? ⟨W0.heap.size, f, none⟩ = false := HY.out.1.fz f
    have J : Hid (Bd (wr.setCell ⟨W0.heap.size, f, none⟩ (.bool true)) W0.heap.size 4 N (fun c => .bool (Ay (Fi.take (i + 1)) c)) N ∧ Below W0.heap.size W0 (wr.setCell ⟨W0.heap.size, f, none⟩ (.bool true))) := A0 ⟨(HY.out.1.upd f (.bool true)).congr (fun c _ => by rw [HN.out c]; by_cases e : c = f <;> simp [e]), HY.out.2.setCell (Nat.le_refl _) _⟩
    clear HY ef
    go_wp2_with fail
    go_roundw
    case rel => exact ⟨i + 1, by omega, by go_num, J⟩
    case measure => simp [intOf]; omega
  · have l0 : ¬ (i : Int) < (n2 : Int) := by omega
    have J : Hid (Bd wr W0.heap.size 4 N (fun c => .bool (Ay Fi c)) N ∧ Below w.heap.size w wr) := A0 (by
     have t := HY.out.1
     rw [List.take_of_length_le (by have := HE.out; omega)] at t
     exact ⟨t, HB.out.2.trans (HY.out.2.mono HB.out.2.size)⟩)
    have hs := HB.out.2.size
    clear HY
    go_wp2_with fail
    go_ret
    exact ⟨_, rfl, A0 ⟨J.out.1, hs⟩, J.out.2⟩
def FZ (St Fi : List Int) : Bool := St.any fun x => Ay Fi x.toNat
theorem Di (w : World) (N : Nat) (mv : Int) (a1 a2 a3 : Option Addr) (c1 c2 c3 n3 : Nat) (St Fi : List Int) (hs : Hid (BB w a1 St)) (hf : Hid (BB w a2 Fi)) (hins : Hid (∀ x ∈ St, ∃ q : Nat, q < N ∧ x = (q : Int))) (hinf : Hid (∀ x ∈ Fi, ∃ q : Nat, q < N ∧ x = (q : Int))) (h1 : St.length ≤ 4194304) (hl : Fi.length ≤ 4194304) (hN : N ≤ 8192) :
 Calls prog 55 #[.agg #[.int .i64 (N : Int), .int .i64 mv, .slice a1 St.length c1, .slice a2 Fi.length c2, .slice a3 n3 c3]] w fun e w' => e = .returned (.bool (FZ St Fi)) ∧ Below w.heap.size w w' := by
 obtain ⟨W0, hW0⟩ : ∃ W0, w.alloc (.cells #[.int .i64 (N : Int), .int .i64 mv, .slice a1 St.length c1, .slice a2 Fi.length c2, .slice a3 n3 c3] 25) = W0 := ⟨_, rfl⟩
 have HB : Hid (W0.heap[w.heap.size]? = some (.cells #[.int .i64 (N : Int), .int .i64 mv, .slice a1 St.length c1, .slice a2 Fi.length c2, .slice a3 n3 c3] 25 (0, 0)) ∧ Below w.heap.size w W0) := A0 (by rw [← hW0]; exact ⟨World.alloc_heap_new _ _, (Below.refl _ _).alloc (Nat.le_refl _) _⟩)
 obtain ⟨y, hy⟩ : ∃ y, FZ St Fi = y := ⟨_, rfl⟩
 rw [hy]
 have HYY := A0 hy
 clear hy
 have T93 := BL W0 N mv a1 a2 a3 c1 c2 c3 St.length n3 Fi (A0 (hf.out.on HB.out.2)) hinf hl hN
 obtain ⟨q0, q1, q2, q3, q4⟩ := An HB.out.1 rfl rfl rfl rfl rfl
 go_enter func55, ntmps55
 go_upto_region 2 with (go_at_call 38; refine T93.mono ?_; rintro e w1 ⟨gf, rfl, HM, d1⟩)
 obtain ⟨b, hb⟩ : ∃ k, w1.heap.size = k := ⟨_, rfl⟩
 rw [hb]
 obtain ⟨w2, hw2⟩ : ∃ W, w1.alloc (.cells #[.slice (some ⟨gf, 0, none⟩) N N] 76) = W := ⟨_, rfl⟩
 rw [hw2]
 have H2 : Hid (w2.cell? ⟨b, 0, none⟩ = some (.slice (some ⟨gf, 0, none⟩) N N) ∧ Bd w2 gf 4 N (fun c => .bool (Ay Fi c)) N ∧ w2.heap[w.heap.size]? = some (.cells #[.int .i64 (N : Int), .int .i64 mv, .slice a1 St.length c1, .slice a2 Fi.length c2, .slice a3 n3 c3] 25 (0, 0)) ∧ Below w.heap.size w w2) := A0 (by
  have d : Below w1.heap.size w1 w2 := by rw [← hw2]; exact (Below.refl _ _).alloc (Nat.le_refl _) _
  have dd := d1.trans (d.mono d1.size)
  exact ⟨by rw [← hw2, ← hb]; exact A1 (World.alloc_heap_new _ _) rfl, HM.out.1.below d HM.out.1.lt, A3 HB.out.1 dd, HB.out.2.trans (dd.mono HB.out.2.size)⟩)
 clear T93 d1 HM hw2 hb q0 q1 q2 q3 q4 hW0
 have T52 := N9 w2 a1 c1 St b gf N (Ay Fi) (A0 H2.out.1) (A0 H2.out.2.1) hins (A0 (hs.out.on H2.out.2.2.2)) h1
 have q2 : w2.cell? ⟨w.heap.size, 2, none⟩ = some (.slice a1 St.length c1) := A1 H2.out.2.2.1 rfl
 rw [show (St.any fun x => Ay Fi x.toNat) = FZ St Fi from rfl, HYY.out] at T52
 go_wp2_with fail
 refine T52.mono ?_
 rintro e w3 ⟨rfl, d3⟩
 have HZ := A0 (H2.out.2.2.2.trans (d3.mono H2.out.2.2.2.size))
 clear d3 T52 q2
 go_wp2_with fail
 go_ret
 exact ⟨rfl, HZ.out⟩
def kE (m : Nat) (L : List Aa) : List Aa := L.map fun e => (e.1 * (m : Int) + e.2.1, 0, e.2.2)
def B5 (L : List Aa) : List Int := L.map fun e => e.2.2
theorem FE (m : Nat) (L : List Aa) : (kE m L).length = L.length := by simp [kE]
theorem P2 (w : World) (b : Nat) (v0 v1 v2 u0 u1 u2 : Value) (t : TypeId) (h : w.heap[b]? = some (.cells #[v0, v1, v2] t (0, 0))) : (((w.setCell ⟨b, 0, none⟩ u0).setCell ⟨b, 1, none⟩ u1).setCell ⟨b, 2, none⟩ u2).heap[b]? = some (.cells #[u0, u1, u2] t (0, 0)) :=
 heap_setCell_same _ _ 2 _ t _ (heap_setCell_same _ _ 1 _ t _ (heap_setCell_same _ _ 0 _ t _ h))
theorem Nv {W1 w5 : World} {B i cE d5 : Nat} {aE z5 : Option Addr} {Ed : List Aa} {p s x3 : Int} (hT : Ed.take (i + 1) = Ed.take i ++ [(p, s, x3)]) (ho : w5.ownsRow B 3 1 (.slice z5 (i + 1) d5) (i + 1) ((B5 (Ed.take i)).map (Value.int .i64) ++ [.int .i64 x3])) (hg : (W1.alloc (.cells #[.int .i64 x3] 3)).grownBy w5 (Value.slice aE i cE).ownBlock) : w5.ownsRow B 3 1 (.slice z5 (i + 1) d5) (i + 1) ((B5 (Ed.take (i + 1))).map (Value.int .i64)) ∧ Ab W1 w5 (fun k => (Value.slice aE i cE).ownBlock = some k) := by
 refine ⟨?_, ?_⟩
 · rw [hT]
   unfold B5 at ho ⊢
   rw [List.map_append, List.map_append]
   exact ho
 · exact ⟨hg.os, hg.tape, hg.output, by have := hg.size; rw [World.size_alloc] at this; omega, fun x hx hn => (hg.block x (by rw [World.size_alloc]; omega) (fun e => hn e.symm)).trans (Below.heap_alloc _ _ _ hx)⟩
theorem O0 {W1 w5 : World} {B b n : Nat} {v : Value} {xs : List Value} {o : Obj} (hR : W1.ownsRow B 3 1 v n xs) (o1 : Ab W1 w5 (fun k => v.ownBlock = some k)) (hb : W1.heap[b]? = some o) (hlt : b < B) : w5.heap[b]? = some o :=
 (o1.block _ (Array.getElem?_eq_some_iff.1 hb).1 (fun h => by have := (hR.lt _ h).1; omega)).trans hb
theorem BO {W : World} {B k n sz : Nat} {e t : TypeId} {v : Value} {xs : List Value} {cs : Array Value} {fr : Nat × Nat} (h : W.ownsRow B e sz v n xs) (hb : W.heap[k]? = some (.cells cs t fr)) (hne : t ≠ e) (hk : v.ownBlock = some k) : False := by
 rcases h.2 with ⟨hv, _⟩ | ⟨g', cap', cur', hv, _, hgc, _⟩
 · subst hv
   cases hk
 · subst hv
   have e2 : g' = k := by simpa [Value.ownBlock] using hk
   subst e2
   rw [hgc] at hb
   cases hb
   exact hne rfl
structure Fs (B : Nat) (w : World) (m R : Nat) (Ed : List Aa) (aE : Option Addr) (n cE g : Nat) : Prop where
 ow : w.ownsRow B 3 1 (.slice aE n cE) n ((B5 Ed).map (Value.int .i64))
 fi : Bd w g 3 (R + 1) (fun c => .int .i64 ((AN (kE m Ed) c : Nat) : Int)) (R + 1)
 ge : B ≤ g
theorem BW (w : World) (N m : Nat) (a1 a2 a3 : Option Addr) (l1 l2 c1 c2 c3 : Nat) (Ed : List Aa) (hN : N ≤ 4096) (hm : m ≤ 128) (hE : Hid (Cl w a3 Ed)) (hl : Ed.length ≤ 4194304) (hF : Hid (∀ e ∈ Ed, (0 ≤ e.1 ∧ e.1 < (N : Int)) ∧ 0 ≤ e.2.1 ∧ e.2.1 < (m : Int))) :
 Calls prog 34 #[.agg #[.int .i64 (N : Int), .int .i64 (m : Int), .slice a1 l1 c1, .slice a2 l2 c2, .slice a3 Ed.length c3]] w fun e w' => ∃ aE cE g, e = .returned (.agg #[.int .i64 (m : Int), .slice aE Ed.length cE, .slice (some ⟨g, 0, none⟩) (N * m + 1) (N * m + 1)]) ∧ Hid (Fs w.heap.size w' m (N * m) Ed aE Ed.length cE g) ∧ Below w.heap.size w w' := by
 obtain ⟨n3, en⟩ : ∃ n, Ed.length = n := ⟨_, rfl⟩
 obtain ⟨R, hR⟩ : ∃ R, N * m = R := ⟨_, rfl⟩
 rw [en, hR]
 rw [en] at hl
 have hRl : R ≤ 524288 := by rw [← hR]; exact Nat.le_trans (Nat.mul_le_mul hN hm) (by decide)
 have HN3 := A0 en
 have HRR := A0 hR
 obtain ⟨i9, hi9, hz90, hz91, hz92⟩ := AA Et
 obtain ⟨M, hM⟩ : ∃ M, M = madeCells (Value.int .i64 0).cells ((((R : Nat) : Int) + 1).toNat * i9.size) := ⟨_, rfl⟩
 have hmk : ∀ W : World, (Instr.makeSlice 22 (.int .i64 ((R : Int) + 1)) (.int .i64 ((R : Int) + 1))).run prog W = .ok (.slice (some ⟨W.heap.size, 0, none⟩) (R + 1) (R + 1)) (W.alloc (.cells M 3)) := fun W => by
  have h := run_make (P := prog) W 22 3 i9 (.int .i64 0) underlying22 hi9 hz90 .i64 .i64 ((R : Int) + 1) ((R : Int) + 1) (by omega) (by omega) (by rw [hz92]; omega) (by omega)
  rw [← hM] at h
  rw [h]
  have : ((R : Int) + 1).toNat = R + 1 := by omega
  rw [this]
 have hwr : IntKind.i64.wrap ((R : Int) + 1) = (R : Int) + 1 := by rw [IntKind.wrap_i64]; omega
 have hmk : ∀ W : World, (Instr.makeSlice 22 (.int .i64 (IntKind.i64.wrap ((R : Int) + 1))) (.int .i64 (IntKind.i64.wrap ((R : Int) + 1)))).run prog W = .ok (.slice (some ⟨W.heap.size, 0, none⟩) (R + 1) (R + 1)) (W.alloc (.cells M 3)) := by rw [hwr]; exact hmk
 clear hwr
 have hmul : IntKind.i64.wrap ((N : Int) * (m : Int)) = (R : Int) := by
  have : (N : Int) * (m : Int) = (R : Int) := by rw [← hR]; simp
  rw [this, IntKind.wrap_i64]
  omega
 have HM := A0 (And.intro hM hz91)
 have HI := A0 (And.intro hi9 (And.intro hz90 (And.intro hz91 hz92)))
 clear hM hi9 hz90 hz91 hz92 en hR
 obtain ⟨W0, hW0⟩ : ∃ W0, (w.alloc (.cells #[.int .i64 (N : Int), .int .i64 (m : Int), .slice a1 l1 c1, .slice a2 l2 c2, .slice a3 n3 c3] 25)).alloc (.cells #[.int .i64 0, .slice none 0 0, .slice none 0 0] 67) = W0 := ⟨_, rfl⟩
 have HD := A0 (MQ w #[.int .i64 (N : Int), .int .i64 (m : Int), .slice a1 l1 c1, .slice a2 l2 c2, .slice a3 n3 c3] #[.int .i64 0, .slice none 0 0, .slice none 0 0] 25 67)
 rw [hW0] at HD
 have B0 := HD.out.2.1
 obtain ⟨k0, k1⟩ := IV B0 rfl rfl
 clear B0
 go_enter func34, ntmps34
 go_upto_region 1 with fail
 go_cut [3] from 3 to 16 (fun p3 W => ∃ b g, p3 = .pointer (some ⟨b, 0, none⟩) ∧ Hid (W.heap[b]? = some (.cells #[.int .i64 (m : Int), .slice none 0 0, .slice (some ⟨g, 0, none⟩) (R + 1) (R + 1)] 67 (0, 0)) ∧ W.heap[g]? = some (.cells M 3 (0, 0)) ∧ b ≠ g ∧ W0.heap.size ≤ b ∧ W0.heap.size ≤ g ∧ Below W0.heap.size W0 W))
 case first =>
  go_region_held3 (fun W2 => W2.cell? ⟨w.heap.size, 0, none⟩ = some (.int .i64 (N : Int)) ∧ W2.cell? ⟨w.heap.size, 1, none⟩ = some (.int .i64 (m : Int)))
   (first | go_keep | assumption)
   (fail)
  · go_wp2_with fail
    go_meet
    refine ⟨W0.heap.size + 1, W0.heap.size, rfl, A0 ?_⟩
    have q := MQ W0 M #[.int .i64 (m : Int), .slice none 0 0, .slice (some ⟨W0.heap.size, 0, none⟩) (R + 1) (R + 1)] 3 67
    exact ⟨q.2.2.1, q.2.1, by omega, by omega, by omega, q.1.drew⟩
  · go_wp2_with fail
    go_meet
    refine ⟨W0.heap.size, W0.heap.size + 1, rfl, A0 ?_⟩
    have q := MQ W0 #[.int .i64 (m : Int), .slice none 0 0, .slice (some ⟨W0.heap.size + 1, 0, none⟩) (R + 1) (R + 1)] M 67 3
    exact ⟨q.2.1, q.2.2.1, by omega, by omega, by omega, q.1.drew⟩
 case rest =>
  obtain ⟨b, g, rfl, HX⟩ := hcut
  rename World => wx
  clear hmk k0 k1 hmul
  have y4 : wx.cell? ⟨w.heap.size, 4, none⟩ = some (.slice a3 n3 c3) := A1 (A3 HD.out.2.1 HX.out.2.2.2.2.2) rfl
  have m0 : Bd wx g 3 (R + 1) (fun c => .int .i64 ((BV (kE m (Ed.take 0)) c : Nat) : Int)) (R + 1) := by
   refine ⟨M, HX.out.2.1, by rw [HM.out.1, HM.out.2, size_madeCells]; omega, fun j hj => ?_⟩
   rw [HM.out.1, HM.out.2]
   rw [← Array.getElem?_toList, show (Value.int .i64 0).cells = #[Value.int .i64 0] from rfl, toList_madeCells_one, List.getElem?_replicate, if_pos (by omega)]
   simp [BV, kE]
  have HP : Hid (b ≠ g ∧ W0.heap.size ≤ b ∧ W0.heap.size ≤ g ∧ b < wx.heap.size ∧ g < wx.heap.size ∧ W0.heap.size = w.heap.size + 2) := A0 ⟨HX.out.2.2.1, HX.out.2.2.2.1, HX.out.2.2.2.2.1, (Array.getElem?_eq_some_iff.1 HX.out.1).1, (Array.getElem?_eq_some_iff.1 HX.out.2.1).1, HD.out.2.2.2⟩
  have H0 : Hid (wx.ownsRow wx.heap.size 3 1 (.slice none 0 0) 0 ((B5 (Ed.take 0)).map (Value.int .i64)) ∧ Bd wx g 3 (R + 1) (fun c => .int .i64 ((BV (kE m (Ed.take 0)) c : Nat) : Int)) (R + 1) ∧ wx.heap[b]? = some (.cells #[.int .i64 (m : Int), .slice none 0 0, .slice (some ⟨g, 0, none⟩) (R + 1) (R + 1)] 67 (0, 0)) ∧ Below W0.heap.size W0 wx ∧ wx.heap.size ≤ wx.heap.size) := A0 ⟨World.ownsRow_nil _ _ _ _, m0, HX.out.1, HX.out.2.2.2.2.2, Nat.le_refl _⟩
  clear m0 HX
  go_wp2_with fail
  clear y4
  go_loopw [20] (fun iv wr => ∃ i : Nat, i ≤ n3 ∧ iv = .int .i64 (i : Int) ∧ ∃ aE cE, Hid (wr.ownsRow wx.heap.size 3 1 (.slice aE i cE) i ((B5 (Ed.take i)).map (Value.int .i64)) ∧ Bd wr g 3 (R + 1) (fun c => .int .i64 ((BV (kE m (Ed.take i)) c : Nat) : Int)) (R + 1) ∧ wr.heap[b]? = some (.cells #[.int .i64 (m : Int), .slice aE i cE, .slice (some ⟨g, 0, none⟩) (R + 1) (R + 1)] 67 (0, 0)) ∧ Below W0.heap.size W0 wr ∧ wx.heap.size ≤ wr.heap.size)) (fun iv _ => n3 - (intOf iv).toNat)
  case atStart => exact ⟨0, Nat.zero_le _, rfl, none, 0, H0⟩
  case round =>
   obtain ⟨i, hi, rfl, aE, cE, HY⟩ := hrel
   clear H0
   by_cases hil : i < n3
   · have i0 : (0 : Int) ≤ (i : Int) := by omega
     have i1 : (i : Int) < (n3 : Int) := by omega
     have hjl : i < Ed.length := by have := HN3.out; omega
     obtain ⟨ge, o, ea, q1, q2, q3⟩ := (hE.out.on (HD.out.1.trans (HY.out.2.2.2.1.mono HD.out.1.size))) i hjl
     subst ea
     have HTk := A0 (List.take_succ_eq_append_getElem hjl)
     have HN := A0 (hF.out Ed[i] (List.getElem_mem hjl))
     obtain ⟨x, hx⟩ : ∃ x, Ed[i] = x := ⟨_, rfl⟩
     rw [hx] at q1 q2 q3 HTk HN
     clear hx
     obtain ⟨x1, x2, x3⟩ := x
     obtain ⟨p, hp⟩ := Int.eq_ofNat_of_zero_le HN.out.1.1
     obtain ⟨s, hs⟩ := Int.eq_ofNat_of_zero_le HN.out.2.1
     have hp : x1 = (p : Int) := hp
     have hs : x2 = (s : Int) := hs
     subst hp hs
     have hp1 : p < N := by have := HN.out.1.2; simp only at this; omega
     have hs1 : s < m := by have := HN.out.2.2; simp only at this; omega
     obtain ⟨k, hk⟩ : ∃ k, p * m + s = k := ⟨_, rfl⟩
     have hkR : k < R := by
      rw [← hk, ← HRR.out]
      have : (p + 1) * m ≤ N * m := Nat.mul_le_mul_right _ hp1
      rw [Nat.add_mul, Nat.one_mul] at this
      omega
     have epm : (p : Int) * (m : Int) = ((p * m : Nat) : Int) := by simp
     have e1 : IntKind.i64.wrap ((p : Int) * (m : Int)) = (p : Int) * (m : Int) := by rw [epm, IntKind.wrap_i64]; omega
     have e2 : IntKind.i64.wrap ((p : Int) * (m : Int) + (s : Int)) = (k : Int) := by rw [epm, IntKind.wrap_i64]; omega
     clear epm
     have e3 : IntKind.i64.wrap ((k : Int) + 1) = (k : Int) + 1 := by rw [IntKind.wrap_i64]; omega
     have HKK := A0 hk
     clear hk
     obtain ⟨W1, hW1⟩ : ∃ W1, wr.alloc (.cells #[.int .i64 (p : Int), .int .i64 (s : Int), .int .i64 x3] 50) = W1 := ⟨_, rfl⟩
     have HW : Hid (W1.heap[wr.heap.size]? = some (.cells #[.int .i64 (p : Int), .int .i64 (s : Int), .int .i64 x3] 50 (0, 0)) ∧ Below wr.heap.size wr W1 ∧ W1.heap.size = wr.heap.size + 1) := A0 (by rw [← hW1]; exact ⟨World.alloc_heap_new _ _, (Below.refl _ _).alloc (Nat.le_refl _) _, by simp⟩)
     have y2 : W1.cell? ⟨wr.heap.size, 2, none⟩ = some (.int .i64 x3) := A1 HW.out.1 rfl
     have b1 : W1.cell? ⟨b, 1, none⟩ = some (.slice aE i cE) := A1 (A3 HY.out.2.2.1 HW.out.2.1) rfl
     have HR1 := A0 (A6 HY.out.1 HW.out.2.1)
     have hwx := HY.out.2.2.2.2
     have hw1 := HW.out.2.1.size
     obtain ⟨hi9, hz90, hz91, hz92⟩ := HI.out
     go_upto_region 6 with (at_builtin; refine wpList_append_own_at _ rfl _ _ 22 rfl wx.heap.size 3 i9 _ 1 8 underlying22 hi9 hz90 hz91 hz92 rfl (by omega) (.slice aE i cE) i ((B5 (Ed.take i)).map (Value.int .i64)) rfl (HR1.out.alloc _) ⟨W1.heap.size, 0, none⟩ 1 1 [.int .i64 x3] rfl rfl (World.news_of_block (cs := #[.int .i64 x3]) (t := 3) (fr := (0, 0)) (heap_alloc_new W1 _)) (by simp [Value.oneCell']) (by unfold maxLen; omega) (by omega) (by rw [World.size_alloc]; omega) ?_; intro v5 w5 ho hg hn5 hl5; obtain ⟨z5, d5, e5⟩ := A8 ho; subst e5; have HG : Hid (w5.ownsRow wx.heap.size 3 1 (.slice z5 (i + 1) d5) (i + 1) ((B5 (Ed.take (i + 1))).map (Value.int .i64)) ∧ Ab W1 w5 (fun k => (Value.slice aE i cE).ownBlock = some k)) := A0 (Nv HTk.out ho hg); have Bb5 : Hid (w5.heap[b]? = some (.cells #[.int .i64 (m : Int), .slice aE i cE, .slice (some ⟨g, 0, none⟩) (R + 1) (R + 1)] 67 (0, 0))) := A0 (O0 HR1.out HG.out.2 (A3 HY.out.2.2.1 HW.out.2.1) HP.out.2.2.2.1); have cb5 : w5.cell? ⟨b, 1, none⟩ = some (.slice aE i cE) := A1 Bb5.out rfl; have fb5 : w5.frozen? ⟨b, 1, none⟩ = false := A4 Bb5.out; clear ho hg hn5 hl5)
     obtain ⟨w6, hw6⟩ : ∃ W, w5.setCell ⟨b, 1, none⟩ (.slice z5 (i + 1) d5) = W := ⟨_, rfl⟩
     rw [hw6]
     have H6 : Hid (w6.ownsRow wx.heap.size 3 1 (.slice z5 (i + 1) d5) (i + 1) ((B5 (Ed.take (i + 1))).map (Value.int .i64)) ∧ Bd w6 g 3 (R + 1) (fun c => .int .i64 ((BV (kE m (Ed.take i)) c : Nat) : Int)) (R + 1) ∧ w6.heap[b]? = some (.cells #[.int .i64 (m : Int), .slice z5 (i + 1) d5, .slice (some ⟨g, 0, none⟩) (R + 1) (R + 1)] 67 (0, 0)) ∧ Below W0.heap.size W0 w6 ∧ wx.heap.size ≤ w6.heap.size ∧ w6.heap[wr.heap.size]? = some (.cells #[.int .i64 (p : Int), .int .i64 (s : Int), .int .i64 x3] 50 (0, 0))) := A0 (by
      have hR := HR1.out
      have lo : ∀ k, (Value.slice aE i cE).ownBlock = some k → wx.heap.size ≤ k := fun k hk => (hR.lt k hk).1
      have o1 := HG.out.2
      have o2 : Ab w5 w6 (fun k => k = b) := by rw [← hw6]; exact Ah _ _ _ _
      have pp := HP.out
      have Be := (o1.block _ (Array.getElem?_eq_some_iff.1 HW.out.1).1 (fun h => BO hR HW.out.1 (by decide) h)).trans HW.out.1
      have Mg := ((HY.out.2.1.below HW.out.2.1 HY.out.2.1.lt).only o1 (fun h => by have := lo _ h; omega)).only o2 (fun h => pp.1 h.symm)
      have d1 := HY.out.2.2.2.1.trans (HW.out.2.1.mono HY.out.2.2.2.1.size)
      have d5' := d1.trans (o1.toBelow d1.size (fun k hk => by have := lo _ hk; have := pp.2.2.2.2.2; have := HY.out.2.2.2.1.size; omega))
      exact ⟨A9 HG.out.1 o2 (fun k hk e => by have := (HG.out.1.lt k hk).1; omega), Mg, by rw [← hw6]; exact heap_setCell_same _ _ 1 _ 67 _ Bb5.out, d5'.trans (o2.toBelow d5'.size (fun k hk => by rw [hk]; exact pp.2.1)), Nat.le_trans hwx (Nat.le_trans HW.out.2.1.size (Nat.le_trans o1.size o2.size)), (o2.block _ (Array.getElem?_eq_some_iff.1 Be).1 (by have := HY.out.2.2.2.2; omega)).trans Be⟩)
     clear hw6 HG Bb5 cb5 fb5 HR1 HW y2 b1 hi9 hz90 hz91 hz92 hW1 hw1 hwx
     have b2 : w6.cell? ⟨b, 2, none⟩ = some (.slice (some ⟨g, 0, none⟩) (R + 1) (R + 1)) := A1 H6.out.2.2.1 rfl
     obtain ⟨y0, y1⟩ := IV H6.out.2.2.2.2.2 rfl rfl
     have z1 : w6.cell? ⟨w.heap.size, 1, none⟩ = some (.int .i64 (m : Int)) := A1 (A3 HD.out.2.1 H6.out.2.2.2.1) rfl
     have r0 := H6.out.2.1.at (k + 1) (by omega)
     have r1 := H6.out.2.1.fz (k + 1)
     have hc := Nat.le_trans (IU (kE m (Ed.take i)) (k + 1)) (by rw [FE, List.length_take]; omega : (kE m (Ed.take i)).length ≤ i)
     obtain ⟨cn, hcn⟩ : ∃ cn, BV (kE m (Ed.take i)) (k + 1) = cn := ⟨_, rfl⟩
     simp only [hcn] at r0 hc
     have HC := A0 hcn
     clear hcn
     have j4 : (k : Int) + 1 < (R : Int) + 1 := by omega
     have j5 : (0 : Int) ≤ (k : Int) + 1 := by omega
     have j6 : IntKind.i64.wrap ((cn : Int) + 1) = (cn : Int) + 1 := by rw [IntKind.wrap_i64]; omega
     have J : Hid ((w6.setCell ⟨g, k + 1, none⟩ (.int .i64 ((cn : Int) + 1))).ownsRow wx.heap.size 3 1 (.slice z5 (i + 1) d5) (i + 1) ((B5 (Ed.take (i + 1))).map (Value.int .i64)) ∧ Bd (w6.setCell ⟨g, k + 1, none⟩ (.int .i64 ((cn : Int) + 1))) g 3 (R + 1) (fun c => .int .i64 ((BV (kE m (Ed.take (i + 1))) c : Nat) : Int)) (R + 1) ∧ (w6.setCell ⟨g, k + 1, none⟩ (.int .i64 ((cn : Int) + 1))).heap[b]? = some (.cells #[.int .i64 (m : Int), .slice z5 (i + 1) d5, .slice (some ⟨g, 0, none⟩) (R + 1) (R + 1)] 67 (0, 0)) ∧ Below W0.heap.size W0 (w6.setCell ⟨g, k + 1, none⟩ (.int .i64 ((cn : Int) + 1))) ∧ wx.heap.size ≤ (w6.setCell ⟨g, k + 1, none⟩ (.int .i64 ((cn : Int) + 1))).heap.size) := A0 (by
      have o := Ah w6 g (k + 1) (.int .i64 ((cn : Int) + 1))
      have pp := HP.out
      refine ⟨A9 H6.out.1 o (fun q hq e => by have := (H6.out.1.lt q hq).1; omega), (H6.out.2.1.upd (k + 1) _).congr fun c hc => ?_, (o.block b (Array.getElem?_eq_some_iff.1 H6.out.2.2.1).1 (fun e => pp.1 e)).trans H6.out.2.2.1, H6.out.2.2.2.1.trans (o.toBelow H6.out.2.2.2.1.size (fun q hq => by rw [hq]; exact pp.2.2.1)), Nat.le_trans H6.out.2.2.2.2.1 o.size⟩
      rw [HTk.out, show kE m (Ed.take i ++ [((p : Int), (s : Int), x3)]) = kE m (Ed.take i) ++ [((p : Int) * (m : Int) + (s : Int), 0, x3)] by simp [kE], Jf]
      have ek : (p : Int) * (m : Int) + (s : Int) = (k : Int) := by rw [← HKK.out]; simp
      simp only [ek]
      by_cases e : c = k + 1
      · subst e
        rw [if_pos rfl, if_pos (by simp), HC.out]
        rfl
      · rw [if_neg e, if_neg (by omega)]
        rfl)
     clear H6 HTk
     go_wp2_with fail
     refine ⟨⟨i + 1, by omega, by go_num, z5, d5, J⟩, by simp [intOf]; omega⟩
   · obtain rfl : n3 = i := by omega
     have i1 : ¬ (n3 : Int) < (n3 : Int) := by omega
     obtain ⟨y0, y1⟩ := IV (A3 HD.out.2.1 HY.out.2.2.2.1) rfl rfl
     have hmul : IntKind.i64.wrap ((N : Int) * (m : Int)) = (R : Int) := by
      have : (N : Int) * (m : Int) = (R : Int) := by rw [← HRR.out]; simp
      rw [this, IntKind.wrap_i64]
      omega
     have HZ : Hid (wr.ownsRow wx.heap.size 3 1 (.slice aE n3 cE) n3 ((B5 Ed).map (Value.int .i64)) ∧ Bd wr g 3 (R + 1) (Dk (kE m Ed) 0) (R + 1) ∧ wr.heap[b]? = some (.cells #[.int .i64 (m : Int), .slice aE n3 cE, .slice (some ⟨g, 0, none⟩) (R + 1) (R + 1)] 67 (0, 0)) ∧ Below W0.heap.size W0 wr ∧ wx.heap.size ≤ wr.heap.size) := A0 (by
      have t := HY.out
      rw [List.take_of_length_le (by have := HN3.out; omega)] at t
      refine ⟨t.1, t.2.1.congr (fun c _ => ?_), t.2.2⟩
      unfold Dk
      by_cases e : c ≤ 0
      · obtain rfl : c = 0 := by omega
        have q := Jm (kE m Ed) (fun e he => by
         obtain ⟨x, hx, rfl⟩ := List.mem_map.1 he
         have := hF.out x hx
         have h2 : 0 ≤ x.1 * (m : Int) := Int.mul_nonneg this.1.1 (by omega)
         show 0 ≤ x.1 * (m : Int) + x.2.1
         omega)
        rw [if_pos e, q.1, q.2]
      · rw [if_neg e])
     clear HY
     go_upto_region 8 with fail
     go_wp2_with fail
     clear y0 y1 hmul
     go_loopw [52] (fun iv wr => ∃ p : Nat, p ≤ R ∧ iv = .int .i64 (p : Int) ∧ Hid (wr.ownsRow wx.heap.size 3 1 (.slice aE n3 cE) n3 ((B5 Ed).map (Value.int .i64)) ∧ Bd wr g 3 (R + 1) (Dk (kE m Ed) p) (R + 1) ∧ wr.heap[b]? = some (.cells #[.int .i64 (m : Int), .slice aE n3 cE, .slice (some ⟨g, 0, none⟩) (R + 1) (R + 1)] 67 (0, 0)) ∧ Below W0.heap.size W0 wr ∧ wx.heap.size ≤ wr.heap.size)) (fun iv _ => R - (intOf iv).toNat)
     case atStart => exact ⟨0, Nat.zero_le _, rfl, HZ⟩
     case round =>
      obtain ⟨p, hp, rfl, HQ⟩ := hrel
      clear HZ
      by_cases hlt : p < R
      · have j0 : (0 : Int) ≤ (p : Int) := by omega
        have j1 : (p : Int) < (R : Int) := by omega
        have j2 : (p : Int) < (R : Int) + 1 := by omega
        have j3 : (p : Int) + 1 < (R : Int) + 1 := by omega
        have j4 : (0 : Int) ≤ (p : Int) + 1 := by omega
        have r0 := HQ.out.2.1.at p (by omega)
        have r1 := HQ.out.2.1.at (p + 1) (by omega)
        have r2 := HQ.out.2.1.fz (p + 1)
        have y5 : wr.cell? ⟨b, 2, none⟩ = some (.slice (some ⟨g, 0, none⟩) (R + 1) (R + 1)) := A1 HQ.out.2.2.1 rfl
        unfold Dk at r0 r1
        rw [if_pos (Nat.le_refl _)] at r0
        rw [if_neg (by omega)] at r1
        have u0 := CF (kE m Ed) p
        have u1 := IU (kE m Ed) (p + 1)
        rw [FE, HN3.out] at u0 u1
        have HS := A0 (DM (kE m Ed) p)
        generalize AN (kE m Ed) p = s at r0 u0 HS
        generalize BV (kE m Ed) (p + 1) = c at r1 u1 HS
        have v0 : (s : Int) ≤ 4194304 := by omega
        have v1 : (c : Int) ≤ 4194304 := by omega
        have v2 : (0 : Int) ≤ (s : Int) := by omega
        have v3 : (0 : Int) ≤ (c : Int) := by omega
        go_upto_region 11 with fail
        refine Al 12 #[true, true, true, true, true, true, true, true, true, true, true, true, false, false] (by kernel_rfl) (by kernel_rfl) ?_
        simp only [List.take_succ_cons, List.take_zero, List.drop_succ_cons, List.drop_zero]
        repeat (go_big_quiet_step (fail))
        refine wpQuiet_nil ?_
        intro wz hzz
        obtain ⟨nq, rfl⟩ := hzz
        have J : Hid (((wr.drewN nq).setCell ⟨g, p + 1, none⟩ (.int .i64 ((c : Int) + (s : Int)))).ownsRow wx.heap.size 3 1 (.slice aE n3 cE) n3 ((B5 Ed).map (Value.int .i64)) ∧ Bd ((wr.drewN nq).setCell ⟨g, p + 1, none⟩ (.int .i64 ((c : Int) + (s : Int)))) g 3 (R + 1) (Dk (kE m Ed) (p + 1)) (R + 1) ∧ ((wr.drewN nq).setCell ⟨g, p + 1, none⟩ (.int .i64 ((c : Int) + (s : Int)))).heap[b]? = some (.cells #[.int .i64 (m : Int), .slice aE n3 cE, .slice (some ⟨g, 0, none⟩) (R + 1) (R + 1)] 67 (0, 0)) ∧ Below W0.heap.size W0 ((wr.drewN nq).setCell ⟨g, p + 1, none⟩ (.int .i64 ((c : Int) + (s : Int)))) ∧ wx.heap.size ≤ ((wr.drewN nq).setCell ⟨g, p + 1, none⟩ (.int .i64 ((c : Int) + (s : Int)))).heap.size) := A0 (by
         have o := Ah (wr.drewN nq) g (p + 1) (.int .i64 ((c : Int) + (s : Int)))
         have pp := HP.out
         have hb1 : (wr.drewN nq).heap[b]? = some (.cells #[.int .i64 (m : Int), .slice aE n3 cE, .slice (some ⟨g, 0, none⟩) (R + 1) (R + 1)] 67 (0, 0)) := HQ.out.2.2.1
         have mq : Bd (wr.drewN nq) g 3 (R + 1) (Dk (kE m Ed) p) (R + 1) := HQ.out.2.1
         have hw1 : (wr.drewN nq).ownsRow wx.heap.size 3 1 (.slice aE n3 cE) n3 ((B5 Ed).map (Value.int .i64)) := HQ.out.1
         refine ⟨A9 hw1 o (fun q hq e => by have := (hw1.lt q hq).1; omega), (mq.upd (p + 1) _).congr fun k hk => ?_, (o.block b (Array.getElem?_eq_some_iff.1 hb1).1 (fun e => pp.1 e)).trans hb1, (Hl HQ.out.2.2.2.1 nq).trans (o.toBelow HQ.out.2.2.2.1.size (fun k hk => by rw [hk]; exact pp.2.2.1)), Nat.le_trans HQ.out.2.2.2.2 o.size⟩
         unfold Dk
         by_cases e : k = p + 1
         · subst e
           rw [if_pos rfl, if_pos (Nat.le_refl _), HS.out]
           simp
         · rw [if_neg e]
           by_cases e2 : k ≤ p
           · rw [if_pos e2, if_pos (by omega)]
           · rw [if_neg e2, if_neg (by omega)])
        have wcs : IntKind.i64.wrap ((c : Int) + (s : Int)) = (c : Int) + (s : Int) := by rw [IntKind.wrap_i64]; omega
        go_wp2_with fail
        go_roundw
        case rel => exact ⟨p + 1, by omega, by go_num, by first | exact J | (simp only [wcs]; exact J)⟩
        case measure => simp [intOf]; omega
      · obtain rfl : R = p := by omega
        have j1 : ¬ (R : Int) < (R : Int) := by omega
        have F3 := A3 HD.out.2.2.1 HQ.out.2.2.2.1
        have HQ2 := HQ.out.2.2.1
        obtain ⟨o0, o1, o2⟩ := Jt F3 rfl rfl rfl
        have f0 : wr.frozen? ⟨w.heap.size + 1, 0, none⟩ = false := A4 F3
        have f1 : wr.frozen? ⟨w.heap.size + 1, 1, none⟩ = false := A4 F3
        have f2 : wr.frozen? ⟨w.heap.size + 1, 2, none⟩ = false := A4 F3
        obtain ⟨k0, k1, k2⟩ := Jt HQ2 rfl rfl rfl
        have O6 := A0 (And.intro (P2 wr (w.heap.size + 1) _ _ _ (.int .i64 (m : Int)) (.slice aE n3 cE) (.slice (some ⟨g, 0, none⟩) (R + 1) (R + 1)) 67 F3) (LW wr (w.heap.size + 1) 0 1 2 (.int .i64 (m : Int)) (.slice aE n3 cE) (.slice (some ⟨g, 0, none⟩) (R + 1) (R + 1))))
        clear F3 HQ2
        go_wp2_with fail
        refine bodyPost_ret (results_cell_row (p := 2) (ty := 67) rfl _ _ (w.heap.size + 1) 67 _ (0, 0) _ rfl O6.out.1 underlying67 rfl (by kernel_rfl)) rfl ?_
        have pp := HP.out
        have oo := O6.out.2
        have dd := HD.out.1.trans (HQ.out.2.2.2.1.mono HD.out.1.size)
        refine ⟨aE, cE, g, rfl, A0 ⟨Ac (B := wx.heap.size) ?_ ?_, (HQ.out.2.1.congr (fun c hc => by unfold Dk; rw [if_pos (by omega)])).only oo (by omega), by omega⟩, dd.trans (oo.toBelow dd.size (fun k hk => by omega))⟩
        · exact A9 HQ.out.1 oo (fun q hq e => by have := (HQ.out.1.lt q hq).1; omega)
        · omega
theorem MV (m : Nat) (L : List Aa) (c : Nat) : AN (kE m L) c = (L.filter fun e => decide (e.1 * (m : Int) + e.2.1 < (c : Int))).length := by
 unfold AN kE
 rw [List.filter_map, List.length_map]
 rfl
theorem Oy {m : Nat} {a b : Aa} (h : C4 a b = true) (ha : a.2.1 < (m : Int)) (hb : 0 ≤ b.2.1) : a.1 * (m : Int) + a.2.1 ≤ b.1 * (m : Int) + b.2.1 := by
 rw [Ew] at h
 by_cases e : a.1 = b.1
 · rw [e]
   omega
 · have h2 : a.1 + 1 ≤ b.1 := by omega
   have h3 := Int.mul_le_mul_of_nonneg_right h2 (show (0 : Int) ≤ (m : Int) by omega)
   rw [Int.add_mul, Int.one_mul] at h3
   omega
theorem Hv {m : Nat} {Ed : List Aa} (hS : Fc Ed) (hF : ∀ e ∈ Ed, 0 ≤ e.2.1 ∧ e.2.1 < (m : Int)) (c i : Nat) (h : i < Ed.length) : Ed[i].1 * (m : Int) + Ed[i].2.1 < (c : Int) ↔ i < AN (kE m Ed) c := by
 have := Gw (fun e : Aa => decide (e.1 * (m : Int) + e.2.1 < (c : Int))) Ed (List.Pairwise.imp_of_mem (fun {a b} ha hb hab hc => by
  rw [decide_eq_true_eq] at hc ⊢
  have := Oy (m := m) hab (hF a ha).2 (hF b hb).1
  omega) hS) i h
 rw [MV, ← this, decide_eq_true_eq]
theorem Nu {m : Nat} {x1 x2 p s : Int} (hx : 0 ≤ x2 ∧ x2 < (m : Int)) (hs : 0 ≤ s ∧ s < (m : Int)) (h : x1 * (m : Int) + x2 = p * (m : Int) + s) : x1 = p ∧ x2 = s := by
 have m0 : (0 : Int) ≤ (m : Int) := by omega
 by_cases e : x1 = p
 · subst e
   exact ⟨rfl, by omega⟩
 · exfalso
   rcases Int.lt_or_gt_of_ne e with q | q
   · have h3 := Int.mul_le_mul_of_nonneg_right (show x1 + 1 ≤ p by omega) m0
     rw [Int.add_mul, Int.one_mul] at h3
     omega
   · have h3 := Int.mul_le_mul_of_nonneg_right (show p + 1 ≤ x1 by omega) m0
     rw [Int.add_mul, Int.one_mul] at h3
     omega
theorem Ms {m p s k : Nat} {Ed : List Aa} (hS : Fc Ed) (hF : ∀ e ∈ Ed, 0 ≤ e.2.1 ∧ e.2.1 < (m : Int)) (hs : s < m) (hk : p * m + s = k) : En Ed (AN (kE m Ed) k) (AN (kE m Ed) (k + 1)) = Ar Ed p (s : Int) := by
 have ek : (k : Int) = (p : Int) * (m : Int) + (s : Int) := by rw [← hk]; simp
 have le : AN (kE m Ed) (k + 1) ≤ Ed.length := Nat.le_trans (CF _ _) (Nat.le_of_eq (FE _ _))
 refine II _ _ (MW hS _ _) (Ic hS _ _) fun x => ⟨fun hx => ?_, fun hx => ?_⟩
 · obtain ⟨t, ht, rfl⟩ := List.getElem_of_mem hx
   obtain ⟨h2, e⟩ := FT t ht
   rw [Eo le] at ht
   have a1 := Hv hS hF k _ h2
   have a2 := Hv hS hF (k + 1) _ h2
   have b1 : ¬ Ed[AN (kE m Ed) k + t].1 * (m : Int) + Ed[AN (kE m Ed) k + t].2.1 < (k : Int) := fun q => by have := a1.1 q; omega
   have b2 := a2.2 (by omega)
   have hm := List.getElem_mem h2
   rw [e, Cg]
   exact ⟨hm, Nu (hF _ hm) ⟨by omega, by omega⟩ (by omega)⟩
 · rw [Cg] at hx
   obtain ⟨hx, h1, h2⟩ := hx
   obtain ⟨i, hi, rfl⟩ := List.getElem_of_mem hx
   have a1 := Hv hS hF k i hi
   have a2 := Hv hS hF (k + 1) i hi
   rw [h1, h2] at a1 a2
   have b1 : AN (kE m Ed) k ≤ i := Nat.le_of_not_lt fun q => by have := a1.2 q; omega
   have b2 := a2.1 (by omega)
   obtain ⟨t, rfl⟩ : ∃ t, i = AN (kE m Ed) k + t := ⟨i - AN (kE m Ed) k, by omega⟩
   have ht : t < (En Ed (AN (kE m Ed) k) (AN (kE m Ed) (k + 1))).length := by rw [Eo le]; omega
   obtain ⟨h3, e⟩ := FT t ht
   rw [← e]
   exact List.getElem_mem ht
theorem Bw (L : List Aa) : (B5 L).length = L.length := by simp [B5]
theorem Mm {w : World} {g o : Nat} {Ed : List Aa} (h : BB w (some ⟨g, o, none⟩) (B5 Ed)) (lo hi : Nat) : BB w (some ⟨g, o + lo, none⟩) (B5 (En Ed lo hi)) := fun j hj => by
 have hj' : j < (En Ed lo hi).length := by rw [Bw] at hj; exact hj
 obtain ⟨h2, e⟩ := FT j hj'
 obtain ⟨g', o', he, q⟩ := h (lo + j) (by rw [Bw]; exact h2)
 cases he
 refine ⟨g, o + lo, rfl, ?_⟩
 have e1 : (B5 Ed)[lo + j]'(by rw [Bw]; exact h2) = Ed[lo + j].2.2 := by simp [B5]
 have e2 : (B5 (En Ed lo hi))[j] = (En Ed lo hi)[j].2.2 := by simp [B5]
 rw [show o + lo + j = o + (lo + j) by omega, q, e2, e, e1]
theorem JH {W : World} {B n c sz : Nat} {e : TypeId} {b : Option Addr} {xs : List Value} (h : W.ownsRow B e sz (.slice b n c) n xs) : (b = none ∧ n = 0 ∧ c = 0) ∨ ∃ g, b = some ⟨g, 0, none⟩ ∧ n ≤ c ∧ B ≤ g := by
 rcases h.2 with ⟨hv, hn⟩ | ⟨g', cap', cur', hv, hb, _, hc, _⟩
 · cases hv
   exact .inl ⟨rfl, rfl, rfl⟩
 · cases hv
   exact .inr ⟨g', rfl, hc, hb⟩
theorem OD (w : World) (B m R p s n k : Nat) (aE : Option Addr) (cE g : Nat) (Ed : List Aa) (hn : Ed.length = n) (hA : Hid (Fs B w m R Ed aE n cE g)) (hS : Hid (Fc Ed)) (hF : Hid (∀ e ∈ Ed, 0 ≤ e.2.1 ∧ e.2.1 < (m : Int))) (hs : s < m) (hk : p * m + s = k) (hkR : k < R) (hR : R ≤ 524288) (hl : n ≤ 4194304) :
 Calls prog 41 #[.agg #[.int .i64 (m : Int), .slice aE n cE, .slice (some ⟨g, 0, none⟩) (R + 1) (R + 1)], .int .i64 (p : Int), .int .i64 (s : Int)] w fun e w' => ∃ a c, e = .returned (.slice a (Ar Ed p (s : Int)).length c) ∧ Hid (BB w a (B5 (Ar Ed p (s : Int))) ∧ (Ar Ed p (s : Int)).length ≤ c ∧ Below w.heap.size w w') := by
 obtain ⟨W0, hW0⟩ : ∃ W0, w.alloc (.cells #[.int .i64 (m : Int), .slice aE n cE, .slice (some ⟨g, 0, none⟩) (R + 1) (R + 1)] 67) = W0 := ⟨_, rfl⟩
 have HD : Hid (Below w.heap.size w W0) := A0 (by rw [← hW0]; exact (Below.refl _ _).alloc (Nat.le_refl _) _)
 have b0 : W0.heap[w.heap.size]? = some (.cells #[.int .i64 (m : Int), .slice aE n cE, .slice (some ⟨g, 0, none⟩) (R + 1) (R + 1)] 67 (0, 0)) := by rw [← hW0]; exact World.alloc_heap_new _ _
 obtain ⟨k0, k1, k2⟩ := Jt b0 rfl rfl rfl
 have HM := A0 (hA.out.fi.below HD.out hA.out.fi.lt)
 have r0 := HM.out.at k (by omega)
 have r1 := HM.out.at (k + 1) (by omega)
 have u0 := CF (kE m Ed) k
 have u1 := CF (kE m Ed) (k + 1)
 have u2 : AN (kE m Ed) k ≤ AN (kE m Ed) (k + 1) := by rw [DM]; omega
 rw [FE, hn] at u0 u1
 have HL := A0 (Eo (Es := Ed) (lo := AN (kE m Ed) k) (hi := AN (kE m Ed) (k + 1)) (by rw [hn]; exact u1))
 have HC := A0 (JH hA.out.ow)
 have HO : Hid (BB w aE (B5 Ed)) := A0 (AM (c := cE) (by rw [Bw, hn]; exact hA.out.ow))
 have HR : Hid (∀ g', aE = some ⟨g', 0, none⟩ → BB w (some ⟨g', AN (kE m Ed) k, none⟩) (B5 (En Ed (AN (kE m Ed) k) (AN (kE m Ed) (k + 1))))) := A0 (fun g' e => by
  have q := HO.out
  rw [e] at q
  have q2 := Mm q (AN (kE m Ed) k) (AN (kE m Ed) (k + 1))
  rw [Nat.zero_add] at q2
  exact q2)
 rw [Ms hS.out hF.out hs hk] at HL HR
 generalize Ar Ed p (s : Int) = F at HL HR ⊢
 generalize AN (kE m Ed) k = lo at *
 generalize AN (kE m Ed) (k + 1) = hi at *
 have epm : (p : Int) * (m : Int) = ((p * m : Nat) : Int) := by simp
 have e1 : IntKind.i64.wrap ((p : Int) * (m : Int)) = (p : Int) * (m : Int) := by rw [epm, IntKind.wrap_i64]; omega
 have e2 : IntKind.i64.wrap ((p : Int) * (m : Int) + (s : Int)) = (k : Int) := by rw [epm, IntKind.wrap_i64]; omega
 have e3 : IntKind.i64.wrap ((k : Int) + 1) = (k : Int) + 1 := by rw [IntKind.wrap_i64]; omega
 have v0 : (0 : Int) ≤ (k : Int) := by omega
 have v1 : (k : Int) < (R : Int) + 1 := by omega
 have v2 : (k : Int) + 1 < (R : Int) + 1 := by omega
 have v3 : (lo : Int) ≤ (hi : Int) := by omega
 have v5 : (k : Int) ≤ 524288 := by omega
 have v6 : (0 : Int) ≤ (lo : Int) := by omega
 clear b0 hA hS hF HO HM epm hk hn
 rcases HC.out with ⟨rfl, rfl, rfl⟩ | ⟨gE, rfl, hc, -⟩
 · obtain rfl : lo = 0 := by omega
   obtain rfl : hi = 0 := by omega
   have hn : F = [] := List.eq_nil_of_length_eq_zero (by have := HL.out; omega)
   subst hn
   clear HR HL HC u0 u1 u2
   go_enter func41, ntmps41
   go_upto_region 2 with fail
   refine Al 13 #[true, true, true, true, true, true, true, true, true, true, true, true, true, false, false] (by kernel_rfl) (by kernel_rfl) ?_
   simp only [List.take_succ_cons, List.take_zero, List.drop_succ_cons, List.drop_zero]
   repeat (go_big_quiet_step (fail))
   refine wpQuiet_nil ?_
   intro wz hzz
   obtain ⟨nq, rfl⟩ := hzz
   go_wp2_with fail
   refine bodyPost_ret (results_tmp rfl _ _ _) rfl ?_
   exact ⟨none, 0, rfl, A0 ⟨fun j hj => absurd hj (Nat.not_lt_zero _), Nat.le_refl _, Au HD.out nq⟩⟩
 · have v4 : (hi : Int) ≤ (cE : Int) := by omega
   have HR2 := A0 (HR.out gE rfl)
   clear HR HC
   go_enter func41, ntmps41
   go_upto_region 2 with fail
   refine Al 13 #[true, true, true, true, true, true, true, true, true, true, true, true, true, false, false] (by kernel_rfl) (by kernel_rfl) ?_
   simp only [List.take_succ_cons, List.take_zero, List.drop_succ_cons, List.drop_zero]
   repeat (go_big_quiet_step (fail))
   refine wpQuiet_nil ?_
   intro wz hzz
   obtain ⟨nq, rfl⟩ := hzz
   go_wp2_with fail
   · rename cE = lo => hkl
     subst hkl
     refine bodyPost_ret (results_tmp rfl _ _ _) rfl ?_
     have hn : F = [] := List.eq_nil_of_length_eq_zero (by have := HL.out; omega)
     refine ⟨some ⟨gE, 0, none⟩, 0, by rw [HL.out]; rfl, A0 ⟨by rw [hn]; intro j hj; exact absurd hj (Nat.not_lt_zero _), by rw [hn]; exact Nat.le_refl _, Au HD.out nq⟩⟩
   · refine bodyPost_ret (results_tmp rfl _ _ _) rfl ?_
     exact ⟨some ⟨gE, lo, none⟩, cE - lo, by rw [HL.out]; rfl, A0 ⟨HR2.out, by rw [HL.out]; omega, Au HD.out nq⟩⟩
end Go.Proofs.YtchoopnjckcohaaGreat
namespace Go.Proofs
open Tryz
open Go.Shelf Go.RowKit Go.Lib Go.Sort
def Tryz.lays189_ren : Go.Shelf.Ren := ⟨fun | 189 => 86 | 125 => 94 | 257 => 93 | 128 => 108 | 129 => 109 | 294 => 99 | 295 => 100 | 296 => 101 | 297 => 102 | 298 => 103 | 299 => 104 | 216 => 105 | 300 => 106 | 301 => 107 | 328 => 112 | 329 => 113 | 330 => 114 | 331 => 115 | 332 => 116 | 215 => 96 | 343 => 133 | n => n, fun | 28 => 22 | 3 => 3 | 46 => 116 | 0 => 0 | 51 => 127 | 53 => 129 | 4 => 4 | 183 => 121 | 182 => 120 | 131 => 105 | 5 => 5 | 9 => 9 | 218 => 132 | 222 => 136 | 228 => 148 | 229 => 149 | n => n, fun | n => n⟩
theorem Tryz.lays189 : Go.Proofs.Lays.n189 prog Tryz.lays189_ren := {
 mixed := by kernel_rfl
 f125 := func94.trans (congrArg some (by kernel_rfl))
 f128 := func108.trans (congrArg some (by kernel_rfl))
 f129 := func109.trans (congrArg some (by kernel_rfl))
 f189 := func86.trans (congrArg some (by kernel_rfl))
 f215 := func96.trans (congrArg some (by kernel_rfl))
 f216 := func105.trans (congrArg some (by kernel_rfl))
 f257 := func93.trans (congrArg some (by kernel_rfl))
 f294 := func99.trans (congrArg some (by kernel_rfl))
 f295 := func100.trans (congrArg some (by kernel_rfl))
 f296 := func101.trans (congrArg some (by kernel_rfl))
 f297 := func102.trans (congrArg some (by kernel_rfl))
 f298 := func103.trans (congrArg some (by kernel_rfl))
 f299 := func104.trans (congrArg some (by kernel_rfl))
 f300 := func106.trans (congrArg some (by kernel_rfl))
 f301 := func107.trans (congrArg some (by kernel_rfl))
 f328 := func112.trans (congrArg some (by kernel_rfl))
 f329 := func113.trans (congrArg some (by kernel_rfl))
 f330 := func114.trans (congrArg some (by kernel_rfl))
 f331 := func115.trans (congrArg some (by kernel_rfl))
 f332 := func116.trans (congrArg some (by kernel_rfl))
 f343 := func133.trans (congrArg some (by kernel_rfl))
 t0 := underlying0
 a0 := isAgg0
 z0 := sizeOf0
 v0 := zeroValue0
 t3 := underlying3
 a3 := isAgg3
 z3 := sizeOf3
 v3 := zeroValue3
 t4 := underlying4
 a4 := isAgg4
 z4 := sizeOf4
 v4 := zeroValue4
 t5 := underlying5
 a5 := isAgg5
 z5 := sizeOf5
 v5 := zeroValue5
 t9 := underlying9
 a9 := isAgg9
 z9 := sizeOf9
 v9 := zeroValue9
 t28 := underlying22
 a28 := isAgg22
 z28 := sizeOf22
 v28 := zeroValue22
 t46 := underlying116
 a46 := isAgg116
 z46 := sizeOf116
 v46 := zeroValue116
 t51 := underlying127
 a51 := isAgg127
 z51 := sizeOf127
 v51 := zeroValue127
 t53 := underlying129
 a53 := isAgg129
 z53 := sizeOf129
 v53 := zeroValue129
 t131 := underlying105
 a131 := isAgg105
 z131 := sizeOf105
 v131 := zeroValue105
 t182 := underlying120
 a182 := isAgg120
 z182 := sizeOf120
 v182 := zeroValue120
 t183 := underlying121
 a183 := isAgg121
 z183 := sizeOf121
 v183 := zeroValue121
 t218 := underlying132
 a218 := isAgg132
 z218 := sizeOf132
 v218 := zeroValue132
 t222 := underlying136
 a222 := isAgg136
 z222 := sizeOf136
 v222 := zeroValue136
 t228 := underlying148
 a228 := isAgg148
 z228 := sizeOf148
 v228 := zeroValue148
 t229 := underlying149
 a229 := isAgg149
 z229 := sizeOf149
 v229 := zeroValue149 }
open Go.Sort Go.RowKit in
theorem Tryz.slices_Sort_int (blk off cap : Nat) (zs : List Int) (w : World) (hH : Holds (Value.int .i64) w blk off zs.toArray) (hblk : blk < w.heap.size) (hsz : zs.length < 4611686018427387904) :
 Calls prog 86 #[.slice (some ⟨blk, off, none⟩) zs.length cap] w fun e w' =>
  e = .returned (.tuple #[]) ∧ ∃ n os, w' = grow (putRow (Value.int .i64) (Sort.ahead w n) blk off (zs.mergeSort fun x y => decide (x ≤ y)).toArray) os := Any.slices_Sort_int Tryz.lays189 blk off cap zs w hH hblk hsz
def Tryz.laysNm215_ren : Go.Shelf.Ren := ⟨fun | 15 => 73 | n => n, fun | 22 => 22 | 3 => 3 | 4 => 4 | n => n, fun | n => n⟩
theorem Tryz.laysNm215 : Go.Proofs.Lays2.n15 prog Tryz.laysNm215_ren := {
 mixed := by kernel_rfl
 f15 := func73.trans (congrArg some (by kernel_rfl))
 t3 := underlying3
 a3 := isAgg3
 z3 := sizeOf3
 v3 := zeroValue3
 t4 := underlying4
 a4 := isAgg4
 z4 := sizeOf4
 v4 := zeroValue4
 t22 := underlying22
 a22 := isAgg22
 z22 := sizeOf22
 v22 := zeroValue22
 i3 := by kernel_rfl }
theorem Tryz.slices_Clone_int (b off n c : Nat) (zs : List Int) (w : World) (hz : n ≤ zs.length) (hbig : n * 8 ≤ 140737488355328) (hc : ∀ j, j < zs.length → w.cell? ⟨b, off + j, none⟩ = some (.int .i64 (zs.getD j 0))) :
 Calls prog 73 #[.slice (some ⟨b, off, none⟩) n c] w fun e w' => ∃ v', e = .returned v' ∧ w'.ownsRow w.heap.size 3 1 v' n ((zs.take n).map (Value.int .i64)) ∧ v' ≠ .slice none 0 0 ∧ Below w.heap.size w w' := Any.slices_Clone_int Tryz.laysNm215 b off n c zs w hz hbig hc
theorem Tryz.slices_Clone_int_nil (n c : Nat) (w : World) :
 Calls prog 73 #[.slice none n c] w fun e w' => e = .returned (.slice none 0 0) ∧ w' = w := Any.slices_Clone_int_nil Tryz.laysNm215 n c w
theorem Tryz.slices_Clone_int_zero (a : Addr) (c : Nat) (w : World) :
 Calls prog 73 #[.slice (some a) 0 c] w fun e w' => ∃ v', e = .returned v' ∧ w'.ownsRow w.heap.size 3 1 v' 0 [] ∧ v' ≠ .slice none 0 0 ∧ Below w.heap.size w w' := Any.slices_Clone_int_zero Tryz.laysNm215 a c w
theorem Tryz.slices_Sort_int_none (p : Option Addr) (cap : Nat) (w : World) :
 Calls prog 86 #[.slice p 0 cap] w fun e w' => e = .returned (.tuple #[]) ∧ w' = w := Any.slices_Sort_int_none Tryz.lays189 p cap w
end Go.Proofs
namespace Go.Proofs.YtchoopnjckcohaaGreat
open Tryz
open Go.RowKit Go.Maps Go.Sort Go.Proofs
theorem I6 (W : World) (B n : Nat) (v : Value) (L : List Int) (hn : n = L.length) (hv : W.ownsRow B 3 1 v n (L.map (Value.int .i64))) (hl : n ≤ 4194304) :
 Calls prog 86 #[v] W fun e w' => e = .returned (.tuple #[]) ∧ w'.ownsRow B 3 1 v n ((BJ L).map (Value.int .i64)) ∧ W.grownBy w' v.ownBlock := by
 rcases hv.2 with ⟨ev, e0⟩ | ⟨g, cap, cur, rfl, hB, hb, h1, h2, h3, h4⟩
 · subst ev e0
   obtain rfl : L = [] := List.eq_nil_of_length_eq_zero hn.symm
   refine (Tryz.slices_Sort_int_none none 0 W).mono ?_
   rintro e w' ⟨rfl, rfl⟩
   exact ⟨rfl, by rw [show BJ [] = [] from List.mergeSort_nil]; exact hv, rfl, rfl, rfl, Nat.le_refl _, fun _ _ _ => rfl⟩
 · subst hn
   rw [Nat.mul_one] at h4
   refine (Tryz.slices_Sort_int g 0 cap L W (holds_of_blockI hb h4) (Array.getElem?_eq_some_iff.1 hb).1 (by omega)).mono ?_
   rintro e w' ⟨rfl, k, os, rfl⟩
   exact ⟨rfl, ownsRow_sortedI (ts := BJ L) (ss := L) (Cd L) hB hb h1 h2 h3, grownBy_sortedI _⟩
theorem IC (W : World) (B n : Nat) (v : Value) (L : List Int) (hn : n = L.length) (hv : W.ownsRow B 3 1 v n (L.map (Value.int .i64))) (hl : n ≤ 4194304) :
 Calls prog 87 #[v] W fun e w' => ∃ v', e = .returned v' ∧ w'.ownsRow B 3 1 v' (Lib.compact L).length ((Lib.compact L).map (Value.int .i64)) ∧ W.grownBy w' v.ownBlock ∧ v'.ownBlock = v.ownBlock := by
 rcases hv.2 with ⟨ev, e0⟩ | ⟨g, cap, cur, rfl, _⟩
 · subst ev e0
   obtain rfl : L = [] := List.eq_nil_of_length_eq_zero hn.symm
   refine (Tryz.slices_Compact_int_empty none 0 W).mono ?_
   rintro e w' ⟨rfl, rfl⟩
   have : Lib.compact ([] : List Int) = [] := List.eq_nil_of_length_eq_zero (Nat.le_zero.1 (BI _))
   rw [this]
   exact ⟨_, rfl, hv, ⟨rfl, rfl, rfl, Nat.le_refl _, fun _ _ _ => rfl⟩, rfl⟩
 · refine (CU W B g cap n L hn hv hl).mono ?_
   rintro e w' ⟨rfl, a, b⟩
   exact ⟨_, rfl, a, b, rfl⟩
theorem KM (w : World) (ao : Option Addr) (n c : Nat) (L : List Int) (hn : L.length = n) (hA : Hid (BB w ao L)) (hl : n ≤ 4194304) :
 Calls prog 73 #[.slice ao n c] w fun e w' => ∃ v', e = .returned v' ∧ Hid (w'.ownsRow w.heap.size 3 1 v' n (L.map (Value.int .i64)) ∧ Below w.heap.size w w') := by
 subst hn
 cases ao with
 | none =>
  obtain rfl : L = [] := by
   cases L with
   | nil => rfl
   | cons x L => obtain ⟨g, o, e, _⟩ := hA.out 0 (by simp); cases e
  refine (Tryz.slices_Clone_int_nil _ c w).mono ?_
  rintro e w' ⟨rfl, rfl⟩
  exact ⟨_, rfl, A0 ⟨World.ownsRow_nil _ _ _ _, Below.refl _ _⟩⟩
 | some a =>
  by_cases h0 : L.length = 0
  · obtain rfl := List.eq_nil_of_length_eq_zero h0
    refine (Tryz.slices_Clone_int_zero a c w).mono ?_
    rintro e w' ⟨v, rfl, o, _, d⟩
    exact ⟨v, rfl, A0 ⟨o, d⟩⟩
  · obtain ⟨g, o, e, _⟩ := hA.out 0 (by omega)
    cases e
    refine (Tryz.slices_Clone_int g o L.length c L w (Nat.le_refl _) (by omega) (fun j hj => by
     obtain ⟨g', o', e, q⟩ := hA.out j hj
     cases e
     rw [q]
     simp [List.getD, List.getElem?_eq_getElem hj])).mono ?_
    rintro e w' ⟨v, rfl, o, _, d⟩
    rw [List.take_length] at o
    exact ⟨v, rfl, A0 ⟨o, d⟩⟩
end Go.Proofs.YtchoopnjckcohaaGreat
namespace Go.Proofs.YtchoopnjckcohaaGreat
open Tryz
open Go.RowKit Go.Maps Go.Shelf
attribute [local go_sem] Oper.semAt_some
def Bm (E : List Aa) (p s : Int) (C : List Int) : List Aa := E ++ C.map fun q => (p, s, q)
theorem GL (E : List Aa) (p s : Int) (C : List Int) (i : Nat) (h : i < C.length) : Bm E p s (C.take (i + 1)) = Bm E p s (C.take i) ++ [(p, s, C[i])] := by
 unfold Bm
 rw [List.take_succ_eq_append_getElem h, List.map_append, ← List.append_assoc]
 rfl
theorem Ep (E : List Aa) (p s : Int) (C : List Int) : (Bm E p s C).length = E.length + C.length := by simp [Bm]
theorem AL {w w' : World} {r : Option Nat} (h : w.grownBy w' r) : Ab w w' (fun k => r = some k) := ⟨h.os, h.tape, h.output, h.size, fun k hk hn => h.block k hk (fun e => hn e.symm)⟩
theorem Ai {W : World} {B C n m sz sy : Nat} {e t : TypeId} {v u : Value} {xs ys : List Value} (h : W.ownsRow B e sz v n xs) (h2 : W.ownsRow C t sy u m ys) (hne : t ≠ e) {k : Nat} (hk : v.ownBlock = some k) (hk2 : u.ownBlock = some k) : False := by
 rcases h2.2 with ⟨hv, _⟩ | ⟨g', cap', cur', hv, _, hgc, _⟩
 · subst hv
   cases hk2
 · subst hv
   have e2 : g' = k := by simpa [Value.ownBlock] using hk2
   subst e2
   exact BO h hgc hne hk
theorem D8 {ops : Array Oper} {rest : List Oper} {o : Oper} {a : Act} {Q : Exit → Act → World → Prop} {w : World} (hgd : o.guard = none) (s x : Operand)
 (ho : o.op = .call { callee := .builtin .append, args := #[s, x], argTypes := #[23, 23] }) (B : Nat) (v : Value) (X : List Aa) (hs : a.eval s = v) (hown : w.ownsRow B 50 3 v X.length (X.flatMap Ae)) (p : Nat) (y : Aa) (hx : a.eval x = .slice (some ⟨p, 0, none⟩) 1 1) (hp : w.heap[p]? = some (.cells #[.int .i64 y.1, .int .i64 y.2.1, .int .i64 y.2.2] 50 (0, 0))) (hl : X.length ≤ 16777216) (hB : B ≤ w.heap.size)
 (h : ∀ v' w', Hid (w'.ownsRow B 50 3 v' (X ++ [y]).length ((X ++ [y]).flatMap Ae)) → Hid (Ab w w' (fun k => v.ownBlock = some k)) → wpList prog ops Q rest (a.put o.dst v') w') : wpList prog ops Q (o :: rest) a w := by
 obtain ⟨i5, hi5, hz50, hz51, hz52⟩ := AA DQ
 refine wpList_append_own_at _ hgd s x 23 ho B 50 i5 _ 3 24 underlying23 hi5 hz50 hz51 hz52 rfl (by omega) v X.length (X.flatMap Ae) hs hown ⟨p, 0, none⟩ 1 1 (Ae y) hx rfl (Dc hp) (by simp [Ae, Value.oneCell']) (by unfold maxLen; omega) (by omega) (by omega) ?_
 intro v2 w2 h2 hgr _ _
 exact h v2 w2 (A0 (by rw [List.flatMap_append, List.length_append]; simpa using h2)) (A0 (AL hgr))
structure MC (w : World) (B : Nat) (E : List Aa) (p s : Int) (C : List Int) (i : Nat) (vc v : Value) (wr : World) : Prop where
 ed : wr.ownsRow B 50 3 v (Bm E p s (C.take i)).length ((Bm E p s (C.take i)).flatMap Ae)
 en : wr.ownsRow B 3 1 vc C.length (C.map (Value.int .i64))
 be : Below B w wr
theorem JW {w wr w5 : World} {B i : Nat} {E : List Aa} {p s : Int} {C : List Int} {vc v v5 : Value} {cs : Array Value} (hB : B ≤ w.heap.size) (h : MC w B E p s C i vc v wr) (hi : i < C.length) (ho : w5.ownsRow B 50 3 v5 (Bm E p s (C.take i) ++ [(p, s, C[i])]).length ((Bm E p s (C.take i) ++ [(p, s, C[i])]).flatMap Ae)) (oo : Ab (wr.alloc (.cells cs 50)) w5 (fun k => v.ownBlock = some k)) : MC w B E p s C (i + 1) vc v5 w5 := by
 have d1 : Below wr.heap.size wr (wr.alloc (.cells cs 50)) := (Below.refl _ _).alloc (Nat.le_refl _) _
 have e1 := A6 h.ed d1
 have c1 := A6 h.en d1
 have b1 := h.be.trans (d1.mono (Nat.le_trans hB h.be.size))
 refine ⟨by rw [GL _ _ _ _ _ hi]; exact ho, A9 c1 oo (fun k hk hk2 => Ai e1 c1 (by decide) hk2 hk), b1.trans (oo.toBelow (Nat.le_trans hB b1.size) (fun k hk => (e1.lt k hk).1))⟩
theorem LM (w : World) (B : Nat) (vE vL : Value) (E : List Aa) (p s : Int) (n : Nat) (L : List Int) (hn : n = L.length) (hE : Hid (w.ownsRow B 50 3 vE E.length (E.flatMap Ae))) (hL : Hid (w.ownsRow B 3 1 vL n (L.map (Value.int .i64)))) (hB : B ≤ w.heap.size) (hl : n ≤ 4194304) (hl2 : E.length ≤ 4194304) :
 Calls prog 75 #[vE, .int .i64 p, .int .i64 s, vL] w fun e w' => ∃ v', e = .returned v' ∧ Hid (w'.ownsRow B 50 3 v' (Bm E p s (A5 L)).length ((Bm E p s (A5 L)).flatMap Ae) ∧ Below B w w') := by
 have TS := I6 w B n vL L hn hL.out hl
 obtain ⟨C, hC⟩ : ∃ C, A5 L = C := ⟨_, rfl⟩
 have hCl : C.length ≤ 4194304 := by rw [← hC]; have := B9 L; omega
 rw [hC]
 have HC := A0 hC
 clear hC
 go_enter func75, ntmps75
 go_wp2_with (go_at_call 86; refine TS.mono ?_; rintro e w1 ⟨rfl, o1, g1⟩)
 have HO := A0 (And.intro o1 g1)
 clear TS o1 g1
 have TC := IC w1 B n vL (BJ L) (by rw [Cd]; exact hn) HO.out.1 hl
 rw [show Lib.compact (BJ L) = A5 L from rfl, HC.out] at TC
 go_wp2_with (go_at_call 87; refine TC.mono ?_; rintro e w2 ⟨v2, rfl, o2, g2, b2⟩; obtain ⟨ac, cc, rfl⟩ := A8 o2)
 have H0 : Hid (MC w B E p s C 0 (.slice ac C.length cc) vE w2) := A0 (by
  have e1 := A9 hE.out (AL HO.out.2) (fun k hk hk2 => Ai hE.out hL.out (by decide) hk hk2)
  have e2 := A9 e1 (AL g2) (fun k hk hk2 => Ai e1 HO.out.1 (by decide) hk hk2)
  have d1 := (AL HO.out.2).toBelow hB (fun k hk => (hL.out.lt k hk).1)
  have d2 := (AL g2).toBelow (Nat.le_trans hB d1.size) (fun k hk => (HO.out.1.lt k hk).1)
  have z : Bm E p s (C.take 0) = E := by simp [Bm]
  exact ⟨by rw [z]; exact e2, o2, d1.trans d2⟩)
 clear TC HO o2 g2 b2 hL hE hn HC
 go_loopw [0, 16] (fun ev iv wr => ∃ i : Nat, i ≤ C.length ∧ iv = .int .i64 (i : Int) ∧ Hid (MC w B E p s C i (.slice ac C.length cc) ev wr)) (fun _ iv _ => C.length - (intOf iv).toNat)
 case atStart => exact ⟨0, Nat.zero_le _, rfl, H0⟩
 case round =>
  obtain ⟨i, hi, rfl, HY⟩ := hrel
  clear H0
  by_cases hil : i < C.length
  · have i0 : (0 : Int) ≤ (i : Int) := by omega
    have i1 : (i : Int) < (C.length : Int) := by omega
    obtain ⟨g, o, rfl, q⟩ := AM HY.out.en i hil
    have hbw : B ≤ wr.heap.size := Nat.le_trans hB HY.out.be.size
    have hll : (Bm E p s (C.take i)).length ≤ 16777216 := by rw [Ep, List.length_take]; omega
    obtain ⟨x, hx⟩ : ∃ x, C[i] = x := ⟨_, rfl⟩
    rw [hx] at q
    have HX := A0 hx
    clear hx
    go_wp2_with (at_builtin; refine D8 rfl _ _ rfl B u0 (Bm E p s (C.take i)) rfl (A6 HY.out.ed ((Below.refl _ _).alloc (Nat.le_refl _) _)) wr.heap.size (p, s, x) rfl (World.alloc_heap_new _ _) hll (by rw [World.size_alloc]; omega) ?_; intro v5 w5 HO5 HG5)
    refine ⟨⟨i + 1, by omega, by go_num, A0 (JW hB HY.out hil (by rw [HX.out]; exact HO5.out) HG5.out)⟩, by simp [intOf]; omega⟩
  · obtain rfl : i = C.length := by omega
    have i1 : ¬ (C.length : Int) < (C.length : Int) := by omega
    go_wp2_with fail
    refine bodyPost_ret (results_tmp rfl _ _ _) rfl ?_
    have z := HY.out.ed
    rw [List.take_length] at z
    exact ⟨_, rfl, A0 ⟨z, HY.out.be⟩⟩
theorem Fs.down {B : Nat} {w : World} {m R : Nat} {Ed : List Aa} {aE : Option Addr} {n cE g : Nat} (h : Fs B w m R Ed aE n cE g) : Fs 0 w m R Ed aE n cE g := ⟨Ac h.ow (Nat.zero_le _), h.fi, Nat.zero_le _⟩
theorem Fs.on {B : Nat} {w w' : World} {m R : Nat} {Ed : List Aa} {aE : Option Addr} {n cE g : Nat} (h : Fs B w m R Ed aE n cE g) (d : Below w.heap.size w w') : Fs B w' m R Ed aE n cE g := ⟨A6 h.ow d, h.fi.below d h.fi.lt, h.ge⟩
def Pa (m R n : Nat) (Ed : List Aa) : Ef := fun x _ _ W => ∃ aE cE g, x = .agg #[.int .i64 (m : Int), .slice aE n cE, .slice (some ⟨g, 0, none⟩) (R + 1) (R + 1)] ∧ Fs 0 W m R Ed aE n cE g
theorem K7 {m R n : Nat} {Ed : List Aa} : B8 (Pa m R n Ed) := fun _ _ _ _ _ _ d ⟨aE, cE, g, e, h⟩ => ⟨aE, cE, g, e, h.on d⟩
def P6 (N : Nat) (Fi : List Int) : Ef := fun x _ _ W => ∃ gf, x = .slice (some ⟨gf, 0, none⟩) N N ∧ Bd W gf 4 N (fun c => .bool (Ay Fi c)) N
theorem Ko {N : Nat} {Fi : List Int} : B8 (P6 N Fi) := fun _ _ _ _ _ _ d ⟨gf, e, h⟩ => ⟨gf, e, h.below d h.lt⟩
def PR : Ef := fun x lo hi W => x = .pointer (some ⟨lo, 0, none⟩) ∧ lo < hi ∧ W.heap[lo]? = some (.cells #[.int .i64 0, .slice none 0 0, .slice none 0 0] 67 (0, 0))
theorem L5 : B8 PR := fun _ _ _ _ _ hs d ⟨e, l, z⟩ => ⟨e, l, (d.block _ (by omega)).trans z⟩
def PU : Ef := fun x lo hi W => x = .pointer (some ⟨lo, 0, none⟩) ∧ lo < hi ∧ W.heap[lo]? = some (.cells #[.slice none 0 0] 76 (0, 0))
theorem Lz : B8 PU := fun _ _ _ _ _ hs d ⟨e, l, z⟩ => ⟨e, l, (d.block _ (by omega)).trans z⟩
structure P5 (w W : World) (N m R n : Nat) (Ed : List Aa) (Fi : List Int) (p6 p7 : Nat) (aE : Option Addr) (cE g gf : Nat) : Prop where
 b6 : W.heap[p6]? = some (.cells #[.int .i64 (m : Int), .slice aE n cE, .slice (some ⟨g, 0, none⟩) (R + 1) (R + 1)] 67 (0, 0))
 b7 : W.heap[p7]? = some (.cells #[.slice (some ⟨gf, 0, none⟩) N N] 76 (0, 0))
 rw : Fs 0 W m R Ed aE n cE g
 fi : Bd W gf 4 N (fun c => .bool (Ay Fi c)) N
 be : Below w.heap.size w W
theorem P5.on {w W W' : World} {N m R n : Nat} {Ed : List Aa} {Fi : List Int} {p6 p7 : Nat} {aE : Option Addr} {cE g gf : Nat} (h : P5 w W N m R n Ed Fi p6 p7 aE cE g gf) (d : Below W.heap.size W W') : P5 w W' N m R n Ed Fi p6 p7 aE cE g gf :=
 ⟨A3 h.b6 d, A3 h.b7 d, h.rw.on d, h.fi.below d h.fi.lt, h.be.trans (d.mono h.be.size)⟩
theorem Fh {W : World} {g N k : Nat} {t t' : TypeId} {f : Nat → Value} {cs : Array Value} (h : Bd W g t N f N) (z : W.heap[k]? = some (.cells cs t' (0, 0))) (ne : t ≠ t') : g ≠ k := fun e => by
 obtain ⟨cur, h1, _⟩ := h
 rw [e, z] at h1
 cases h1
 exact ne rfl
theorem OK {w W : World} {N m R n : Nat} {Ed : List Aa} {Fi : List Int} {p6 p7 : Nat} {aE : Option Addr} {cE g gf : Nat} (z1 : Fs 0 W m R Ed aE n cE g) (z3 : Bd W gf 4 N (fun c => .bool (Ay Fi c)) N) (z4 : W.heap[p6]? = some (.cells #[.int .i64 0, .slice none 0 0, .slice none 0 0] 67 (0, 0))) (z5 : W.heap[p7]? = some (.cells #[.slice none 0 0] 76 (0, 0))) (d : Below w.heap.size w W) (a4 : w.heap.size ≤ p6) (a5 : w.heap.size ≤ p7) :
 P5 w ((((W.setCell ⟨p6, 0, none⟩ (.int .i64 (m : Int))).setCell ⟨p6, 1, none⟩ (.slice aE n cE)).setCell ⟨p6, 2, none⟩ (.slice (some ⟨g, 0, none⟩) (R + 1) (R + 1))).setCell ⟨p7, 0, none⟩ (.slice (some ⟨gf, 0, none⟩) N N)) N m R n Ed Fi p6 p7 aE cE g gf := by
 have o1 := LW W p6 0 1 2 (.int .i64 (m : Int)) (.slice aE n cE) (.slice (some ⟨g, 0, none⟩) (R + 1) (R + 1))
 have s1 := P2 W p6 _ _ _ (.int .i64 (m : Int)) (.slice aE n cE) (.slice (some ⟨g, 0, none⟩) (R + 1) (R + 1)) 67 z4
 have ne : p7 ≠ p6 := fun e => by rw [e, z4] at z5; cases z5
 have t5 := (o1.block p7 (Array.getElem?_eq_some_iff.1 z5).1 ne).trans z5
 have r1 := A9 z1.ow o1 (fun k hk e => by subst e; exact BO z1.ow z4 (by decide) hk)
 have m1 := z1.fi.only o1 (Fh z1.fi z4 (by decide))
 have f1 := z3.only o1 (Fh z3 z4 (by decide))
 have d1 := d.trans (o1.toBelow d.size (fun k hk => by rw [hk]; exact a4))
 generalize ((W.setCell ⟨p6, 0, none⟩ (.int .i64 (m : Int))).setCell ⟨p6, 1, none⟩ (.slice aE n cE)).setCell ⟨p6, 2, none⟩ (.slice (some ⟨g, 0, none⟩) (R + 1) (R + 1)) = W1 at *
 have o2 := Ah W1 p7 0 (.slice (some ⟨gf, 0, none⟩) N N)
 exact ⟨(o2.block p6 (Array.getElem?_eq_some_iff.1 s1).1 (fun e => ne e.symm)).trans s1, heap_setCell_same _ _ 0 _ 76 _ t5, ⟨A9 r1 o2 (fun k hk e => by subst e; exact BO r1 t5 (by decide) hk), m1.only o2 (Fh m1 t5 (by decide)), Nat.zero_le _⟩, f1.only o2 (Fh f1 t5 (by decide)), d1.trans (o2.toBelow d1.size (fun k hk => by rw [hk]; exact a5))⟩
def Fd (Ed : List Aa) (Fi Bg : List Int) (p s : Nat) : List Int := if (B5 (Ar Ed p (s : Int))).any (fun x => Ay Fi x.toNat) then B5 (Ar Ed p (s : Int)) ++ Bg else B5 (Ar Ed p (s : Int))
def G6 (Ed : List Aa) (Fi Bg : List Int) (p s : Nat) : List Aa := (A5 (Fd Ed Fi Bg p s)).map fun q => ((p : Int), (s : Int), q)
def DE (Ed : List Aa) (Fi Bg : List Int) (p k : Nat) : List Aa := (List.range k).flatMap (G6 Ed Fi Bg p)
def DK (Ed : List Aa) (Fi Bg : List Int) (m p : Nat) : List Aa := (List.range p).flatMap (fun q => DE Ed Fi Bg q m)
theorem GN (Ed : List Aa) (Fi Bg : List Int) (p k : Nat) : DE Ed Fi Bg p (k + 1) = DE Ed Fi Bg p k ++ G6 Ed Fi Bg p k := by simp [DE, List.range_succ]
theorem Db (Ed : List Aa) (Fi Bg : List Int) (m p : Nat) : DK Ed Fi Bg m (p + 1) = DK Ed Fi Bg m p ++ DE Ed Fi Bg p m := by simp [DK, List.range_succ]
theorem Nr (Ed : List Aa) (Fi Bg : List Int) (p : Nat) {k j : Nat} (h : k ≤ j) : (DE Ed Fi Bg p k).length ≤ (DE Ed Fi Bg p j).length := by
 induction h with
 | refl => exact Nat.le_refl _
 | step h ih => rw [GN, List.length_append]; omega
theorem OT (Ed : List Aa) (Fi Bg : List Int) (m : Nat) {k j : Nat} (h : k ≤ j) : (DK Ed Fi Bg m k).length ≤ (DK Ed Fi Bg m j).length := by
 induction h with
 | refl => exact Nat.le_refl _
 | step h ih => rw [Db, List.length_append]; omega
theorem LJ (Ed : List Aa) (Fi Bg : List Int) (m N : Nat) {p k : Nat} (hp : p < N) (hk : k ≤ m) : (DK Ed Fi Bg m p ++ DE Ed Fi Bg p k).length ≤ (DK Ed Fi Bg m N).length := by
 have h1 := OT Ed Fi Bg m (show p + 1 ≤ N from hp)
 have h2 := Nr Ed Fi Bg p hk
 rw [Db, List.length_append] at h1
 rw [List.length_append]
 omega
theorem LE (Ed : List Aa) (Fi Bg : List Int) (p s : Nat) : (Fd Ed Fi Bg p s).length ≤ Ed.length + Bg.length := by
 have h : (Ar Ed p (s : Int)).length ≤ Ed.length := List.length_filter_le _ _
 unfold Fd
 split
 · rw [List.length_append, Bw]; omega
 · rw [Bw]; omega
theorem EX {ops : Array Oper} {rest : List Oper} {o : Oper} {a : Act} {Q : Exit → Act → World → Prop} {w : World} (hgd : o.guard = none) (s x : Operand)
 (ho : o.op = .call { callee := .builtin .append, args := #[s, x], argTypes := #[22, 22] }) (B : Nat) (v : Value) (X : List Int) (hs : a.eval s = v) (hown : w.ownsRow B 3 1 v X.length (X.map (Value.int .i64))) (ao : Option Addr) (n c : Nat) (Y : List Int) (hn : Y.length = n) (hz : ao = none → c = 0) (hx : a.eval x = .slice ao n c) (hr : BB w ao Y) (hl : X.length + Y.length ≤ 16777216) (hB : B ≤ w.heap.size)
 (h : ∀ v' w', Hid (w'.ownsRow B 3 1 v' (X ++ Y).length ((X ++ Y).map (Value.int .i64))) → Hid (Ab w w' (fun k => v.ownBlock = some k)) → wpList prog ops Q rest (a.put o.dst v') w') : wpList prog ops Q (o :: rest) a w := by
 obtain ⟨i3, hi3, hz30, hz31, hz32⟩ := AA Et
 subst hn
 cases ao with
 | none =>
  obtain rfl : Y = [] := by
   cases Y with
   | nil => rfl
   | cons y Y => obtain ⟨g, o, e, _⟩ := hr 0 (by simp); cases e
  obtain rfl := hz rfl
  refine wpList_append_own_none hgd s x 22 ho B 3 i3 1 underlying22 hi3 v X.length (X.map (Value.int .i64)) hs hown hx ?_
  exact h v w (A0 (by rw [List.append_nil]; exact hown)) (A0 (Ab.ofBelow (Below.refl _ _)))
 | some ad =>
  refine wpList_append_own _ hgd s x 22 ho B 3 i3 _ 1 8 underlying22 hi3 hz30 hz31 hz32 rfl (by omega) v X.length (X.map (Value.int .i64)) hs hown ad Y.length c (Y.map (Value.int .i64)) hx (by simp) (fun j u hu => ?_) (by simp [Value.oneCell']) (by unfold maxLen; omega) (by omega) hB ?_
  · have hj : j < Y.length := by
     have := (List.getElem?_eq_some_iff.1 hu).1
     simpa using this
    obtain ⟨g, o, e, q⟩ := hr j hj
    cases e
    rw [Addr.add_lit, q]
    rw [List.getElem?_map, List.getElem?_eq_getElem hj] at hu
    exact hu
  · intro v2 w2 h2 hgr _
    exact h v2 w2 (A0 (by rw [List.map_append, List.length_append]; exact h2)) (A0 (AL hgr))
structure P3 (wx : World) (E : List Aa) (v : Value) (wr : World) : Prop where
 ow : wr.ownsRow wx.heap.size 50 3 v E.length (E.flatMap Ae)
 be : Below wx.heap.size wx wr
 le : E.length ≤ 65536
theorem LF (E : List Aa) (Ed : List Aa) (Fi Bg : List Int) (p s : Nat) : Bm E (p : Int) (s : Int) (A5 (Fd Ed Fi Bg p s)) = E ++ G6 Ed Fi Bg p s := rfl
def OV (w : World) (E : List Aa) (e : Ending) (w' : World) : Prop :=
 if 65536 < E.length then e = .returned (.tuple #[.slice none 0 0, .int .i64 8]) ∧ Below w.heap.size w w'
 else ∃ v, e = .returned (.tuple #[v, .int .i64 0]) ∧ w'.ownsRow w.heap.size 50 3 v E.length (E.flatMap Ae) ∧ Below w.heap.size w w'
theorem JL {w w' : World} {E : List Aa} {e : Ending} (h : 65536 < E.length) (he : e = .returned (.tuple #[.slice none 0 0, .int .i64 8])) (d : Below w.heap.size w w') : OV w E e w' := by
 unfold OV
 rw [if_pos h]
 exact ⟨he, d⟩
theorem Og {w w' : World} {E : List Aa} {e : Ending} {v : Value} (h : E.length ≤ 65536) (he : e = .returned (.tuple #[v, .int .i64 0])) (o : w'.ownsRow w.heap.size 50 3 v E.length (E.flatMap Ae)) (d : Below w.heap.size w w') : OV w E e w' := by
 unfold OV
 rw [if_neg (by omega)]
 exact ⟨v, he, o, d⟩
theorem IL (w : World) (N m n1 n2 n3 : Nat) (a1 a2 a3 aB : Option Addr) (c1 c2 c3 nB cB : Nat) (Ed : List Aa) (Fi Bg : List Int) (e2 : Fi.length = n2) (e3 : Ed.length = n3) (eB : Bg.length = nB) (zB : aB = none → cB = 0) (hN : N ≤ 4096) (hm : m ≤ 128) (hE : Hid (Cl w a3 Ed)) (hfi : Hid (BB w a2 Fi)) (hBg : Hid (BB w aB Bg)) (h2 : n2 ≤ 2000000) (h3 : n3 ≤ 2000000) (hB : nB ≤ 2000000) (hS : Hid (Fc Ed)) (hF : Hid (∀ e ∈ Ed, (0 ≤ e.1 ∧ e.1 < (N : Int)) ∧ (0 ≤ e.2.1 ∧ e.2.1 < (m : Int)) ∧ (0 ≤ e.2.2 ∧ e.2.2 < (N : Int)))) (hG : Hid (∀ x ∈ Fi, ∃ q : Nat, q < N ∧ x = (q : Int))) :
 Calls prog 54 #[.agg #[.int .i64 (N : Int), .int .i64 (m : Int), .slice a1 n1 c1, .slice a2 n2 c2, .slice a3 n3 c3], .slice aB nB cB] w fun e w' => OV w (DK Ed Fi Bg m N) e w' := by
 obtain ⟨R, hR⟩ : ∃ R, N * m = R := ⟨_, rfl⟩
 have hRl : R ≤ 524288 := by rw [← hR]; exact Nat.le_trans (Nat.mul_le_mul hN hm) (by decide)
 obtain ⟨W0, hW0⟩ : ∃ W0, w.alloc (.cells #[.int .i64 (N : Int), .int .i64 (m : Int), .slice a1 n1 c1, .slice a2 n2 c2, .slice a3 n3 c3] 25) = W0 := ⟨_, rfl⟩
 have HD : Hid (W0.heap[w.heap.size]? = some (.cells #[.int .i64 (N : Int), .int .i64 (m : Int), .slice a1 n1 c1, .slice a2 n2 c2, .slice a3 n3 c3] 25 (0, 0)) ∧ Below w.heap.size w W0 ∧ W0.heap.size = w.heap.size + 1) := A0 (by rw [← hW0]; exact ⟨World.alloc_heap_new _ _, (Below.refl _ _).alloc (Nat.le_refl _) _, by simp⟩)
 have TR : Hid (∀ W : World, Below W0.heap.size W0 W → Calls prog 34 #[.agg #[.int .i64 (N : Int), .int .i64 (m : Int), .slice a1 n1 c1, .slice a2 n2 c2, .slice a3 n3 c3]] W fun e w' => ∃ aE cE g, e = .returned (.agg #[.int .i64 (m : Int), .slice aE n3 cE, .slice (some ⟨g, 0, none⟩) (R + 1) (R + 1)]) ∧ Hid (Fs W.heap.size w' m R Ed aE n3 cE g) ∧ Below W.heap.size W w') := A0 (fun W d => by
  have q := BW W N m a1 a2 a3 n1 n2 c1 c2 c3 Ed hN hm (A0 (hE.out.on (HD.out.2.1.trans (d.mono HD.out.2.1.size)))) (by omega) (A0 (fun e he => ⟨(hF.out e he).1, (hF.out e he).2.1⟩))
  rw [hR, e3] at q
  exact q)
 have TF : Hid (∀ W : World, Below W0.heap.size W0 W → Calls prog 38 #[.agg #[.int .i64 (N : Int), .int .i64 (m : Int), .slice a1 n1 c1, .slice a2 n2 c2, .slice a3 n3 c3]] W fun e w' => ∃ gf, e = .returned (.slice (some ⟨gf, 0, none⟩) N N) ∧ Hid (Bd w' gf 4 N (fun c => .bool (Ay Fi c)) N ∧ W.heap.size ≤ gf) ∧ Below W.heap.size W w') := A0 (fun W d => by
  have q := BL W N (m : Int) a1 a2 a3 c1 c2 c3 n1 n3 Fi (A0 (hfi.out.on (HD.out.2.1.trans (d.mono HD.out.2.1.size)))) hG (by omega) (by omega)
  rw [e2] at q
  exact q)
 have HR := A0 hR
 have HL := A0 (And.intro e2 (And.intro e3 eB))
 clear hR e2 e3 eB
 go_enter func54, ntmps54
 go_upto_region 1 with fail
 go_cut [6, 7] from 6 to 15 (fun v6 v7 W => ∃ p6 p7 aE cE g gf, v6 = .pointer (some ⟨p6, 0, none⟩) ∧ v7 = .pointer (some ⟨p7, 0, none⟩) ∧ Hid (P5 W0 W N m R n3 Ed Fi p6 p7 aE cE g gf))
 case first =>
  have hmo : AJ 0 [vI 0 (.agg #[.int .i64 (N : Int), .int .i64 (m : Int), .slice a1 n1 c1, .slice a2 n2 c2, .slice a3 n3 c3]), pI 1 (Pa m R n3 Ed), vI 2 (.agg #[.int .i64 (N : Int), .int .i64 (m : Int), .slice a1 n1 c1, .slice a2 n2 c2, .slice a3 n3 c3]), pI 3 (P6 N Fi), pI 4 (PR), pI 5 (PU)] := ⟨A2 _ _, Am K7, A2 _ _, Am Ko, Am L5, Am Lz, trivial⟩
  refine Aj _ (by kernel_rfl) (by kernel_rfl) (by kernel_rfl) (by kernel_rfl) hmo ⟨?o0, ?o1, ?o2, ?o3, ?o4, ?o5, trivial⟩ ?fin
  case o0 =>
   intro At yy W hy hb d hd K hK
   obtain ⟨s2, s2'⟩ := AG (hb 2 rfl : _ = .pointer (some ⟨w.heap.size, 0, none⟩))
   clear hd hy hb
   have bx := A3 HD.out.1 d
   obtain ⟨y0, y1, y2, y3, y4⟩ := An bx rfl rfl rfl rfl rfl
   clear bx
   go_simp
   exact Ak hK hmo d (if_pos rfl)
  case o1 =>
   intro At yy W hy hb d hd K hK
   obtain ⟨s12, s12'⟩ := Ao 0 12 .data hy hd rfl
   clear hd hy hb
   go_simp
   go_wp2_with (go_at_call 34; refine (TR.out _ d).mono ?_; rintro e wa ⟨aE, cE, g, rfl, hR, da⟩)
   exact hK.out _ wa (Av hmo d da) ⟨aE, cE, g, if_pos rfl, hR.out.down⟩
  case o2 =>
   intro At yy W hy hb d hd K hK
   obtain ⟨s2, s2'⟩ := AG (hb 2 rfl : _ = .pointer (some ⟨w.heap.size, 0, none⟩))
   clear hd hy hb
   have bx := A3 HD.out.1 d
   obtain ⟨y0, y1, y2, y3, y4⟩ := An bx rfl rfl rfl rfl rfl
   clear bx
   go_simp
   exact Ak hK hmo d (if_pos rfl)
  case o3 =>
   intro At yy W hy hb d hd K hK
   obtain ⟨s14, s14'⟩ := Ao 2 14 .data hy hd rfl
   clear hd hy hb
   go_simp
   go_wp2_with (go_at_call 38; refine (TF.out _ d).mono ?_; rintro e wa ⟨gf, rfl, hR, da⟩)
   exact hK.out _ wa (Av hmo d da) ⟨gf, if_pos rfl, hR.out.1⟩
  case o4 =>
   intro At yy W hy hb d hd K hK
   clear hd hy hb
   go_simp
   exact hK.out _ _ (Av hmo d ((Below.refl _ _).alloc (Nat.le_refl _) _)) ⟨if_pos rfl, by simp, World.alloc_heap_new _ _⟩
  case o5 =>
   intro At yy W hy hb d hd K hK
   clear hd hy hb
   go_simp
   exact hK.out _ _ (Av hmo d ((Below.refl _ _).alloc (Nat.le_refl _) _)) ⟨if_pos rfl, by simp, World.alloc_heap_new _ _⟩
  case fin =>
   intro yy lo hi W hM
   show wpList _ _ _ [_, _] _ _
   have e0 := hM.v 0 (by simp) rfl rfl rfl
   have e2 := hM.v 2 (by simp) rfl rfl rfl
   obtain ⟨aE, cE, g, e1, z1⟩ := hM.fact 1 (by simp) rfl (Ad 1 rfl)
   obtain ⟨gf, e3, z3⟩ := hM.fact 3 (by simp) rfl (Ad 3 rfl)
   obtain ⟨e4, l4, z4⟩ := hM.fact 4 (by simp) rfl (Ad 4 rfl)
   obtain ⟨e5, l5, z5⟩ := hM.fact 5 (by simp) rfl (Ad 5 rfl)
   have dd := hM.d
   have a4 := hM.at' 4 (by simp) rfl
   have a5 := hM.at' 5 (by simp) rfl
   simp only [Aw, Act.put, List.take, List.length, List.setIfInBounds_toArray, List.set_cons_zero, List.set_cons_succ, e0, e2, e1, e3, e4, e5]
   generalize lo 4 = p6 at z4 a4 l4 ⊢
   generalize lo 5 = p7 at z5 a5 l5 ⊢
   clear hM hmo e0 e2 e1 e3 e4 e5
   have HF := A0 (OK (m := m) z1 z3 z4 z5 dd a4.1 a5.1)
   clear z1 z3 dd
   have ne : p6 ≠ p7 := fun e => by rw [e, z5] at z4; cases z4
   obtain ⟨o0, o1, o2⟩ := Jt z4 rfl rfl rfl
   have f0 : W.frozen? ⟨p6, 0, none⟩ = false := A4 z4
   have f1 : W.frozen? ⟨p6, 1, none⟩ = false := A4 z4
   have f2 : W.frozen? ⟨p6, 2, none⟩ = false := A4 z4
   have q0 : W.cell? ⟨p7, 0, none⟩ = some (.slice none 0 0) := A1 z5 rfl
   have g0 : W.frozen? ⟨p7, 0, none⟩ = false := A4 z5
   clear z4 z5
   go_wp2_with fail
   go_meet
   exact ⟨p6, p7, aE, cE, g, gf, rfl, rfl, HF⟩
 case rest =>
  obtain ⟨p6, p7, aE, cE, g, gf, rfl, rfl, HA⟩ := hcut
  rename World => wx
  have y0 : wx.cell? ⟨w.heap.size, 0, none⟩ = some (.int .i64 (N : Int)) := A1 (A3 HD.out.1 HA.out.be) rfl
  have H0 : Hid (P3 wx (DK Ed Fi Bg m 0) (.slice none 0 0) wx) := A0 ⟨World.ownsRow_nil _ _ _ _, Below.refl _ _, Nat.zero_le _⟩
  clear TR TF
  go_wp2_with fail
  clear y0
  go_loopw [8, 18] (fun v8 v18 wr => ∃ p : Nat, p ≤ N ∧ v18 = .int .i64 (p : Int) ∧ Hid (P3 wx (DK Ed Fi Bg m p) v8 wr)) (fun _ v18 _ => N - (intOf v18).toNat)
  case atStart => exact ⟨0, Nat.zero_le _, rfl, H0⟩
  case round =>
   obtain ⟨p, hp, rfl, HY⟩ := hrel
   clear H0
   by_cases hpl : p < N
   · have i0 : (p : Int) < (N : Int) := by omega
     have y1 : wr.cell? ⟨w.heap.size, 1, none⟩ = some (.int .i64 (m : Int)) := A1 (A3 HD.out.1 (HA.out.on HY.out.be).be) rfl
     rename World => wo
     have H1 : Hid (P3 wx (DK Ed Fi Bg m p ++ DE Ed Fi Bg p 0) u8 wo) := A0 (by
      have q := HY.out
      rw [show DE Ed Fi Bg p 0 = [] from rfl, List.append_nil]
      exact q)
     clear HY
     go_wp2_with fail
     clear y1
     go_loopw [8, 23] (fun v8 v23 wr => ∃ s : Nat, s ≤ m ∧ v23 = .int .i64 (s : Int) ∧ Hid (P3 wx (DK Ed Fi Bg m p ++ DE Ed Fi Bg p s) v8 wr)) (fun _ v23 _ => m - (intOf v23).toNat)
     case atStart => exact ⟨0, Nat.zero_le _, rfl, H1⟩
     case round =>
      obtain ⟨s, hs, rfl, HI⟩ := hrel
      clear H1
      by_cases hsl : s < m
      · have j0 : (s : Int) < (m : Int) := by omega
        obtain ⟨k, hk⟩ : ∃ k, p * m + s = k := ⟨_, rfl⟩
        have hkR : k < R := by
         rw [← hk, ← HR.out]
         have : (p + 1) * m ≤ N * m := Nat.mul_le_mul_right _ hpl
         rw [Nat.add_mul, Nat.one_mul] at this
         omega
        have HAr := A0 (HA.out.on HI.out.be)
        obtain ⟨z0, z1, z2⟩ := Jt HAr.out.b6 rfl rfl rfl
        have TO := OD wr 0 m R p s n3 k aE cE g Ed HL.out.2.1 (A0 HAr.out.rw) hS (A0 (fun e he => (hF.out e he).2.1)) hsl hk hkR hRl (by omega)
        have HFr : Hid ((∀ x ∈ B5 (Ar Ed p (s : Int)), ∃ q : Nat, q < N ∧ x = (q : Int)) ∧ (Ar Ed p (s : Int)).length ≤ n3) := A0 ⟨fun x hx => by
         obtain ⟨e, he, rfl⟩ := List.mem_map.1 hx
         have q := (hF.out e (List.mem_filter.1 he).1).2.2
         obtain ⟨t, ht⟩ := Int.eq_ofNat_of_zero_le q.1
         exact ⟨t, by omega, ht⟩, by rw [← HL.out.2.1]; exact List.length_filter_le _ _⟩
        have HEn : Hid (Fd Ed Fi Bg p s = if (B5 (Ar Ed p (s : Int))).any (fun x => Ay Fi x.toNat) then B5 (Ar Ed p (s : Int)) ++ Bg else B5 (Ar Ed p (s : Int))) := A0 rfl
        have HTL := A0 (Bw (Ar Ed p (s : Int)))
        have HKK := A0 (And.intro hk hkR)
        clear hk hkR
        generalize B5 (Ar Ed p (s : Int)) = X at TO HFr HEn HTL
        generalize (Ar Ed p (s : Int)).length = nf at TO HFr HTL
        have hnf : nf ≤ 2000000 := by have := HFr.out.2; omega
        obtain ⟨y, hy⟩ : ∃ y, X.any (fun x => Ay Fi x.toNat) = y := ⟨_, rfl⟩
        rw [hy] at HEn
        have HYY := A0 hy
        clear hy
        go_wp2_with (go_at_call 41; refine TO.mono ?_; rintro e w1 ⟨ao, co, rfl, H1⟩)
        clear TO z0 z1 z2
        have T62 := KM w1 ao nf co X HTL.out (A0 (H1.out.1.on H1.out.2.2)) (by omega)
        go_wp2_with (go_at_call 73; refine T62.mono ?_; rintro e w2 ⟨v2, rfl, H2⟩; obtain ⟨b2, d2, rfl⟩ := A8 H2.out.1)
        clear T62
        have HB2 : Hid (Below wr.heap.size wr w2) := A0 (H1.out.2.2.trans (H2.out.2.mono H1.out.2.2.size))
        have T52 := Na w2 b2 d2 X p7 gf N (Ay Fi) (A0 (A1 (A3 HAr.out.b7 HB2.out) rfl)) (A0 (HAr.out.fi.below HB2.out HAr.out.fi.lt)) (A0 HFr.out.1) (A0 (AM (c := d2) (by rw [HTL.out]; exact H2.out.1))) (by rw [HTL.out]; omega)
        rw [HTL.out, HYY.out] at T52
        have G3 : Hid (∀ w3, Below w2.heap.size w2 w3 → w3.ownsRow wx.heap.size 3 1 (.slice b2 nf d2) nf (X.map (Value.int .i64)) ∧ Below wr.heap.size wr w3 ∧ wx.heap.size ≤ w3.heap.size) := A0 (fun w3 d3 => by
         have q1 := HI.out.be.size
         have q2 := H1.out.2.2.size
         have q3 := HB2.out.size
         have q4 := d3.size
         exact ⟨Ac (A6 H2.out.1 d3) (by omega), HB2.out.trans (d3.mono q3), by omega⟩)
        clear H1 HAr
        obtain ⟨E, hE'⟩ : ∃ E, DK Ed Fi Bg m p ++ DE Ed Fi Bg p s = E := ⟨_, rfl⟩
        have HEE : Hid (DK Ed Fi Bg m p ++ DE Ed Fi Bg p (s + 1) = Bm E (p : Int) (s : Int) (A5 (Fd Ed Fi Bg p s)) ∧ (DK Ed Fi Bg m p ++ DE Ed Fi Bg p (s + 1)).length ≤ (DK Ed Fi Bg m N).length) := A0 ⟨by rw [LF, ← hE', GN, List.append_assoc], LJ Ed Fi Bg m N hpl hsl⟩
        rw [hE'] at HI
        clear hE'
        have HEL : Hid ((Fd Ed Fi Bg p s).length ≤ 4194304) := A0 (by have q := LE Ed Fi Bg p s; have := HL.out; omega)
        generalize Fd Ed Fi Bg p s = Z at HEn HEE HEL
        have GI : Hid (∀ w3, Below wr.heap.size wr w3 → w3.ownsRow wx.heap.size 50 3 u8 E.length (E.flatMap Ae) ∧ Below wx.heap.size wx w3) := A0 (fun w3 d => ⟨A6 HI.out.ow d, HI.out.be.trans (d.mono HI.out.be.size)⟩)
        have HIl := A0 HI.out.le
        clear HI HFr HB2 H2
        obtain ⟨E2, hE2⟩ : ∃ E2, DK Ed Fi Bg m p ++ DE Ed Fi Bg p (s + 1) = E2 := ⟨_, rfl⟩
        rw [hE2] at HEE
        have HE2 := A0 hE2
        clear hE2
        have key : ∀ (v4 : Value) (w4 : World), Hid (w4.ownsRow wx.heap.size 3 1 v4 Z.length (Z.map (Value.int .i64))) → Hid (w4.ownsRow wx.heap.size 50 3 u8 E.length (E.flatMap Ae)) → Hid (Below wx.heap.size wx w4) → Calls prog 75 #[u8, .int .i64 (p : Int), .int .i64 (s : Int), v4] w4 fun e w' => ∃ b5 d5, e = .returned (.slice b5 E2.length d5) ∧ Hid (w'.ownsRow wx.heap.size 50 3 (.slice b5 E2.length d5) E2.length (E2.flatMap Ae) ∧ Below wx.heap.size wx w') := fun v4 w4 o1 o2 o3 => by
         refine (LM w4 wx.heap.size u8 v4 E (p : Int) (s : Int) Z.length Z rfl o2 o1 o3.out.size HEL.out (by have := HIl.out; omega)).mono ?_
         rintro e w5 ⟨v5, rfl, H5⟩
         rw [HEE.out.1]
         obtain ⟨b5, d5, rfl⟩ := A8 H5.out.1
         exact ⟨b5, d5, rfl, A0 ⟨H5.out.1, o3.out.trans H5.out.2⟩⟩
        have HK2 := A0 key
        clear key
        have HZ := A0 HEE.out.2
        clear HEE HEL
        cases y with
        | true =>
         obtain rfl := HTL.out
         go_wp2_with (first
          | (go_at_call 28; refine T52.mono ?_; rintro e w3 ⟨rfl, d3⟩; have H3 := A0 (G3.out w3 d3); have HI3 := A0 (GI.out w3 H3.out.2.1); clear d3)
          | (at_builtin; refine EX rfl _ _ rfl wx.heap.size (.slice b2 X.length d2) X rfl H3.out.1 aB nB cB Bg HL.out.2.2 zB rfl (hBg.out.on (HD.out.2.1.trans ((HA.out.be.trans (HI3.out.2.mono HA.out.be.size)).mono HD.out.2.1.size))) (by have := HL.out.2.2; omega) H3.out.2.2 ?_; intro v4 w4 HO4 HG4))
         have T := HK2.out v4 w4 (A0 (by rw [HEn.out]; exact HO4.out)) (A0 (A9 HI3.out.1 HG4.out (fun k hk hk2 => Ai HI3.out.1 H3.out.1 (by decide) hk hk2))) (A0 (HI3.out.2.trans (HG4.out.toBelow H3.out.2.2 (fun k hk => (H3.out.1.lt k hk).1))))
         by_cases hbig : 65536 < E2.length
         · have jb : (65536 : Int) < (E2.length : Int) := by omega
           go_wp2_with (go_at_call 75; refine T.mono ?_; rintro e w5 ⟨b5, d5, rfl, H5⟩)
           refine bodyPost_ret (results_tmp2 rfl _ _ _) rfl ?_
           refine JL (Nat.lt_of_lt_of_le hbig HZ.out) rfl ?_
           have q := HA.out.be.trans (H5.out.2.mono HA.out.be.size)
           exact HD.out.2.1.trans (q.mono HD.out.2.1.size)
         · have jb : ¬ (65536 : Int) < (E2.length : Int) := by omega
           go_wp2_with (go_at_call 75; refine T.mono ?_; rintro e w5 ⟨b5, d5, rfl, H5⟩)
           refine ⟨⟨s + 1, by omega, by go_num, A0 (by rw [HE2.out]; exact ⟨H5.out.1, H5.out.2, by omega⟩)⟩, by simp [intOf]; omega⟩
        | false =>
         go_wp2_with (go_at_call 28; refine T52.mono ?_; rintro e w3 ⟨rfl, d3⟩; have H3 := A0 (G3.out w3 d3); have HI3 := A0 (GI.out w3 H3.out.2.1); clear d3)
         have T := HK2.out (.slice b2 nf d2) w3 (A0 (by rw [HEn.out, if_neg (by decide), HTL.out]; exact H3.out.1)) (A0 HI3.out.1) (A0 HI3.out.2)
         by_cases hbig : 65536 < E2.length
         · have jb : (65536 : Int) < (E2.length : Int) := by omega
           go_wp2_with (go_at_call 75; refine T.mono ?_; rintro e w5 ⟨b5, d5, rfl, H5⟩)
           refine bodyPost_ret (results_tmp2 rfl _ _ _) rfl ?_
           refine JL (Nat.lt_of_lt_of_le hbig HZ.out) rfl ?_
           have q := HA.out.be.trans (H5.out.2.mono HA.out.be.size)
           exact HD.out.2.1.trans (q.mono HD.out.2.1.size)
         · have jb : ¬ (65536 : Int) < (E2.length : Int) := by omega
           go_wp2_with (go_at_call 75; refine T.mono ?_; rintro e w5 ⟨b5, d5, rfl, H5⟩)
           refine ⟨⟨s + 1, by omega, by go_num, A0 (by rw [HE2.out]; exact ⟨H5.out.1, H5.out.2, by omega⟩)⟩, by simp [intOf]; omega⟩
      · obtain rfl : m = s := by omega
        have j0 : ¬ (m : Int) < (m : Int) := by omega
        have HN : Hid (P3 wx (DK Ed Fi Bg m (p + 1)) u8 wr) := A0 (by rw [Db]; exact HI.out)
        clear HI
        go_wp2_with fail
        refine ⟨⟨p + 1, by omega, by go_num, HN⟩, by simp [intOf]; omega⟩
   · obtain rfl : N = p := by omega
     have i0 : ¬ (N : Int) < (N : Int) := by omega
     go_wp2_with fail
     refine bodyPost_ret (results_tmp2 rfl _ _ _) rfl ?_
     have q := HA.out.be.trans (HY.out.be.mono HA.out.be.size)
     have s1 := HD.out.2.2
     have s2 := HA.out.be.size
     exact Og HY.out.le rfl (Ac HY.out.ow (by omega)) (HD.out.2.1.trans (q.mono HD.out.2.1.size))
def AS (L : List Int) (b : Int) : List Int := L.map (· + b)
theorem Bs (L : List Int) (b : Int) : (AS L b).length = L.length := by simp [AS]
theorem MB {W : World} {B H n : Nat} {K : List Int} (h : Bd W H 3 n (fun c => .int .i64 (K.getD c 0)) n) (hK : K.length = n) (hB : B ≤ H) (hn : n ≤ maxLen) : W.ownsRow B 3 1 (.slice (some ⟨H, 0, none⟩) n n) n (K.map (Value.int .i64)) := by
 obtain ⟨cur, h1, h2, h3⟩ := h
 refine ⟨by simp [hK], .inr ⟨H, n, cur, rfl, hB, h1, Nat.le_refl _, hn, by omega, ?_⟩⟩
 rw [Nat.mul_one, List.take_of_length_le (by simp; omega)]
 apply List.ext_getElem?
 intro j
 by_cases hj : j < n
 · rw [Array.getElem?_toList, h3 j hj, List.getElem?_map, List.getElem?_eq_getElem (by omega)]
   simp [List.getD, List.getElem?_eq_getElem (show j < K.length by omega)]
 · rw [List.getElem?_eq_none (by simp; omega), List.getElem?_eq_none (by simp; omega)]
theorem G0 (w : World) (ao : Option Addr) (n c : Nat) (L : List Int) (b : Int) (hn : L.length = n) (hA : Hid (BB w ao L)) (hl : n ≤ 4194304) (hb : 0 ≤ b ∧ b ≤ 4194304) (hin : Hid (∀ x ∈ L, 0 ≤ x ∧ x ≤ 4194304)) :
 Calls prog 57 #[.slice ao n c, .int .i64 b] w fun e w' => ∃ g, e = .returned (.slice (some ⟨g, 0, none⟩) n n) ∧ Hid (w'.ownsRow w.heap.size 3 1 (.slice (some ⟨g, 0, none⟩) n n) n ((AS L b).map (Value.int .i64)) ∧ Below w.heap.size w w') := by
 have HN := A0 hn
 clear hn
 obtain ⟨i9, hi9, hz90, hz91, hz92⟩ := AA Et
 go_enter func57, ntmps57
 go_upto_region 2 with (at_make; refine wpList_make_full _ rfl _ _ 22 rfl w.heap.size 3 i9 (.int .i64 0) 1 underlying22 hi9 hz90 hz91 _ _ _ _ n rfl rfl (by go_num) (by go_num) (by rw [hz92]; omega) (by unfold maxLen; omega) (Nat.le_refl _) ?_; intro w6 ho hg)
 have D6 : Below w.heap.size w w6 := (Below.refl _ _).grown hg (Nat.le_refl _) (by intro k hk; cases hk)
 have M6 : Bd w6 w.heap.size 3 n (fun c => .int .i64 ((AS L b).getD c 0)) 0 := by
  have q := Bd.ofRow (fun c => .int .i64 ((AS L b).getD c 0)) ho
  rw [Nat.mul_one] at q
  exact q
 have H6 := A0 (And.intro M6 D6)
 clear ho hg D6 M6
 go_wp2_with fail
 go_loopw [13] (fun iv wr => ∃ i : Nat, i ≤ n ∧ iv = .int .i64 (i : Int) ∧ Hid (Bd wr w.heap.size 3 n (fun c => .int .i64 ((AS L b).getD c 0)) i ∧ Below w.heap.size w wr)) (fun iv _ => n - (intOf iv).toNat)
 case atStart => exact ⟨0, Nat.zero_le _, rfl, H6⟩
 case round =>
  obtain ⟨i, hi, rfl, HY⟩ := hrel
  clear H6
  by_cases hlt : i < n
  · have l0 : (i : Int) < (n : Int) := by omega
    have i0 : (0 : Int) ≤ (i : Int) := by omega
    have hil : i < L.length := by have := HN.out; omega
    obtain ⟨g, o, ea, ca⟩ := (hA.out.on HY.out.2) i hil
    subst ea
    have hx := hin.out _ (List.getElem_mem hil)
    have HV : Hid ((AS L b).getD i 0 = L[i] + b) := A0 (by simp [AS, List.getD, List.getElem?_eq_getElem hil])
    generalize L[i] = x at ca hx HV
    have ew : IntKind.i64.wrap (x + b) = x + b := by rw [IntKind.wrap_i64]; omega
    obtain ⟨u, cu⟩ := HY.out.1.cell i hlt
    have zu := HY.out.1.fz i
    have J : Hid (Bd (wr.setCell ⟨w.heap.size, i, none⟩ (.int .i64 (x + b))) w.heap.size 3 n (fun c => .int .i64 ((AS L b).getD c 0)) (i + 1) ∧ Below w.heap.size w (wr.setCell ⟨w.heap.size, i, none⟩ (.int .i64 (x + b)))) := A0 ⟨HY.out.1.put hlt _ (by rw [HV.out]), HY.out.2.setCell (Nat.le_refl _) _⟩
    clear HY
    go_wp2_with fail
    go_roundw
    case rel => exact ⟨i + 1, by omega, by go_num, J⟩
    case measure => simp [intOf]; omega
  · have l0 : ¬ (i : Int) < (n : Int) := by omega
    obtain rfl : i = n := by omega
    have J := A0 (And.intro (MB HY.out.1 ((Bs L b).trans HN.out) (Nat.le_refl _) (by unfold maxLen; omega)) HY.out.2)
    clear HY
    go_wp2_with fail
    go_ret
    exact ⟨_, rfl, J⟩
def CC (L : List Aa) (b : Int) : List Aa := L.map fun e => (e.1 + b, e.2.1, e.2.2 + b)
theorem Iq (L : List Aa) (b : Int) : (CC L b).length = L.length := by simp [CC]
theorem Ks (L : List Aa) (b : Int) (i : Nat) (h : i < L.length) : CC (L.take (i + 1)) b = CC (L.take i) b ++ [(L[i].1 + b, L[i].2.1, L[i].2.2 + b)] := by
 unfold CC
 rw [List.take_succ_eq_append_getElem h, List.map_append]
 rfl
structure Mk (w W : World) (p : Nat) (n m : Int) (v1 v2 v3 : Value) (S F : List Int) (E : List Aa) : Prop where
 bx : W.heap[p]? = some (.cells #[.int .i64 n, .int .i64 m, v1, v2, v3] 25 (0, 0))
 ge : w.heap.size ≤ p
 ow : AE w.heap.size W v1 v2 v3 S F E
 be : Below w.heap.size w W
theorem O4 {w W : World} {p : Nat} {n m : Int} {v1 v2 : Value} {S F : List Int} (z : W.heap[p]? = some (.cells #[.int .i64 0, .int .i64 0, .slice none 0 0, .slice none 0 0, .slice none 0 0] 25 (0, 0))) (d : Below w.heap.size w W) (hp : w.heap.size ≤ p) (o : AE w.heap.size W v1 v2 (.slice none 0 0) S F []) :
 Mk w (((((W.setCell ⟨p, 0, none⟩ (.int .i64 n)).setCell ⟨p, 1, none⟩ (.int .i64 m)).setCell ⟨p, 2, none⟩ v1).setCell ⟨p, 3, none⟩ v2).setCell ⟨p, 4, none⟩ (.slice none 0 0)) p n m v1 v2 (.slice none 0 0) S F [] := by
 have o5 := AF W p (.int .i64 n) (.int .i64 m) v1 v2 (.slice none 0 0)
 exact ⟨AT W p _ _ _ _ _ (.int .i64 n) (.int .i64 m) v1 v2 (.slice none 0 0) 25 z, hp, o.keep z o5, d.trans (o5.toBelow d.size (fun k hk => by rw [hk]; exact hp))⟩
theorem Mr {w wr w5 : World} {p : Nat} {n m : Int} {v1 v2 v3 v5 : Value} {S F : List Int} {X Y : List Aa} {cs1 cs2 : Array Value} (h : Mk w wr p n m v1 v2 v3 S F X) (o : w5.ownsRow w.heap.size 50 3 v5 Y.length (Y.flatMap Ae)) (oo : Ab ((wr.alloc (.cells cs1 50)).alloc (.cells cs2 50)) w5 (fun k => v3.ownBlock = some k)) :
 w5.heap[p]? = some (.cells #[.int .i64 n, .int .i64 m, v1, v2, v3] 25 (0, 0)) ∧ Mk w (w5.setCell ⟨p, 4, none⟩ v5) p n m v1 v2 v5 S F Y := by
 have d1 : Below wr.heap.size wr ((wr.alloc (.cells cs1 50)).alloc (.cells cs2 50)) := ((Below.refl _ _).alloc (Nat.le_refl _) _).alloc (by simp) _
 have s2 := A6 h.ow.s d1
 have f2 := A6 h.ow.f d1
 have e2 := A6 h.ow.e d1
 have b2 := A3 h.bx d1
 have b5 := (oo.block p (Array.getElem?_eq_some_iff.1 b2).1 (fun hk => BO e2 b2 (by decide) hk)).trans b2
 have s5 := A9 s2 oo (fun k hk hk2 => Ai e2 s2 (by decide) hk2 hk)
 have f5 := A9 f2 oo (fun k hk hk2 => Ai e2 f2 (by decide) hk2 hk)
 have o2 := Ah w5 p 4 v5
 have dd := h.be.trans (d1.mono h.be.size)
 have d5 := dd.trans (oo.toBelow dd.size (fun k hk => (e2.lt k hk).1))
 exact ⟨b5, heap_setCell_same _ _ 4 _ 25 _ b5, h.ge, ⟨Ap s5 b5 (by decide) o2, Ap f5 b5 (by decide) o2, Ap o b5 (by decide) o2, h.ow.ne⟩, d5.trans (o2.toBelow d5.size (fun k hk => by rw [hk]; exact h.ge))⟩
theorem KQ (w : World) (N n1 n2 n3 : Nat) (m b : Int) (a1 a2 a3 : Option Addr) (c1 c2 c3 : Nat) (St Fi : List Int) (Ed : List Aa) (e1 : St.length = n1) (e2 : Fi.length = n2) (e3 : Ed.length = n3) (hA : Hid (AP w a1 a2 a3 St Fi Ed)) (h1 : n1 ≤ 2000000) (h2 : n2 ≤ 2000000) (h3 : n3 ≤ 2000000) (hN : N ≤ 4096) (hb : 0 ≤ b ∧ b ≤ 4096) (hS : Hid (∀ x ∈ St, 0 ≤ x ∧ x ≤ 4096)) (hF : Hid (∀ x ∈ Fi, 0 ≤ x ∧ x ≤ 4096)) (hE : Hid (∀ e ∈ Ed, (0 ≤ e.1 ∧ e.1 ≤ 4096) ∧ 0 ≤ e.2.2 ∧ e.2.2 ≤ 4096)) :
 Calls prog 33 #[.agg #[.int .i64 (N : Int), .int .i64 m, .slice a1 n1 c1, .slice a2 n2 c2, .slice a3 n3 c3], .int .i64 b] w fun e w' => ∃ b1 k1 b2 k2 b3 k3, e = .returned (.agg #[.int .i64 ((N : Int) + b), .int .i64 m, .slice b1 n1 k1, .slice b2 n2 k2, .slice b3 n3 k3]) ∧ Hid (AE w.heap.size w' (.slice b1 n1 k1) (.slice b2 n2 k2) (.slice b3 n3 k3) (AS St b) (AS Fi b) (CC Ed b) ∧ Below w.heap.size w w') := by
 obtain ⟨W0, hW0⟩ : ∃ W0, (w.alloc (.cells #[.int .i64 (N : Int), .int .i64 m, .slice a1 n1 c1, .slice a2 n2 c2, .slice a3 n3 c3] 25)).alloc (.cells #[.int .i64 0, .int .i64 0, .slice none 0 0, .slice none 0 0, .slice none 0 0] 25) = W0 := ⟨_, rfl⟩
 have HD := A0 (Br w #[.int .i64 (N : Int), .int .i64 m, .slice a1 n1 c1, .slice a2 n2 c2, .slice a3 n3 c3] #[.int .i64 0, .int .i64 0, .slice none 0 0, .slice none 0 0, .slice none 0 0] 25)
 rw [hW0] at HD
 have SK : Hid (∀ W, Below W0.heap.size W0 W → W.cell? ⟨w.heap.size, 0, none⟩ = some (.int .i64 (N : Int)) ∧ W.cell? ⟨w.heap.size, 1, none⟩ = some (.int .i64 m) ∧ W.cell? ⟨w.heap.size, 2, none⟩ = some (.slice a1 n1 c1) ∧ W.cell? ⟨w.heap.size, 3, none⟩ = some (.slice a2 n2 c2) ∧ W.cell? ⟨w.heap.size, 4, none⟩ = some (.slice a3 n3 c3)) := A0 (fun W d => by
  have e := A3 HD.out.2.1 d
  exact ⟨A1 e rfl, A1 e rfl, A1 e rfl, A1 e rfl, A1 e rfl⟩)
 have T1 : Hid (∀ W, Below W0.heap.size W0 W → Calls prog 57 #[.slice a1 n1 c1, .int .i64 b] W fun e w' => ∃ g, e = .returned (.slice (some ⟨g, 0, none⟩) n1 n1) ∧ Hid (w'.ownsRow W.heap.size 3 1 (.slice (some ⟨g, 0, none⟩) n1 n1) n1 ((AS St b).map (Value.int .i64)) ∧ Below W.heap.size W w')) := A0 (fun W d => G0 W a1 n1 c1 St b e1 (A0 (hA.out.s.on (HD.out.1.trans (d.mono HD.out.1.size)))) (by omega) (by omega) (A0 (fun x hx => by have := hS.out x hx; omega)))
 have T2 : Hid (∀ W, Below W0.heap.size W0 W → Calls prog 57 #[.slice a2 n2 c2, .int .i64 b] W fun e w' => ∃ g, e = .returned (.slice (some ⟨g, 0, none⟩) n2 n2) ∧ Hid (w'.ownsRow W.heap.size 3 1 (.slice (some ⟨g, 0, none⟩) n2 n2) n2 ((AS Fi b).map (Value.int .i64)) ∧ Below W.heap.size W w')) := A0 (fun W d => G0 W a2 n2 c2 Fi b e2 (A0 (hA.out.f.on (HD.out.1.trans (d.mono HD.out.1.size)))) (by omega) (by omega) (A0 (fun x hx => by have := hF.out x hx; omega)))
 have HL := A0 (And.intro e1 (And.intro e2 e3))
 have ew : IntKind.i64.wrap ((N : Int) + b) = (N : Int) + b := by rw [IntKind.wrap_i64]; omega
 clear e1 e2 e3
 go_enter func33, ntmps33
 go_upto_region 1 with fail
 go_cut [5] from 5 to 22 (fun v5 W => ∃ p5 b1 k1 b2 k2, v5 = .pointer (some ⟨p5, 0, none⟩) ∧ Hid (Mk W0 W p5 ((N : Int) + b) m (.slice b1 n1 k1) (.slice b2 n2 k2) (.slice none 0 0) (AS St b) (AS Fi b) []))
 case first =>
  have hmo : AJ 0 [vI 0 (.pointer (some ⟨w.heap.size, 0, none⟩)), vI 1 (.int .i64 (N : Int)), vI 2 (.int .i64 b), vI 3 (.int .i64 ((N : Int) + b)), vI 4 (.pointer (some ⟨w.heap.size, 1, none⟩)), vI 5 (.int .i64 m), vI 6 (.pointer (some ⟨w.heap.size, 2, none⟩)), vI 7 (.slice a1 n1 c1), vI 8 (.int .i64 b), pI 9 (DL (AS St b)), vI 10 (.pointer (some ⟨w.heap.size, 3, none⟩)), vI 11 (.slice a2 n2 c2), vI 12 (.int .i64 b), pI 13 (DL (AS Fi b)), ⟨[9, 13], [], fun y _ _ _ => y 14 = .agg #[.int .i64 ((N : Int) + b), .int .i64 m, y 9, y 13, .slice none 0 0]⟩, pI 15 (Pr)] := ⟨A2 _ _, A2 _ _, A2 _ _, A2 _ _, A2 _ _, A2 _ _, A2 _ _, A2 _ _, A2 _ _, Am Bq, A2 _ _, A2 _ _, A2 _ _, Am Bq, (fun _ _ _ _ _ _ _ _ hy h => by dsimp only at hy h ⊢; rw [hy 14 (Or.inl rfl), hy 9 (Or.inr (by simp)), hy 13 (Or.inr (by simp))]; exact h), Am Kc, trivial⟩
  refine Aj _ (by kernel_rfl) (by kernel_rfl) (by kernel_rfl) (by kernel_rfl) hmo ⟨?o0, ?o1, ?o2, ?o3, ?o4, ?o5, ?o6, ?o7, ?o8, ?o9, ?o10, ?o11, ?o12, ?o13, ?o14, ?o15, trivial⟩ ?fin
  case o0 =>
   intro At yy W hy hb d hd K hK
   obtain ⟨s2, s2'⟩ := AG (hb 2 rfl : _ = .pointer (some ⟨w.heap.size, 0, none⟩))
   clear hd hy hb
   go_simp
   exact Ak hK hmo d (if_pos rfl)
  case o1 =>
   intro At yy W hy hb d hd K hK
   obtain ⟨s8, s8'⟩ := Ao 0 8 .data hy hd rfl
   clear hd hy hb
   obtain ⟨y0, y1, y2, y3, y4⟩ := SK.out W d
   go_simp
   exact Ak hK hmo d (if_pos rfl)
  case o2 =>
   intro At yy W hy hb d hd K hK
   obtain ⟨s1, s1'⟩ := AG (hb 1 rfl : _ = .int .i64 b)
   clear hd hy hb
   go_simp
   exact Ak hK hmo d (if_pos rfl)
  case o3 =>
   intro At yy W hy hb d hd K hK
   obtain ⟨s9, s9'⟩ := Ao 1 9 .data hy hd rfl
   obtain ⟨s10, s10'⟩ := Ao 2 10 .data hy hd rfl
   clear hd hy hb
   go_simp
   exact Ak hK hmo d (if_pos rfl)
  case o4 =>
   intro At yy W hy hb d hd K hK
   obtain ⟨s2, s2'⟩ := AG (hb 2 rfl : _ = .pointer (some ⟨w.heap.size, 0, none⟩))
   clear hd hy hb
   go_simp
   exact Ak hK hmo d (if_pos rfl)
  case o5 =>
   intro At yy W hy hb d hd K hK
   obtain ⟨s12, s12'⟩ := Ao 4 12 .data hy hd rfl
   clear hd hy hb
   obtain ⟨y0, y1, y2, y3, y4⟩ := SK.out W d
   go_simp
   exact Ak hK hmo d (if_pos rfl)
  case o6 =>
   intro At yy W hy hb d hd K hK
   obtain ⟨s2, s2'⟩ := AG (hb 2 rfl : _ = .pointer (some ⟨w.heap.size, 0, none⟩))
   clear hd hy hb
   go_simp
   exact Ak hK hmo d (if_pos rfl)
  case o7 =>
   intro At yy W hy hb d hd K hK
   obtain ⟨s14, s14'⟩ := Ao 6 14 .data hy hd rfl
   clear hd hy hb
   obtain ⟨y0, y1, y2, y3, y4⟩ := SK.out W d
   go_simp
   exact Ak hK hmo d (if_pos rfl)
  case o8 =>
   intro At yy W hy hb d hd K hK
   obtain ⟨s1, s1'⟩ := AG (hb 1 rfl : _ = .int .i64 b)
   clear hd hy hb
   go_simp
   exact Ak hK hmo d (if_pos rfl)
  case o9 =>
   intro At yy W hy hb d hd K hK
   obtain ⟨s15, s15'⟩ := Ao 7 15 .data hy hd rfl
   obtain ⟨s16, s16'⟩ := Ao 8 16 .data hy hd rfl
   clear hd hy hb
   go_simp
   go_wp2_with (go_at_call 57; refine (T1.out _ d).mono ?_; rintro e wa ⟨g, rfl, hR⟩)
   exact hK.out _ wa (Av hmo d hR.out.2) (BU (if_pos rfl) (by rw [Bs, HL.out.1]; exact hR.out.1))
  case o10 =>
   intro At yy W hy hb d hd K hK
   obtain ⟨s2, s2'⟩ := AG (hb 2 rfl : _ = .pointer (some ⟨w.heap.size, 0, none⟩))
   clear hd hy hb
   go_simp
   exact Ak hK hmo d (if_pos rfl)
  case o11 =>
   intro At yy W hy hb d hd K hK
   obtain ⟨s18, s18'⟩ := Ao 10 18 .data hy hd rfl
   clear hd hy hb
   obtain ⟨y0, y1, y2, y3, y4⟩ := SK.out W d
   go_simp
   exact Ak hK hmo d (if_pos rfl)
  case o12 =>
   intro At yy W hy hb d hd K hK
   obtain ⟨s1, s1'⟩ := AG (hb 1 rfl : _ = .int .i64 b)
   clear hd hy hb
   go_simp
   exact Ak hK hmo d (if_pos rfl)
  case o13 =>
   intro At yy W hy hb d hd K hK
   obtain ⟨s19, s19'⟩ := Ao 11 19 .data hy hd rfl
   obtain ⟨s20, s20'⟩ := Ao 12 20 .data hy hd rfl
   clear hd hy hb
   go_simp
   go_wp2_with (go_at_call 57; refine (T2.out _ d).mono ?_; rintro e wa ⟨g, rfl, hR⟩)
   exact hK.out _ wa (Av hmo d hR.out.2) (BU (if_pos rfl) (by rw [Bs, HL.out.2.1]; exact hR.out.1))
  case o14 =>
   intro At yy W hy hb d hd K hK
   have f9 := hd ⟨9, .data⟩ (by simp) rfl rfl
   have f13 := hd ⟨13, .data⟩ (by simp) rfl rfl
   obtain ⟨_, _, _, _, o9, _⟩ := f9
   obtain ⟨_, _, _, _, o13, _⟩ := f13
   obtain ⟨b1, k1, e9⟩ := A8 o9
   obtain ⟨b2, k2, e13⟩ := A8 o13
   obtain ⟨s11, s11'⟩ := Ao 3 11 .data hy hd rfl
   obtain ⟨s13, s13'⟩ := Ao 5 13 .data hy hd rfl
   obtain ⟨s17, s17'⟩ := AG ((hy 9 _ 17 rfl rfl).trans e9)
   obtain ⟨s21, s21'⟩ := AG ((hy 13 _ 21 rfl rfl).trans e13)
   clear hd hy hb
   go_simp
   exact Ak hK hmo d (by show AK yy 14 _ 14 = .agg #[.int .i64 ((N : Int) + b), .int .i64 m, AK yy 14 _ 9, AK yy 14 _ 13, .slice none 0 0]; simp [AK, e9, e13])
  case o15 =>
   intro At yy W hy hb d hd K hK
   clear hd hy hb
   go_simp
   exact hK.out _ _ (Av hmo d ((Below.refl _ _).alloc (Nat.le_refl _) _)) ⟨if_pos rfl, by simp, World.alloc_heap_new _ _⟩
  case fin =>
   intro yy lo hi W hM
   show wpList _ _ _ [_] _ _
   have e0 := hM.v 0 (by simp) rfl rfl rfl
   have e1 := hM.v 1 (by simp) rfl rfl rfl
   have e2 := hM.v 2 (by simp) rfl rfl rfl
   have e3 := hM.v 3 (by simp) rfl rfl rfl
   have e4 := hM.v 4 (by simp) rfl rfl rfl
   have e5 := hM.v 5 (by simp) rfl rfl rfl
   have e6 := hM.v 6 (by simp) rfl rfl rfl
   have e7 := hM.v 7 (by simp) rfl rfl rfl
   have e8 := hM.v 8 (by simp) rfl rfl rfl
   have e10 := hM.v 10 (by simp) rfl rfl rfl
   have e11 := hM.v 11 (by simp) rfl rfl rfl
   have e12 := hM.v 12 (by simp) rfl rfl rfl
   have e14 : yy 14 = .agg #[.int .i64 ((N : Int) + b), .int .i64 m, yy 9, yy 13, .slice none 0 0] := hM.fact 14 (by simp) rfl (Ad 14 rfl)
   obtain ⟨o9, l9⟩ := hM.fact 9 (by simp) rfl (Ad 9 rfl)
   obtain ⟨o13, l13⟩ := hM.fact 13 (by simp) rfl (Ad 13 rfl)
   obtain ⟨e15, l15, z15⟩ := hM.fact 15 (by simp) rfl (Ad 15 rfl)
   have t9 := hM.at' 9 (by simp) rfl
   have t13 := hM.at' 13 (by simp) rfl
   have t15 := hM.at' 15 (by simp) rfl
   have ap := hM.apart 9 13 (by simp) (by simp) rfl rfl (by decide)
   have dd := hM.d
   have HOO : AE W0.heap.size W (yy 9) (yy 13) (.slice none 0 0) (AS St b) (AS Fi b) [] := Fr o9 o13 (World.ownsRow_nil W W0.heap.size _ _) l9 l13 (by omega) (by omega) (by omega) ap
   obtain ⟨b1, k1, e9⟩ := A8 o9
   obtain ⟨b2, k2, e13⟩ := A8 o13
   rw [e9, e13] at HOO e14
   rw [Bs, HL.out.1] at e9
   rw [Bs, HL.out.2.1] at e13
   rw [Bs, Bs, HL.out.1, HL.out.2.1] at HOO e14
   generalize lo 15 = p5 at e15 z15 t15 l15
   obtain ⟨o0', o1', o2', o3', o4'⟩ := An z15 rfl rfl rfl rfl rfl
   have g0 : W.frozen? ⟨p5, 0, none⟩ = false := A4 z15
   have g1 : W.frozen? ⟨p5, 1, none⟩ = false := A4 z15
   have g2 : W.frozen? ⟨p5, 2, none⟩ = false := A4 z15
   have g3 : W.frozen? ⟨p5, 3, none⟩ = false := A4 z15
   have g4 : W.frozen? ⟨p5, 4, none⟩ = false := A4 z15
   have HF := A0 (O4 (n := (N : Int) + b) (m := m) z15 dd t15.1 HOO)
   simp only [Aw, Act.put, List.take, List.length, List.setIfInBounds_toArray, List.set_cons_zero, List.set_cons_succ, e0, e1, e2, e3, e4, e5, e6, e7, e8, e10, e11, e12, e9, e13, e14, e15]
   clear hM hmo e0 e1 e2 e3 e4 e5 e6 e7 e8 e10 e11 e12 e9 e13 e14 e15 o9 o13 l9 l13 l15 z15 t9 t13 t15 ap dd HOO
   go_wp2_with fail
   go_meet
   exact ⟨p5, b1, k1, b2, k2, rfl, HF⟩
 case rest =>
  obtain ⟨p5, b1, k1, b2, k2, rfl, HA⟩ := hcut
  rename World => wx
  clear T1 T2
  have y4 := (SK.out wx HA.out.be).2.2.2.2
  go_wp2_with fail
  clear y4
  go_loopw [26] (fun iv wr => ∃ i : Nat, i ≤ n3 ∧ iv = .int .i64 (i : Int) ∧ ∃ b3 k3, Hid (Mk W0 wr p5 ((N : Int) + b) m (.slice b1 n1 k1) (.slice b2 n2 k2) (.slice b3 i k3) (AS St b) (AS Fi b) (CC (Ed.take i) b))) (fun iv _ => n3 - (intOf iv).toNat)
  case atStart => exact ⟨0, Nat.zero_le _, rfl, none, 0, HA⟩
  case round =>
   obtain ⟨i, hi, rfl, b3, k3, HY⟩ := hrel
   clear HA
   by_cases hil : i < n3
   · have i0 : (0 : Int) ≤ (i : Int) := by omega
     have i1 : (i : Int) < (n3 : Int) := by omega
     have hjl : i < Ed.length := by have := HL.out.2.2; omega
     obtain ⟨ge, o, ea, q1, q2, q3⟩ := (hA.out.e.on (HD.out.1.trans (HY.out.be.mono HD.out.1.size))) i hjl
     subst ea
     have HT := A0 (Ks Ed b i hjl)
     have hx := hE.out _ (List.getElem_mem hjl)
     generalize Ed[i] = x at q1 q2 q3 HT hx
     obtain ⟨x1, x2, x3⟩ := x
     simp only at q1 q2 q3 hx
     have HT2 : Hid (CC (Ed.take (i + 1)) b = CC (Ed.take i) b ++ [(x1 + b, x2, x3 + b)]) := HT
     have HTl : Hid ((CC (Ed.take i) b).length = i) := A0 (by rw [Iq, List.length_take]; omega)
     clear HT
     have r1 : IntKind.i64.wrap (x1 + b) = x1 + b := by rw [IntKind.wrap_i64]; omega
     have r3 : IntKind.i64.wrap (x3 + b) = x3 + b := by rw [IntKind.wrap_i64]; omega
     have HS0 := A0 HY.out.be.size
     obtain ⟨W1, hW1⟩ : ∃ W1, wr.alloc (.cells #[.int .i64 x1, .int .i64 x2, .int .i64 x3] 50) = W1 := ⟨_, rfl⟩
     have HW : Hid (W1.heap[wr.heap.size]? = some (.cells #[.int .i64 x1, .int .i64 x2, .int .i64 x3] 50 (0, 0)) ∧ Below wr.heap.size wr W1 ∧ W1.heap.size = wr.heap.size + 1 ∧ wr.alloc (.cells #[.int .i64 x1, .int .i64 x2, .int .i64 x3] 50) = W1) := A0 (by rw [← hW1]; exact ⟨World.alloc_heap_new _ _, (Below.refl _ _).alloc (Nat.le_refl _) _, by simp, rfl⟩)
     obtain ⟨z0, z1, z2⟩ := Jt HW.out.1 rfl rfl rfl
     have z4 : W1.cell? ⟨p5, 4, none⟩ = some (.slice b3 i k3) := A1 (A3 HY.out.bx HW.out.2.1) rfl
     have HX := A0 (A6 HY.out.ow.e HW.out.2.1)
     go_wp2_with (at_builtin; refine D8 rfl _ _ rfl W0.heap.size (.slice b3 i k3) (CC (Ed.take i) b) rfl (A6 HX.out ((Below.refl _ _).alloc (Nat.le_refl _) _)) W1.heap.size (x1 + b, x2, x3 + b) rfl (World.alloc_heap_new _ _) (by have := HTl.out; omega) (by have := HS0.out; have := HW.out.2.2.1; rw [World.size_alloc]; omega) ?_; intro v5 w5 HO5 HG5; obtain ⟨z5, d5, e5⟩ := A8 HO5.out; have E5 : v5 = .slice z5 (i + 1) d5 := (by rw [e5, List.length_append, HTl.out]; rfl); clear e5; subst E5; have HQ := A0 (Mr (cs1 := #[.int .i64 x1, .int .i64 x2, .int .i64 x3]) HY.out HO5.out (by rw [HW.out.2.2.2]; exact HG5.out)); have c5 : w5.cell? ⟨p5, 4, none⟩ = some (.slice b3 i k3) := A1 HQ.out.1 rfl; have f5 : w5.frozen? ⟨p5, 4, none⟩ = false := A4 HQ.out.1)
     refine ⟨⟨i + 1, by omega, by go_num, z5, d5, A0 (by rw [HT2.out]; exact HQ.out.2)⟩, by simp [intOf]; omega⟩
   · obtain rfl : n3 = i := by omega
     have i1 : ¬ (n3 : Int) < (n3 : Int) := by omega
     have HZ : Hid (Mk W0 wr p5 ((N : Int) + b) m (.slice b1 n1 k1) (.slice b2 n2 k2) (.slice b3 n3 k3) (AS St b) (AS Fi b) (CC Ed b)) := A0 (by
      have q := HY.out
      rw [List.take_of_length_le (by have := HL.out.2.2; omega)] at q
      exact q)
     clear HY
     have F3 := A3 HD.out.2.2.1 HZ.out.be
     have F4 := HZ.out.bx
     obtain ⟨o0, o1, o2, o3, o4⟩ := An F3 rfl rfl rfl rfl rfl
     have f0 : wr.frozen? ⟨w.heap.size + 1, 0, none⟩ = false := A4 F3
     have f1 : wr.frozen? ⟨w.heap.size + 1, 1, none⟩ = false := A4 F3
     have f2 : wr.frozen? ⟨w.heap.size + 1, 2, none⟩ = false := A4 F3
     have f3 : wr.frozen? ⟨w.heap.size + 1, 3, none⟩ = false := A4 F3
     have f4 : wr.frozen? ⟨w.heap.size + 1, 4, none⟩ = false := A4 F3
     obtain ⟨v0, v1, v2, v3, v4⟩ := An F4 rfl rfl rfl rfl rfl
     have O6 := A0 (And.intro (AT wr (w.heap.size + 1) _ _ _ _ _ (.int .i64 ((N : Int) + b)) (.int .i64 m) (.slice b1 n1 k1) (.slice b2 n2 k2) (.slice b3 n3 k3) 25 F3) (AF wr (w.heap.size + 1) (.int .i64 ((N : Int) + b)) (.int .i64 m) (.slice b1 n1 k1) (.slice b2 n2 k2) (.slice b3 n3 k3)))
     have HO2 := A0 (HZ.out.ow.keep F3 O6.out.2)
     clear F3 F4
     go_wp2_with fail
     refine bodyPost_ret (results_cell_row (p := 4) (ty := 25) rfl _ _ (w.heap.size + 1) 25 _ (0, 0) _ rfl O6.out.1 underlying25 rfl (by kernel_rfl)) rfl ?_
     have s1 := HD.out.2.2.2
     have s2 := HZ.out.be.size
     exact ⟨b1, k1, b2, k2, b3, k3, rfl, A0 ⟨HO2.out.down (by omega), (HD.out.1.trans (HZ.out.be.mono (by omega))).trans (O6.out.2.toBelow (by omega) (fun k hk => by omega))⟩⟩
theorem Bo {P : Program} {fn : Func} {p q r : Tmp} {ty : TypeId} (h : fn.results = #[.cell p ty, .cell q ty, .tmp r]) (tmps : Array Value) (w : World) (g g' : Nat) (t : TypeId) (cs cs' : Array Value) (fr : Nat × Nat) (d : TypeDesc) (x : Value)
 (hp : tmps.getD p undef = .pointer (some ⟨g, 0, none⟩)) (hp2 : tmps.getD q undef = .pointer (some ⟨g', 0, none⟩)) (hq : tmps.getD r undef = x) (hg : w.heap[g]? = some (.cells cs t fr)) (hg2 : w.heap[g']? = some (.cells cs' t fr))
 (hu : P.underlying ty = some d) (hd : (match d with | .struct _ | .array _ _ => true | _ => false) = true) (hi : (P.info? ty).map (·.size) = some cs.size) (hi2 : (P.info? ty).map (·.size) = some cs'.size) :
 (results fn tmps).run P w = .ok (.tuple #[.agg cs, .agg cs', x]) w := by
 have hp' : tmps[p]?.getD undef = .pointer (some ⟨g, 0, none⟩) := by simpa using hp
 have hp2' : tmps[q]?.getD undef = .pointer (some ⟨g', 0, none⟩) := by simpa using hp2
 have hq' : tmps[r]?.getD undef = x := by simpa using hq
 simp [results, h, hp', hp2', hq', asAddr, run_loadVar_row w g t ty cs fr d hg hu hd hi, run_loadVar_row w g' t ty cs' fr d hg2 hu hd hi2]
theorem IH {W : World} {g g' : Nat} {v0 v1 v2 v3 v4 u0 u1 u2 u3 u4 x0 x1 x2 x3 x4 z0 z1 z2 z3 z4 : Value} (h : W.heap[g]? = some (.cells #[v0, v1, v2, v3, v4] 25 (0, 0))) (h' : W.heap[g']? = some (.cells #[u0, u1, u2, u3, u4] 25 (0, 0))) (ne : g ≠ g') :
 ((((((((((W.setCell ⟨g, 0, none⟩ (x0)).setCell ⟨g, 1, none⟩ (x1)).setCell ⟨g, 2, none⟩ (x2)).setCell ⟨g, 3, none⟩ (x3)).setCell ⟨g, 4, none⟩ (x4)).setCell ⟨g', 0, none⟩ (z0)).setCell ⟨g', 1, none⟩ (z1)).setCell ⟨g', 2, none⟩ (z2)).setCell ⟨g', 3, none⟩ (z3)).setCell ⟨g', 4, none⟩ (z4)).heap[g]? = some (.cells #[x0, x1, x2, x3, x4] 25 (0, 0)) ∧ ((((((((((W.setCell ⟨g, 0, none⟩ (x0)).setCell ⟨g, 1, none⟩ (x1)).setCell ⟨g, 2, none⟩ (x2)).setCell ⟨g, 3, none⟩ (x3)).setCell ⟨g, 4, none⟩ (x4)).setCell ⟨g', 0, none⟩ (z0)).setCell ⟨g', 1, none⟩ (z1)).setCell ⟨g', 2, none⟩ (z2)).setCell ⟨g', 3, none⟩ (z3)).setCell ⟨g', 4, none⟩ (z4)).heap[g']? = some (.cells #[z0, z1, z2, z3, z4] 25 (0, 0)) ∧ Ab W ((((((((((W.setCell ⟨g, 0, none⟩ (x0)).setCell ⟨g, 1, none⟩ (x1)).setCell ⟨g, 2, none⟩ (x2)).setCell ⟨g, 3, none⟩ (x3)).setCell ⟨g, 4, none⟩ (x4)).setCell ⟨g', 0, none⟩ (z0)).setCell ⟨g', 1, none⟩ (z1)).setCell ⟨g', 2, none⟩ (z2)).setCell ⟨g', 3, none⟩ (z3)).setCell ⟨g', 4, none⟩ (z4)) (fun k => k = g ∨ k = g') := by
 have s1 := AT W g _ _ _ _ _ x0 x1 x2 x3 x4 25 h
 have o1 := AF W g x0 x1 x2 x3 x4
 have t1 := (o1.block g' (Array.getElem?_eq_some_iff.1 h').1 (fun e => ne e.symm)).trans h'
 generalize (((((W.setCell ⟨g, 0, none⟩ (x0)).setCell ⟨g, 1, none⟩ (x1)).setCell ⟨g, 2, none⟩ (x2)).setCell ⟨g, 3, none⟩ (x3)).setCell ⟨g, 4, none⟩ (x4)) = W1 at s1 o1 t1 ⊢
 have s2 := AT W1 g' _ _ _ _ _ z0 z1 z2 z3 z4 25 t1
 have o2 := AF W1 g' z0 z1 z2 z3 z4
 have s3 := (o2.block g (Array.getElem?_eq_some_iff.1 s1).1 (fun e => ne e)).trans s1
 exact ⟨s3, s2, ⟨o2.os.trans o1.os, o2.tape.trans o1.tape, o2.output.trans o1.output, Nat.le_trans o1.size o2.size, fun k hk hn => (o2.block k (Nat.lt_of_lt_of_le hk o1.size) (fun e => hn (.inr e))).trans (o1.block k hk (fun e => hn (.inl e)))⟩⟩
theorem Mo (w : World) (n m n' m' : Int) (a1 a2 a3 b1 b2 b3 : Option Addr) (c1 c2 c3 d1 d2 d3 : Nat) (Sa Fa Sb Fb : List Int) (Ea Eb : List Aa) (hA : Hid (AP w a1 a2 a3 Sa Fa Ea)) (_hB : Hid (AP w b1 b2 b3 Sb Fb Eb)) (h1 : Sa.length ≤ 4194304) (h2 : Fa.length ≤ 4194304) (h3 : Ea.length ≤ 4194304) (_h4 : Sb.length ≤ 4194304) (_h5 : Fb.length ≤ 4194304) (_h6 : Eb.length ≤ 4194304) (em : AC n m Sa Fa Ea = false) :
 Calls prog 31 #[.agg #[.int .i64 n, .int .i64 m, .slice a1 Sa.length c1, .slice a2 Fa.length c2, .slice a3 Ea.length c3], .agg #[.int .i64 n', .int .i64 m', .slice b1 Sb.length d1, .slice b2 Fb.length d2, .slice b3 Eb.length d3]] w fun e w' => e = .returned (.tuple #[.agg #[.int .i64 0, .int .i64 0, .slice none 0 0, .slice none 0 0, .slice none 0 0], .agg #[.int .i64 0, .int .i64 0, .slice none 0 0, .slice none 0 0, .slice none 0 0], .int .i64 2]) ∧ Below w.heap.size w w' := by
 obtain ⟨W0, hW0⟩ : ∃ W0, (((w.alloc (.cells #[.int .i64 n, .int .i64 m, .slice a1 Sa.length c1, .slice a2 Fa.length c2, .slice a3 Ea.length c3] 25)).alloc (.cells #[.int .i64 n', .int .i64 m', .slice b1 Sb.length d1, .slice b2 Fb.length d2, .slice b3 Eb.length d3] 25)).alloc (.cells #[.int .i64 0, .int .i64 0, .slice none 0 0, .slice none 0 0, .slice none 0 0] 25)).alloc (.cells #[.int .i64 0, .int .i64 0, .slice none 0 0, .slice none 0 0, .slice none 0 0] 25) = W0 := ⟨_, rfl⟩
 have HD := A0 (And.intro (Iv w (.cells #[.int .i64 n, .int .i64 m, .slice a1 Sa.length c1, .slice a2 Fa.length c2, .slice a3 Ea.length c3] 25) (.cells #[.int .i64 n', .int .i64 m', .slice b1 Sb.length d1, .slice b2 Fb.length d2, .slice b3 Eb.length d3] 25) (.cells #[.int .i64 0, .int .i64 0, .slice none 0 0, .slice none 0 0, .slice none 0 0] 25) (.cells #[.int .i64 0, .int .i64 0, .slice none 0 0, .slice none 0 0, .slice none 0 0] 25)) (show ((((w.alloc (.cells #[.int .i64 n, .int .i64 m, .slice a1 Sa.length c1, .slice a2 Fa.length c2, .slice a3 Ea.length c3] 25)).alloc (.cells #[.int .i64 n', .int .i64 m', .slice b1 Sb.length d1, .slice b2 Fb.length d2, .slice b3 Eb.length d3] 25)).alloc (.cells #[.int .i64 0, .int .i64 0, .slice none 0 0, .slice none 0 0, .slice none 0 0] 25)).alloc (.cells #[.int .i64 0, .int .i64 0, .slice none 0 0, .slice none 0 0, .slice none 0 0] 25)).heap.size = w.heap.size + 4 by simp))
 rw [hW0] at HD
 obtain ⟨y0, y1, y2, y3, y4⟩ := An HD.out.1.2.1 rfl rfl rfl rfl rfl
 have TN := FM W0 n m a1 a2 a3 c1 c2 c3 Sa Fa Ea (A0 (hA.out.on HD.out.1.1)) h1 h2 h3 em
 clear em
 go_enter func31, ntmps31
 go_upto_region 3 with (go_at_call 53; refine TN.mono ?_; rintro e w1 ⟨rfl, D1⟩; have HF1 := A0 D1; have F4 := A3 HD.out.1.2.2.2.1 D1; obtain ⟨o0, o1, o2, o3, o4⟩ := An F4 rfl rfl rfl rfl rfl; have f0 : w1.frozen? ⟨w.heap.size + 1 + 1, 0, none⟩ = false := A4 F4; have f1 : w1.frozen? ⟨w.heap.size + 1 + 1, 1, none⟩ = false := A4 F4; have f2 : w1.frozen? ⟨w.heap.size + 1 + 1, 2, none⟩ = false := A4 F4; have f3 : w1.frozen? ⟨w.heap.size + 1 + 1, 3, none⟩ = false := A4 F4; have f4 : w1.frozen? ⟨w.heap.size + 1 + 1, 4, none⟩ = false := A4 F4; clear F4 D1)
 obtain ⟨W2, hW2⟩ : ∃ W2, (((((w1.setCell ⟨w.heap.size + 1 + 1, 0, none⟩ (.int .i64 0)).setCell ⟨w.heap.size + 1 + 1, 1, none⟩ (.int .i64 0)).setCell ⟨w.heap.size + 1 + 1, 2, none⟩ (.slice none 0 0)).setCell ⟨w.heap.size + 1 + 1, 3, none⟩ (.slice none 0 0)).setCell ⟨w.heap.size + 1 + 1, 4, none⟩ (.slice none 0 0)) = W2 := ⟨_, rfl⟩
 rw [hW2]
 have H2 : Hid (W2.heap[w.heap.size + 1 + 1]? = some (.cells #[.int .i64 0, .int .i64 0, .slice none 0 0, .slice none 0 0, .slice none 0 0] 25 (0, 0)) ∧ W2.heap[w.heap.size + 1 + 1 + 1]? = some (.cells #[.int .i64 0, .int .i64 0, .slice none 0 0, .slice none 0 0, .slice none 0 0] 25 (0, 0)) ∧ Below w.heap.size w W2) := A0 (by
  have q4 := A3 HD.out.1.2.2.2.1 HF1.out
  have q5 := A3 HD.out.1.2.2.2.2 HF1.out
  have o := AF w1 (w.heap.size + 1 + 1) (.int .i64 0) (.int .i64 0) (.slice none 0 0) (.slice none 0 0) (.slice none 0 0)
  have d := HD.out.1.1.trans (HF1.out.mono HD.out.1.1.size)
  rw [← hW2]
  exact ⟨AT w1 (w.heap.size + 1 + 1) _ _ _ _ _ _ _ _ _ _ 25 q4, (o.block _ (Array.getElem?_eq_some_iff.1 q5).1 (by omega)).trans q5, d.trans (o.toBelow d.size (fun k hk => by omega))⟩)
 clear hW2 HF1 o0 f0 o1 f1 o2 f2 o3 f3 o4 f4
 obtain ⟨o0, o1, o2, o3, o4⟩ := An H2.out.1 rfl rfl rfl rfl rfl
 have f0 : W2.frozen? ⟨w.heap.size + 1 + 1, 0, none⟩ = false := A4 H2.out.1
 have f1 : W2.frozen? ⟨w.heap.size + 1 + 1, 1, none⟩ = false := A4 H2.out.1
 have f2 : W2.frozen? ⟨w.heap.size + 1 + 1, 2, none⟩ = false := A4 H2.out.1
 have f3 : W2.frozen? ⟨w.heap.size + 1 + 1, 3, none⟩ = false := A4 H2.out.1
 have f4 : W2.frozen? ⟨w.heap.size + 1 + 1, 4, none⟩ = false := A4 H2.out.1
 obtain ⟨p0, p1, p2, p3, p4⟩ := An H2.out.2.1 rfl rfl rfl rfl rfl
 have g0 : W2.frozen? ⟨w.heap.size + 1 + 1 + 1, 0, none⟩ = false := A4 H2.out.2.1
 have g1 : W2.frozen? ⟨w.heap.size + 1 + 1 + 1, 1, none⟩ = false := A4 H2.out.2.1
 have g2 : W2.frozen? ⟨w.heap.size + 1 + 1 + 1, 2, none⟩ = false := A4 H2.out.2.1
 have g3 : W2.frozen? ⟨w.heap.size + 1 + 1 + 1, 3, none⟩ = false := A4 H2.out.2.1
 have g4 : W2.frozen? ⟨w.heap.size + 1 + 1 + 1, 4, none⟩ = false := A4 H2.out.2.1
 have O6 := A0 (IH (x0 := .int .i64 0) (x1 := .int .i64 0) (x2 := .slice none 0 0) (x3 := .slice none 0 0) (x4 := .slice none 0 0) (z0 := .int .i64 0) (z1 := .int .i64 0) (z2 := .slice none 0 0) (z3 := .slice none 0 0) (z4 := .slice none 0 0) H2.out.1 H2.out.2.1 (by omega))
 go_wp2_with fail
 refine bodyPost_ret (Bo (p := 4) (q := 5) (r := 6) (ty := 25) rfl _ _ (w.heap.size + 1 + 1) (w.heap.size + 1 + 1 + 1) 25 _ _ (0, 0) _ _ rfl rfl rfl O6.out.1 O6.out.2.1 underlying25 rfl (by kernel_rfl) (by kernel_rfl)) rfl ?_
 exact ⟨rfl, H2.out.2.2.trans (O6.out.2.2.toBelow H2.out.2.2.size (fun k hk => by omega))⟩
theorem De {B : Nat} {w : World} {g1 k1 g2 k2 g3 k3 : Nat} {S F : List Int} {E : List Aa} (h : PP B w g1 k1 g2 k2 g3 k3 S F E) : AE B w (.slice (some ⟨g1, 0, none⟩) S.length k1) (.slice (some ⟨g2, 0, none⟩) F.length k2) (.slice (some ⟨g3, 0, none⟩) E.length k3) S F E :=
 ⟨h.s, h.f, h.e, fun g hg hh => by
  simp only [Value.ownBlock, Option.some.injEq] at hg hh
  exact h.n12 (hg.trans hh.symm)⟩
theorem Mb (w : World) (n m n' m' : Int) (a1 a2 a3 b1 b2 b3 : Option Addr) (c1 c2 c3 d1 d2 d3 : Nat) (Sa Fa Sb Fb : List Int) (Ea Eb : List Aa) (hA : Hid (AP w a1 a2 a3 Sa Fa Ea)) (hB : Hid (AP w b1 b2 b3 Sb Fb Eb)) (h1 : Sa.length ≤ 4194304) (h2 : Fa.length ≤ 4194304) (h3 : Ea.length ≤ 4194304) (h4 : Sb.length ≤ 4194304) (h5 : Fb.length ≤ 4194304) (h6 : Eb.length ≤ 4194304) (em : AC n m Sa Fa Ea = true) (em' : AC n' m' Sb Fb Eb = false) :
 Calls prog 31 #[.agg #[.int .i64 n, .int .i64 m, .slice a1 Sa.length c1, .slice a2 Fa.length c2, .slice a3 Ea.length c3], .agg #[.int .i64 n', .int .i64 m', .slice b1 Sb.length d1, .slice b2 Fb.length d2, .slice b3 Eb.length d3]] w fun e w' => e = .returned (.tuple #[.agg #[.int .i64 0, .int .i64 0, .slice none 0 0, .slice none 0 0, .slice none 0 0], .agg #[.int .i64 0, .int .i64 0, .slice none 0 0, .slice none 0 0, .slice none 0 0], .int .i64 2]) ∧ Below w.heap.size w w' := by
 obtain ⟨W0, hW0⟩ : ∃ W0, (((w.alloc (.cells #[.int .i64 n, .int .i64 m, .slice a1 Sa.length c1, .slice a2 Fa.length c2, .slice a3 Ea.length c3] 25)).alloc (.cells #[.int .i64 n', .int .i64 m', .slice b1 Sb.length d1, .slice b2 Fb.length d2, .slice b3 Eb.length d3] 25)).alloc (.cells #[.int .i64 0, .int .i64 0, .slice none 0 0, .slice none 0 0, .slice none 0 0] 25)).alloc (.cells #[.int .i64 0, .int .i64 0, .slice none 0 0, .slice none 0 0, .slice none 0 0] 25) = W0 := ⟨_, rfl⟩
 have HD := A0 (And.intro (Iv w (.cells #[.int .i64 n, .int .i64 m, .slice a1 Sa.length c1, .slice a2 Fa.length c2, .slice a3 Ea.length c3] 25) (.cells #[.int .i64 n', .int .i64 m', .slice b1 Sb.length d1, .slice b2 Fb.length d2, .slice b3 Eb.length d3] 25) (.cells #[.int .i64 0, .int .i64 0, .slice none 0 0, .slice none 0 0, .slice none 0 0] 25) (.cells #[.int .i64 0, .int .i64 0, .slice none 0 0, .slice none 0 0, .slice none 0 0] 25)) (show ((((w.alloc (.cells #[.int .i64 n, .int .i64 m, .slice a1 Sa.length c1, .slice a2 Fa.length c2, .slice a3 Ea.length c3] 25)).alloc (.cells #[.int .i64 n', .int .i64 m', .slice b1 Sb.length d1, .slice b2 Fb.length d2, .slice b3 Eb.length d3] 25)).alloc (.cells #[.int .i64 0, .int .i64 0, .slice none 0 0, .slice none 0 0, .slice none 0 0] 25)).alloc (.cells #[.int .i64 0, .int .i64 0, .slice none 0 0, .slice none 0 0, .slice none 0 0] 25)).heap.size = w.heap.size + 4 by simp))
 rw [hW0] at HD
 obtain ⟨y0, y1, y2, y3, y4⟩ := An HD.out.1.2.1 rfl rfl rfl rfl rfl
 have TN := CD W0 n m a1 a2 a3 c1 c2 c3 Sa Fa Ea (A0 (hA.out.on HD.out.1.1)) h1 h2 h3 em
 obtain ⟨S1, hS1⟩ : ∃ X, A5 Sa = X := ⟨_, rfl⟩
 obtain ⟨F1, hF1⟩ : ∃ X, A5 Fa = X := ⟨_, rfl⟩
 obtain ⟨E1, hE1⟩ : ∃ X, A7 Ea = X := ⟨_, rfl⟩
 rw [hS1, hF1, hE1] at TN
 clear em hS1 hF1 hE1
 go_enter func31, ntmps31
 go_upto_region 4 with (go_at_call 53; refine TN.mono ?_; rintro e w1 ⟨g1, k1, g2, k2, g3, k3, rfl, HO, D1⟩; have HF1 := A0 (And.intro D1 HO); have F4 := A3 HD.out.1.2.2.2.1 D1; obtain ⟨o0, o1, o2, o3, o4⟩ := An F4 rfl rfl rfl rfl rfl; have f0 : w1.frozen? ⟨w.heap.size + 1 + 1, 0, none⟩ = false := A4 F4; have f1 : w1.frozen? ⟨w.heap.size + 1 + 1, 1, none⟩ = false := A4 F4; have f2 : w1.frozen? ⟨w.heap.size + 1 + 1, 2, none⟩ = false := A4 F4; have f3 : w1.frozen? ⟨w.heap.size + 1 + 1, 3, none⟩ = false := A4 F4; have f4 : w1.frozen? ⟨w.heap.size + 1 + 1, 4, none⟩ = false := A4 F4; clear F4 D1 HO)
 obtain ⟨W2, hW2⟩ : ∃ W2, (((((w1.setCell ⟨w.heap.size + 1 + 1, 0, none⟩ (.int .i64 n)).setCell ⟨w.heap.size + 1 + 1, 1, none⟩ (.int .i64 m)).setCell ⟨w.heap.size + 1 + 1, 2, none⟩ (.slice (some ⟨g1, 0, none⟩) S1.length k1)).setCell ⟨w.heap.size + 1 + 1, 3, none⟩ (.slice (some ⟨g2, 0, none⟩) F1.length k2)).setCell ⟨w.heap.size + 1 + 1, 4, none⟩ (.slice (some ⟨g3, 0, none⟩) E1.length k3)) = W2 := ⟨_, rfl⟩
 rw [hW2]
 have H2 : Hid (W2.heap[w.heap.size + 1 + 1]? = some (.cells #[.int .i64 n, .int .i64 m, .slice (some ⟨g1, 0, none⟩) S1.length k1, .slice (some ⟨g2, 0, none⟩) F1.length k2, .slice (some ⟨g3, 0, none⟩) E1.length k3] 25 (0, 0)) ∧ W2.heap[w.heap.size + 1 + 1 + 1]? = some (.cells #[.int .i64 0, .int .i64 0, .slice none 0 0, .slice none 0 0, .slice none 0 0] 25 (0, 0)) ∧ Below w.heap.size w W2 ∧ W2.heap[w.heap.size + 1]? = some (.cells #[.int .i64 n', .int .i64 m', .slice b1 Sb.length d1, .slice b2 Fb.length d2, .slice b3 Eb.length d3] 25 (0, 0)) ∧ AE w.heap.size W2 (.slice (some ⟨g1, 0, none⟩) S1.length k1) (.slice (some ⟨g2, 0, none⟩) F1.length k2) (.slice (some ⟨g3, 0, none⟩) E1.length k3) S1 F1 E1) := A0 (by
  have q4 := A3 HD.out.1.2.2.2.1 HF1.out.1
  have q5 := A3 HD.out.1.2.2.2.2 HF1.out.1
  have q1 := A3 HD.out.1.2.2.1 HF1.out.1
  have o := AF w1 (w.heap.size + 1 + 1) (.int .i64 n) (.int .i64 m) (.slice (some ⟨g1, 0, none⟩) S1.length k1) (.slice (some ⟨g2, 0, none⟩) F1.length k2) (.slice (some ⟨g3, 0, none⟩) E1.length k3)
  have d := HD.out.1.1.trans (HF1.out.1.mono HD.out.1.1.size)
  have s0 := HD.out.1.1.size
  have ow : AE W0.heap.size w1 (.slice (some ⟨g1, 0, none⟩) S1.length k1) (.slice (some ⟨g2, 0, none⟩) F1.length k2) (.slice (some ⟨g3, 0, none⟩) E1.length k3) S1 F1 E1 := De HF1.out.2
  rw [← hW2]
  exact ⟨AT w1 (w.heap.size + 1 + 1) _ _ _ _ _ _ _ _ _ _ 25 q4, (o.block _ (Array.getElem?_eq_some_iff.1 q5).1 (by omega)).trans q5, d.trans (o.toBelow d.size (fun k hk => by omega)), (o.block _ (Array.getElem?_eq_some_iff.1 q1).1 (by omega)).trans q1, (ow.keep q4 o).down (by omega)⟩)
 clear hW2 HF1 TN o0 f0 y0 o1 f1 y1 o2 f2 y2 o3 f3 y3 o4 f4 y4
 obtain ⟨y0, y1, y2, y3, y4⟩ := An H2.out.2.2.2.1 rfl rfl rfl rfl rfl
 have TB := FM W2 n' m' b1 b2 b3 d1 d2 d3 Sb Fb Eb (A0 (hB.out.on H2.out.2.2.1)) h4 h5 h6 em'
 clear em'
 go_upto_region 6 with (go_at_call 53; refine TB.mono ?_; rintro e w3 ⟨rfl, D3⟩; have HF3 := A0 D3; have F5 := A3 H2.out.2.1 D3; obtain ⟨o0, o1, o2, o3, o4⟩ := An F5 rfl rfl rfl rfl rfl; have f0 : w3.frozen? ⟨w.heap.size + 1 + 1 + 1, 0, none⟩ = false := A4 F5; have f1 : w3.frozen? ⟨w.heap.size + 1 + 1 + 1, 1, none⟩ = false := A4 F5; have f2 : w3.frozen? ⟨w.heap.size + 1 + 1 + 1, 2, none⟩ = false := A4 F5; have f3 : w3.frozen? ⟨w.heap.size + 1 + 1 + 1, 3, none⟩ = false := A4 F5; have f4 : w3.frozen? ⟨w.heap.size + 1 + 1 + 1, 4, none⟩ = false := A4 F5; clear F5 D3)
 obtain ⟨W4, hW4⟩ : ∃ W4, (((((w3.setCell ⟨w.heap.size + 1 + 1 + 1, 0, none⟩ (.int .i64 0)).setCell ⟨w.heap.size + 1 + 1 + 1, 1, none⟩ (.int .i64 0)).setCell ⟨w.heap.size + 1 + 1 + 1, 2, none⟩ (.slice none 0 0)).setCell ⟨w.heap.size + 1 + 1 + 1, 3, none⟩ (.slice none 0 0)).setCell ⟨w.heap.size + 1 + 1 + 1, 4, none⟩ (.slice none 0 0)) = W4 := ⟨_, rfl⟩
 rw [hW4]
 have H4 : Hid (W4.heap[w.heap.size + 1 + 1]? = some (.cells #[.int .i64 n, .int .i64 m, .slice (some ⟨g1, 0, none⟩) S1.length k1, .slice (some ⟨g2, 0, none⟩) F1.length k2, .slice (some ⟨g3, 0, none⟩) E1.length k3] 25 (0, 0)) ∧ W4.heap[w.heap.size + 1 + 1 + 1]? = some (.cells #[.int .i64 0, .int .i64 0, .slice none 0 0, .slice none 0 0, .slice none 0 0] 25 (0, 0)) ∧ Below w.heap.size w W4) := A0 (by
  have q4 := A3 H2.out.1 HF3.out
  have q5 := A3 H2.out.2.1 HF3.out
  have o := AF w3 (w.heap.size + 1 + 1 + 1) (.int .i64 0) (.int .i64 0) (.slice none 0 0) (.slice none 0 0) (.slice none 0 0)
  have d := H2.out.2.2.1.trans (HF3.out.mono H2.out.2.2.1.size)
  rw [← hW4]
  exact ⟨(o.block _ (Array.getElem?_eq_some_iff.1 q4).1 (by omega)).trans q4, AT w3 (w.heap.size + 1 + 1 + 1) _ _ _ _ _ _ _ _ _ _ 25 q5, d.trans (o.toBelow d.size (fun k hk => by omega))⟩)
 clear hW4 HF3 TB H2 o0 f0 y0 o1 f1 y1 o2 f2 y2 o3 f3 y3 o4 f4 y4
 obtain ⟨o0, o1, o2, o3, o4⟩ := An H4.out.1 rfl rfl rfl rfl rfl
 have f0 : W4.frozen? ⟨w.heap.size + 1 + 1, 0, none⟩ = false := A4 H4.out.1
 have f1 : W4.frozen? ⟨w.heap.size + 1 + 1, 1, none⟩ = false := A4 H4.out.1
 have f2 : W4.frozen? ⟨w.heap.size + 1 + 1, 2, none⟩ = false := A4 H4.out.1
 have f3 : W4.frozen? ⟨w.heap.size + 1 + 1, 3, none⟩ = false := A4 H4.out.1
 have f4 : W4.frozen? ⟨w.heap.size + 1 + 1, 4, none⟩ = false := A4 H4.out.1
 obtain ⟨p0, p1, p2, p3, p4⟩ := An H4.out.2.1 rfl rfl rfl rfl rfl
 have g0 : W4.frozen? ⟨w.heap.size + 1 + 1 + 1, 0, none⟩ = false := A4 H4.out.2.1
 have g1 : W4.frozen? ⟨w.heap.size + 1 + 1 + 1, 1, none⟩ = false := A4 H4.out.2.1
 have g2 : W4.frozen? ⟨w.heap.size + 1 + 1 + 1, 2, none⟩ = false := A4 H4.out.2.1
 have g3 : W4.frozen? ⟨w.heap.size + 1 + 1 + 1, 3, none⟩ = false := A4 H4.out.2.1
 have g4 : W4.frozen? ⟨w.heap.size + 1 + 1 + 1, 4, none⟩ = false := A4 H4.out.2.1
 have O6 := A0 (IH (x0 := .int .i64 0) (z0 := .int .i64 0) (x1 := .int .i64 0) (z1 := .int .i64 0) (x2 := .slice none 0 0) (z2 := .slice none 0 0) (x3 := .slice none 0 0) (z3 := .slice none 0 0) (x4 := .slice none 0 0) (z4 := .slice none 0 0) H4.out.1 H4.out.2.1 (by omega))
 go_wp2_with fail
 refine bodyPost_ret (Bo (p := 4) (q := 5) (r := 6) (ty := 25) rfl _ _ (w.heap.size + 1 + 1) (w.heap.size + 1 + 1 + 1) 25 _ _ (0, 0) _ _ rfl rfl rfl O6.out.1 O6.out.2.1 underlying25 rfl (by kernel_rfl) (by kernel_rfl)) rfl ?_
 exact ⟨rfl, H4.out.2.2.trans (O6.out.2.2.toBelow H4.out.2.2.size (fun k hk => by omega))⟩
theorem LL (w : World) (n m n' m' : Int) (a1 a2 a3 b1 b2 b3 : Option Addr) (c1 c2 c3 d1 d2 d3 : Nat) (Sa Fa Sb Fb : List Int) (Ea Eb : List Aa) (hA : Hid (AP w a1 a2 a3 Sa Fa Ea)) (hB : Hid (AP w b1 b2 b3 Sb Fb Eb)) (h1 : Sa.length ≤ 4194304) (h2 : Fa.length ≤ 4194304) (h3 : Ea.length ≤ 4194304) (h4 : Sb.length ≤ 4194304) (h5 : Fb.length ≤ 4194304) (h6 : Eb.length ≤ 4194304) (em : AC n m Sa Fa Ea = true) (em' : AC n' m' Sb Fb Eb = true) (hm : m ≠ m') :
 Calls prog 31 #[.agg #[.int .i64 n, .int .i64 m, .slice a1 Sa.length c1, .slice a2 Fa.length c2, .slice a3 Ea.length c3], .agg #[.int .i64 n', .int .i64 m', .slice b1 Sb.length d1, .slice b2 Fb.length d2, .slice b3 Eb.length d3]] w fun e w' => e = .returned (.tuple #[.agg #[.int .i64 0, .int .i64 0, .slice none 0 0, .slice none 0 0, .slice none 0 0], .agg #[.int .i64 0, .int .i64 0, .slice none 0 0, .slice none 0 0, .slice none 0 0], .int .i64 6]) ∧ Below w.heap.size w w' := by
 obtain ⟨W0, hW0⟩ : ∃ W0, (((w.alloc (.cells #[.int .i64 n, .int .i64 m, .slice a1 Sa.length c1, .slice a2 Fa.length c2, .slice a3 Ea.length c3] 25)).alloc (.cells #[.int .i64 n', .int .i64 m', .slice b1 Sb.length d1, .slice b2 Fb.length d2, .slice b3 Eb.length d3] 25)).alloc (.cells #[.int .i64 0, .int .i64 0, .slice none 0 0, .slice none 0 0, .slice none 0 0] 25)).alloc (.cells #[.int .i64 0, .int .i64 0, .slice none 0 0, .slice none 0 0, .slice none 0 0] 25) = W0 := ⟨_, rfl⟩
 have HD := A0 (And.intro (Iv w (.cells #[.int .i64 n, .int .i64 m, .slice a1 Sa.length c1, .slice a2 Fa.length c2, .slice a3 Ea.length c3] 25) (.cells #[.int .i64 n', .int .i64 m', .slice b1 Sb.length d1, .slice b2 Fb.length d2, .slice b3 Eb.length d3] 25) (.cells #[.int .i64 0, .int .i64 0, .slice none 0 0, .slice none 0 0, .slice none 0 0] 25) (.cells #[.int .i64 0, .int .i64 0, .slice none 0 0, .slice none 0 0, .slice none 0 0] 25)) (show ((((w.alloc (.cells #[.int .i64 n, .int .i64 m, .slice a1 Sa.length c1, .slice a2 Fa.length c2, .slice a3 Ea.length c3] 25)).alloc (.cells #[.int .i64 n', .int .i64 m', .slice b1 Sb.length d1, .slice b2 Fb.length d2, .slice b3 Eb.length d3] 25)).alloc (.cells #[.int .i64 0, .int .i64 0, .slice none 0 0, .slice none 0 0, .slice none 0 0] 25)).alloc (.cells #[.int .i64 0, .int .i64 0, .slice none 0 0, .slice none 0 0, .slice none 0 0] 25)).heap.size = w.heap.size + 4 by simp))
 rw [hW0] at HD
 obtain ⟨y0, y1, y2, y3, y4⟩ := An HD.out.1.2.1 rfl rfl rfl rfl rfl
 have TN := CD W0 n m a1 a2 a3 c1 c2 c3 Sa Fa Ea (A0 (hA.out.on HD.out.1.1)) h1 h2 h3 em
 obtain ⟨S1, hS1⟩ : ∃ X, A5 Sa = X := ⟨_, rfl⟩
 obtain ⟨F1, hF1⟩ : ∃ X, A5 Fa = X := ⟨_, rfl⟩
 obtain ⟨E1, hE1⟩ : ∃ X, A7 Ea = X := ⟨_, rfl⟩
 rw [hS1, hF1, hE1] at TN
 clear em hS1 hF1 hE1
 go_enter func31, ntmps31
 go_upto_region 4 with (go_at_call 53; refine TN.mono ?_; rintro e w1 ⟨g1, k1, g2, k2, g3, k3, rfl, HO, D1⟩; have HF1 := A0 (And.intro D1 HO); have F4 := A3 HD.out.1.2.2.2.1 D1; obtain ⟨o0, o1, o2, o3, o4⟩ := An F4 rfl rfl rfl rfl rfl; have f0 : w1.frozen? ⟨w.heap.size + 1 + 1, 0, none⟩ = false := A4 F4; have f1 : w1.frozen? ⟨w.heap.size + 1 + 1, 1, none⟩ = false := A4 F4; have f2 : w1.frozen? ⟨w.heap.size + 1 + 1, 2, none⟩ = false := A4 F4; have f3 : w1.frozen? ⟨w.heap.size + 1 + 1, 3, none⟩ = false := A4 F4; have f4 : w1.frozen? ⟨w.heap.size + 1 + 1, 4, none⟩ = false := A4 F4; clear F4 D1 HO)
 obtain ⟨W2, hW2⟩ : ∃ W2, (((((w1.setCell ⟨w.heap.size + 1 + 1, 0, none⟩ (.int .i64 n)).setCell ⟨w.heap.size + 1 + 1, 1, none⟩ (.int .i64 m)).setCell ⟨w.heap.size + 1 + 1, 2, none⟩ (.slice (some ⟨g1, 0, none⟩) S1.length k1)).setCell ⟨w.heap.size + 1 + 1, 3, none⟩ (.slice (some ⟨g2, 0, none⟩) F1.length k2)).setCell ⟨w.heap.size + 1 + 1, 4, none⟩ (.slice (some ⟨g3, 0, none⟩) E1.length k3)) = W2 := ⟨_, rfl⟩
 rw [hW2]
 have H2 : Hid (W2.heap[w.heap.size + 1 + 1]? = some (.cells #[.int .i64 n, .int .i64 m, .slice (some ⟨g1, 0, none⟩) S1.length k1, .slice (some ⟨g2, 0, none⟩) F1.length k2, .slice (some ⟨g3, 0, none⟩) E1.length k3] 25 (0, 0)) ∧ W2.heap[w.heap.size + 1 + 1 + 1]? = some (.cells #[.int .i64 0, .int .i64 0, .slice none 0 0, .slice none 0 0, .slice none 0 0] 25 (0, 0)) ∧ Below w.heap.size w W2 ∧ W2.heap[w.heap.size + 1]? = some (.cells #[.int .i64 n', .int .i64 m', .slice b1 Sb.length d1, .slice b2 Fb.length d2, .slice b3 Eb.length d3] 25 (0, 0)) ∧ AE w.heap.size W2 (.slice (some ⟨g1, 0, none⟩) S1.length k1) (.slice (some ⟨g2, 0, none⟩) F1.length k2) (.slice (some ⟨g3, 0, none⟩) E1.length k3) S1 F1 E1) := A0 (by
  have q4 := A3 HD.out.1.2.2.2.1 HF1.out.1
  have q5 := A3 HD.out.1.2.2.2.2 HF1.out.1
  have q1 := A3 HD.out.1.2.2.1 HF1.out.1
  have o := AF w1 (w.heap.size + 1 + 1) (.int .i64 n) (.int .i64 m) (.slice (some ⟨g1, 0, none⟩) S1.length k1) (.slice (some ⟨g2, 0, none⟩) F1.length k2) (.slice (some ⟨g3, 0, none⟩) E1.length k3)
  have d := HD.out.1.1.trans (HF1.out.1.mono HD.out.1.1.size)
  have s0 := HD.out.1.1.size
  have ow : AE W0.heap.size w1 (.slice (some ⟨g1, 0, none⟩) S1.length k1) (.slice (some ⟨g2, 0, none⟩) F1.length k2) (.slice (some ⟨g3, 0, none⟩) E1.length k3) S1 F1 E1 := De HF1.out.2
  rw [← hW2]
  exact ⟨AT w1 (w.heap.size + 1 + 1) _ _ _ _ _ _ _ _ _ _ 25 q4, (o.block _ (Array.getElem?_eq_some_iff.1 q5).1 (by omega)).trans q5, d.trans (o.toBelow d.size (fun k hk => by omega)), (o.block _ (Array.getElem?_eq_some_iff.1 q1).1 (by omega)).trans q1, (ow.keep q4 o).down (by omega)⟩)
 clear hW2 HF1 TN o0 f0 y0 o1 f1 y1 o2 f2 y2 o3 f3 y3 o4 f4 y4
 obtain ⟨y0, y1, y2, y3, y4⟩ := An H2.out.2.2.2.1 rfl rfl rfl rfl rfl
 have TB := CD W2 n' m' b1 b2 b3 d1 d2 d3 Sb Fb Eb (A0 (hB.out.on H2.out.2.2.1)) h4 h5 h6 em'
 obtain ⟨S2, hS2⟩ : ∃ X, A5 Sb = X := ⟨_, rfl⟩
 obtain ⟨F2, hF2⟩ : ∃ X, A5 Fb = X := ⟨_, rfl⟩
 obtain ⟨E2, hE2⟩ : ∃ X, A7 Eb = X := ⟨_, rfl⟩
 rw [hS2, hF2, hE2] at TB
 have HR2 := A0 (And.intro hS2 (And.intro hF2 hE2))
 clear em' hS2 hF2 hE2
 go_upto_region 7 with (go_at_call 53; refine TB.mono ?_; rintro e w3 ⟨r1, q1, r2, q2, r3, q3, rfl, HO, D3⟩; have HF3 := A0 (And.intro D3 HO); have F5 := A3 H2.out.2.1 D3; obtain ⟨o0, o1, o2, o3, o4⟩ := An F5 rfl rfl rfl rfl rfl; have f0 : w3.frozen? ⟨w.heap.size + 1 + 1 + 1, 0, none⟩ = false := A4 F5; have f1 : w3.frozen? ⟨w.heap.size + 1 + 1 + 1, 1, none⟩ = false := A4 F5; have f2 : w3.frozen? ⟨w.heap.size + 1 + 1 + 1, 2, none⟩ = false := A4 F5; have f3 : w3.frozen? ⟨w.heap.size + 1 + 1 + 1, 3, none⟩ = false := A4 F5; have f4 : w3.frozen? ⟨w.heap.size + 1 + 1 + 1, 4, none⟩ = false := A4 F5; clear F5 D3 HO)
 obtain ⟨W4, hW4⟩ : ∃ W4, (((((w3.setCell ⟨w.heap.size + 1 + 1 + 1, 0, none⟩ (.int .i64 n')).setCell ⟨w.heap.size + 1 + 1 + 1, 1, none⟩ (.int .i64 m')).setCell ⟨w.heap.size + 1 + 1 + 1, 2, none⟩ (.slice (some ⟨r1, 0, none⟩) S2.length q1)).setCell ⟨w.heap.size + 1 + 1 + 1, 3, none⟩ (.slice (some ⟨r2, 0, none⟩) F2.length q2)).setCell ⟨w.heap.size + 1 + 1 + 1, 4, none⟩ (.slice (some ⟨r3, 0, none⟩) E2.length q3)) = W4 := ⟨_, rfl⟩
 rw [hW4]
 have H4 : Hid (W4.heap[w.heap.size + 1 + 1]? = some (.cells #[.int .i64 n, .int .i64 m, .slice (some ⟨g1, 0, none⟩) S1.length k1, .slice (some ⟨g2, 0, none⟩) F1.length k2, .slice (some ⟨g3, 0, none⟩) E1.length k3] 25 (0, 0)) ∧ W4.heap[w.heap.size + 1 + 1 + 1]? = some (.cells #[.int .i64 n', .int .i64 m', .slice (some ⟨r1, 0, none⟩) S2.length q1, .slice (some ⟨r2, 0, none⟩) F2.length q2, .slice (some ⟨r3, 0, none⟩) E2.length q3] 25 (0, 0)) ∧ Below w.heap.size w W4 ∧ AE w.heap.size W4 (.slice (some ⟨g1, 0, none⟩) S1.length k1) (.slice (some ⟨g2, 0, none⟩) F1.length k2) (.slice (some ⟨g3, 0, none⟩) E1.length k3) S1 F1 E1 ∧ AE w.heap.size W4 (.slice (some ⟨r1, 0, none⟩) S2.length q1) (.slice (some ⟨r2, 0, none⟩) F2.length q2) (.slice (some ⟨r3, 0, none⟩) E2.length q3) S2 F2 E2) := A0 (by
  have q4 := A3 H2.out.1 HF3.out.1
  have q5 := A3 H2.out.2.1 HF3.out.1
  have o := AF w3 (w.heap.size + 1 + 1 + 1) (.int .i64 n') (.int .i64 m') (.slice (some ⟨r1, 0, none⟩) S2.length q1) (.slice (some ⟨r2, 0, none⟩) F2.length q2) (.slice (some ⟨r3, 0, none⟩) E2.length q3)
  have d := H2.out.2.2.1.trans (HF3.out.1.mono H2.out.2.2.1.size)
  have ow : AE W2.heap.size w3 (.slice (some ⟨r1, 0, none⟩) S2.length q1) (.slice (some ⟨r2, 0, none⟩) F2.length q2) (.slice (some ⟨r3, 0, none⟩) E2.length q3) S2 F2 E2 := De HF3.out.2
  rw [← hW4]
  exact ⟨(o.block _ (Array.getElem?_eq_some_iff.1 q4).1 (by omega)).trans q4, AT w3 (w.heap.size + 1 + 1 + 1) _ _ _ _ _ _ _ _ _ _ 25 q5, d.trans (o.toBelow d.size (fun k hk => by omega)), (H2.out.2.2.2.2.on HF3.out.1).keep q5 o, (ow.keep q5 o).down H2.out.2.2.1.size⟩)
 clear hW4 HF3 TB H2 o0 f0 y0 o1 f1 y1 o2 f2 y2 o3 f3 y3 o4 f4 y4
 have hm2 : (m == m') = false := by simpa using hm
 obtain ⟨o0, o1, o2, o3, o4⟩ := An H4.out.1 rfl rfl rfl rfl rfl
 have f0 : W4.frozen? ⟨w.heap.size + 1 + 1, 0, none⟩ = false := A4 H4.out.1
 have f1 : W4.frozen? ⟨w.heap.size + 1 + 1, 1, none⟩ = false := A4 H4.out.1
 have f2 : W4.frozen? ⟨w.heap.size + 1 + 1, 2, none⟩ = false := A4 H4.out.1
 have f3 : W4.frozen? ⟨w.heap.size + 1 + 1, 3, none⟩ = false := A4 H4.out.1
 have f4 : W4.frozen? ⟨w.heap.size + 1 + 1, 4, none⟩ = false := A4 H4.out.1
 obtain ⟨p0, p1, p2, p3, p4⟩ := An H4.out.2.1 rfl rfl rfl rfl rfl
 have g0 : W4.frozen? ⟨w.heap.size + 1 + 1 + 1, 0, none⟩ = false := A4 H4.out.2.1
 have g1 : W4.frozen? ⟨w.heap.size + 1 + 1 + 1, 1, none⟩ = false := A4 H4.out.2.1
 have g2 : W4.frozen? ⟨w.heap.size + 1 + 1 + 1, 2, none⟩ = false := A4 H4.out.2.1
 have g3 : W4.frozen? ⟨w.heap.size + 1 + 1 + 1, 3, none⟩ = false := A4 H4.out.2.1
 have g4 : W4.frozen? ⟨w.heap.size + 1 + 1 + 1, 4, none⟩ = false := A4 H4.out.2.1
 have O6 := A0 (IH (x0 := .int .i64 0) (z0 := .int .i64 0) (x1 := .int .i64 0) (z1 := .int .i64 0) (x2 := .slice none 0 0) (z2 := .slice none 0 0) (x3 := .slice none 0 0) (z3 := .slice none 0 0) (x4 := .slice none 0 0) (z4 := .slice none 0 0) H4.out.1 H4.out.2.1 (by omega))
 go_wp2_with fail
 refine bodyPost_ret (Bo (p := 4) (q := 5) (r := 6) (ty := 25) rfl _ _ (w.heap.size + 1 + 1) (w.heap.size + 1 + 1 + 1) 25 _ _ (0, 0) _ _ rfl rfl rfl O6.out.1 O6.out.2.1 underlying25 rfl (by kernel_rfl) (by kernel_rfl)) rfl ?_
 exact ⟨rfl, H4.out.2.2.1.trans (O6.out.2.2.toBelow H4.out.2.2.1.size (fun k hk => by omega))⟩
theorem Dx {W W' : World} {B n sz p q : Nat} {e t : TypeId} {v : Value} {xs : List Value} {cs cs' : Array Value} (h : W.ownsRow B e sz v n xs) (z : W.heap[p]? = some (.cells cs t (0, 0))) (z' : W.heap[q]? = some (.cells cs' t (0, 0))) (ne : t ≠ e) (o : Ab W W' (fun k => k = p ∨ k = q)) : W'.ownsRow B e sz v n xs := A9 h o (fun k hk hk2 => by
 rcases hk2 with rfl | rfl
 · exact BO h z ne hk
 · exact BO h z' ne hk)
theorem Ih {B p q : Nat} {w w' : World} {v1 v2 v3 : Value} {S F : List Int} {E : List Aa} {cs cs' : Array Value} (h : AE B w v1 v2 v3 S F E) (z : w.heap[p]? = some (.cells cs 25 (0, 0))) (z' : w.heap[q]? = some (.cells cs' 25 (0, 0))) (o : Ab w w' (fun k => k = p ∨ k = q)) : AE B w' v1 v2 v3 S F E := ⟨Dx h.s z z' (by decide) o, Dx h.f z z' (by decide) o, Dx h.e z z' (by decide) o, h.ne⟩
theorem Hp (w : World) (n m n' : Int) (a1 a2 a3 b1 b2 b3 : Option Addr) (c1 c2 c3 d1 d2 d3 : Nat) (Sa Fa Sb Fb : List Int) (Ea Eb : List Aa) (hA : Hid (AP w a1 a2 a3 Sa Fa Ea)) (hB : Hid (AP w b1 b2 b3 Sb Fb Eb)) (h1 : Sa.length ≤ 4194304) (h2 : Fa.length ≤ 4194304) (h3 : Ea.length ≤ 4194304) (h4 : Sb.length ≤ 4194304) (h5 : Fb.length ≤ 4194304) (h6 : Eb.length ≤ 4194304) (em : AC n m Sa Fa Ea = true) (em' : AC n' m Sb Fb Eb = true) :
 Calls prog 31 #[.agg #[.int .i64 n, .int .i64 m, .slice a1 Sa.length c1, .slice a2 Fa.length c2, .slice a3 Ea.length c3], .agg #[.int .i64 n', .int .i64 m, .slice b1 Sb.length d1, .slice b2 Fb.length d2, .slice b3 Eb.length d3]] w fun e w' => ∃ g1 k1 g2 k2 g3 k3 r1 q1 r2 q2 r3 q3, e = .returned (.tuple #[.agg #[.int .i64 n, .int .i64 m, .slice (some ⟨g1, 0, none⟩) (A5 Sa).length k1, .slice (some ⟨g2, 0, none⟩) (A5 Fa).length k2, .slice (some ⟨g3, 0, none⟩) (A7 Ea).length k3], .agg #[.int .i64 n', .int .i64 m, .slice (some ⟨r1, 0, none⟩) (A5 Sb).length q1, .slice (some ⟨r2, 0, none⟩) (A5 Fb).length q2, .slice (some ⟨r3, 0, none⟩) (A7 Eb).length q3], .int .i64 0]) ∧ Hid (AE w.heap.size w' (.slice (some ⟨g1, 0, none⟩) (A5 Sa).length k1) (.slice (some ⟨g2, 0, none⟩) (A5 Fa).length k2) (.slice (some ⟨g3, 0, none⟩) (A7 Ea).length k3) (A5 Sa) (A5 Fa) (A7 Ea) ∧ AE w.heap.size w' (.slice (some ⟨r1, 0, none⟩) (A5 Sb).length q1) (.slice (some ⟨r2, 0, none⟩) (A5 Fb).length q2) (.slice (some ⟨r3, 0, none⟩) (A7 Eb).length q3) (A5 Sb) (A5 Fb) (A7 Eb) ∧ Below w.heap.size w w') := by
 obtain ⟨W0, hW0⟩ : ∃ W0, (((w.alloc (.cells #[.int .i64 n, .int .i64 m, .slice a1 Sa.length c1, .slice a2 Fa.length c2, .slice a3 Ea.length c3] 25)).alloc (.cells #[.int .i64 n', .int .i64 m, .slice b1 Sb.length d1, .slice b2 Fb.length d2, .slice b3 Eb.length d3] 25)).alloc (.cells #[.int .i64 0, .int .i64 0, .slice none 0 0, .slice none 0 0, .slice none 0 0] 25)).alloc (.cells #[.int .i64 0, .int .i64 0, .slice none 0 0, .slice none 0 0, .slice none 0 0] 25) = W0 := ⟨_, rfl⟩
 have HD := A0 (And.intro (Iv w (.cells #[.int .i64 n, .int .i64 m, .slice a1 Sa.length c1, .slice a2 Fa.length c2, .slice a3 Ea.length c3] 25) (.cells #[.int .i64 n', .int .i64 m, .slice b1 Sb.length d1, .slice b2 Fb.length d2, .slice b3 Eb.length d3] 25) (.cells #[.int .i64 0, .int .i64 0, .slice none 0 0, .slice none 0 0, .slice none 0 0] 25) (.cells #[.int .i64 0, .int .i64 0, .slice none 0 0, .slice none 0 0, .slice none 0 0] 25)) (show ((((w.alloc (.cells #[.int .i64 n, .int .i64 m, .slice a1 Sa.length c1, .slice a2 Fa.length c2, .slice a3 Ea.length c3] 25)).alloc (.cells #[.int .i64 n', .int .i64 m, .slice b1 Sb.length d1, .slice b2 Fb.length d2, .slice b3 Eb.length d3] 25)).alloc (.cells #[.int .i64 0, .int .i64 0, .slice none 0 0, .slice none 0 0, .slice none 0 0] 25)).alloc (.cells #[.int .i64 0, .int .i64 0, .slice none 0 0, .slice none 0 0, .slice none 0 0] 25)).heap.size = w.heap.size + 4 by simp))
 rw [hW0] at HD
 obtain ⟨y0, y1, y2, y3, y4⟩ := An HD.out.1.2.1 rfl rfl rfl rfl rfl
 have TN := CD W0 n m a1 a2 a3 c1 c2 c3 Sa Fa Ea (A0 (hA.out.on HD.out.1.1)) h1 h2 h3 em
 obtain ⟨S1, hS1⟩ : ∃ X, A5 Sa = X := ⟨_, rfl⟩
 obtain ⟨F1, hF1⟩ : ∃ X, A5 Fa = X := ⟨_, rfl⟩
 obtain ⟨E1, hE1⟩ : ∃ X, A7 Ea = X := ⟨_, rfl⟩
 rw [hS1, hF1, hE1] at TN
 obtain ⟨S2, hS2⟩ : ∃ X, A5 Sb = X := ⟨_, rfl⟩
 obtain ⟨F2, hF2⟩ : ∃ X, A5 Fb = X := ⟨_, rfl⟩
 obtain ⟨E2, hE2⟩ : ∃ X, A7 Eb = X := ⟨_, rfl⟩
 rw [hS1, hF1, hE1, hS2, hF2, hE2]
 have HR2 := A0 (And.intro hS2 (And.intro hF2 hE2))
 clear hS2 hF2 hE2
 clear em hS1 hF1 hE1
 go_enter func31, ntmps31
 go_upto_region 4 with (go_at_call 53; refine TN.mono ?_; rintro e w1 ⟨g1, k1, g2, k2, g3, k3, rfl, HO, D1⟩; have HF1 := A0 (And.intro D1 HO); have F4 := A3 HD.out.1.2.2.2.1 D1; obtain ⟨o0, o1, o2, o3, o4⟩ := An F4 rfl rfl rfl rfl rfl; have f0 : w1.frozen? ⟨w.heap.size + 1 + 1, 0, none⟩ = false := A4 F4; have f1 : w1.frozen? ⟨w.heap.size + 1 + 1, 1, none⟩ = false := A4 F4; have f2 : w1.frozen? ⟨w.heap.size + 1 + 1, 2, none⟩ = false := A4 F4; have f3 : w1.frozen? ⟨w.heap.size + 1 + 1, 3, none⟩ = false := A4 F4; have f4 : w1.frozen? ⟨w.heap.size + 1 + 1, 4, none⟩ = false := A4 F4; clear F4 D1 HO)
 obtain ⟨W2, hW2⟩ : ∃ W2, (((((w1.setCell ⟨w.heap.size + 1 + 1, 0, none⟩ (.int .i64 n)).setCell ⟨w.heap.size + 1 + 1, 1, none⟩ (.int .i64 m)).setCell ⟨w.heap.size + 1 + 1, 2, none⟩ (.slice (some ⟨g1, 0, none⟩) S1.length k1)).setCell ⟨w.heap.size + 1 + 1, 3, none⟩ (.slice (some ⟨g2, 0, none⟩) F1.length k2)).setCell ⟨w.heap.size + 1 + 1, 4, none⟩ (.slice (some ⟨g3, 0, none⟩) E1.length k3)) = W2 := ⟨_, rfl⟩
 rw [hW2]
 have H2 : Hid (W2.heap[w.heap.size + 1 + 1]? = some (.cells #[.int .i64 n, .int .i64 m, .slice (some ⟨g1, 0, none⟩) S1.length k1, .slice (some ⟨g2, 0, none⟩) F1.length k2, .slice (some ⟨g3, 0, none⟩) E1.length k3] 25 (0, 0)) ∧ W2.heap[w.heap.size + 1 + 1 + 1]? = some (.cells #[.int .i64 0, .int .i64 0, .slice none 0 0, .slice none 0 0, .slice none 0 0] 25 (0, 0)) ∧ Below w.heap.size w W2 ∧ W2.heap[w.heap.size + 1]? = some (.cells #[.int .i64 n', .int .i64 m, .slice b1 Sb.length d1, .slice b2 Fb.length d2, .slice b3 Eb.length d3] 25 (0, 0)) ∧ AE w.heap.size W2 (.slice (some ⟨g1, 0, none⟩) S1.length k1) (.slice (some ⟨g2, 0, none⟩) F1.length k2) (.slice (some ⟨g3, 0, none⟩) E1.length k3) S1 F1 E1) := A0 (by
  have q4 := A3 HD.out.1.2.2.2.1 HF1.out.1
  have q5 := A3 HD.out.1.2.2.2.2 HF1.out.1
  have q1 := A3 HD.out.1.2.2.1 HF1.out.1
  have o := AF w1 (w.heap.size + 1 + 1) (.int .i64 n) (.int .i64 m) (.slice (some ⟨g1, 0, none⟩) S1.length k1) (.slice (some ⟨g2, 0, none⟩) F1.length k2) (.slice (some ⟨g3, 0, none⟩) E1.length k3)
  have d := HD.out.1.1.trans (HF1.out.1.mono HD.out.1.1.size)
  have s0 := HD.out.1.1.size
  have ow : AE W0.heap.size w1 (.slice (some ⟨g1, 0, none⟩) S1.length k1) (.slice (some ⟨g2, 0, none⟩) F1.length k2) (.slice (some ⟨g3, 0, none⟩) E1.length k3) S1 F1 E1 := De HF1.out.2
  rw [← hW2]
  exact ⟨AT w1 (w.heap.size + 1 + 1) _ _ _ _ _ _ _ _ _ _ 25 q4, (o.block _ (Array.getElem?_eq_some_iff.1 q5).1 (by omega)).trans q5, d.trans (o.toBelow d.size (fun k hk => by omega)), (o.block _ (Array.getElem?_eq_some_iff.1 q1).1 (by omega)).trans q1, (ow.keep q4 o).down (by omega)⟩)
 clear hW2 HF1 TN o0 f0 y0 o1 f1 y1 o2 f2 y2 o3 f3 y3 o4 f4 y4
 obtain ⟨y0, y1, y2, y3, y4⟩ := An H2.out.2.2.2.1 rfl rfl rfl rfl rfl
 have TB := CD W2 n' m b1 b2 b3 d1 d2 d3 Sb Fb Eb (A0 (hB.out.on H2.out.2.2.1)) h4 h5 h6 em'
 rw [HR2.out.1, HR2.out.2.1, HR2.out.2.2] at TB
 clear em'
 go_upto_region 7 with (go_at_call 53; refine TB.mono ?_; rintro e w3 ⟨r1, q1, r2, q2, r3, q3, rfl, HO, D3⟩; have HF3 := A0 (And.intro D3 HO); have F5 := A3 H2.out.2.1 D3; obtain ⟨o0, o1, o2, o3, o4⟩ := An F5 rfl rfl rfl rfl rfl; have f0 : w3.frozen? ⟨w.heap.size + 1 + 1 + 1, 0, none⟩ = false := A4 F5; have f1 : w3.frozen? ⟨w.heap.size + 1 + 1 + 1, 1, none⟩ = false := A4 F5; have f2 : w3.frozen? ⟨w.heap.size + 1 + 1 + 1, 2, none⟩ = false := A4 F5; have f3 : w3.frozen? ⟨w.heap.size + 1 + 1 + 1, 3, none⟩ = false := A4 F5; have f4 : w3.frozen? ⟨w.heap.size + 1 + 1 + 1, 4, none⟩ = false := A4 F5; clear F5 D3 HO)
 obtain ⟨W4, hW4⟩ : ∃ W4, (((((w3.setCell ⟨w.heap.size + 1 + 1 + 1, 0, none⟩ (.int .i64 n')).setCell ⟨w.heap.size + 1 + 1 + 1, 1, none⟩ (.int .i64 m)).setCell ⟨w.heap.size + 1 + 1 + 1, 2, none⟩ (.slice (some ⟨r1, 0, none⟩) S2.length q1)).setCell ⟨w.heap.size + 1 + 1 + 1, 3, none⟩ (.slice (some ⟨r2, 0, none⟩) F2.length q2)).setCell ⟨w.heap.size + 1 + 1 + 1, 4, none⟩ (.slice (some ⟨r3, 0, none⟩) E2.length q3)) = W4 := ⟨_, rfl⟩
 rw [hW4]
 have H4 : Hid (W4.heap[w.heap.size + 1 + 1]? = some (.cells #[.int .i64 n, .int .i64 m, .slice (some ⟨g1, 0, none⟩) S1.length k1, .slice (some ⟨g2, 0, none⟩) F1.length k2, .slice (some ⟨g3, 0, none⟩) E1.length k3] 25 (0, 0)) ∧ W4.heap[w.heap.size + 1 + 1 + 1]? = some (.cells #[.int .i64 n', .int .i64 m, .slice (some ⟨r1, 0, none⟩) S2.length q1, .slice (some ⟨r2, 0, none⟩) F2.length q2, .slice (some ⟨r3, 0, none⟩) E2.length q3] 25 (0, 0)) ∧ Below w.heap.size w W4 ∧ AE w.heap.size W4 (.slice (some ⟨g1, 0, none⟩) S1.length k1) (.slice (some ⟨g2, 0, none⟩) F1.length k2) (.slice (some ⟨g3, 0, none⟩) E1.length k3) S1 F1 E1 ∧ AE w.heap.size W4 (.slice (some ⟨r1, 0, none⟩) S2.length q1) (.slice (some ⟨r2, 0, none⟩) F2.length q2) (.slice (some ⟨r3, 0, none⟩) E2.length q3) S2 F2 E2) := A0 (by
  have q4 := A3 H2.out.1 HF3.out.1
  have q5 := A3 H2.out.2.1 HF3.out.1
  have o := AF w3 (w.heap.size + 1 + 1 + 1) (.int .i64 n') (.int .i64 m) (.slice (some ⟨r1, 0, none⟩) S2.length q1) (.slice (some ⟨r2, 0, none⟩) F2.length q2) (.slice (some ⟨r3, 0, none⟩) E2.length q3)
  have d := H2.out.2.2.1.trans (HF3.out.1.mono H2.out.2.2.1.size)
  have ow : AE W2.heap.size w3 (.slice (some ⟨r1, 0, none⟩) S2.length q1) (.slice (some ⟨r2, 0, none⟩) F2.length q2) (.slice (some ⟨r3, 0, none⟩) E2.length q3) S2 F2 E2 := De HF3.out.2
  rw [← hW4]
  exact ⟨(o.block _ (Array.getElem?_eq_some_iff.1 q4).1 (by omega)).trans q4, AT w3 (w.heap.size + 1 + 1 + 1) _ _ _ _ _ _ _ _ _ _ 25 q5, d.trans (o.toBelow d.size (fun k hk => by omega)), (H2.out.2.2.2.2.on HF3.out.1).keep q5 o, (ow.keep q5 o).down H2.out.2.2.1.size⟩)
 clear hW4 HF3 TB H2 o0 f0 y0 o1 f1 y1 o2 f2 y2 o3 f3 y3 o4 f4 y4
 obtain ⟨o0, o1, o2, o3, o4⟩ := An H4.out.1 rfl rfl rfl rfl rfl
 have f0 : W4.frozen? ⟨w.heap.size + 1 + 1, 0, none⟩ = false := A4 H4.out.1
 have f1 : W4.frozen? ⟨w.heap.size + 1 + 1, 1, none⟩ = false := A4 H4.out.1
 have f2 : W4.frozen? ⟨w.heap.size + 1 + 1, 2, none⟩ = false := A4 H4.out.1
 have f3 : W4.frozen? ⟨w.heap.size + 1 + 1, 3, none⟩ = false := A4 H4.out.1
 have f4 : W4.frozen? ⟨w.heap.size + 1 + 1, 4, none⟩ = false := A4 H4.out.1
 obtain ⟨p0, p1, p2, p3, p4⟩ := An H4.out.2.1 rfl rfl rfl rfl rfl
 have fz0 : W4.frozen? ⟨w.heap.size + 1 + 1 + 1, 0, none⟩ = false := A4 H4.out.2.1
 have fz1 : W4.frozen? ⟨w.heap.size + 1 + 1 + 1, 1, none⟩ = false := A4 H4.out.2.1
 have fz2 : W4.frozen? ⟨w.heap.size + 1 + 1 + 1, 2, none⟩ = false := A4 H4.out.2.1
 have fz3 : W4.frozen? ⟨w.heap.size + 1 + 1 + 1, 3, none⟩ = false := A4 H4.out.2.1
 have fz4 : W4.frozen? ⟨w.heap.size + 1 + 1 + 1, 4, none⟩ = false := A4 H4.out.2.1
 have O5 := A0 (IH (W := W4) (x0 := .int .i64 n) (z0 := .int .i64 n') (x1 := .int .i64 m) (z1 := .int .i64 m) (x2 := .slice (some ⟨g1, 0, none⟩) S1.length k1) (z2 := .slice (some ⟨r1, 0, none⟩) S2.length q1) (x3 := .slice (some ⟨g2, 0, none⟩) F1.length k2) (z3 := .slice (some ⟨r2, 0, none⟩) F2.length q2) (x4 := .slice (some ⟨g3, 0, none⟩) E1.length k3) (z4 := .slice (some ⟨r3, 0, none⟩) E2.length q3) H4.out.1 H4.out.2.1 (by omega))
 go_upto_region 9 with fail
 go_region_law (fail)
 all_goals
  have O6 := O5.out
  generalize ((((((((((W4.setCell ⟨w.heap.size + 1 + 1, 0, none⟩ (.int .i64 n)).setCell ⟨w.heap.size + 1 + 1, 1, none⟩ (.int .i64 m)).setCell ⟨w.heap.size + 1 + 1, 2, none⟩ (.slice (some ⟨g1, 0, none⟩) S1.length k1)).setCell ⟨w.heap.size + 1 + 1, 3, none⟩ (.slice (some ⟨g2, 0, none⟩) F1.length k2)).setCell ⟨w.heap.size + 1 + 1, 4, none⟩ (.slice (some ⟨g3, 0, none⟩) E1.length k3)).setCell ⟨w.heap.size + 1 + 1 + 1, 0, none⟩ (.int .i64 n')).setCell ⟨w.heap.size + 1 + 1 + 1, 1, none⟩ (.int .i64 m)).setCell ⟨w.heap.size + 1 + 1 + 1, 2, none⟩ (.slice (some ⟨r1, 0, none⟩) S2.length q1)).setCell ⟨w.heap.size + 1 + 1 + 1, 3, none⟩ (.slice (some ⟨r2, 0, none⟩) F2.length q2)).setCell ⟨w.heap.size + 1 + 1 + 1, 4, none⟩ (.slice (some ⟨r3, 0, none⟩) E2.length q3)) = W6 at O6 ⊢
  have K6 : Hid (W6.drew.heap[w.heap.size + 1 + 1]? = some (.cells #[.int .i64 n, .int .i64 m, .slice (some ⟨g1, 0, none⟩) S1.length k1, .slice (some ⟨g2, 0, none⟩) F1.length k2, .slice (some ⟨g3, 0, none⟩) E1.length k3] 25 (0, 0)) ∧ W6.drew.heap[w.heap.size + 1 + 1 + 1]? = some (.cells #[.int .i64 n', .int .i64 m, .slice (some ⟨r1, 0, none⟩) S2.length q1, .slice (some ⟨r2, 0, none⟩) F2.length q2, .slice (some ⟨r3, 0, none⟩) E2.length q3] 25 (0, 0)) ∧ AE w.heap.size W6.drew (.slice (some ⟨g1, 0, none⟩) S1.length k1) (.slice (some ⟨g2, 0, none⟩) F1.length k2) (.slice (some ⟨g3, 0, none⟩) E1.length k3) S1 F1 E1 ∧ AE w.heap.size W6.drew (.slice (some ⟨r1, 0, none⟩) S2.length q1) (.slice (some ⟨r2, 0, none⟩) F2.length q2) (.slice (some ⟨r3, 0, none⟩) E2.length q3) S2 F2 E2 ∧ Below w.heap.size w W6.drew) := A0 (by
   have dq : Below W6.heap.size W6 W6.drew := ⟨rfl, rfl, rfl, Nat.le_refl _, fun _ _ => rfl⟩
   have d6 := H4.out.2.2.1.trans (O6.2.2.toBelow H4.out.2.2.1.size (fun k hk => by omega))
   exact ⟨O6.1, O6.2.1, (Ih H4.out.2.2.2.1 H4.out.1 H4.out.2.1 O6.2.2).on dq, (Ih H4.out.2.2.2.2 H4.out.1 H4.out.2.1 O6.2.2).on dq, d6.trans (dq.mono d6.size)⟩)
  clear O6
  go_wp2_with fail
  refine bodyPost_ret (Bo (p := 4) (q := 5) (r := 6) (ty := 25) rfl _ _ (w.heap.size + 1 + 1) (w.heap.size + 1 + 1 + 1) 25 _ _ (0, 0) _ _ rfl rfl rfl K6.out.1 K6.out.2.1 underlying25 rfl (by kernel_rfl) (by kernel_rfl)) rfl ?_
  exact ⟨g1, k1, g2, k2, g3, k3, r1, q1, r2, q2, r3, q3, rfl, A0 K6.out.2.2⟩
theorem BH (w : World) (A B Z : Array Value) (t : TypeId) : Below w.heap.size w (((w.alloc (.cells A t)).alloc (.cells B t)).alloc (.cells Z t)) ∧ (((w.alloc (.cells A t)).alloc (.cells B t)).alloc (.cells Z t)).heap[w.heap.size]? = some (.cells A t (0, 0)) ∧ (((w.alloc (.cells A t)).alloc (.cells B t)).alloc (.cells Z t)).heap[w.heap.size + 1]? = some (.cells B t (0, 0)) ∧ (((w.alloc (.cells A t)).alloc (.cells B t)).alloc (.cells Z t)).heap[w.heap.size + 1 + 1]? = some (.cells Z t (0, 0)) ∧ (((w.alloc (.cells A t)).alloc (.cells B t)).alloc (.cells Z t)).heap.size = w.heap.size + 3 := by
 have q := Br w A B t
 have z := World.alloc_heap_new ((w.alloc (.cells A t)).alloc (.cells B t)) (.cells Z t)
 rw [q.2.2.2] at z
 have k := (Below.refl _ ((w.alloc (.cells A t)).alloc (.cells B t))).alloc (Nat.le_refl _) (.cells Z t)
 exact ⟨q.1.trans (k.mono q.1.size), A3 q.2.1 k, A3 q.2.2.1 k, z, by simp⟩
theorem KU {w : World} (ty : TypeId) (B : Nat) (v : Value) (X : List Aa) (hown : w.ownsRow B 50 3 v X.length (X.flatMap Ae)) (ao : Option Addr) (n c : Nat) (Y : List Aa) (hn : Y.length = n) (hz : ao = none → c = 0) (hr : Cl w ao Y) (hl : X.length + Y.length ≤ 4194304) (hB : B ≤ w.heap.size) :
 ∃ z5 d5 w', (Builtin.append_ #[23, 23] ty #[v, .slice ao n c]).run prog w = .ok (.slice z5 (X ++ Y).length d5) w' ∧ w'.ownsRow B 50 3 (.slice z5 (X ++ Y).length d5) (X ++ Y).length ((X ++ Y).flatMap Ae) ∧ w.grownBy w' v.ownBlock := by
 obtain ⟨i5, hi5, hz50, hz51, hz52⟩ := AA DQ
 subst hn
 cases ao with
 | none =>
  obtain rfl : Y = [] := by
   cases Y with
   | nil => rfl
   | cons y Y => obtain ⟨g, o, e, _⟩ := hr 0 (by simp); cases e
  obtain rfl := hz rfl
  obtain ⟨z5, d5, rfl⟩ := A8 hown
  refine ⟨z5, d5, w, ?_, ?_, rfl, rfl, rfl, Nat.le_refl _, fun _ _ _ => rfl⟩
  · have q := run_append_owned_none (P := prog) (w := w) B 23 ty 50 i5 3 underlying23 hi5 _ _ _ hown
    simpa using q
  · simpa using hown
 | some ad =>
  obtain ⟨v', w', hrun, h2, hg, _, _⟩ := run_append_own_at (P := prog) w B 23 ty 50 i5 _ 3 24 underlying23 hi5 hz50 hz51 hz52 rfl (by omega) v X.length (X.flatMap Ae) hown ad Y.length c (Y.flatMap Ae) (Cc Y) (fun j u hu => by
   have h0 : 0 < Y.length := by
    cases Y with
    | nil => simp at hu
    | cons y Y => simp
   obtain ⟨g, o, e, _⟩ := hr 0 h0
   cases e
   rw [Addr.add_lit]
   exact FS hr j u hu) (I8 Y) (by unfold maxLen; omega) (by omega) hB
  have h3 : w'.ownsRow B 50 3 v' (X ++ Y).length ((X ++ Y).flatMap Ae) := by
   rw [List.flatMap_append, List.length_append]
   exact h2
  obtain ⟨z5, d5, rfl⟩ := A8 h3
  exact ⟨z5, d5, w', hrun, h3, hg⟩
theorem EL {ops : Array Oper} {o : Oper} {a : Act} {K : Act → World → Prop} {Q : Exit → Act → World → Prop} {E : Prop} {w : World} (hgd : o.guard = none) (s x : Operand)
 (ho : o.op = .call { callee := .builtin .append, args := #[s, x], argTypes := #[23, 23] }) (B : Nat) (v : Value) (X : List Aa) (hs : a.eval s = v) (hown : w.ownsRow B 50 3 v X.length (X.flatMap Ae)) (ao : Option Addr) (n c : Nat) (Y : List Aa) (hn : Y.length = n) (hz : ao = none → c = 0) (hx : a.eval x = .slice ao n c) (hr : Cl w ao Y) (hl : X.length + Y.length ≤ 4194304) (hB : B ≤ w.heap.size)
 (h : ∀ z5 d5 w', Hid (w'.ownsRow B 50 3 (.slice z5 (X ++ Y).length d5) (X ++ Y).length ((X ++ Y).flatMap Ae)) → Hid (Ab w w' (fun k => v.ownBlock = some k)) → K (a.put o.dst (.slice z5 (X ++ Y).length d5)) w') :
 if Region.wanted o (yielded ops a.tmps) = true then Oper.wp prog o a w K Q else E := by
 have hw : Region.wanted o (yielded ops a.tmps) = true := by simp [Region.wanted, hgd]
 rw [if_pos hw]
 obtain ⟨z5, d5, w', hrun, h2, hg⟩ := KU o.type B v X hown ao n c Y hn hz hr hl hB
 unfold Oper.wp
 simp [execOp, ho, resolve, invoke, builtin, hs, hx, hrun, Result.andThen]
 have q := h z5 d5 w' (A0 h2) (A0 (AL hg))
 simp only [List.length_append] at q
 exact q
end Go.Proofs.YtchoopnjckcohaaGreat
namespace Go.Proofs.YtchoopnjckcohaaGreat
open Tryz
open Go.RowKit
section
variable {P : Program} {ops : Array Oper} {Q : Exit → Act → World → Prop}
def JS (J : Bool → World → Prop) (i0 : Nat) (b : Bool) (L : List It) (i : Nat) (y : Nat → Value) (W W' : World) : Prop := J (i == i0 || b) W' ∧ W.heap.size ≤ W'.heap.size ∧ ∀ j, j ≠ i → j ∉ (Cf L i).ret → ∀ lo hi, hi ≤ W.heap.size → (Cf L j).p y lo hi W → (Cf L j).p y lo hi W'
theorem AB {J : Bool → World → Prop} {i0 : Nat} {b : Bool} {L : List It} {i : Nat} {y : Nat → Value} {W W' : World} (hm : AJ 0 L) (hj : J (i == i0 || b) W') (d1 : Below W.heap.size W W') : JS J i0 b L i y W W' :=
 ⟨hj, d1.size, fun j _ _ lo hi hs h => by
  have := AJ.at L 0 j hm y y lo hi W W' hs d1 (fun _ _ => rfl)
  exact this h⟩
def Pt (P : Program) (ops : Array Oper) (Q : Exit → Act → World → Prop) (w : World) (J : Bool → World → Prop) (i0 : Nat) (fill : (Nat → Value) → Act) (L : List It) (i : Nat) (o : Oper) : Prop :=
 ∀ (y : Nat → Value) (W : World) (b : Bool), ((i == i0) = true → b = false) → J b W → w.heap.size ≤ W.heap.size → (∀ e ∈ o.after, Region.binds .any e = true → KR e = true → ∃ lo hi, w.heap.size ≤ lo ∧ hi ≤ W.heap.size ∧ (Cf L e.on).p y lo hi W) →
  ∀ K : Act → World → Prop, Shut (∀ x a' W', JS J i0 b L i y W W' → (Cf L i).p (AK y i x) W.heap.size W'.heap.size W' → a' = fill (AK y i x) → K a' W') → if Region.wanted o (yielded ops (fill y).tmps) = true then Oper.wp P o (fill y) W K Q else K ((fill y).put o.dst undef) W
def F7 (P : Program) (ops : Array Oper) (Q : Exit → Act → World → Prop) (w : World) (J : Bool → World → Prop) (i0 : Nat) (fill : (Nat → Value) → Act) (L : List It) : Nat → List Oper → Prop
 | _, [] => True
 | k, o :: r => Pt P ops Q w J i0 fill L k o ∧ F7 P ops Q w J i0 fill L (k + 1) r
theorem F7.at {w : World} {J : Bool → World → Prop} {i0 : Nat} {fill : (Nat → Value) → Act} {L : List It} : ∀ (l : List Oper) (k i : Nat) (o : Oper), F7 P ops Q w J i0 fill L k l → l[i]? = some o → Pt P ops Q w J i0 fill L (k + i) o
 | [], _, _, _, _, h => by simp at h
 | o' :: r, k, 0, o, H, h => by simp at h; subst h; exact H.1
 | o' :: r, k, i + 1, o, H, h => by
  have := F7.at r (k + 1) i o H.2 (by simpa using h)
  rwa [show k + 1 + i = k + (i + 1) by omega] at this
structure DH (w : World) (J : Bool → World → Prop) (i0 : Nat) (L : List It) (ops : Array Oper) (n : Nat) (is : Nat → Bool) (y : Nat → Value) (lo hi : Nat → Nat) (W : World) : Prop where
 d : J (is i0) W
 sz : w.heap.size ≤ W.heap.size
 fact : ∀ i, i < n → is i = true → (∀ k, k < n → is k = true → i ∉ (Cf L k).ret) → (Cf L i).p y (lo i) (hi i) W
 at' : ∀ i, i < n → is i = true → w.heap.size ≤ lo i ∧ lo i ≤ hi i ∧ hi i ≤ W.heap.size
 apart : ∀ i j, i < n → j < n → is i = true → is j = true → i ≠ j → hi i ≤ lo j ∨ hi j ≤ lo i
 order : ∀ j o e, j < n → is j = true → ops[j]? = some o → e ∈ o.after → Region.binds .any e = true → hi e.on ≤ lo j
theorem OJ {w : World} {J : Bool → World → Prop} {i0 : Nat} {fill : (Nat → Value) → Act} {L : List It} {n : Nat} {l2 : List Oper} {l1 : List Oper}
 (hi0 : i0 < n) (hp : C9 .any ops n = true) (hdep : Gk ops n = true) (hret : I1 ops n (L.map It.ret) (L.map It.reads) = true) (hl1 : ∀ j o, l1[j]? = some o ↔ (j < n ∧ ops[j]? = some o)) (hl2 : ∀ j o, l2[j]? = some o → ops[n + j]? = some o)
 (hline : ∀ listed : Array Bool, listed.size = ops.size → (∀ i, listed.getD i true = decide (i < n ∨ ops.size ≤ i)) → CX .any ops l2.length n listed = true)
 (hmono : AJ 0 L) (hop : F7 P ops Q w J i0 fill L 0 l1)
 (hfin : ∀ y lo hi W, DH w J i0 L ops n (fun _ => true) y lo hi W → wpList P ops Q l2 (fill y) W) :
 ∀ (m : Nat) (x : Nat) (listed : Array Bool) (y : Nat → Value) (lo hi : Nat → Nat) (W : World), listed.size = ops.size → (∀ i, n ≤ i → i < ops.size → listed.getD i true = false) → BD .any ops listed → Ca (fun i => !listed.getD i true) n = m →
  DH w J i0 L ops n (fun i => listed.getD i true) y lo hi W → wpAny P .any ops Q (l2.length + m + x) listed (fill y) W := by
 intro m
 induction m with
 | zero =>
  intro x listed y lo hi W hsz hge hc hcnt hM
  have hall : ∀ i, i < n → listed.getD i true = true := fun i hi => by
   have := Dt n hcnt i hi
   simpa using this
  refine EN x n listed (fill y) W hl2 (hline listed hsz ?_) (hfin y lo hi W ?_)
  · intro i
    rcases Nat.lt_or_ge i n with h | h
    · rw [hall i h]; simp [h]
    · rcases Nat.lt_or_ge i ops.size with h2 | h2
      · rw [hge i h h2]; symm; simp; omega
      · rw [show listed.getD i true = true by simp [Array.getElem?_eq_none (show listed.size ≤ i by omega)]]; symm; simp; omega
  · exact ⟨by have q := hM.d; simp only [hall i0 hi0] at q; exact q, hM.sz, fun i hi _ hr => hM.fact i hi (hall i hi) (fun k hk _ => hr k hk rfl), fun i hi _ => hM.at' i hi (hall i hi), fun i j hi hj _ _ h => hM.apart i j hi hj (hall i hi) (hall j hj) h, fun j o e hj _ ho he hb => hM.order j o e hj (hall j hj) ho he hb⟩
 | succ m ih =>
  intro x listed y lo hi W hsz hge hc hcnt hM
  obtain ⟨i9, hi9, hf0, hless⟩ := CM (f := fun i => !listed.getD i true) n (by omega)
  have hun : listed.getD i9 true = false := by simpa using hf0
  obtain ⟨o0, ho0, hd0⟩ := Bk hdep hi9
  have hin : ∀ i, i < n → i < listed.size := fun i hi => by
   obtain ⟨o, ho, _⟩ := Bk hdep hi
   have := (Array.getElem?_eq_some_iff.1 ho).1
   omega
  have hready : i9 ∈ Region.ready .any ops listed := mem_ready.2 ⟨hun, o0, ho0, fun e he hb => by
   have h1 := hd0 e he hb
   have h2 := hless e.on h1
   have h3 : listed.getD e.on true = true := by simpa using h2
   have h4 := hin e.on (by omega)
   simpa [h4] using h3⟩
  rw [show l2.length + (m + 1) + x = (l2.length + m + x) + 1 by omega]
  refine ⟨fun h => (by rw [h] at hready; cases hready), fun j hj => ?_⟩
  have hjn : j < n := DC hp hc hi9 hun hj
  obtain ⟨hjun, oj, hoj, hall⟩ := mem_ready.1 hj
  have H := F7.at l1 0 j oj hop ((hl1 j oj).2 ⟨hjn, hoj⟩)
  rw [Nat.zero_add] at H
  refine wpOp_step hoj (fun K' hK => H y W (listed.getD i0 true) (fun e => (eq_of_beq e) ▸ hjun) hM.d hM.sz (fun e he hb Ng => ?_) K' ?_)
  · have h1 := hall e he hb
    obtain ⟨o', ho', hd'⟩ := Bk hdep hjn
    rw [hoj] at ho'
    cases ho'
    have h2 := hd' e he hb
    have h3 := BQ _ _ h1
    refine ⟨lo e.on, hi e.on, (hM.at' e.on (by omega) h3).1, (hM.at' e.on (by omega) h3).2.2, hM.fact e.on (by omega) h3 (fun k hk hlk hmem => ?_)⟩
    have hkj : j ≠ k := fun h => by rw [h] at hjun; rw [hjun] at hlk; cases hlk
    have := Bj hc (He hret hk hjn hkj hmem hoj he hb Ng rfl) hlk
    rw [hjun] at this
    cases this
  · rintro v a' W' ⟨hD, hs2, hkeep⟩ hΦ rfl
    have hsj := hin j hjn
    have g1 : (listed.setIfInBounds j true).getD j true = true := by simp [hsj]
    refine hK _ _ ?_
    refine ih x (listed.setIfInBounds j true) (AK y j v) (fun i => if i = j then W.heap.size else lo i) (fun i => if i = j then W'.heap.size else hi i) W' (by simp [hsz]) (fun i h1 h2 => ?_) (hc.set hj) ?_ ?_
    · rw [getD_set_ne true (by omega)]; exact hge i h1 h2
    · have := Dv (f := fun i => !listed.getD i true) (g := fun i => !(listed.setIfInBounds j true).getD i true) (j := j) (by simp only [hjun]; rfl) (by simp only [g1]; rfl) (fun i hi => by simp only [getD_set_ne true (Ne.symm hi)]) n hjn
      omega
    · have old : ∀ i, i ≠ j → (listed.setIfInBounds j true).getD i true = true → listed.getD i true = true := fun i h1 h2 => by rwa [getD_set_ne true (Ne.symm h1)] at h2
      have new : ∀ i, listed.getD i true = true → (listed.setIfInBounds j true).getD i true = true := fun i h => by
       by_cases e : j = i
       · subst e; exact g1
       · rwa [getD_set_ne true e]
      have hs := hM.sz
      refine ⟨?_, Nat.le_trans hs hs2, fun i hi h hr => ?_, fun i hi h => ?_, fun i k hi hk h1 h2 hne => ?_, fun k o e hk h1 ho he hb => ?_⟩
      · show J ((listed.setIfInBounds j true).getD i0 true) W'
        by_cases e : j = i0
        · subst e; rw [g1]; simpa using hD
        · rw [getD_set_ne true e]; rw [show (j == i0) = false by simpa using e, Bool.false_or] at hD; exact hD
      · by_cases e : i = j
        · subst e; simp only [if_pos]; exact hΦ
        · simp only [if_neg e]
          have hli := old i e h
          have h5 := hkeep i e (hr j hjn g1) _ _ (hM.at' i hi hli).2.2 (hM.fact i hi hli (fun k hk hlk => hr k hk (new k hlk)))
          have h6 := AJ.at L 0 i hmono y (AK y j v) (lo i) _ W' W' (Nat.le_trans (hM.at' i hi hli).2.2 hs2) (Below.refl _ _) (fun q hq => by
           rw [Nat.zero_add] at hq
           have hne : q ≠ j := by
            rcases hq with hq | hq
            · rw [hq]; exact e
            · intro hqj
              have := Bj hc (FC hret hi hq) hli
              rw [hqj, hjun] at this
              cases this
           simp [AK, hne])
          exact h6 h5
      · by_cases e : i = j
        · subst e; simp only [if_pos]; exact ⟨hs, hs2, Nat.le_refl _⟩
        · simp only [if_neg e]; have := hM.at' i hi (old i e h); exact ⟨this.1, this.2.1, by omega⟩
      · by_cases e : i = j
        · have e2 : k ≠ j := fun h => hne (by rw [e, h])
          simp only [if_pos e, if_neg e2]
          exact Or.inr (hM.at' k hk (old k e2 h2)).2.2
        · by_cases e2 : k = j
          · simp only [if_neg e, if_pos e2]
            exact Or.inl (hM.at' i hi (old i e h1)).2.2
          · simp only [if_neg e, if_neg e2]
            exact hM.apart i k hi hk (old i e h1) (old k e2 h2) hne
      · obtain ⟨o', ho', hd'⟩ := Bk hdep hk
        rw [ho] at ho'
        cases ho'
        have hlt := hd' e he hb
        by_cases e1 : k = j
        · subst e1
          rw [hoj] at ho
          cases ho
          have h3 := BQ _ _ (hall e he hb)
          have e2 : e.on ≠ k := by omega
          simp only [if_pos, if_neg e2]
          exact (hM.at' e.on (by omega) h3).2.2
        · have h4 := old k e1 h1
          have h5 := BQ _ _ (hc k o ho h4 e he hb)
          have e2 : e.on ≠ j := fun h => by rw [h, hjun] at h5; cases h5
          simp only [if_neg e1, if_neg e2]
          exact hM.order k o e hk h4 ho he hb
theorem Ge {id : Nat} {a : Act} {w : World} {l : List Oper} (J : Bool → World → Prop) (i0 : Nat) (L : List It) (hi0 : Nat.blt i0 L.length = true) (hJ0 : J false (w.drewN 1)) (hm : P.follows .mixedOrders = true) (hB : MO l.toArray L.length (L.map It.ret) (L.map It.reads) = true) (hmono : AJ 0 L)
 (h : ∀ F : (Nat → Value) → Act, F = (fun y => Aw 0 (l.take L.length) y a) → F7 P l.toArray Q w J i0 F L 0 (l.take L.length) ∧ ∀ y lo hi W, DH w J i0 L l.toArray L.length (fun _ => true) y lo hi W → wpList P l.toArray Q (l.drop L.length) (F y) W) : (Code.region id l.toArray true).wp P Q a w := by
 unfold MO JF at hB
 simp only [Bool.and_eq_true] at hB
 obtain ⟨⟨⟨⟨h0, h2⟩, h3⟩, h4⟩, h5⟩ := hB
 have hn : L.length ≤ l.length := by simpa using Nat.le_of_ble_eq_true h0
 refine wp_region_any hm ?_
 have hl2 : (l.drop L.length).length = l.toArray.size - L.length := by simp
 have F := OJ (P := P) (Q := Q) (w := w) (J := J) (i0 := i0) (fill := fun y => Aw 0 (l.take L.length) y a) (L := L) (n := L.length) (ops := l.toArray) (l1 := l.take L.length) (l2 := l.drop L.length) (by simpa using hi0) h2 h3 h5
  (fun j o => by
   rw [List.getElem?_take]
   split
   · rename_i h; simp [h]
   · rename_i h; constructor
     · intro h'; cases h'
     · intro h'; exact absurd h'.1 h)
  (fun j o ho => by rw [List.getElem?_drop] at ho; simpa using ho)
  (fun listed hs hg => by
   rw [hl2]
   have e : listed = Array.ofFn (n := l.toArray.size) fun i => decide (i.1 < L.length) := by
    refine Array.ext (by simp [hs]) (fun i h5 h6 => ?_)
    have := hg i
    simp only [Array.getElem_ofFn]
    have e1 : listed.getD i true = listed[i] := by simp [h5]
    rw [← e1, this]
    have : i < l.toArray.size := by omega
    by_cases h7 : i < L.length
    · simp [h7]
    · simp only [h7, false_or, decide_false, decide_eq_false_iff_not]; omega
   rw [e]; exact h4)
  hmono (h _ rfl).1 (h _ rfl).2 L.length 0 (Array.replicate l.toArray.size false) (EB l a) (fun _ => 0) (fun _ => 0) (w.drewN 1) (by simp) (fun i h5 h6 => by simp at h6; simp [h6]) (Cp _ _) ?_ ?_
 · have e : (l.drop L.length).length + L.length + 0 = l.toArray.size := by rw [hl2]; simp; omega
   rw [e, CS l a (l.take L.length) 0 (fun j o ho => by
    rw [List.getElem?_take] at ho
    split at ho
    · simpa using ho
    · cases ho)] at F
   exact F
 · have : ∀ k, k ≤ L.length → Ca (fun i => !(Array.replicate l.toArray.size false).getD i true) k = k := by
    intro k
    induction k with
    | zero => intro _; rfl
    | succ k ih =>
     intro hk
     have h5 : k < l.toArray.size := by simp; omega
     simp only [Ca]
     rw [ih (by omega)]
     have : (Array.replicate l.toArray.size false).getD k true = false := by simp at h5; simp [h5]
     simp only [this]; rfl
   exact this L.length (Nat.le_refl _)
 · have none : ∀ i, i < L.length → (Array.replicate l.toArray.size false).getD i true = true → False := fun i hi h => by
    have : i < l.length := by omega
    simp [this] at h
   have hi1 : i0 < l.length := by
    have : i0 < L.length := by simpa using hi0
    omega
   exact ⟨by simpa [hi1] using hJ0, Nat.le_refl _, fun i hi h => (none i hi h).elim, fun i hi h => (none i hi h).elim, fun i j hi _ h _ _ => (none i hi h).elim, fun j o e hj h _ _ _ => (none j hj h).elim⟩
theorem G1 {J : Bool → World → Prop} {i0 : Nat} {b : Bool} {L : List It} {i : Nat} {y : Nat → Value} {W W' : World} (rs : List Nat) (hr : (Cf L i).ret = rs) (d : J (i == i0 || b) W') (hs : W.heap.size ≤ W'.heap.size) (h : EU y W W' (i :: rs) 0 L) : JS J i0 b L i y W W' := ⟨d, hs, fun j hj hn => EU.at L 0 j h (by rw [Nat.zero_add]; rw [hr] at hn; simp [hj, hn])⟩
def PG (P : Program) (ops : Array Oper) (Q : Exit → Act → World → Prop) (w : World) (J : Bool → World → Prop) (i0 : Nat) (a : Act) (l : List Oper) (L : List It) (i : Nat) (o : Oper) : Prop :=
 ∀ (A : Act) (y : Nat → Value) (W : World) (b : Bool), (∀ (j : Nat) (o' : Oper) (d : Nat), l[j]? = some o' → o'.dst = some d → A.tmps.getD d undef = y j) → (∀ d, KS d l = false → A.tmps.getD d undef = a.tmps.getD d undef) → ((i == i0) = true → b = false) → J b W → w.heap.size ≤ W.heap.size → (∀ e ∈ o.after, Region.binds .any e = true → KR e = true → ∃ lo hi, w.heap.size ≤ lo ∧ hi ≤ W.heap.size ∧ (Cf L e.on).p y lo hi W) →
  ∀ K : Act → World → Prop, Shut (∀ x W', JS J i0 b L i y W W' → (Cf L i).p (AK y i x) W.heap.size W'.heap.size W' → K (A.put o.dst x) W') → if Region.wanted o (yielded ops A.tmps) = true then Oper.wp P o A W K Q else K (A.put o.dst undef) W
def Lr (P : Program) (ops : Array Oper) (Q : Exit → Act → World → Prop) (w : World) (J : Bool → World → Prop) (i0 : Nat) (a : Act) (l : List Oper) (L : List It) : Nat → List Oper → Prop
 | _, [] => True
 | k, o :: r => PG P ops Q w J i0 a l L k o ∧ Lr P ops Q w J i0 a l L (k + 1) r
theorem IM {ops : Array Oper} {w : World} {J : Bool → World → Prop} {i0 : Nat} {a : Act} {l : List Oper} {L : List It} (hs : CQ a.tmps.size l = true) (h1 : CE l = true) : ∀ (r : List Oper) (k : Nat), (∀ j o, r[j]? = some o → l[k + j]? = some o) → Lr P ops Q w J i0 a l L k r → F7 P ops Q w J i0 (fun y => Aw 0 l y a) L k r
 | [], _, _, _ => trivial
 | o :: r, k, hl, H => by
  refine ⟨fun y W b hb d hz hd K hK => ?_, IM hs h1 r (k + 1) (fun j o' ho => by have := hl (j + 1) o' (by simpa using ho); rwa [show k + 1 + j = k + (j + 1) by omega]) H.2⟩
  have hk : l[k]? = some o := hl 0 o rfl
  refine H.1 (Aw 0 l y a) y W b (fun j o' d' hj hd' => ?_) (fun d' hd' => C2 l 0 y a d' hd') hb d hz hd K (fun x W' hst hp => ?_)
  · have hlt : d' < a.tmps.size := by
     unfold CQ at hs
     rw [List.all_eq_true] at hs
     have := hs o' (List.mem_of_getElem? hj)
     rw [hd'] at this
     simpa using this
    have := E6 l 0 j y a o' d' h1 hj hd' hlt
    rwa [Nat.zero_add] at this
  · refine hK x _ W' hst hp ?_
    have := Dr l 0 k y a o x h1 hk
    rwa [Nat.zero_add] at this
theorem GS {id : Nat} {a : Act} {w : World} {l : List Oper} (J : Bool → World → Prop) (i0 : Nat) (L : List It) (hi0 : Nat.blt i0 L.length = true) (hJ0 : J false (w.drewN 1)) (hm : P.follows .mixedOrders = true) (hB : MO l.toArray L.length (L.map It.ret) (L.map It.reads) = true) (hO : CE (l.take L.length) = true) (hS : CQ a.tmps.size (l.take L.length) = true) (hmono : AJ 0 L)
 (hop : Lr P l.toArray Q w J i0 a (l.take L.length) L 0 (l.take L.length))
 (hfin : ∀ y lo hi W, DH w J i0 L l.toArray L.length (fun _ => true) y lo hi W → wpList P l.toArray Q (l.drop L.length) (Aw 0 (l.take L.length) y a) W) : (Code.region id l.toArray true).wp P Q a w :=
 Ge J i0 L hi0 hJ0 hm hB hmono (fun F hF => by
  subst hF
  exact ⟨IM hS hO _ 0 (fun j o ho => by rwa [Nat.zero_add]) hop, hfin⟩)
end
theorem DH.v {w : World} {J : Bool → World → Prop} {i0 : Nat} {L : List It} {ops : Array Oper} {n : Nat} {is : Nat → Bool} {y : Nat → Value} {lo hi : Nat → Nat} {W : World} (hM : DH w J i0 L ops n is y lo hi W) (i : Nat) {v : Value} (h1 : i < n) (h2 : is i = true) (h3 : Nz (L.map It.ret) i = true) (hv : Cf L i = vI i v) : y i = v := by
 have e := hM.fact i h1 h2 (Ad i h3)
 rw [hv] at e
 exact e
end Go.Proofs.YtchoopnjckcohaaGreat
namespace Go.Proofs.YtchoopnjckcohaaGreat
open Tryz
open Go.RowKit Go.Maps Go.Shelf
attribute [local go_sem] Oper.semAt_some
def JB (B : Nat) (w : World) : Bool → World → Prop := fun b W => Below (if b then B else w.heap.size) w W
theorem Ln {B : Nat} {w W : World} (d : Below w.heap.size w W) : JB B w false W := d
theorem FO {B : Nat} {w W : World} {b : Bool} (h : B ≤ w.heap.size) (d : JB B w b W) : Below B w W := by
 cases b with
 | false => exact Below.mono (show Below w.heap.size w W from d) h
 | true => exact d
theorem Px {B : Nat} {w W W' : World} {b : Bool} (h : B ≤ w.heap.size) (d : JB B w b W) (d1 : Below W.heap.size W W') : JB B w b W' := by
 cases b with
 | false => exact Below.trans (show Below w.heap.size w W from d) (d1.mono (Below.size d))
 | true => exact Below.trans (show Below B w W from d) (d1.mono (Nat.le_trans h (Below.size d)))
theorem NU {B : Nat} {w W W' : World} {R : Nat → Prop} (h : B ≤ w.heap.size) (d : JB B w false W) (o : Ab W W' R) (hR : ∀ k, R k → B ≤ k) : JB B w true W' :=
 (Below.mono (show Below w.heap.size w W from d) h).trans (o.toBelow (Nat.le_trans h (Below.size d)) hR)
def O8 (B : Nat) (X : List Aa) : Ef := fun x _ _ W => ∃ z5 d5, x = .slice z5 X.length d5 ∧ W.ownsRow B 50 3 (.slice z5 X.length d5) X.length (X.flatMap Ae)
theorem KP {B : Nat} {X : List Aa} : B8 (O8 B X) := fun _ _ _ _ _ _ d ⟨z5, d5, e, h⟩ => ⟨z5, d5, e, A6 h d⟩
theorem MU {B lo hi : Nat} {x : Value} {X Y : List Aa} {z5 : Option Addr} {d5 : Nat} {W : World} (h : X = Y) (e : x = .slice z5 X.length d5) (o : W.ownsRow B 50 3 (.slice z5 X.length d5) X.length (X.flatMap Ae)) : O8 B Y x lo hi W := by
 subst h
 exact ⟨z5, d5, e, o⟩
def KG (B : Nat) : Ef := fun x lo hi W => x = .pointer (some ⟨lo, 0, none⟩) ∧ B ≤ lo ∧ lo < hi ∧ W.heap[lo]? = some (.cells #[.int .i64 0, .int .i64 0, .slice none 0 0, .slice none 0 0, .slice none 0 0] 25 (0, 0))
theorem EA {B : Nat} : B8 (KG B) := fun _ _ _ _ _ hs d ⟨e, l, l2, z⟩ => ⟨e, l, l2, (d.block _ (by omega)).trans z⟩
theorem KN {B lo hi : Nat} {x : Value} {W W' : World} {R : Nat → Prop} (hh : hi ≤ W.heap.size) (h : KG B x lo hi W) (o : Ab W W' R) (hR : ∀ k, R k → k < B) : KG B x lo hi W' :=
 ⟨h.1, h.2.1, h.2.2.1, (o.block lo (by have := h.2.2.1; omega) (fun q => by have := hR _ q; have := h.2.1; omega)).trans h.2.2.2⟩
theorem PD {W0 w1 W : World} {p n : Nat} {v u0 u1 u2 u3 u4 : Value} {xs : List Value} (z : W.heap[p]? = some (.cells #[.int .i64 0, .int .i64 0, .slice none 0 0, .slice none 0 0, .slice none 0 0] 25 (0, 0))) (ow : W.ownsRow W0.heap.size 50 3 v n xs) (dd : Below W0.heap.size w1 W) (d1 : Below W0.heap.size W0 w1) (hp : W0.heap.size ≤ p) :
 ((((((W.setCell ⟨p, 0, none⟩ (u0)).setCell ⟨p, 1, none⟩ (u1)).setCell ⟨p, 2, none⟩ (u2)).setCell ⟨p, 3, none⟩ (u3)).setCell ⟨p, 4, none⟩ (u4))).heap[p]? = some (.cells #[u0, u1, u2, u3, u4] 25 (0, 0)) ∧ ((((((W.setCell ⟨p, 0, none⟩ (u0)).setCell ⟨p, 1, none⟩ (u1)).setCell ⟨p, 2, none⟩ (u2)).setCell ⟨p, 3, none⟩ (u3)).setCell ⟨p, 4, none⟩ (u4))).ownsRow W0.heap.size 50 3 v n xs ∧ W0.heap.size ≤ p ∧ Below W0.heap.size W0 ((((((W.setCell ⟨p, 0, none⟩ (u0)).setCell ⟨p, 1, none⟩ (u1)).setCell ⟨p, 2, none⟩ (u2)).setCell ⟨p, 3, none⟩ (u3)).setCell ⟨p, 4, none⟩ (u4))) := by
 have o := AF W p u0 u1 u2 u3 u4
 exact ⟨AT W p _ _ _ _ _ _ _ _ _ _ 25 z, A9 ow o (fun k hk e => by subst e; exact BO ow z (by decide) hk), hp, (d1.trans dd).trans (o.toBelow (d1.trans dd).size (fun k hk => by rw [hk]; exact hp))⟩
theorem Ku (w : World) (N m n1 n2 n3 l1 l2 l3 : Nat) (n' m' : Int) (a1 a2 a3 b1 b2 b3 : Option Addr) (c1 c2 c3 d1 d2 d3 : Nat) (Sa Fa Sb Fb : List Int) (Ea Eb : List Aa) (en : Hid (Sa.length = n1 ∧ Fa.length = n2 ∧ Ea.length = n3 ∧ Sb.length = l1 ∧ Fb.length = l2 ∧ Eb.length = l3)) (hA : Hid (AP w a1 a2 a3 Sa Fa Ea)) (hB : Hid (AP w b1 b2 b3 Sb Fb Eb)) (zB : b1 = none → d1 = 0) (hN : N ≤ 4096) (hm : m ≤ 128) (h1 : n1 ≤ 2000000) (h2 : n2 ≤ 2000000) (h3 : n3 ≤ 2000000) (h4 : l1 ≤ 2000000) (h5 : l2 ≤ 2000000) (h6 : l3 ≤ 2000000) (hS : Hid (Fc Ea)) (hF : Hid (∀ e ∈ Ea, (0 ≤ e.1 ∧ e.1 < (N : Int)) ∧ (0 ≤ e.2.1 ∧ e.2.1 < (m : Int)) ∧ (0 ≤ e.2.2 ∧ e.2.2 < (N : Int)))) (hG : Hid (∀ x ∈ Fa, ∃ q : Nat, q < N ∧ x = (q : Int))) (zB3 : b3 = none → d3 = 0) (hle : (DK Ea Fa Sb m N).length ≤ 65536) (hsm : (DK Ea Fa Sb m N).length + l3 ≤ 65536) (hSa : Hid (∀ x ∈ Sa, ∃ q : Nat, q < N ∧ x = (q : Int))) (M : Nat) (eM : Hid (n' = (M : Int))) (hM : M ≤ 8192) (hSb : Hid (∀ x ∈ Sb, ∃ q : Nat, q < M ∧ x = (q : Int))) (hFb : Hid (∀ x ∈ Fb, ∃ q : Nat, q < M ∧ x = (q : Int))) (emA : Hid (FZ Sa Fa = false)) (emB : Hid (FZ Sb Fb = false)) :
 Calls prog 32 #[.agg #[.int .i64 (N : Int), .int .i64 (m : Int), .slice a1 n1 c1, .slice a2 n2 c2, .slice a3 n3 c3], .agg #[.int .i64 n', .int .i64 m', .slice b1 l1 d1, .slice b2 l2 d2, .slice b3 l3 d3]] w fun e w' => ∃ z5 d5, e = .returned (.tuple #[.agg #[.int .i64 n', .int .i64 (m : Int), .slice a1 n1 c1, .slice b2 l2 d2, .slice z5 (DK Ea Fa Sb m N ++ Eb).length d5], .int .i64 0]) ∧ Hid (w'.ownsRow w.heap.size 50 3 (.slice z5 (DK Ea Fa Sb m N ++ Eb).length d5) (DK Ea Fa Sb m N ++ Eb).length ((DK Ea Fa Sb m N ++ Eb).flatMap Ae) ∧ Below w.heap.size w w') := by
 obtain ⟨W0, hW0⟩ : ∃ W0, ((w.alloc (.cells #[.int .i64 (N : Int), .int .i64 (m : Int), .slice a1 n1 c1, .slice a2 n2 c2, .slice a3 n3 c3] 25)).alloc (.cells #[.int .i64 n', .int .i64 m', .slice b1 l1 d1, .slice b2 l2 d2, .slice b3 l3 d3] 25)).alloc (.cells #[.int .i64 0, .int .i64 0, .slice none 0 0, .slice none 0 0, .slice none 0 0] 25) = W0 := ⟨_, rfl⟩
 have HD := A0 (BH w #[.int .i64 (N : Int), .int .i64 (m : Int), .slice a1 n1 c1, .slice a2 n2 c2, .slice a3 n3 c3] #[.int .i64 n', .int .i64 m', .slice b1 l1 d1, .slice b2 l2 d2, .slice b3 l3 d3] #[.int .i64 0, .int .i64 0, .slice none 0 0, .slice none 0 0, .slice none 0 0] 25)
 rw [hW0] at HD
 have TB := IL W0 N m n1 n2 n3 a1 a2 a3 b1 c1 c2 c3 l1 d1 Ea Fa Sb en.out.2.1 en.out.2.2.1 en.out.2.2.2.1 zB hN hm (A0 (hA.out.e.on HD.out.1)) (A0 (hA.out.f.on HD.out.1)) (A0 (hB.out.s.on HD.out.1)) h2 h3 h4 hS hF hG
 obtain ⟨y0, y1, y2, y3, y4⟩ := An HD.out.2.1 rfl rfl rfl rfl rfl
 obtain ⟨x0, x1, x2, x3, x4⟩ := An HD.out.2.2.1 rfl rfl rfl rfl rfl
 unfold OV at TB
 simp only [if_neg (show ¬ 65536 < (DK Ea Fa Sb m N).length by omega)] at TB
 obtain ⟨E, hE⟩ : ∃ E, DK Ea Fa Sb m N = E := ⟨_, rfl⟩
 rw [hE] at TB hle hsm ⊢
 clear hE
 have jb : ¬ (65536 : Int) < (E.length : Int) + (l3 : Int) := by omega
 have jw : IntKind.i64.wrap ((E.length : Int) + (l3 : Int)) = (E.length : Int) + (l3 : Int) := by rw [IntKind.wrap_i64]; omega
 go_enter func32, ntmps32
 go_upto_region 4 with (go_at_call 54; refine TB.mono ?_; rintro e w1 ⟨v1, rfl, O1, D1⟩; obtain ⟨ae, cf, rfl⟩ := A8 O1; have HF1 := A0 (And.intro O1 D1); have x4 : w1.cell? ⟨w.heap.size + 1, 4, none⟩ = some (.slice b3 l3 d3) := A1 (A3 HD.out.2.2.1 D1) rfl; clear D1 O1)
 clear TB y0 y1 y2 y3 y4 x0 x1 x2 x3 x4
 have HA1 := A0 (A3 HD.out.2.1 HF1.out.2)
 have HB1 := A0 (A3 HD.out.2.2.1 HF1.out.2)
 have OW : Hid (∀ W, Below w1.heap.size w1 W → W.ownsRow W0.heap.size 50 3 (.slice ae E.length cf) E.length (E.flatMap Ae)) := A0 (fun W d => A6 HF1.out.1 d)
 have RX : Hid (∀ W, Below w1.heap.size w1 W → Cl W b3 Eb) := A0 (fun W d => (hB.out.e.on (HD.out.1.trans (HF1.out.2.mono HD.out.1.size))).on d)
 have hs0 : W0.heap.size ≤ w1.heap.size := HF1.out.2.size
 have hbk : Hid (∀ k, (Value.slice ae E.length cf).ownBlock = some k → W0.heap.size ≤ k) := A0 (fun k hk => (HF1.out.1.lt k hk).1)
 have hbl : Hid (∀ k, (Value.slice ae E.length cf).ownBlock = some k → k < w1.heap.size) := A0 (fun k hk => (HF1.out.1.lt k hk).2)
 have hkA : w.heap.size < W0.heap.size := by have := HD.out.2.2.2.2; omega
 have hkB : w.heap.size + 1 < W0.heap.size := by have := HD.out.2.2.2.2; omega
 have hlen : E.length + Eb.length ≤ 4194304 := by have := en.out.2.2.2.2.2; omega
 obtain ⟨EE, hEE⟩ : ∃ EE, E ++ Eb = EE := ⟨_, rfl⟩
 have HE := A0 hEE
 have HP0 := A0 hEE
 clear hEE
 go_cut [8] from 8 to 40 (fun v8 W => ∃ p8 z5 d5, v8 = .pointer (some ⟨p8, 0, none⟩) ∧ Hid (W.heap[p8]? = some (.cells #[.int .i64 n', .int .i64 (m : Int), .slice a1 n1 c1, .slice b2 l2 d2, .slice z5 EE.length d5] 25 (0, 0)) ∧ W.ownsRow W0.heap.size 50 3 (.slice z5 EE.length d5) EE.length (EE.flatMap Ae) ∧ W0.heap.size ≤ p8 ∧ Below W0.heap.size W0 W))
 case first =>
  have hmo : AJ 0 [vI 0 (.pointer (some ⟨w.heap.size + 1, 0, none⟩)), vI 1 (.int .i64 n'), vI 2 (.pointer (some ⟨w.heap.size, 1, none⟩)), vI 3 (.int .i64 (m : Int)), vI 4 (.pointer (some ⟨w.heap.size, 2, none⟩)), vI 5 (.slice a1 n1 c1), vI 6 (.pointer (some ⟨w.heap.size + 1, 3, none⟩)), vI 7 (.slice b2 l2 d2), vI 8 (.slice ae E.length cf), vI 9 (.pointer (some ⟨w.heap.size + 1, 4, none⟩)), vI 10 (.slice b3 l3 d3), pI 11 (O8 W0.heap.size EE), ⟨[11], [], fun y _ _ _ => y 12 = .agg #[.int .i64 n', .int .i64 (m : Int), .slice a1 n1 c1, .slice b2 l2 d2, y 11]⟩, pI 13 (KG w1.heap.size)] := ⟨A2 _ _, A2 _ _, A2 _ _, A2 _ _, A2 _ _, A2 _ _, A2 _ _, A2 _ _, A2 _ _, A2 _ _, A2 _ _, Am KP, (fun _ _ _ _ _ _ _ _ hy h => by dsimp only at hy h ⊢; rw [hy 12 (Or.inl rfl), hy 11 (Or.inr (by simp))]; exact h), Am EA, trivial⟩
  refine GS (JB W0.heap.size w1) 11 _ (by kernel_rfl) (Ln ⟨rfl, rfl, rfl, Nat.le_refl _, fun _ _ => rfl⟩) (by kernel_rfl) (by kernel_rfl) (by kernel_rfl) (by kernel_rfl) hmo ⟨?o0, ?o1, ?o2, ?o3, ?o4, ?o5, ?o6, ?o7, ?o8, ?o9, ?o10, ?o11, ?o12, ?o13, trivial⟩ ?fin
  case o0 =>
   intro At yy W bb hy hb hbb d hz hd K hK
   obtain ⟨s3, s3'⟩ := AG (hb 3 rfl : _ = .pointer (some ⟨w.heap.size + 1, 0, none⟩))
   clear hd hy hb
   go_simp
   exact hK.out _ W (AB hmo d (Below.refl _ _)) (if_pos rfl)
  case o1 =>
   intro At yy W bb hy hb hbb d hz hd K hK
   obtain ⟨s28, s28'⟩ := Ao 0 28 .data hy hd rfl
   clear hd hy hb
   have dl := FO hs0 d
   have bxA := (dl.block _ hkA).trans HA1.out
   have bxB := (dl.block _ hkB).trans HB1.out
   have y1 : W.cell? ⟨w.heap.size, 1, none⟩ = some (.int .i64 (m : Int)) := A1 bxA rfl
   have y2 : W.cell? ⟨w.heap.size, 2, none⟩ = some (.slice a1 n1 c1) := A1 bxA rfl
   have x0 : W.cell? ⟨w.heap.size + 1, 0, none⟩ = some (.int .i64 n') := A1 bxB rfl
   have x3 : W.cell? ⟨w.heap.size + 1, 3, none⟩ = some (.slice b2 l2 d2) := A1 bxB rfl
   have x4 : W.cell? ⟨w.heap.size + 1, 4, none⟩ = some (.slice b3 l3 d3) := A1 bxB rfl
   clear dl bxA bxB
   go_simp
   exact hK.out _ W (AB hmo d (Below.refl _ _)) (if_pos rfl)
  case o2 =>
   intro At yy W bb hy hb hbb d hz hd K hK
   obtain ⟨s2, s2'⟩ := AG (hb 2 rfl : _ = .pointer (some ⟨w.heap.size, 0, none⟩))
   clear hd hy hb
   go_simp
   exact hK.out _ W (AB hmo d (Below.refl _ _)) (if_pos rfl)
  case o3 =>
   intro At yy W bb hy hb hbb d hz hd K hK
   obtain ⟨s30, s30'⟩ := Ao 2 30 .data hy hd rfl
   clear hd hy hb
   have dl := FO hs0 d
   have bxA := (dl.block _ hkA).trans HA1.out
   have bxB := (dl.block _ hkB).trans HB1.out
   have y1 : W.cell? ⟨w.heap.size, 1, none⟩ = some (.int .i64 (m : Int)) := A1 bxA rfl
   have y2 : W.cell? ⟨w.heap.size, 2, none⟩ = some (.slice a1 n1 c1) := A1 bxA rfl
   have x0 : W.cell? ⟨w.heap.size + 1, 0, none⟩ = some (.int .i64 n') := A1 bxB rfl
   have x3 : W.cell? ⟨w.heap.size + 1, 3, none⟩ = some (.slice b2 l2 d2) := A1 bxB rfl
   have x4 : W.cell? ⟨w.heap.size + 1, 4, none⟩ = some (.slice b3 l3 d3) := A1 bxB rfl
   clear dl bxA bxB
   go_simp
   exact hK.out _ W (AB hmo d (Below.refl _ _)) (if_pos rfl)
  case o4 =>
   intro At yy W bb hy hb hbb d hz hd K hK
   obtain ⟨s2, s2'⟩ := AG (hb 2 rfl : _ = .pointer (some ⟨w.heap.size, 0, none⟩))
   clear hd hy hb
   go_simp
   exact hK.out _ W (AB hmo d (Below.refl _ _)) (if_pos rfl)
  case o5 =>
   intro At yy W bb hy hb hbb d hz hd K hK
   obtain ⟨s32, s32'⟩ := Ao 4 32 .data hy hd rfl
   clear hd hy hb
   have dl := FO hs0 d
   have bxA := (dl.block _ hkA).trans HA1.out
   have bxB := (dl.block _ hkB).trans HB1.out
   have y1 : W.cell? ⟨w.heap.size, 1, none⟩ = some (.int .i64 (m : Int)) := A1 bxA rfl
   have y2 : W.cell? ⟨w.heap.size, 2, none⟩ = some (.slice a1 n1 c1) := A1 bxA rfl
   have x0 : W.cell? ⟨w.heap.size + 1, 0, none⟩ = some (.int .i64 n') := A1 bxB rfl
   have x3 : W.cell? ⟨w.heap.size + 1, 3, none⟩ = some (.slice b2 l2 d2) := A1 bxB rfl
   have x4 : W.cell? ⟨w.heap.size + 1, 4, none⟩ = some (.slice b3 l3 d3) := A1 bxB rfl
   clear dl bxA bxB
   go_simp
   exact hK.out _ W (AB hmo d (Below.refl _ _)) (if_pos rfl)
  case o6 =>
   intro At yy W bb hy hb hbb d hz hd K hK
   obtain ⟨s3, s3'⟩ := AG (hb 3 rfl : _ = .pointer (some ⟨w.heap.size + 1, 0, none⟩))
   clear hd hy hb
   go_simp
   exact hK.out _ W (AB hmo d (Below.refl _ _)) (if_pos rfl)
  case o7 =>
   intro At yy W bb hy hb hbb d hz hd K hK
   obtain ⟨s34, s34'⟩ := Ao 6 34 .data hy hd rfl
   clear hd hy hb
   have dl := FO hs0 d
   have bxA := (dl.block _ hkA).trans HA1.out
   have bxB := (dl.block _ hkB).trans HB1.out
   have y1 : W.cell? ⟨w.heap.size, 1, none⟩ = some (.int .i64 (m : Int)) := A1 bxA rfl
   have y2 : W.cell? ⟨w.heap.size, 2, none⟩ = some (.slice a1 n1 c1) := A1 bxA rfl
   have x0 : W.cell? ⟨w.heap.size + 1, 0, none⟩ = some (.int .i64 n') := A1 bxB rfl
   have x3 : W.cell? ⟨w.heap.size + 1, 3, none⟩ = some (.slice b2 l2 d2) := A1 bxB rfl
   have x4 : W.cell? ⟨w.heap.size + 1, 4, none⟩ = some (.slice b3 l3 d3) := A1 bxB rfl
   clear dl bxA bxB
   go_simp
   exact hK.out _ W (AB hmo d (Below.refl _ _)) (if_pos rfl)
  case o8 =>
   intro At yy W bb hy hb hbb d hz hd K hK
   obtain ⟨s6, s6'⟩ := AG (hb 6 rfl : _ = .slice ae E.length cf)
   clear hd hy hb
   go_simp
   exact hK.out _ W (AB hmo d (Below.refl _ _)) (if_pos rfl)
  case o9 =>
   intro At yy W bb hy hb hbb d hz hd K hK
   obtain ⟨s3, s3'⟩ := AG (hb 3 rfl : _ = .pointer (some ⟨w.heap.size + 1, 0, none⟩))
   clear hd hy hb
   go_simp
   exact hK.out _ W (AB hmo d (Below.refl _ _)) (if_pos rfl)
  case o10 =>
   intro At yy W bb hy hb hbb d hz hd K hK
   obtain ⟨s37, s37'⟩ := Ao 9 37 .data hy hd rfl
   clear hd hy hb
   have dl := FO hs0 d
   have bxA := (dl.block _ hkA).trans HA1.out
   have bxB := (dl.block _ hkB).trans HB1.out
   have y1 : W.cell? ⟨w.heap.size, 1, none⟩ = some (.int .i64 (m : Int)) := A1 bxA rfl
   have y2 : W.cell? ⟨w.heap.size, 2, none⟩ = some (.slice a1 n1 c1) := A1 bxA rfl
   have x0 : W.cell? ⟨w.heap.size + 1, 0, none⟩ = some (.int .i64 n') := A1 bxB rfl
   have x3 : W.cell? ⟨w.heap.size + 1, 3, none⟩ = some (.slice b2 l2 d2) := A1 bxB rfl
   have x4 : W.cell? ⟨w.heap.size + 1, 4, none⟩ = some (.slice b3 l3 d3) := A1 bxB rfl
   clear dl bxA bxB
   go_simp
   exact hK.out _ W (AB hmo d (Below.refl _ _)) (if_pos rfl)
  case o11 =>
   intro At yy W bb hy hb hbb d hz hd K hK
   obtain ⟨s36, s36'⟩ := Ao 8 36 .data hy hd rfl
   obtain ⟨s38, s38'⟩ := Ao 10 38 .data hy hd rfl
   clear hd hb
   have hb0 := hbb rfl
   subst hb0
   refine EL rfl _ _ rfl W0.heap.size (.slice ae E.length cf) E s36 (OW.out _ d) b3 l3 d3 Eb en.out.2.2.2.2.2 zB3 s38 (RX.out _ d) hlen (Nat.le_trans hs0 hz) ?_
   intro z5 d5 w4 HO4 HG4
   exact hK.out _ w4 (G1 [] rfl (NU hs0 d HG4.out hbk.out) HG4.out.size ⟨.inr (fun _ _ _ h => h), .inr (fun _ _ _ h => h), .inr (fun _ _ _ h => h), .inr (fun _ _ _ h => h), .inr (fun _ _ _ h => h), .inr (fun _ _ _ h => h), .inr (fun _ _ _ h => h), .inr (fun _ _ _ h => h), .inr (fun _ _ _ h => h), .inr (fun _ _ _ h => h), .inr (fun _ _ _ h => h), .inl (by simp), .inr (fun _ _ _ h => h), .inr (fun _ _ hh h => KN hh h HG4.out hbl.out), trivial⟩) (MU (lo := 0) (hi := 0) HE.out (if_pos rfl) HO4.out)
  case o12 =>
   intro At yy W bb hy hb hbb d hz hd K hK
   have f11 := hd ⟨11, .data⟩ (by simp) rfl rfl
   obtain ⟨_, _, _, _, z5, d5, e11, _⟩ := f11
   obtain ⟨s29, s29'⟩ := Ao 1 29 .data hy hd rfl
   obtain ⟨s31, s31'⟩ := Ao 3 31 .data hy hd rfl
   obtain ⟨s33, s33'⟩ := Ao 5 33 .data hy hd rfl
   obtain ⟨s35, s35'⟩ := Ao 7 35 .data hy hd rfl
   obtain ⟨s39, s39'⟩ := AG ((hy 11 _ 39 rfl rfl).trans e11)
   clear hd hy hb
   go_simp
   exact hK.out _ W (AB hmo d (Below.refl _ _)) (by show AK yy 12 _ 12 = .agg #[_, _, _, _, AK yy 12 _ 11]; rw [show ∀ x, AK yy 12 x 12 = x from fun x => if_pos rfl, show ∀ x, AK yy 12 x 11 = yy 11 from fun x => if_neg (by decide), e11])
  case o13 =>
   intro At yy W bb hy hb hbb d hz hd K hK
   clear hd hy hb
   go_simp
   exact hK.out _ _ (AB hmo (Px hs0 d ((Below.refl _ _).alloc (Nat.le_refl _) _)) ((Below.refl _ _).alloc (Nat.le_refl _) _)) ⟨if_pos rfl, hz, by simp, World.alloc_heap_new _ _⟩
  case fin =>
   intro yy lo hi W hM
   show wpList _ _ _ [_] _ _
   have e0 := hM.v 0 (by simp) rfl rfl rfl
   have e1 := hM.v 1 (by simp) rfl rfl rfl
   have e2 := hM.v 2 (by simp) rfl rfl rfl
   have e3 := hM.v 3 (by simp) rfl rfl rfl
   have e4 := hM.v 4 (by simp) rfl rfl rfl
   have e5 := hM.v 5 (by simp) rfl rfl rfl
   have e6 := hM.v 6 (by simp) rfl rfl rfl
   have e7 := hM.v 7 (by simp) rfl rfl rfl
   have e8 := hM.v 8 (by simp) rfl rfl rfl
   have e9 := hM.v 9 (by simp) rfl rfl rfl
   have e10 := hM.v 10 (by simp) rfl rfl rfl
   obtain ⟨z5, d5, e11, O11⟩ := hM.fact 11 (by simp) rfl (Ad 11 rfl)
   have e12 := hM.fact 12 (by simp) rfl (Ad 12 rfl)
   replace e12 : yy 12 = .agg #[.int .i64 n', .int .i64 (m : Int), .slice a1 n1 c1, .slice b2 l2 d2, yy 11] := e12
   rw [e11] at e12
   obtain ⟨e13, l13, _, z13⟩ := hM.fact 13 (by simp) rfl (Ad 13 rfl)
   have dd : Below W0.heap.size w1 W := hM.d
   simp only [Aw, Act.put, List.take, List.length, List.setIfInBounds_toArray, List.set_cons_zero, List.set_cons_succ, e0, e1, e2, e3, e4, e5, e6, e7, e8, e9, e10, e11, e12, e13]
   generalize lo 13 = p8 at z13 l13 ⊢
   clear hM hmo e0 e1 e2 e3 e4 e5 e6 e7 e8 e9 e10 e11 e12 e13
   have HF := A0 (PD (u0 := .int .i64 n') (u1 := .int .i64 (m : Int)) (u2 := .slice a1 n1 c1) (u3 := .slice b2 l2 d2) (u4 := .slice z5 EE.length d5) z13 O11 dd HF1.out.2 (Nat.le_trans hs0 l13))
   obtain ⟨o0, o1, o2, o3, o4⟩ := An z13 rfl rfl rfl rfl rfl
   have g0 : W.frozen? ⟨p8, 0, none⟩ = false := A4 z13
   have g1 : W.frozen? ⟨p8, 1, none⟩ = false := A4 z13
   have g2 : W.frozen? ⟨p8, 2, none⟩ = false := A4 z13
   have g3 : W.frozen? ⟨p8, 3, none⟩ = false := A4 z13
   have g4 : W.frozen? ⟨p8, 4, none⟩ = false := A4 z13
   clear z13 O11 dd
   go_wp2_with fail
   go_meet
   exact ⟨p8, z5, d5, rfl, HF⟩
 case rest =>
  obtain ⟨p8, z5, d5, rfl, HC⟩ := hcut
  rename World => wz
  clear OW RX hbk hbl HA1 HB1 hlen
  have DZ : Hid (Below w.heap.size w wz) := A0 (HD.out.1.trans (HC.out.2.2.2.mono HD.out.1.size))
  have HA2 := A0 (A3 HD.out.2.1 HC.out.2.2.2)
  have HB2 := A0 (A3 HD.out.2.2.1 HC.out.2.2.2)
  have TA := Di wz N (m : Int) a1 a2 a3 c1 c2 c3 n3 Sa Fa (A0 (hA.out.s.on DZ.out)) (A0 (hA.out.f.on DZ.out)) hSa hG (by have := en.out.1; omega) (by have := en.out.2.1; omega) (by omega)
  rw [emA.out, en.out.1, en.out.2.1] at TA
  obtain ⟨y0, y1, y2, y3, y4⟩ := An HA2.out rfl rfl rfl rfl rfl
  go_upto_region 7 with (go_at_call 55; refine TA.mono ?_; rintro e w5 ⟨rfl, D5⟩; have H5 := A0 D5; clear D5)
  clear TA y0 y1 y2 y3 y4
  have DZ5 : Hid (Below w.heap.size w w5) := A0 (DZ.out.trans (H5.out.mono DZ.out.size))
  have TB := Di w5 M m' b1 b2 b3 d1 d2 d3 l3 Sb Fb (A0 (hB.out.s.on DZ5.out)) (A0 (hB.out.f.on DZ5.out)) hSb hFb (by have := en.out.2.2.2.1; omega) (by have := en.out.2.2.2.2.1; omega) (by omega)
  rw [emB.out, en.out.2.2.2.1, en.out.2.2.2.2.1, ← eM.out] at TB
  have HB5 := A0 (A3 HB2.out H5.out)
  obtain ⟨x0, x1, x2, x3, x4⟩ := An HB5.out rfl rfl rfl rfl rfl
  go_upto_region 9 with (go_at_call 55; refine TB.mono ?_; rintro e w6 ⟨rfl, D6⟩; have H6 := A0 D6; clear D6)
  clear TB x0 x1 x2 x3 x4
  have F8 := A3 (A3 HC.out.1 H5.out) H6.out
  have F4 := A3 (A3 (A3 HD.out.2.2.2.1 HC.out.2.2.2) H5.out) H6.out
  obtain ⟨o0, o1, o2, o3, o4⟩ := An F8 rfl rfl rfl rfl rfl
  obtain ⟨q0, q1, q2, q3, q4⟩ := An F4 rfl rfl rfl rfl rfl
  have g0 : w6.frozen? ⟨w.heap.size + 1 + 1, 0, none⟩ = false := A4 F4
  have g1 : w6.frozen? ⟨w.heap.size + 1 + 1, 1, none⟩ = false := A4 F4
  have g2 : w6.frozen? ⟨w.heap.size + 1 + 1, 2, none⟩ = false := A4 F4
  have g3 : w6.frozen? ⟨w.heap.size + 1 + 1, 3, none⟩ = false := A4 F4
  have g4 : w6.frozen? ⟨w.heap.size + 1 + 1, 4, none⟩ = false := A4 F4
  have O6 := A0 (And.intro (AT w6 (w.heap.size + 1 + 1) _ _ _ _ _ (.int .i64 n') (.int .i64 (m : Int)) (.slice a1 n1 c1) (.slice b2 l2 d2) (.slice z5 EE.length d5) 25 F4) (AF w6 (w.heap.size + 1 + 1) (.int .i64 n') (.int .i64 (m : Int)) (.slice a1 n1 c1) (.slice b2 l2 d2) (.slice z5 EE.length d5)))
  have HO := A0 (A9 (A6 (A6 HC.out.2.1 H5.out) H6.out) O6.out.2 (fun k hk e => by subst e; exact BO (A6 (A6 HC.out.2.1 H5.out) H6.out) F4 (by decide) hk))
  clear F8 F4
  go_wp2_with fail
  refine bodyPost_ret (B6 (p := 4) (q := 5) (ty := 25) rfl _ _ (w.heap.size + 1 + 1) 25 _ (0, 0) _ _ rfl rfl O6.out.1 underlying25 rfl (by kernel_rfl)) rfl ?_
  have s1 := HD.out.2.2.2.2
  have s2 := DZ5.out.size
  have s3 := H6.out.size
  have d6 := DZ5.out.trans (H6.out.mono DZ5.out.size)
  exact ⟨z5, d5, by rw [HP0.out]; rfl, A0 (by rw [HP0.out]; exact ⟨Ac HO.out (by omega), d6.trans (O6.out.2.toBelow (by omega) (fun k hk => by omega))⟩)⟩
theorem GE {w : World} {B n k sz : Nat} {e : TypeId} {b : Option Addr} {xs : List Value} (h : w.ownsRow B e sz (.slice b n k) n xs) (hb : b = none) : k = 0 := by
 rcases h.2 with ⟨hv, _⟩ | ⟨g, cap, cur, hv, _⟩
 · cases hv; rfl
 · cases hv; cases hb
theorem Of {W : World} {B u : Nat} {b : Int} {t : Option Addr} {F : List Int} (h : W.ownsRow B 3 1 (.slice t F.length u) F.length ((AS F b).map (Value.int .i64))) : BB W t (AS F b) := by
 rw [← Bs F b] at h
 exact AM h
def PX (N M m : Nat) (S F : List Int) (E : List Aa) : Ef := fun x _ _ W => ∃ t1 u1 t2 u2 t3 u3, x = .agg #[.int .i64 ((M : Int) + (N : Int)), .int .i64 (m : Int), .slice t1 S.length u1, .slice t2 F.length u2, .slice t3 E.length u3] ∧ AE 0 W (.slice t1 S.length u1) (.slice t2 F.length u2) (.slice t3 E.length u3) (AS S N) (AS F N) (CC E N)
theorem Ma {N M m : Nat} {S F : List Int} {E : List Aa} : B8 (PX N M m S F E) := fun _ _ _ _ _ _ d ⟨t1, u1, t2, u2, t3, u3, e, h⟩ => ⟨t1, u1, t2, u2, t3, u3, e, h.on d⟩
def Q1 (N M m g1 k1 n1 : Nat) (F : List Int) (EE : List Aa) : Ef := fun x _ _ W => ∃ t2 u2 z5 d5, x = .tuple #[.agg #[.int .i64 ((M : Int) + (N : Int)), .int .i64 (m : Int), .slice (some ⟨g1, 0, none⟩) n1 k1, .slice t2 F.length u2, .slice z5 EE.length d5], .int .i64 0] ∧ W.ownsRow 0 3 1 (.slice t2 F.length u2) F.length ((AS F N).map (Value.int .i64)) ∧ W.ownsRow 0 50 3 (.slice z5 EE.length d5) EE.length (EE.flatMap Ae)
theorem Lw {N M m g1 k1 n1 : Nat} {F : List Int} {EE : List Aa} : B8 (Q1 N M m g1 k1 n1 F EE) := fun _ _ _ _ _ _ d ⟨t2, u2, z5, d5, e, h, h'⟩ => ⟨t2, u2, z5, d5, e, A6 h d, A6 h' d⟩
def Q4 (N M m g1 k1 n1 : Nat) (F : List Int) (EE : List Aa) : Ef := fun x _ _ W => ∃ t2 u2 z5 d5, x = .agg #[.int .i64 ((M : Int) + (N : Int)), .int .i64 (m : Int), .slice (some ⟨g1, 0, none⟩) n1 k1, .slice t2 F.length u2, .slice z5 EE.length d5] ∧ W.ownsRow 0 3 1 (.slice t2 F.length u2) F.length ((AS F N).map (Value.int .i64)) ∧ W.ownsRow 0 50 3 (.slice z5 EE.length d5) EE.length (EE.flatMap Ae)
theorem M0 {N M m g1 k1 n1 : Nat} {F : List Int} {EE : List Aa} : B8 (Q4 N M m g1 k1 n1 F EE) := fun _ _ _ _ _ _ d ⟨t2, u2, z5, d5, e, h, h'⟩ => ⟨t2, u2, z5, d5, e, A6 h d, A6 h' d⟩
theorem K8 (w : World) (N M m : Nat) (a1 a2 a3 b1 b2 b3 : Option Addr) (c1 c2 c3 d1 d2 d3 : Nat) (Sa Fa Sb Fb : List Int) (Ea Eb : List Aa) (hA : Hid (AP w a1 a2 a3 Sa Fa Ea)) (hB : Hid (AP w b1 b2 b3 Sb Fb Eb)) (h1 : Sa.length ≤ 2000000) (h2 : Fa.length ≤ 2000000) (h3 : Ea.length ≤ 2000000) (h4 : Sb.length ≤ 2000000) (h5 : Fb.length ≤ 2000000) (h6 : Eb.length ≤ 2000000) (em : AC (N : Int) (m : Int) Sa Fa Ea = true) (em' : AC (M : Int) (m : Int) Sb Fb Eb = true) (hNM : N + M ≤ 4096) (hm : m ≤ 128)
 (hl : Hid ((A5 Sa).length ≤ 2000000 ∧ (A5 Fa).length ≤ 2000000 ∧ (A7 Ea).length ≤ 2000000 ∧ (A5 Sb).length ≤ 2000000 ∧ (A5 Fb).length ≤ 2000000 ∧ (A7 Eb).length ≤ 2000000))
 (hS : Hid (Fc (A7 Ea))) (hF : Hid (∀ e ∈ A7 Ea, (0 ≤ e.1 ∧ e.1 < (N : Int)) ∧ (0 ≤ e.2.1 ∧ e.2.1 < (m : Int)) ∧ (0 ≤ e.2.2 ∧ e.2.2 < (N : Int)))) (hSa : Hid (∀ x ∈ A5 Sa, ∃ q : Nat, q < N ∧ x = (q : Int))) (hFa : Hid (∀ x ∈ A5 Fa, ∃ q : Nat, q < N ∧ x = (q : Int))) (hSb : Hid (∀ x ∈ A5 Sb, ∃ q : Nat, q < M ∧ x = (q : Int))) (hFb : Hid (∀ x ∈ A5 Fb, ∃ q : Nat, q < M ∧ x = (q : Int))) (hEb : Hid (∀ e ∈ A7 Eb, (0 ≤ e.1 ∧ e.1 ≤ 4096) ∧ 0 ≤ e.2.2 ∧ e.2.2 ≤ 4096))
 (hle : (DK (A7 Ea) (A5 Fa) (AS (A5 Sb) N) m N).length + (A7 Eb).length ≤ 65536) (emA : Hid (FZ (A5 Sa) (A5 Fa) = false)) (emB : Hid (FZ (AS (A5 Sb) N) (AS (A5 Fb) N) = false)) :
 Calls prog 20 #[.agg #[.int .i64 (N : Int), .int .i64 (m : Int), .slice a1 Sa.length c1, .slice a2 Fa.length c2, .slice a3 Ea.length c3], .agg #[.int .i64 (M : Int), .int .i64 (m : Int), .slice b1 Sb.length d1, .slice b2 Fb.length d2, .slice b3 Eb.length d3]] w fun e w' => ∃ g1 k1 t2 u2 z5 d5, e = .returned (.tuple #[.agg #[.int .i64 ((M : Int) + (N : Int)), .int .i64 (m : Int), .slice (some ⟨g1, 0, none⟩) (A5 Sa).length k1, .slice t2 (A5 Fb).length u2, .slice z5 (DK (A7 Ea) (A5 Fa) (AS (A5 Sb) N) m N ++ CC (A7 Eb) N).length d5], .int .i64 0]) ∧ Hid (AP w' (some ⟨g1, 0, none⟩) t2 z5 (A5 Sa) (AS (A5 Fb) N) (DK (A7 Ea) (A5 Fa) (AS (A5 Sb) N) m N ++ CC (A7 Eb) N) ∧ Below w.heap.size w w') := by
 obtain ⟨W0, hW0⟩ : ∃ W0, ((w.alloc (.cells #[.int .i64 (N : Int), .int .i64 (m : Int), .slice a1 Sa.length c1, .slice a2 Fa.length c2, .slice a3 Ea.length c3] 25)).alloc (.cells #[.int .i64 (M : Int), .int .i64 (m : Int), .slice b1 Sb.length d1, .slice b2 Fb.length d2, .slice b3 Eb.length d3] 25)).alloc (.cells #[.int .i64 0, .int .i64 0, .slice none 0 0, .slice none 0 0, .slice none 0 0] 25) = W0 := ⟨_, rfl⟩
 have HD := A0 (BH w #[.int .i64 (N : Int), .int .i64 (m : Int), .slice a1 Sa.length c1, .slice a2 Fa.length c2, .slice a3 Ea.length c3] #[.int .i64 (M : Int), .int .i64 (m : Int), .slice b1 Sb.length d1, .slice b2 Fb.length d2, .slice b3 Eb.length d3] #[.int .i64 0, .int .i64 0, .slice none 0 0, .slice none 0 0, .slice none 0 0] 25)
 rw [hW0] at HD
 have TB := Hp W0 (N : Int) (m : Int) (M : Int) a1 a2 a3 b1 b2 b3 c1 c2 c3 d1 d2 d3 Sa Fa Sb Fb Ea Eb (A0 (hA.out.on HD.out.1)) (A0 (hB.out.on HD.out.1)) (by omega) (by omega) (by omega) (by omega) (by omega) (by omega) em em'
 clear em em'
 generalize A5 Sa = S1 at *
 generalize A5 Fa = F1 at *
 generalize A7 Ea = E1 at *
 generalize A5 Sb = S2 at *
 generalize A5 Fb = F2 at *
 generalize A7 Eb = E2 at *
 obtain ⟨EE, hEE⟩ : ∃ EE, DK E1 F1 (AS S2 N) m N ++ CC E2 N = EE := ⟨_, rfl⟩
 rw [hEE]
 have HE := A0 hEE
 clear hEE
 have jn : ¬ (4096 : Int) < (N : Int) + (M : Int) := by omega
 have ew : IntKind.i64.wrap ((N : Int) + (M : Int)) = (N : Int) + (M : Int) := by rw [IntKind.wrap_i64]; omega
 obtain ⟨y0, y1, y2, y3, y4⟩ := An HD.out.2.1 rfl rfl rfl rfl rfl
 obtain ⟨x0, x1, x2, x3, x4⟩ := An HD.out.2.2.1 rfl rfl rfl rfl rfl
 go_enter func20, ntmps20
 go_upto_region 4 with (go_at_call 31; refine TB.mono ?_; rintro e w1 ⟨g1, k1, g2, k2, g3, k3, r1, q1, r2, q2, r3, q3, rfl, H1⟩)
 clear TB y0 x0 y1 x1 y2 x2 y3 x3 y4 x4
 obtain ⟨W1, hW1⟩ : ∃ W1, (w1.alloc (.cells #[.int .i64 (N : Int), .int .i64 (m : Int), .slice (some ⟨g1, 0, none⟩) S1.length k1, .slice (some ⟨g2, 0, none⟩) F1.length k2, .slice (some ⟨g3, 0, none⟩) E1.length k3] 25)).alloc (.cells #[.int .i64 (M : Int), .int .i64 (m : Int), .slice (some ⟨r1, 0, none⟩) S2.length q1, .slice (some ⟨r2, 0, none⟩) F2.length q2, .slice (some ⟨r3, 0, none⟩) E2.length q3] 25) = W1 := ⟨_, rfl⟩
 have HW : Hid (W1.heap[w1.heap.size]? = some (.cells #[.int .i64 (N : Int), .int .i64 (m : Int), .slice (some ⟨g1, 0, none⟩) S1.length k1, .slice (some ⟨g2, 0, none⟩) F1.length k2, .slice (some ⟨g3, 0, none⟩) E1.length k3] 25 (0, 0)) ∧ W1.heap[w1.heap.size + 1]? = some (.cells #[.int .i64 (M : Int), .int .i64 (m : Int), .slice (some ⟨r1, 0, none⟩) S2.length q1, .slice (some ⟨r2, 0, none⟩) F2.length q2, .slice (some ⟨r3, 0, none⟩) E2.length q3] 25 (0, 0)) ∧ W1.heap[w.heap.size + 1 + 1]? = some (.cells #[.int .i64 0, .int .i64 0, .slice none 0 0, .slice none 0 0, .slice none 0 0] 25 (0, 0)) ∧ w.heap.size + 3 ≤ W1.heap.size ∧ Below w.heap.size w W1) := A0 (by
  have q := Br w1 #[.int .i64 (N : Int), .int .i64 (m : Int), .slice (some ⟨g1, 0, none⟩) S1.length k1, .slice (some ⟨g2, 0, none⟩) F1.length k2, .slice (some ⟨g3, 0, none⟩) E1.length k3] #[.int .i64 (M : Int), .int .i64 (m : Int), .slice (some ⟨r1, 0, none⟩) S2.length q1, .slice (some ⟨r2, 0, none⟩) F2.length q2, .slice (some ⟨r3, 0, none⟩) E2.length q3] 25
  rw [hW1] at q
  have s := HD.out.2.2.2.2
  have d2 := H1.out.2.2.trans (q.1.mono H1.out.2.2.size)
  exact ⟨q.2.1, q.2.2.1, A3 HD.out.2.2.2.1 d2, by have := d2.size; omega, HD.out.1.trans (d2.mono HD.out.1.size)⟩)
 have HX : Hid (AE 0 W1 (.slice (some ⟨g1, 0, none⟩) S1.length k1) (.slice (some ⟨g2, 0, none⟩) F1.length k2) (.slice (some ⟨g3, 0, none⟩) E1.length k3) S1 F1 E1) := A0 (by
  have q := Br w1 #[.int .i64 (N : Int), .int .i64 (m : Int), .slice (some ⟨g1, 0, none⟩) S1.length k1, .slice (some ⟨g2, 0, none⟩) F1.length k2, .slice (some ⟨g3, 0, none⟩) E1.length k3] #[.int .i64 (M : Int), .int .i64 (m : Int), .slice (some ⟨r1, 0, none⟩) S2.length q1, .slice (some ⟨r2, 0, none⟩) F2.length q2, .slice (some ⟨r3, 0, none⟩) E2.length q3] 25
  rw [hW1] at q
  exact (H1.out.1.on q.1).down (Nat.zero_le _))
 have HY : Hid (AE 0 W1 (.slice (some ⟨r1, 0, none⟩) S2.length q1) (.slice (some ⟨r2, 0, none⟩) F2.length q2) (.slice (some ⟨r3, 0, none⟩) E2.length q3) S2 F2 E2) := A0 (by
  have q := Br w1 #[.int .i64 (N : Int), .int .i64 (m : Int), .slice (some ⟨g1, 0, none⟩) S1.length k1, .slice (some ⟨g2, 0, none⟩) F1.length k2, .slice (some ⟨g3, 0, none⟩) E1.length k3] #[.int .i64 (M : Int), .int .i64 (m : Int), .slice (some ⟨r1, 0, none⟩) S2.length q1, .slice (some ⟨r2, 0, none⟩) F2.length q2, .slice (some ⟨r3, 0, none⟩) E2.length q3] 25
  rw [hW1] at q
  exact (H1.out.2.1.on q.1).down (Nat.zero_le _))
 rw [hW1]
 clear hW1 H1
 obtain ⟨x0, x1, x2, x3, x4⟩ := An HW.out.1 rfl rfl rfl rfl rfl
 obtain ⟨y0, y1, y2, y3, y4⟩ := An HW.out.2.1 rfl rfl rfl rfl rfl
 go_upto_region 6 with fail
 clear y0 x0 y1 x1 y2 x2 y3 x3 y4 x4
 have T4 : Hid (∀ W, Below W1.heap.size W1 W → Calls prog 33 #[.agg #[.int .i64 (M : Int), .int .i64 (m : Int), .slice (some ⟨r1, 0, none⟩) S2.length q1, .slice (some ⟨r2, 0, none⟩) F2.length q2, .slice (some ⟨r3, 0, none⟩) E2.length q3], .int .i64 (N : Int)] W fun e w' => ∃ t1 u1 t2 u2 t3 u3, e = .returned (.agg #[.int .i64 ((M : Int) + (N : Int)), .int .i64 (m : Int), .slice t1 S2.length u1, .slice t2 F2.length u2, .slice t3 E2.length u3]) ∧ Hid (AE W.heap.size w' (.slice t1 S2.length u1) (.slice t2 F2.length u2) (.slice t3 E2.length u3) (AS S2 N) (AS F2 N) (CC E2 N) ∧ Below W.heap.size W w')) := A0 (fun W d => KQ W M S2.length F2.length E2.length (m : Int) (N : Int) _ _ _ q1 q2 q3 S2 F2 E2 rfl rfl rfl (A0 (HY.out.on d).rd) hl.out.2.2.2.1 hl.out.2.2.2.2.1 hl.out.2.2.2.2.2 (by omega) (by omega) (A0 (fun x hx => by obtain ⟨q, h, rfl⟩ := hSb.out x hx; omega)) (A0 (fun x hx => by obtain ⟨q, h, rfl⟩ := hFb.out x hx; omega)) hEb)
 have T5 : Hid (∀ W, Below W1.heap.size W1 W → ∀ t1 u1 t2 u2 t3 u3, AE 0 W (.slice t1 S2.length u1) (.slice t2 F2.length u2) (.slice t3 E2.length u3) (AS S2 N) (AS F2 N) (CC E2 N) → Calls prog 32 #[.agg #[.int .i64 (N : Int), .int .i64 (m : Int), .slice (some ⟨g1, 0, none⟩) S1.length k1, .slice (some ⟨g2, 0, none⟩) F1.length k2, .slice (some ⟨g3, 0, none⟩) E1.length k3], .agg #[.int .i64 ((M : Int) + (N : Int)), .int .i64 (m : Int), .slice t1 S2.length u1, .slice t2 F2.length u2, .slice t3 E2.length u3]] W fun e w' => ∃ z5 d5, e = .returned (.tuple #[.agg #[.int .i64 ((M : Int) + (N : Int)), .int .i64 (m : Int), .slice (some ⟨g1, 0, none⟩) S1.length k1, .slice t2 F2.length u2, .slice z5 EE.length d5], .int .i64 0]) ∧ Hid (w'.ownsRow W.heap.size 50 3 (.slice z5 EE.length d5) EE.length (EE.flatMap Ae) ∧ Below W.heap.size W w')) := A0 (fun W d t1 u1 t2 u2 t3 u3 ho => by
  have L1 := Bs S2 (N : Int)
  have L2 := Bs F2 (N : Int)
  have L3 := Iq E2 (N : Int)
  have rd : AP W t1 t2 t3 (AS S2 N) (AS F2 N) (CC E2 N) := by
   have q := ho
   rw [← L1, ← L2, ← L3] at q
   exact q.rd
  have mvb : ∀ {L : List Int}, (∀ x ∈ L, ∃ q : Nat, q < M ∧ x = (q : Int)) → ∀ x ∈ AS L (N : Int), ∃ q : Nat, q < M + N ∧ x = (q : Int) := fun h x hx => by
   unfold AS at hx
   rw [List.mem_map] at hx
   obtain ⟨y, hy, rfl⟩ := hx
   obtain ⟨q, hq, rfl⟩ := h y hy
   exact ⟨q + N, by omega, by omega⟩
  have T := Ku W N m S1.length F1.length E1.length S2.length F2.length E2.length ((M : Int) + (N : Int)) (m : Int) _ _ _ t1 t2 t3 k1 k2 k3 u1 u2 u3 S1 F1 (AS S2 N) (AS F2 N) E1 (CC E2 N) (A0 ⟨rfl, rfl, rfl, L1, L2, L3⟩) (A0 (HX.out.on d).rd) (A0 rd) (fun e => GE (by have q := ho.s; rw [L1] at q; exact q) e) (by omega) hm hl.out.1 hl.out.2.1 hl.out.2.2.1 hl.out.2.2.2.1 hl.out.2.2.2.2.1 hl.out.2.2.2.2.2 hS hF hFa (fun e => GE (by have q := ho.e; rw [L3] at q; exact q) e) (by omega) hle hSa (M + N) (A0 (by omega)) (by omega) (A0 (mvb hSb.out)) (A0 (mvb hFb.out)) emA emB
  rw [HE.out] at T
  exact T)
 have hmo : AJ 0 [vI 0 (.agg #[.int .i64 (N : Int), .int .i64 (m : Int), .slice (some ⟨g1, 0, none⟩) S1.length k1, .slice (some ⟨g2, 0, none⟩) F1.length k2, .slice (some ⟨g3, 0, none⟩) E1.length k3]), vI 1 (.agg #[.int .i64 (M : Int), .int .i64 (m : Int), .slice (some ⟨r1, 0, none⟩) S2.length q1, .slice (some ⟨r2, 0, none⟩) F2.length q2, .slice (some ⟨r3, 0, none⟩) E2.length q3]), vI 2 (.pointer (some ⟨w1.heap.size, 0, none⟩)), vI 3 (.int .i64 (N : Int)), pI 4 (PX N M m S2 F2 E2), pI 5 (Q1 N M m g1 k1 S1.length F2 EE), pI 6 (Q4 N M m g1 k1 S1.length F2 EE), vI 7 (.int .i64 0)] := ⟨A2 _ _, A2 _ _, A2 _ _, A2 _ _, Am Ma, Am Lw, Am M0, A2 _ _, trivial⟩
 refine Aj _ (by kernel_rfl) (by kernel_rfl) (by kernel_rfl) (by kernel_rfl) hmo ⟨?o0, ?o1, ?o2, ?o3, ?o4, ?o5, ?o6, ?o7, trivial⟩ ?fin
 case o0 =>
  intro At yy W hy hb d hd K hK
  obtain ⟨s6, s6'⟩ := AG (hb 6 rfl : _ = .pointer (some ⟨w1.heap.size, 0, none⟩))
  clear hd hy hb
  have bxX := A3 HW.out.1 d
  have bxY := A3 HW.out.2.1 d
  obtain ⟨x0, x1, x2, x3, x4⟩ := An bxX rfl rfl rfl rfl rfl
  obtain ⟨y0, y1, y2, y3, y4⟩ := An bxY rfl rfl rfl rfl rfl
  clear bxX bxY
  go_simp
  exact Ak hK hmo d (if_pos rfl)
 case o1 =>
  intro At yy W hy hb d hd K hK
  obtain ⟨s7, s7'⟩ := AG (hb 7 rfl : _ = .pointer (some ⟨w1.heap.size + 1, 0, none⟩))
  clear hd hy hb
  have bxX := A3 HW.out.1 d
  have bxY := A3 HW.out.2.1 d
  obtain ⟨x0, x1, x2, x3, x4⟩ := An bxX rfl rfl rfl rfl rfl
  obtain ⟨y0, y1, y2, y3, y4⟩ := An bxY rfl rfl rfl rfl rfl
  clear bxX bxY
  go_simp
  exact Ak hK hmo d (if_pos rfl)
 case o2 =>
  intro At yy W hy hb d hd K hK
  obtain ⟨s6, s6'⟩ := AG (hb 6 rfl : _ = .pointer (some ⟨w1.heap.size, 0, none⟩))
  clear hd hy hb
  go_simp
  exact Ak hK hmo d (if_pos rfl)
 case o3 =>
  intro At yy W hy hb d hd K hK
  obtain ⟨s29, s29'⟩ := Ao 2 29 .data hy hd rfl
  clear hd hy hb
  have bxX := A3 HW.out.1 d
  have bxY := A3 HW.out.2.1 d
  obtain ⟨x0, x1, x2, x3, x4⟩ := An bxX rfl rfl rfl rfl rfl
  obtain ⟨y0, y1, y2, y3, y4⟩ := An bxY rfl rfl rfl rfl rfl
  clear bxX bxY
  go_simp
  exact Ak hK hmo d (if_pos rfl)
 case o4 =>
  intro At yy W hy hb d hd K hK
  obtain ⟨s28, s28'⟩ := Ao 1 28 .data hy hd rfl
  obtain ⟨s30, s30'⟩ := Ao 3 30 .data hy hd rfl
  clear hd hy hb
  go_simp
  go_wp2_with (go_at_call 33; refine (T4.out _ d).mono ?_; rintro e wa ⟨t1, u1, t2, u2, t3, u3, rfl, hR⟩)
  exact hK.out _ wa (Av hmo d hR.out.2) ⟨t1, u1, t2, u2, t3, u3, if_pos rfl, hR.out.1.down (Nat.zero_le _)⟩
 case o5 =>
  intro At yy W hy hb d hd K hK
  have f4 := hd ⟨4, .data⟩ (by simp) rfl rfl
  obtain ⟨_, _, _, _, t1, u1, t2, u2, t3, u3, e4, h4⟩ := f4
  obtain ⟨s27, s27'⟩ := Ao 0 27 .data hy hd rfl
  obtain ⟨s31, s31'⟩ := AG ((hy 4 _ 31 rfl rfl).trans e4)
  clear hd hy hb
  go_simp
  go_wp2_with (go_at_call 32; refine (T5.out _ d t1 u1 t2 u2 t3 u3 h4).mono ?_; rintro e wa ⟨z5, d5, rfl, hR⟩)
  exact hK.out _ wa (Av hmo d hR.out.2) ⟨t2, u2, z5, d5, if_pos rfl, A6 (by have q := h4.f; rw [Bs] at q; exact q) hR.out.2, Ac hR.out.1 (Nat.zero_le _)⟩
 case o6 =>
  intro At yy W hy hb d hd K hK
  have f5 := hd ⟨5, .data⟩ (by simp) rfl rfl
  obtain ⟨_, _, _, _, t2, u2, z5, d5, e5, h5, h5'⟩ := f5
  obtain ⟨s32, s32'⟩ := AG ((hy 5 _ 32 rfl rfl).trans e5)
  clear hd hy hb
  go_simp
  exact Ak hK hmo d ⟨t2, u2, z5, d5, if_pos rfl, h5, h5'⟩
 case o7 =>
  intro At yy W hy hb d hd K hK
  have f5 := hd ⟨5, .data⟩ (by simp) rfl rfl
  obtain ⟨_, _, _, _, t2, u2, z5, d5, e5, _, _⟩ := f5
  obtain ⟨s32, s32'⟩ := AG ((hy 5 _ 32 rfl rfl).trans e5)
  clear hd hy hb
  go_simp
  exact Ak hK hmo d (if_pos rfl)
 case fin =>
  intro yy lo hi W hM
  show wpList _ _ _ [_, _] _ _
  have e0 := hM.v 0 (by simp) rfl rfl rfl
  have e1 := hM.v 1 (by simp) rfl rfl rfl
  have e2 := hM.v 2 (by simp) rfl rfl rfl
  have e3 := hM.v 3 (by simp) rfl rfl rfl
  have e7 := hM.v 7 (by simp) rfl rfl rfl
  obtain ⟨t2, u2, z5, d5, e6, h6, h6'⟩ := hM.fact 6 (by simp) rfl (Ad 6 rfl)
  obtain ⟨t1', u1', t2', u2', t3', u3', e4, _⟩ := hM.fact 4 (by simp) rfl (Ad 4 rfl)
  obtain ⟨t2', u2', z5', d5', e5, _, _⟩ := hM.fact 5 (by simp) rfl (Ad 5 rfl)
  have HDD := A0 hM.d
  simp only [Aw, Act.put, List.take, List.length, List.setIfInBounds_toArray, List.set_cons_zero, List.set_cons_succ, e0, e1, e2, e3, e7, e4, e5, e6]
  clear hM hmo e0 e1 e2 e3 e7 e4 e5 e6
  have F4 := A3 HW.out.2.2.1 HDD.out
  obtain ⟨o0, o1, o2, o3, o4⟩ := An F4 rfl rfl rfl rfl rfl
  have g0' : W.frozen? ⟨w.heap.size + 1 + 1, 0, none⟩ = false := A4 F4
  have g1' : W.frozen? ⟨w.heap.size + 1 + 1, 1, none⟩ = false := A4 F4
  have g2' : W.frozen? ⟨w.heap.size + 1 + 1, 2, none⟩ = false := A4 F4
  have g3' : W.frozen? ⟨w.heap.size + 1 + 1, 3, none⟩ = false := A4 F4
  have g4' : W.frozen? ⟨w.heap.size + 1 + 1, 4, none⟩ = false := A4 F4
  have O6 := A0 (And.intro (AT W (w.heap.size + 1 + 1) _ _ _ _ _ (.int .i64 ((M : Int) + (N : Int))) (.int .i64 (m : Int)) (.slice (some ⟨g1, 0, none⟩) S1.length k1) (.slice t2 F2.length u2) (.slice z5 EE.length d5) 25 F4) (AF W (w.heap.size + 1 + 1) (.int .i64 ((M : Int) + (N : Int))) (.int .i64 (m : Int)) (.slice (some ⟨g1, 0, none⟩) S1.length k1) (.slice t2 F2.length u2) (.slice z5 EE.length d5)))
  have HO := A0 (And.intro (Ap h6 F4 (by decide) O6.out.2) (And.intro (Ap h6' F4 (by decide) O6.out.2) (Ap (A6 HX.out.s HDD.out) F4 (by decide) O6.out.2)))
  clear F4 h6 h6'
  go_wp2_with fail
  refine bodyPost_ret (B6 (p := 4) (q := 5) (ty := 25) rfl _ _ (w.heap.size + 1 + 1) 25 _ (0, 0) _ _ rfl rfl O6.out.1 underlying25 rfl (by kernel_rfl)) rfl ?_
  have s1 := HDD.out.size
  have s2 := HW.out.2.2.2.1
  have dw := HW.out.2.2.2.2
  exact ⟨g1, k1, t2, u2, z5, d5, rfl, A0 ⟨⟨AM HO.out.2.2, Of HO.out.1, BT HO.out.2.1⟩, (dw.trans (HDD.out.mono dw.size)).trans (O6.out.2.toBelow (by omega) (fun k hk => by omega))⟩⟩
def Gh (L : List Int) : List Aa := L.zipIdx.map fun p => ((p.2 : Int), p.1, (p.2 : Int) + 1)
theorem Ld (L : List Int) : (Gh L).length = L.length := by simp [Gh]
theorem JX (L : List Int) (i : Nat) (h : i < L.length) : Gh (L.take (i + 1)) = Gh (L.take i) ++ [((i : Int), L[i], (i : Int) + 1)] := by
 unfold Gh
 rw [List.take_succ_eq_append_getElem h, List.zipIdx_append, List.map_append]
 have : (L.take i).length = i := by rw [List.length_take]; omega
 simp [this]
theorem JI {W : World} {B g : Nat} {x : Value} (h : W.heap[g]? = some (.cells #[x] 3 (0, 0))) (hB : B ≤ g) : W.ownsRow B 3 1 (.slice (some ⟨g, 0, none⟩) 1 1) 1 [x] :=
 ⟨by simp, .inr ⟨g, 1, #[x], rfl, hB, h, Nat.le_refl _, by unfold maxLen; omega, by simp, by simp⟩⟩
theorem Nc {w wr wa w5 : World} {p : Nat} {n m : Int} {v1 v2 v3 v5 : Value} {S F : List Int} {X Y : List Aa} (h : Mk w wr p n m v1 v2 v3 S F X) (d1 : Below wr.heap.size wr wa) (o : w5.ownsRow w.heap.size 50 3 v5 Y.length (Y.flatMap Ae)) (oo : Ab wa w5 (fun k => v3.ownBlock = some k)) :
 w5.heap[p]? = some (.cells #[.int .i64 n, .int .i64 m, v1, v2, v3] 25 (0, 0)) ∧ Mk w (w5.setCell ⟨p, 4, none⟩ v5) p n m v1 v2 v5 S F Y := by
 have s2 := A6 h.ow.s d1
 have f2 := A6 h.ow.f d1
 have e2 := A6 h.ow.e d1
 have b2 := A3 h.bx d1
 have b5 := (oo.block p (Array.getElem?_eq_some_iff.1 b2).1 (fun hk => BO e2 b2 (by decide) hk)).trans b2
 have s5 := A9 s2 oo (fun k hk hk2 => Ai e2 s2 (by decide) hk2 hk)
 have f5 := A9 f2 oo (fun k hk hk2 => Ai e2 f2 (by decide) hk2 hk)
 have o2 := Ah w5 p 4 v5
 have dd := h.be.trans (d1.mono h.be.size)
 have d5 := dd.trans (oo.toBelow dd.size (fun k hk => (e2.lt k hk).1))
 exact ⟨b5, heap_setCell_same _ _ 4 _ 25 _ b5, h.ge, ⟨Ap s5 b5 (by decide) o2, Ap f5 b5 (by decide) o2, Ap o b5 (by decide) o2, h.ow.ne⟩, d5.trans (o2.toBelow d5.size (fun k hk => by rw [hk]; exact h.ge))⟩
theorem OL (w : World) (ao : Option Addr) (c n s : Nat) (L : List Int) (en : Hid (L.length = n)) (hr : Hid (BB w ao L)) (hn : n < 4096) (hs : s ≤ 128) (hL : Hid (∀ x ∈ L, 0 ≤ x ∧ x < (s : Int))) :
 Calls prog 19 #[.slice ao n c, .int .i64 (s : Int)] w fun e w' => ∃ b1 k1 b2 k2 b3 k3, e = .returned (.tuple #[.agg #[.int .i64 ((n : Int) + 1), .int .i64 (s : Int), .slice b1 1 k1, .slice b2 1 k2, .slice b3 n k3], .int .i64 0]) ∧ Hid (AE w.heap.size w' (.slice b1 1 k1) (.slice b2 1 k2) (.slice b3 n k3) [0] [(n : Int)] (Gh L) ∧ Below w.heap.size w w') := by
 obtain ⟨W0, hW0⟩ : ∃ W0, (w.alloc (.cells #[.int .i64 (s : Int)] 3)).alloc (.cells #[.int .i64 0, .int .i64 0, .slice none 0 0, .slice none 0 0, .slice none 0 0] 25) = W0 := ⟨_, rfl⟩
 have HD : Hid (Below w.heap.size w W0 ∧ W0.heap[w.heap.size]? = some (.cells #[.int .i64 (s : Int)] 3 (0, 0)) ∧ W0.heap[w.heap.size + 1]? = some (.cells #[.int .i64 0, .int .i64 0, .slice none 0 0, .slice none 0 0, .slice none 0 0] 25 (0, 0)) ∧ W0.heap.size = w.heap.size + 2) := A0 (by
  have k1 := (Below.refl w.heap.size w).alloc (Nat.le_refl _) (.cells #[.int .i64 (s : Int)] 3)
  have z1 := World.alloc_heap_new w (.cells #[.int .i64 (s : Int)] 3)
  have s1 : (w.alloc (.cells #[.int .i64 (s : Int)] 3)).heap.size = w.heap.size + 1 := by simp
  generalize w.alloc (.cells #[.int .i64 (s : Int)] 3) = X at k1 z1 s1 hW0
  have k2 := (Below.refl X.heap.size X).alloc (Nat.le_refl _) (.cells #[.int .i64 0, .int .i64 0, .slice none 0 0, .slice none 0 0, .slice none 0 0] 25)
  have z2 := World.alloc_heap_new X (.cells #[.int .i64 0, .int .i64 0, .slice none 0 0, .slice none 0 0, .slice none 0 0] 25)
  rw [hW0] at k2 z2
  rw [s1] at z2
  exact ⟨k1.trans (k2.mono k1.size), A3 z1 k2, z2, by rw [← hW0, World.size_alloc, s1]⟩)
 have y0 : W0.cell? ⟨w.heap.size, 0, none⟩ = some (.int .i64 (s : Int)) := A1 HD.out.2.1 rfl
 have TC := NY W0 ao c L w.heap.size (s : Int) (A0 y0) (A0 (hr.out.on HD.out.1)) (by have := en.out; omega)
 rw [show L.any (E4 (s : Int)) = false by
  rw [List.any_eq_false]
  intro x hx
  have := hL.out x hx
  simp [E4]; omega, en.out] at TC
 have TM : ∀ W, Calls prog 30 #[.int .i64 (s : Int)] W fun e w' => e = .returned (.bool true) ∧ w' = W := fun W => by
  have := KI W (s : Int)
  rwa [show Gs (s : Int) = true by simp [Gs]; omega] at this
 have HM := A0 TM
 clear TM
 have jn : ¬ (4096 : Int) ≤ (n : Int) := by omega
 have ew : IntKind.i64.wrap ((n : Int) + 1) = (n : Int) + 1 := by rw [IntKind.wrap_i64]; omega
 go_enter func19, ntmps19
 go_upto_region 3 with (go_at_call 28; refine TC.mono ?_; rintro e w2 ⟨rfl, D2⟩; have H2 := A0 D2; clear D2)
 clear TC y0
 have y0 : w2.cell? ⟨w.heap.size, 0, none⟩ = some (.int .i64 (s : Int)) := A1 (A3 HD.out.2.1 H2.out) rfl
 go_upto_region 8 with (go_at_call 30; refine (HM.out w2).mono ?_; rintro e wq ⟨rfl, rfl⟩)
 clear y0 HM
 obtain ⟨W1, hW1⟩ : ∃ W, ((wq.alloc (.cells #[.int .i64 0] 3)).alloc (.cells #[.int .i64 (n : Int)] 3)).alloc (.cells #[.int .i64 ((n : Int) + 1), .int .i64 (s : Int), .slice (some ⟨wq.heap.size, 0, none⟩) 1 1, .slice (some ⟨wq.heap.size + 1, 0, none⟩) 1 1, .slice none 0 0] 25) = W := ⟨_, rfl⟩
 rw [hW1]
 have HA : Hid (Mk W0 W1 (wq.heap.size + 1 + 1) ((n : Int) + 1) (s : Int) (.slice (some ⟨wq.heap.size, 0, none⟩) 1 1) (.slice (some ⟨wq.heap.size + 1, 0, none⟩) 1 1) (.slice none 0 0) [0] [(n : Int)] []) := A0 (by
  have k1 := (Below.refl wq.heap.size wq).alloc (Nat.le_refl _) (.cells #[.int .i64 0] 3)
  have z1 := World.alloc_heap_new wq (.cells #[.int .i64 0] 3)
  have s1 : (wq.alloc (.cells #[.int .i64 0] 3)).heap.size = wq.heap.size + 1 := by simp
  generalize wq.alloc (.cells #[.int .i64 0] 3) = X at k1 z1 s1 hW1
  have k2 := (Below.refl X.heap.size X).alloc (Nat.le_refl _) (.cells #[.int .i64 (n : Int)] 3)
  have z2 := World.alloc_heap_new X (.cells #[.int .i64 (n : Int)] 3)
  have s2 : (X.alloc (.cells #[.int .i64 (n : Int)] 3)).heap.size = wq.heap.size + 1 + 1 := by simp [s1]
  generalize X.alloc (.cells #[.int .i64 (n : Int)] 3) = Y at k2 z2 s2 hW1
  have k3 := (Below.refl Y.heap.size Y).alloc (Nat.le_refl _) (.cells #[.int .i64 ((n : Int) + 1), .int .i64 (s : Int), .slice (some ⟨wq.heap.size, 0, none⟩) 1 1, .slice (some ⟨wq.heap.size + 1, 0, none⟩) 1 1, .slice none 0 0] 25)
  have z3 := World.alloc_heap_new Y (.cells #[.int .i64 ((n : Int) + 1), .int .i64 (s : Int), .slice (some ⟨wq.heap.size, 0, none⟩) 1 1, .slice (some ⟨wq.heap.size + 1, 0, none⟩) 1 1, .slice none 0 0] 25)
  rw [hW1] at k3 z3
  rw [s2] at z3
  rw [s1] at z2
  have sq := H2.out.size
  have kk := k1.trans ((k2.trans (k3.mono k2.size)).mono k1.size)
  exact ⟨z3, by omega, ⟨JI (A3 (A3 z1 k2) k3) (by omega), JI (A3 z2 k3) (by omega), World.ownsRow_nil W1 W0.heap.size _ _, fun x hx hy => by
   simp only [Value.ownBlock, Option.some.injEq] at hx hy
   omega⟩, H2.out.trans (kk.mono sq)⟩)
 obtain ⟨g, hg⟩ : ∃ g, wq.heap.size = g := ⟨_, rfl⟩
 clear hW1 H2
 rw [hg] at HA ⊢
 clear hg
 go_wp2_with fail
 go_loopw [32] (fun iv wr => ∃ i : Nat, i ≤ n ∧ iv = .int .i64 (i : Int) ∧ ∃ b3 k3, Hid (Mk W0 wr (g + 1 + 1) ((n : Int) + 1) (s : Int) (.slice (some ⟨g, 0, none⟩) 1 1) (.slice (some ⟨g + 1, 0, none⟩) 1 1) (.slice b3 i k3) [0] [(n : Int)] (Gh (L.take i)))) (fun iv _ => n - (intOf iv).toNat)
 case atStart => exact ⟨0, Nat.zero_le _, rfl, none, 0, HA⟩
 case round =>
  obtain ⟨i, hi, rfl, b3, k3, HY⟩ := hrel
  clear HA
  by_cases hil : i < n
  · have i0 : (0 : Int) ≤ (i : Int) := by omega
    have i1 : (i : Int) < (n : Int) := by omega
    have hjl : i < L.length := by have := en.out; omega
    obtain ⟨ge, o, ea, q1⟩ := (hr.out.on (HD.out.1.trans (HY.out.be.mono HD.out.1.size))) i hjl
    subst ea
    have HT := A0 (JX L i hjl)
    generalize L[i] = x at q1 HT
    have HTl : Hid ((Gh (L.take i)).length = i) := A0 (by rw [Ld, List.length_take]; omega)
    have r1 : IntKind.i64.wrap ((i : Int) + 1) = (i : Int) + 1 := by rw [IntKind.wrap_i64]; omega
    have HS0 := A0 HY.out.be.size
    have z4 : wr.cell? ⟨g + 1 + 1, 4, none⟩ = some (.slice b3 i k3) := A1 HY.out.bx rfl
    go_wp2_with (at_builtin; refine D8 rfl _ _ rfl W0.heap.size (.slice b3 i k3) (Gh (L.take i)) rfl (A6 HY.out.ow.e ((Below.refl _ _).alloc (Nat.le_refl _) _)) wr.heap.size ((i : Int), x, (i : Int) + 1) rfl (World.alloc_heap_new _ _) (by have := HTl.out; omega) (by have := HS0.out; rw [World.size_alloc]; omega) ?_; intro v5 w5 HO5 HG5; obtain ⟨z5, d5, e5⟩ := A8 HO5.out; have E5 : v5 = .slice z5 (i + 1) d5 := (by rw [e5, List.length_append, HTl.out]; rfl); clear e5; subst E5; have HQ := A0 (Nc HY.out ((Below.refl _ _).alloc (Nat.le_refl _) _) HO5.out HG5.out); have c5 : w5.cell? ⟨g + 1 + 1, 4, none⟩ = some (.slice b3 i k3) := A1 HQ.out.1 rfl; have f5 : w5.frozen? ⟨g + 1 + 1, 4, none⟩ = false := A4 HQ.out.1)
    refine ⟨⟨i + 1, by omega, by go_num, z5, d5, A0 (by rw [HT.out]; exact HQ.out.2)⟩, by simp [intOf]; omega⟩
  · obtain rfl : n = i := by omega
    have i1 : ¬ (n : Int) < (n : Int) := by omega
    have HZ : Hid (Mk W0 wr (g + 1 + 1) ((n : Int) + 1) (s : Int) (.slice (some ⟨g, 0, none⟩) 1 1) (.slice (some ⟨g + 1, 0, none⟩) 1 1) (.slice b3 n k3) [0] [(n : Int)] (Gh L)) := A0 (by
     have q := HY.out
     rw [List.take_of_length_le (by have := en.out; omega)] at q
     exact q)
    clear HY
    have F3 := A3 HD.out.2.2.1 HZ.out.be
    have F4 := HZ.out.bx
    obtain ⟨o0, o1, o2, o3, o4⟩ := An F3 rfl rfl rfl rfl rfl
    have f0 : wr.frozen? ⟨w.heap.size + 1, 0, none⟩ = false := A4 F3
    have f1 : wr.frozen? ⟨w.heap.size + 1, 1, none⟩ = false := A4 F3
    have f2 : wr.frozen? ⟨w.heap.size + 1, 2, none⟩ = false := A4 F3
    have f3 : wr.frozen? ⟨w.heap.size + 1, 3, none⟩ = false := A4 F3
    have f4 : wr.frozen? ⟨w.heap.size + 1, 4, none⟩ = false := A4 F3
    obtain ⟨v0, v1, v2, v3, v4⟩ := An F4 rfl rfl rfl rfl rfl
    have O6 := A0 (And.intro (AT wr (w.heap.size + 1) _ _ _ _ _ (.int .i64 ((n : Int) + 1)) (.int .i64 (s : Int)) (.slice (some ⟨g, 0, none⟩) 1 1) (.slice (some ⟨g + 1, 0, none⟩) 1 1) (.slice b3 n k3) 25 F3) (AF wr (w.heap.size + 1) (.int .i64 ((n : Int) + 1)) (.int .i64 (s : Int)) (.slice (some ⟨g, 0, none⟩) 1 1) (.slice (some ⟨g + 1, 0, none⟩) 1 1) (.slice b3 n k3)))
    have HO2 := A0 (HZ.out.ow.keep F3 O6.out.2)
    clear F3 F4
    go_wp2_with fail
    refine bodyPost_ret (B6 (p := 4) (q := 5) (ty := 25) rfl _ _ (w.heap.size + 1) 25 _ (0, 0) _ _ rfl rfl O6.out.1 underlying25 rfl (by kernel_rfl)) rfl ?_
    have s1 := HD.out.2.2.2
    have s2 := HZ.out.be.size
    exact ⟨_, _, _, _, _, _, rfl, A0 ⟨HO2.out.down (by omega), (HD.out.1.trans (HZ.out.be.mono (by omega))).trans (O6.out.2.toBelow (by omega) (fun k hk => by omega))⟩⟩
def KT (n m n' m' : Int) (St Fi : List Int) (Ed : List Aa) (St' Fi' : List Int) (Ed' : List Aa) : Bool := decide (n = n' ∧ m = m' ∧ St = St' ∧ Fi = Fi' ∧ Ed = Ed')
theorem BE (w : World) (n m n' m' : Int) (a1 a2 a3 b1 b2 b3 : Option Addr) (c1 c2 c3 d1 d2 d3 : Nat) (St Fi : List Int) (Ed : List Aa) (St' Fi' : List Int) (Ed' : List Aa) (hA : Hid (AP w a1 a2 a3 St Fi Ed)) (hB : Hid (AP w b1 b2 b3 St' Fi' Ed')) (h1 : St.length ≤ 4194304) (h2 : Fi.length ≤ 4194304) (h3 : Ed.length ≤ 4194304) (h4 : St'.length ≤ 4194304) (h5 : Fi'.length ≤ 4194304) (_h6 : Ed'.length ≤ 4194304) :
 Calls prog 14 #[.agg #[.int .i64 n, .int .i64 m, .slice a1 St.length c1, .slice a2 Fi.length c2, .slice a3 Ed.length c3], .agg #[.int .i64 n', .int .i64 m', .slice b1 St'.length d1, .slice b2 Fi'.length d2, .slice b3 Ed'.length d3]] w fun e w' => e = .returned (.bool (KT n m n' m' St Fi Ed St' Fi' Ed')) ∧ Below w.heap.size w w' := by
 obtain ⟨W0, hW0⟩ : ∃ W0, (w.alloc (.cells #[.int .i64 n, .int .i64 m, .slice a1 St.length c1, .slice a2 Fi.length c2, .slice a3 Ed.length c3] 25)).alloc (.cells #[.int .i64 n', .int .i64 m', .slice b1 St'.length d1, .slice b2 Fi'.length d2, .slice b3 Ed'.length d3] 25) = W0 := ⟨_, rfl⟩
 have HD := A0 (MQ w #[.int .i64 n, .int .i64 m, .slice a1 St.length c1, .slice a2 Fi.length c2, .slice a3 Ed.length c3] #[.int .i64 n', .int .i64 m', .slice b1 St'.length d1, .slice b2 Fi'.length d2, .slice b3 Ed'.length d3] 25 25)
 rw [hW0] at HD
 have SK : Hid (∀ W, Below W0.heap.size W0 W → ((W.cell? ⟨w.heap.size, 0, none⟩ = some (.int .i64 n) ∧ W.cell? ⟨w.heap.size, 1, none⟩ = some (.int .i64 m) ∧ W.cell? ⟨w.heap.size, 2, none⟩ = some (.slice a1 St.length c1) ∧ W.cell? ⟨w.heap.size, 3, none⟩ = some (.slice a2 Fi.length c2) ∧ W.cell? ⟨w.heap.size, 4, none⟩ = some (.slice a3 Ed.length c3)) ∧ (W.cell? ⟨w.heap.size + 1, 0, none⟩ = some (.int .i64 n') ∧ W.cell? ⟨w.heap.size + 1, 1, none⟩ = some (.int .i64 m') ∧ W.cell? ⟨w.heap.size + 1, 2, none⟩ = some (.slice b1 St'.length d1) ∧ W.cell? ⟨w.heap.size + 1, 3, none⟩ = some (.slice b2 Fi'.length d2) ∧ W.cell? ⟨w.heap.size + 1, 4, none⟩ = some (.slice b3 Ed'.length d3)))) := A0 (fun W d => by
  have e := A3 HD.out.2.1 d
  have f := A3 HD.out.2.2.1 d
  exact ⟨⟨A1 e rfl, A1 e rfl, A1 e rfl, A1 e rfl, A1 e rfl⟩, A1 f rfl, A1 f rfl, A1 f rfl, A1 f rfl, A1 f rfl⟩)
 have TS : Hid (∀ W, Below W0.heap.size W0 W → Calls prog 26 #[.slice a1 St.length c1, .slice b1 St'.length d1] W fun e w' => e = .returned (.bool (decide (St = St'))) ∧ Below W.heap.size W w') := A0 (fun W d => by
  have d2 := HD.out.1.trans (d.mono HD.out.1.size)
  exact Eu W a1 b1 St St' c1 d1 (A0 (hA.out.s.on d2)) (A0 (hB.out.s.on d2)) h1 h4)
 have TF : Hid (∀ W, Below W0.heap.size W0 W → Calls prog 26 #[.slice a2 Fi.length c2, .slice b2 Fi'.length d2] W fun e w' => e = .returned (.bool (decide (Fi = Fi'))) ∧ Below W.heap.size W w') := A0 (fun W d => by
  have dd := HD.out.1.trans (d.mono HD.out.1.size)
  exact Eu W a2 b2 Fi Fi' c2 d2 (A0 (hA.out.f.on dd)) (A0 (hB.out.f.on dd)) h2 h5)
 obtain ⟨⟨y0, y1, y2, y3, y4⟩, z0, z1, z2, z3, z4⟩ := SK.out W0 (Below.refl _ _)
 rcases Classical.em (n = n') with e0 | e0
 rotate_left
 · have HE : Hid (KT n m n' m' St Fi Ed St' Fi' Ed' = false) := A0 (decide_eq_false fun h => e0 h.1)
   have k0 : (n != n') = true := by simpa using e0
   clear e0
   go_enter func14, ntmps14
   go_wp2_with fail
   refine bodyPost_ret (results_tmp rfl _ _ _) rfl ?_
   exact ⟨by rw [HE.out]; rfl, HD.out.1⟩
 have k0 : (n != n') = false := by simpa using e0
 rcases Classical.em (m = m') with e1 | e1
 rotate_left
 · have HE : Hid (KT n m n' m' St Fi Ed St' Fi' Ed' = false) := A0 (decide_eq_false fun h => e1 h.2.1)
   have k1 : (m != m') = true := by simpa using e1
   clear e0 e1
   go_enter func14, ntmps14
   go_wp2_with fail
   refine bodyPost_ret (results_tmp rfl _ _ _) rfl ?_
   exact ⟨by rw [HE.out]; rfl, HD.out.1⟩
 have k1 : (m != m') = false := by simpa using e1
 rcases Classical.em (St = St') with e2 | e2
 rotate_left
 · have HE : Hid (KT n m n' m' St Fi Ed St' Fi' Ed' = false) := A0 (decide_eq_false fun h => e2 h.2.2.1)
   rw [decide_eq_false e2] at TS
   clear e0 e1 e2
   go_enter func14, ntmps14
   go_wp2_with (first
    | (go_at_call_of 26 a1; refine (TS.out _ (Below.refl _ _)).mono ?_; rintro e w1 ⟨rfl, q1⟩; have H1 := A0 q1; clear q1 y0 y1 y2 y3 y4 z0 z1 z2 z3 z4; have ⟨⟨y0, y1, y2, y3, y4⟩, z0, z1, z2, z3, z4⟩ := SK.out w1 (H1.out)))
   refine bodyPost_ret (results_tmp rfl _ _ _) rfl ?_
   exact ⟨by rw [HE.out]; rfl, HD.out.1.trans (H1.out.mono HD.out.1.size)⟩
 rw [decide_eq_true e2] at TS
 rcases Classical.em (Fi = Fi') with e3 | e3
 rotate_left
 · have HE : Hid (KT n m n' m' St Fi Ed St' Fi' Ed' = false) := A0 (decide_eq_false fun h => e3 h.2.2.2.1)
   rw [decide_eq_false e3] at TF
   clear e0 e1 e2 e3
   go_enter func14, ntmps14
   go_wp2_with (first
    | (go_at_call_of 26 a1; refine (TS.out _ (Below.refl _ _)).mono ?_; rintro e w1 ⟨rfl, q1⟩; have H1 := A0 q1; clear q1 y0 y1 y2 y3 y4 z0 z1 z2 z3 z4; have ⟨⟨y0, y1, y2, y3, y4⟩, z0, z1, z2, z3, z4⟩ := SK.out w1 (H1.out))
    | (go_at_call_of 26 a2; refine (TF.out w1 H1.out).mono ?_; rintro e w2 ⟨rfl, q2⟩; have H2 := A0 (H1.out.trans (q2.mono H1.out.size)); clear q2 y0 y1 y2 y3 y4 z0 z1 z2 z3 z4; have ⟨⟨y0, y1, y2, y3, y4⟩, z0, z1, z2, z3, z4⟩ := SK.out w2 (H2.out)))
   refine bodyPost_ret (results_tmp rfl _ _ _) rfl ?_
   exact ⟨by rw [HE.out]; rfl, HD.out.1.trans (H2.out.mono HD.out.1.size)⟩
 rw [decide_eq_true e3] at TF
 rcases Classical.em (Ed.length = Ed'.length) with e4 | e4
 rotate_left
 · have HE : Hid (KT n m n' m' St Fi Ed St' Fi' Ed' = false) := A0 (decide_eq_false fun h => e4 (by rw [h.2.2.2.2]))
   have k4 : ((Ed.length : Int) != (Ed'.length : Int)) = true := by simp; omega
   clear e0 e1 e2 e3 e4
   go_enter func14, ntmps14
   go_wp2_with (first
    | (go_at_call_of 26 a1; refine (TS.out _ (Below.refl _ _)).mono ?_; rintro e w1 ⟨rfl, q1⟩; have H1 := A0 q1; clear q1 y0 y1 y2 y3 y4 z0 z1 z2 z3 z4; have ⟨⟨y0, y1, y2, y3, y4⟩, z0, z1, z2, z3, z4⟩ := SK.out w1 (H1.out))
    | (go_at_call_of 26 a2; refine (TF.out w1 H1.out).mono ?_; rintro e w2 ⟨rfl, q2⟩; have H2 := A0 (H1.out.trans (q2.mono H1.out.size)); clear q2 y0 y1 y2 y3 y4 z0 z1 z2 z3 z4; have ⟨⟨y0, y1, y2, y3, y4⟩, z0, z1, z2, z3, z4⟩ := SK.out w2 (H2.out)))
   refine bodyPost_ret (results_tmp rfl _ _ _) rfl ?_
   exact ⟨by rw [HE.out]; rfl, HD.out.1.trans (H2.out.mono HD.out.1.size)⟩
 have k4 : ((Ed.length : Int) != (Ed'.length : Int)) = false := by simp; omega
 have HEQ : Hid (Ed = Ed' → KT n m n' m' St Fi Ed St' Fi' Ed' = true) := A0 (fun h => decide_eq_true ⟨e0, e1, e2, e3, h⟩)
 have HLE := A0 e4
 clear e0 e1 e2 e3 e4
 go_enter func14, ntmps14
 go_wp2_with (first
  | (go_at_call_of 26 a1; refine (TS.out _ (Below.refl _ _)).mono ?_; rintro e w1 ⟨rfl, q1⟩; have H1 := A0 q1; clear q1 y0 y1 y2 y3 y4 z0 z1 z2 z3 z4; have ⟨⟨y0, y1, y2, y3, y4⟩, z0, z1, z2, z3, z4⟩ := SK.out w1 (H1.out))
  | (go_at_call_of 26 a2; refine (TF.out w1 H1.out).mono ?_; rintro e w2 ⟨rfl, q2⟩; have H2 := A0 (H1.out.trans (q2.mono H1.out.size)); clear q2 y0 y1 y2 y3 y4 z0 z1 z2 z3 z4; have ⟨⟨y0, y1, y2, y3, y4⟩, z0, z1, z2, z3, z4⟩ := SK.out w2 (H2.out)))
 clear y0 y1 y2 y3 y4 z0 z1 z2 z3 z4 H1 TS TF hW0
 go_loopw [5] (fun iv wr => ∃ i : Nat, i ≤ Ed.length ∧ iv = .int .i64 i ∧ Hid (Below W0.heap.size W0 wr ∧ ∀ t (h : t < Ed.length) (h' : t < Ed'.length), t < i → Ed[t] = Ed'[t])) (fun iv _ => Ed.length - (intOf iv).toNat)
 case atStart => exact ⟨0, Nat.zero_le _, rfl, A0 ⟨H2.out, fun t _ _ h => by omega⟩⟩
 case round =>
  obtain ⟨i, hi, rfl, HY⟩ := hrel
  obtain ⟨⟨y0, y1, y2, y3, y4⟩, z0, z1, z2, z3, z4⟩ := SK.out wr (HY.out.1)
  have HDW := A0 (HD.out.1.trans (HY.out.1.mono HD.out.1.size))
  by_cases hlt : i < Ed.length
  · have i0 : (i : Int) < (Ed.length : Int) := by omega
    have i1 : (0 : Int) ≤ (i : Int) := by omega
    have hlt' : i < Ed'.length := by have := HLE.out; omega
    have i2 : (i : Int) < (Ed'.length : Int) := by omega
    have iw : IntKind.i64.wrap ((i : Int) + 1) = (i : Int) + 1 := by rw [IntKind.wrap_i64]; omega
    obtain ⟨g, o, hao, q0, q1, q2⟩ := (hA.out.e.on HDW.out) i hlt
    obtain ⟨g', o', hbo, r0, r1, r2⟩ := (hB.out.e.on HDW.out) i hlt'
    subst hao hbo
    have HNE : Hid (Ed[i] ≠ Ed'[i] → KT n m n' m' St Fi Ed St' Fi' Ed' = false) := A0 (fun h => decide_eq_false fun k => h (by simp only [k.2.2.2.2]))
    have HNX : Hid (Ed[i] = Ed'[i] → ∀ t (h : t < Ed.length) (h' : t < Ed'.length), t < i + 1 → Ed[t] = Ed'[t]) := A0 (fun he t h h' ht => by
     rcases Nat.lt_or_ge t i with h3 | h3
     · exact HY.out.2 t h h' h3
     · obtain rfl : t = i := by omega
       exact he)
    generalize Ed[i] = u at q0 q1 q2 HNE HNX
    generalize Ed'[i] = v at r0 r1 r2 HNE HNX
    obtain ⟨u1, u2, u3⟩ := u
    obtain ⟨v1, v2, v3⟩ := v
    simp only at q0 q1 q2 r0 r1 r2
    clear hlt'
    by_cases f1 : u1 = v1
    · by_cases f2 : u2 = v2
      · by_cases f3 : u3 = v3
        · have HN := A0 (HNX.out (by rw [f1, f2, f3]))
          subst f1 f2 f3
          clear HNE HNX
          go_upto_region 6 with fail
          refine Al 10 #[true, true, true, true, true, true, true, true, true, true, false] (by kernel_rfl) (by kernel_rfl) ?_
          simp only [List.take_succ_cons, List.take_zero, List.drop_succ_cons, List.drop_zero]
          repeat (go_big_quiet_step (fail))
          refine wpQuiet_nil ?_
          intro wz hzz
          obtain ⟨nq, rfl⟩ := hzz
          go_wp2_with fail
          go_roundw
          case rel => exact ⟨i + 1, by omega, by go_num, A0 ⟨Au HY.out.1 nq, HN.out⟩⟩
          case measure => simp [intOf]; omega
        · have HE := A0 (HNE.out (by intro h; cases h; exact f3 rfl))
          have p1 : (u1 == v1) = true := by simpa using f1
          have p2 : (u2 == v2) = true := by simpa using f2
          have p3 : (u3 == v3) = false := by simpa using f3
          clear f1 f2 f3 HNE HNX
          go_upto_region 6 with fail
          refine Al 10 #[true, true, true, true, true, true, true, true, true, true, false] (by kernel_rfl) (by kernel_rfl) ?_
          simp only [List.take_succ_cons, List.take_zero, List.drop_succ_cons, List.drop_zero]
          repeat (go_big_quiet_step (fail))
          refine wpQuiet_nil ?_
          intro wz hzz
          obtain ⟨nq, rfl⟩ := hzz
          go_wp2_with fail
          refine bodyPost_ret (results_tmp rfl _ _ _) rfl ?_
          exact ⟨by rw [HE.out]; rfl, Au HDW.out nq⟩
      · have HE := A0 (HNE.out (by intro h; cases h; exact f2 rfl))
        have p1 : (u1 == v1) = true := by simpa using f1
        have p2 : (u2 == v2) = false := by simpa using f2
        clear f1 f2 HNE HNX
        go_upto_region 6 with fail
        refine Al 10 #[true, true, true, true, true, true, true, true, true, true, false] (by kernel_rfl) (by kernel_rfl) ?_
        simp only [List.take_succ_cons, List.take_zero, List.drop_succ_cons, List.drop_zero]
        repeat (go_big_quiet_step (fail))
        refine wpQuiet_nil ?_
        intro wz hzz
        obtain ⟨nq, rfl⟩ := hzz
        go_wp2_with fail
        refine bodyPost_ret (results_tmp rfl _ _ _) rfl ?_
        exact ⟨by rw [HE.out]; rfl, Au HDW.out nq⟩
    · have HE := A0 (HNE.out (by intro h; cases h; exact f1 rfl))
      have p1 : (u1 == v1) = false := by simpa using f1
      clear f1 HNE HNX
      go_upto_region 6 with fail
      refine Al 10 #[true, true, true, true, true, true, true, true, true, true, false] (by kernel_rfl) (by kernel_rfl) ?_
      simp only [List.take_succ_cons, List.take_zero, List.drop_succ_cons, List.drop_zero]
      repeat (go_big_quiet_step (fail))
      refine wpQuiet_nil ?_
      intro wz hzz
      obtain ⟨nq, rfl⟩ := hzz
      go_wp2_with fail
      refine bodyPost_ret (results_tmp rfl _ _ _) rfl ?_
      exact ⟨by rw [HE.out]; rfl, Au HDW.out nq⟩
  · have i0 : ¬ (i : Int) < (Ed.length : Int) := by omega
    have HE := A0 (HEQ.out (List.ext_getElem HLE.out fun t h h' => HY.out.2 t h h' (by omega)))
    go_wp2_with fail
    refine bodyPost_ret (results_tmp rfl _ _ _) rfl ?_
    exact ⟨by rw [HE.out]; rfl, HDW.out⟩
end Go.Proofs.YtchoopnjckcohaaGreat
