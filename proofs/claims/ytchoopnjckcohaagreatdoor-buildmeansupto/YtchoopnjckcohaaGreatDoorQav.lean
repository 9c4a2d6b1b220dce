import Derived.Test.YtchoopnjckcohaaGreatDoorQau
set_option maxRecDepth 100000
set_option maxHeartbeats 40000000
namespace Go.Proofs.YtchoopnjckcohaaGreatDoor
open Go.RowKit Go.Maps Go.Shelf
attribute [local go_sem] Oper.semAt_some
def MeO (w : World) (R : List PrT → List Int → List Int → List EdT → Prop) (m : Int) (e : Ending) (w' : World) : Prop := ∃ (n mm er : Int) (ps : List PrT) (S F : List Int) (E : List EdT) (x1 : Option Addr) (y1 : Nat) (x2 : Option Addr) (y2 : Nat) (x3 : Option Addr) (y3 : Nat) (xp : Option Addr) (yp : Nat), e = .returned (.tuple #[.agg #[.int .i64 n, .int .i64 mm, .slice x1 S.length y1, .slice x2 F.length y2, .slice x3 E.length y3], .slice xp ps.length yp, .int .i64 er]) ∧ Hid (OwnO w.heap.size w' (.slice x1 S.length y1) (.slice x2 F.length y2) (.slice x3 E.length y3) S F E ∧ (er ≠ 0 ∨ (er = 0 ∧ n = (ps.length : Int) ∧ mm = m ∧ S.length ≤ 4096 ∧ F.length ≤ 4096 ∧ E.length ≤ 65536 ∧ R ps S F E))) ∧ Below w.heap.size w w'
theorem meO_bad {w w' : World} {R : List PrT → List Int → List Int → List EdT → Prop} {m er : Int} {e : Ending} (h : er ≠ 0) (he : e = .returned (.tuple #[.agg #[.int .i64 0, .int .i64 0, .slice none 0 0, .slice none 0 0, .slice none 0 0], .slice none 0 0, .int .i64 er])) (d : Below w.heap.size w w') : MeO w R m e w' :=
 ⟨0, 0, er, [], [], [], [], none, 0, none, 0, none, 0, none, 0, he, hide ⟨⟨⟨rfl, .inl ⟨rfl, rfl⟩⟩, ⟨rfl, .inl ⟨rfl, rfl⟩⟩, ⟨rfl, .inl ⟨rfl, rfl⟩⟩, fun g q => by cases q⟩, .inl h⟩, d⟩
theorem paired_a (w : World) (n m n' m' bud0 : Int) (a1 a2 a3 b1 b2 b3 : Option Addr) (c1 c2 c3 d1 d2 d3 : Nat) (Sa Fa Sb Fb : List Int) (Ea Eb : List EdT) (hA : Hid (RdA w a1 a2 a3 Sa Fa Ea)) (hB : Hid (RdA w b1 b2 b3 Sb Fb Eb)) (h1 : Sa.length ≤ 2000000) (h2 : Fa.length ≤ 2000000) (h3 : Ea.length ≤ 2000000) (h4 : Sb.length ≤ 2000000) (h5 : Fb.length ≤ 2000000) (h6 : Eb.length ≤ 2000000) (R : List PrT → List Int → List Int → List EdT → Prop) (em : mayA n m Sa Fa Ea = false) :
 Calls Tryz.prog 57 #[.agg #[.int .i64 n, .int .i64 m, .slice a1 Sa.length c1, .slice a2 Fa.length c2, .slice a3 Ea.length c3], .agg #[.int .i64 n', .int .i64 m', .slice b1 Sb.length d1, .slice b2 Fb.length d2, .slice b3 Eb.length d3], .int .i64 bud0, .func (.func 58) #[] #[]] w (MeO w R m) := by
 obtain ⟨W0, hW0⟩ : ∃ W0, ((w.alloc (.cells #[.int .i64 n, .int .i64 m, .slice a1 Sa.length c1, .slice a2 Fa.length c2, .slice a3 Ea.length c3] 25)).alloc (.cells #[.int .i64 n', .int .i64 m', .slice b1 Sb.length d1, .slice b2 Fb.length d2, .slice b3 Eb.length d3] 25)).alloc (.cells #[.int .i64 0, .int .i64 0, .slice none 0 0, .slice none 0 0, .slice none 0 0] 25) = W0 := ⟨_, rfl⟩
 have HD := hide (box3b w #[.int .i64 n, .int .i64 m, .slice a1 Sa.length c1, .slice a2 Fa.length c2, .slice a3 Ea.length c3] #[.int .i64 n', .int .i64 m', .slice b1 Sb.length d1, .slice b2 Fb.length d2, .slice b3 Eb.length d3] #[.int .i64 0, .int .i64 0, .slice none 0 0, .slice none 0 0, .slice none 0 0] 25)
 rw [hW0] at HD
 have TB := both_a W0 n m n' m' a1 a2 a3 b1 b2 b3 c1 c2 c3 d1 d2 d3 Sa Fa Sb Fb Ea Eb (hide (hA.out.on HD.out.1)) (hide (hB.out.on HD.out.1)) (by omega) (by omega) (by omega) (by omega) (by omega) (by omega) em
 obtain ⟨y0, y1, y2, y3, y4⟩ := zd5 HD.out.2.1 rfl rfl rfl rfl rfl
 obtain ⟨x0, x1, x2, x3, x4⟩ := zd5 HD.out.2.2.1 rfl rfl rfl rfl rfl
 go_enter Tryz.func57, Tryz.ntmps57
 go_upto_region 3 with (go_at_call 55; refine TB.mono ?_; rintro e w1 ⟨rfl, D1⟩; have H1 := hide D1; clear D1)
 clear TB y0 x0 y1 x1 y2 x2 y3 x3 y4 x4
 obtain ⟨W1, hW1⟩ : ∃ W1, (w1.alloc (.cells #[.int .i64 0, .int .i64 0, .slice none 0 0, .slice none 0 0, .slice none 0 0] 25)).alloc (.cells #[.int .i64 0, .int .i64 0, .slice none 0 0, .slice none 0 0, .slice none 0 0] 25) = W1 := ⟨_, rfl⟩
 have HW : Hid (W1.heap[w.heap.size + 1 + 1]? = some (.cells #[.int .i64 0, .int .i64 0, .slice none 0 0, .slice none 0 0, .slice none 0 0] 25 (0, 0)) ∧ w.heap.size + 3 ≤ W1.heap.size ∧ Below w.heap.size w W1) := hide (by
  have q := box2 w1 #[.int .i64 0, .int .i64 0, .slice none 0 0, .slice none 0 0, .slice none 0 0] #[.int .i64 0, .int .i64 0, .slice none 0 0, .slice none 0 0, .slice none 0 0] 25
  rw [hW1] at q
  have s := HD.out.2.2.2.2
  have d2 := H1.out.trans (q.1.mono H1.out.size)
  exact ⟨blk_on HD.out.2.2.2.1 d2, by have := d2.size; omega, HD.out.1.trans (d2.mono HD.out.1.size)⟩)
 rw [hW1]
 clear hW1 H1
 have F4 := HW.out.1
 obtain ⟨o0, o1, o2, o3, o4⟩ := zd5 F4 rfl rfl rfl rfl rfl
 have fz0 : W1.frozen? ⟨w.heap.size + 1 + 1, 0, none⟩ = false := fz_of F4
 have fz1 : W1.frozen? ⟨w.heap.size + 1 + 1, 1, none⟩ = false := fz_of F4
 have fz2 : W1.frozen? ⟨w.heap.size + 1 + 1, 2, none⟩ = false := fz_of F4
 have fz3 : W1.frozen? ⟨w.heap.size + 1 + 1, 3, none⟩ = false := fz_of F4
 have fz4 : W1.frozen? ⟨w.heap.size + 1 + 1, 4, none⟩ = false := fz_of F4
 have O6 := hide (And.intro (set5 W1 (w.heap.size + 1 + 1) _ _ _ _ _ (.int .i64 0) (.int .i64 0) (.slice none 0 0) (.slice none 0 0) (.slice none 0 0) 25 F4) (only5 W1 (w.heap.size + 1 + 1) (.int .i64 0) (.int .i64 0) (.slice none 0 0) (.slice none 0 0) (.slice none 0 0)))
 clear F4
 go_wp2_with fail
 refine bodyPost_ret (results_c3 (p := 8) (q := 9) (r := 10) (ty := 25) rfl _ _ (w.heap.size + 1 + 1) 25 _ (0, 0) _ _ _ rfl rfl rfl O6.out.1 Tryz.underlying25 rfl (by kernel_rfl)) rfl ?_
 have s2 := HW.out.2.1
 exact meO_bad (by decide) rfl (HW.out.2.2.trans (O6.out.2.toBelow (by omega) (fun k hk => by omega)))
theorem paired_b (w : World) (n m n' m' bud0 : Int) (a1 a2 a3 b1 b2 b3 : Option Addr) (c1 c2 c3 d1 d2 d3 : Nat) (Sa Fa Sb Fb : List Int) (Ea Eb : List EdT) (hA : Hid (RdA w a1 a2 a3 Sa Fa Ea)) (hB : Hid (RdA w b1 b2 b3 Sb Fb Eb)) (h1 : Sa.length ≤ 2000000) (h2 : Fa.length ≤ 2000000) (h3 : Ea.length ≤ 2000000) (h4 : Sb.length ≤ 2000000) (h5 : Fb.length ≤ 2000000) (h6 : Eb.length ≤ 2000000) (R : List PrT → List Int → List Int → List EdT → Prop) (em : mayA n m Sa Fa Ea = true) (em' : mayA n' m' Sb Fb Eb = false) :
 Calls Tryz.prog 57 #[.agg #[.int .i64 n, .int .i64 m, .slice a1 Sa.length c1, .slice a2 Fa.length c2, .slice a3 Ea.length c3], .agg #[.int .i64 n', .int .i64 m', .slice b1 Sb.length d1, .slice b2 Fb.length d2, .slice b3 Eb.length d3], .int .i64 bud0, .func (.func 58) #[] #[]] w (MeO w R m) := by
 obtain ⟨W0, hW0⟩ : ∃ W0, ((w.alloc (.cells #[.int .i64 n, .int .i64 m, .slice a1 Sa.length c1, .slice a2 Fa.length c2, .slice a3 Ea.length c3] 25)).alloc (.cells #[.int .i64 n', .int .i64 m', .slice b1 Sb.length d1, .slice b2 Fb.length d2, .slice b3 Eb.length d3] 25)).alloc (.cells #[.int .i64 0, .int .i64 0, .slice none 0 0, .slice none 0 0, .slice none 0 0] 25) = W0 := ⟨_, rfl⟩
 have HD := hide (box3b w #[.int .i64 n, .int .i64 m, .slice a1 Sa.length c1, .slice a2 Fa.length c2, .slice a3 Ea.length c3] #[.int .i64 n', .int .i64 m', .slice b1 Sb.length d1, .slice b2 Fb.length d2, .slice b3 Eb.length d3] #[.int .i64 0, .int .i64 0, .slice none 0 0, .slice none 0 0, .slice none 0 0] 25)
 rw [hW0] at HD
 have TB := both_b W0 n m n' m' a1 a2 a3 b1 b2 b3 c1 c2 c3 d1 d2 d3 Sa Fa Sb Fb Ea Eb (hide (hA.out.on HD.out.1)) (hide (hB.out.on HD.out.1)) (by omega) (by omega) (by omega) (by omega) (by omega) (by omega) em em'
 obtain ⟨y0, y1, y2, y3, y4⟩ := zd5 HD.out.2.1 rfl rfl rfl rfl rfl
 obtain ⟨x0, x1, x2, x3, x4⟩ := zd5 HD.out.2.2.1 rfl rfl rfl rfl rfl
 go_enter Tryz.func57, Tryz.ntmps57
 go_upto_region 3 with (go_at_call 55; refine TB.mono ?_; rintro e w1 ⟨rfl, D1⟩; have H1 := hide D1; clear D1)
 clear TB y0 x0 y1 x1 y2 x2 y3 x3 y4 x4
 obtain ⟨W1, hW1⟩ : ∃ W1, (w1.alloc (.cells #[.int .i64 0, .int .i64 0, .slice none 0 0, .slice none 0 0, .slice none 0 0] 25)).alloc (.cells #[.int .i64 0, .int .i64 0, .slice none 0 0, .slice none 0 0, .slice none 0 0] 25) = W1 := ⟨_, rfl⟩
 have HW : Hid (W1.heap[w.heap.size + 1 + 1]? = some (.cells #[.int .i64 0, .int .i64 0, .slice none 0 0, .slice none 0 0, .slice none 0 0] 25 (0, 0)) ∧ w.heap.size + 3 ≤ W1.heap.size ∧ Below w.heap.size w W1) := hide (by
  have q := box2 w1 #[.int .i64 0, .int .i64 0, .slice none 0 0, .slice none 0 0, .slice none 0 0] #[.int .i64 0, .int .i64 0, .slice none 0 0, .slice none 0 0, .slice none 0 0] 25
  rw [hW1] at q
  have s := HD.out.2.2.2.2
  have d2 := H1.out.trans (q.1.mono H1.out.size)
  exact ⟨blk_on HD.out.2.2.2.1 d2, by have := d2.size; omega, HD.out.1.trans (d2.mono HD.out.1.size)⟩)
 rw [hW1]
 clear hW1 H1
 have F4 := HW.out.1
 obtain ⟨o0, o1, o2, o3, o4⟩ := zd5 F4 rfl rfl rfl rfl rfl
 have fz0 : W1.frozen? ⟨w.heap.size + 1 + 1, 0, none⟩ = false := fz_of F4
 have fz1 : W1.frozen? ⟨w.heap.size + 1 + 1, 1, none⟩ = false := fz_of F4
 have fz2 : W1.frozen? ⟨w.heap.size + 1 + 1, 2, none⟩ = false := fz_of F4
 have fz3 : W1.frozen? ⟨w.heap.size + 1 + 1, 3, none⟩ = false := fz_of F4
 have fz4 : W1.frozen? ⟨w.heap.size + 1 + 1, 4, none⟩ = false := fz_of F4
 have O6 := hide (And.intro (set5 W1 (w.heap.size + 1 + 1) _ _ _ _ _ (.int .i64 0) (.int .i64 0) (.slice none 0 0) (.slice none 0 0) (.slice none 0 0) 25 F4) (only5 W1 (w.heap.size + 1 + 1) (.int .i64 0) (.int .i64 0) (.slice none 0 0) (.slice none 0 0) (.slice none 0 0)))
 clear F4
 go_wp2_with fail
 refine bodyPost_ret (results_c3 (p := 8) (q := 9) (r := 10) (ty := 25) rfl _ _ (w.heap.size + 1 + 1) 25 _ (0, 0) _ _ _ rfl rfl rfl O6.out.1 Tryz.underlying25 rfl (by kernel_rfl)) rfl ?_
 have s2 := HW.out.2.1
 exact meO_bad (by decide) rfl (HW.out.2.2.trans (O6.out.2.toBelow (by omega) (fun k hk => by omega)))
theorem paired_m (w : World) (n m n' m' bud0 : Int) (a1 a2 a3 b1 b2 b3 : Option Addr) (c1 c2 c3 d1 d2 d3 : Nat) (Sa Fa Sb Fb : List Int) (Ea Eb : List EdT) (hA : Hid (RdA w a1 a2 a3 Sa Fa Ea)) (hB : Hid (RdA w b1 b2 b3 Sb Fb Eb)) (h1 : Sa.length ≤ 2000000) (h2 : Fa.length ≤ 2000000) (h3 : Ea.length ≤ 2000000) (h4 : Sb.length ≤ 2000000) (h5 : Fb.length ≤ 2000000) (h6 : Eb.length ≤ 2000000) (R : List PrT → List Int → List Int → List EdT → Prop) (em : mayA n m Sa Fa Ea = true) (em' : mayA n' m' Sb Fb Eb = true) (hm : m ≠ m') :
 Calls Tryz.prog 57 #[.agg #[.int .i64 n, .int .i64 m, .slice a1 Sa.length c1, .slice a2 Fa.length c2, .slice a3 Ea.length c3], .agg #[.int .i64 n', .int .i64 m', .slice b1 Sb.length d1, .slice b2 Fb.length d2, .slice b3 Eb.length d3], .int .i64 bud0, .func (.func 58) #[] #[]] w (MeO w R m) := by
 obtain ⟨W0, hW0⟩ : ∃ W0, ((w.alloc (.cells #[.int .i64 n, .int .i64 m, .slice a1 Sa.length c1, .slice a2 Fa.length c2, .slice a3 Ea.length c3] 25)).alloc (.cells #[.int .i64 n', .int .i64 m', .slice b1 Sb.length d1, .slice b2 Fb.length d2, .slice b3 Eb.length d3] 25)).alloc (.cells #[.int .i64 0, .int .i64 0, .slice none 0 0, .slice none 0 0, .slice none 0 0] 25) = W0 := ⟨_, rfl⟩
 have HD := hide (box3b w #[.int .i64 n, .int .i64 m, .slice a1 Sa.length c1, .slice a2 Fa.length c2, .slice a3 Ea.length c3] #[.int .i64 n', .int .i64 m', .slice b1 Sb.length d1, .slice b2 Fb.length d2, .slice b3 Eb.length d3] #[.int .i64 0, .int .i64 0, .slice none 0 0, .slice none 0 0, .slice none 0 0] 25)
 rw [hW0] at HD
 have TB := both_m W0 n m n' m' a1 a2 a3 b1 b2 b3 c1 c2 c3 d1 d2 d3 Sa Fa Sb Fb Ea Eb (hide (hA.out.on HD.out.1)) (hide (hB.out.on HD.out.1)) (by omega) (by omega) (by omega) (by omega) (by omega) (by omega) em em' hm
 obtain ⟨y0, y1, y2, y3, y4⟩ := zd5 HD.out.2.1 rfl rfl rfl rfl rfl
 obtain ⟨x0, x1, x2, x3, x4⟩ := zd5 HD.out.2.2.1 rfl rfl rfl rfl rfl
 go_enter Tryz.func57, Tryz.ntmps57
 go_upto_region 3 with (go_at_call 55; refine TB.mono ?_; rintro e w1 ⟨rfl, D1⟩; have H1 := hide D1; clear D1)
 clear TB y0 x0 y1 x1 y2 x2 y3 x3 y4 x4
 obtain ⟨W1, hW1⟩ : ∃ W1, (w1.alloc (.cells #[.int .i64 0, .int .i64 0, .slice none 0 0, .slice none 0 0, .slice none 0 0] 25)).alloc (.cells #[.int .i64 0, .int .i64 0, .slice none 0 0, .slice none 0 0, .slice none 0 0] 25) = W1 := ⟨_, rfl⟩
 have HW : Hid (W1.heap[w.heap.size + 1 + 1]? = some (.cells #[.int .i64 0, .int .i64 0, .slice none 0 0, .slice none 0 0, .slice none 0 0] 25 (0, 0)) ∧ w.heap.size + 3 ≤ W1.heap.size ∧ Below w.heap.size w W1) := hide (by
  have q := box2 w1 #[.int .i64 0, .int .i64 0, .slice none 0 0, .slice none 0 0, .slice none 0 0] #[.int .i64 0, .int .i64 0, .slice none 0 0, .slice none 0 0, .slice none 0 0] 25
  rw [hW1] at q
  have s := HD.out.2.2.2.2
  have d2 := H1.out.trans (q.1.mono H1.out.size)
  exact ⟨blk_on HD.out.2.2.2.1 d2, by have := d2.size; omega, HD.out.1.trans (d2.mono HD.out.1.size)⟩)
 rw [hW1]
 clear hW1 H1
 have F4 := HW.out.1
 obtain ⟨o0, o1, o2, o3, o4⟩ := zd5 F4 rfl rfl rfl rfl rfl
 have fz0 : W1.frozen? ⟨w.heap.size + 1 + 1, 0, none⟩ = false := fz_of F4
 have fz1 : W1.frozen? ⟨w.heap.size + 1 + 1, 1, none⟩ = false := fz_of F4
 have fz2 : W1.frozen? ⟨w.heap.size + 1 + 1, 2, none⟩ = false := fz_of F4
 have fz3 : W1.frozen? ⟨w.heap.size + 1 + 1, 3, none⟩ = false := fz_of F4
 have fz4 : W1.frozen? ⟨w.heap.size + 1 + 1, 4, none⟩ = false := fz_of F4
 have O6 := hide (And.intro (set5 W1 (w.heap.size + 1 + 1) _ _ _ _ _ (.int .i64 0) (.int .i64 0) (.slice none 0 0) (.slice none 0 0) (.slice none 0 0) 25 F4) (only5 W1 (w.heap.size + 1 + 1) (.int .i64 0) (.int .i64 0) (.slice none 0 0) (.slice none 0 0) (.slice none 0 0)))
 clear F4
 go_wp2_with fail
 refine bodyPost_ret (results_c3 (p := 8) (q := 9) (r := 10) (ty := 25) rfl _ _ (w.heap.size + 1 + 1) 25 _ (0, 0) _ _ _ rfl rfl rfl O6.out.1 Tryz.underlying25 rfl (by kernel_rfl)) rfl ?_
 have s2 := HW.out.2.1
 exact meO_bad (by decide) rfl (HW.out.2.2.trans (O6.out.2.toBelow (by omega) (fun k hk => by omega)))
end Go.Proofs.YtchoopnjckcohaaGreatDoor
namespace Go.Proofs.YtchoopnjckcohaaGreatDoor
open Go.RowKit
section
variable {P : Program} {ops : Array Oper} {Q : Exit → Act → World → Prop}
def StpJ (J : Bool → World → Prop) (i0 : Nat) (b : Bool) (L : List It) (i : Nat) (y : Nat → Value) (W W' : World) : Prop := J (i == i0 || b) W' ∧ W.heap.size ≤ W'.heap.size ∧ ∀ j, j ≠ i → j ∉ (itL L i).ret → ∀ lo hi, hi ≤ W.heap.size → (itL L j).p y lo hi W → (itL L j).p y lo hi W'
theorem stpj_of {J : Bool → World → Prop} {i0 : Nat} {b : Bool} {L : List It} {i : Nat} {y : Nat → Value} {W W' : World} (hm : MonIL 0 L) (hj : J (i == i0 || b) W') (d1 : Below W.heap.size W W') : StpJ J i0 b L i y W W' :=
 ⟨hj, d1.size, fun j _ _ lo hi hs h => by
  have := MonIL.at L 0 j hm y y lo hi W W' hs d1 (fun _ _ => rfl)
  exact this h⟩
def HopK (P : Program) (ops : Array Oper) (Q : Exit → Act → World → Prop) (w : World) (J : Bool → World → Prop) (i0 : Nat) (fill : (Nat → Value) → Act) (L : List It) (i : Nat) (o : Oper) : Prop :=
 ∀ (y : Nat → Value) (W : World) (b : Bool), ((i == i0) = true → b = false) → J b W → w.heap.size ≤ W.heap.size → (∀ e ∈ o.after, Region.binds .any e = true → ndB e = true → ∃ lo hi, w.heap.size ≤ lo ∧ hi ≤ W.heap.size ∧ (itL L e.on).p y lo hi W) →
  ∀ K : Act → World → Prop, Shut (∀ x a' W', StpJ J i0 b L i y W W' → (itL L i).p (updV y i x) W.heap.size W'.heap.size W' → a' = fill (updV y i x) → K a' W') → if Region.wanted o (yielded ops (fill y).tmps) = true then Oper.wp P o (fill y) W K Q else K ((fill y).put o.dst undef) W
def HopsK (P : Program) (ops : Array Oper) (Q : Exit → Act → World → Prop) (w : World) (J : Bool → World → Prop) (i0 : Nat) (fill : (Nat → Value) → Act) (L : List It) : Nat → List Oper → Prop
 | _, [] => True
 | k, o :: r => HopK P ops Q w J i0 fill L k o ∧ HopsK P ops Q w J i0 fill L (k + 1) r
theorem HopsK.at {w : World} {J : Bool → World → Prop} {i0 : Nat} {fill : (Nat → Value) → Act} {L : List It} : ∀ (l : List Oper) (k i : Nat) (o : Oper), HopsK P ops Q w J i0 fill L k l → l[i]? = some o → HopK P ops Q w J i0 fill L (k + i) o
 | [], _, _, _, _, h => by simp at h
 | o' :: r, k, 0, o, H, h => by simp at h; subst h; exact H.1
 | o' :: r, k, i + 1, o, H, h => by
  have := HopsK.at r (k + 1) i o H.2 (by simpa using h)
  rwa [show k + 1 + i = k + (i + 1) by omega] at this
structure MadeJ (w : World) (J : Bool → World → Prop) (i0 : Nat) (L : List It) (ops : Array Oper) (n : Nat) (is : Nat → Bool) (y : Nat → Value) (lo hi : Nat → Nat) (W : World) : Prop where
 d : J (is i0) W
 sz : w.heap.size ≤ W.heap.size
 fact : ∀ i, i < n → is i = true → (∀ k, k < n → is k = true → i ∉ (itL L k).ret) → (itL L i).p y (lo i) (hi i) W
 at' : ∀ i, i < n → is i = true → w.heap.size ≤ lo i ∧ lo i ≤ hi i ∧ hi i ≤ W.heap.size
 apart : ∀ i j, i < n → j < n → is i = true → is j = true → i ≠ j → hi i ≤ lo j ∨ hi j ≤ lo i
 order : ∀ j o e, j < n → is j = true → ops[j]? = some o → e ∈ o.after → Region.binds .any e = true → hi e.on ≤ lo j
theorem stj_go {w : World} {J : Bool → World → Prop} {i0 : Nat} {fill : (Nat → Value) → Act} {L : List It} {n : Nat} {l2 : List Oper} {l1 : List Oper}
 (hi0 : i0 < n) (hp : phasedB .any ops n = true) (hdep : depsB ops n = true) (hret : retB ops n (L.map It.ret) (L.map It.reads) = true) (hl1 : ∀ j o, l1[j]? = some o ↔ (j < n ∧ ops[j]? = some o)) (hl2 : ∀ j o, l2[j]? = some o → ops[n + j]? = some o)
 (hline : ∀ listed : Array Bool, listed.size = ops.size → (∀ i, listed.getD i true = decide (i < n ∨ ops.size ≤ i)) → lineB .any ops l2.length n listed = true)
 (hmono : MonIL 0 L) (hop : HopsK P ops Q w J i0 fill L 0 l1)
 (hfin : ∀ y lo hi W, MadeJ w J i0 L ops n (fun _ => true) y lo hi W → wpList P ops Q l2 (fill y) W) :
 ∀ (m : Nat) (x : Nat) (listed : Array Bool) (y : Nat → Value) (lo hi : Nat → Nat) (W : World), listed.size = ops.size → (∀ i, n ≤ i → i < ops.size → listed.getD i true = false) → ClosedL .any ops listed → cntM (fun i => !listed.getD i true) n = m →
  MadeJ w J i0 L ops n (fun i => listed.getD i true) y lo hi W → wpAny P .any ops Q (l2.length + m + x) listed (fill y) W := by
 intro m
 induction m with
 | zero =>
  intro x listed y lo hi W hsz hge hc hcnt hM
  have hall : ∀ i, i < n → listed.getD i true = true := fun i hi => by
   have := cntM_zero n hcnt i hi
   simpa using this
  refine line_more x n listed (fill y) W hl2 (hline listed hsz ?_) (hfin y lo hi W ?_)
  · intro i
    rcases Nat.lt_or_ge i n with h | h
    · rw [hall i h]; simp [h]
    · rcases Nat.lt_or_ge i ops.size with h2 | h2
      · rw [hge i h h2]; symm; simp; omega
      · rw [show listed.getD i true = true by simp [Array.getElem?_eq_none (show listed.size ≤ i by omega)]]; symm; simp; omega
  · exact ⟨by have q := hM.d; simp only [hall i0 hi0] at q; exact q, hM.sz, fun i hi _ hr => hM.fact i hi (hall i hi) (fun k hk _ => hr k hk rfl), fun i hi _ => hM.at' i hi (hall i hi), fun i j hi hj _ _ h => hM.apart i j hi hj (hall i hi) (hall j hj) h, fun j o e hj _ ho he hb => hM.order j o e hj (hall j hj) ho he hb⟩
 | succ m ih =>
  intro x listed y lo hi W hsz hge hc hcnt hM
  obtain ⟨i9, hi9, hf0, hless⟩ := cntM_least (f := fun i => !listed.getD i true) n (by omega)
  have hun : listed.getD i9 true = false := by simpa using hf0
  obtain ⟨o0, ho0, hd0⟩ := depsB_at hdep hi9
  have hin : ∀ i, i < n → i < listed.size := fun i hi => by
   obtain ⟨o, ho, _⟩ := depsB_at hdep hi
   have := (Array.getElem?_eq_some_iff.1 ho).1
   omega
  have hready : i9 ∈ Region.ready .any ops listed := mem_ready.2 ⟨hun, o0, ho0, fun e he hb => by
   have h1 := hd0 e he hb
   have h2 := hless e.on h1
   have h3 : listed.getD e.on true = true := by simpa using h2
   have h4 := hin e.on (by omega)
   simpa [h4] using h3⟩
  rw [show l2.length + (m + 1) + x = (l2.length + m + x) + 1 by omega]
  refine ⟨fun h => (by rw [h] at hready; cases hready), fun j hj => ?_⟩
  have hjn : j < n := phased_lt hp hc hi9 hun hj
  obtain ⟨hjun, oj, hoj, hall⟩ := mem_ready.1 hj
  have H := HopsK.at l1 0 j oj hop ((hl1 j oj).2 ⟨hjn, hoj⟩)
  rw [Nat.zero_add] at H
  refine wpOp_step hoj (fun K' hK => H y W (listed.getD i0 true) (fun e => (eq_of_beq e) ▸ hjun) hM.d hM.sz (fun e he hb hnd => ?_) K' ?_)
  · have h1 := hall e he hb
    obtain ⟨o', ho', hd'⟩ := depsB_at hdep hjn
    rw [hoj] at ho'
    cases ho'
    have h2 := hd' e he hb
    have h3 := getD_to _ _ h1
    refine ⟨lo e.on, hi e.on, (hM.at' e.on (by omega) h3).1, (hM.at' e.on (by omega) h3).2.2, hM.fact e.on (by omega) h3 (fun k hk hlk hmem => ?_)⟩
    have hkj : j ≠ k := fun h => by rw [h] at hjun; rw [hjun] at hlk; cases hlk
    have := waits_listed hc (retB_at hret hk hjn hkj hmem hoj he hb hnd rfl) hlk
    rw [hjun] at this
    cases this
  · rintro v a' W' ⟨hD, hs2, hkeep⟩ hΦ rfl
    have hsj := hin j hjn
    have g1 : (listed.setIfInBounds j true).getD j true = true := by simp [hsj]
    refine hK _ _ ?_
    refine ih x (listed.setIfInBounds j true) (updV y j v) (fun i => if i = j then W.heap.size else lo i) (fun i => if i = j then W'.heap.size else hi i) W' (by simp [hsz]) (fun i h1 h2 => ?_) (hc.set hj) ?_ ?_
    · rw [getD_set_ne true (by omega)]; exact hge i h1 h2
    · have := cntM_drop (f := fun i => !listed.getD i true) (g := fun i => !(listed.setIfInBounds j true).getD i true) (j := j) (by simp only [hjun]; rfl) (by simp only [g1]; rfl) (fun i hi => by simp only [getD_set_ne true (Ne.symm hi)]) n hjn
      omega
    · have old : ∀ i, i ≠ j → (listed.setIfInBounds j true).getD i true = true → listed.getD i true = true := fun i h1 h2 => by rwa [getD_set_ne true (Ne.symm h1)] at h2
      have new : ∀ i, listed.getD i true = true → (listed.setIfInBounds j true).getD i true = true := fun i h => by
       by_cases e : j = i
       · subst e; exact g1
       · rwa [getD_set_ne true e]
      have hs := hM.sz
      refine ⟨?_, Nat.le_trans hs hs2, fun i hi h hr => ?_, fun i hi h => ?_, fun i k hi hk h1 h2 hne => ?_, fun k o e hk h1 ho he hb => ?_⟩
      · show J ((listed.setIfInBounds j true).getD i0 true) W'
        by_cases e : j = i0
        · subst e; rw [g1]; simpa using hD
        · rw [getD_set_ne true e]; rw [show (j == i0) = false by simpa using e, Bool.false_or] at hD; exact hD
      · by_cases e : i = j
        · subst e; simp only [if_pos]; exact hΦ
        · simp only [if_neg e]
          have hli := old i e h
          have h5 := hkeep i e (hr j hjn g1) _ _ (hM.at' i hi hli).2.2 (hM.fact i hi hli (fun k hk hlk => hr k hk (new k hlk)))
          have h6 := MonIL.at L 0 i hmono y (updV y j v) (lo i) _ W' W' (Nat.le_trans (hM.at' i hi hli).2.2 hs2) (Below.refl _ _) (fun q hq => by
           rw [Nat.zero_add] at hq
           have hne : q ≠ j := by
            rcases hq with hq | hq
            · rw [hq]; exact e
            · intro hqj
              have := waits_listed hc (readB_at hret hi hq) hli
              rw [hqj, hjun] at this
              cases this
           simp [updV, hne])
          exact h6 h5
      · by_cases e : i = j
        · subst e; simp only [if_pos]; exact ⟨hs, hs2, Nat.le_refl _⟩
        · simp only [if_neg e]; have := hM.at' i hi (old i e h); exact ⟨this.1, this.2.1, by omega⟩
      · by_cases e : i = j
        · have e2 : k ≠ j := fun h => hne (by rw [e, h])
          simp only [if_pos e, if_neg e2]
          exact Or.inr (hM.at' k hk (old k e2 h2)).2.2
        · by_cases e2 : k = j
          · simp only [if_neg e, if_pos e2]
            exact Or.inl (hM.at' i hi (old i e h1)).2.2
          · simp only [if_neg e, if_neg e2]
            exact hM.apart i k hi hk (old i e h1) (old k e2 h2) hne
      · obtain ⟨o', ho', hd'⟩ := depsB_at hdep hk
        rw [ho] at ho'
        cases ho'
        have hlt := hd' e he hb
        by_cases e1 : k = j
        · subst e1
          rw [hoj] at ho
          cases ho
          have h3 := getD_to _ _ (hall e he hb)
          have e2 : e.on ≠ k := by omega
          simp only [if_pos, if_neg e2]
          exact (hM.at' e.on (by omega) h3).2.2
        · have h4 := old k e1 h1
          have h5 := getD_to _ _ (hc k o ho h4 e he hb)
          have e2 : e.on ≠ j := fun h => by rw [h, hjun] at h5; cases h5
          simp only [if_neg e1, if_neg e2]
          exact hM.order k o e hk h4 ho he hb
theorem wp_region_stj {id : Nat} {a : Act} {w : World} {l : List Oper} (J : Bool → World → Prop) (i0 : Nat) (L : List It) (hi0 : Nat.blt i0 L.length = true) (hJ0 : J false (w.drewN 1)) (hm : P.follows .mixedOrders = true) (hB : stB l.toArray L.length (L.map It.ret) (L.map It.reads) = true) (hmono : MonIL 0 L)
 (h : ∀ F : (Nat → Value) → Act, F = (fun y => fills 0 (l.take L.length) y a) → HopsK P l.toArray Q w J i0 F L 0 (l.take L.length) ∧ ∀ y lo hi W, MadeJ w J i0 L l.toArray L.length (fun _ => true) y lo hi W → wpList P l.toArray Q (l.drop L.length) (F y) W) : (Code.region id l.toArray true).wp P Q a w := by
 unfold stB makeB at hB
 simp only [Bool.and_eq_true] at hB
 obtain ⟨⟨⟨⟨h0, h2⟩, h3⟩, h4⟩, h5⟩ := hB
 have hn : L.length ≤ l.length := by simpa using Nat.le_of_ble_eq_true h0
 refine wp_region_any hm ?_
 have hl2 : (l.drop L.length).length = l.toArray.size - L.length := by simp
 have F := stj_go (P := P) (Q := Q) (w := w) (J := J) (i0 := i0) (fill := fun y => fills 0 (l.take L.length) y a) (L := L) (n := L.length) (ops := l.toArray) (l1 := l.take L.length) (l2 := l.drop L.length) (by simpa using hi0) h2 h3 h5
  (fun j o => by
   rw [List.getElem?_take]
   split
   · rename_i h; simp [h]
   · rename_i h; constructor
     · intro h'; cases h'
     · intro h'; exact absurd h'.1 h)
  (fun j o ho => by rw [List.getElem?_drop] at ho; simpa using ho)
  (fun listed hs hg => by
   rw [hl2]
   have e : listed = Array.ofFn (n := l.toArray.size) fun i => decide (i.1 < L.length) := by
    refine Array.ext (by simp [hs]) (fun i h5 h6 => ?_)
    have := hg i
    simp only [Array.getElem_ofFn]
    have e1 : listed.getD i true = listed[i] := by simp [h5]
    rw [← e1, this]
    have : i < l.toArray.size := by omega
    by_cases h7 : i < L.length
    · simp [h7]
    · simp only [h7, false_or, decide_false, decide_eq_false_iff_not]; omega
   rw [e]; exact h4)
  hmono (h _ rfl).1 (h _ rfl).2 L.length 0 (Array.replicate l.toArray.size false) (firstY l a) (fun _ => 0) (fun _ => 0) (w.drewN 1) (by simp) (fun i h5 h6 => by simp at h6; simp [h6]) (closed_none _ _) ?_ ?_
 · have e : (l.drop L.length).length + L.length + 0 = l.toArray.size := by rw [hl2]; simp; omega
   rw [e, fills_self l a (l.take L.length) 0 (fun j o ho => by
    rw [List.getElem?_take] at ho
    split at ho
    · simpa using ho
    · cases ho)] at F
   exact F
 · have : ∀ k, k ≤ L.length → cntM (fun i => !(Array.replicate l.toArray.size false).getD i true) k = k := by
    intro k
    induction k with
    | zero => intro _; rfl
    | succ k ih =>
     intro hk
     have h5 : k < l.toArray.size := by simp; omega
     simp only [cntM]
     rw [ih (by omega)]
     have : (Array.replicate l.toArray.size false).getD k true = false := by simp at h5; simp [h5]
     simp only [this]; rfl
   exact this L.length (Nat.le_refl _)
 · have none : ∀ i, i < L.length → (Array.replicate l.toArray.size false).getD i true = true → False := fun i hi h => by
    have : i < l.length := by omega
    simp [this] at h
   have hi1 : i0 < l.length := by
    have : i0 < L.length := by simpa using hi0
    omega
   exact ⟨by simpa [hi1] using hJ0, Nat.le_refl _, fun i hi h => (none i hi h).elim, fun i hi h => (none i hi h).elim, fun i j hi _ h _ _ => (none i hi h).elim, fun j o e hj h _ _ _ => (none j hj h).elim⟩
theorem stpj_keeps {J : Bool → World → Prop} {i0 : Nat} {b : Bool} {L : List It} {i : Nat} {y : Nat → Value} {W W' : World} (rs : List Nat) (hr : (itL L i).ret = rs) (d : J (i == i0 || b) W') (hs : W.heap.size ≤ W'.heap.size) (h : Keeps y W W' (i :: rs) 0 L) : StpJ J i0 b L i y W W' := ⟨d, hs, fun j hj hn => Keeps.at L 0 j h (by rw [Nat.zero_add]; rw [hr] at hn; simp [hj, hn])⟩
def HopL (P : Program) (ops : Array Oper) (Q : Exit → Act → World → Prop) (w : World) (J : Bool → World → Prop) (i0 : Nat) (a : Act) (l : List Oper) (L : List It) (i : Nat) (o : Oper) : Prop :=
 ∀ (A : Act) (y : Nat → Value) (W : World) (b : Bool), (∀ (j : Nat) (o' : Oper) (d : Nat), l[j]? = some o' → o'.dst = some d → A.tmps.getD d undef = y j) → (∀ d, wrB d l = false → A.tmps.getD d undef = a.tmps.getD d undef) → ((i == i0) = true → b = false) → J b W → w.heap.size ≤ W.heap.size → (∀ e ∈ o.after, Region.binds .any e = true → ndB e = true → ∃ lo hi, w.heap.size ≤ lo ∧ hi ≤ W.heap.size ∧ (itL L e.on).p y lo hi W) →
  ∀ K : Act → World → Prop, Shut (∀ x W', StpJ J i0 b L i y W W' → (itL L i).p (updV y i x) W.heap.size W'.heap.size W' → K (A.put o.dst x) W') → if Region.wanted o (yielded ops A.tmps) = true then Oper.wp P o A W K Q else K (A.put o.dst undef) W
def HopsL (P : Program) (ops : Array Oper) (Q : Exit → Act → World → Prop) (w : World) (J : Bool → World → Prop) (i0 : Nat) (a : Act) (l : List Oper) (L : List It) : Nat → List Oper → Prop
 | _, [] => True
 | k, o :: r => HopL P ops Q w J i0 a l L k o ∧ HopsL P ops Q w J i0 a l L (k + 1) r
theorem hopsl_of {ops : Array Oper} {w : World} {J : Bool → World → Prop} {i0 : Nat} {a : Act} {l : List Oper} {L : List It} (hs : slotsB a.tmps.size l = true) (h1 : onceB l = true) : ∀ (r : List Oper) (k : Nat), (∀ j o, r[j]? = some o → l[k + j]? = some o) → HopsL P ops Q w J i0 a l L k r → HopsK P ops Q w J i0 (fun y => fills 0 l y a) L k r
 | [], _, _, _ => trivial
 | o :: r, k, hl, H => by
  refine ⟨fun y W b hb d hz hd K hK => ?_, hopsl_of hs h1 r (k + 1) (fun j o' ho => by have := hl (j + 1) o' (by simpa using ho); rwa [show k + 1 + j = k + (j + 1) by omega]) H.2⟩
  have hk : l[k]? = some o := hl 0 o rfl
  refine H.1 (fills 0 l y a) y W b (fun j o' d' hj hd' => ?_) (fun d' hd' => fills_other l 0 y a d' hd') hb d hz hd K (fun x W' hst hp => ?_)
  · have hlt : d' < a.tmps.size := by
     unfold slotsB at hs
     rw [List.all_eq_true] at hs
     have := hs o' (List.mem_of_getElem? hj)
     rw [hd'] at this
     simpa using this
    have := fills_at l 0 j y a o' d' h1 hj hd' hlt
    rwa [Nat.zero_add] at this
  · refine hK x _ W' hst hp ?_
    have := fills_upd l 0 k y a o x h1 hk
    rwa [Nat.zero_add] at this
theorem wp_region_sj {id : Nat} {a : Act} {w : World} {l : List Oper} (J : Bool → World → Prop) (i0 : Nat) (L : List It) (hi0 : Nat.blt i0 L.length = true) (hJ0 : J false (w.drewN 1)) (hm : P.follows .mixedOrders = true) (hB : stB l.toArray L.length (L.map It.ret) (L.map It.reads) = true) (hO : onceB (l.take L.length) = true) (hS : slotsB a.tmps.size (l.take L.length) = true) (hmono : MonIL 0 L)
 (hop : HopsL P l.toArray Q w J i0 a (l.take L.length) L 0 (l.take L.length))
 (hfin : ∀ y lo hi W, MadeJ w J i0 L l.toArray L.length (fun _ => true) y lo hi W → wpList P l.toArray Q (l.drop L.length) (fills 0 (l.take L.length) y a) W) : (Code.region id l.toArray true).wp P Q a w :=
 wp_region_stj J i0 L hi0 hJ0 hm hB hmono (fun F hF => by
  subst hF
  exact ⟨hopsl_of hS hO _ 0 (fun j o ho => by rwa [Nat.zero_add]) hop, hfin⟩)
end
end Go.Proofs.YtchoopnjckcohaaGreatDoor
