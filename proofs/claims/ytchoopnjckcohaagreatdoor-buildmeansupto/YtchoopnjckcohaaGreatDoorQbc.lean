import Derived.Test.YtchoopnjckcohaaGreatDoorBy
import Derived.Test.YtchoopnjckcohaaGreatDoorQbb
set_option maxRecDepth 100000
set_option maxHeartbeats 40000000
namespace Go.Proofs.YtchoopnjckcohaaGreatDoor
open Go.RowKit Go.Maps Go.Shelf
attribute [local go_sem] Oper.semAt_some
def behA (n m : Int) (SL FL : List Int) (Br Eb : List EdT) : Ans := if 65536 < Br.length + Eb.length then badA 8 else ⟨n, m, SL, FL, Br ++ Eb, 0⟩
theorem behind_ans (w : World) (N m n1 n2 n3 l1 l2 l3 : Nat) (n' m' : Int) (a1 a2 a3 b1 b2 b3 : Option Addr) (c1 c2 c3 d1 d2 d3 : Nat) (Sa Fa Sb Fb : List Int) (Ea Eb : List EdT) (en : Hid (Sa.length = n1 ∧ Fa.length = n2 ∧ Ea.length = n3 ∧ Sb.length = l1 ∧ Fb.length = l2 ∧ Eb.length = l3)) (hA : Hid (RdA w a1 a2 a3 Sa Fa Ea)) (hB : Hid (RdA w b1 b2 b3 Sb Fb Eb)) (zB : b1 = none → d1 = 0) (hN : N ≤ 4096) (hm : m ≤ 128) (h1 : n1 ≤ 2000000) (h2 : n2 ≤ 2000000) (h3 : n3 ≤ 2000000) (h4 : l1 ≤ 2000000) (h5 : l2 ≤ 2000000) (h6 : l3 ≤ 2000000) (hS : Hid (SsE Ea)) (hF : Hid (∀ e ∈ Ea, (0 ≤ e.1 ∧ e.1 < (N : Int)) ∧ (0 ≤ e.2.1 ∧ e.2.1 < (m : Int)) ∧ (0 ≤ e.2.2 ∧ e.2.2 < (N : Int)))) (hG : Hid (∀ x ∈ Fa, ∃ q : Nat, q < N ∧ x = (q : Int))) (zB3 : b3 = none → d3 = 0) (hSa : Hid (∀ x ∈ Sa, ∃ q : Nat, q < N ∧ x = (q : Int))) (M : Nat) (eM : Hid (n' = (M : Int))) (hM : M ≤ 8192) (hSb : Hid (∀ x ∈ Sb, ∃ q : Nat, q < M ∧ x = (q : Int))) (hFb : Hid (∀ x ∈ Fb, ∃ q : Nat, q < M ∧ x = (q : Int))) (B0 : Nat) (hB0 : B0 ≤ w.heap.size) (oA : Hid (w.ownsRow B0 3 1 (.slice a1 n1 c1) Sa.length (Sa.map (Value.int .i64)))) (oB : Hid (w.ownsRow B0 3 1 (.slice b2 l2 d2) Fb.length (Fb.map (Value.int .i64)))) (hap : Hid (∀ g, (Value.slice a1 n1 c1).ownBlock = some g → (Value.slice b2 l2 d2).ownBlock ≠ some g)) (zA : a1 = none → c1 = 0) (zA2 : a2 = none → c2 = 0) (zB2 : b2 = none → d2 = 0) (SL FL : List Int) (hSL : Hid (SL = if emptB Sa Fa then Sa ++ Sb else Sa)) (hFL : Hid (FL = if emptB Sb Fb then Fa ++ Fb else Fb)) :
 Calls Tryz.prog 56 #[.agg #[.int .i64 (N : Int), .int .i64 (m : Int), .slice a1 n1 c1, .slice a2 n2 c2, .slice a3 n3 c3], .agg #[.int .i64 n', .int .i64 m', .slice b1 l1 d1, .slice b2 l2 d2, .slice b3 l3 d3]] w fun e w' => ∃ x1 y1 x2 y2 x3 y3, e = .returned (.tuple #[.agg #[.int .i64 (behA n' (m : Int) SL FL (brL Ea Fa Sb m N) Eb).n, .int .i64 (behA n' (m : Int) SL FL (brL Ea Fa Sb m N) Eb).m, .slice x1 (behA n' (m : Int) SL FL (brL Ea Fa Sb m N) Eb).s.length y1, .slice x2 (behA n' (m : Int) SL FL (brL Ea Fa Sb m N) Eb).f.length y2, .slice x3 (behA n' (m : Int) SL FL (brL Ea Fa Sb m N) Eb).e.length y3], .int .i64 (behA n' (m : Int) SL FL (brL Ea Fa Sb m N) Eb).er]) ∧ Hid (OwnO B0 w' (.slice x1 (behA n' (m : Int) SL FL (brL Ea Fa Sb m N) Eb).s.length y1) (.slice x2 (behA n' (m : Int) SL FL (brL Ea Fa Sb m N) Eb).f.length y2) (.slice x3 (behA n' (m : Int) SL FL (brL Ea Fa Sb m N) Eb).e.length y3) (behA n' (m : Int) SL FL (brL Ea Fa Sb m N) Eb).s (behA n' (m : Int) SL FL (brL Ea Fa Sb m N) Eb).f (behA n' (m : Int) SL FL (brL Ea Fa Sb m N) Eb).e ∧ Below w.heap.size w w') := by
 unfold behA
 by_cases hbig : 65536 < (brL Ea Fa Sb m N).length + Eb.length
 · rw [if_pos hbig]
   have hb2 : 65536 < (brL Ea Fa Sb m N).length + l3 := by have := en.out.2.2.2.2.2; omega
   have bad : ∀ (e : Ending) (w' : World), (e = .returned (.tuple #[.agg #[.int .i64 0, .int .i64 0, .slice none 0 0, .slice none 0 0, .slice none 0 0], .int .i64 8]) ∧ Below w.heap.size w w') → ∃ x1 y1 x2 y2 x3 y3, e = .returned (.tuple #[.agg #[.int .i64 (badA 8).n, .int .i64 (badA 8).m, .slice x1 (badA 8).s.length y1, .slice x2 (badA 8).f.length y2, .slice x3 (badA 8).e.length y3], .int .i64 (badA 8).er]) ∧ Hid (OwnO B0 w' (.slice x1 (badA 8).s.length y1) (.slice x2 (badA 8).f.length y2) (.slice x3 (badA 8).e.length y3) (badA 8).s (badA 8).f (badA 8).e ∧ Below w.heap.size w w') := fun e w' ⟨he, d⟩ => ⟨none, 0, none, 0, none, 0, he, hide ⟨⟨⟨rfl, .inl ⟨rfl, rfl⟩⟩, ⟨rfl, .inl ⟨rfl, rfl⟩⟩, ⟨rfl, .inl ⟨rfl, rfl⟩⟩, fun g q => by cases q⟩, d⟩⟩
   by_cases hle : (brL Ea Fa Sb m N).length ≤ 65536
   · exact (behind_big w N m n1 n2 n3 l1 l2 l3 n' m' a1 a2 a3 b1 b2 b3 c1 c2 c3 d1 d2 d3 Sa Fa Sb Fb Ea Eb en hA hB zB hN hm h1 h2 h3 h4 h5 h6 hS hF hG hle hb2).mono bad
   · exact (behind_far w N m n1 n2 n3 l1 l2 l3 n' m' a1 a2 a3 b1 b2 b3 c1 c2 c3 d1 d2 d3 Sa Fa Sb Fb Ea Eb en hA hB zB hN hm h1 h2 h3 h4 h5 h6 hS hF hG (by omega)).mono bad
 · rw [if_neg hbig]
   exact behind_ok w N m n1 n2 n3 l1 l2 l3 n' m' a1 a2 a3 b1 b2 b3 c1 c2 c3 d1 d2 d3 Sa Fa Sb Fb Ea Eb en hA hB zB hN hm h1 h2 h3 h4 h5 h6 hS hF hG zB3 (by omega) (by have := en.out.2.2.2.2.2; omega) hSa M eM hM hSb hFb B0 hB0 oA oB hap zA zA2 zB2 SL FL hSL hFL
def dMv (B N M m : Nat) (S F : List Int) (E : List EdT) : MkP := fun x _ _ W => ∃ t1 u1 t2 u2 t3 u3, x = .agg #[.int .i64 ((M : Int) + (N : Int)), .int .i64 (m : Int), .slice t1 S.length u1, .slice t2 F.length u2, .slice t3 E.length u3] ∧ OwnO B W (.slice t1 S.length u1) (.slice t2 F.length u2) (.slice t3 E.length u3) (movN S N) (movN F N) (movE E N)
theorem dMv_mono {B N M m : Nat} {S F : List Int} {E : List EdT} : MonoP (dMv B N M m S F E) := fun _ _ _ _ _ _ d ⟨t1, u1, t2, u2, t3, u3, e, h⟩ => ⟨t1, u1, t2, u2, t3, u3, e, h.on d⟩
def dBh (B : Nat) (rn rm : Int) (rs rf : List Int) (re : List EdT) (rr : Int) : MkP := fun x _ _ W => ∃ x1 y1 x2 y2 x3 y3, x = .tuple #[.agg #[.int .i64 rn, .int .i64 rm, .slice x1 rs.length y1, .slice x2 rf.length y2, .slice x3 re.length y3], .int .i64 rr] ∧ OwnO B W (.slice x1 rs.length y1) (.slice x2 rf.length y2) (.slice x3 re.length y3) rs rf re
theorem dBh_mono {B : Nat} {rn rm : Int} {rs rf : List Int} {re : List EdT} {rr : Int} : MonoP (dBh B rn rm rs rf re rr) := fun _ _ _ _ _ _ d ⟨x1, y1, x2, y2, x3, y3, e, h⟩ => ⟨x1, y1, x2, y2, x3, y3, e, h.on d⟩
def dEx (B : Nat) (rn rm : Int) (rs rf : List Int) (re : List EdT) : MkP := fun x _ _ W => ∃ x1 y1 x2 y2 x3 y3, x = .agg #[.int .i64 rn, .int .i64 rm, .slice x1 rs.length y1, .slice x2 rf.length y2, .slice x3 re.length y3] ∧ OwnO B W (.slice x1 rs.length y1) (.slice x2 rf.length y2) (.slice x3 re.length y3) rs rf re
theorem dEx_mono {B : Nat} {rn rm : Int} {rs rf : List Int} {re : List EdT} : MonoP (dEx B rn rm rs rf re) := fun _ _ _ _ _ _ d ⟨x1, y1, x2, y2, x3, y3, e, h⟩ => ⟨x1, y1, x2, y2, x3, y3, e, h.on d⟩
theorem concat_a (w : World) (n m n' m' : Int) (a1 a2 a3 b1 b2 b3 : Option Addr) (c1 c2 c3 d1 d2 d3 : Nat) (Sa Fa Sb Fb : List Int) (Ea Eb : List EdT) (hA : Hid (RdA w a1 a2 a3 Sa Fa Ea)) (hB : Hid (RdA w b1 b2 b3 Sb Fb Eb)) (h1 : Sa.length ≤ 2000000) (h2 : Fa.length ≤ 2000000) (h3 : Ea.length ≤ 2000000) (h4 : Sb.length ≤ 2000000) (h5 : Fb.length ≤ 2000000) (h6 : Eb.length ≤ 2000000) (em : mayA n m Sa Fa Ea = false) :
 Calls Tryz.prog 21 #[.agg #[.int .i64 n, .int .i64 m, .slice a1 Sa.length c1, .slice a2 Fa.length c2, .slice a3 Ea.length c3], .agg #[.int .i64 n', .int .i64 m', .slice b1 Sb.length d1, .slice b2 Fb.length d2, .slice b3 Eb.length d3]] w (AnsO w (badA 2)) := by
 obtain ⟨W0, hW0⟩ : ∃ W0, ((w.alloc (.cells #[.int .i64 n, .int .i64 m, .slice a1 Sa.length c1, .slice a2 Fa.length c2, .slice a3 Ea.length c3] 25)).alloc (.cells #[.int .i64 n', .int .i64 m', .slice b1 Sb.length d1, .slice b2 Fb.length d2, .slice b3 Eb.length d3] 25)).alloc (.cells #[.int .i64 0, .int .i64 0, .slice none 0 0, .slice none 0 0, .slice none 0 0] 25) = W0 := ⟨_, rfl⟩
 have HD := hide (box3b w #[.int .i64 n, .int .i64 m, .slice a1 Sa.length c1, .slice a2 Fa.length c2, .slice a3 Ea.length c3] #[.int .i64 n', .int .i64 m', .slice b1 Sb.length d1, .slice b2 Fb.length d2, .slice b3 Eb.length d3] #[.int .i64 0, .int .i64 0, .slice none 0 0, .slice none 0 0, .slice none 0 0] 25)
 rw [hW0] at HD
 have TB := both_a W0 n m n' m' a1 a2 a3 b1 b2 b3 c1 c2 c3 d1 d2 d3 Sa Fa Sb Fb Ea Eb (hide (hA.out.on HD.out.1)) (hide (hB.out.on HD.out.1)) (by omega) (by omega) (by omega) (by omega) (by omega) (by omega) em
 obtain ⟨y0, y1, y2, y3, y4⟩ := zd5 HD.out.2.1 rfl rfl rfl rfl rfl
 obtain ⟨x0, x1, x2, x3, x4⟩ := zd5 HD.out.2.2.1 rfl rfl rfl rfl rfl
 go_enter Tryz.func21, Tryz.ntmps21
 go_upto_region 3 with (go_at_call 55; refine TB.mono ?_; rintro e w1 ⟨rfl, D1⟩; have H1 := hide D1; clear D1)
 clear TB y0 x0 y1 x1 y2 x2 y3 x3 y4 x4
 obtain ⟨W1, hW1⟩ : ∃ W1, (w1.alloc (.cells #[.int .i64 0, .int .i64 0, .slice none 0 0, .slice none 0 0, .slice none 0 0] 25)).alloc (.cells #[.int .i64 0, .int .i64 0, .slice none 0 0, .slice none 0 0, .slice none 0 0] 25) = W1 := ⟨_, rfl⟩
 have HW : Hid (W1.heap[w.heap.size + 1 + 1]? = some (.cells #[.int .i64 0, .int .i64 0, .slice none 0 0, .slice none 0 0, .slice none 0 0] 25 (0, 0)) ∧ w.heap.size + 3 ≤ W1.heap.size ∧ Below w.heap.size w W1) := hide (by
  have q := box2 w1 #[.int .i64 0, .int .i64 0, .slice none 0 0, .slice none 0 0, .slice none 0 0] #[.int .i64 0, .int .i64 0, .slice none 0 0, .slice none 0 0, .slice none 0 0] 25
  rw [hW1] at q
  have s := HD.out.2.2.2.2
  have d2 := H1.out.trans (q.1.mono H1.out.size)
  exact ⟨blk_on HD.out.2.2.2.1 d2, by have := d2.size; omega, HD.out.1.trans (d2.mono HD.out.1.size)⟩)
 rw [hW1]
 clear hW1 H1
 have F4 := HW.out.1
 obtain ⟨o0, o1, o2, o3, o4⟩ := zd5 F4 rfl rfl rfl rfl rfl
 have fz0 : W1.frozen? ⟨w.heap.size + 1 + 1, 0, none⟩ = false := fz_of F4
 have fz1 : W1.frozen? ⟨w.heap.size + 1 + 1, 1, none⟩ = false := fz_of F4
 have fz2 : W1.frozen? ⟨w.heap.size + 1 + 1, 2, none⟩ = false := fz_of F4
 have fz3 : W1.frozen? ⟨w.heap.size + 1 + 1, 3, none⟩ = false := fz_of F4
 have fz4 : W1.frozen? ⟨w.heap.size + 1 + 1, 4, none⟩ = false := fz_of F4
 have O6 := hide (And.intro (set5 W1 (w.heap.size + 1 + 1) _ _ _ _ _ (.int .i64 0) (.int .i64 0) (.slice none 0 0) (.slice none 0 0) (.slice none 0 0) 25 F4) (only5 W1 (w.heap.size + 1 + 1) (.int .i64 0) (.int .i64 0) (.slice none 0 0) (.slice none 0 0) (.slice none 0 0)))
 clear F4
 go_wp2_with fail
 refine bodyPost_ret (results_c1 (p := 4) (q := 5) (ty := 25) rfl _ _ (w.heap.size + 1 + 1) 25 _ (0, 0) _ _ rfl rfl O6.out.1 Tryz.underlying25 rfl (by kernel_rfl)) rfl ?_
 have s2 := HW.out.2.1
 exact ansO_bad rfl (HW.out.2.2.trans (O6.out.2.toBelow (by omega) (fun k hk => by omega)))
theorem concat_b (w : World) (n m n' m' : Int) (a1 a2 a3 b1 b2 b3 : Option Addr) (c1 c2 c3 d1 d2 d3 : Nat) (Sa Fa Sb Fb : List Int) (Ea Eb : List EdT) (hA : Hid (RdA w a1 a2 a3 Sa Fa Ea)) (hB : Hid (RdA w b1 b2 b3 Sb Fb Eb)) (h1 : Sa.length ≤ 2000000) (h2 : Fa.length ≤ 2000000) (h3 : Ea.length ≤ 2000000) (h4 : Sb.length ≤ 2000000) (h5 : Fb.length ≤ 2000000) (h6 : Eb.length ≤ 2000000) (em : mayA n m Sa Fa Ea = true) (em' : mayA n' m' Sb Fb Eb = false) :
 Calls Tryz.prog 21 #[.agg #[.int .i64 n, .int .i64 m, .slice a1 Sa.length c1, .slice a2 Fa.length c2, .slice a3 Ea.length c3], .agg #[.int .i64 n', .int .i64 m', .slice b1 Sb.length d1, .slice b2 Fb.length d2, .slice b3 Eb.length d3]] w (AnsO w (badA 2)) := by
 obtain ⟨W0, hW0⟩ : ∃ W0, ((w.alloc (.cells #[.int .i64 n, .int .i64 m, .slice a1 Sa.length c1, .slice a2 Fa.length c2, .slice a3 Ea.length c3] 25)).alloc (.cells #[.int .i64 n', .int .i64 m', .slice b1 Sb.length d1, .slice b2 Fb.length d2, .slice b3 Eb.length d3] 25)).alloc (.cells #[.int .i64 0, .int .i64 0, .slice none 0 0, .slice none 0 0, .slice none 0 0] 25) = W0 := ⟨_, rfl⟩
 have HD := hide (box3b w #[.int .i64 n, .int .i64 m, .slice a1 Sa.length c1, .slice a2 Fa.length c2, .slice a3 Ea.length c3] #[.int .i64 n', .int .i64 m', .slice b1 Sb.length d1, .slice b2 Fb.length d2, .slice b3 Eb.length d3] #[.int .i64 0, .int .i64 0, .slice none 0 0, .slice none 0 0, .slice none 0 0] 25)
 rw [hW0] at HD
 have TB := both_b W0 n m n' m' a1 a2 a3 b1 b2 b3 c1 c2 c3 d1 d2 d3 Sa Fa Sb Fb Ea Eb (hide (hA.out.on HD.out.1)) (hide (hB.out.on HD.out.1)) (by omega) (by omega) (by omega) (by omega) (by omega) (by omega) em em'
 obtain ⟨y0, y1, y2, y3, y4⟩ := zd5 HD.out.2.1 rfl rfl rfl rfl rfl
 obtain ⟨x0, x1, x2, x3, x4⟩ := zd5 HD.out.2.2.1 rfl rfl rfl rfl rfl
 go_enter Tryz.func21, Tryz.ntmps21
 go_upto_region 3 with (go_at_call 55; refine TB.mono ?_; rintro e w1 ⟨rfl, D1⟩; have H1 := hide D1; clear D1)
 clear TB y0 x0 y1 x1 y2 x2 y3 x3 y4 x4
 obtain ⟨W1, hW1⟩ : ∃ W1, (w1.alloc (.cells #[.int .i64 0, .int .i64 0, .slice none 0 0, .slice none 0 0, .slice none 0 0] 25)).alloc (.cells #[.int .i64 0, .int .i64 0, .slice none 0 0, .slice none 0 0, .slice none 0 0] 25) = W1 := ⟨_, rfl⟩
 have HW : Hid (W1.heap[w.heap.size + 1 + 1]? = some (.cells #[.int .i64 0, .int .i64 0, .slice none 0 0, .slice none 0 0, .slice none 0 0] 25 (0, 0)) ∧ w.heap.size + 3 ≤ W1.heap.size ∧ Below w.heap.size w W1) := hide (by
  have q := box2 w1 #[.int .i64 0, .int .i64 0, .slice none 0 0, .slice none 0 0, .slice none 0 0] #[.int .i64 0, .int .i64 0, .slice none 0 0, .slice none 0 0, .slice none 0 0] 25
  rw [hW1] at q
  have s := HD.out.2.2.2.2
  have d2 := H1.out.trans (q.1.mono H1.out.size)
  exact ⟨blk_on HD.out.2.2.2.1 d2, by have := d2.size; omega, HD.out.1.trans (d2.mono HD.out.1.size)⟩)
 rw [hW1]
 clear hW1 H1
 have F4 := HW.out.1
 obtain ⟨o0, o1, o2, o3, o4⟩ := zd5 F4 rfl rfl rfl rfl rfl
 have fz0 : W1.frozen? ⟨w.heap.size + 1 + 1, 0, none⟩ = false := fz_of F4
 have fz1 : W1.frozen? ⟨w.heap.size + 1 + 1, 1, none⟩ = false := fz_of F4
 have fz2 : W1.frozen? ⟨w.heap.size + 1 + 1, 2, none⟩ = false := fz_of F4
 have fz3 : W1.frozen? ⟨w.heap.size + 1 + 1, 3, none⟩ = false := fz_of F4
 have fz4 : W1.frozen? ⟨w.heap.size + 1 + 1, 4, none⟩ = false := fz_of F4
 have O6 := hide (And.intro (set5 W1 (w.heap.size + 1 + 1) _ _ _ _ _ (.int .i64 0) (.int .i64 0) (.slice none 0 0) (.slice none 0 0) (.slice none 0 0) 25 F4) (only5 W1 (w.heap.size + 1 + 1) (.int .i64 0) (.int .i64 0) (.slice none 0 0) (.slice none 0 0) (.slice none 0 0)))
 clear F4
 go_wp2_with fail
 refine bodyPost_ret (results_c1 (p := 4) (q := 5) (ty := 25) rfl _ _ (w.heap.size + 1 + 1) 25 _ (0, 0) _ _ rfl rfl O6.out.1 Tryz.underlying25 rfl (by kernel_rfl)) rfl ?_
 have s2 := HW.out.2.1
 exact ansO_bad rfl (HW.out.2.2.trans (O6.out.2.toBelow (by omega) (fun k hk => by omega)))
theorem concat_m (w : World) (n m n' m' : Int) (a1 a2 a3 b1 b2 b3 : Option Addr) (c1 c2 c3 d1 d2 d3 : Nat) (Sa Fa Sb Fb : List Int) (Ea Eb : List EdT) (hA : Hid (RdA w a1 a2 a3 Sa Fa Ea)) (hB : Hid (RdA w b1 b2 b3 Sb Fb Eb)) (h1 : Sa.length ≤ 2000000) (h2 : Fa.length ≤ 2000000) (h3 : Ea.length ≤ 2000000) (h4 : Sb.length ≤ 2000000) (h5 : Fb.length ≤ 2000000) (h6 : Eb.length ≤ 2000000) (em : mayA n m Sa Fa Ea = true) (em' : mayA n' m' Sb Fb Eb = true) (hm : m ≠ m') :
 Calls Tryz.prog 21 #[.agg #[.int .i64 n, .int .i64 m, .slice a1 Sa.length c1, .slice a2 Fa.length c2, .slice a3 Ea.length c3], .agg #[.int .i64 n', .int .i64 m', .slice b1 Sb.length d1, .slice b2 Fb.length d2, .slice b3 Eb.length d3]] w (AnsO w (badA 6)) := by
 obtain ⟨W0, hW0⟩ : ∃ W0, ((w.alloc (.cells #[.int .i64 n, .int .i64 m, .slice a1 Sa.length c1, .slice a2 Fa.length c2, .slice a3 Ea.length c3] 25)).alloc (.cells #[.int .i64 n', .int .i64 m', .slice b1 Sb.length d1, .slice b2 Fb.length d2, .slice b3 Eb.length d3] 25)).alloc (.cells #[.int .i64 0, .int .i64 0, .slice none 0 0, .slice none 0 0, .slice none 0 0] 25) = W0 := ⟨_, rfl⟩
 have HD := hide (box3b w #[.int .i64 n, .int .i64 m, .slice a1 Sa.length c1, .slice a2 Fa.length c2, .slice a3 Ea.length c3] #[.int .i64 n', .int .i64 m', .slice b1 Sb.length d1, .slice b2 Fb.length d2, .slice b3 Eb.length d3] #[.int .i64 0, .int .i64 0, .slice none 0 0, .slice none 0 0, .slice none 0 0] 25)
 rw [hW0] at HD
 have TB := both_m W0 n m n' m' a1 a2 a3 b1 b2 b3 c1 c2 c3 d1 d2 d3 Sa Fa Sb Fb Ea Eb (hide (hA.out.on HD.out.1)) (hide (hB.out.on HD.out.1)) (by omega) (by omega) (by omega) (by omega) (by omega) (by omega) em em' hm
 obtain ⟨y0, y1, y2, y3, y4⟩ := zd5 HD.out.2.1 rfl rfl rfl rfl rfl
 obtain ⟨x0, x1, x2, x3, x4⟩ := zd5 HD.out.2.2.1 rfl rfl rfl rfl rfl
 go_enter Tryz.func21, Tryz.ntmps21
 go_upto_region 3 with (go_at_call 55; refine TB.mono ?_; rintro e w1 ⟨rfl, D1⟩; have H1 := hide D1; clear D1)
 clear TB y0 x0 y1 x1 y2 x2 y3 x3 y4 x4
 obtain ⟨W1, hW1⟩ : ∃ W1, (w1.alloc (.cells #[.int .i64 0, .int .i64 0, .slice none 0 0, .slice none 0 0, .slice none 0 0] 25)).alloc (.cells #[.int .i64 0, .int .i64 0, .slice none 0 0, .slice none 0 0, .slice none 0 0] 25) = W1 := ⟨_, rfl⟩
 have HW : Hid (W1.heap[w.heap.size + 1 + 1]? = some (.cells #[.int .i64 0, .int .i64 0, .slice none 0 0, .slice none 0 0, .slice none 0 0] 25 (0, 0)) ∧ w.heap.size + 3 ≤ W1.heap.size ∧ Below w.heap.size w W1) := hide (by
  have q := box2 w1 #[.int .i64 0, .int .i64 0, .slice none 0 0, .slice none 0 0, .slice none 0 0] #[.int .i64 0, .int .i64 0, .slice none 0 0, .slice none 0 0, .slice none 0 0] 25
  rw [hW1] at q
  have s := HD.out.2.2.2.2
  have d2 := H1.out.trans (q.1.mono H1.out.size)
  exact ⟨blk_on HD.out.2.2.2.1 d2, by have := d2.size; omega, HD.out.1.trans (d2.mono HD.out.1.size)⟩)
 rw [hW1]
 clear hW1 H1
 have F4 := HW.out.1
 obtain ⟨o0, o1, o2, o3, o4⟩ := zd5 F4 rfl rfl rfl rfl rfl
 have fz0 : W1.frozen? ⟨w.heap.size + 1 + 1, 0, none⟩ = false := fz_of F4
 have fz1 : W1.frozen? ⟨w.heap.size + 1 + 1, 1, none⟩ = false := fz_of F4
 have fz2 : W1.frozen? ⟨w.heap.size + 1 + 1, 2, none⟩ = false := fz_of F4
 have fz3 : W1.frozen? ⟨w.heap.size + 1 + 1, 3, none⟩ = false := fz_of F4
 have fz4 : W1.frozen? ⟨w.heap.size + 1 + 1, 4, none⟩ = false := fz_of F4
 have O6 := hide (And.intro (set5 W1 (w.heap.size + 1 + 1) _ _ _ _ _ (.int .i64 0) (.int .i64 0) (.slice none 0 0) (.slice none 0 0) (.slice none 0 0) 25 F4) (only5 W1 (w.heap.size + 1 + 1) (.int .i64 0) (.int .i64 0) (.slice none 0 0) (.slice none 0 0) (.slice none 0 0)))
 clear F4
 go_wp2_with fail
 refine bodyPost_ret (results_c1 (p := 4) (q := 5) (ty := 25) rfl _ _ (w.heap.size + 1 + 1) 25 _ (0, 0) _ _ rfl rfl O6.out.1 Tryz.underlying25 rfl (by kernel_rfl)) rfl ?_
 have s2 := HW.out.2.1
 exact ansO_bad rfl (HW.out.2.2.trans (O6.out.2.toBelow (by omega) (fun k hk => by omega)))
theorem nat_in {N : Nat} {L : List Int} (h : ∀ x ∈ L, 0 ≤ x ∧ x < (N : Int)) : ∀ x ∈ L, ∃ q : Nat, q < N ∧ x = (q : Int) := fun x hx => ⟨x.toNat, by have := h x hx; omega, by have := h x hx; omega⟩
theorem mov_in {N M : Nat} {L : List Int} (h : ∀ x ∈ L, ∃ q : Nat, q < M ∧ x = (q : Int)) : ∀ x ∈ movN L (N : Int), ∃ q : Nat, q < M + N ∧ x = (q : Int) := fun x hx => by
 unfold movN at hx
 rw [List.mem_map] at hx
 obtain ⟨y, hy, rfl⟩ := hx
 obtain ⟨q, hq, rfl⟩ := h y hy
 exact ⟨q + N, by omega, by omega⟩
theorem concat_big (w : World) (N M m : Nat) (a1 a2 a3 b1 b2 b3 : Option Addr) (c1 c2 c3 d1 d2 d3 : Nat) (Sa Fa Sb Fb : List Int) (Ea Eb : List EdT) (hA : Hid (RdA w a1 a2 a3 Sa Fa Ea)) (hB : Hid (RdA w b1 b2 b3 Sb Fb Eb)) (h1 : Sa.length ≤ 2000000) (h2 : Fa.length ≤ 2000000) (h3 : Ea.length ≤ 2000000) (h4 : Sb.length ≤ 2000000) (h5 : Fb.length ≤ 2000000) (h6 : Eb.length ≤ 2000000) (em : mayA (N : Int) (m : Int) Sa Fa Ea = true) (em' : mayA (M : Int) (m : Int) Sb Fb Eb = true) (hNM : 4096 < N + M) :
 Calls Tryz.prog 21 #[.agg #[.int .i64 (N : Int), .int .i64 (m : Int), .slice a1 Sa.length c1, .slice a2 Fa.length c2, .slice a3 Ea.length c3], .agg #[.int .i64 (M : Int), .int .i64 (m : Int), .slice b1 Sb.length d1, .slice b2 Fb.length d2, .slice b3 Eb.length d3]] w (AnsO w (badA 8)) := by
 obtain ⟨W0, hW0⟩ : ∃ W0, ((w.alloc (.cells #[.int .i64 (N : Int), .int .i64 (m : Int), .slice a1 Sa.length c1, .slice a2 Fa.length c2, .slice a3 Ea.length c3] 25)).alloc (.cells #[.int .i64 (M : Int), .int .i64 (m : Int), .slice b1 Sb.length d1, .slice b2 Fb.length d2, .slice b3 Eb.length d3] 25)).alloc (.cells #[.int .i64 0, .int .i64 0, .slice none 0 0, .slice none 0 0, .slice none 0 0] 25) = W0 := ⟨_, rfl⟩
 have HD := hide (box3b w #[.int .i64 (N : Int), .int .i64 (m : Int), .slice a1 Sa.length c1, .slice a2 Fa.length c2, .slice a3 Ea.length c3] #[.int .i64 (M : Int), .int .i64 (m : Int), .slice b1 Sb.length d1, .slice b2 Fb.length d2, .slice b3 Eb.length d3] #[.int .i64 0, .int .i64 0, .slice none 0 0, .slice none 0 0, .slice none 0 0] 25)
 rw [hW0] at HD
 have TB := both_ok W0 (N : Int) (m : Int) (M : Int) a1 a2 a3 b1 b2 b3 c1 c2 c3 d1 d2 d3 Sa Fa Sb Fb Ea Eb (hide (hA.out.on HD.out.1)) (hide (hB.out.on HD.out.1)) (by omega) (by omega) (by omega) (by omega) (by omega) (by omega) em em'
 have hNM2 : N ≤ 4096 ∧ M ≤ 4096 := by have := (may_parts em).1; have := (may_parts em').1; omega
 clear em em'
 generalize riseL Sa = S1 at *
 generalize riseL Fa = F1 at *
 generalize riseE Ea = E1 at *
 generalize riseL Sb = S2 at *
 generalize riseL Fb = F2 at *
 generalize riseE Eb = E2 at *
 have jn : (4096 : Int) < (N : Int) + (M : Int) := by omega
 have ew : IntKind.i64.wrap ((N : Int) + (M : Int)) = (N : Int) + (M : Int) := by rw [IntKind.wrap_i64]; omega
 obtain ⟨cy0, cy1, cy2, cy3, cy4⟩ := zd5 HD.out.2.1 rfl rfl rfl rfl rfl
 obtain ⟨cx0, cx1, cx2, cx3, cx4⟩ := zd5 HD.out.2.2.1 rfl rfl rfl rfl rfl
 go_enter Tryz.func21, Tryz.ntmps21
 go_upto_region 4 with (go_at_call 55; refine TB.mono ?_; rintro e w1 ⟨g1, k1, g2, k2, g3, k3, r1, q1, r2, q2, r3, q3, rfl, H1⟩)
 clear TB cy0 cx0 cy1 cx1 cy2 cx2 cy3 cx3 cy4 cx4
 obtain ⟨W1, hW1⟩ : ∃ W1, (w1.alloc (.cells #[.int .i64 (N : Int), .int .i64 (m : Int), .slice (some ⟨g1, 0, none⟩) S1.length k1, .slice (some ⟨g2, 0, none⟩) F1.length k2, .slice (some ⟨g3, 0, none⟩) E1.length k3] 25)).alloc (.cells #[.int .i64 (M : Int), .int .i64 (m : Int), .slice (some ⟨r1, 0, none⟩) S2.length q1, .slice (some ⟨r2, 0, none⟩) F2.length q2, .slice (some ⟨r3, 0, none⟩) E2.length q3] 25) = W1 := ⟨_, rfl⟩
 have HW : Hid (W1.heap[w1.heap.size]? = some (.cells #[.int .i64 (N : Int), .int .i64 (m : Int), .slice (some ⟨g1, 0, none⟩) S1.length k1, .slice (some ⟨g2, 0, none⟩) F1.length k2, .slice (some ⟨g3, 0, none⟩) E1.length k3] 25 (0, 0)) ∧ W1.heap[w1.heap.size + 1]? = some (.cells #[.int .i64 (M : Int), .int .i64 (m : Int), .slice (some ⟨r1, 0, none⟩) S2.length q1, .slice (some ⟨r2, 0, none⟩) F2.length q2, .slice (some ⟨r3, 0, none⟩) E2.length q3] 25 (0, 0)) ∧ W1.heap[w.heap.size + 1 + 1]? = some (.cells #[.int .i64 0, .int .i64 0, .slice none 0 0, .slice none 0 0, .slice none 0 0] 25 (0, 0)) ∧ w.heap.size + 3 ≤ W1.heap.size ∧ Below w.heap.size w W1) := hide (by
  have q := box2 w1 #[.int .i64 (N : Int), .int .i64 (m : Int), .slice (some ⟨g1, 0, none⟩) S1.length k1, .slice (some ⟨g2, 0, none⟩) F1.length k2, .slice (some ⟨g3, 0, none⟩) E1.length k3] #[.int .i64 (M : Int), .int .i64 (m : Int), .slice (some ⟨r1, 0, none⟩) S2.length q1, .slice (some ⟨r2, 0, none⟩) F2.length q2, .slice (some ⟨r3, 0, none⟩) E2.length q3] 25
  rw [hW1] at q
  have s := HD.out.2.2.2.2
  have d2 := H1.out.2.2.trans (q.1.mono H1.out.2.2.size)
  exact ⟨q.2.1, q.2.2.1, blk_on HD.out.2.2.2.1 d2, by have := d2.size; omega, HD.out.1.trans (d2.mono HD.out.1.size)⟩)
 have HX : Hid (OwnO w.heap.size W1 (.slice (some ⟨g1, 0, none⟩) S1.length k1) (.slice (some ⟨g2, 0, none⟩) F1.length k2) (.slice (some ⟨g3, 0, none⟩) E1.length k3) S1 F1 E1) := hide (by
  have q := box2 w1 #[.int .i64 (N : Int), .int .i64 (m : Int), .slice (some ⟨g1, 0, none⟩) S1.length k1, .slice (some ⟨g2, 0, none⟩) F1.length k2, .slice (some ⟨g3, 0, none⟩) E1.length k3] #[.int .i64 (M : Int), .int .i64 (m : Int), .slice (some ⟨r1, 0, none⟩) S2.length q1, .slice (some ⟨r2, 0, none⟩) F2.length q2, .slice (some ⟨r3, 0, none⟩) E2.length q3] 25
  rw [hW1] at q
  exact (H1.out.1.on q.1).down HD.out.1.size)
 have HY : Hid (OwnO w.heap.size W1 (.slice (some ⟨r1, 0, none⟩) S2.length q1) (.slice (some ⟨r2, 0, none⟩) F2.length q2) (.slice (some ⟨r3, 0, none⟩) E2.length q3) S2 F2 E2) := hide (by
  have q := box2 w1 #[.int .i64 (N : Int), .int .i64 (m : Int), .slice (some ⟨g1, 0, none⟩) S1.length k1, .slice (some ⟨g2, 0, none⟩) F1.length k2, .slice (some ⟨g3, 0, none⟩) E1.length k3] #[.int .i64 (M : Int), .int .i64 (m : Int), .slice (some ⟨r1, 0, none⟩) S2.length q1, .slice (some ⟨r2, 0, none⟩) F2.length q2, .slice (some ⟨r3, 0, none⟩) E2.length q3] 25
  rw [hW1] at q
  exact (H1.out.2.1.on q.1).down HD.out.1.size)
 rw [hW1]
 clear hW1 H1
 obtain ⟨cx0, cx1, cx2, cx3, cx4⟩ := zd5 HW.out.1 rfl rfl rfl rfl rfl
 obtain ⟨cy0, cy1, cy2, cy3, cy4⟩ := zd5 HW.out.2.1 rfl rfl rfl rfl rfl
 have F4 := HW.out.2.2.1
 obtain ⟨o0, o1, o2, o3, o4⟩ := zd5 F4 rfl rfl rfl rfl rfl
 have fz0 : W1.frozen? ⟨w.heap.size + 1 + 1, 0, none⟩ = false := fz_of F4
 have fz1 : W1.frozen? ⟨w.heap.size + 1 + 1, 1, none⟩ = false := fz_of F4
 have fz2 : W1.frozen? ⟨w.heap.size + 1 + 1, 2, none⟩ = false := fz_of F4
 have fz3 : W1.frozen? ⟨w.heap.size + 1 + 1, 3, none⟩ = false := fz_of F4
 have fz4 : W1.frozen? ⟨w.heap.size + 1 + 1, 4, none⟩ = false := fz_of F4
 have O6 := hide (And.intro (set5 W1 (w.heap.size + 1 + 1) _ _ _ _ _ (.int .i64 0) (.int .i64 0) (.slice none 0 0) (.slice none 0 0) (.slice none 0 0) 25 F4) (only5 W1 (w.heap.size + 1 + 1) (.int .i64 0) (.int .i64 0) (.slice none 0 0) (.slice none 0 0) (.slice none 0 0)))
 clear F4
 go_wp2_with fail
 refine bodyPost_ret (results_c1 (p := 4) (q := 5) (ty := 25) rfl _ _ (w.heap.size + 1 + 1) 25 _ (0, 0) _ _ rfl rfl O6.out.1 Tryz.underlying25 rfl (by kernel_rfl)) rfl ?_
 have s2 := HW.out.2.2.2.1
 exact ansO_bad rfl (HW.out.2.2.2.2.trans (O6.out.2.toBelow (by omega) (fun k hk => by omega)))
theorem concat_fit (w : World) (N M m : Nat) (a1 a2 a3 b1 b2 b3 : Option Addr) (c1 c2 c3 d1 d2 d3 : Nat) (Sa Fa Sb Fb : List Int) (Ea Eb : List EdT) (hA : Hid (RdA w a1 a2 a3 Sa Fa Ea)) (hB : Hid (RdA w b1 b2 b3 Sb Fb Eb)) (h1 : Sa.length ≤ 2000000) (h2 : Fa.length ≤ 2000000) (h3 : Ea.length ≤ 2000000) (h4 : Sb.length ≤ 2000000) (h5 : Fb.length ≤ 2000000) (h6 : Eb.length ≤ 2000000) (em : mayA (N : Int) (m : Int) Sa Fa Ea = true) (em' : mayA (M : Int) (m : Int) Sb Fb Eb = true) (hNM : N + M ≤ 4096) :
 Calls Tryz.prog 21 #[.agg #[.int .i64 (N : Int), .int .i64 (m : Int), .slice a1 Sa.length c1, .slice a2 Fa.length c2, .slice a3 Ea.length c3], .agg #[.int .i64 (M : Int), .int .i64 (m : Int), .slice b1 Sb.length d1, .slice b2 Fb.length d2, .slice b3 Eb.length d3]] w (AnsO w (behA ((M : Int) + (N : Int)) (m : Int) (if emptB (riseL Sa) (riseL Fa) then (riseL Sa) ++ movN (riseL Sb) N else (riseL Sa)) (if emptB (movN (riseL Sb) N) (movN (riseL Fb) N) then (riseL Fa) ++ movN (riseL Fb) N else movN (riseL Fb) N) (brL (riseE Ea) (riseL Fa) (movN (riseL Sb) N) m N) (movE (riseE Eb) N))) := by
 obtain ⟨W0, hW0⟩ : ∃ W0, ((w.alloc (.cells #[.int .i64 (N : Int), .int .i64 (m : Int), .slice a1 Sa.length c1, .slice a2 Fa.length c2, .slice a3 Ea.length c3] 25)).alloc (.cells #[.int .i64 (M : Int), .int .i64 (m : Int), .slice b1 Sb.length d1, .slice b2 Fb.length d2, .slice b3 Eb.length d3] 25)).alloc (.cells #[.int .i64 0, .int .i64 0, .slice none 0 0, .slice none 0 0, .slice none 0 0] 25) = W0 := ⟨_, rfl⟩
 have HD := hide (box3b w #[.int .i64 (N : Int), .int .i64 (m : Int), .slice a1 Sa.length c1, .slice a2 Fa.length c2, .slice a3 Ea.length c3] #[.int .i64 (M : Int), .int .i64 (m : Int), .slice b1 Sb.length d1, .slice b2 Fb.length d2, .slice b3 Eb.length d3] #[.int .i64 0, .int .i64 0, .slice none 0 0, .slice none 0 0, .slice none 0 0] 25)
 rw [hW0] at HD
 have TB := both_ok W0 (N : Int) (m : Int) (M : Int) a1 a2 a3 b1 b2 b3 c1 c2 c3 d1 d2 d3 Sa Fa Sb Fb Ea Eb (hide (hA.out.on HD.out.1)) (hide (hB.out.on HD.out.1)) (by omega) (by omega) (by omega) (by omega) (by omega) (by omega) em em'
 have Hin : Hid ((∀ x ∈ riseL Sa, ∃ q : Nat, q < N ∧ x = (q : Int)) ∧ (∀ x ∈ riseL Fa, ∃ q : Nat, q < N ∧ x = (q : Int)) ∧ (∀ x ∈ riseL Sb, ∃ q : Nat, q < M ∧ x = (q : Int)) ∧ (∀ x ∈ riseL Fb, ∃ q : Nat, q < M ∧ x = (q : Int))) := hide ⟨nat_in (may_st (may_rise em)).1, nat_in (may_st (may_rise em)).2, nat_in (may_st (may_rise em')).1, nat_in (may_st (may_rise em')).2⟩
 have HEa : Hid (SsE (riseE Ea) ∧ (∀ e ∈ riseE Ea, (0 ≤ e.1 ∧ e.1 < (N : Int)) ∧ (0 ≤ e.2.1 ∧ e.2.1 < (m : Int)) ∧ (0 ≤ e.2.2 ∧ e.2.2 < (N : Int))) ∧ (∀ e ∈ riseE Eb, (0 ≤ e.1 ∧ e.1 ≤ 4096) ∧ 0 ≤ e.2.2 ∧ e.2.2 ≤ 4096)) := hide ⟨riseE_ss Ea, (may_parts (may_rise em)).2.2.2.2.2, fun e he => by have q := (may_parts (may_rise em')).2.2.2.2.2 e he; have q2 := (may_parts em').1; omega⟩
 have hl : Hid ((riseL Sa).length ≤ 2000000 ∧ (riseL Fa).length ≤ 2000000 ∧ (riseE Ea).length ≤ 2000000 ∧ (riseL Sb).length ≤ 2000000 ∧ (riseL Fb).length ≤ 2000000 ∧ (riseE Eb).length ≤ 2000000) := hide ⟨Nat.le_trans (riseL_len Sa) h1, Nat.le_trans (riseL_len Fa) h2, Nat.le_trans (riseE_len Ea) h3, Nat.le_trans (riseL_len Sb) h4, Nat.le_trans (riseL_len Fb) h5, Nat.le_trans (riseE_len Eb) h6⟩
 have hm : m ≤ 128 := by have := (may_parts em).2.1; omega
 have hNM2 : N ≤ 4096 ∧ M ≤ 4096 := by have := (may_parts em).1; have := (may_parts em').1; omega
 clear em em'
 generalize riseL Sa = S1 at *
 generalize riseL Fa = F1 at *
 generalize riseE Ea = E1 at *
 generalize riseL Sb = S2 at *
 generalize riseL Fb = F2 at *
 generalize riseE Eb = E2 at *
 have jn : ¬ (4096 : Int) < (N : Int) + (M : Int) := by omega
 have ew : IntKind.i64.wrap ((N : Int) + (M : Int)) = (N : Int) + (M : Int) := by rw [IntKind.wrap_i64]; omega
 obtain ⟨SL, hSL⟩ : ∃ SL, (if emptB S1 F1 then S1 ++ movN S2 N else S1) = SL := ⟨_, rfl⟩
 obtain ⟨FL, hFL⟩ : ∃ FL, (if emptB (movN S2 N) (movN F2 N) then F1 ++ movN F2 N else movN F2 N) = FL := ⟨_, rfl⟩
 rw [hSL, hFL]
 have HSL := hide hSL.symm
 have HFL := hide hFL.symm
 clear hSL hFL
 obtain ⟨R, hR⟩ : ∃ R, behA ((M : Int) + (N : Int)) (m : Int) SL FL (brL E1 F1 (movN S2 N) m N) (movE E2 N) = R := ⟨_, rfl⟩
 rw [hR]
 have HR := hide hR
 clear hR
 obtain ⟨rn, rm, rs, rf, re, rr⟩ := R
 obtain ⟨cy0, cy1, cy2, cy3, cy4⟩ := zd5 HD.out.2.1 rfl rfl rfl rfl rfl
 obtain ⟨cx0, cx1, cx2, cx3, cx4⟩ := zd5 HD.out.2.2.1 rfl rfl rfl rfl rfl
 go_enter Tryz.func21, Tryz.ntmps21
 go_upto_region 4 with (go_at_call 55; refine TB.mono ?_; rintro e w1 ⟨g1, k1, g2, k2, g3, k3, r1, q1, r2, q2, r3, q3, rfl, H1⟩)
 clear TB cy0 cx0 cy1 cx1 cy2 cx2 cy3 cx3 cy4 cx4
 obtain ⟨W1, hW1⟩ : ∃ W1, (w1.alloc (.cells #[.int .i64 (N : Int), .int .i64 (m : Int), .slice (some ⟨g1, 0, none⟩) S1.length k1, .slice (some ⟨g2, 0, none⟩) F1.length k2, .slice (some ⟨g3, 0, none⟩) E1.length k3] 25)).alloc (.cells #[.int .i64 (M : Int), .int .i64 (m : Int), .slice (some ⟨r1, 0, none⟩) S2.length q1, .slice (some ⟨r2, 0, none⟩) F2.length q2, .slice (some ⟨r3, 0, none⟩) E2.length q3] 25) = W1 := ⟨_, rfl⟩
 have HW : Hid (W1.heap[w1.heap.size]? = some (.cells #[.int .i64 (N : Int), .int .i64 (m : Int), .slice (some ⟨g1, 0, none⟩) S1.length k1, .slice (some ⟨g2, 0, none⟩) F1.length k2, .slice (some ⟨g3, 0, none⟩) E1.length k3] 25 (0, 0)) ∧ W1.heap[w1.heap.size + 1]? = some (.cells #[.int .i64 (M : Int), .int .i64 (m : Int), .slice (some ⟨r1, 0, none⟩) S2.length q1, .slice (some ⟨r2, 0, none⟩) F2.length q2, .slice (some ⟨r3, 0, none⟩) E2.length q3] 25 (0, 0)) ∧ W1.heap[w.heap.size + 1 + 1]? = some (.cells #[.int .i64 0, .int .i64 0, .slice none 0 0, .slice none 0 0, .slice none 0 0] 25 (0, 0)) ∧ w.heap.size + 3 ≤ W1.heap.size ∧ Below w.heap.size w W1) := hide (by
  have q := box2 w1 #[.int .i64 (N : Int), .int .i64 (m : Int), .slice (some ⟨g1, 0, none⟩) S1.length k1, .slice (some ⟨g2, 0, none⟩) F1.length k2, .slice (some ⟨g3, 0, none⟩) E1.length k3] #[.int .i64 (M : Int), .int .i64 (m : Int), .slice (some ⟨r1, 0, none⟩) S2.length q1, .slice (some ⟨r2, 0, none⟩) F2.length q2, .slice (some ⟨r3, 0, none⟩) E2.length q3] 25
  rw [hW1] at q
  have s := HD.out.2.2.2.2
  have d2 := H1.out.2.2.trans (q.1.mono H1.out.2.2.size)
  exact ⟨q.2.1, q.2.2.1, blk_on HD.out.2.2.2.1 d2, by have := d2.size; omega, HD.out.1.trans (d2.mono HD.out.1.size)⟩)
 have HX : Hid (OwnO w.heap.size W1 (.slice (some ⟨g1, 0, none⟩) S1.length k1) (.slice (some ⟨g2, 0, none⟩) F1.length k2) (.slice (some ⟨g3, 0, none⟩) E1.length k3) S1 F1 E1) := hide (by
  have q := box2 w1 #[.int .i64 (N : Int), .int .i64 (m : Int), .slice (some ⟨g1, 0, none⟩) S1.length k1, .slice (some ⟨g2, 0, none⟩) F1.length k2, .slice (some ⟨g3, 0, none⟩) E1.length k3] #[.int .i64 (M : Int), .int .i64 (m : Int), .slice (some ⟨r1, 0, none⟩) S2.length q1, .slice (some ⟨r2, 0, none⟩) F2.length q2, .slice (some ⟨r3, 0, none⟩) E2.length q3] 25
  rw [hW1] at q
  exact (H1.out.1.on q.1).down HD.out.1.size)
 have HY : Hid (OwnO w.heap.size W1 (.slice (some ⟨r1, 0, none⟩) S2.length q1) (.slice (some ⟨r2, 0, none⟩) F2.length q2) (.slice (some ⟨r3, 0, none⟩) E2.length q3) S2 F2 E2) := hide (by
  have q := box2 w1 #[.int .i64 (N : Int), .int .i64 (m : Int), .slice (some ⟨g1, 0, none⟩) S1.length k1, .slice (some ⟨g2, 0, none⟩) F1.length k2, .slice (some ⟨g3, 0, none⟩) E1.length k3] #[.int .i64 (M : Int), .int .i64 (m : Int), .slice (some ⟨r1, 0, none⟩) S2.length q1, .slice (some ⟨r2, 0, none⟩) F2.length q2, .slice (some ⟨r3, 0, none⟩) E2.length q3] 25
  rw [hW1] at q
  exact (H1.out.2.1.on q.1).down HD.out.1.size)
 rw [hW1]
 clear hW1 H1
 obtain ⟨cx0, cx1, cx2, cx3, cx4⟩ := zd5 HW.out.1 rfl rfl rfl rfl rfl
 obtain ⟨cy0, cy1, cy2, cy3, cy4⟩ := zd5 HW.out.2.1 rfl rfl rfl rfl rfl
 go_upto_region 6 with fail
 clear cy0 cx0 cy1 cx1 cy2 cx2 cy3 cx3 cy4 cx4
 have T4 : Hid (∀ W, Below W1.heap.size W1 W → Calls Tryz.prog 50 #[.agg #[.int .i64 (M : Int), .int .i64 (m : Int), .slice (some ⟨r1, 0, none⟩) S2.length q1, .slice (some ⟨r2, 0, none⟩) F2.length q2, .slice (some ⟨r3, 0, none⟩) E2.length q3], .int .i64 (N : Int)] W fun e w' => ∃ t1 u1 t2 u2 t3 u3, e = .returned (.agg #[.int .i64 ((M : Int) + (N : Int)), .int .i64 (m : Int), .slice t1 S2.length u1, .slice t2 F2.length u2, .slice t3 E2.length u3]) ∧ Hid (OwnO W.heap.size w' (.slice t1 S2.length u1) (.slice t2 F2.length u2) (.slice t3 E2.length u3) (movN S2 N) (movN F2 N) (movE E2 N) ∧ Below W.heap.size W w')) := hide (fun W d => moved_any W M S2.length F2.length E2.length (m : Int) (N : Int) _ _ _ q1 q2 q3 S2 F2 E2 rfl rfl rfl (hide (HY.out.on d).rd) hl.out.2.2.2.1 hl.out.2.2.2.2.1 hl.out.2.2.2.2.2 (by omega) (by omega) (hide (fun x hx => by obtain ⟨q, h, rfl⟩ := Hin.out.2.2.1 x hx; omega)) (hide (fun x hx => by obtain ⟨q, h, rfl⟩ := Hin.out.2.2.2 x hx; omega)) (hide HEa.out.2.2))
 have T5 : Hid (∀ W, Below W1.heap.size W1 W → ∀ t1 u1 t2 u2 t3 u3, OwnO W1.heap.size W (.slice t1 S2.length u1) (.slice t2 F2.length u2) (.slice t3 E2.length u3) (movN S2 N) (movN F2 N) (movE E2 N) → Calls Tryz.prog 56 #[.agg #[.int .i64 (N : Int), .int .i64 (m : Int), .slice (some ⟨g1, 0, none⟩) S1.length k1, .slice (some ⟨g2, 0, none⟩) F1.length k2, .slice (some ⟨g3, 0, none⟩) E1.length k3], .agg #[.int .i64 ((M : Int) + (N : Int)), .int .i64 (m : Int), .slice t1 S2.length u1, .slice t2 F2.length u2, .slice t3 E2.length u3]] W fun e w' => ∃ x1 y1 x2 y2 x3 y3, e = .returned (.tuple #[.agg #[.int .i64 rn, .int .i64 rm, .slice x1 rs.length y1, .slice x2 rf.length y2, .slice x3 re.length y3], .int .i64 rr]) ∧ Hid (OwnO w.heap.size w' (.slice x1 rs.length y1) (.slice x2 rf.length y2) (.slice x3 re.length y3) rs rf re ∧ Below W.heap.size W w')) := hide (fun W d t1 u1 t2 u2 t3 u3 ho => by
  have L1 := movN_len S2 (N : Int)
  have L2 := movN_len F2 (N : Int)
  have L3 := movE_len E2 (N : Int)
  have rd : RdA W t1 t2 t3 (movN S2 N) (movN F2 N) (movE E2 N) := by
   have q := ho
   rw [← L1, ← L2, ← L3] at q
   exact q.rd
  have oX := HX.out.on d
  have oF : W.ownsRow W1.heap.size 3 1 (.slice t2 F2.length u2) (movN F2 N).length ((movN F2 N).map (Value.int .i64)) := ho.f
  have sz := HW.out.2.2.2.2.size
  have T := behind_ans W N m S1.length F1.length E1.length S2.length F2.length E2.length ((M : Int) + (N : Int)) (m : Int) _ _ _ t1 t2 t3 k1 k2 k3 u1 u2 u3 S1 F1 (movN S2 N) (movN F2 N) E1 (movE E2 N) (hide ⟨rfl, rfl, rfl, L1, L2, L3⟩) (hide oX.rd) (hide rd) (fun e => none_zero (by have q := ho.s; rw [L1] at q; exact q) e) (by omega) hm hl.out.1 hl.out.2.1 hl.out.2.2.1 hl.out.2.2.2.1 hl.out.2.2.2.2.1 hl.out.2.2.2.2.2 (hide HEa.out.1) (hide HEa.out.2.1) (hide Hin.out.2.1) (fun e => none_zero (by have q := ho.e; rw [L3] at q; exact q) e) (hide Hin.out.1) (M + N) (hide (by omega)) (by omega) (hide (mov_in Hin.out.2.2.1)) (hide (mov_in Hin.out.2.2.2)) w.heap.size (Nat.le_trans sz d.size) (hide oX.s) (hide (owns_down oF sz)) (hide (fun g hg hh => by have q1 := (HX.out.s.lt g hg).2; have q2 := (oF.lt g hh).1; omega)) (fun e => none_zero oX.s e) (fun e => none_zero oX.f e) (fun e => none_zero (by have q := oF; rw [L2] at q; exact q) e) SL FL HSL HFL
  rw [HR.out] at T
  exact T)
 have hmo : MonIL 0 [vI 0 (.agg #[.int .i64 (N : Int), .int .i64 (m : Int), .slice (some ⟨g1, 0, none⟩) S1.length k1, .slice (some ⟨g2, 0, none⟩) F1.length k2, .slice (some ⟨g3, 0, none⟩) E1.length k3]), vI 1 (.agg #[.int .i64 (M : Int), .int .i64 (m : Int), .slice (some ⟨r1, 0, none⟩) S2.length q1, .slice (some ⟨r2, 0, none⟩) F2.length q2, .slice (some ⟨r3, 0, none⟩) E2.length q3]), vI 2 (.pointer (some ⟨w1.heap.size, 0, none⟩)), vI 3 (.int .i64 (N : Int)), pI 4 (dMv W1.heap.size N M m S2 F2 E2), pI 5 (dBh w.heap.size rn rm rs rf re rr), pI 6 (dEx w.heap.size rn rm rs rf re), vI 7 (.int .i64 rr)] := ⟨vI_mono _ _, vI_mono _ _, vI_mono _ _, vI_mono _ _, pI_mono dMv_mono, pI_mono dBh_mono, pI_mono dEx_mono, vI_mono _ _, trivial⟩
 refine wp_region_sl _ (by kernel_rfl) (by kernel_rfl) (by kernel_rfl) (by kernel_rfl) hmo ⟨?o0, ?o1, ?o2, ?o3, ?o4, ?o5, ?o6, ?o7, trivial⟩ ?fin
 case o0 =>
  intro At yy W hy hb d hd K hK
  obtain ⟨s6, s6'⟩ := zsb (hb 6 rfl : _ = .pointer (some ⟨w1.heap.size, 0, none⟩))
  clear hd hy hb
  have bxX := blk_on HW.out.1 d
  have bxY := blk_on HW.out.2.1 d
  obtain ⟨cx0, cx1, cx2, cx3, cx4⟩ := zd5 bxX rfl rfl rfl rfl rfl
  obtain ⟨cy0, cy1, cy2, cy3, cy4⟩ := zd5 bxY rfl rfl rfl rfl rfl
  clear bxX bxY
  go_simp
  exact zkq hK hmo d (if_pos rfl)
 case o1 =>
  intro At yy W hy hb d hd K hK
  obtain ⟨s7, s7'⟩ := zsb (hb 7 rfl : _ = .pointer (some ⟨w1.heap.size + 1, 0, none⟩))
  clear hd hy hb
  have bxX := blk_on HW.out.1 d
  have bxY := blk_on HW.out.2.1 d
  obtain ⟨cx0, cx1, cx2, cx3, cx4⟩ := zd5 bxX rfl rfl rfl rfl rfl
  obtain ⟨cy0, cy1, cy2, cy3, cy4⟩ := zd5 bxY rfl rfl rfl rfl rfl
  clear bxX bxY
  go_simp
  exact zkq hK hmo d (if_pos rfl)
 case o2 =>
  intro At yy W hy hb d hd K hK
  obtain ⟨s6, s6'⟩ := zsb (hb 6 rfl : _ = .pointer (some ⟨w1.heap.size, 0, none⟩))
  clear hd hy hb
  go_simp
  exact zkq hK hmo d (if_pos rfl)
 case o3 =>
  intro At yy W hy hb d hd K hK
  obtain ⟨s29, s29'⟩ := zsg 2 29 .data hy hd rfl
  clear hd hy hb
  have bxX := blk_on HW.out.1 d
  have bxY := blk_on HW.out.2.1 d
  obtain ⟨cx0, cx1, cx2, cx3, cx4⟩ := zd5 bxX rfl rfl rfl rfl rfl
  obtain ⟨cy0, cy1, cy2, cy3, cy4⟩ := zd5 bxY rfl rfl rfl rfl rfl
  clear bxX bxY
  go_simp
  exact zkq hK hmo d (if_pos rfl)
 case o4 =>
  intro At yy W hy hb d hd K hK
  obtain ⟨s28, s28'⟩ := zsg 1 28 .data hy hd rfl
  obtain ⟨s30, s30'⟩ := zsg 3 30 .data hy hd rfl
  clear hd hy hb
  go_simp
  go_wp2_with (go_at_call 50; refine (T4.out _ d).mono ?_; rintro e wa ⟨t1, u1, t2, u2, t3, u3, rfl, hR⟩)
  exact hK.out _ wa (stp_of hmo d hR.out.2) ⟨t1, u1, t2, u2, t3, u3, if_pos rfl, hR.out.1.down d.size⟩
 case o5 =>
  intro At yy W hy hb d hd K hK
  have f4 := hd ⟨4, .data⟩ (by simp) rfl rfl
  obtain ⟨_, _, _, _, t1, u1, t2, u2, t3, u3, e4, h4⟩ := f4
  obtain ⟨s27, s27'⟩ := zsg 0 27 .data hy hd rfl
  obtain ⟨s31, s31'⟩ := zsb ((hy 4 _ 31 rfl rfl).trans e4)
  clear hd hy hb
  go_simp
  go_wp2_with (go_at_call 56; refine (T5.out _ d t1 u1 t2 u2 t3 u3 h4).mono ?_; rintro e wa ⟨x1, y1, x2, y2, x3, y3, rfl, hR⟩)
  exact hK.out _ wa (stp_of hmo d hR.out.2) ⟨x1, y1, x2, y2, x3, y3, if_pos rfl, hR.out.1⟩
 case o6 =>
  intro At yy W hy hb d hd K hK
  have f5 := hd ⟨5, .data⟩ (by simp) rfl rfl
  obtain ⟨_, _, _, _, x1, y1, x2, y2, x3, y3, e5, h5⟩ := f5
  obtain ⟨s32, s32'⟩ := zsb ((hy 5 _ 32 rfl rfl).trans e5)
  clear hd hy hb
  go_simp
  exact zkq hK hmo d ⟨x1, y1, x2, y2, x3, y3, if_pos rfl, h5⟩
 case o7 =>
  intro At yy W hy hb d hd K hK
  have f5 := hd ⟨5, .data⟩ (by simp) rfl rfl
  obtain ⟨_, _, _, _, x1, y1, x2, y2, x3, y3, e5, _⟩ := f5
  obtain ⟨s32, s32'⟩ := zsb ((hy 5 _ 32 rfl rfl).trans e5)
  clear hd hy hb
  go_simp
  exact zkq hK hmo d (if_pos rfl)
 case fin =>
  intro yy lo hi W hM
  show wpList _ _ _ [_, _] _ _
  have e0 := hM.v 0 (by simp) rfl rfl rfl
  have e1 := hM.v 1 (by simp) rfl rfl rfl
  have e2 := hM.v 2 (by simp) rfl rfl rfl
  have e3 := hM.v 3 (by simp) rfl rfl rfl
  have e7 := hM.v 7 (by simp) rfl rfl rfl
  obtain ⟨x1, y1, x2, y2, x3, y3, e6, h6⟩ := hM.fact 6 (by simp) rfl (notR_all 6 rfl)
  obtain ⟨_, _, _, _, _, _, e4, _⟩ := hM.fact 4 (by simp) rfl (notR_all 4 rfl)
  obtain ⟨_, _, _, _, _, _, e5, _⟩ := hM.fact 5 (by simp) rfl (notR_all 5 rfl)
  have HDD := hide hM.d
  simp only [fills, Act.put, List.take, List.length, List.setIfInBounds_toArray, List.set_cons_zero, List.set_cons_succ, e0, e1, e2, e3, e7, e4, e5, e6]
  clear hM hmo e0 e1 e2 e3 e7 e4 e5 e6
  have F4 := blk_on HW.out.2.2.1 HDD.out
  obtain ⟨o0, o1, o2, o3, o4⟩ := zd5 F4 rfl rfl rfl rfl rfl
  have fz0 : W.frozen? ⟨w.heap.size + 1 + 1, 0, none⟩ = false := fz_of F4
  have fz1 : W.frozen? ⟨w.heap.size + 1 + 1, 1, none⟩ = false := fz_of F4
  have fz2 : W.frozen? ⟨w.heap.size + 1 + 1, 2, none⟩ = false := fz_of F4
  have fz3 : W.frozen? ⟨w.heap.size + 1 + 1, 3, none⟩ = false := fz_of F4
  have fz4 : W.frozen? ⟨w.heap.size + 1 + 1, 4, none⟩ = false := fz_of F4
  have O6 := hide (And.intro (set5 W (w.heap.size + 1 + 1) _ _ _ _ _ (.int .i64 rn) (.int .i64 rm) (.slice x1 rs.length y1) (.slice x2 rf.length y2) (.slice x3 re.length y3) 25 F4) (only5 W (w.heap.size + 1 + 1) (.int .i64 rn) (.int .i64 rm) (.slice x1 rs.length y1) (.slice x2 rf.length y2) (.slice x3 re.length y3)))
  have HO := hide (h6.keep F4 O6.out.2)
  clear F4 h6
  go_wp2_with fail
  refine bodyPost_ret (results_c1 (p := 4) (q := 5) (ty := 25) rfl _ _ (w.heap.size + 1 + 1) 25 _ (0, 0) _ _ rfl rfl O6.out.1 Tryz.underlying25 rfl (by kernel_rfl)) rfl ?_
  have s1 := HDD.out.size
  have s2 := HW.out.2.2.2.1
  have dw := HW.out.2.2.2.2
  exact ⟨x1, y1, x2, y2, x3, y3, rfl, hide HO.out, (dw.trans (HDD.out.mono dw.size)).trans (O6.out.2.toBelow (by omega) (fun k hk => by omega))⟩
end Go.Proofs.YtchoopnjckcohaaGreatDoor
