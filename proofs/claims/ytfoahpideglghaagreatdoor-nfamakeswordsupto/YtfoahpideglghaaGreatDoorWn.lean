import Derived.Test.YtfoahpideglghaaGreatDoorWv
import Derived.Test.YtfoahpideglghaaGreatDoorSa
import Derived.Test.YtfoahpideglghaaGreatDoorMM
import Derived.Test.YtfoahpideglghaaGreatDoorUW
import Derived.Test.YtfoahpideglghaaGreatDoorEq
namespace Go.Proofs.YtfoahpideglghaaGreatDoor
open Go.RowKit Go.Maps Go.Shelf
attribute [local go_sem] Oper.semAt_some

/-- What NfaMakesWords holds behind its first seven regions. -/
structure Opn (w W0 : World) (N : Nat) (m : Int) (arr : Array Value) (S1 F1 : List Int) (E1 T1 : List EdT) (bn n1 kn1 n2 kn2 n3 kn3 br r1 kr1 r2 kr2 r3 kr3 bg t1 kt1 t2 kt2 t3 kt3 : Nat) (W : World) : Prop where
  d : Below W0.heap.size W0 W
  a : W.heap[w.heap.size]? = some (.cells arr 27 (0, 0))
  n : W.heap[bn]? = some (.cells #[.int .i64 (N : Int), .int .i64 m, .slice (some ⟨n1, 0, none⟩) (S1).length kn1, .slice (some ⟨n2, 0, none⟩) (F1).length kn2, .slice (some ⟨n3, 0, none⟩) (E1).length kn3] 25 (0, 0))
  r : W.heap[br]? = some (.cells #[.int .i64 (N : Int), .int .i64 m, .slice (some ⟨r1, 0, none⟩) (F1).length kr1, .slice (some ⟨r2, 0, none⟩) (S1).length kr2, .slice (some ⟨r3, 0, none⟩) (T1).length kr3] 25 (0, 0))
  g : W.heap[bg]? = some (.cells #[.int .i64 (N : Int), .int .i64 m, .slice (some ⟨t1, 0, none⟩) (S1).length kt1, .slice (some ⟨t2, 0, none⟩) (F1).length kt2, .slice (some ⟨t3, 0, none⟩) (E1).length kt3] 25 (0, 0))
  rn : RdA W (some ⟨n1, 0, none⟩) (some ⟨n2, 0, none⟩) (some ⟨n3, 0, none⟩) (S1) (F1) (E1)
  rr : RdA W (some ⟨r1, 0, none⟩) (some ⟨r2, 0, none⟩) (some ⟨r3, 0, none⟩) (F1) (S1) (T1)
  rg : RdA W (some ⟨t1, 0, none⟩) (some ⟨t2, 0, none⟩) (some ⟨t3, 0, none⟩) (S1) (F1) (E1)
theorem Opn.on {w W0 : World} {N : Nat} {m : Int} {arr : Array Value} {S1 F1 : List Int} {E1 T1 : List EdT} {bn n1 kn1 n2 kn2 n3 kn3 br r1 kr1 r2 kr2 r3 kr3 bg t1 kt1 t2 kt2 t3 kt3 : Nat} {W W' : World} (h : Opn w W0 N m arr S1 F1 E1 T1 bn n1 kn1 n2 kn2 n3 kn3 br r1 kr1 r2 kr2 r3 kr3 bg t1 kt1 t2 kt2 t3 kt3 W) (d : Below W.heap.size W W') : Opn w W0 N m arr S1 F1 E1 T1 bn n1 kn1 n2 kn2 n3 kn3 br r1 kr1 r2 kr2 r3 kr3 bg t1 kt1 t2 kt2 t3 kt3 W' :=
  ⟨h.d.trans (d.mono h.d.size), blk_on h.a d, blk_on h.n d, blk_on h.r d, blk_on h.g d, h.rn.on d, h.rr.on d, h.rg.on d⟩
/-- What is known behind a call that makes an automaton. -/
def P13 (wg : World) (ys : Bool) (q : Prop) (ers : Int → Prop) (n m : Int) (XS XF : List Int) (XE : List EdT) (f y u : Value) (W : World) : Prop :=
  y = .bool ys ∧ Below wg.heap.size wg W ∧ ((∃ er : Int, ers er ∧ f = .int .i64 er) ∨ (f = .int .i64 0 ∧ q ∧ ∃ b v1 kv1 v2 kv2 v3 kv3, u = .pointer (some ⟨b, 0, none⟩) ∧ W.heap[b]? = some (.cells #[.int .i64 n, .int .i64 m, .slice (some ⟨v1, 0, none⟩) (XS).length kv1, .slice (some ⟨v2, 0, none⟩) (XF).length kv2, .slice (some ⟨v3, 0, none⟩) (XE).length kv3] 25 (0, 0)) ∧ RdA W (some ⟨v1, 0, none⟩) (some ⟨v2, 0, none⟩) (some ⟨v3, 0, none⟩) (XS) (XF) (XE)))
theorem p13_ok {wg W : World} {ys : Bool} {q : Prop} {ers : Int → Prop} {n m : Int} {XS XF : List Int} {XE : List EdT} {b v1 kv1 v2 kv2 v3 kv3 : Nat} (hq : q) (h : W.heap[b]? = some (.cells #[.int .i64 n, .int .i64 m, .slice (some ⟨v1, 0, none⟩) (XS).length kv1, .slice (some ⟨v2, 0, none⟩) (XF).length kv2, .slice (some ⟨v3, 0, none⟩) (XE).length kv3] 25 (0, 0)) ∧ RdA W (some ⟨v1, 0, none⟩) (some ⟨v2, 0, none⟩) (some ⟨v3, 0, none⟩) (XS) (XF) (XE) ∧ Below wg.heap.size wg W) : P13 wg ys q ers n m XS XF XE (.int .i64 0) (.bool ys) (.pointer (some ⟨b, 0, none⟩)) W := ⟨rfl, h.2.2, Or.inr ⟨rfl, hq, b, v1, kv1, v2, kv2, v3, kv3, rfl, h.1, h.2.1⟩⟩
theorem p13_no {wg W : World} {ys : Bool} {q : Prop} {ers : Int → Prop} {n m er : Int} {XS XF : List Int} {XE : List EdT} {u : Value} (h : ers er) (D : Below wg.heap.size wg W) : P13 wg ys q ers n m XS XF XE (.int .i64 er) (.bool ys) u W := ⟨rfl, D, Or.inl ⟨er, h, rfl⟩⟩
/-- A row of one number, made anew. -/
def oneP (v : Value) : MkP := fun x lo hi W => x = .slice (some ⟨lo, 0, none⟩) 1 1 ∧ lo < hi ∧ W.heap[lo]? = some (.cells #[v] 3 (0, 0))
theorem oneP_mono {v : Value} : MonoP (oneP v) := fun _ _ _ _ _ hs d ⟨e, l, z⟩ => ⟨e, l, (d.block _ (by omega)).trans z⟩
theorem one_cells {W : World} {v : Value} {t : TypeId} {p : Nat} (z : W.heap[p]? = some (.cells #[v] t (0, 0))) : ∀ (j : Nat) (u : Value), [v][j]? = some u → W.cell? ((⟨p, 0, none⟩ : Addr).add j) = some u := fun j u hu => by
  cases j with
  | zero =>
    obtain rfl : v = u := by simpa using hu
    rw [Addr.add_lit]
    exact cell_of z rfl
  | succ j => simp at hu
theorem own_below {W W' : World} {B n sz : Nat} {e : TypeId} {v : Value} {xs : List Value} (h : W.ownsRow B e sz v n xs) (d : Below W.heap.size W W') : W'.ownsRow B e sz v n xs := by
  refine ⟨h.1, ?_⟩
  rcases h.2 with h1 | ⟨g, cap, cur, hv, hb, hg, rest⟩
  · exact Or.inl h1
  · exact Or.inr ⟨g, cap, cur, hv, hb, blk_on hg d, rest⟩
set_option maxRecDepth 100000 in
set_option maxHeartbeats 4000000 in
theorem words_ok (w : World) (N : Nat) (m nb mb sym kk : Int) (a1 a2 a3 b1 b2 b3 q1 p1 u1 o1 : Option Addr) (c1 c2 c3 d1 d2 d3 lq cq lp cp cw co : Nat) (St Fi Sb Fb Wd To : List Int) (Ed Eb : List EdT) (hT : Hid (TabAt w ∧ 0 < w.heap.size)) (hA : Hid (RdA w a1 a2 a3 St Fi Ed)) (hB : Hid (RdA w b1 b2 b3 Sb Fb Eb)) (hU : Hid (RdN w u1 Wd)) (hO : Hid (RdN w o1 To)) (h1 : St.length ≤ 1048576) (h2 : Fi.length ≤ 1048576) (h3 : Ed.length ≤ 1048576) (h4 : Sb.length ≤ 1048576) (h5 : Fb.length ≤ 1048576) (h6 : Eb.length ≤ 1048576) (h7 : Wd.length ≤ 1048576) (h8 : To.length ≤ 1048576) (em : mayA N m St Fi Ed = true) :
    Calls Tryz.prog 5 #[.agg #[.int .i64 (N : Int), .int .i64 m, .slice a1 St.length c1, .slice a2 Fi.length c2, .slice a3 Ed.length c3, .int .i64 nb, .int .i64 mb, .slice b1 Sb.length d1, .slice b2 Fb.length d2, .slice b3 Eb.length d3, .slice q1 lq cq, .slice p1 lp cp, .int .i64 sym, .slice u1 Wd.length cw, .int .i64 kk, .slice o1 To.length co]] w fun e w' => e = .returned (.bool true) ∧ Below w.heap.size w w' := by
  obtain ⟨W0, hW0⟩ : ∃ W0, w.alloc (.cells #[.int .i64 (N : Int), .int .i64 m, .slice a1 St.length c1, .slice a2 Fi.length c2, .slice a3 Ed.length c3, .int .i64 nb, .int .i64 mb, .slice b1 Sb.length d1, .slice b2 Fb.length d2, .slice b3 Eb.length d3, .slice q1 lq cq, .slice p1 lp cp, .int .i64 sym, .slice u1 Wd.length cw, .int .i64 kk, .slice o1 To.length co] 27) = W0 := ⟨_, rfl⟩
  have D0 : Hid (Below w.heap.size w W0) := hide (by rw [← hW0]; exact alloc_below _ _)
  have B0 : Hid (W0.heap[w.heap.size]? = some (.cells #[.int .i64 (N : Int), .int .i64 m, .slice a1 St.length c1, .slice a2 Fi.length c2, .slice a3 Ed.length c3, .int .i64 nb, .int .i64 mb, .slice b1 Sb.length d1, .slice b2 Fb.length d2, .slice b3 Eb.length d3, .slice q1 lq cq, .slice p1 lp cp, .int .i64 sym, .slice u1 Wd.length cw, .int .i64 kk, .slice o1 To.length co] 27 (0, 0))) := hide (by rw [← hW0]; exact World.alloc_heap_new _ _)
  have KW : Hid (∀ W, Below W0.heap.size W0 W → Below w.heap.size w W) := hide (fun W d => D0.out.trans (d.mono D0.out.size))
  have T10 : Hid (∀ W, Below W0.heap.size W0 W → Calls Tryz.prog 10 #[.agg #[.int .i64 (N : Int), .int .i64 m, .slice a1 St.length c1, .slice a2 Fi.length c2, .slice a3 Ed.length c3]] W fun e w' => ∃ s1 ks1 s2 ks2 s3 ks3, e = .returned (.agg #[.int .i64 (N : Int), .int .i64 m, .slice (some ⟨s1, 0, none⟩) (St).length ks1, .slice (some ⟨s2, 0, none⟩) (Fi).length ks2, .slice (some ⟨s3, 0, none⟩) (Ed).length ks3]) ∧ Hid (RdA w' (some ⟨s1, 0, none⟩) (some ⟨s2, 0, none⟩) (some ⟨s3, 0, none⟩) (St) (Fi) (Ed)) ∧ Below W0.heap.size W0 w' ∧ Below W.heap.size W w') := hide (fun W d => by
    refine (twin_any W (N : Int) m a1 a2 a3 c1 c2 c3 St Fi Ed (hide (hA.out.on (KW.out W d))) (by omega) (by omega) (by omega)).mono ?_
    rintro e w' ⟨g1, k1, g2, k2, g3, k3, he, ht, dd⟩
    exact ⟨g1, k1, g2, k2, g3, k3, he, hide ht.out.rd, d.trans (dd.mono d.size), dd⟩)
  have T8 : Calls Tryz.prog 8 #[] W0 fun e w' => e = .returned (.bool true) ∧ Below W0.heap.size W0 w' := works_any W0 (hide ⟨hT.out.1.below D0.out hT.out.2, Nat.lt_of_lt_of_le hT.out.2 D0.out.size⟩)
  have SK : Hid (∀ W, Below W0.heap.size W0 W → (fun W => (W.cell? ⟨w.heap.size, 0, none⟩ = some (.int .i64 (N : Int)) ∧ W.cell? ⟨w.heap.size, 1, none⟩ = some (.int .i64 m) ∧ W.cell? ⟨w.heap.size, 2, none⟩ = some (.slice a1 St.length c1) ∧ W.cell? ⟨w.heap.size, 3, none⟩ = some (.slice a2 Fi.length c2) ∧ W.cell? ⟨w.heap.size, 4, none⟩ = some (.slice a3 Ed.length c3) ∧ Hid (Below W0.heap.size W0 W))) W) := hide (fun W d => by
    have e0 := blk_on B0.out d
    exact ⟨cell_of e0 rfl, cell_of e0 rfl, cell_of e0 rfl, cell_of e0 rfl, cell_of e0 rfl, hide d⟩)
  have SD : Hid (∀ W, (fun W => (W.cell? ⟨w.heap.size, 0, none⟩ = some (.int .i64 (N : Int)) ∧ W.cell? ⟨w.heap.size, 1, none⟩ = some (.int .i64 m) ∧ W.cell? ⟨w.heap.size, 2, none⟩ = some (.slice a1 St.length c1) ∧ W.cell? ⟨w.heap.size, 3, none⟩ = some (.slice a2 Fi.length c2) ∧ W.cell? ⟨w.heap.size, 4, none⟩ = some (.slice a3 Ed.length c3) ∧ Hid (Below W0.heap.size W0 W))) W → Below W0.heap.size W0 W) := hide (fun W h => h.2.2.2.2.2.out)
  have HEM := hide em
  clear em
  obtain ⟨S1, hS1⟩ : ∃ X, riseL St = X := ⟨_, rfl⟩
  obtain ⟨F1, hF1⟩ : ∃ X, riseL Fi = X := ⟨_, rfl⟩
  obtain ⟨E1, hE1⟩ : ∃ X, riseE Ed = X := ⟨_, rfl⟩
  obtain ⟨T1, hT1⟩ : ∃ X, riseE (turnE Ed) = X := ⟨_, rfl⟩
  have HL : Hid (S1.length ≤ 1048576 ∧ F1.length ≤ 1048576 ∧ E1.length ≤ 1048576 ∧ T1.length ≤ 1048576) := hide ⟨by rw [← hS1]; exact Nat.le_trans (riseL_len _) h1, by rw [← hF1]; exact Nat.le_trans (riseL_len _) h2, by rw [← hE1]; exact Nat.le_trans (riseE_len _) h3, by rw [← hT1]; exact Nat.le_trans (riseE_len _) (by rw [turnE_len]; exact h3)⟩
  have HQ := hide (And.intro hS1 (And.intro hF1 (And.intro hE1 hT1)))
  clear hS1 hF1 hE1 hT1
  have TN : Hid (∀ (W : World) (s1 ks1 s2 ks2 s3 ks3 : Nat), RdA W (some ⟨s1, 0, none⟩) (some ⟨s2, 0, none⟩) (some ⟨s3, 0, none⟩) (St) (Fi) (Ed) → Calls Tryz.prog 21 #[.agg #[.int .i64 (N : Int), .int .i64 m, .slice (some ⟨s1, 0, none⟩) (St).length ks1, .slice (some ⟨s2, 0, none⟩) (Fi).length ks2, .slice (some ⟨s3, 0, none⟩) (Ed).length ks3]] W fun e w' => ∃ n1 kn1 n2 kn2 n3 kn3, e = .returned (.tuple #[.agg #[.int .i64 (N : Int), .int .i64 m, .slice (some ⟨n1, 0, none⟩) (S1).length kn1, .slice (some ⟨n2, 0, none⟩) (F1).length kn2, .slice (some ⟨n3, 0, none⟩) (E1).length kn3], .int .i64 0]) ∧ Hid (RdA w' (some ⟨n1, 0, none⟩) (some ⟨n2, 0, none⟩) (some ⟨n3, 0, none⟩) (S1) (F1) (E1)) ∧ Below W.heap.size W w') := hide (fun W s1 ks1 s2 ks2 s3 ks3 hR => by
    have t := normal_ok W N m (some ⟨s1, 0, none⟩) (some ⟨s2, 0, none⟩) (some ⟨s3, 0, none⟩) ks1 ks2 ks3 St Fi Ed (hide hR) (by omega) (by omega) (by omega) HEM.out
    rw [HQ.out.1, HQ.out.2.1, HQ.out.2.2.1] at t
    refine t.mono ?_
    rintro e w' ⟨g1, k1, g2, k2, g3, k3, he, ho, dd⟩
    exact ⟨g1, k1, g2, k2, g3, k3, he, hide ho.rd, dd⟩)
  have TR : Hid (∀ (W : World) (s1 ks1 s2 ks2 s3 ks3 : Nat), RdA W (some ⟨s1, 0, none⟩) (some ⟨s2, 0, none⟩) (some ⟨s3, 0, none⟩) (St) (Fi) (Ed) → Calls Tryz.prog 23 #[.agg #[.int .i64 (N : Int), .int .i64 m, .slice (some ⟨s1, 0, none⟩) (St).length ks1, .slice (some ⟨s2, 0, none⟩) (Fi).length ks2, .slice (some ⟨s3, 0, none⟩) (Ed).length ks3]] W fun e w' => ∃ r1 kr1 r2 kr2 r3 kr3, e = .returned (.tuple #[.agg #[.int .i64 (N : Int), .int .i64 m, .slice (some ⟨r1, 0, none⟩) (F1).length kr1, .slice (some ⟨r2, 0, none⟩) (S1).length kr2, .slice (some ⟨r3, 0, none⟩) (T1).length kr3], .int .i64 0]) ∧ Hid (RdA w' (some ⟨r1, 0, none⟩) (some ⟨r2, 0, none⟩) (some ⟨r3, 0, none⟩) (F1) (S1) (T1)) ∧ Below W.heap.size W w') := hide (fun W s1 ks1 s2 ks2 s3 ks3 hR => by
    have t := reverse_ok W N m (some ⟨s1, 0, none⟩) (some ⟨s2, 0, none⟩) (some ⟨s3, 0, none⟩) ks1 ks2 ks3 St Fi Ed (hide hR) (by omega) (by omega) (by omega) HEM.out
    rw [HQ.out.1, HQ.out.2.1, HQ.out.2.2.2] at t
    refine t.mono ?_
    rintro e w' ⟨g1, k1, g2, k2, g3, k3, he, ho, dd⟩
    exact ⟨g1, k1, g2, k2, g3, k3, he, hide ho.rd, dd⟩)
  have TG : Hid (∀ (W : World) (r1 kr1 r2 kr2 r3 kr3 : Nat), RdA W (some ⟨r1, 0, none⟩) (some ⟨r2, 0, none⟩) (some ⟨r3, 0, none⟩) (F1) (S1) (T1) → Calls Tryz.prog 23 #[.agg #[.int .i64 (N : Int), .int .i64 m, .slice (some ⟨r1, 0, none⟩) (F1).length kr1, .slice (some ⟨r2, 0, none⟩) (S1).length kr2, .slice (some ⟨r3, 0, none⟩) (T1).length kr3]] W fun e w' => ∃ t1 kt1 t2 kt2 t3 kt3, e = .returned (.tuple #[.agg #[.int .i64 (N : Int), .int .i64 m, .slice (some ⟨t1, 0, none⟩) (S1).length kt1, .slice (some ⟨t2, 0, none⟩) (F1).length kt2, .slice (some ⟨t3, 0, none⟩) (E1).length kt3], .int .i64 0]) ∧ Hid (RdA w' (some ⟨t1, 0, none⟩) (some ⟨t2, 0, none⟩) (some ⟨t3, 0, none⟩) (S1) (F1) (E1)) ∧ Below W.heap.size W w') := hide (fun W r1 kr1 r2 kr2 r3 kr3 hR => by
    have t := reverse_ok W N m (some ⟨r1, 0, none⟩) (some ⟨r2, 0, none⟩) (some ⟨r3, 0, none⟩) kr1 kr2 kr3 F1 S1 T1 (hide hR) (by have := HL.out; omega) (by have := HL.out; omega) (by have := HL.out; omega) (by rw [← HQ.out.1, ← HQ.out.2.1, ← HQ.out.2.2.2]; exact may_turn HEM.out)
    rw [← HQ.out.1, ← HQ.out.2.1, ← HQ.out.2.2.2, riseL_idem, riseL_idem, rise_turn2, HQ.out.1, HQ.out.2.1, HQ.out.2.2.1] at t
    rw [HQ.out.2.2.2] at t
    refine t.mono ?_
    rintro e w' ⟨g1, k1, g2, k2, g3, k3, he, ho, dd⟩
    exact ⟨g1, k1, g2, k2, g3, k3, he, hide ho.rd, dd⟩)
  go_enter Tryz.func5, Tryz.ntmps5
  go_upto_region 3 with (go_at_call 8; refine T8.mono ?_; rintro e w1 ⟨rfl, D1⟩)
  have HD1 := hide D1
  clear D1 T8
  go_cut [3, 4] from 3 to 24 (fun p e W => ∃ b n1 kn1 n2 kn2 n3 kn3, p = .pointer (some ⟨b, 0, none⟩) ∧ e = .int .i64 0 ∧ Hid (W.heap[b]? = some (.cells #[.int .i64 (N : Int), .int .i64 m, .slice (some ⟨n1, 0, none⟩) (S1).length kn1, .slice (some ⟨n2, 0, none⟩) (F1).length kn2, .slice (some ⟨n3, 0, none⟩) (E1).length kn3] 25 (0, 0)) ∧ RdA W (some ⟨n1, 0, none⟩) (some ⟨n2, 0, none⟩) (some ⟨n3, 0, none⟩) (S1) (F1) (E1) ∧ Below W0.heap.size W0 W))
  case first =>
    obtain ⟨y0, y1, y2, y3, y4, _⟩ := SK.out w1 HD1.out
    go_wp2_with (first
      | (go_at_call 10; refine (T10.out _ HD1.out).mono ?_; rintro e w2 ⟨s1, ks1, s2, ks2, s3, ks3, rfl, hA1, D2, d2⟩)
      | (go_at_call 21; refine (TN.out _ _ _ _ _ _ _ hA1.out).mono ?_; rintro e w3 ⟨n1, kn1, n2, kn2, n3, kn3, rfl, hN, d3⟩; have D3 := D2.trans (d3.mono D2.size)))
    go_meet
    exact ⟨_, n1, kn1, n2, kn2, n3, kn3, rfl, rfl, hide ⟨World.alloc_heap_new _ _, hN.out.on (alloc_below _ _), D3.alloc D3.size _⟩⟩
  case rest =>
    obtain ⟨bn, n1, kn1, n2, kn2, n3, kn3, rfl, rfl, HN⟩ := hcut
    rename World => wn
    clear HD1 w1
    go_upto_region 6 with fail
    go_cut [5, 6] from 5 to 42 (fun p e W => ∃ b r1 kr1 r2 kr2 r3 kr3, p = .pointer (some ⟨b, 0, none⟩) ∧ e = .int .i64 0 ∧ Hid (W.heap[b]? = some (.cells #[.int .i64 (N : Int), .int .i64 m, .slice (some ⟨r1, 0, none⟩) (F1).length kr1, .slice (some ⟨r2, 0, none⟩) (S1).length kr2, .slice (some ⟨r3, 0, none⟩) (T1).length kr3] 25 (0, 0)) ∧ RdA W (some ⟨r1, 0, none⟩) (some ⟨r2, 0, none⟩) (some ⟨r3, 0, none⟩) (F1) (S1) (T1) ∧ Below wn.heap.size wn W))
    case first =>
      obtain ⟨y0, y1, y2, y3, y4, _⟩ := SK.out wn HN.out.2.2
      have HNr : Hid (Below wn.heap.size wn wn) := hide (Below.refl _ _)
      go_wp2_with (first
        | (go_at_call 10; refine (T10.out _ HN.out.2.2).mono ?_; rintro e w2 ⟨s1, ks1, s2, ks2, s3, ks3, rfl, hA1, D2, d2⟩)
        | (go_at_call 23; refine (TR.out _ _ _ _ _ _ _ hA1.out).mono ?_; rintro e w3 ⟨r1, kr1, r2, kr2, r3, kr3, rfl, hN, d3⟩; have D3 := d2.trans (d3.mono d2.size)))
      go_meet
      exact ⟨_, r1, kr1, r2, kr2, r3, kr3, rfl, rfl, hide ⟨World.alloc_heap_new _ _, hN.out.on (alloc_below _ _), D3.alloc D3.size _⟩⟩
    case rest =>
      obtain ⟨br, r1, kr1, r2, kr2, r3, kr3, rfl, rfl, HR⟩ := hcut
      rename World => wr
      go_upto_region 7 with fail
      go_cut [7, 8] from 7 to 47 (fun p e W => ∃ b t1 kt1 t2 kt2 t3 kt3, p = .pointer (some ⟨b, 0, none⟩) ∧ e = .int .i64 0 ∧ Hid (W.heap[b]? = some (.cells #[.int .i64 (N : Int), .int .i64 m, .slice (some ⟨t1, 0, none⟩) (S1).length kt1, .slice (some ⟨t2, 0, none⟩) (F1).length kt2, .slice (some ⟨t3, 0, none⟩) (E1).length kt3] 25 (0, 0)) ∧ RdA W (some ⟨t1, 0, none⟩) (some ⟨t2, 0, none⟩) (some ⟨t3, 0, none⟩) (S1) (F1) (E1) ∧ Below wr.heap.size wr W))
      case first =>
        have y0 : wr.cell? ⟨br, 0, none⟩ = some (.int .i64 (N : Int)) := cell_of HR.out.1 rfl
        have y1 : wr.cell? ⟨br, 1, none⟩ = some (.int .i64 m) := cell_of HR.out.1 rfl
        have y2 : wr.cell? ⟨br, 2, none⟩ = some (.slice (some ⟨r1, 0, none⟩) (F1).length kr1) := cell_of HR.out.1 rfl
        have y3 : wr.cell? ⟨br, 3, none⟩ = some (.slice (some ⟨r2, 0, none⟩) (S1).length kr2) := cell_of HR.out.1 rfl
        have y4 : wr.cell? ⟨br, 4, none⟩ = some (.slice (some ⟨r3, 0, none⟩) (T1).length kr3) := cell_of HR.out.1 rfl
        go_wp2_with (go_at_call 23; refine (TG.out _ _ _ _ _ _ _ HR.out.2.1).mono ?_; rintro e w3 ⟨t1, kt1, t2, kt2, t3, kt3, rfl, hN, D3⟩)
        go_meet
        exact ⟨_, t1, kt1, t2, kt2, t3, kt3, rfl, rfl, hide ⟨World.alloc_heap_new _ _, hN.out.on (alloc_below _ _), D3.alloc D3.size _⟩⟩
      case rest =>
        obtain ⟨bg, t1, kt1, t2, kt2, t3, kt3, rfl, rfl, HG⟩ := hcut
        rename World => wg
        have OP : Hid (Opn w W0 N m #[.int .i64 (N : Int), .int .i64 m, .slice a1 St.length c1, .slice a2 Fi.length c2, .slice a3 Ed.length c3, .int .i64 nb, .int .i64 mb, .slice b1 Sb.length d1, .slice b2 Fb.length d2, .slice b3 Eb.length d3, .slice q1 lq cq, .slice p1 lp cp, .int .i64 sym, .slice u1 Wd.length cw, .int .i64 kk, .slice o1 To.length co] S1 F1 E1 T1 bn n1 kn1 n2 kn2 n3 kn3 br r1 kr1 r2 kr2 r3 kr3 bg t1 kt1 t2 kt2 t3 kt3 wg) := hide (by
          have e1 := HR.out.2.2
          have e2 := HG.out.2.2
          have dn := HN.out.2.2
          have dr := dn.trans (e1.mono dn.size)
          exact ⟨dr.trans (e2.mono dr.size), blk_on B0.out (dr.trans (e2.mono dr.size)), blk_on (blk_on HN.out.1 e1) e2, blk_on HR.out.1 e2, HG.out.1, (HN.out.2.1.on e1).on e2, HR.out.2.1.on e2, HG.out.2.1⟩)
        clear HN HR HG wn wr TN TR TG
        obtain ⟨ys, hys⟩ : ∃ ys, tkB N m St Fi Ed Wd = ys := ⟨_, rfl⟩
        obtain ⟨R, hR⟩ : ∃ R, R = Wd.reverse := ⟨_, rfl⟩
        have HRl : Hid (R.length ≤ 1048576) := hide (by rw [hR, List.length_reverse]; exact h7)
        have YY : Hid (tkB N m St Fi Ed Wd = ys) := hide hys
        have YN : Hid (tkB N m S1 F1 E1 Wd = ys) := hide (by rw [← HQ.out.1, ← HQ.out.2.1, ← HQ.out.2.2.1, tk_normal HEM.out]; exact hys)
        have YR : Hid (tkB N m F1 S1 T1 R = ys) := hide (by rw [← HQ.out.1, ← HQ.out.2.1, ← HQ.out.2.2.2, hR, tk_turn HEM.out]; exact hys)
        have HR := hide hR
        clear hys hR
        have TA : Hid (∀ W, Below wg.heap.size wg W → TabAt W ∧ 0 < W.heap.size) := hide (fun W d => by
          have d2 := KW.out W (OP.out.on d).d
          exact ⟨hT.out.1.below d2 hT.out.2, Nat.lt_of_lt_of_le hT.out.2 d2.size⟩)
        have G10 : Hid (∀ W, Below wg.heap.size wg W → Calls Tryz.prog 10 #[.agg #[.int .i64 (N : Int), .int .i64 m, .slice a1 St.length c1, .slice a2 Fi.length c2, .slice a3 Ed.length c3]] W fun e w' => ∃ s1 ks1 s2 ks2 s3 ks3, e = .returned (.agg #[.int .i64 (N : Int), .int .i64 m, .slice (some ⟨s1, 0, none⟩) (St).length ks1, .slice (some ⟨s2, 0, none⟩) (Fi).length ks2, .slice (some ⟨s3, 0, none⟩) (Ed).length ks3]) ∧ Hid (RdA w' (some ⟨s1, 0, none⟩) (some ⟨s2, 0, none⟩) (some ⟨s3, 0, none⟩) (St) (Fi) (Ed)) ∧ Below wg.heap.size wg w' ∧ Below W.heap.size W w') := hide (fun W d => (T10.out W (OP.out.on d).d).mono fun e w' ⟨s1, ks1, s2, ks2, s3, ks3, he, hr, _, dd⟩ => ⟨s1, ks1, s2, ks2, s3, ks3, he, hr, d.trans (dd.mono d.size), dd⟩)
        have G11 : Hid (∀ W, Below wg.heap.size wg W → Calls Tryz.prog 11 #[.slice u1 Wd.length cw] W fun e w' => ∃ g c, e = .returned (.slice (some ⟨g, 0, none⟩) Wd.length c) ∧ Hid (RdN w' (some ⟨g, 0, none⟩) Wd) ∧ Below wg.heap.size wg w' ∧ Below W.heap.size W w') := hide (fun W d => by
          refine (ints_any W u1 Wd cw (hide (hU.out.on (KW.out W (OP.out.on d).d))) (by omega)).mono ?_
          rintro e w' ⟨g, c, he, hm, dd⟩
          exact ⟨g, c, he, hide hm.out.rd, d.trans (dd.mono d.size), dd⟩)
        have G27 : Hid (∀ W, Below wg.heap.size wg W → Calls Tryz.prog 27 #[.slice u1 Wd.length cw] W fun e w' => ∃ b c, e = .returned (.slice b R.length c) ∧ Hid (RdN w' b R) ∧ Below wg.heap.size wg w' ∧ Below W.heap.size W w') := hide (fun W d => by
          refine (lturned_any W u1 Wd R cw (hide (hU.out.on (KW.out W (OP.out.on d).d))) HR (by omega)).mono ?_
          rintro e w' ⟨b, c, he, hm, dd⟩
          exact ⟨b, c, he, hm, d.trans (dd.mono d.size), dd⟩)
        have G24 : Hid (∀ (W : World) (s1 ks1 s2 ks2 s3 ks3 : Nat), Below wg.heap.size wg W → RdA W (some ⟨s1, 0, none⟩) (some ⟨s2, 0, none⟩) (some ⟨s3, 0, none⟩) (St) (Fi) (Ed) → Calls Tryz.prog 24 #[.agg #[.int .i64 (N : Int), .int .i64 m, .slice (some ⟨t1, 0, none⟩) (S1).length kt1, .slice (some ⟨t2, 0, none⟩) (F1).length kt2, .slice (some ⟨t3, 0, none⟩) (E1).length kt3], .agg #[.int .i64 (N : Int), .int .i64 m, .slice (some ⟨s1, 0, none⟩) (St).length ks1, .slice (some ⟨s2, 0, none⟩) (Fi).length ks2, .slice (some ⟨s3, 0, none⟩) (Ed).length ks3]] W fun e w' => e = .returned (.bool true) ∧ Below wg.heap.size wg w') := hide (fun W s1 ks1 s2 ks2 s3 ks3 d hR => by
          have t := same_any W N m N m (some ⟨t1, 0, none⟩) (some ⟨t2, 0, none⟩) (some ⟨t3, 0, none⟩) (some ⟨s1, 0, none⟩) (some ⟨s2, 0, none⟩) (some ⟨s3, 0, none⟩) kt1 kt2 kt3 ks1 ks2 ks3 S1 F1 E1 St Fi Ed (hide (OP.out.on d).rg) (hide hR) (by have := HL.out; omega) (by have := HL.out; omega) (by have := HL.out; omega) (by omega) (by omega) (by omega)
          have hs : smB N m N m S1 F1 E1 St Fi Ed = true := by
            unfold smB
            rw [decide_eq_true_eq, ← HQ.out.1, ← HQ.out.2.1, ← HQ.out.2.2.1]
            exact ⟨may_rise HEM.out, HEM.out, rfl, rfl, riseL_idem _, riseL_idem _, riseE_idem _⟩
          rw [hs] at t
          exact t.mono fun e w' ⟨h, dd⟩ => ⟨h, d.trans (dd.mono d.size)⟩)
        have G25 : Hid (∀ (W : World), Below wg.heap.size wg W → Calls Tryz.prog 25 #[.agg #[.int .i64 (N : Int), .int .i64 m, .slice (some ⟨t1, 0, none⟩) (S1).length kt1, .slice (some ⟨t2, 0, none⟩) (F1).length kt2, .slice (some ⟨t3, 0, none⟩) (E1).length kt3], .agg #[.int .i64 (N : Int), .int .i64 m, .slice (some ⟨n1, 0, none⟩) (S1).length kn1, .slice (some ⟨n2, 0, none⟩) (F1).length kn2, .slice (some ⟨n3, 0, none⟩) (E1).length kn3]] W fun e w' => e = .returned (.bool true) ∧ Below wg.heap.size wg w') := hide (fun W d =>
          (equal_yes W N m (some ⟨t1, 0, none⟩) (some ⟨t2, 0, none⟩) (some ⟨t3, 0, none⟩) (some ⟨n1, 0, none⟩) (some ⟨n2, 0, none⟩) (some ⟨n3, 0, none⟩) kt1 kt2 kt3 kn1 kn2 kn3 S1 F1 E1 (hide (OP.out.on d).rg) (hide (OP.out.on d).rn) (by have := HL.out; omega) (by have := HL.out; omega) (by have := HL.out; omega)).mono fun e w' ⟨h, dd⟩ => ⟨h, d.trans (dd.mono d.size)⟩)
        have GY : Hid (∀ (W : World) (s1 ks1 s2 ks2 s3 ks3 : Nat) (ao : Option Addr) (ka : Nat), Below wg.heap.size wg W → RdA W (some ⟨s1, 0, none⟩) (some ⟨s2, 0, none⟩) (some ⟨s3, 0, none⟩) (St) (Fi) (Ed) → RdN W ao Wd → Calls Tryz.prog 26 #[.agg #[.int .i64 (N : Int), .int .i64 m, .slice (some ⟨s1, 0, none⟩) (St).length ks1, .slice (some ⟨s2, 0, none⟩) (Fi).length ks2, .slice (some ⟨s3, 0, none⟩) (Ed).length ks3], .slice ao Wd.length ka] W fun e w' => e = .returned (.bool ys) ∧ Below wg.heap.size wg w') := hide (fun W s1 ks1 s2 ks2 s3 ks3 ao ka d hA hQ => by
          have t := takes_any W N m (some ⟨s1, 0, none⟩) (some ⟨s2, 0, none⟩) (some ⟨s3, 0, none⟩) ao ks1 ks2 ks3 ka (St) (Fi) (Ed) Wd (hide hA) (hide hQ) (hide (TA.out W d)) (by have := HL.out; omega) (by have := HL.out; omega) (by have := HL.out; omega) (by omega)
          rw [YY.out] at t
          exact t.mono fun e w' ⟨h, dd⟩ => ⟨h, d.trans (dd.mono d.size)⟩)
        have GN : Hid (∀ (W : World) (n1 kn1 n2 kn2 n3 kn3 : Nat) (ao : Option Addr) (ka : Nat), Below wg.heap.size wg W → RdA W (some ⟨n1, 0, none⟩) (some ⟨n2, 0, none⟩) (some ⟨n3, 0, none⟩) (S1) (F1) (E1) → RdN W ao Wd → Calls Tryz.prog 26 #[.agg #[.int .i64 (N : Int), .int .i64 m, .slice (some ⟨n1, 0, none⟩) (S1).length kn1, .slice (some ⟨n2, 0, none⟩) (F1).length kn2, .slice (some ⟨n3, 0, none⟩) (E1).length kn3], .slice ao Wd.length ka] W fun e w' => e = .returned (.bool ys) ∧ Below wg.heap.size wg w') := hide (fun W n1 kn1 n2 kn2 n3 kn3 ao ka d hA hQ => by
          have t := takes_any W N m (some ⟨n1, 0, none⟩) (some ⟨n2, 0, none⟩) (some ⟨n3, 0, none⟩) ao kn1 kn2 kn3 ka (S1) (F1) (E1) Wd (hide hA) (hide hQ) (hide (TA.out W d)) (by have := HL.out; omega) (by have := HL.out; omega) (by have := HL.out; omega) (by omega)
          rw [YN.out] at t
          exact t.mono fun e w' ⟨h, dd⟩ => ⟨h, d.trans (dd.mono d.size)⟩)
        have GR : Hid (∀ (W : World) (r1 kr1 r2 kr2 r3 kr3 : Nat) (ao : Option Addr) (ka : Nat), Below wg.heap.size wg W → RdA W (some ⟨r1, 0, none⟩) (some ⟨r2, 0, none⟩) (some ⟨r3, 0, none⟩) (F1) (S1) (T1) → RdN W ao R → Calls Tryz.prog 26 #[.agg #[.int .i64 (N : Int), .int .i64 m, .slice (some ⟨r1, 0, none⟩) (F1).length kr1, .slice (some ⟨r2, 0, none⟩) (S1).length kr2, .slice (some ⟨r3, 0, none⟩) (T1).length kr3], .slice ao R.length ka] W fun e w' => e = .returned (.bool ys) ∧ Below wg.heap.size wg w') := hide (fun W r1 kr1 r2 kr2 r3 kr3 ao ka d hA hQ => by
          have t := takes_any W N m (some ⟨r1, 0, none⟩) (some ⟨r2, 0, none⟩) (some ⟨r3, 0, none⟩) ao kr1 kr2 kr3 ka (F1) (S1) (T1) R (hide hA) (hide hQ) (hide (TA.out W d)) (by have := HL.out; omega) (by have := HL.out; omega) (by have := HL.out; omega) (by have := HRl.out; omega)
          rw [YR.out] at t
          exact t.mono fun e w' ⟨h, dd⟩ => ⟨h, d.trans (dd.mono d.size)⟩)
        have SK8 : Hid (∀ W, Below wg.heap.size wg W → (fun W => (W.cell? ⟨w.heap.size, 0, none⟩ = some (.int .i64 (N : Int)) ∧ W.cell? ⟨w.heap.size, 1, none⟩ = some (.int .i64 m) ∧ W.cell? ⟨w.heap.size, 2, none⟩ = some (.slice a1 St.length c1) ∧ W.cell? ⟨w.heap.size, 3, none⟩ = some (.slice a2 Fi.length c2) ∧ W.cell? ⟨w.heap.size, 4, none⟩ = some (.slice a3 Ed.length c3) ∧ W.cell? ⟨bg, 0, none⟩ = some (.int .i64 (N : Int)) ∧ W.cell? ⟨bg, 1, none⟩ = some (.int .i64 m) ∧ W.cell? ⟨bg, 2, none⟩ = some (.slice (some ⟨t1, 0, none⟩) (S1).length kt1) ∧ W.cell? ⟨bg, 3, none⟩ = some (.slice (some ⟨t2, 0, none⟩) (F1).length kt2) ∧ W.cell? ⟨bg, 4, none⟩ = some (.slice (some ⟨t3, 0, none⟩) (E1).length kt3) ∧ W.cell? ⟨bn, 0, none⟩ = some (.int .i64 (N : Int)) ∧ W.cell? ⟨bn, 1, none⟩ = some (.int .i64 m) ∧ W.cell? ⟨bn, 2, none⟩ = some (.slice (some ⟨n1, 0, none⟩) (S1).length kn1) ∧ W.cell? ⟨bn, 3, none⟩ = some (.slice (some ⟨n2, 0, none⟩) (F1).length kn2) ∧ W.cell? ⟨bn, 4, none⟩ = some (.slice (some ⟨n3, 0, none⟩) (E1).length kn3) ∧ Hid (Below wg.heap.size wg W))) W) := hide (fun W d => by
          have op := OP.out.on d
          have e0 := op.a
          have e1 := op.n
          have e2 := op.r
          have e3 := op.g
          exact ⟨cell_of e0 rfl, cell_of e0 rfl, cell_of e0 rfl, cell_of e0 rfl, cell_of e0 rfl, cell_of e3 rfl, cell_of e3 rfl, cell_of e3 rfl, cell_of e3 rfl, cell_of e3 rfl, cell_of e1 rfl, cell_of e1 rfl, cell_of e1 rfl, cell_of e1 rfl, cell_of e1 rfl, hide d⟩)
        have SD8 : Hid (∀ W, (fun W => (W.cell? ⟨w.heap.size, 0, none⟩ = some (.int .i64 (N : Int)) ∧ W.cell? ⟨w.heap.size, 1, none⟩ = some (.int .i64 m) ∧ W.cell? ⟨w.heap.size, 2, none⟩ = some (.slice a1 St.length c1) ∧ W.cell? ⟨w.heap.size, 3, none⟩ = some (.slice a2 Fi.length c2) ∧ W.cell? ⟨w.heap.size, 4, none⟩ = some (.slice a3 Ed.length c3) ∧ W.cell? ⟨bg, 0, none⟩ = some (.int .i64 (N : Int)) ∧ W.cell? ⟨bg, 1, none⟩ = some (.int .i64 m) ∧ W.cell? ⟨bg, 2, none⟩ = some (.slice (some ⟨t1, 0, none⟩) (S1).length kt1) ∧ W.cell? ⟨bg, 3, none⟩ = some (.slice (some ⟨t2, 0, none⟩) (F1).length kt2) ∧ W.cell? ⟨bg, 4, none⟩ = some (.slice (some ⟨t3, 0, none⟩) (E1).length kt3) ∧ W.cell? ⟨bn, 0, none⟩ = some (.int .i64 (N : Int)) ∧ W.cell? ⟨bn, 1, none⟩ = some (.int .i64 m) ∧ W.cell? ⟨bn, 2, none⟩ = some (.slice (some ⟨n1, 0, none⟩) (S1).length kn1) ∧ W.cell? ⟨bn, 3, none⟩ = some (.slice (some ⟨n2, 0, none⟩) (F1).length kn2) ∧ W.cell? ⟨bn, 4, none⟩ = some (.slice (some ⟨n3, 0, none⟩) (E1).length kn3) ∧ Hid (Below wg.heap.size wg W))) W → Below wg.heap.size wg W) := hide (fun W h => h.2.2.2.2.2.2.2.2.2.2.2.2.2.2.2.out)
        have SK10 : Hid (∀ W, Below wg.heap.size wg W → (fun W => (W.cell? ⟨w.heap.size, 0, none⟩ = some (.int .i64 (N : Int)) ∧ W.cell? ⟨w.heap.size, 1, none⟩ = some (.int .i64 m) ∧ W.cell? ⟨w.heap.size, 2, none⟩ = some (.slice a1 St.length c1) ∧ W.cell? ⟨w.heap.size, 3, none⟩ = some (.slice a2 Fi.length c2) ∧ W.cell? ⟨w.heap.size, 4, none⟩ = some (.slice a3 Ed.length c3) ∧ W.cell? ⟨w.heap.size, 13, none⟩ = some (.slice u1 Wd.length cw) ∧ Hid (Below wg.heap.size wg W))) W) := hide (fun W d => by
          have op := OP.out.on d
          have e0 := op.a
          have e1 := op.n
          have e2 := op.r
          have e3 := op.g
          exact ⟨cell_of e0 rfl, cell_of e0 rfl, cell_of e0 rfl, cell_of e0 rfl, cell_of e0 rfl, cell_of e0 rfl, hide d⟩)
        have SD10 : Hid (∀ W, (fun W => (W.cell? ⟨w.heap.size, 0, none⟩ = some (.int .i64 (N : Int)) ∧ W.cell? ⟨w.heap.size, 1, none⟩ = some (.int .i64 m) ∧ W.cell? ⟨w.heap.size, 2, none⟩ = some (.slice a1 St.length c1) ∧ W.cell? ⟨w.heap.size, 3, none⟩ = some (.slice a2 Fi.length c2) ∧ W.cell? ⟨w.heap.size, 4, none⟩ = some (.slice a3 Ed.length c3) ∧ W.cell? ⟨w.heap.size, 13, none⟩ = some (.slice u1 Wd.length cw) ∧ Hid (Below wg.heap.size wg W))) W → Below wg.heap.size wg W) := hide (fun W h => h.2.2.2.2.2.2.out)
        have SK11 : Hid (∀ W, Below wg.heap.size wg W → (fun W => (W.cell? ⟨br, 0, none⟩ = some (.int .i64 (N : Int)) ∧ W.cell? ⟨br, 1, none⟩ = some (.int .i64 m) ∧ W.cell? ⟨br, 2, none⟩ = some (.slice (some ⟨r1, 0, none⟩) (F1).length kr1) ∧ W.cell? ⟨br, 3, none⟩ = some (.slice (some ⟨r2, 0, none⟩) (S1).length kr2) ∧ W.cell? ⟨br, 4, none⟩ = some (.slice (some ⟨r3, 0, none⟩) (T1).length kr3) ∧ W.cell? ⟨w.heap.size, 13, none⟩ = some (.slice u1 Wd.length cw) ∧ W.cell? ⟨bn, 0, none⟩ = some (.int .i64 (N : Int)) ∧ W.cell? ⟨bn, 1, none⟩ = some (.int .i64 m) ∧ W.cell? ⟨bn, 2, none⟩ = some (.slice (some ⟨n1, 0, none⟩) (S1).length kn1) ∧ W.cell? ⟨bn, 3, none⟩ = some (.slice (some ⟨n2, 0, none⟩) (F1).length kn2) ∧ W.cell? ⟨bn, 4, none⟩ = some (.slice (some ⟨n3, 0, none⟩) (E1).length kn3) ∧ Hid (Below wg.heap.size wg W))) W) := hide (fun W d => by
          have op := OP.out.on d
          have e0 := op.a
          have e1 := op.n
          have e2 := op.r
          have e3 := op.g
          exact ⟨cell_of e2 rfl, cell_of e2 rfl, cell_of e2 rfl, cell_of e2 rfl, cell_of e2 rfl, cell_of e0 rfl, cell_of e1 rfl, cell_of e1 rfl, cell_of e1 rfl, cell_of e1 rfl, cell_of e1 rfl, hide d⟩)
        have SD11 : Hid (∀ W, (fun W => (W.cell? ⟨br, 0, none⟩ = some (.int .i64 (N : Int)) ∧ W.cell? ⟨br, 1, none⟩ = some (.int .i64 m) ∧ W.cell? ⟨br, 2, none⟩ = some (.slice (some ⟨r1, 0, none⟩) (F1).length kr1) ∧ W.cell? ⟨br, 3, none⟩ = some (.slice (some ⟨r2, 0, none⟩) (S1).length kr2) ∧ W.cell? ⟨br, 4, none⟩ = some (.slice (some ⟨r3, 0, none⟩) (T1).length kr3) ∧ W.cell? ⟨w.heap.size, 13, none⟩ = some (.slice u1 Wd.length cw) ∧ W.cell? ⟨bn, 0, none⟩ = some (.int .i64 (N : Int)) ∧ W.cell? ⟨bn, 1, none⟩ = some (.int .i64 m) ∧ W.cell? ⟨bn, 2, none⟩ = some (.slice (some ⟨n1, 0, none⟩) (S1).length kn1) ∧ W.cell? ⟨bn, 3, none⟩ = some (.slice (some ⟨n2, 0, none⟩) (F1).length kn2) ∧ W.cell? ⟨bn, 4, none⟩ = some (.slice (some ⟨n3, 0, none⟩) (E1).length kn3) ∧ Hid (Below wg.heap.size wg W))) W → Below wg.heap.size wg W) := hide (fun W h => h.2.2.2.2.2.2.2.2.2.2.2.out)
        have SKa : Hid (∀ W, Below wg.heap.size wg W → (fun W => (W.cell? ⟨w.heap.size, 0, none⟩ = some (.int .i64 (N : Int)) ∧ W.cell? ⟨w.heap.size, 1, none⟩ = some (.int .i64 m) ∧ W.cell? ⟨w.heap.size, 2, none⟩ = some (.slice a1 St.length c1) ∧ W.cell? ⟨w.heap.size, 3, none⟩ = some (.slice a2 Fi.length c2) ∧ W.cell? ⟨w.heap.size, 4, none⟩ = some (.slice a3 Ed.length c3) ∧ W.cell? ⟨w.heap.size, 5, none⟩ = some (.int .i64 nb) ∧ W.cell? ⟨w.heap.size, 6, none⟩ = some (.int .i64 mb) ∧ W.cell? ⟨w.heap.size, 7, none⟩ = some (.slice b1 Sb.length d1) ∧ W.cell? ⟨w.heap.size, 8, none⟩ = some (.slice b2 Fb.length d2) ∧ W.cell? ⟨w.heap.size, 9, none⟩ = some (.slice b3 Eb.length d3) ∧ W.cell? ⟨w.heap.size, 13, none⟩ = some (.slice u1 Wd.length cw) ∧ W.cell? ⟨w.heap.size, 14, none⟩ = some (.int .i64 kk) ∧ W.cell? ⟨w.heap.size, 15, none⟩ = some (.slice o1 To.length co) ∧ Hid (Below wg.heap.size wg W))) W) := hide (fun W d => by
          have op := OP.out.on d
          have e0 := op.a
          have e1 := op.n
          have e2 := op.r
          have e3 := op.g
          exact ⟨cell_of e0 rfl, cell_of e0 rfl, cell_of e0 rfl, cell_of e0 rfl, cell_of e0 rfl, cell_of e0 rfl, cell_of e0 rfl, cell_of e0 rfl, cell_of e0 rfl, cell_of e0 rfl, cell_of e0 rfl, cell_of e0 rfl, cell_of e0 rfl, hide d⟩)
        have SDa : Hid (∀ W, (fun W => (W.cell? ⟨w.heap.size, 0, none⟩ = some (.int .i64 (N : Int)) ∧ W.cell? ⟨w.heap.size, 1, none⟩ = some (.int .i64 m) ∧ W.cell? ⟨w.heap.size, 2, none⟩ = some (.slice a1 St.length c1) ∧ W.cell? ⟨w.heap.size, 3, none⟩ = some (.slice a2 Fi.length c2) ∧ W.cell? ⟨w.heap.size, 4, none⟩ = some (.slice a3 Ed.length c3) ∧ W.cell? ⟨w.heap.size, 5, none⟩ = some (.int .i64 nb) ∧ W.cell? ⟨w.heap.size, 6, none⟩ = some (.int .i64 mb) ∧ W.cell? ⟨w.heap.size, 7, none⟩ = some (.slice b1 Sb.length d1) ∧ W.cell? ⟨w.heap.size, 8, none⟩ = some (.slice b2 Fb.length d2) ∧ W.cell? ⟨w.heap.size, 9, none⟩ = some (.slice b3 Eb.length d3) ∧ W.cell? ⟨w.heap.size, 13, none⟩ = some (.slice u1 Wd.length cw) ∧ W.cell? ⟨w.heap.size, 14, none⟩ = some (.int .i64 kk) ∧ W.cell? ⟨w.heap.size, 15, none⟩ = some (.slice o1 To.length co) ∧ Hid (Below wg.heap.size wg W))) W → Below wg.heap.size wg W) := hide (fun W h => h.2.2.2.2.2.2.2.2.2.2.2.2.2.out)
        have G10b : Hid (∀ W, Below wg.heap.size wg W → Calls Tryz.prog 10 #[.agg #[.int .i64 nb, .int .i64 mb, .slice b1 Sb.length d1, .slice b2 Fb.length d2, .slice b3 Eb.length d3]] W fun e w' => ∃ v1 kv1 v2 kv2 v3 kv3, e = .returned (.agg #[.int .i64 nb, .int .i64 mb, .slice (some ⟨v1, 0, none⟩) (Sb).length kv1, .slice (some ⟨v2, 0, none⟩) (Fb).length kv2, .slice (some ⟨v3, 0, none⟩) (Eb).length kv3]) ∧ Hid (RdA w' (some ⟨v1, 0, none⟩) (some ⟨v2, 0, none⟩) (some ⟨v3, 0, none⟩) (Sb) (Fb) (Eb)) ∧ Below wg.heap.size wg w' ∧ Below W.heap.size W w') := hide (fun W d => by
          refine (twin_any W nb mb b1 b2 b3 d1 d2 d3 Sb Fb Eb (hide (hB.out.on (KW.out W (OP.out.on d).d))) (by omega) (by omega) (by omega)).mono ?_
          rintro e w' ⟨g1, k1, g2, k2, g3, k3, he, ht, dd⟩
          exact ⟨g1, k1, g2, k2, g3, k3, he, hide ht.out.rd, d.trans (dd.mono d.size), dd⟩)
        obtain ⟨XS, hXS⟩ : ∃ X, riseL St ++ shL N (riseL Sb) = X := ⟨_, rfl⟩
        obtain ⟨XF, hXF⟩ : ∃ X, riseL Fi ++ shL N (riseL Fb) = X := ⟨_, rfl⟩
        obtain ⟨XE, hXE⟩ : ∃ X, riseE Ed ++ shEs N (riseE Eb) = X := ⟨_, rfl⟩
        have HX := hide (And.intro hXS (And.intro hXF hXE))
        clear hXS hXF hXE
        obtain ⟨NU, hNU⟩ : ∃ x : Int, (N : Int) + nb = x := ⟨_, rfl⟩
        have HNU := hide hNU
        have GU : Hid (∀ (W : World) (s1 ks1 s2 ks2 s3 ks3 v1 kv1 v2 kv2 v3 kv3 : Nat), Below wg.heap.size wg W → RdA W (some ⟨s1, 0, none⟩) (some ⟨s2, 0, none⟩) (some ⟨s3, 0, none⟩) (St) (Fi) (Ed) → RdA W (some ⟨v1, 0, none⟩) (some ⟨v2, 0, none⟩) (some ⟨v3, 0, none⟩) (Sb) (Fb) (Eb) → Calls Tryz.prog 28 #[.agg #[.int .i64 (N : Int), .int .i64 m, .slice (some ⟨s1, 0, none⟩) (St).length ks1, .slice (some ⟨s2, 0, none⟩) (Fi).length ks2, .slice (some ⟨s3, 0, none⟩) (Ed).length ks3], .agg #[.int .i64 nb, .int .i64 mb, .slice (some ⟨v1, 0, none⟩) (Sb).length kv1, .slice (some ⟨v2, 0, none⟩) (Fb).length kv2, .slice (some ⟨v3, 0, none⟩) (Eb).length kv3]] W fun e w' => ((unErr N m nb mb St Fi Ed Sb Fb Eb ≠ 0 ∧ e = .returned (.tuple #[.agg #[.int .i64 0, .int .i64 0, .slice none 0 0, .slice none 0 0, .slice none 0 0], .int .i64 (unErr N m nb mb St Fi Ed Sb Fb Eb)])) ∨ (unErr N m nb mb St Fi Ed Sb Fb Eb = 0 ∧ ∃ r1 kr1 r2 kr2 r3 kr3, e = .returned (.tuple #[.agg #[.int .i64 NU, .int .i64 m, .slice (some ⟨r1, 0, none⟩) (XS).length kr1, .slice (some ⟨r2, 0, none⟩) (XF).length kr2, .slice (some ⟨r3, 0, none⟩) (XE).length kr3], .int .i64 0]) ∧ Own W.heap.size w' r1 kr1 r2 kr2 r3 kr3 XS XF XE)) ∧ Below wg.heap.size wg w' ∧ Below W.heap.size W w') := hide (fun W s1 ks1 s2 ks2 s3 ks3 v1 kv1 v2 kv2 v3 kv3 d hA hB => by
          refine (union_any W N m nb mb (some ⟨s1, 0, none⟩) (some ⟨s2, 0, none⟩) (some ⟨s3, 0, none⟩) (some ⟨v1, 0, none⟩) (some ⟨v2, 0, none⟩) (some ⟨v3, 0, none⟩) ks1 ks2 ks3 kv1 kv2 kv3 St Fi Ed Sb Fb Eb (hide hA) (hide hB) (by omega) (by omega) (by omega) (by omega) (by omega) (by omega)).mono ?_
          rintro e w' ⟨h, dd⟩
          rw [HX.out.1, HX.out.2.1, HX.out.2.2, HNU.out] at h
          exact ⟨h, d.trans (dd.mono d.size), dd⟩)
        clear hNU
        have hyy : (ys != ys) = false := by cases ys <;> rfl
        go_upto_region 8 with fail
        go_cut [67] from 48 to 67 (fun v W => v = .bool false ∧ Hid (Below wg.heap.size wg W))
        case first =>
          have S0 := SK8.out wg.drew (Below.refl _ _).drew
          go_region_held3 (fun W => (W.cell? ⟨w.heap.size, 0, none⟩ = some (.int .i64 (N : Int)) ∧ W.cell? ⟨w.heap.size, 1, none⟩ = some (.int .i64 m) ∧ W.cell? ⟨w.heap.size, 2, none⟩ = some (.slice a1 St.length c1) ∧ W.cell? ⟨w.heap.size, 3, none⟩ = some (.slice a2 Fi.length c2) ∧ W.cell? ⟨w.heap.size, 4, none⟩ = some (.slice a3 Ed.length c3) ∧ W.cell? ⟨bg, 0, none⟩ = some (.int .i64 (N : Int)) ∧ W.cell? ⟨bg, 1, none⟩ = some (.int .i64 m) ∧ W.cell? ⟨bg, 2, none⟩ = some (.slice (some ⟨t1, 0, none⟩) (S1).length kt1) ∧ W.cell? ⟨bg, 3, none⟩ = some (.slice (some ⟨t2, 0, none⟩) (F1).length kt2) ∧ W.cell? ⟨bg, 4, none⟩ = some (.slice (some ⟨t3, 0, none⟩) (E1).length kt3) ∧ W.cell? ⟨bn, 0, none⟩ = some (.int .i64 (N : Int)) ∧ W.cell? ⟨bn, 1, none⟩ = some (.int .i64 m) ∧ W.cell? ⟨bn, 2, none⟩ = some (.slice (some ⟨n1, 0, none⟩) (S1).length kn1) ∧ W.cell? ⟨bn, 3, none⟩ = some (.slice (some ⟨n2, 0, none⟩) (F1).length kn2) ∧ W.cell? ⟨bn, 4, none⟩ = some (.slice (some ⟨n3, 0, none⟩) (E1).length kn3) ∧ Hid (Below wg.heap.size wg W)))
            (with_reducible assumption)
            ((first
              | (go_at_call 10; refine (G10.out _ (SD8.out _ (by with_reducible assumption))).mono ?_; rintro e wa ⟨s1, ks1, s2, ks2, s3, ks3, rfl, hA1, Da, da⟩; have Sa := SK8.out wa Da)
              | (go_at_call 24; refine (G24.out _ _ _ _ _ _ _ (SD8.out _ (by with_reducible assumption)) hA1.out).mono ?_; rintro e wb ⟨rfl, Db⟩; have Sb := SK8.out wb Db)
              | (go_at_call 25; refine (G25.out _ (SD8.out _ (by with_reducible assumption))).mono ?_; rintro e wc ⟨rfl, Dc⟩; have Sc := SK8.out wc Dc)))
          all_goals (
            go_wp2_with fail
            go_meet
            exact ⟨rfl, hide Dc⟩)
        case rest =>
          obtain ⟨rfl, HB⟩ := hcut
          rename World => wx
          clear SK8 SD8 G24 G25
          go_upto_region 10 with fail
          go_cut [9] from 9 to 74 (fun v W => v = .bool ys ∧ Hid (Below wg.heap.size wg W))
          case first =>
            have S0 := SK10.out wx.drew HB.out.drew
            go_region_held3 (fun W => (W.cell? ⟨w.heap.size, 0, none⟩ = some (.int .i64 (N : Int)) ∧ W.cell? ⟨w.heap.size, 1, none⟩ = some (.int .i64 m) ∧ W.cell? ⟨w.heap.size, 2, none⟩ = some (.slice a1 St.length c1) ∧ W.cell? ⟨w.heap.size, 3, none⟩ = some (.slice a2 Fi.length c2) ∧ W.cell? ⟨w.heap.size, 4, none⟩ = some (.slice a3 Ed.length c3) ∧ W.cell? ⟨w.heap.size, 13, none⟩ = some (.slice u1 Wd.length cw) ∧ Hid (Below wg.heap.size wg W)))
              (with_reducible assumption)
              ((first
                | (go_at_call 10; refine (G10.out _ (SD10.out _ (by with_reducible assumption))).mono ?_; rintro e wa ⟨s1, ks1, s2, ks2, s3, ks3, rfl, hA1, Da, da⟩; have Sa := SK10.out wa Da)
                | (go_at_call 11; refine (G11.out _ (SD10.out _ (by with_reducible assumption))).mono ?_; rintro e wb ⟨gq, kq, rfl, hQ1, Db, db⟩; have Sb := SK10.out wb Db; have hA2 := hide (hA1.out.on db))
                | (go_at_call 26; refine (GY.out _ _ _ _ _ _ _ _ _ (SD10.out _ (by with_reducible assumption)) hA2.out hQ1.out).mono ?_; rintro e wc ⟨rfl, Dc⟩; have Sc := SK10.out wc Dc)))
            all_goals (
              go_wp2_with fail
              go_meet
              exact ⟨rfl, hide Dc⟩)
          case rest =>
            obtain ⟨rfl, HC⟩ := hcut
            rename World => wy
            clear SK10 SD10 HB
            go_upto_region 11 with fail
            go_cut [90] from 75 to 90 (fun v W => v = .bool false ∧ Hid (Below wg.heap.size wg W))
            case first =>
              have S0 := SK11.out wy.drew HC.out.drew
              go_region_held3 (fun W => (W.cell? ⟨br, 0, none⟩ = some (.int .i64 (N : Int)) ∧ W.cell? ⟨br, 1, none⟩ = some (.int .i64 m) ∧ W.cell? ⟨br, 2, none⟩ = some (.slice (some ⟨r1, 0, none⟩) (F1).length kr1) ∧ W.cell? ⟨br, 3, none⟩ = some (.slice (some ⟨r2, 0, none⟩) (S1).length kr2) ∧ W.cell? ⟨br, 4, none⟩ = some (.slice (some ⟨r3, 0, none⟩) (T1).length kr3) ∧ W.cell? ⟨w.heap.size, 13, none⟩ = some (.slice u1 Wd.length cw) ∧ W.cell? ⟨bn, 0, none⟩ = some (.int .i64 (N : Int)) ∧ W.cell? ⟨bn, 1, none⟩ = some (.int .i64 m) ∧ W.cell? ⟨bn, 2, none⟩ = some (.slice (some ⟨n1, 0, none⟩) (S1).length kn1) ∧ W.cell? ⟨bn, 3, none⟩ = some (.slice (some ⟨n2, 0, none⟩) (F1).length kn2) ∧ W.cell? ⟨bn, 4, none⟩ = some (.slice (some ⟨n3, 0, none⟩) (E1).length kn3) ∧ Hid (Below wg.heap.size wg W)))
                (with_reducible assumption)
                ((first
                  | (go_at_call 27; refine (G27.out _ (SD11.out _ (by with_reducible assumption))).mono ?_; rintro e wa ⟨gq, kq, rfl, hQ1, Da, da⟩; have Sa := SK11.out wa Da)
                  | (go_at_call_of 26 r1; refine (GR.out _ _ _ _ _ _ _ _ _ (SD11.out _ (by with_reducible assumption)) (OP.out.on (SD11.out _ (by with_reducible assumption))).rr hQ1.out).mono ?_; rintro e wb ⟨rfl, Db⟩; have Sb := SK11.out wb Db)
                  | (go_at_call 11; refine (G11.out _ (SD11.out _ (by with_reducible assumption))).mono ?_; rintro e wc ⟨gp, kp, rfl, hQ2, Dc, dc⟩; have Sc := SK11.out wc Dc)
                  | (go_at_call_of 26 n1; refine (GN.out _ _ _ _ _ _ _ _ _ (SD11.out _ (by with_reducible assumption)) (OP.out.on (SD11.out _ (by with_reducible assumption))).rn hQ2.out).mono ?_; rintro e wd ⟨rfl, Dd⟩; have Sd := SK11.out wd Dd)))
              all_goals (
                go_wp2_with fail
                go_meet
                exact ⟨rfl, hide Dd⟩)
            case rest =>
              obtain ⟨rfl, HE⟩ := hcut
              rename World => wz
              clear SK11 SD11 HC
              go_upto_region 13 with fail
              have GUo : unErr N m nb mb St Fi Ed Sb Fb Eb = 0 → Hid (∀ (W : World) (s1 ks1 s2 ks2 s3 ks3 v1 kv1 v2 kv2 v3 kv3 : Nat), Below wg.heap.size wg W → RdA W (some ⟨s1, 0, none⟩) (some ⟨s2, 0, none⟩) (some ⟨s3, 0, none⟩) (St) (Fi) (Ed) → RdA W (some ⟨v1, 0, none⟩) (some ⟨v2, 0, none⟩) (some ⟨v3, 0, none⟩) (Sb) (Fb) (Eb) → Calls Tryz.prog 28 #[.agg #[.int .i64 (N : Int), .int .i64 m, .slice (some ⟨s1, 0, none⟩) (St).length ks1, .slice (some ⟨s2, 0, none⟩) (Fi).length ks2, .slice (some ⟨s3, 0, none⟩) (Ed).length ks3], .agg #[.int .i64 nb, .int .i64 mb, .slice (some ⟨v1, 0, none⟩) (Sb).length kv1, .slice (some ⟨v2, 0, none⟩) (Fb).length kv2, .slice (some ⟨v3, 0, none⟩) (Eb).length kv3]] W fun e w' => ∃ r1 kr1 r2 kr2 r3 kr3, e = .returned (.tuple #[.agg #[.int .i64 NU, .int .i64 m, .slice (some ⟨r1, 0, none⟩) (XS).length kr1, .slice (some ⟨r2, 0, none⟩) (XF).length kr2, .slice (some ⟨r3, 0, none⟩) (XE).length kr3], .int .i64 0]) ∧ Hid (Own W.heap.size w' r1 kr1 r2 kr2 r3 kr3 XS XF XE) ∧ Below wg.heap.size wg w' ∧ Below W.heap.size W w') := fun eu => hide (fun W s1 ks1 s2 ks2 s3 ks3 v1 kv1 v2 kv2 v3 kv3 d hA hB => (GU.out W s1 ks1 s2 ks2 s3 ks3 v1 kv1 v2 kv2 v3 kv3 d hA hB).mono fun e w' ⟨h, dd⟩ => by
                rcases h with ⟨q, _⟩ | ⟨_, r1, kr1, r2, kr2, r3, kr3, he, ho⟩
                · exact absurd eu q
                · exact ⟨r1, kr1, r2, kr2, r3, kr3, he, hide ho, dd⟩)
              have GUn : unErr N m nb mb St Fi Ed Sb Fb Eb ≠ 0 → Hid (∀ (W : World) (s1 ks1 s2 ks2 s3 ks3 v1 kv1 v2 kv2 v3 kv3 : Nat), Below wg.heap.size wg W → RdA W (some ⟨s1, 0, none⟩) (some ⟨s2, 0, none⟩) (some ⟨s3, 0, none⟩) (St) (Fi) (Ed) → RdA W (some ⟨v1, 0, none⟩) (some ⟨v2, 0, none⟩) (some ⟨v3, 0, none⟩) (Sb) (Fb) (Eb) → Calls Tryz.prog 28 #[.agg #[.int .i64 (N : Int), .int .i64 m, .slice (some ⟨s1, 0, none⟩) (St).length ks1, .slice (some ⟨s2, 0, none⟩) (Fi).length ks2, .slice (some ⟨s3, 0, none⟩) (Ed).length ks3], .agg #[.int .i64 nb, .int .i64 mb, .slice (some ⟨v1, 0, none⟩) (Sb).length kv1, .slice (some ⟨v2, 0, none⟩) (Fb).length kv2, .slice (some ⟨v3, 0, none⟩) (Eb).length kv3]] W fun e w' => e = .returned (.tuple #[.agg #[.int .i64 0, .int .i64 0, .slice none 0 0, .slice none 0 0, .slice none 0 0], .int .i64 (unErr N m nb mb St Fi Ed Sb Fb Eb)]) ∧ Below wg.heap.size wg w' ∧ Below W.heap.size W w') := fun eu => hide (fun W s1 ks1 s2 ks2 s3 ks3 v1 kv1 v2 kv2 v3 kv3 d hA hB => (GU.out W s1 ks1 s2 ks2 s3 ks3 v1 kv1 v2 kv2 v3 kv3 d hA hB).mono fun e w' ⟨h, dd⟩ => by
                rcases h with ⟨_, he⟩ | ⟨q, _⟩
                · exact ⟨he, dd⟩
                · exact absurd q eu)
              have hUE : ∃ x : Int, unErr N m nb mb St Fi Ed Sb Fb Eb = x := ⟨_, rfl⟩
              go_cut [6, 9, 10] from 6 to 100 (fun f y u W => Hid (P13 wg ys (unErr N m nb mb St Fi Ed Sb Fb Eb = 0) (fun x => x ≠ 0) NU m XS XF XE f y u W))
              case first =>
                rename World => wz0
                by_cases eu : unErr N m nb mb St Fi Ed Sb Fb Eb = 0
                · have GV := GUo eu
                  have EU := hide eu
                  clear GUo GUn GU eu hUE
                  have hmo : MonIL 0 [vI 0 (.pointer (some ⟨w.heap.size, 0, none⟩)), vI 1 (.agg #[.int .i64 (N : Int), .int .i64 m, .slice a1 St.length c1, .slice a2 Fi.length c2, .slice a3 Ed.length c3]), pI 2 (rdP N m St Fi Ed), vI 3 (.pointer (some ⟨w.heap.size, 5, none⟩)), vI 4 (.agg #[.int .i64 nb, .int .i64 mb, .slice b1 Sb.length d1, .slice b2 Fb.length d2, .slice b3 Eb.length d3]), pI 5 (rdP nb mb Sb Fb Eb), pI 6 (ownT wz0.heap.size NU m XS XF XE), pI 7 (ownT wz0.heap.size NU m XS XF XE), pI 8 (ownB wz0.heap.size NU m XS XF XE), vI 9 (.int .i64 0), pI 10 (boxP), boxedI wz0.heap.size 10 [2, 5, 10] NU m XS XF XE, vI 12 (.int .i64 0)] := ⟨vI_mono _ _, vI_mono _ _, pI_mono rdP_mono, vI_mono _ _, vI_mono _ _, pI_mono rdP_mono, pI_mono ownT_mono, pI_mono ownT_mono, pI_mono ownB_mono, vI_mono _ _, pI_mono boxP_mono, boxedI_mono, vI_mono _ _, trivial⟩
                  refine wp_region_sl [vI 0 (.pointer (some ⟨w.heap.size, 0, none⟩)), vI 1 (.agg #[.int .i64 (N : Int), .int .i64 m, .slice a1 St.length c1, .slice a2 Fi.length c2, .slice a3 Ed.length c3]), pI 2 (rdP N m St Fi Ed), vI 3 (.pointer (some ⟨w.heap.size, 5, none⟩)), vI 4 (.agg #[.int .i64 nb, .int .i64 mb, .slice b1 Sb.length d1, .slice b2 Fb.length d2, .slice b3 Eb.length d3]), pI 5 (rdP nb mb Sb Fb Eb), pI 6 (ownT wz0.heap.size NU m XS XF XE), pI 7 (ownT wz0.heap.size NU m XS XF XE), pI 8 (ownB wz0.heap.size NU m XS XF XE), vI 9 (.int .i64 0), pI 10 (boxP), boxedI wz0.heap.size 10 [2, 5, 10] NU m XS XF XE, vI 12 (.int .i64 0)] (by kernel_rfl) (by kernel_rfl) (by kernel_rfl) (by kernel_rfl) hmo ⟨?o0, ?o1, ?o2, ?o3, ?o4, ?o5, ?o6, ?o7, ?o8, ?o9, ?o10, ?o11, ?o12, trivial⟩ ?fin
                  case o0 =>
                    intro A y W hy hb d hd K hK
                    have s1 : A.tmps.getD 1 undef = .pointer (some ⟨w.heap.size, 0, none⟩) := hb 1 rfl
                    have s1' := s1
                    rw [Array.getD_eq_getD_getElem?] at s1'
                    clear hd hy hb
                    go_simp
                    exact hK.out _ W (stp_of hmo d (Below.refl _ _)) (if_pos rfl)
                  case o1 =>
                    intro A y W hy hb d hd K hK
                    have e0 : y 0 = .pointer (some ⟨w.heap.size, 0, none⟩) := by obtain ⟨_, _, _, _, e⟩ := hd ⟨0, .data⟩ (by simp) rfl rfl; exact e
                    have s92 := (hy 0 _ 92 rfl rfl).trans e0
                    have s92' := s92
                    rw [Array.getD_eq_getD_getElem?] at s92'
                    clear hd hy hb
                    have S := SKa.out W (HE.out.trans (d.mono HE.out.size))
                    obtain ⟨a0, a1', a2', a3', a4', b0, b1', b2', b3', b4', c13, c14, c15, _⟩ := S
                    go_simp
                    exact hK.out _ W (stp_of hmo d (Below.refl _ _)) (if_pos rfl)
                  case o2 =>
                    intro A y W hy hb d hd K hK
                    have e1 : y 1 = .agg #[.int .i64 (N : Int), .int .i64 m, .slice a1 St.length c1, .slice a2 Fi.length c2, .slice a3 Ed.length c3] := by obtain ⟨_, _, _, _, e⟩ := hd ⟨1, .data⟩ (by simp) rfl rfl; exact e
                    have DW := HE.out.trans (d.mono HE.out.size)
                    have s93 := (hy 1 _ 93 rfl rfl).trans e1
                    have s93' := s93
                    rw [Array.getD_eq_getD_getElem?] at s93'
                    clear hd hy hb
                    go_simp
                    go_wp2_with (go_at_call 10; refine (G10.out _ DW).mono ?_; rintro e wa ⟨s1, ks1, s2, ks2, s3, ks3, rfl, hA1, Da, da⟩)
                    exact hK.out _ wa (stp_of hmo d da) ⟨s1, ks1, s2, ks2, s3, ks3, if_pos rfl, hA1.out⟩
                  case o3 =>
                    intro A y W hy hb d hd K hK
                    have s1 : A.tmps.getD 1 undef = .pointer (some ⟨w.heap.size, 0, none⟩) := hb 1 rfl
                    have s1' := s1
                    rw [Array.getD_eq_getD_getElem?] at s1'
                    clear hd hy hb
                    go_simp
                    exact hK.out _ W (stp_of hmo d (Below.refl _ _)) (if_pos rfl)
                  case o4 =>
                    intro A y W hy hb d hd K hK
                    have e3 : y 3 = .pointer (some ⟨w.heap.size, 5, none⟩) := by obtain ⟨_, _, _, _, e⟩ := hd ⟨3, .data⟩ (by simp) rfl rfl; exact e
                    have s95 := (hy 3 _ 95 rfl rfl).trans e3
                    have s95' := s95
                    rw [Array.getD_eq_getD_getElem?] at s95'
                    clear hd hy hb
                    have S := SKa.out W (HE.out.trans (d.mono HE.out.size))
                    obtain ⟨a0, a1', a2', a3', a4', b0, b1', b2', b3', b4', c13, c14, c15, _⟩ := S
                    go_simp
                    exact hK.out _ W (stp_of hmo d (Below.refl _ _)) (if_pos rfl)
                  case o5 =>
                    intro A y W hy hb d hd K hK
                    have e4 : y 4 = .agg #[.int .i64 nb, .int .i64 mb, .slice b1 Sb.length d1, .slice b2 Fb.length d2, .slice b3 Eb.length d3] := by obtain ⟨_, _, _, _, e⟩ := hd ⟨4, .data⟩ (by simp) rfl rfl; exact e
                    have DW := HE.out.trans (d.mono HE.out.size)
                    have s96 := (hy 4 _ 96 rfl rfl).trans e4
                    have s96' := s96
                    rw [Array.getD_eq_getD_getElem?] at s96'
                    clear hd hy hb
                    go_simp
                    go_wp2_with (go_at_call 10; refine (G10b.out _ DW).mono ?_; rintro e wa ⟨v1, kv1, v2, kv2, v3, kv3, rfl, hA1, Da, da⟩)
                    exact hK.out _ wa (stp_of hmo d da) ⟨v1, kv1, v2, kv2, v3, kv3, if_pos rfl, hA1.out⟩
                  case o6 =>
                    intro A y W hy hb d hd K hK
                    have f2 := hd ⟨2, .data⟩ (by simp) rfl rfl
                    have f5 := hd ⟨5, .data⟩ (by simp) rfl rfl
                    have DW := HE.out.trans (d.mono HE.out.size)
                    obtain ⟨_, _, _, _, s1, ks1, s2, ks2, s3, ks3, e2, r2⟩ := f2
                    obtain ⟨_, _, _, _, v1, kv1, v2, kv2, v3, kv3, e5, r5⟩ := f5
                    have s94 := (hy 2 _ 94 rfl rfl).trans e2
                    have s94' := s94
                    rw [Array.getD_eq_getD_getElem?] at s94'
                    have s97 := (hy 5 _ 97 rfl rfl).trans e5
                    have s97' := s97
                    rw [Array.getD_eq_getD_getElem?] at s97'
                    clear hd hy hb
                    go_simp
                    go_wp2_with (go_at_call 28; refine (GV.out _ _ _ _ _ _ _ _ _ _ _ _ _ DW r2 r5).mono ?_; rintro e wc ⟨r1, kr1, r2, kr2, r3, kr3, rfl, hO, Dc, dc⟩)
                    exact hK.out _ wc (stp_of hmo d dc) ⟨r1, kr1, r2, kr2, r3, kr3, if_pos rfl, hO.out.on d.size (Below.refl _ _)⟩
                  case o7 =>
                    intro A y W hy hb d hd K hK
                    have f6 := hd ⟨6, .data⟩ (by simp) rfl rfl
                    obtain ⟨_, _, _, _, r1, kr1, r2, kr2, r3, kr3, e6, o6⟩ := f6
                    have s98 := (hy 6 _ 98 rfl rfl).trans e6
                    have s98' := s98
                    rw [Array.getD_eq_getD_getElem?] at s98'
                    clear hd hy hb
                    go_simp
                    exact hK.out _ W (stp_of hmo d (Below.refl _ _)) ⟨r1, kr1, r2, kr2, r3, kr3, if_pos rfl, o6⟩
                  case o8 =>
                    intro A y W hy hb d hd K hK
                    have f7 := hd ⟨7, .data⟩ (by simp) rfl rfl
                    obtain ⟨_, _, _, _, r1, kr1, r2, kr2, r3, kr3, e7, o7⟩ := f7
                    have s91 := (hy 7 _ 91 rfl rfl).trans e7
                    have s91' := s91
                    rw [Array.getD_eq_getD_getElem?] at s91'
                    clear hd hy hb
                    go_simp
                    exact hK.out _ W (stp_of hmo d (Below.refl _ _)) ⟨r1, kr1, r2, kr2, r3, kr3, if_pos rfl, o7⟩
                  case o9 =>
                    intro A y W hy hb d hd K hK
                    have f7 := hd ⟨7, .data⟩ (by simp) rfl rfl
                    obtain ⟨_, _, _, _, r1, kr1, r2, kr2, r3, kr3, e7, o7⟩ := f7
                    have s91 := (hy 7 _ 91 rfl rfl).trans e7
                    have s91' := s91
                    rw [Array.getD_eq_getD_getElem?] at s91'
                    clear hd hy hb
                    go_simp
                    exact hK.out _ W (stp_of hmo d (Below.refl _ _)) (if_pos rfl)
                  case o10 =>
                    intro A y W hy hb d hd K hK
                    clear hd hy hb
                    go_simp
                    exact hK.out _ _ (stp_of hmo d ((Below.refl _ _).alloc (Nat.le_refl _) _)) (by simpa [pI, itL, updV] using boxP_of W)
                  case o11 =>
                    intro A y W hy hb d hd K hK
                    have f10 := hd ⟨10, .data⟩ (by simp) rfl rfl
                    have f8 := hd ⟨8, .data⟩ (by simp) rfl rfl
                    obtain ⟨_, _, _, _, r1, kr1, r2, kr2, r3, kr3, e8, o8⟩ := f8
                    obtain ⟨p, _, hp, hp2, e10, l10, z10⟩ := f10
                    have s10 := (hy 10 _ 10 rfl rfl).trans e10
                    have s10' := s10
                    rw [Array.getD_eq_getD_getElem?] at s10'
                    have s99 := (hy 8 _ 99 rfl rfl).trans e8
                    have s99' := s99
                    rw [Array.getD_eq_getD_getElem?] at s99'
                    clear hd hy hb
                    obtain ⟨⟨u0, u1', u2, u3, u4⟩, v0, v1', v2', v3', v4⟩ := zero_cells z10
                    have h5 := only5 W p (.int .i64 NU) (.int .i64 m) (.slice (some ⟨r1, 0, none⟩) XS.length kr1) (.slice (some ⟨r2, 0, none⟩) XF.length kr2) (.slice (some ⟨r3, 0, none⟩) XE.length kr3)
                    have hbo := box_own NU m z10 o8
                    go_simp
                    exact hK.out undef _ (stp_keeps [2, 5, 10] rfl (bel_set _ _ _ _ _ hp d) h5.size ⟨Or.inr (fun _ _ _ h => h), Or.inr (fun _ _ _ h => h), Or.inl (by decide), Or.inr (fun _ _ _ h => h), Or.inr (fun _ _ _ h => h), Or.inl (by decide), Or.inr (fun lo hi _ h => ownT_keep (lo := lo) (hi := hi) z10 h5 h), Or.inr (fun lo hi _ h => ownT_keep (lo := lo) (hi := hi) z10 h5 h), Or.inr (fun lo hi _ h => ownB_keep (lo := lo) (hi := hi) z10 h5 h), Or.inr (fun _ _ _ h => h), Or.inl (by decide), Or.inl (by decide), Or.inr (fun _ _ _ h => h), trivial⟩) ⟨p, r1, kr1, r2, kr2, r3, kr3, (if_neg (by decide)).trans e10, hp, hbo.1, hbo.2⟩
                  case o12 =>
                    intro A y W hy hb d hd K hK
                    have e9 : y 9 = .int .i64 0 := by obtain ⟨_, _, _, _, e⟩ := hd ⟨9, .data⟩ (by simp) rfl rfl; exact e
                    have s100 := (hy 9 _ 100 rfl rfl).trans e9
                    have s100' := s100
                    rw [Array.getD_eq_getD_getElem?] at s100'
                    clear hd hy hb
                    go_simp
                    exact hK.out _ W (stp_of hmo d (Below.refl _ _)) (if_pos rfl)
                  case fin =>
                    intro y lo hi W hM
                    show wpList _ _ _ [] _ _
                    have e0 : y 0 = .pointer (some ⟨w.heap.size, 0, none⟩) := hM.fact 0 (by simp) rfl (notR_all 0 rfl)
                    have e1 : y 1 = .agg #[.int .i64 (N : Int), .int .i64 m, .slice a1 St.length c1, .slice a2 Fi.length c2, .slice a3 Ed.length c3] := hM.fact 1 (by simp) rfl (notR_all 1 rfl)
                    have e3 : y 3 = .pointer (some ⟨w.heap.size, 5, none⟩) := hM.fact 3 (by simp) rfl (notR_all 3 rfl)
                    have e4 : y 4 = .agg #[.int .i64 nb, .int .i64 mb, .slice b1 Sb.length d1, .slice b2 Fb.length d2, .slice b3 Eb.length d3] := hM.fact 4 (by simp) rfl (notR_all 4 rfl)
                    have e9 : y 9 = .int .i64 0 := hM.fact 9 (by simp) rfl (notR_all 9 rfl)
                    have e12 : y 12 = .int .i64 0 := hM.fact 12 (by simp) rfl (notR_all 12 rfl)
                    obtain ⟨p, r1, kr1, r2, kr2, r3, kr3, e10, hp, z10, o10⟩ := hM.fact 11 (by simp) rfl (notR_all 11 rfl)
                    have HL := hide (And.intro z10 (And.intro o10.rd (HE.out.trans (hM.d.mono HE.out.size))))
                    simp only [fills, Act.put, List.take, List.length, List.setIfInBounds_toArray, List.set_cons_zero, List.set_cons_succ, e0, e1, e3, e4, e9, e12, e10]
                    clear hM e0 e1 e3 e4 e9 e12 e10 z10 o10 hmo
                    go_wp2_with fail
                    go_meet
                    exact hide (p13_ok EU.out HL.out)

                · have GV := GUn eu
                  have EU := hide eu
                  clear GUo GUn GU hUE
                  generalize unErr N m nb mb St Fi Ed Sb Fb Eb = er at GV EU eu
                  clear eu
                  have hmo : MonIL 0 [vI 0 (.pointer (some ⟨w.heap.size, 0, none⟩)), vI 1 (.agg #[.int .i64 (N : Int), .int .i64 m, .slice a1 St.length c1, .slice a2 Fi.length c2, .slice a3 Ed.length c3]), pI 2 (rdP N m St Fi Ed), vI 3 (.pointer (some ⟨w.heap.size, 5, none⟩)), vI 4 (.agg #[.int .i64 nb, .int .i64 mb, .slice b1 Sb.length d1, .slice b2 Fb.length d2, .slice b3 Eb.length d3]), pI 5 (rdP nb mb Sb Fb Eb), vI 6 (.tuple #[.agg #[.int .i64 0, .int .i64 0, .slice none 0 0, .slice none 0 0, .slice none 0 0], .int .i64 er]), vI 7 (.tuple #[.agg #[.int .i64 0, .int .i64 0, .slice none 0 0, .slice none 0 0, .slice none 0 0], .int .i64 er]), vI 8 (.agg #[.int .i64 0, .int .i64 0, .slice none 0 0, .slice none 0 0, .slice none 0 0]), vI 9 (.int .i64 er), pI 10 (boxP), ⟨[], [2, 5, 10], fun _ _ _ _ => True⟩, vI 12 (.int .i64 er)] := ⟨vI_mono _ _, vI_mono _ _, pI_mono rdP_mono, vI_mono _ _, vI_mono _ _, pI_mono rdP_mono, vI_mono _ _, vI_mono _ _, vI_mono _ _, vI_mono _ _, pI_mono boxP_mono, (fun _ _ _ _ _ _ _ _ _ h => h), vI_mono _ _, trivial⟩
                  refine wp_region_sl [vI 0 (.pointer (some ⟨w.heap.size, 0, none⟩)), vI 1 (.agg #[.int .i64 (N : Int), .int .i64 m, .slice a1 St.length c1, .slice a2 Fi.length c2, .slice a3 Ed.length c3]), pI 2 (rdP N m St Fi Ed), vI 3 (.pointer (some ⟨w.heap.size, 5, none⟩)), vI 4 (.agg #[.int .i64 nb, .int .i64 mb, .slice b1 Sb.length d1, .slice b2 Fb.length d2, .slice b3 Eb.length d3]), pI 5 (rdP nb mb Sb Fb Eb), vI 6 (.tuple #[.agg #[.int .i64 0, .int .i64 0, .slice none 0 0, .slice none 0 0, .slice none 0 0], .int .i64 er]), vI 7 (.tuple #[.agg #[.int .i64 0, .int .i64 0, .slice none 0 0, .slice none 0 0, .slice none 0 0], .int .i64 er]), vI 8 (.agg #[.int .i64 0, .int .i64 0, .slice none 0 0, .slice none 0 0, .slice none 0 0]), vI 9 (.int .i64 er), pI 10 (boxP), ⟨[], [2, 5, 10], fun _ _ _ _ => True⟩, vI 12 (.int .i64 er)] (by kernel_rfl) (by kernel_rfl) (by kernel_rfl) (by kernel_rfl) hmo ⟨?o0, ?o1, ?o2, ?o3, ?o4, ?o5, ?o6, ?o7, ?o8, ?o9, ?o10, ?o11, ?o12, trivial⟩ ?fin
                  case o0 =>
                    intro A y W hy hb d hd K hK
                    have s1 : A.tmps.getD 1 undef = .pointer (some ⟨w.heap.size, 0, none⟩) := hb 1 rfl
                    have s1' := s1
                    rw [Array.getD_eq_getD_getElem?] at s1'
                    clear hd hy hb
                    go_simp
                    exact hK.out _ W (stp_of hmo d (Below.refl _ _)) (if_pos rfl)
                  case o1 =>
                    intro A y W hy hb d hd K hK
                    have e0 : y 0 = .pointer (some ⟨w.heap.size, 0, none⟩) := by obtain ⟨_, _, _, _, e⟩ := hd ⟨0, .data⟩ (by simp) rfl rfl; exact e
                    have s92 := (hy 0 _ 92 rfl rfl).trans e0
                    have s92' := s92
                    rw [Array.getD_eq_getD_getElem?] at s92'
                    clear hd hy hb
                    have S := SKa.out W (HE.out.trans (d.mono HE.out.size))
                    obtain ⟨a0, a1', a2', a3', a4', b0, b1', b2', b3', b4', c13, c14, c15, _⟩ := S
                    go_simp
                    exact hK.out _ W (stp_of hmo d (Below.refl _ _)) (if_pos rfl)
                  case o2 =>
                    intro A y W hy hb d hd K hK
                    have e1 : y 1 = .agg #[.int .i64 (N : Int), .int .i64 m, .slice a1 St.length c1, .slice a2 Fi.length c2, .slice a3 Ed.length c3] := by obtain ⟨_, _, _, _, e⟩ := hd ⟨1, .data⟩ (by simp) rfl rfl; exact e
                    have DW := HE.out.trans (d.mono HE.out.size)
                    have s93 := (hy 1 _ 93 rfl rfl).trans e1
                    have s93' := s93
                    rw [Array.getD_eq_getD_getElem?] at s93'
                    clear hd hy hb
                    go_simp
                    go_wp2_with (go_at_call 10; refine (G10.out _ DW).mono ?_; rintro e wa ⟨s1, ks1, s2, ks2, s3, ks3, rfl, hA1, Da, da⟩)
                    exact hK.out _ wa (stp_of hmo d da) ⟨s1, ks1, s2, ks2, s3, ks3, if_pos rfl, hA1.out⟩
                  case o3 =>
                    intro A y W hy hb d hd K hK
                    have s1 : A.tmps.getD 1 undef = .pointer (some ⟨w.heap.size, 0, none⟩) := hb 1 rfl
                    have s1' := s1
                    rw [Array.getD_eq_getD_getElem?] at s1'
                    clear hd hy hb
                    go_simp
                    exact hK.out _ W (stp_of hmo d (Below.refl _ _)) (if_pos rfl)
                  case o4 =>
                    intro A y W hy hb d hd K hK
                    have e3 : y 3 = .pointer (some ⟨w.heap.size, 5, none⟩) := by obtain ⟨_, _, _, _, e⟩ := hd ⟨3, .data⟩ (by simp) rfl rfl; exact e
                    have s95 := (hy 3 _ 95 rfl rfl).trans e3
                    have s95' := s95
                    rw [Array.getD_eq_getD_getElem?] at s95'
                    clear hd hy hb
                    have S := SKa.out W (HE.out.trans (d.mono HE.out.size))
                    obtain ⟨a0, a1', a2', a3', a4', b0, b1', b2', b3', b4', c13, c14, c15, _⟩ := S
                    go_simp
                    exact hK.out _ W (stp_of hmo d (Below.refl _ _)) (if_pos rfl)
                  case o5 =>
                    intro A y W hy hb d hd K hK
                    have e4 : y 4 = .agg #[.int .i64 nb, .int .i64 mb, .slice b1 Sb.length d1, .slice b2 Fb.length d2, .slice b3 Eb.length d3] := by obtain ⟨_, _, _, _, e⟩ := hd ⟨4, .data⟩ (by simp) rfl rfl; exact e
                    have DW := HE.out.trans (d.mono HE.out.size)
                    have s96 := (hy 4 _ 96 rfl rfl).trans e4
                    have s96' := s96
                    rw [Array.getD_eq_getD_getElem?] at s96'
                    clear hd hy hb
                    go_simp
                    go_wp2_with (go_at_call 10; refine (G10b.out _ DW).mono ?_; rintro e wa ⟨v1, kv1, v2, kv2, v3, kv3, rfl, hA1, Da, da⟩)
                    exact hK.out _ wa (stp_of hmo d da) ⟨v1, kv1, v2, kv2, v3, kv3, if_pos rfl, hA1.out⟩
                  case o6 =>
                    intro A y W hy hb d hd K hK
                    have f2 := hd ⟨2, .data⟩ (by simp) rfl rfl
                    have f5 := hd ⟨5, .data⟩ (by simp) rfl rfl
                    have DW := HE.out.trans (d.mono HE.out.size)
                    obtain ⟨_, _, _, _, s1, ks1, s2, ks2, s3, ks3, e2, r2⟩ := f2
                    obtain ⟨_, _, _, _, v1, kv1, v2, kv2, v3, kv3, e5, r5⟩ := f5
                    have s94 := (hy 2 _ 94 rfl rfl).trans e2
                    have s94' := s94
                    rw [Array.getD_eq_getD_getElem?] at s94'
                    have s97 := (hy 5 _ 97 rfl rfl).trans e5
                    have s97' := s97
                    rw [Array.getD_eq_getD_getElem?] at s97'
                    clear hd hy hb
                    go_simp
                    go_wp2_with (go_at_call 28; refine (GV.out _ _ _ _ _ _ _ _ _ _ _ _ _ DW r2 r5).mono ?_; rintro e wc ⟨rfl, Dc, dc⟩)
                    exact hK.out _ wc (stp_of hmo d dc) (if_pos rfl)
                  case o7 =>
                    intro A y W hy hb d hd K hK
                    have e6 : y 6 = .tuple #[.agg #[.int .i64 0, .int .i64 0, .slice none 0 0, .slice none 0 0, .slice none 0 0], .int .i64 er] := by obtain ⟨_, _, _, _, e⟩ := hd ⟨6, .data⟩ (by simp) rfl rfl; exact e
                    have s98 := (hy 6 _ 98 rfl rfl).trans e6
                    have s98' := s98
                    rw [Array.getD_eq_getD_getElem?] at s98'
                    clear hd hy hb
                    go_simp
                    exact hK.out _ W (stp_of hmo d (Below.refl _ _)) (if_pos rfl)
                  case o8 =>
                    intro A y W hy hb d hd K hK
                    have e7 : y 7 = .tuple #[.agg #[.int .i64 0, .int .i64 0, .slice none 0 0, .slice none 0 0, .slice none 0 0], .int .i64 er] := by obtain ⟨_, _, _, _, e⟩ := hd ⟨7, .data⟩ (by simp) rfl rfl; exact e
                    have s91 := (hy 7 _ 91 rfl rfl).trans e7
                    have s91' := s91
                    rw [Array.getD_eq_getD_getElem?] at s91'
                    clear hd hy hb
                    go_simp
                    exact hK.out _ W (stp_of hmo d (Below.refl _ _)) (if_pos rfl)
                  case o9 =>
                    intro A y W hy hb d hd K hK
                    have e7 : y 7 = .tuple #[.agg #[.int .i64 0, .int .i64 0, .slice none 0 0, .slice none 0 0, .slice none 0 0], .int .i64 er] := by obtain ⟨_, _, _, _, e⟩ := hd ⟨7, .data⟩ (by simp) rfl rfl; exact e
                    have s91 := (hy 7 _ 91 rfl rfl).trans e7
                    have s91' := s91
                    rw [Array.getD_eq_getD_getElem?] at s91'
                    clear hd hy hb
                    go_simp
                    exact hK.out _ W (stp_of hmo d (Below.refl _ _)) (if_pos rfl)
                  case o10 =>
                    intro A y W hy hb d hd K hK
                    clear hd hy hb
                    go_simp
                    exact hK.out _ _ (stp_of hmo d ((Below.refl _ _).alloc (Nat.le_refl _) _)) (by simpa [pI, itL, updV] using boxP_of W)
                  case o11 =>
                    intro A y W hy hb d hd K hK
                    have f10 := hd ⟨10, .data⟩ (by simp) rfl rfl
                    have e8 : y 8 = .agg #[.int .i64 0, .int .i64 0, .slice none 0 0, .slice none 0 0, .slice none 0 0] := by obtain ⟨_, _, _, _, e⟩ := hd ⟨8, .data⟩ (by simp) rfl rfl; exact e
                    obtain ⟨p, _, hp, hp2, e10, l10, z10⟩ := f10
                    have s10 := (hy 10 _ 10 rfl rfl).trans e10
                    have s10' := s10
                    rw [Array.getD_eq_getD_getElem?] at s10'
                    have s99 := (hy 8 _ 99 rfl rfl).trans e8
                    have s99' := s99
                    rw [Array.getD_eq_getD_getElem?] at s99'
                    clear hd hy hb
                    obtain ⟨⟨u0, u1', u2, u3, u4⟩, v0, v1', v2', v3', v4⟩ := zero_cells z10
                    have h5 := only5 W p (.int .i64 0) (.int .i64 0) (.slice none 0 0) (.slice none 0 0) (.slice none 0 0)
                    go_simp
                    exact hK.out undef _ (stp_keeps [2, 5, 10] rfl (bel_set _ _ _ _ _ hp d) h5.size ⟨Or.inr (fun _ _ _ h => h), Or.inr (fun _ _ _ h => h), Or.inl (by decide), Or.inr (fun _ _ _ h => h), Or.inr (fun _ _ _ h => h), Or.inl (by decide), Or.inr (fun _ _ _ h => h), Or.inr (fun _ _ _ h => h), Or.inr (fun _ _ _ h => h), Or.inr (fun _ _ _ h => h), Or.inl (by decide), Or.inl (by decide), Or.inr (fun _ _ _ h => h), trivial⟩) trivial
                  case o12 =>
                    intro A y W hy hb d hd K hK
                    have e9 : y 9 = .int .i64 er := by obtain ⟨_, _, _, _, e⟩ := hd ⟨9, .data⟩ (by simp) rfl rfl; exact e
                    have s100 := (hy 9 _ 100 rfl rfl).trans e9
                    have s100' := s100
                    rw [Array.getD_eq_getD_getElem?] at s100'
                    clear hd hy hb
                    go_simp
                    exact hK.out _ W (stp_of hmo d (Below.refl _ _)) (if_pos rfl)
                  case fin =>
                    intro y lo hi W hM
                    show wpList _ _ _ [] _ _
                    have e0 : y 0 = .pointer (some ⟨w.heap.size, 0, none⟩) := hM.fact 0 (by simp) rfl (notR_all 0 rfl)
                    have e1 : y 1 = .agg #[.int .i64 (N : Int), .int .i64 m, .slice a1 St.length c1, .slice a2 Fi.length c2, .slice a3 Ed.length c3] := hM.fact 1 (by simp) rfl (notR_all 1 rfl)
                    have e3 : y 3 = .pointer (some ⟨w.heap.size, 5, none⟩) := hM.fact 3 (by simp) rfl (notR_all 3 rfl)
                    have e4 : y 4 = .agg #[.int .i64 nb, .int .i64 mb, .slice b1 Sb.length d1, .slice b2 Fb.length d2, .slice b3 Eb.length d3] := hM.fact 4 (by simp) rfl (notR_all 4 rfl)
                    have e6 : y 6 = .tuple #[.agg #[.int .i64 0, .int .i64 0, .slice none 0 0, .slice none 0 0, .slice none 0 0], .int .i64 er] := hM.fact 6 (by simp) rfl (notR_all 6 rfl)
                    have e7 : y 7 = .tuple #[.agg #[.int .i64 0, .int .i64 0, .slice none 0 0, .slice none 0 0, .slice none 0 0], .int .i64 er] := hM.fact 7 (by simp) rfl (notR_all 7 rfl)
                    have e8 : y 8 = .agg #[.int .i64 0, .int .i64 0, .slice none 0 0, .slice none 0 0, .slice none 0 0] := hM.fact 8 (by simp) rfl (notR_all 8 rfl)
                    have e9 : y 9 = .int .i64 er := hM.fact 9 (by simp) rfl (notR_all 9 rfl)
                    have e12 : y 12 = .int .i64 er := hM.fact 12 (by simp) rfl (notR_all 12 rfl)
                    have HL := hide (HE.out.trans (hM.d.mono HE.out.size))
                    simp only [fills, Act.put, List.take, List.length, List.setIfInBounds_toArray, List.set_cons_zero, List.set_cons_succ, e0, e1, e3, e4, e6, e7, e8, e9, e12]
                    clear hM e0 e1 e3 e4 e6 e7 e8 e9 e12 hmo
                    go_wp2_with fail
                    go_meet
                    exact hide (p13_no EU.out HL.out)

              case rest =>
                have hc := hcut.out
                clear hcut
                obtain ⟨hy, Du, hc⟩ := hc
                subst hy
                rename World => wu
                have HU := hide Du
                have HC := hide hc
                clear Du hc HE
                go_upto_region 14 with fail
                go_cut [120] from 101 to 120 (fun v W => v = .bool false ∧ Hid (Below wg.heap.size wg W))
                case first =>
                  rcases HC.out with ⟨er, her, rfl⟩ | ⟨rfl, hq, bu, v1, kv1, v2, kv2, v3, kv3, rfl, hbu, rbu⟩
                  · have e0 : (er == 0) = false := by simpa using her
                    have e0' : ¬ er = 0 := her
                    clear her HC
                    have hmo : MonIL 0 [vI 0 (.int .i64 er), vI 1 (.bool false), vI 2 (.bool false), vI 3 (undef), vI 4 (undef), vI 5 (undef), vI 6 (undef), vI 7 (undef), vI 8 (undef), vI 9 (undef), vI 10 (undef), vI 11 (undef), vI 12 (undef), vI 13 (undef), vI 14 (undef), vI 15 (undef), vI 16 (undef), vI 17 (undef), vI 18 (undef), vI 19 (.bool false)] := ⟨vI_mono _ _, vI_mono _ _, vI_mono _ _, vI_mono _ _, vI_mono _ _, vI_mono _ _, vI_mono _ _, vI_mono _ _, vI_mono _ _, vI_mono _ _, vI_mono _ _, vI_mono _ _, vI_mono _ _, vI_mono _ _, vI_mono _ _, vI_mono _ _, vI_mono _ _, vI_mono _ _, vI_mono _ _, vI_mono _ _, trivial⟩
                    refine wp_region_sl [vI 0 (.int .i64 er), vI 1 (.bool false), vI 2 (.bool false), vI 3 (undef), vI 4 (undef), vI 5 (undef), vI 6 (undef), vI 7 (undef), vI 8 (undef), vI 9 (undef), vI 10 (undef), vI 11 (undef), vI 12 (undef), vI 13 (undef), vI 14 (undef), vI 15 (undef), vI 16 (undef), vI 17 (undef), vI 18 (undef), vI 19 (.bool false)] (by kernel_rfl) (by kernel_rfl) (by kernel_rfl) (by kernel_rfl) hmo ⟨?o0, ?o1, ?o2, ?o3, ?o4, ?o5, ?o6, ?o7, ?o8, ?o9, ?o10, ?o11, ?o12, ?o13, ?o14, ?o15, ?o16, ?o17, ?o18, ?o19, trivial⟩ ?fin
                    case o0 =>
                      intro A y W hy hb d hd K hK
                      have s6 : A.tmps.getD 6 undef = .int .i64 er := hb 6 rfl
                      have s6' := s6
                      rw [Array.getD_eq_getD_getElem?] at s6'
                      clear hd hy hb
                      go_simp
                      exact hK.out _ W (stp_of hmo d (Below.refl _ _)) (if_pos rfl)
                    case o1 =>
                      intro A y W hy hb d hd K hK
                      have e0 : y 0 = .int .i64 er := by obtain ⟨_, _, _, _, e⟩ := hd ⟨0, .data⟩ (by simp) rfl rfl; exact e
                      have s101 := (hy 0 _ 101 rfl rfl).trans e0
                      have s101' := s101
                      rw [Array.getD_eq_getD_getElem?] at s101'
                      clear hd hy hb
                      go_simp
                      exact hK.out _ W (stp_of hmo d (Below.refl _ _)) (if_pos rfl)
                    case o2 =>
                      intro A y W hy hb d hd K hK
                      have e1 : y 1 = .bool false := by obtain ⟨_, _, _, _, e⟩ := hd ⟨1, .data⟩ (by simp) rfl rfl; exact e
                      have s102 := (hy 1 _ 102 rfl rfl).trans e1
                      have s102' := s102
                      rw [Array.getD_eq_getD_getElem?] at s102'
                      clear hd hy hb
                      go_simp
                      exact hK.out _ W (stp_of hmo d (Below.refl _ _)) (if_pos rfl)
                    case o3 =>
                      intro A y W hy hb d hd K hK
                      have e2 : y 2 = .bool false := by obtain ⟨_, _, _, _, e⟩ := hd ⟨2, .guard⟩ (by simp) rfl rfl; exact e
                      have s103 := (hy 2 _ 103 rfl rfl).trans e2
                      have s103' := s103
                      rw [Array.getD_eq_getD_getElem?] at s103'
                      have g103 := got_bool s103
                      clear hd hy hb
                      go_simp
                      exact hK.out _ W (stp_of hmo d (Below.refl _ _)) (if_pos rfl)
                    case o4 =>
                      intro A y W hy hb d hd K hK
                      have e2 : y 2 = .bool false := by obtain ⟨_, _, _, _, e⟩ := hd ⟨2, .guard⟩ (by simp) rfl rfl; exact e
                      have s103 := (hy 2 _ 103 rfl rfl).trans e2
                      have s103' := s103
                      rw [Array.getD_eq_getD_getElem?] at s103'
                      have g103 := got_bool s103
                      clear hd hy hb
                      go_simp
                      exact hK.out _ W (stp_of hmo d (Below.refl _ _)) (if_pos rfl)
                    case o5 =>
                      intro A y W hy hb d hd K hK
                      have e4 : y 4 = undef := by obtain ⟨_, _, _, _, e⟩ := hd ⟨4, .data⟩ (by simp) rfl rfl; exact e
                      have e2 : y 2 = .bool false := by obtain ⟨_, _, _, _, e⟩ := hd ⟨2, .guard⟩ (by simp) rfl rfl; exact e
                      have s103 := (hy 2 _ 103 rfl rfl).trans e2
                      have s103' := s103
                      rw [Array.getD_eq_getD_getElem?] at s103'
                      have g103 := got_bool s103
                      clear hd hy hb
                      go_simp
                      exact hK.out _ W (stp_of hmo d (Below.refl _ _)) (if_pos rfl)
                    case o6 =>
                      intro A y W hy hb d hd K hK
                      have e5 : y 5 = undef := by obtain ⟨_, _, _, _, e⟩ := hd ⟨5, .data⟩ (by simp) rfl rfl; exact e
                      have e2 : y 2 = .bool false := by obtain ⟨_, _, _, _, e⟩ := hd ⟨2, .guard⟩ (by simp) rfl rfl; exact e
                      have s103 := (hy 2 _ 103 rfl rfl).trans e2
                      have s103' := s103
                      rw [Array.getD_eq_getD_getElem?] at s103'
                      have g103 := got_bool s103
                      clear hd hy hb
                      go_simp
                      exact hK.out _ W (stp_of hmo d (Below.refl _ _)) (if_pos rfl)
                    case o7 =>
                      intro A y W hy hb d hd K hK
                      have e3 : y 3 = undef := by obtain ⟨_, _, _, _, e⟩ := hd ⟨3, .data⟩ (by simp) rfl rfl; exact e
                      have e6 : y 6 = undef := by obtain ⟨_, _, _, _, e⟩ := hd ⟨6, .data⟩ (by simp) rfl rfl; exact e
                      have e2 : y 2 = .bool false := by obtain ⟨_, _, _, _, e⟩ := hd ⟨2, .guard⟩ (by simp) rfl rfl; exact e
                      have s103 := (hy 2 _ 103 rfl rfl).trans e2
                      have s103' := s103
                      rw [Array.getD_eq_getD_getElem?] at s103'
                      have g103 := got_bool s103
                      clear hd hy hb
                      go_simp
                      exact hK.out _ W (stp_of hmo d (Below.refl _ _)) (if_pos rfl)
                    case o8 =>
                      intro A y W hy hb d hd K hK
                      have e2 : y 2 = .bool false := by obtain ⟨_, _, _, _, e⟩ := hd ⟨2, .guard⟩ (by simp) rfl rfl; exact e
                      have s103 := (hy 2 _ 103 rfl rfl).trans e2
                      have s103' := s103
                      rw [Array.getD_eq_getD_getElem?] at s103'
                      have g103 := got_bool s103
                      clear hd hy hb
                      go_simp
                      exact hK.out _ W (stp_of hmo d (Below.refl _ _)) (if_pos rfl)
                    case o9 =>
                      intro A y W hy hb d hd K hK
                      have e8 : y 8 = undef := by obtain ⟨_, _, _, _, e⟩ := hd ⟨8, .data⟩ (by simp) rfl rfl; exact e
                      have e2 : y 2 = .bool false := by obtain ⟨_, _, _, _, e⟩ := hd ⟨2, .guard⟩ (by simp) rfl rfl; exact e
                      have s103 := (hy 2 _ 103 rfl rfl).trans e2
                      have s103' := s103
                      rw [Array.getD_eq_getD_getElem?] at s103'
                      have g103 := got_bool s103
                      clear hd hy hb
                      go_simp
                      exact hK.out _ W (stp_of hmo d (Below.refl _ _)) (if_pos rfl)
                    case o10 =>
                      intro A y W hy hb d hd K hK
                      have e9 : y 9 = undef := by obtain ⟨_, _, _, _, e⟩ := hd ⟨9, .guard⟩ (by simp) rfl rfl; exact e
                      have s110 := (hy 9 _ 110 rfl rfl).trans e9
                      have s110' := s110
                      rw [Array.getD_eq_getD_getElem?] at s110'
                      have g110 := got_undef s110
                      clear hd hy hb
                      rcases g110 with g110 | g110
                      · go_simp
                        exact hK.out _ W (stp_of hmo d (Below.refl _ _)) (if_pos rfl)
                      · go_simp
                        exact hK.out _ W (stp_of hmo d (Below.refl _ _)) (if_pos rfl)
                    case o11 =>
                      intro A y W hy hb d hd K hK
                      have e10 : y 10 = undef := by obtain ⟨_, _, _, _, e⟩ := hd ⟨10, .data⟩ (by simp) rfl rfl; exact e
                      have e9 : y 9 = undef := by obtain ⟨_, _, _, _, e⟩ := hd ⟨9, .guard⟩ (by simp) rfl rfl; exact e
                      have s110 := (hy 9 _ 110 rfl rfl).trans e9
                      have s110' := s110
                      rw [Array.getD_eq_getD_getElem?] at s110'
                      have g110 := got_undef s110
                      clear hd hy hb
                      rcases g110 with g110 | g110
                      · go_simp
                        exact hK.out _ W (stp_of hmo d (Below.refl _ _)) (if_pos rfl)
                      · go_simp
                        exact hK.out _ W (stp_of hmo d (Below.refl _ _)) (if_pos rfl)
                    case o12 =>
                      intro A y W hy hb d hd K hK
                      have e11 : y 11 = undef := by obtain ⟨_, _, _, _, e⟩ := hd ⟨11, .data⟩ (by simp) rfl rfl; exact e
                      have e9 : y 9 = undef := by obtain ⟨_, _, _, _, e⟩ := hd ⟨9, .guard⟩ (by simp) rfl rfl; exact e
                      have s110 := (hy 9 _ 110 rfl rfl).trans e9
                      have s110' := s110
                      rw [Array.getD_eq_getD_getElem?] at s110'
                      have g110 := got_undef s110
                      clear hd hy hb
                      rcases g110 with g110 | g110
                      · go_simp
                        exact hK.out _ W (stp_of hmo d (Below.refl _ _)) (if_pos rfl)
                      · go_simp
                        exact hK.out _ W (stp_of hmo d (Below.refl _ _)) (if_pos rfl)
                    case o13 =>
                      intro A y W hy hb d hd K hK
                      have e9 : y 9 = undef := by obtain ⟨_, _, _, _, e⟩ := hd ⟨9, .guard⟩ (by simp) rfl rfl; exact e
                      have s110 := (hy 9 _ 110 rfl rfl).trans e9
                      have s110' := s110
                      rw [Array.getD_eq_getD_getElem?] at s110'
                      have g110 := got_undef s110
                      clear hd hy hb
                      rcases g110 with g110 | g110
                      · go_simp
                        exact hK.out _ W (stp_of hmo d (Below.refl _ _)) (if_pos rfl)
                      · go_simp
                        exact hK.out _ W (stp_of hmo d (Below.refl _ _)) (if_pos rfl)
                    case o14 =>
                      intro A y W hy hb d hd K hK
                      have e13 : y 13 = undef := by obtain ⟨_, _, _, _, e⟩ := hd ⟨13, .data⟩ (by simp) rfl rfl; exact e
                      have e9 : y 9 = undef := by obtain ⟨_, _, _, _, e⟩ := hd ⟨9, .guard⟩ (by simp) rfl rfl; exact e
                      have s110 := (hy 9 _ 110 rfl rfl).trans e9
                      have s110' := s110
                      rw [Array.getD_eq_getD_getElem?] at s110'
                      have g110 := got_undef s110
                      clear hd hy hb
                      rcases g110 with g110 | g110
                      · go_simp
                        exact hK.out _ W (stp_of hmo d (Below.refl _ _)) (if_pos rfl)
                      · go_simp
                        exact hK.out _ W (stp_of hmo d (Below.refl _ _)) (if_pos rfl)
                    case o15 =>
                      intro A y W hy hb d hd K hK
                      have e14 : y 14 = undef := by obtain ⟨_, _, _, _, e⟩ := hd ⟨14, .data⟩ (by simp) rfl rfl; exact e
                      have e9 : y 9 = undef := by obtain ⟨_, _, _, _, e⟩ := hd ⟨9, .guard⟩ (by simp) rfl rfl; exact e
                      have s110 := (hy 9 _ 110 rfl rfl).trans e9
                      have s110' := s110
                      rw [Array.getD_eq_getD_getElem?] at s110'
                      have g110 := got_undef s110
                      clear hd hy hb
                      rcases g110 with g110 | g110
                      · go_simp
                        exact hK.out _ W (stp_of hmo d (Below.refl _ _)) (if_pos rfl)
                      · go_simp
                        exact hK.out _ W (stp_of hmo d (Below.refl _ _)) (if_pos rfl)
                    case o16 =>
                      intro A y W hy hb d hd K hK
                      have e12 : y 12 = undef := by obtain ⟨_, _, _, _, e⟩ := hd ⟨12, .data⟩ (by simp) rfl rfl; exact e
                      have e15 : y 15 = undef := by obtain ⟨_, _, _, _, e⟩ := hd ⟨15, .data⟩ (by simp) rfl rfl; exact e
                      have e9 : y 9 = undef := by obtain ⟨_, _, _, _, e⟩ := hd ⟨9, .guard⟩ (by simp) rfl rfl; exact e
                      have s110 := (hy 9 _ 110 rfl rfl).trans e9
                      have s110' := s110
                      rw [Array.getD_eq_getD_getElem?] at s110'
                      have g110 := got_undef s110
                      clear hd hy hb
                      rcases g110 with g110 | g110
                      · go_simp
                        exact hK.out _ W (stp_of hmo d (Below.refl _ _)) (if_pos rfl)
                      · go_simp
                        exact hK.out _ W (stp_of hmo d (Below.refl _ _)) (if_pos rfl)
                    case o17 =>
                      intro A y W hy hb d hd K hK
                      have e9 : y 9 = undef := by obtain ⟨_, _, _, _, e⟩ := hd ⟨9, .data⟩ (by simp) rfl rfl; exact e
                      have e16 : y 16 = undef := by obtain ⟨_, _, _, _, e⟩ := hd ⟨16, .data⟩ (by simp) rfl rfl; exact e
                      have e2 : y 2 = .bool false := by obtain ⟨_, _, _, _, e⟩ := hd ⟨2, .guard⟩ (by simp) rfl rfl; exact e
                      have s103 := (hy 2 _ 103 rfl rfl).trans e2
                      have s103' := s103
                      rw [Array.getD_eq_getD_getElem?] at s103'
                      have g103 := got_bool s103
                      clear hd hy hb
                      go_simp
                      exact hK.out _ W (stp_of hmo d (Below.refl _ _)) (if_pos rfl)
                    case o18 =>
                      intro A y W hy hb d hd K hK
                      have e7 : y 7 = undef := by obtain ⟨_, _, _, _, e⟩ := hd ⟨7, .data⟩ (by simp) rfl rfl; exact e
                      have e17 : y 17 = undef := by obtain ⟨_, _, _, _, e⟩ := hd ⟨17, .data⟩ (by simp) rfl rfl; exact e
                      have e2 : y 2 = .bool false := by obtain ⟨_, _, _, _, e⟩ := hd ⟨2, .guard⟩ (by simp) rfl rfl; exact e
                      have s103 := (hy 2 _ 103 rfl rfl).trans e2
                      have s103' := s103
                      rw [Array.getD_eq_getD_getElem?] at s103'
                      have g103 := got_bool s103
                      clear hd hy hb
                      go_simp
                      exact hK.out _ W (stp_of hmo d (Below.refl _ _)) (if_pos rfl)
                    case o19 =>
                      intro A y W hy hb d hd K hK
                      have e2 : y 2 = .bool false := by obtain ⟨_, _, _, _, e⟩ := hd ⟨2, .data⟩ (by simp) rfl rfl; exact e
                      have e18 : y 18 = undef := by obtain ⟨_, _, _, _, e⟩ := hd ⟨18, .data⟩ (by simp) rfl rfl; exact e
                      have s103 := (hy 2 _ 103 rfl rfl).trans e2
                      have s103' := s103
                      rw [Array.getD_eq_getD_getElem?] at s103'
                      have s119 := (hy 18 _ 119 rfl rfl).trans e18
                      have s119' := s119
                      rw [Array.getD_eq_getD_getElem?] at s119'
                      clear hd hy hb
                      go_simp
                      exact hK.out _ W (stp_of hmo d (Below.refl _ _)) (if_pos rfl)
                    case fin =>
                      intro y lo hi W hM
                      show wpList _ _ _ [] _ _
                      have e0 : y 0 = .int .i64 er := hM.fact 0 (by simp) rfl (notR_all 0 rfl)
                      have e1 : y 1 = .bool false := hM.fact 1 (by simp) rfl (notR_all 1 rfl)
                      have e2 : y 2 = .bool false := hM.fact 2 (by simp) rfl (notR_all 2 rfl)
                      have e3 : y 3 = undef := hM.fact 3 (by simp) rfl (notR_all 3 rfl)
                      have e4 : y 4 = undef := hM.fact 4 (by simp) rfl (notR_all 4 rfl)
                      have e5 : y 5 = undef := hM.fact 5 (by simp) rfl (notR_all 5 rfl)
                      have e6 : y 6 = undef := hM.fact 6 (by simp) rfl (notR_all 6 rfl)
                      have e7 : y 7 = undef := hM.fact 7 (by simp) rfl (notR_all 7 rfl)
                      have e8 : y 8 = undef := hM.fact 8 (by simp) rfl (notR_all 8 rfl)
                      have e9 : y 9 = undef := hM.fact 9 (by simp) rfl (notR_all 9 rfl)
                      have e10 : y 10 = undef := hM.fact 10 (by simp) rfl (notR_all 10 rfl)
                      have e11 : y 11 = undef := hM.fact 11 (by simp) rfl (notR_all 11 rfl)
                      have e12 : y 12 = undef := hM.fact 12 (by simp) rfl (notR_all 12 rfl)
                      have e13 : y 13 = undef := hM.fact 13 (by simp) rfl (notR_all 13 rfl)
                      have e14 : y 14 = undef := hM.fact 14 (by simp) rfl (notR_all 14 rfl)
                      have e15 : y 15 = undef := hM.fact 15 (by simp) rfl (notR_all 15 rfl)
                      have e16 : y 16 = undef := hM.fact 16 (by simp) rfl (notR_all 16 rfl)
                      have e17 : y 17 = undef := hM.fact 17 (by simp) rfl (notR_all 17 rfl)
                      have e18 : y 18 = undef := hM.fact 18 (by simp) rfl (notR_all 18 rfl)
                      have e19 : y 19 = .bool false := hM.fact 19 (by simp) rfl (notR_all 19 rfl)
                      have DW := HU.out.trans (hM.d.mono HU.out.size)
                      simp only [fills, Act.put, List.take, List.length, List.setIfInBounds_toArray, List.set_cons_zero, List.set_cons_succ, e0, e1, e2, e3, e4, e5, e6, e7, e8, e9, e10, e11, e12, e13, e14, e15, e16, e17, e18, e19]
                      clear hM hmo e0 e1 e2 e3 e4 e5 e6 e7 e8 e9 e10 e11 e12 e13 e14 e15 e16 e17 e18 e19
                      have HW := hide DW
                      clear DW
                      go_wp2_with fail
                      go_meet
                      exact ⟨rfl, HW⟩

                  · have rbu := hide rbu
                    have hbu := hide hbu
                    clear HC
                    obtain ⟨ma, mb', em', hn', hl'⟩ := un_zero hq
                    have hnb := (may_parts mb').1
                    obtain ⟨Nb, hNb⟩ : ∃ Nb : Nat, nb = Nb := ⟨nb.toNat, by omega⟩
                    obtain ⟨yb, hyb⟩ : ∃ yb, tkB nb mb Sb Fb Eb Wd = yb := ⟨_, rfl⟩
                    have HTK : tkB NU m XS XF XE Wd = (ys || yb) := by
                      have t := (tk_union (Wd := Wd) ma (em' ▸ mb') hn' hl').2
                      rw [HX.out.1, HX.out.2.1, HX.out.2.2, HNU.out, YY.out, em', hyb] at t
                      rw [em']
                      exact t
                    have hxl : XS.length ≤ 4194304 ∧ XF.length ≤ 4194304 ∧ XE.length ≤ 4194304 := by
                      rw [← HX.out.1, ← HX.out.2.1, ← HX.out.2.2]
                      have l1 := riseL_len St
                      have l2 := riseL_len Sb
                      have l3 := riseL_len Fi
                      have l4 := riseL_len Fb
                      simp only [List.length_append, shL, shEs, List.length_map]
                      omega
                    have hNU : NU = ((N + Nb : Nat) : Int) := by rw [← HNU.out, hNb]; push_cast; rfl
                    have GTU0 : Hid (∀ (W : World) (gq kq : Nat), Below wg.heap.size wg W → RdA W (some ⟨v1, 0, none⟩) (some ⟨v2, 0, none⟩) (some ⟨v3, 0, none⟩) (XS) (XF) (XE) → RdN W (some ⟨gq, 0, none⟩) Wd → Calls Tryz.prog 26 #[.agg #[.int .i64 NU, .int .i64 m, .slice (some ⟨v1, 0, none⟩) (XS).length kv1, .slice (some ⟨v2, 0, none⟩) (XF).length kv2, .slice (some ⟨v3, 0, none⟩) (XE).length kv3], .slice (some ⟨gq, 0, none⟩) Wd.length kq] W fun e w' => e = .returned (.bool (ys || yb)) ∧ Below wg.heap.size wg w' ∧ Below W.heap.size W w') := hide (fun W gq kq d hA hQ => by
                      have t := takes_any W (N + Nb) m (some ⟨v1, 0, none⟩) (some ⟨v2, 0, none⟩) (some ⟨v3, 0, none⟩) (some ⟨gq, 0, none⟩) kv1 kv2 kv3 kq XS XF XE Wd (hide hA) (hide hQ) (hide (TA.out W d)) hxl.1 hxl.2.1 hxl.2.2 (by omega)
                      rw [← hNU, HTK] at t
                      exact t.mono fun e w' ⟨h, dd⟩ => ⟨h, d.trans (dd.mono d.size), dd⟩)
                    have GTB : Hid (∀ (W : World) (v1 kv1 v2 kv2 v3 kv3 gq kq : Nat), Below wg.heap.size wg W → RdA W (some ⟨v1, 0, none⟩) (some ⟨v2, 0, none⟩) (some ⟨v3, 0, none⟩) (Sb) (Fb) (Eb) → RdN W (some ⟨gq, 0, none⟩) Wd → Calls Tryz.prog 26 #[.agg #[.int .i64 nb, .int .i64 mb, .slice (some ⟨v1, 0, none⟩) (Sb).length kv1, .slice (some ⟨v2, 0, none⟩) (Fb).length kv2, .slice (some ⟨v3, 0, none⟩) (Eb).length kv3], .slice (some ⟨gq, 0, none⟩) Wd.length kq] W fun e w' => e = .returned (.bool yb) ∧ Below wg.heap.size wg w' ∧ Below W.heap.size W w') := hide (fun W v1 kv1 v2 kv2 v3 kv3 gq kq d hA hQ => by
                      have t := takes_any W Nb mb (some ⟨v1, 0, none⟩) (some ⟨v2, 0, none⟩) (some ⟨v3, 0, none⟩) (some ⟨gq, 0, none⟩) kv1 kv2 kv3 kq Sb Fb Eb Wd (hide hA) (hide hQ) (hide (TA.out W d)) (by omega) (by omega) (by omega) (by omega)
                      rw [← hNb, hyb] at t
                      exact t.mono fun e w' ⟨h, dd⟩ => ⟨h, d.trans (dd.mono d.size), dd⟩)
                    have hyb' : (yb != yb) = false := by cases yb <;> rfl
                    clear ma mb' em' hn' hl' hnb hNb hyb HTK hxl hNU hq
                    cases ys with
                    | true =>
                      have GTU := GTU0
                      simp only [Bool.true_or] at GTU
                      clear GTU0 GTB
                      have hmo : MonIL 0 [vI 0 (.int .i64 0), vI 1 (.bool true), vI 2 (.bool true), vI 3 (.agg #[.int .i64 NU, .int .i64 m, .slice (some ⟨v1, 0, none⟩) (XS).length kv1, .slice (some ⟨v2, 0, none⟩) (XF).length kv2, .slice (some ⟨v3, 0, none⟩) (XE).length kv3]), vI 4 (.pointer (some ⟨w.heap.size, 13, none⟩)), vI 5 (.slice u1 Wd.length cw), pI 6 (rowP Wd), vI 7 (.bool true), vI 8 (.bool true), vI 9 (.bool true), vI 10 (undef), vI 11 (undef), vI 12 (undef), vI 13 (undef), vI 14 (undef), vI 15 (undef), vI 16 (undef), vI 17 (.bool true), vI 18 (.bool false), vI 19 (.bool false)] := ⟨vI_mono _ _, vI_mono _ _, vI_mono _ _, vI_mono _ _, vI_mono _ _, vI_mono _ _, pI_mono rowP_mono, vI_mono _ _, vI_mono _ _, vI_mono _ _, vI_mono _ _, vI_mono _ _, vI_mono _ _, vI_mono _ _, vI_mono _ _, vI_mono _ _, vI_mono _ _, vI_mono _ _, vI_mono _ _, vI_mono _ _, trivial⟩
                      refine wp_region_sl [vI 0 (.int .i64 0), vI 1 (.bool true), vI 2 (.bool true), vI 3 (.agg #[.int .i64 NU, .int .i64 m, .slice (some ⟨v1, 0, none⟩) (XS).length kv1, .slice (some ⟨v2, 0, none⟩) (XF).length kv2, .slice (some ⟨v3, 0, none⟩) (XE).length kv3]), vI 4 (.pointer (some ⟨w.heap.size, 13, none⟩)), vI 5 (.slice u1 Wd.length cw), pI 6 (rowP Wd), vI 7 (.bool true), vI 8 (.bool true), vI 9 (.bool true), vI 10 (undef), vI 11 (undef), vI 12 (undef), vI 13 (undef), vI 14 (undef), vI 15 (undef), vI 16 (undef), vI 17 (.bool true), vI 18 (.bool false), vI 19 (.bool false)] (by kernel_rfl) (by kernel_rfl) (by kernel_rfl) (by kernel_rfl) hmo ⟨?o0, ?o1, ?o2, ?o3, ?o4, ?o5, ?o6, ?o7, ?o8, ?o9, ?o10, ?o11, ?o12, ?o13, ?o14, ?o15, ?o16, ?o17, ?o18, ?o19, trivial⟩ ?fin
                      case o0 =>
                        intro A y W hy hb d hd K hK
                        have s6 : A.tmps.getD 6 undef = .int .i64 0 := hb 6 rfl
                        have s6' := s6
                        rw [Array.getD_eq_getD_getElem?] at s6'
                        clear hd hy hb
                        go_simp
                        exact hK.out _ W (stp_of hmo d (Below.refl _ _)) (if_pos rfl)
                      case o1 =>
                        intro A y W hy hb d hd K hK
                        have e0 : y 0 = .int .i64 0 := by obtain ⟨_, _, _, _, e⟩ := hd ⟨0, .data⟩ (by simp) rfl rfl; exact e
                        have s101 := (hy 0 _ 101 rfl rfl).trans e0
                        have s101' := s101
                        rw [Array.getD_eq_getD_getElem?] at s101'
                        clear hd hy hb
                        go_simp
                        exact hK.out _ W (stp_of hmo d (Below.refl _ _)) (if_pos rfl)
                      case o2 =>
                        intro A y W hy hb d hd K hK
                        have e1 : y 1 = .bool true := by obtain ⟨_, _, _, _, e⟩ := hd ⟨1, .data⟩ (by simp) rfl rfl; exact e
                        have s102 := (hy 1 _ 102 rfl rfl).trans e1
                        have s102' := s102
                        rw [Array.getD_eq_getD_getElem?] at s102'
                        clear hd hy hb
                        go_simp
                        exact hK.out _ W (stp_of hmo d (Below.refl _ _)) (if_pos rfl)
                      case o3 =>
                        intro A y W hy hb d hd K hK
                        have e2 : y 2 = .bool true := by obtain ⟨_, _, _, _, e⟩ := hd ⟨2, .guard⟩ (by simp) rfl rfl; exact e
                        have s10 : A.tmps.getD 10 undef = .pointer (some ⟨bu, 0, none⟩) := hb 10 rfl
                        have s10' := s10
                        rw [Array.getD_eq_getD_getElem?] at s10'
                        have s103 := (hy 2 _ 103 rfl rfl).trans e2
                        have s103' := s103
                        rw [Array.getD_eq_getD_getElem?] at s103'
                        have g103 := got_bool s103
                        clear hd hy hb
                        have HB := blk_on hbu.out d
                        have q0 : W.cell? ⟨bu, 0, none⟩ = some (.int .i64 NU) := cell_of HB rfl
                        have q1 : W.cell? ⟨bu, 1, none⟩ = some (.int .i64 m) := cell_of HB rfl
                        have q2 : W.cell? ⟨bu, 2, none⟩ = some (.slice (some ⟨v1, 0, none⟩) (XS).length kv1) := cell_of HB rfl
                        have q3 : W.cell? ⟨bu, 3, none⟩ = some (.slice (some ⟨v2, 0, none⟩) (XF).length kv2) := cell_of HB rfl
                        have q4 : W.cell? ⟨bu, 4, none⟩ = some (.slice (some ⟨v3, 0, none⟩) (XE).length kv3) := cell_of HB rfl
                        go_simp
                        exact hK.out _ W (stp_of hmo d (Below.refl _ _)) (if_pos rfl)
                      case o4 =>
                        intro A y W hy hb d hd K hK
                        have e2 : y 2 = .bool true := by obtain ⟨_, _, _, _, e⟩ := hd ⟨2, .guard⟩ (by simp) rfl rfl; exact e
                        have s1 : A.tmps.getD 1 undef = .pointer (some ⟨w.heap.size, 0, none⟩) := hb 1 rfl
                        have s1' := s1
                        rw [Array.getD_eq_getD_getElem?] at s1'
                        have s103 := (hy 2 _ 103 rfl rfl).trans e2
                        have s103' := s103
                        rw [Array.getD_eq_getD_getElem?] at s103'
                        have g103 := got_bool s103
                        clear hd hy hb
                        go_simp
                        exact hK.out _ W (stp_of hmo d (Below.refl _ _)) (if_pos rfl)
                      case o5 =>
                        intro A y W hy hb d hd K hK
                        have e4 : y 4 = .pointer (some ⟨w.heap.size, 13, none⟩) := by obtain ⟨_, _, _, _, e⟩ := hd ⟨4, .data⟩ (by simp) rfl rfl; exact e
                        have e2 : y 2 = .bool true := by obtain ⟨_, _, _, _, e⟩ := hd ⟨2, .guard⟩ (by simp) rfl rfl; exact e
                        have s103 := (hy 2 _ 103 rfl rfl).trans e2
                        have s103' := s103
                        rw [Array.getD_eq_getD_getElem?] at s103'
                        have s105 := (hy 4 _ 105 rfl rfl).trans e4
                        have s105' := s105
                        rw [Array.getD_eq_getD_getElem?] at s105'
                        have g103 := got_bool s103
                        clear hd hy hb
                        have S := SKa.out W (HU.out.trans (d.mono HU.out.size))
                        obtain ⟨a0, a1', a2', a3', a4', b0, b1', b2', b3', b4', c13, c14, c15, _⟩ := S
                        go_simp
                        exact hK.out _ W (stp_of hmo d (Below.refl _ _)) (if_pos rfl)
                      case o6 =>
                        intro A y W hy hb d hd K hK
                        have e5 : y 5 = .slice u1 Wd.length cw := by obtain ⟨_, _, _, _, e⟩ := hd ⟨5, .data⟩ (by simp) rfl rfl; exact e
                        have e2 : y 2 = .bool true := by obtain ⟨_, _, _, _, e⟩ := hd ⟨2, .guard⟩ (by simp) rfl rfl; exact e
                        have DW := HU.out.trans (d.mono HU.out.size)
                        have s103 := (hy 2 _ 103 rfl rfl).trans e2
                        have s103' := s103
                        rw [Array.getD_eq_getD_getElem?] at s103'
                        have s106 := (hy 5 _ 106 rfl rfl).trans e5
                        have s106' := s106
                        rw [Array.getD_eq_getD_getElem?] at s106'
                        have g103 := got_bool s103
                        clear hd hy hb
                        go_simp
                        go_wp2_with (go_at_call 11; refine (G11.out _ DW).mono ?_; rintro e wa ⟨gq, kq, rfl, hQ1, Da, da⟩)
                        exact hK.out _ wa (stp_of hmo d da) ⟨gq, kq, if_pos rfl, hQ1.out⟩
                      case o7 =>
                        intro A y W hy hb d hd K hK
                        have e3 : y 3 = .agg #[.int .i64 NU, .int .i64 m, .slice (some ⟨v1, 0, none⟩) (XS).length kv1, .slice (some ⟨v2, 0, none⟩) (XF).length kv2, .slice (some ⟨v3, 0, none⟩) (XE).length kv3] := by obtain ⟨_, _, _, _, e⟩ := hd ⟨3, .data⟩ (by simp) rfl rfl; exact e
                        have f6 := hd ⟨6, .data⟩ (by simp) rfl rfl
                        have e2 : y 2 = .bool true := by obtain ⟨_, _, _, _, e⟩ := hd ⟨2, .guard⟩ (by simp) rfl rfl; exact e
                        have DW := HU.out.trans (d.mono HU.out.size)
                        obtain ⟨_, _, _, _, gq, kq, e6, r6⟩ := f6
                        have s103 := (hy 2 _ 103 rfl rfl).trans e2
                        have s103' := s103
                        rw [Array.getD_eq_getD_getElem?] at s103'
                        have s104 := (hy 3 _ 104 rfl rfl).trans e3
                        have s104' := s104
                        rw [Array.getD_eq_getD_getElem?] at s104'
                        have s107 := (hy 6 _ 107 rfl rfl).trans e6
                        have s107' := s107
                        rw [Array.getD_eq_getD_getElem?] at s107'
                        have g103 := got_bool s103
                        clear hd hy hb
                        go_simp
                        go_wp2_with (go_at_call 26; refine (GTU.out _ _ _ DW (rbu.out.on d) r6).mono ?_; rintro e wa ⟨rfl, Da, da⟩)
                        exact hK.out _ wa (stp_of hmo d da) (if_pos rfl)
                      case o8 =>
                        intro A y W hy hb d hd K hK
                        have e2 : y 2 = .bool true := by obtain ⟨_, _, _, _, e⟩ := hd ⟨2, .guard⟩ (by simp) rfl rfl; exact e
                        have s9 : A.tmps.getD 9 undef = .bool true := hb 9 rfl
                        have s9' := s9
                        rw [Array.getD_eq_getD_getElem?] at s9'
                        have s103 := (hy 2 _ 103 rfl rfl).trans e2
                        have s103' := s103
                        rw [Array.getD_eq_getD_getElem?] at s103'
                        have g103 := got_bool s103
                        clear hd hy hb
                        go_simp
                        exact hK.out _ W (stp_of hmo d (Below.refl _ _)) (if_pos rfl)
                      case o9 =>
                        intro A y W hy hb d hd K hK
                        have e8 : y 8 = .bool true := by obtain ⟨_, _, _, _, e⟩ := hd ⟨8, .data⟩ (by simp) rfl rfl; exact e
                        have e2 : y 2 = .bool true := by obtain ⟨_, _, _, _, e⟩ := hd ⟨2, .guard⟩ (by simp) rfl rfl; exact e
                        have s103 := (hy 2 _ 103 rfl rfl).trans e2
                        have s103' := s103
                        rw [Array.getD_eq_getD_getElem?] at s103'
                        have s109 := (hy 8 _ 109 rfl rfl).trans e8
                        have s109' := s109
                        rw [Array.getD_eq_getD_getElem?] at s109'
                        have g103 := got_bool s103
                        clear hd hy hb
                        go_simp
                        exact hK.out _ W (stp_of hmo d (Below.refl _ _)) (if_pos rfl)
                      case o10 =>
                        intro A y W hy hb d hd K hK
                        have e9 : y 9 = .bool true := by obtain ⟨_, _, _, _, e⟩ := hd ⟨9, .guard⟩ (by simp) rfl rfl; exact e
                        have s110 := (hy 9 _ 110 rfl rfl).trans e9
                        have s110' := s110
                        rw [Array.getD_eq_getD_getElem?] at s110'
                        have g110 := got_bool s110
                        clear hd hy hb
                        go_simp
                        exact hK.out _ W (stp_of hmo d (Below.refl _ _)) (if_pos rfl)
                      case o11 =>
                        intro A y W hy hb d hd K hK
                        have e10 : y 10 = undef := by obtain ⟨_, _, _, _, e⟩ := hd ⟨10, .data⟩ (by simp) rfl rfl; exact e
                        have e9 : y 9 = .bool true := by obtain ⟨_, _, _, _, e⟩ := hd ⟨9, .guard⟩ (by simp) rfl rfl; exact e
                        have s110 := (hy 9 _ 110 rfl rfl).trans e9
                        have s110' := s110
                        rw [Array.getD_eq_getD_getElem?] at s110'
                        have g110 := got_bool s110
                        clear hd hy hb
                        go_simp
                        exact hK.out _ W (stp_of hmo d (Below.refl _ _)) (if_pos rfl)
                      case o12 =>
                        intro A y W hy hb d hd K hK
                        have e11 : y 11 = undef := by obtain ⟨_, _, _, _, e⟩ := hd ⟨11, .data⟩ (by simp) rfl rfl; exact e
                        have e9 : y 9 = .bool true := by obtain ⟨_, _, _, _, e⟩ := hd ⟨9, .guard⟩ (by simp) rfl rfl; exact e
                        have s110 := (hy 9 _ 110 rfl rfl).trans e9
                        have s110' := s110
                        rw [Array.getD_eq_getD_getElem?] at s110'
                        have g110 := got_bool s110
                        clear hd hy hb
                        go_simp
                        exact hK.out _ W (stp_of hmo d (Below.refl _ _)) (if_pos rfl)
                      case o13 =>
                        intro A y W hy hb d hd K hK
                        have e9 : y 9 = .bool true := by obtain ⟨_, _, _, _, e⟩ := hd ⟨9, .guard⟩ (by simp) rfl rfl; exact e
                        have s110 := (hy 9 _ 110 rfl rfl).trans e9
                        have s110' := s110
                        rw [Array.getD_eq_getD_getElem?] at s110'
                        have g110 := got_bool s110
                        clear hd hy hb
                        go_simp
                        exact hK.out _ W (stp_of hmo d (Below.refl _ _)) (if_pos rfl)
                      case o14 =>
                        intro A y W hy hb d hd K hK
                        have e13 : y 13 = undef := by obtain ⟨_, _, _, _, e⟩ := hd ⟨13, .data⟩ (by simp) rfl rfl; exact e
                        have e9 : y 9 = .bool true := by obtain ⟨_, _, _, _, e⟩ := hd ⟨9, .guard⟩ (by simp) rfl rfl; exact e
                        have s110 := (hy 9 _ 110 rfl rfl).trans e9
                        have s110' := s110
                        rw [Array.getD_eq_getD_getElem?] at s110'
                        have g110 := got_bool s110
                        clear hd hy hb
                        go_simp
                        exact hK.out _ W (stp_of hmo d (Below.refl _ _)) (if_pos rfl)
                      case o15 =>
                        intro A y W hy hb d hd K hK
                        have e14 : y 14 = undef := by obtain ⟨_, _, _, _, e⟩ := hd ⟨14, .data⟩ (by simp) rfl rfl; exact e
                        have e9 : y 9 = .bool true := by obtain ⟨_, _, _, _, e⟩ := hd ⟨9, .guard⟩ (by simp) rfl rfl; exact e
                        have s110 := (hy 9 _ 110 rfl rfl).trans e9
                        have s110' := s110
                        rw [Array.getD_eq_getD_getElem?] at s110'
                        have g110 := got_bool s110
                        clear hd hy hb
                        go_simp
                        exact hK.out _ W (stp_of hmo d (Below.refl _ _)) (if_pos rfl)
                      case o16 =>
                        intro A y W hy hb d hd K hK
                        have e12 : y 12 = undef := by obtain ⟨_, _, _, _, e⟩ := hd ⟨12, .data⟩ (by simp) rfl rfl; exact e
                        have e15 : y 15 = undef := by obtain ⟨_, _, _, _, e⟩ := hd ⟨15, .data⟩ (by simp) rfl rfl; exact e
                        have e9 : y 9 = .bool true := by obtain ⟨_, _, _, _, e⟩ := hd ⟨9, .guard⟩ (by simp) rfl rfl; exact e
                        have s110 := (hy 9 _ 110 rfl rfl).trans e9
                        have s110' := s110
                        rw [Array.getD_eq_getD_getElem?] at s110'
                        have g110 := got_bool s110
                        clear hd hy hb
                        go_simp
                        exact hK.out _ W (stp_of hmo d (Below.refl _ _)) (if_pos rfl)
                      case o17 =>
                        intro A y W hy hb d hd K hK
                        have e9 : y 9 = .bool true := by obtain ⟨_, _, _, _, e⟩ := hd ⟨9, .data⟩ (by simp) rfl rfl; exact e
                        have e16 : y 16 = undef := by obtain ⟨_, _, _, _, e⟩ := hd ⟨16, .data⟩ (by simp) rfl rfl; exact e
                        have e2 : y 2 = .bool true := by obtain ⟨_, _, _, _, e⟩ := hd ⟨2, .guard⟩ (by simp) rfl rfl; exact e
                        have s103 := (hy 2 _ 103 rfl rfl).trans e2
                        have s103' := s103
                        rw [Array.getD_eq_getD_getElem?] at s103'
                        have s110 := (hy 9 _ 110 rfl rfl).trans e9
                        have s110' := s110
                        rw [Array.getD_eq_getD_getElem?] at s110'
                        have s117 := (hy 16 _ 117 rfl rfl).trans e16
                        have s117' := s117
                        rw [Array.getD_eq_getD_getElem?] at s117'
                        have g103 := got_bool s103
                        clear hd hy hb
                        go_simp
                        exact hK.out _ W (stp_of hmo d (Below.refl _ _)) (if_pos rfl)
                      case o18 =>
                        intro A y W hy hb d hd K hK
                        have e7 : y 7 = .bool true := by obtain ⟨_, _, _, _, e⟩ := hd ⟨7, .data⟩ (by simp) rfl rfl; exact e
                        have e17 : y 17 = .bool true := by obtain ⟨_, _, _, _, e⟩ := hd ⟨17, .data⟩ (by simp) rfl rfl; exact e
                        have e2 : y 2 = .bool true := by obtain ⟨_, _, _, _, e⟩ := hd ⟨2, .guard⟩ (by simp) rfl rfl; exact e
                        have s103 := (hy 2 _ 103 rfl rfl).trans e2
                        have s103' := s103
                        rw [Array.getD_eq_getD_getElem?] at s103'
                        have s108 := (hy 7 _ 108 rfl rfl).trans e7
                        have s108' := s108
                        rw [Array.getD_eq_getD_getElem?] at s108'
                        have s118 := (hy 17 _ 118 rfl rfl).trans e17
                        have s118' := s118
                        rw [Array.getD_eq_getD_getElem?] at s118'
                        have g103 := got_bool s103
                        clear hd hy hb
                        go_simp
                        exact hK.out _ W (stp_of hmo d (Below.refl _ _)) (if_pos rfl)
                      case o19 =>
                        intro A y W hy hb d hd K hK
                        have e2 : y 2 = .bool true := by obtain ⟨_, _, _, _, e⟩ := hd ⟨2, .data⟩ (by simp) rfl rfl; exact e
                        have e18 : y 18 = .bool false := by obtain ⟨_, _, _, _, e⟩ := hd ⟨18, .data⟩ (by simp) rfl rfl; exact e
                        have s103 := (hy 2 _ 103 rfl rfl).trans e2
                        have s103' := s103
                        rw [Array.getD_eq_getD_getElem?] at s103'
                        have s119 := (hy 18 _ 119 rfl rfl).trans e18
                        have s119' := s119
                        rw [Array.getD_eq_getD_getElem?] at s119'
                        clear hd hy hb
                        go_simp
                        exact hK.out _ W (stp_of hmo d (Below.refl _ _)) (if_pos rfl)
                      case fin =>
                        intro y lo hi W hM
                        show wpList _ _ _ [] _ _
                        have e0 : y 0 = .int .i64 0 := hM.fact 0 (by simp) rfl (notR_all 0 rfl)
                        have e1 : y 1 = .bool true := hM.fact 1 (by simp) rfl (notR_all 1 rfl)
                        have e2 : y 2 = .bool true := hM.fact 2 (by simp) rfl (notR_all 2 rfl)
                        have e3 : y 3 = .agg #[.int .i64 NU, .int .i64 m, .slice (some ⟨v1, 0, none⟩) (XS).length kv1, .slice (some ⟨v2, 0, none⟩) (XF).length kv2, .slice (some ⟨v3, 0, none⟩) (XE).length kv3] := hM.fact 3 (by simp) rfl (notR_all 3 rfl)
                        have e4 : y 4 = .pointer (some ⟨w.heap.size, 13, none⟩) := hM.fact 4 (by simp) rfl (notR_all 4 rfl)
                        have e5 : y 5 = .slice u1 Wd.length cw := hM.fact 5 (by simp) rfl (notR_all 5 rfl)
                        have e7 : y 7 = .bool true := hM.fact 7 (by simp) rfl (notR_all 7 rfl)
                        have e8 : y 8 = .bool true := hM.fact 8 (by simp) rfl (notR_all 8 rfl)
                        have e9 : y 9 = .bool true := hM.fact 9 (by simp) rfl (notR_all 9 rfl)
                        have e10 : y 10 = undef := hM.fact 10 (by simp) rfl (notR_all 10 rfl)
                        have e11 : y 11 = undef := hM.fact 11 (by simp) rfl (notR_all 11 rfl)
                        have e12 : y 12 = undef := hM.fact 12 (by simp) rfl (notR_all 12 rfl)
                        have e13 : y 13 = undef := hM.fact 13 (by simp) rfl (notR_all 13 rfl)
                        have e14 : y 14 = undef := hM.fact 14 (by simp) rfl (notR_all 14 rfl)
                        have e15 : y 15 = undef := hM.fact 15 (by simp) rfl (notR_all 15 rfl)
                        have e16 : y 16 = undef := hM.fact 16 (by simp) rfl (notR_all 16 rfl)
                        have e17 : y 17 = .bool true := hM.fact 17 (by simp) rfl (notR_all 17 rfl)
                        have e18 : y 18 = .bool false := hM.fact 18 (by simp) rfl (notR_all 18 rfl)
                        have e19 : y 19 = .bool false := hM.fact 19 (by simp) rfl (notR_all 19 rfl)
                        have DW := HU.out.trans (hM.d.mono HU.out.size)
                        simp only [fills, Act.put, List.take, List.length, List.setIfInBounds_toArray, List.set_cons_zero, List.set_cons_succ, e0, e1, e2, e3, e4, e5, e7, e8, e9, e10, e11, e12, e13, e14, e15, e16, e17, e18, e19]
                        clear hM hmo e0 e1 e2 e3 e4 e5 e7 e8 e9 e10 e11 e12 e13 e14 e15 e16 e17 e18 e19
                        have HW := hide DW
                        clear DW
                        go_wp2_with fail
                        go_meet
                        exact ⟨rfl, HW⟩

                    | false =>
                      have GTU := GTU0
                      simp only [Bool.false_or] at GTU
                      clear GTU0
                      have hmo : MonIL 0 [vI 0 (.int .i64 0), vI 1 (.bool true), vI 2 (.bool true), vI 3 (.agg #[.int .i64 NU, .int .i64 m, .slice (some ⟨v1, 0, none⟩) (XS).length kv1, .slice (some ⟨v2, 0, none⟩) (XF).length kv2, .slice (some ⟨v3, 0, none⟩) (XE).length kv3]), vI 4 (.pointer (some ⟨w.heap.size, 13, none⟩)), vI 5 (.slice u1 Wd.length cw), pI 6 (rowP Wd), vI 7 (.bool yb), vI 8 (.bool false), vI 9 (.bool false), vI 10 (.pointer (some ⟨w.heap.size, 5, none⟩)), vI 11 (.agg #[.int .i64 nb, .int .i64 mb, .slice b1 Sb.length d1, .slice b2 Fb.length d2, .slice b3 Eb.length d3]), pI 12 (rdP nb mb Sb Fb Eb), vI 13 (.pointer (some ⟨w.heap.size, 13, none⟩)), vI 14 (.slice u1 Wd.length cw), pI 15 (rowP Wd), vI 16 (.bool yb), vI 17 (.bool yb), vI 18 (.bool false), vI 19 (.bool false)] := ⟨vI_mono _ _, vI_mono _ _, vI_mono _ _, vI_mono _ _, vI_mono _ _, vI_mono _ _, pI_mono rowP_mono, vI_mono _ _, vI_mono _ _, vI_mono _ _, vI_mono _ _, vI_mono _ _, pI_mono rdP_mono, vI_mono _ _, vI_mono _ _, pI_mono rowP_mono, vI_mono _ _, vI_mono _ _, vI_mono _ _, vI_mono _ _, trivial⟩
                      refine wp_region_sl [vI 0 (.int .i64 0), vI 1 (.bool true), vI 2 (.bool true), vI 3 (.agg #[.int .i64 NU, .int .i64 m, .slice (some ⟨v1, 0, none⟩) (XS).length kv1, .slice (some ⟨v2, 0, none⟩) (XF).length kv2, .slice (some ⟨v3, 0, none⟩) (XE).length kv3]), vI 4 (.pointer (some ⟨w.heap.size, 13, none⟩)), vI 5 (.slice u1 Wd.length cw), pI 6 (rowP Wd), vI 7 (.bool yb), vI 8 (.bool false), vI 9 (.bool false), vI 10 (.pointer (some ⟨w.heap.size, 5, none⟩)), vI 11 (.agg #[.int .i64 nb, .int .i64 mb, .slice b1 Sb.length d1, .slice b2 Fb.length d2, .slice b3 Eb.length d3]), pI 12 (rdP nb mb Sb Fb Eb), vI 13 (.pointer (some ⟨w.heap.size, 13, none⟩)), vI 14 (.slice u1 Wd.length cw), pI 15 (rowP Wd), vI 16 (.bool yb), vI 17 (.bool yb), vI 18 (.bool false), vI 19 (.bool false)] (by kernel_rfl) (by kernel_rfl) (by kernel_rfl) (by kernel_rfl) hmo ⟨?o0, ?o1, ?o2, ?o3, ?o4, ?o5, ?o6, ?o7, ?o8, ?o9, ?o10, ?o11, ?o12, ?o13, ?o14, ?o15, ?o16, ?o17, ?o18, ?o19, trivial⟩ ?fin
                      case o0 =>
                        intro A y W hy hb d hd K hK
                        have s6 : A.tmps.getD 6 undef = .int .i64 0 := hb 6 rfl
                        have s6' := s6
                        rw [Array.getD_eq_getD_getElem?] at s6'
                        clear hd hy hb
                        go_simp
                        exact hK.out _ W (stp_of hmo d (Below.refl _ _)) (if_pos rfl)
                      case o1 =>
                        intro A y W hy hb d hd K hK
                        have e0 : y 0 = .int .i64 0 := by obtain ⟨_, _, _, _, e⟩ := hd ⟨0, .data⟩ (by simp) rfl rfl; exact e
                        have s101 := (hy 0 _ 101 rfl rfl).trans e0
                        have s101' := s101
                        rw [Array.getD_eq_getD_getElem?] at s101'
                        clear hd hy hb
                        go_simp
                        exact hK.out _ W (stp_of hmo d (Below.refl _ _)) (if_pos rfl)
                      case o2 =>
                        intro A y W hy hb d hd K hK
                        have e1 : y 1 = .bool true := by obtain ⟨_, _, _, _, e⟩ := hd ⟨1, .data⟩ (by simp) rfl rfl; exact e
                        have s102 := (hy 1 _ 102 rfl rfl).trans e1
                        have s102' := s102
                        rw [Array.getD_eq_getD_getElem?] at s102'
                        clear hd hy hb
                        go_simp
                        exact hK.out _ W (stp_of hmo d (Below.refl _ _)) (if_pos rfl)
                      case o3 =>
                        intro A y W hy hb d hd K hK
                        have e2 : y 2 = .bool true := by obtain ⟨_, _, _, _, e⟩ := hd ⟨2, .guard⟩ (by simp) rfl rfl; exact e
                        have s10 : A.tmps.getD 10 undef = .pointer (some ⟨bu, 0, none⟩) := hb 10 rfl
                        have s10' := s10
                        rw [Array.getD_eq_getD_getElem?] at s10'
                        have s103 := (hy 2 _ 103 rfl rfl).trans e2
                        have s103' := s103
                        rw [Array.getD_eq_getD_getElem?] at s103'
                        have g103 := got_bool s103
                        clear hd hy hb
                        have HB := blk_on hbu.out d
                        have q0 : W.cell? ⟨bu, 0, none⟩ = some (.int .i64 NU) := cell_of HB rfl
                        have q1 : W.cell? ⟨bu, 1, none⟩ = some (.int .i64 m) := cell_of HB rfl
                        have q2 : W.cell? ⟨bu, 2, none⟩ = some (.slice (some ⟨v1, 0, none⟩) (XS).length kv1) := cell_of HB rfl
                        have q3 : W.cell? ⟨bu, 3, none⟩ = some (.slice (some ⟨v2, 0, none⟩) (XF).length kv2) := cell_of HB rfl
                        have q4 : W.cell? ⟨bu, 4, none⟩ = some (.slice (some ⟨v3, 0, none⟩) (XE).length kv3) := cell_of HB rfl
                        go_simp
                        exact hK.out _ W (stp_of hmo d (Below.refl _ _)) (if_pos rfl)
                      case o4 =>
                        intro A y W hy hb d hd K hK
                        have e2 : y 2 = .bool true := by obtain ⟨_, _, _, _, e⟩ := hd ⟨2, .guard⟩ (by simp) rfl rfl; exact e
                        have s1 : A.tmps.getD 1 undef = .pointer (some ⟨w.heap.size, 0, none⟩) := hb 1 rfl
                        have s1' := s1
                        rw [Array.getD_eq_getD_getElem?] at s1'
                        have s103 := (hy 2 _ 103 rfl rfl).trans e2
                        have s103' := s103
                        rw [Array.getD_eq_getD_getElem?] at s103'
                        have g103 := got_bool s103
                        clear hd hy hb
                        go_simp
                        exact hK.out _ W (stp_of hmo d (Below.refl _ _)) (if_pos rfl)
                      case o5 =>
                        intro A y W hy hb d hd K hK
                        have e4 : y 4 = .pointer (some ⟨w.heap.size, 13, none⟩) := by obtain ⟨_, _, _, _, e⟩ := hd ⟨4, .data⟩ (by simp) rfl rfl; exact e
                        have e2 : y 2 = .bool true := by obtain ⟨_, _, _, _, e⟩ := hd ⟨2, .guard⟩ (by simp) rfl rfl; exact e
                        have s103 := (hy 2 _ 103 rfl rfl).trans e2
                        have s103' := s103
                        rw [Array.getD_eq_getD_getElem?] at s103'
                        have s105 := (hy 4 _ 105 rfl rfl).trans e4
                        have s105' := s105
                        rw [Array.getD_eq_getD_getElem?] at s105'
                        have g103 := got_bool s103
                        clear hd hy hb
                        have S := SKa.out W (HU.out.trans (d.mono HU.out.size))
                        obtain ⟨a0, a1', a2', a3', a4', b0, b1', b2', b3', b4', c13, c14, c15, _⟩ := S
                        go_simp
                        exact hK.out _ W (stp_of hmo d (Below.refl _ _)) (if_pos rfl)
                      case o6 =>
                        intro A y W hy hb d hd K hK
                        have e5 : y 5 = .slice u1 Wd.length cw := by obtain ⟨_, _, _, _, e⟩ := hd ⟨5, .data⟩ (by simp) rfl rfl; exact e
                        have e2 : y 2 = .bool true := by obtain ⟨_, _, _, _, e⟩ := hd ⟨2, .guard⟩ (by simp) rfl rfl; exact e
                        have DW := HU.out.trans (d.mono HU.out.size)
                        have s103 := (hy 2 _ 103 rfl rfl).trans e2
                        have s103' := s103
                        rw [Array.getD_eq_getD_getElem?] at s103'
                        have s106 := (hy 5 _ 106 rfl rfl).trans e5
                        have s106' := s106
                        rw [Array.getD_eq_getD_getElem?] at s106'
                        have g103 := got_bool s103
                        clear hd hy hb
                        go_simp
                        go_wp2_with (go_at_call 11; refine (G11.out _ DW).mono ?_; rintro e wa ⟨gq, kq, rfl, hQ1, Da, da⟩)
                        exact hK.out _ wa (stp_of hmo d da) ⟨gq, kq, if_pos rfl, hQ1.out⟩
                      case o7 =>
                        intro A y W hy hb d hd K hK
                        have e3 : y 3 = .agg #[.int .i64 NU, .int .i64 m, .slice (some ⟨v1, 0, none⟩) (XS).length kv1, .slice (some ⟨v2, 0, none⟩) (XF).length kv2, .slice (some ⟨v3, 0, none⟩) (XE).length kv3] := by obtain ⟨_, _, _, _, e⟩ := hd ⟨3, .data⟩ (by simp) rfl rfl; exact e
                        have f6 := hd ⟨6, .data⟩ (by simp) rfl rfl
                        have e2 : y 2 = .bool true := by obtain ⟨_, _, _, _, e⟩ := hd ⟨2, .guard⟩ (by simp) rfl rfl; exact e
                        have DW := HU.out.trans (d.mono HU.out.size)
                        obtain ⟨_, _, _, _, gq, kq, e6, r6⟩ := f6
                        have s103 := (hy 2 _ 103 rfl rfl).trans e2
                        have s103' := s103
                        rw [Array.getD_eq_getD_getElem?] at s103'
                        have s104 := (hy 3 _ 104 rfl rfl).trans e3
                        have s104' := s104
                        rw [Array.getD_eq_getD_getElem?] at s104'
                        have s107 := (hy 6 _ 107 rfl rfl).trans e6
                        have s107' := s107
                        rw [Array.getD_eq_getD_getElem?] at s107'
                        have g103 := got_bool s103
                        clear hd hy hb
                        go_simp
                        go_wp2_with (go_at_call 26; refine (GTU.out _ _ _ DW (rbu.out.on d) r6).mono ?_; rintro e wa ⟨rfl, Da, da⟩)
                        exact hK.out _ wa (stp_of hmo d da) (if_pos rfl)
                      case o8 =>
                        intro A y W hy hb d hd K hK
                        have e2 : y 2 = .bool true := by obtain ⟨_, _, _, _, e⟩ := hd ⟨2, .guard⟩ (by simp) rfl rfl; exact e
                        have s9 : A.tmps.getD 9 undef = .bool false := hb 9 rfl
                        have s9' := s9
                        rw [Array.getD_eq_getD_getElem?] at s9'
                        have s103 := (hy 2 _ 103 rfl rfl).trans e2
                        have s103' := s103
                        rw [Array.getD_eq_getD_getElem?] at s103'
                        have g103 := got_bool s103
                        clear hd hy hb
                        go_simp
                        exact hK.out _ W (stp_of hmo d (Below.refl _ _)) (if_pos rfl)
                      case o9 =>
                        intro A y W hy hb d hd K hK
                        have e8 : y 8 = .bool false := by obtain ⟨_, _, _, _, e⟩ := hd ⟨8, .data⟩ (by simp) rfl rfl; exact e
                        have e2 : y 2 = .bool true := by obtain ⟨_, _, _, _, e⟩ := hd ⟨2, .guard⟩ (by simp) rfl rfl; exact e
                        have s103 := (hy 2 _ 103 rfl rfl).trans e2
                        have s103' := s103
                        rw [Array.getD_eq_getD_getElem?] at s103'
                        have s109 := (hy 8 _ 109 rfl rfl).trans e8
                        have s109' := s109
                        rw [Array.getD_eq_getD_getElem?] at s109'
                        have g103 := got_bool s103
                        clear hd hy hb
                        go_simp
                        exact hK.out _ W (stp_of hmo d (Below.refl _ _)) (if_pos rfl)
                      case o10 =>
                        intro A y W hy hb d hd K hK
                        have e9 : y 9 = .bool false := by obtain ⟨_, _, _, _, e⟩ := hd ⟨9, .guard⟩ (by simp) rfl rfl; exact e
                        have s1 : A.tmps.getD 1 undef = .pointer (some ⟨w.heap.size, 0, none⟩) := hb 1 rfl
                        have s1' := s1
                        rw [Array.getD_eq_getD_getElem?] at s1'
                        have s110 := (hy 9 _ 110 rfl rfl).trans e9
                        have s110' := s110
                        rw [Array.getD_eq_getD_getElem?] at s110'
                        have g110 := got_bool s110
                        clear hd hy hb
                        go_simp
                        exact hK.out _ W (stp_of hmo d (Below.refl _ _)) (if_pos rfl)
                      case o11 =>
                        intro A y W hy hb d hd K hK
                        have e10 : y 10 = .pointer (some ⟨w.heap.size, 5, none⟩) := by obtain ⟨_, _, _, _, e⟩ := hd ⟨10, .data⟩ (by simp) rfl rfl; exact e
                        have e9 : y 9 = .bool false := by obtain ⟨_, _, _, _, e⟩ := hd ⟨9, .guard⟩ (by simp) rfl rfl; exact e
                        have s110 := (hy 9 _ 110 rfl rfl).trans e9
                        have s110' := s110
                        rw [Array.getD_eq_getD_getElem?] at s110'
                        have s111 := (hy 10 _ 111 rfl rfl).trans e10
                        have s111' := s111
                        rw [Array.getD_eq_getD_getElem?] at s111'
                        have g110 := got_bool s110
                        clear hd hy hb
                        have S := SKa.out W (HU.out.trans (d.mono HU.out.size))
                        obtain ⟨a0, a1', a2', a3', a4', b0, b1', b2', b3', b4', c13, c14, c15, _⟩ := S
                        go_simp
                        exact hK.out _ W (stp_of hmo d (Below.refl _ _)) (if_pos rfl)
                      case o12 =>
                        intro A y W hy hb d hd K hK
                        have e11 : y 11 = .agg #[.int .i64 nb, .int .i64 mb, .slice b1 Sb.length d1, .slice b2 Fb.length d2, .slice b3 Eb.length d3] := by obtain ⟨_, _, _, _, e⟩ := hd ⟨11, .data⟩ (by simp) rfl rfl; exact e
                        have e9 : y 9 = .bool false := by obtain ⟨_, _, _, _, e⟩ := hd ⟨9, .guard⟩ (by simp) rfl rfl; exact e
                        have DW := HU.out.trans (d.mono HU.out.size)
                        have s110 := (hy 9 _ 110 rfl rfl).trans e9
                        have s110' := s110
                        rw [Array.getD_eq_getD_getElem?] at s110'
                        have s112 := (hy 11 _ 112 rfl rfl).trans e11
                        have s112' := s112
                        rw [Array.getD_eq_getD_getElem?] at s112'
                        have g110 := got_bool s110
                        clear hd hy hb
                        go_simp
                        go_wp2_with (go_at_call 10; refine (G10b.out _ DW).mono ?_; rintro e wa ⟨v1, kv1, v2, kv2, v3, kv3, rfl, hA1, Da, da⟩)
                        exact hK.out _ wa (stp_of hmo d da) ⟨v1, kv1, v2, kv2, v3, kv3, if_pos rfl, hA1.out⟩
                      case o13 =>
                        intro A y W hy hb d hd K hK
                        have e9 : y 9 = .bool false := by obtain ⟨_, _, _, _, e⟩ := hd ⟨9, .guard⟩ (by simp) rfl rfl; exact e
                        have s1 : A.tmps.getD 1 undef = .pointer (some ⟨w.heap.size, 0, none⟩) := hb 1 rfl
                        have s1' := s1
                        rw [Array.getD_eq_getD_getElem?] at s1'
                        have s110 := (hy 9 _ 110 rfl rfl).trans e9
                        have s110' := s110
                        rw [Array.getD_eq_getD_getElem?] at s110'
                        have g110 := got_bool s110
                        clear hd hy hb
                        go_simp
                        exact hK.out _ W (stp_of hmo d (Below.refl _ _)) (if_pos rfl)
                      case o14 =>
                        intro A y W hy hb d hd K hK
                        have e13 : y 13 = .pointer (some ⟨w.heap.size, 13, none⟩) := by obtain ⟨_, _, _, _, e⟩ := hd ⟨13, .data⟩ (by simp) rfl rfl; exact e
                        have e9 : y 9 = .bool false := by obtain ⟨_, _, _, _, e⟩ := hd ⟨9, .guard⟩ (by simp) rfl rfl; exact e
                        have s110 := (hy 9 _ 110 rfl rfl).trans e9
                        have s110' := s110
                        rw [Array.getD_eq_getD_getElem?] at s110'
                        have s114 := (hy 13 _ 114 rfl rfl).trans e13
                        have s114' := s114
                        rw [Array.getD_eq_getD_getElem?] at s114'
                        have g110 := got_bool s110
                        clear hd hy hb
                        have S := SKa.out W (HU.out.trans (d.mono HU.out.size))
                        obtain ⟨a0, a1', a2', a3', a4', b0, b1', b2', b3', b4', c13, c14, c15, _⟩ := S
                        go_simp
                        exact hK.out _ W (stp_of hmo d (Below.refl _ _)) (if_pos rfl)
                      case o15 =>
                        intro A y W hy hb d hd K hK
                        have e14 : y 14 = .slice u1 Wd.length cw := by obtain ⟨_, _, _, _, e⟩ := hd ⟨14, .data⟩ (by simp) rfl rfl; exact e
                        have e9 : y 9 = .bool false := by obtain ⟨_, _, _, _, e⟩ := hd ⟨9, .guard⟩ (by simp) rfl rfl; exact e
                        have DW := HU.out.trans (d.mono HU.out.size)
                        have s110 := (hy 9 _ 110 rfl rfl).trans e9
                        have s110' := s110
                        rw [Array.getD_eq_getD_getElem?] at s110'
                        have s115 := (hy 14 _ 115 rfl rfl).trans e14
                        have s115' := s115
                        rw [Array.getD_eq_getD_getElem?] at s115'
                        have g110 := got_bool s110
                        clear hd hy hb
                        go_simp
                        go_wp2_with (go_at_call 11; refine (G11.out _ DW).mono ?_; rintro e wa ⟨gq, kq, rfl, hQ1, Da, da⟩)
                        exact hK.out _ wa (stp_of hmo d da) ⟨gq, kq, if_pos rfl, hQ1.out⟩
                      case o16 =>
                        intro A y W hy hb d hd K hK
                        have f12 := hd ⟨12, .data⟩ (by simp) rfl rfl
                        have f15 := hd ⟨15, .data⟩ (by simp) rfl rfl
                        have e9 : y 9 = .bool false := by obtain ⟨_, _, _, _, e⟩ := hd ⟨9, .guard⟩ (by simp) rfl rfl; exact e
                        have DW := HU.out.trans (d.mono HU.out.size)
                        obtain ⟨_, _, _, _, v1, kv1, v2, kv2, v3, kv3, e12, r12⟩ := f12
                        obtain ⟨_, _, _, _, gq, kq, e15, r15⟩ := f15
                        have s110 := (hy 9 _ 110 rfl rfl).trans e9
                        have s110' := s110
                        rw [Array.getD_eq_getD_getElem?] at s110'
                        have s113 := (hy 12 _ 113 rfl rfl).trans e12
                        have s113' := s113
                        rw [Array.getD_eq_getD_getElem?] at s113'
                        have s116 := (hy 15 _ 116 rfl rfl).trans e15
                        have s116' := s116
                        rw [Array.getD_eq_getD_getElem?] at s116'
                        have g110 := got_bool s110
                        clear hd hy hb
                        go_simp
                        go_wp2_with (go_at_call 26; refine (GTB.out _ _ _ _ _ _ _ _ _ DW r12 r15).mono ?_; rintro e wa ⟨rfl, Da, da⟩)
                        exact hK.out _ wa (stp_of hmo d da) (if_pos rfl)
                      case o17 =>
                        intro A y W hy hb d hd K hK
                        have e9 : y 9 = .bool false := by obtain ⟨_, _, _, _, e⟩ := hd ⟨9, .data⟩ (by simp) rfl rfl; exact e
                        have e16 : y 16 = .bool yb := by obtain ⟨_, _, _, _, e⟩ := hd ⟨16, .data⟩ (by simp) rfl rfl; exact e
                        have e2 : y 2 = .bool true := by obtain ⟨_, _, _, _, e⟩ := hd ⟨2, .guard⟩ (by simp) rfl rfl; exact e
                        have s103 := (hy 2 _ 103 rfl rfl).trans e2
                        have s103' := s103
                        rw [Array.getD_eq_getD_getElem?] at s103'
                        have s110 := (hy 9 _ 110 rfl rfl).trans e9
                        have s110' := s110
                        rw [Array.getD_eq_getD_getElem?] at s110'
                        have s117 := (hy 16 _ 117 rfl rfl).trans e16
                        have s117' := s117
                        rw [Array.getD_eq_getD_getElem?] at s117'
                        have g103 := got_bool s103
                        clear hd hy hb
                        go_simp
                        exact hK.out _ W (stp_of hmo d (Below.refl _ _)) (if_pos rfl)
                      case o18 =>
                        intro A y W hy hb d hd K hK
                        have e7 : y 7 = .bool yb := by obtain ⟨_, _, _, _, e⟩ := hd ⟨7, .data⟩ (by simp) rfl rfl; exact e
                        have e17 : y 17 = .bool yb := by obtain ⟨_, _, _, _, e⟩ := hd ⟨17, .data⟩ (by simp) rfl rfl; exact e
                        have e2 : y 2 = .bool true := by obtain ⟨_, _, _, _, e⟩ := hd ⟨2, .guard⟩ (by simp) rfl rfl; exact e
                        have s103 := (hy 2 _ 103 rfl rfl).trans e2
                        have s103' := s103
                        rw [Array.getD_eq_getD_getElem?] at s103'
                        have s108 := (hy 7 _ 108 rfl rfl).trans e7
                        have s108' := s108
                        rw [Array.getD_eq_getD_getElem?] at s108'
                        have s118 := (hy 17 _ 118 rfl rfl).trans e17
                        have s118' := s118
                        rw [Array.getD_eq_getD_getElem?] at s118'
                        have g103 := got_bool s103
                        clear hd hy hb
                        go_simp
                        exact hK.out _ W (stp_of hmo d (Below.refl _ _)) (if_pos rfl)
                      case o19 =>
                        intro A y W hy hb d hd K hK
                        have e2 : y 2 = .bool true := by obtain ⟨_, _, _, _, e⟩ := hd ⟨2, .data⟩ (by simp) rfl rfl; exact e
                        have e18 : y 18 = .bool false := by obtain ⟨_, _, _, _, e⟩ := hd ⟨18, .data⟩ (by simp) rfl rfl; exact e
                        have s103 := (hy 2 _ 103 rfl rfl).trans e2
                        have s103' := s103
                        rw [Array.getD_eq_getD_getElem?] at s103'
                        have s119 := (hy 18 _ 119 rfl rfl).trans e18
                        have s119' := s119
                        rw [Array.getD_eq_getD_getElem?] at s119'
                        clear hd hy hb
                        go_simp
                        exact hK.out _ W (stp_of hmo d (Below.refl _ _)) (if_pos rfl)
                      case fin =>
                        intro y lo hi W hM
                        show wpList _ _ _ [] _ _
                        have e0 : y 0 = .int .i64 0 := hM.fact 0 (by simp) rfl (notR_all 0 rfl)
                        have e1 : y 1 = .bool true := hM.fact 1 (by simp) rfl (notR_all 1 rfl)
                        have e2 : y 2 = .bool true := hM.fact 2 (by simp) rfl (notR_all 2 rfl)
                        have e3 : y 3 = .agg #[.int .i64 NU, .int .i64 m, .slice (some ⟨v1, 0, none⟩) (XS).length kv1, .slice (some ⟨v2, 0, none⟩) (XF).length kv2, .slice (some ⟨v3, 0, none⟩) (XE).length kv3] := hM.fact 3 (by simp) rfl (notR_all 3 rfl)
                        have e4 : y 4 = .pointer (some ⟨w.heap.size, 13, none⟩) := hM.fact 4 (by simp) rfl (notR_all 4 rfl)
                        have e5 : y 5 = .slice u1 Wd.length cw := hM.fact 5 (by simp) rfl (notR_all 5 rfl)
                        have e7 : y 7 = .bool yb := hM.fact 7 (by simp) rfl (notR_all 7 rfl)
                        have e8 : y 8 = .bool false := hM.fact 8 (by simp) rfl (notR_all 8 rfl)
                        have e9 : y 9 = .bool false := hM.fact 9 (by simp) rfl (notR_all 9 rfl)
                        have e10 : y 10 = .pointer (some ⟨w.heap.size, 5, none⟩) := hM.fact 10 (by simp) rfl (notR_all 10 rfl)
                        have e11 : y 11 = .agg #[.int .i64 nb, .int .i64 mb, .slice b1 Sb.length d1, .slice b2 Fb.length d2, .slice b3 Eb.length d3] := hM.fact 11 (by simp) rfl (notR_all 11 rfl)
                        have e13 : y 13 = .pointer (some ⟨w.heap.size, 13, none⟩) := hM.fact 13 (by simp) rfl (notR_all 13 rfl)
                        have e14 : y 14 = .slice u1 Wd.length cw := hM.fact 14 (by simp) rfl (notR_all 14 rfl)
                        have e16 : y 16 = .bool yb := hM.fact 16 (by simp) rfl (notR_all 16 rfl)
                        have e17 : y 17 = .bool yb := hM.fact 17 (by simp) rfl (notR_all 17 rfl)
                        have e18 : y 18 = .bool false := hM.fact 18 (by simp) rfl (notR_all 18 rfl)
                        have e19 : y 19 = .bool false := hM.fact 19 (by simp) rfl (notR_all 19 rfl)
                        have DW := HU.out.trans (hM.d.mono HU.out.size)
                        simp only [fills, Act.put, List.take, List.length, List.setIfInBounds_toArray, List.set_cons_zero, List.set_cons_succ, e0, e1, e2, e3, e4, e5, e7, e8, e9, e10, e11, e13, e14, e16, e17, e18, e19]
                        clear hM hmo e0 e1 e2 e3 e4 e5 e7 e8 e9 e10 e11 e13 e14 e16 e17 e18 e19
                        have HW := hide DW
                        clear DW
                        go_wp2_with fail
                        go_meet
                        exact ⟨rfl, HW⟩

                case rest =>
                  obtain ⟨rfl, HV⟩ := hcut
                  rename World => wv
                  clear HC HU
                  obtain ⟨RE, hRE⟩ : ∃ X, riseE (rlEs To Ed) = X := ⟨_, rfl⟩
                  have HRE : Hid (riseE (rlEs To Ed) = RE ∧ RE.length ≤ 1048576) := hide ⟨hRE, by rw [← hRE]; exact Nat.le_trans (riseE_len _) (by unfold rlEs; rw [List.length_map]; exact h3)⟩
                  clear hRE
                  have G11o : Hid (∀ W, Below wg.heap.size wg W → Calls Tryz.prog 11 #[.slice o1 To.length co] W fun e w' => ∃ g c, e = .returned (.slice (some ⟨g, 0, none⟩) To.length c) ∧ Hid (RdN w' (some ⟨g, 0, none⟩) To) ∧ Below wg.heap.size wg w' ∧ Below W.heap.size W w') := hide (fun W d => by
                    refine (ints_any W o1 To co (hide (hO.out.on (KW.out W (OP.out.on d).d))) (by omega)).mono ?_
                    rintro e w' ⟨g, c, he, hm, dd⟩
                    exact ⟨g, c, he, hide hm.out.rd, d.trans (dd.mono d.size), dd⟩)
                  go_upto_region 16 with fail
                  go_cut [6, 9, 11] from 6 to 132 (fun f y u W => Hid (P13 wg ys (wideOk m kk To = true) (fun x => x = 1) N kk S1 F1 RE f y u W))
                  case first =>
                    rename World => wv0
                    by_cases ew : wideOk m kk To = true
                    · have GV : Hid (∀ (W : World) (s1 ks1 s2 ks2 s3 ks3 gq kq : Nat), Below wg.heap.size wg W → RdA W (some ⟨s1, 0, none⟩) (some ⟨s2, 0, none⟩) (some ⟨s3, 0, none⟩) (St) (Fi) (Ed) → RdN W (some ⟨gq, 0, none⟩) To → Calls Tryz.prog 29 #[.agg #[.int .i64 (N : Int), .int .i64 m, .slice (some ⟨s1, 0, none⟩) (St).length ks1, .slice (some ⟨s2, 0, none⟩) (Fi).length ks2, .slice (some ⟨s3, 0, none⟩) (Ed).length ks3], .int .i64 kk, .slice (some ⟨gq, 0, none⟩) To.length kq] W fun e w' => ∃ r1 kr1 r2 kr2 r3 kr3, e = .returned (.tuple #[.agg #[.int .i64 (N : Int), .int .i64 kk, .slice (some ⟨r1, 0, none⟩) (S1).length kr1, .slice (some ⟨r2, 0, none⟩) (F1).length kr2, .slice (some ⟨r3, 0, none⟩) (RE).length kr3], .int .i64 0]) ∧ Hid (Own W.heap.size w' r1 kr1 r2 kr2 r3 kr3 S1 F1 RE) ∧ Below wg.heap.size wg w' ∧ Below W.heap.size W w') := hide (fun W s1 ks1 s2 ks2 s3 ks3 gq kq d hA hQ => by
                        have t := widen_ok W N m kk (some ⟨s1, 0, none⟩) (some ⟨s2, 0, none⟩) (some ⟨s3, 0, none⟩) (some ⟨gq, 0, none⟩) ks1 ks2 ks3 kq St Fi To Ed (hide hA) (hide hQ) (by omega) (by omega) (by omega) (by omega) HEM.out ew
                        rw [HQ.out.1, HQ.out.2.1, HRE.out.1] at t
                        refine t.mono ?_
                        rintro e w' ⟨r1, kr1, r2, kr2, r3, kr3, he, ho, dd⟩
                        exact ⟨r1, kr1, r2, kr2, r3, kr3, he, hide ho, d.trans (dd.mono d.size), dd⟩)
                      have EU := hide ew
                      clear ew
                      have hmo : MonIL 0 [vI 0 (.pointer (some ⟨w.heap.size, 0, none⟩)), vI 1 (.agg #[.int .i64 (N : Int), .int .i64 m, .slice a1 St.length c1, .slice a2 Fi.length c2, .slice a3 Ed.length c3]), pI 2 (rdP N m St Fi Ed), vI 3 (.pointer (some ⟨w.heap.size, 14, none⟩)), vI 4 (.int .i64 kk), vI 5 (.pointer (some ⟨w.heap.size, 15, none⟩)), vI 6 (.slice o1 To.length co), pI 7 (rowP To), pI 8 (ownT wv0.heap.size N kk S1 F1 RE), pI 9 (ownT wv0.heap.size N kk S1 F1 RE), pI 10 (ownB wv0.heap.size N kk S1 F1 RE), vI 11 (.int .i64 0), pI 12 (boxP), boxedI wv0.heap.size 12 [2, 7, 12] N kk S1 F1 RE, vI 14 (.int .i64 0)] := ⟨vI_mono _ _, vI_mono _ _, pI_mono rdP_mono, vI_mono _ _, vI_mono _ _, vI_mono _ _, vI_mono _ _, pI_mono rowP_mono, pI_mono ownT_mono, pI_mono ownT_mono, pI_mono ownB_mono, vI_mono _ _, pI_mono boxP_mono, boxedI_mono, vI_mono _ _, trivial⟩
                      refine wp_region_sl [vI 0 (.pointer (some ⟨w.heap.size, 0, none⟩)), vI 1 (.agg #[.int .i64 (N : Int), .int .i64 m, .slice a1 St.length c1, .slice a2 Fi.length c2, .slice a3 Ed.length c3]), pI 2 (rdP N m St Fi Ed), vI 3 (.pointer (some ⟨w.heap.size, 14, none⟩)), vI 4 (.int .i64 kk), vI 5 (.pointer (some ⟨w.heap.size, 15, none⟩)), vI 6 (.slice o1 To.length co), pI 7 (rowP To), pI 8 (ownT wv0.heap.size N kk S1 F1 RE), pI 9 (ownT wv0.heap.size N kk S1 F1 RE), pI 10 (ownB wv0.heap.size N kk S1 F1 RE), vI 11 (.int .i64 0), pI 12 (boxP), boxedI wv0.heap.size 12 [2, 7, 12] N kk S1 F1 RE, vI 14 (.int .i64 0)] (by kernel_rfl) (by kernel_rfl) (by kernel_rfl) (by kernel_rfl) hmo ⟨?o0, ?o1, ?o2, ?o3, ?o4, ?o5, ?o6, ?o7, ?o8, ?o9, ?o10, ?o11, ?o12, ?o13, ?o14, trivial⟩ ?fin
                      case o0 =>
                        intro A y W hy hb d hd K hK
                        have s1 : A.tmps.getD 1 undef = .pointer (some ⟨w.heap.size, 0, none⟩) := hb 1 rfl
                        have s1' := s1
                        rw [Array.getD_eq_getD_getElem?] at s1'
                        clear hd hy hb
                        go_simp
                        exact hK.out _ W (stp_of hmo d (Below.refl _ _)) (if_pos rfl)
                      case o1 =>
                        intro A y W hy hb d hd K hK
                        have e0 : y 0 = .pointer (some ⟨w.heap.size, 0, none⟩) := by obtain ⟨_, _, _, _, e⟩ := hd ⟨0, .data⟩ (by simp) rfl rfl; exact e
                        have s122 := (hy 0 _ 122 rfl rfl).trans e0
                        have s122' := s122
                        rw [Array.getD_eq_getD_getElem?] at s122'
                        clear hd hy hb
                        have S := SKa.out W (HV.out.trans (d.mono HV.out.size))
                        obtain ⟨a0, a1', a2', a3', a4', b0, b1', b2', b3', b4', c13, c14, c15, _⟩ := S
                        go_simp
                        exact hK.out _ W (stp_of hmo d (Below.refl _ _)) (if_pos rfl)
                      case o2 =>
                        intro A y W hy hb d hd K hK
                        have e1 : y 1 = .agg #[.int .i64 (N : Int), .int .i64 m, .slice a1 St.length c1, .slice a2 Fi.length c2, .slice a3 Ed.length c3] := by obtain ⟨_, _, _, _, e⟩ := hd ⟨1, .data⟩ (by simp) rfl rfl; exact e
                        have DW := HV.out.trans (d.mono HV.out.size)
                        have s123 := (hy 1 _ 123 rfl rfl).trans e1
                        have s123' := s123
                        rw [Array.getD_eq_getD_getElem?] at s123'
                        clear hd hy hb
                        go_simp
                        go_wp2_with (go_at_call 10; refine (G10.out _ DW).mono ?_; rintro e wa ⟨s1, ks1, s2, ks2, s3, ks3, rfl, hA1, Da, da⟩)
                        exact hK.out _ wa (stp_of hmo d da) ⟨s1, ks1, s2, ks2, s3, ks3, if_pos rfl, hA1.out⟩
                      case o3 =>
                        intro A y W hy hb d hd K hK
                        have s1 : A.tmps.getD 1 undef = .pointer (some ⟨w.heap.size, 0, none⟩) := hb 1 rfl
                        have s1' := s1
                        rw [Array.getD_eq_getD_getElem?] at s1'
                        clear hd hy hb
                        go_simp
                        exact hK.out _ W (stp_of hmo d (Below.refl _ _)) (if_pos rfl)
                      case o4 =>
                        intro A y W hy hb d hd K hK
                        have e3 : y 3 = .pointer (some ⟨w.heap.size, 14, none⟩) := by obtain ⟨_, _, _, _, e⟩ := hd ⟨3, .data⟩ (by simp) rfl rfl; exact e
                        have s125 := (hy 3 _ 125 rfl rfl).trans e3
                        have s125' := s125
                        rw [Array.getD_eq_getD_getElem?] at s125'
                        clear hd hy hb
                        have S := SKa.out W (HV.out.trans (d.mono HV.out.size))
                        obtain ⟨a0, a1', a2', a3', a4', b0, b1', b2', b3', b4', c13, c14, c15, _⟩ := S
                        go_simp
                        exact hK.out _ W (stp_of hmo d (Below.refl _ _)) (if_pos rfl)
                      case o5 =>
                        intro A y W hy hb d hd K hK
                        have s1 : A.tmps.getD 1 undef = .pointer (some ⟨w.heap.size, 0, none⟩) := hb 1 rfl
                        have s1' := s1
                        rw [Array.getD_eq_getD_getElem?] at s1'
                        clear hd hy hb
                        go_simp
                        exact hK.out _ W (stp_of hmo d (Below.refl _ _)) (if_pos rfl)
                      case o6 =>
                        intro A y W hy hb d hd K hK
                        have e5 : y 5 = .pointer (some ⟨w.heap.size, 15, none⟩) := by obtain ⟨_, _, _, _, e⟩ := hd ⟨5, .data⟩ (by simp) rfl rfl; exact e
                        have s127 := (hy 5 _ 127 rfl rfl).trans e5
                        have s127' := s127
                        rw [Array.getD_eq_getD_getElem?] at s127'
                        clear hd hy hb
                        have S := SKa.out W (HV.out.trans (d.mono HV.out.size))
                        obtain ⟨a0, a1', a2', a3', a4', b0, b1', b2', b3', b4', c13, c14, c15, _⟩ := S
                        go_simp
                        exact hK.out _ W (stp_of hmo d (Below.refl _ _)) (if_pos rfl)
                      case o7 =>
                        intro A y W hy hb d hd K hK
                        have e6 : y 6 = .slice o1 To.length co := by obtain ⟨_, _, _, _, e⟩ := hd ⟨6, .data⟩ (by simp) rfl rfl; exact e
                        have DW := HV.out.trans (d.mono HV.out.size)
                        have s128 := (hy 6 _ 128 rfl rfl).trans e6
                        have s128' := s128
                        rw [Array.getD_eq_getD_getElem?] at s128'
                        clear hd hy hb
                        go_simp
                        go_wp2_with (go_at_call 11; refine (G11o.out _ DW).mono ?_; rintro e wa ⟨gq, kq, rfl, hQ1, Da, da⟩)
                        exact hK.out _ wa (stp_of hmo d da) ⟨gq, kq, if_pos rfl, hQ1.out⟩
                      case o8 =>
                        intro A y W hy hb d hd K hK
                        have f2 := hd ⟨2, .data⟩ (by simp) rfl rfl
                        have e4 : y 4 = .int .i64 kk := by obtain ⟨_, _, _, _, e⟩ := hd ⟨4, .data⟩ (by simp) rfl rfl; exact e
                        have f7 := hd ⟨7, .data⟩ (by simp) rfl rfl
                        have DW := HV.out.trans (d.mono HV.out.size)
                        obtain ⟨_, _, _, _, s1, ks1, s2, ks2, s3, ks3, e2, r2⟩ := f2
                        obtain ⟨_, _, _, _, gq, kq, e7, r7⟩ := f7
                        have s124 := (hy 2 _ 124 rfl rfl).trans e2
                        have s124' := s124
                        rw [Array.getD_eq_getD_getElem?] at s124'
                        have s126 := (hy 4 _ 126 rfl rfl).trans e4
                        have s126' := s126
                        rw [Array.getD_eq_getD_getElem?] at s126'
                        have s129 := (hy 7 _ 129 rfl rfl).trans e7
                        have s129' := s129
                        rw [Array.getD_eq_getD_getElem?] at s129'
                        clear hd hy hb
                        go_simp
                        go_wp2_with (go_at_call 29; refine (GV.out _ _ _ _ _ _ _ _ _ DW r2 r7).mono ?_; rintro e wc ⟨r1, kr1, r2, kr2, r3, kr3, rfl, hO, Dc, dc⟩)
                        exact hK.out _ wc (stp_of hmo d dc) ⟨r1, kr1, r2, kr2, r3, kr3, if_pos rfl, hO.out.on d.size (Below.refl _ _)⟩
                      case o9 =>
                        intro A y W hy hb d hd K hK
                        have f8 := hd ⟨8, .data⟩ (by simp) rfl rfl
                        obtain ⟨_, _, _, _, r1, kr1, r2, kr2, r3, kr3, e8, o8⟩ := f8
                        have s130 := (hy 8 _ 130 rfl rfl).trans e8
                        have s130' := s130
                        rw [Array.getD_eq_getD_getElem?] at s130'
                        clear hd hy hb
                        go_simp
                        exact hK.out _ W (stp_of hmo d (Below.refl _ _)) ⟨r1, kr1, r2, kr2, r3, kr3, if_pos rfl, o8⟩
                      case o10 =>
                        intro A y W hy hb d hd K hK
                        have f9 := hd ⟨9, .data⟩ (by simp) rfl rfl
                        obtain ⟨_, _, _, _, r1, kr1, r2, kr2, r3, kr3, e9, o9⟩ := f9
                        have s121 := (hy 9 _ 121 rfl rfl).trans e9
                        have s121' := s121
                        rw [Array.getD_eq_getD_getElem?] at s121'
                        clear hd hy hb
                        go_simp
                        exact hK.out _ W (stp_of hmo d (Below.refl _ _)) ⟨r1, kr1, r2, kr2, r3, kr3, if_pos rfl, o9⟩
                      case o11 =>
                        intro A y W hy hb d hd K hK
                        have f9 := hd ⟨9, .data⟩ (by simp) rfl rfl
                        obtain ⟨_, _, _, _, r1, kr1, r2, kr2, r3, kr3, e9, o9⟩ := f9
                        have s121 := (hy 9 _ 121 rfl rfl).trans e9
                        have s121' := s121
                        rw [Array.getD_eq_getD_getElem?] at s121'
                        clear hd hy hb
                        go_simp
                        exact hK.out _ W (stp_of hmo d (Below.refl _ _)) (if_pos rfl)
                      case o12 =>
                        intro A y W hy hb d hd K hK
                        clear hd hy hb
                        go_simp
                        exact hK.out _ _ (stp_of hmo d ((Below.refl _ _).alloc (Nat.le_refl _) _)) (by simpa [pI, itL, updV] using boxP_of W)
                      case o13 =>
                        intro A y W hy hb d hd K hK
                        have f12 := hd ⟨12, .data⟩ (by simp) rfl rfl
                        have f10 := hd ⟨10, .data⟩ (by simp) rfl rfl
                        obtain ⟨_, _, _, _, r1, kr1, r2, kr2, r3, kr3, e10, o10⟩ := f10
                        obtain ⟨p, _, hp, hp2, e12, l10, z10⟩ := f12
                        have s11 := (hy 12 _ 11 rfl rfl).trans e12
                        have s11' := s11
                        rw [Array.getD_eq_getD_getElem?] at s11'
                        have s131 := (hy 10 _ 131 rfl rfl).trans e10
                        have s131' := s131
                        rw [Array.getD_eq_getD_getElem?] at s131'
                        clear hd hy hb
                        obtain ⟨⟨u0, u1', u2, u3, u4⟩, v0, v1', v2', v3', v4⟩ := zero_cells z10
                        have h5 := only5 W p (.int .i64 N) (.int .i64 kk) (.slice (some ⟨r1, 0, none⟩) S1.length kr1) (.slice (some ⟨r2, 0, none⟩) F1.length kr2) (.slice (some ⟨r3, 0, none⟩) RE.length kr3)
                        have hbo := box_own N kk z10 o10
                        go_simp
                        exact hK.out undef _ (stp_keeps [2, 7, 12] rfl (bel_set _ _ _ _ _ hp d) h5.size ⟨Or.inr (fun _ _ _ h => h), Or.inr (fun _ _ _ h => h), Or.inl (by decide), Or.inr (fun _ _ _ h => h), Or.inr (fun _ _ _ h => h), Or.inr (fun _ _ _ h => h), Or.inr (fun _ _ _ h => h), Or.inl (by decide), Or.inr (fun lo hi _ h => ownT_keep (lo := lo) (hi := hi) z10 h5 h), Or.inr (fun lo hi _ h => ownT_keep (lo := lo) (hi := hi) z10 h5 h), Or.inr (fun lo hi _ h => ownB_keep (lo := lo) (hi := hi) z10 h5 h), Or.inr (fun _ _ _ h => h), Or.inl (by decide), Or.inl (by decide), Or.inr (fun _ _ _ h => h), trivial⟩) ⟨p, r1, kr1, r2, kr2, r3, kr3, (if_neg (by decide)).trans e12, hp, hbo.1, hbo.2⟩
                      case o14 =>
                        intro A y W hy hb d hd K hK
                        have e11 : y 11 = .int .i64 0 := by obtain ⟨_, _, _, _, e⟩ := hd ⟨11, .data⟩ (by simp) rfl rfl; exact e
                        have s132 := (hy 11 _ 132 rfl rfl).trans e11
                        have s132' := s132
                        rw [Array.getD_eq_getD_getElem?] at s132'
                        clear hd hy hb
                        go_simp
                        exact hK.out _ W (stp_of hmo d (Below.refl _ _)) (if_pos rfl)
                      case fin =>
                        intro y lo hi W hM
                        show wpList _ _ _ [] _ _
                        have e0 : y 0 = .pointer (some ⟨w.heap.size, 0, none⟩) := hM.fact 0 (by simp) rfl (notR_all 0 rfl)
                        have e1 : y 1 = .agg #[.int .i64 (N : Int), .int .i64 m, .slice a1 St.length c1, .slice a2 Fi.length c2, .slice a3 Ed.length c3] := hM.fact 1 (by simp) rfl (notR_all 1 rfl)
                        have e3 : y 3 = .pointer (some ⟨w.heap.size, 14, none⟩) := hM.fact 3 (by simp) rfl (notR_all 3 rfl)
                        have e4 : y 4 = .int .i64 kk := hM.fact 4 (by simp) rfl (notR_all 4 rfl)
                        have e5 : y 5 = .pointer (some ⟨w.heap.size, 15, none⟩) := hM.fact 5 (by simp) rfl (notR_all 5 rfl)
                        have e6 : y 6 = .slice o1 To.length co := hM.fact 6 (by simp) rfl (notR_all 6 rfl)
                        have e11 : y 11 = .int .i64 0 := hM.fact 11 (by simp) rfl (notR_all 11 rfl)
                        have e14 : y 14 = .int .i64 0 := hM.fact 14 (by simp) rfl (notR_all 14 rfl)
                        obtain ⟨p, r1, kr1, r2, kr2, r3, kr3, e12, hp, z10, o10⟩ := hM.fact 13 (by simp) rfl (notR_all 13 rfl)
                        have HL := hide (And.intro z10 (And.intro o10.rd (HV.out.trans (hM.d.mono HV.out.size))))
                        simp only [fills, Act.put, List.take, List.length, List.setIfInBounds_toArray, List.set_cons_zero, List.set_cons_succ, e0, e1, e3, e4, e5, e6, e11, e14, e12]
                        clear hM e0 e1 e3 e4 e5 e6 e11 e14 e12 z10 o10 hmo
                        go_wp2_with fail
                        go_meet
                        exact hide (p13_ok EU.out HL.out)

                    · have ew : wideOk m kk To = false := by simpa using ew
                      have GV : Hid (∀ (W : World) (s1 ks1 s2 ks2 s3 ks3 gq kq : Nat), Below wg.heap.size wg W → RdA W (some ⟨s1, 0, none⟩) (some ⟨s2, 0, none⟩) (some ⟨s3, 0, none⟩) (St) (Fi) (Ed) → RdN W (some ⟨gq, 0, none⟩) To → Calls Tryz.prog 29 #[.agg #[.int .i64 (N : Int), .int .i64 m, .slice (some ⟨s1, 0, none⟩) (St).length ks1, .slice (some ⟨s2, 0, none⟩) (Fi).length ks2, .slice (some ⟨s3, 0, none⟩) (Ed).length ks3], .int .i64 kk, .slice (some ⟨gq, 0, none⟩) To.length kq] W fun e w' => e = .returned (.tuple #[.agg #[.int .i64 0, .int .i64 0, .slice none 0 0, .slice none 0 0, .slice none 0 0], .int .i64 1]) ∧ Below wg.heap.size wg w' ∧ Below W.heap.size W w') := hide (fun W s1 ks1 s2 ks2 s3 ks3 gq kq d hA hQ =>
                        (widen_arg W N m kk (some ⟨s1, 0, none⟩) (some ⟨s2, 0, none⟩) (some ⟨s3, 0, none⟩) (some ⟨gq, 0, none⟩) ks1 ks2 ks3 kq St Fi To Ed (hide hA) (hide hQ) (by omega) (by omega) (by omega) (by omega) HEM.out ew).mono fun e w' ⟨h, dd⟩ => ⟨h, d.trans (dd.mono d.size), dd⟩)
                      clear ew
                      have hmo : MonIL 0 [vI 0 (.pointer (some ⟨w.heap.size, 0, none⟩)), vI 1 (.agg #[.int .i64 (N : Int), .int .i64 m, .slice a1 St.length c1, .slice a2 Fi.length c2, .slice a3 Ed.length c3]), pI 2 (rdP N m St Fi Ed), vI 3 (.pointer (some ⟨w.heap.size, 14, none⟩)), vI 4 (.int .i64 kk), vI 5 (.pointer (some ⟨w.heap.size, 15, none⟩)), vI 6 (.slice o1 To.length co), pI 7 (rowP To), vI 8 (.tuple #[.agg #[.int .i64 0, .int .i64 0, .slice none 0 0, .slice none 0 0, .slice none 0 0], .int .i64 1]), vI 9 (.tuple #[.agg #[.int .i64 0, .int .i64 0, .slice none 0 0, .slice none 0 0, .slice none 0 0], .int .i64 1]), vI 10 (.agg #[.int .i64 0, .int .i64 0, .slice none 0 0, .slice none 0 0, .slice none 0 0]), vI 11 (.int .i64 1), pI 12 (boxP), ⟨[], [2, 7, 12], fun _ _ _ _ => True⟩, vI 14 (.int .i64 1)] := ⟨vI_mono _ _, vI_mono _ _, pI_mono rdP_mono, vI_mono _ _, vI_mono _ _, vI_mono _ _, vI_mono _ _, pI_mono rowP_mono, vI_mono _ _, vI_mono _ _, vI_mono _ _, vI_mono _ _, pI_mono boxP_mono, (fun _ _ _ _ _ _ _ _ _ h => h), vI_mono _ _, trivial⟩
                      refine wp_region_sl [vI 0 (.pointer (some ⟨w.heap.size, 0, none⟩)), vI 1 (.agg #[.int .i64 (N : Int), .int .i64 m, .slice a1 St.length c1, .slice a2 Fi.length c2, .slice a3 Ed.length c3]), pI 2 (rdP N m St Fi Ed), vI 3 (.pointer (some ⟨w.heap.size, 14, none⟩)), vI 4 (.int .i64 kk), vI 5 (.pointer (some ⟨w.heap.size, 15, none⟩)), vI 6 (.slice o1 To.length co), pI 7 (rowP To), vI 8 (.tuple #[.agg #[.int .i64 0, .int .i64 0, .slice none 0 0, .slice none 0 0, .slice none 0 0], .int .i64 1]), vI 9 (.tuple #[.agg #[.int .i64 0, .int .i64 0, .slice none 0 0, .slice none 0 0, .slice none 0 0], .int .i64 1]), vI 10 (.agg #[.int .i64 0, .int .i64 0, .slice none 0 0, .slice none 0 0, .slice none 0 0]), vI 11 (.int .i64 1), pI 12 (boxP), ⟨[], [2, 7, 12], fun _ _ _ _ => True⟩, vI 14 (.int .i64 1)] (by kernel_rfl) (by kernel_rfl) (by kernel_rfl) (by kernel_rfl) hmo ⟨?o0, ?o1, ?o2, ?o3, ?o4, ?o5, ?o6, ?o7, ?o8, ?o9, ?o10, ?o11, ?o12, ?o13, ?o14, trivial⟩ ?fin
                      case o0 =>
                        intro A y W hy hb d hd K hK
                        have s1 : A.tmps.getD 1 undef = .pointer (some ⟨w.heap.size, 0, none⟩) := hb 1 rfl
                        have s1' := s1
                        rw [Array.getD_eq_getD_getElem?] at s1'
                        clear hd hy hb
                        go_simp
                        exact hK.out _ W (stp_of hmo d (Below.refl _ _)) (if_pos rfl)
                      case o1 =>
                        intro A y W hy hb d hd K hK
                        have e0 : y 0 = .pointer (some ⟨w.heap.size, 0, none⟩) := by obtain ⟨_, _, _, _, e⟩ := hd ⟨0, .data⟩ (by simp) rfl rfl; exact e
                        have s122 := (hy 0 _ 122 rfl rfl).trans e0
                        have s122' := s122
                        rw [Array.getD_eq_getD_getElem?] at s122'
                        clear hd hy hb
                        have S := SKa.out W (HV.out.trans (d.mono HV.out.size))
                        obtain ⟨a0, a1', a2', a3', a4', b0, b1', b2', b3', b4', c13, c14, c15, _⟩ := S
                        go_simp
                        exact hK.out _ W (stp_of hmo d (Below.refl _ _)) (if_pos rfl)
                      case o2 =>
                        intro A y W hy hb d hd K hK
                        have e1 : y 1 = .agg #[.int .i64 (N : Int), .int .i64 m, .slice a1 St.length c1, .slice a2 Fi.length c2, .slice a3 Ed.length c3] := by obtain ⟨_, _, _, _, e⟩ := hd ⟨1, .data⟩ (by simp) rfl rfl; exact e
                        have DW := HV.out.trans (d.mono HV.out.size)
                        have s123 := (hy 1 _ 123 rfl rfl).trans e1
                        have s123' := s123
                        rw [Array.getD_eq_getD_getElem?] at s123'
                        clear hd hy hb
                        go_simp
                        go_wp2_with (go_at_call 10; refine (G10.out _ DW).mono ?_; rintro e wa ⟨s1, ks1, s2, ks2, s3, ks3, rfl, hA1, Da, da⟩)
                        exact hK.out _ wa (stp_of hmo d da) ⟨s1, ks1, s2, ks2, s3, ks3, if_pos rfl, hA1.out⟩
                      case o3 =>
                        intro A y W hy hb d hd K hK
                        have s1 : A.tmps.getD 1 undef = .pointer (some ⟨w.heap.size, 0, none⟩) := hb 1 rfl
                        have s1' := s1
                        rw [Array.getD_eq_getD_getElem?] at s1'
                        clear hd hy hb
                        go_simp
                        exact hK.out _ W (stp_of hmo d (Below.refl _ _)) (if_pos rfl)
                      case o4 =>
                        intro A y W hy hb d hd K hK
                        have e3 : y 3 = .pointer (some ⟨w.heap.size, 14, none⟩) := by obtain ⟨_, _, _, _, e⟩ := hd ⟨3, .data⟩ (by simp) rfl rfl; exact e
                        have s125 := (hy 3 _ 125 rfl rfl).trans e3
                        have s125' := s125
                        rw [Array.getD_eq_getD_getElem?] at s125'
                        clear hd hy hb
                        have S := SKa.out W (HV.out.trans (d.mono HV.out.size))
                        obtain ⟨a0, a1', a2', a3', a4', b0, b1', b2', b3', b4', c13, c14, c15, _⟩ := S
                        go_simp
                        exact hK.out _ W (stp_of hmo d (Below.refl _ _)) (if_pos rfl)
                      case o5 =>
                        intro A y W hy hb d hd K hK
                        have s1 : A.tmps.getD 1 undef = .pointer (some ⟨w.heap.size, 0, none⟩) := hb 1 rfl
                        have s1' := s1
                        rw [Array.getD_eq_getD_getElem?] at s1'
                        clear hd hy hb
                        go_simp
                        exact hK.out _ W (stp_of hmo d (Below.refl _ _)) (if_pos rfl)
                      case o6 =>
                        intro A y W hy hb d hd K hK
                        have e5 : y 5 = .pointer (some ⟨w.heap.size, 15, none⟩) := by obtain ⟨_, _, _, _, e⟩ := hd ⟨5, .data⟩ (by simp) rfl rfl; exact e
                        have s127 := (hy 5 _ 127 rfl rfl).trans e5
                        have s127' := s127
                        rw [Array.getD_eq_getD_getElem?] at s127'
                        clear hd hy hb
                        have S := SKa.out W (HV.out.trans (d.mono HV.out.size))
                        obtain ⟨a0, a1', a2', a3', a4', b0, b1', b2', b3', b4', c13, c14, c15, _⟩ := S
                        go_simp
                        exact hK.out _ W (stp_of hmo d (Below.refl _ _)) (if_pos rfl)
                      case o7 =>
                        intro A y W hy hb d hd K hK
                        have e6 : y 6 = .slice o1 To.length co := by obtain ⟨_, _, _, _, e⟩ := hd ⟨6, .data⟩ (by simp) rfl rfl; exact e
                        have DW := HV.out.trans (d.mono HV.out.size)
                        have s128 := (hy 6 _ 128 rfl rfl).trans e6
                        have s128' := s128
                        rw [Array.getD_eq_getD_getElem?] at s128'
                        clear hd hy hb
                        go_simp
                        go_wp2_with (go_at_call 11; refine (G11o.out _ DW).mono ?_; rintro e wa ⟨gq, kq, rfl, hQ1, Da, da⟩)
                        exact hK.out _ wa (stp_of hmo d da) ⟨gq, kq, if_pos rfl, hQ1.out⟩
                      case o8 =>
                        intro A y W hy hb d hd K hK
                        have f2 := hd ⟨2, .data⟩ (by simp) rfl rfl
                        have e4 : y 4 = .int .i64 kk := by obtain ⟨_, _, _, _, e⟩ := hd ⟨4, .data⟩ (by simp) rfl rfl; exact e
                        have f7 := hd ⟨7, .data⟩ (by simp) rfl rfl
                        have DW := HV.out.trans (d.mono HV.out.size)
                        obtain ⟨_, _, _, _, s1, ks1, s2, ks2, s3, ks3, e2, r2⟩ := f2
                        obtain ⟨_, _, _, _, gq, kq, e7, r7⟩ := f7
                        have s124 := (hy 2 _ 124 rfl rfl).trans e2
                        have s124' := s124
                        rw [Array.getD_eq_getD_getElem?] at s124'
                        have s126 := (hy 4 _ 126 rfl rfl).trans e4
                        have s126' := s126
                        rw [Array.getD_eq_getD_getElem?] at s126'
                        have s129 := (hy 7 _ 129 rfl rfl).trans e7
                        have s129' := s129
                        rw [Array.getD_eq_getD_getElem?] at s129'
                        clear hd hy hb
                        go_simp
                        go_wp2_with (go_at_call 29; refine (GV.out _ _ _ _ _ _ _ _ _ DW r2 r7).mono ?_; rintro e wc ⟨rfl, Dc, dc⟩)
                        exact hK.out _ wc (stp_of hmo d dc) (if_pos rfl)
                      case o9 =>
                        intro A y W hy hb d hd K hK
                        have e8 : y 8 = .tuple #[.agg #[.int .i64 0, .int .i64 0, .slice none 0 0, .slice none 0 0, .slice none 0 0], .int .i64 1] := by obtain ⟨_, _, _, _, e⟩ := hd ⟨8, .data⟩ (by simp) rfl rfl; exact e
                        have s130 := (hy 8 _ 130 rfl rfl).trans e8
                        have s130' := s130
                        rw [Array.getD_eq_getD_getElem?] at s130'
                        clear hd hy hb
                        go_simp
                        exact hK.out _ W (stp_of hmo d (Below.refl _ _)) (if_pos rfl)
                      case o10 =>
                        intro A y W hy hb d hd K hK
                        have e9 : y 9 = .tuple #[.agg #[.int .i64 0, .int .i64 0, .slice none 0 0, .slice none 0 0, .slice none 0 0], .int .i64 1] := by obtain ⟨_, _, _, _, e⟩ := hd ⟨9, .data⟩ (by simp) rfl rfl; exact e
                        have s121 := (hy 9 _ 121 rfl rfl).trans e9
                        have s121' := s121
                        rw [Array.getD_eq_getD_getElem?] at s121'
                        clear hd hy hb
                        go_simp
                        exact hK.out _ W (stp_of hmo d (Below.refl _ _)) (if_pos rfl)
                      case o11 =>
                        intro A y W hy hb d hd K hK
                        have e9 : y 9 = .tuple #[.agg #[.int .i64 0, .int .i64 0, .slice none 0 0, .slice none 0 0, .slice none 0 0], .int .i64 1] := by obtain ⟨_, _, _, _, e⟩ := hd ⟨9, .data⟩ (by simp) rfl rfl; exact e
                        have s121 := (hy 9 _ 121 rfl rfl).trans e9
                        have s121' := s121
                        rw [Array.getD_eq_getD_getElem?] at s121'
                        clear hd hy hb
                        go_simp
                        exact hK.out _ W (stp_of hmo d (Below.refl _ _)) (if_pos rfl)
                      case o12 =>
                        intro A y W hy hb d hd K hK
                        clear hd hy hb
                        go_simp
                        exact hK.out _ _ (stp_of hmo d ((Below.refl _ _).alloc (Nat.le_refl _) _)) (by simpa [pI, itL, updV] using boxP_of W)
                      case o13 =>
                        intro A y W hy hb d hd K hK
                        have f12 := hd ⟨12, .data⟩ (by simp) rfl rfl
                        have e10 : y 10 = .agg #[.int .i64 0, .int .i64 0, .slice none 0 0, .slice none 0 0, .slice none 0 0] := by obtain ⟨_, _, _, _, e⟩ := hd ⟨10, .data⟩ (by simp) rfl rfl; exact e
                        obtain ⟨p, _, hp, hp2, e12, l10, z10⟩ := f12
                        have s11 := (hy 12 _ 11 rfl rfl).trans e12
                        have s11' := s11
                        rw [Array.getD_eq_getD_getElem?] at s11'
                        have s131 := (hy 10 _ 131 rfl rfl).trans e10
                        have s131' := s131
                        rw [Array.getD_eq_getD_getElem?] at s131'
                        clear hd hy hb
                        obtain ⟨⟨u0, u1', u2, u3, u4⟩, v0, v1', v2', v3', v4⟩ := zero_cells z10
                        have h5 := only5 W p (.int .i64 0) (.int .i64 0) (.slice none 0 0) (.slice none 0 0) (.slice none 0 0)
                        go_simp
                        exact hK.out undef _ (stp_keeps [2, 7, 12] rfl (bel_set _ _ _ _ _ hp d) h5.size ⟨Or.inr (fun _ _ _ h => h), Or.inr (fun _ _ _ h => h), Or.inl (by decide), Or.inr (fun _ _ _ h => h), Or.inr (fun _ _ _ h => h), Or.inr (fun _ _ _ h => h), Or.inr (fun _ _ _ h => h), Or.inl (by decide), Or.inr (fun _ _ _ h => h), Or.inr (fun _ _ _ h => h), Or.inr (fun _ _ _ h => h), Or.inr (fun _ _ _ h => h), Or.inl (by decide), Or.inl (by decide), Or.inr (fun _ _ _ h => h), trivial⟩) trivial
                      case o14 =>
                        intro A y W hy hb d hd K hK
                        have e11 : y 11 = .int .i64 1 := by obtain ⟨_, _, _, _, e⟩ := hd ⟨11, .data⟩ (by simp) rfl rfl; exact e
                        have s132 := (hy 11 _ 132 rfl rfl).trans e11
                        have s132' := s132
                        rw [Array.getD_eq_getD_getElem?] at s132'
                        clear hd hy hb
                        go_simp
                        exact hK.out _ W (stp_of hmo d (Below.refl _ _)) (if_pos rfl)
                      case fin =>
                        intro y lo hi W hM
                        show wpList _ _ _ [] _ _
                        have e0 : y 0 = .pointer (some ⟨w.heap.size, 0, none⟩) := hM.fact 0 (by simp) rfl (notR_all 0 rfl)
                        have e1 : y 1 = .agg #[.int .i64 (N : Int), .int .i64 m, .slice a1 St.length c1, .slice a2 Fi.length c2, .slice a3 Ed.length c3] := hM.fact 1 (by simp) rfl (notR_all 1 rfl)
                        have e3 : y 3 = .pointer (some ⟨w.heap.size, 14, none⟩) := hM.fact 3 (by simp) rfl (notR_all 3 rfl)
                        have e4 : y 4 = .int .i64 kk := hM.fact 4 (by simp) rfl (notR_all 4 rfl)
                        have e5 : y 5 = .pointer (some ⟨w.heap.size, 15, none⟩) := hM.fact 5 (by simp) rfl (notR_all 5 rfl)
                        have e6 : y 6 = .slice o1 To.length co := hM.fact 6 (by simp) rfl (notR_all 6 rfl)
                        have e8 : y 8 = .tuple #[.agg #[.int .i64 0, .int .i64 0, .slice none 0 0, .slice none 0 0, .slice none 0 0], .int .i64 1] := hM.fact 8 (by simp) rfl (notR_all 8 rfl)
                        have e9 : y 9 = .tuple #[.agg #[.int .i64 0, .int .i64 0, .slice none 0 0, .slice none 0 0, .slice none 0 0], .int .i64 1] := hM.fact 9 (by simp) rfl (notR_all 9 rfl)
                        have e10 : y 10 = .agg #[.int .i64 0, .int .i64 0, .slice none 0 0, .slice none 0 0, .slice none 0 0] := hM.fact 10 (by simp) rfl (notR_all 10 rfl)
                        have e11 : y 11 = .int .i64 1 := hM.fact 11 (by simp) rfl (notR_all 11 rfl)
                        have e14 : y 14 = .int .i64 1 := hM.fact 14 (by simp) rfl (notR_all 14 rfl)
                        have HL := hide (HV.out.trans (hM.d.mono HV.out.size))
                        simp only [fills, Act.put, List.take, List.length, List.setIfInBounds_toArray, List.set_cons_zero, List.set_cons_succ, e0, e1, e3, e4, e5, e6, e8, e9, e10, e11, e14]
                        clear hM e0 e1 e3 e4 e5 e6 e8 e9 e10 e11 e14 hmo
                        go_wp2_with fail
                        go_meet
                        exact hide (p13_no rfl HL.out)

                  case rest =>
                    have hc := hcut.out
                    clear hcut
                    obtain ⟨hy, Du, hc⟩ := hc
                    subst hy
                    rename World => ww
                    have HW := hide Du
                    clear Du HV G11o
                    rcases hc with ⟨er, her, rfl⟩ | ⟨rfl, hq, bw, v1, kv1, v2, kv2, v3, kv3, rfl, hbw, rbw⟩
                    · subst her
                      go_wp2_with fail
                      refine bodyPost_ret (results_tmp rfl _ _ _) rfl ?_
                      exact ⟨rfl, KW.out _ (OP.out.on HW.out).d⟩
                    · have rbw := hide rbw
                      have hbw := hide hbw
                      obtain ⟨hk0, hl0, ht0, hd0⟩ := wide_parts hq
                      have YW : Hid (strB To Wd = false → tkB N kk S1 F1 RE (oth To Wd) = ys) := hide (fun hs => by
                        obtain ⟨e1, e2⟩ := oth_all hs
                        have t := tk_widen (Wd := Wd) HEM.out hk0 hl0 ht0 hd0 e2
                        rw [HQ.out.1, HQ.out.2.1, HRE.out.1, YY.out] at t
                        rw [e1]
                        exact t)
                      have YS : Hid (tkB N kk S1 F1 RE Wd = true → ∀ x ∈ Wd, x ∈ To) := hide (fun hs => by
                        refine tk_strange (k := kk) HEM.out hl0 ?_
                        rw [HQ.out.1, HQ.out.2.1, HRE.out.1]
                        exact hs)
                      clear hk0 hl0 ht0 hd0 hq
                      have GW : Hid (∀ (W : World) (ao : Option Addr) (ka : Nat) (X : List Int), Below ww.heap.size ww W → RdN W ao X → X.length ≤ 4194304 → Calls Tryz.prog 26 #[.agg #[.int .i64 (N : Int), .int .i64 kk, .slice (some ⟨v1, 0, none⟩) (S1).length kv1, .slice (some ⟨v2, 0, none⟩) (F1).length kv2, .slice (some ⟨v3, 0, none⟩) (RE).length kv3], .slice ao X.length ka] W fun e w' => e = .returned (.bool (tkB N kk S1 F1 RE X)) ∧ Below ww.heap.size ww w' ∧ Below W.heap.size W w') := hide (fun W ao ka X d hQ hX => by
                        have D := HW.out.trans (d.mono HW.out.size)
                        have t := takes_any W N kk (some ⟨v1, 0, none⟩) (some ⟨v2, 0, none⟩) (some ⟨v3, 0, none⟩) ao kv1 kv2 kv3 ka S1 F1 RE X (hide (rbw.out.on d)) (hide hQ) (hide (TA.out W D)) (by have := HL.out; omega) (by have := HL.out; omega) (by have := HRE.out.2; omega) hX
                        exact t.mono fun e w' ⟨h, dd⟩ => ⟨h, d.trans (dd.mono d.size), dd⟩)
                      have BC : Hid (∀ W, Below ww.heap.size ww W → W.cell? ⟨bw, 0, none⟩ = some (.int .i64 (N : Int)) ∧ W.cell? ⟨bw, 1, none⟩ = some (.int .i64 kk) ∧ W.cell? ⟨bw, 2, none⟩ = some (.slice (some ⟨v1, 0, none⟩) (S1).length kv1) ∧ W.cell? ⟨bw, 3, none⟩ = some (.slice (some ⟨v2, 0, none⟩) (F1).length kv2) ∧ W.cell? ⟨bw, 4, none⟩ = some (.slice (some ⟨v3, 0, none⟩) (RE).length kv3)) := hide (fun W d => by
                        have e := blk_on hbw.out d
                        exact ⟨cell_of e rfl, cell_of e rfl, cell_of e rfl, cell_of e rfl, cell_of e rfl⟩)
                      have SW : Hid (∀ W, Below ww.heap.size ww W → W.cell? ⟨w.heap.size, 13, none⟩ = some (.slice u1 Wd.length cw) ∧ W.cell? ⟨w.heap.size, 15, none⟩ = some (.slice o1 To.length co)) := hide (fun W d => by
                        have e := SKa.out W (HW.out.trans (d.mono HW.out.size))
                        exact ⟨e.2.2.2.2.2.2.2.2.2.2.1, e.2.2.2.2.2.2.2.2.2.2.2.2.1⟩)
                      have RU : Hid (∀ W, Below ww.heap.size ww W → RdN W u1 Wd) := hide (fun W d => hU.out.on (KW.out W (OP.out.on (HW.out.trans (d.mono HW.out.size))).d))
                      have RO : Hid (∀ W, Below ww.heap.size ww W → RdN W o1 To) := hide (fun W d => hO.out.on (KW.out W (OP.out.on (HW.out.trans (d.mono HW.out.size))).d))
                      have KE : Hid (∀ W, Below ww.heap.size ww W → Below w.heap.size w W) := hide (fun W d => KW.out W (OP.out.on (HW.out.trans (d.mono HW.out.size))).d)
                      obtain ⟨i3, hi3, hz30, hz31, hz32⟩ := info_parts info3
                      go_wp2_with fail
                      go_loopw [12, 13, 14] (fun ov sv iv wr => ∃ i : Nat, i ≤ Wd.length ∧ sv = .bool (strB To (Wd.take i)) ∧ iv = .int .i64 i ∧ Hid (wr.ownsRow ww.heap.size 3 1 ov (oth To (Wd.take i)).length ((oth To (Wd.take i)).map (Value.int .i64)) ∧ Below ww.heap.size ww wr)) (fun _ _ iv _ => Wd.length - (intOf iv).toNat)
                      case atStart => exact ⟨0, Nat.zero_le _, rfl, rfl, hide ⟨World.ownsRow_nil _ _ _ _, Below.refl _ _⟩⟩
                      case round =>
                        obtain ⟨i, hi, rfl, rfl, HY⟩ := hrel
                        have HYB := hide HY.out.2
                        have HYO := hide HY.out.1
                        clear HY
                        by_cases hlt : i < Wd.length
                        · have i0 : (i : Int) < (Wd.length : Int) := by omega
                          have i1 : (0 : Int) ≤ (i : Int) := by omega
                          have iw : IntKind.i64.wrap ((i : Int) + 1) = (i : Int) + 1 := by rw [IntKind.wrap_i64]; omega
                          have HLO : Hid ((oth To (Wd.take i)).length ≤ 1048576) := hide (Nat.le_trans (oth_len _ _) (by rw [List.length_take]; omega))
                          have HOI := hide (fun h : inB To.length Wd[i] = true => oth_in hlt h)
                          have HOO := hide (fun h : inB To.length Wd[i] = false => oth_out hlt h)
                          obtain ⟨g, o, hao, q⟩ := RU.out wr HYB.out i hlt
                          subst hao
                          generalize Wd[i] = x at q HOI HOO
                          obtain ⟨st, hst⟩ : ∃ st, strB To (Wd.take i) = st := ⟨_, rfl⟩
                          have HST := hide hst
                          rw [hst]
                          clear hst
                          obtain ⟨c13, c15⟩ := SW.out wr HYB.out
                          go_upto_region 24 with fail
                          clear c13 c15
                          by_cases hx : inB To.length x = true
                          · have hx2 := inB_iff.1 hx
                            have HO2 := hide (HOI.out hx)
                            go_cut [160] from 144 to 160 (fun v W => v = .bool true ∧ Hid (Below wr.heap.size wr W))
                            case first =>
                              have x0 : decide (x ≥ 0) = true := by simpa using hx2.1
                              have x1 : decide (x < (To.length : Int)) = true := by simpa using hx2.2
                              have x2 := hx2.1
                              have x3 := hx2.2
                              clear hx hx2
                              have hmo : MonIL 0 [vI 0 (.pointer (some ⟨w.heap.size, 13, none⟩)), vI 1 (.slice (some ⟨g, o, none⟩) Wd.length cw), vI 2 (.int .i64 i), vI 3 (.pointer (some ⟨g, o + i, none⟩)), vI 4 (.int .i64 x), vI 5 (.bool true), vI 6 (.bool true), vI 7 (.pointer (some ⟨w.heap.size, 13, none⟩)), vI 8 (.slice (some ⟨g, o, none⟩) Wd.length cw), vI 9 (.int .i64 i), vI 10 (.pointer (some ⟨g, o + i, none⟩)), vI 11 (.int .i64 x), vI 12 (.pointer (some ⟨w.heap.size, 15, none⟩)), vI 13 (.slice o1 To.length co), vI 14 (.int .i64 (To.length : Int)), vI 15 (.bool true), vI 16 (.bool true)] := ⟨vI_mono _ _, vI_mono _ _, vI_mono _ _, vI_mono _ _, vI_mono _ _, vI_mono _ _, vI_mono _ _, vI_mono _ _, vI_mono _ _, vI_mono _ _, vI_mono _ _, vI_mono _ _, vI_mono _ _, vI_mono _ _, vI_mono _ _, vI_mono _ _, vI_mono _ _, trivial⟩
                              refine wp_region_sl [vI 0 (.pointer (some ⟨w.heap.size, 13, none⟩)), vI 1 (.slice (some ⟨g, o, none⟩) Wd.length cw), vI 2 (.int .i64 i), vI 3 (.pointer (some ⟨g, o + i, none⟩)), vI 4 (.int .i64 x), vI 5 (.bool true), vI 6 (.bool true), vI 7 (.pointer (some ⟨w.heap.size, 13, none⟩)), vI 8 (.slice (some ⟨g, o, none⟩) Wd.length cw), vI 9 (.int .i64 i), vI 10 (.pointer (some ⟨g, o + i, none⟩)), vI 11 (.int .i64 x), vI 12 (.pointer (some ⟨w.heap.size, 15, none⟩)), vI 13 (.slice o1 To.length co), vI 14 (.int .i64 (To.length : Int)), vI 15 (.bool true), vI 16 (.bool true)] (by kernel_rfl) (by kernel_rfl) (by kernel_rfl) (by kernel_rfl) hmo ⟨?o0, ?o1, ?o2, ?o3, ?o4, ?o5, ?o6, ?o7, ?o8, ?o9, ?o10, ?o11, ?o12, ?o13, ?o14, ?o15, ?o16, trivial⟩ ?fin
                              case o0 =>
                                intro A y W hy hb d hd K hK
                                have s1 : A.tmps.getD 1 undef = .pointer (some ⟨w.heap.size, 0, none⟩) := hb 1 rfl
                                have s1' := s1
                                rw [Array.getD_eq_getD_getElem?] at s1'
                                clear hd hy hb
                                go_simp
                                exact hK.out _ W (stp_of hmo d (Below.refl _ _)) (if_pos rfl)
                              case o1 =>
                                intro A y W hy hb d hd K hK
                                have e0 : y 0 = .pointer (some ⟨w.heap.size, 13, none⟩) := by obtain ⟨_, _, _, _, e⟩ := hd ⟨0, .data⟩ (by simp) rfl rfl; exact e
                                have s144 := (hy 0 _ 144 rfl rfl).trans e0
                                have s144' := s144
                                rw [Array.getD_eq_getD_getElem?] at s144'
                                clear hd hy hb
                                have S := SW.out W (HYB.out.trans (d.mono HYB.out.size))
                                obtain ⟨c13, c15⟩ := S
                                go_simp
                                exact hK.out _ W (stp_of hmo d (Below.refl _ _)) (if_pos rfl)
                              case o2 =>
                                intro A y W hy hb d hd K hK
                                have s14 : A.tmps.getD 14 undef = .int .i64 i := hb 14 rfl
                                have s14' := s14
                                rw [Array.getD_eq_getD_getElem?] at s14'
                                clear hd hy hb
                                go_simp
                                exact hK.out _ W (stp_of hmo d (Below.refl _ _)) (if_pos rfl)
                              case o3 =>
                                intro A y W hy hb d hd K hK
                                have e1 : y 1 = .slice (some ⟨g, o, none⟩) Wd.length cw := by obtain ⟨_, _, _, _, e⟩ := hd ⟨1, .data⟩ (by simp) rfl rfl; exact e
                                have e2 : y 2 = .int .i64 i := by obtain ⟨_, _, _, _, e⟩ := hd ⟨2, .data⟩ (by simp) rfl rfl; exact e
                                have s145 := (hy 1 _ 145 rfl rfl).trans e1
                                have s145' := s145
                                rw [Array.getD_eq_getD_getElem?] at s145'
                                have s146 := (hy 2 _ 146 rfl rfl).trans e2
                                have s146' := s146
                                rw [Array.getD_eq_getD_getElem?] at s146'
                                clear hd hy hb
                                go_simp
                                exact hK.out _ W (stp_of hmo d (Below.refl _ _)) (if_pos rfl)
                              case o4 =>
                                intro A y W hy hb d hd K hK
                                have e3 : y 3 = .pointer (some ⟨g, o + i, none⟩) := by obtain ⟨_, _, _, _, e⟩ := hd ⟨3, .data⟩ (by simp) rfl rfl; exact e
                                have s147 := (hy 3 _ 147 rfl rfl).trans e3
                                have s147' := s147
                                rw [Array.getD_eq_getD_getElem?] at s147'
                                clear hd hy hb
                                have q2 := (d.cell (p := ⟨g, o + i, none⟩) (World.block_lt_of_cell? wr _ q)).trans q
                                go_simp
                                exact hK.out _ W (stp_of hmo d (Below.refl _ _)) (if_pos rfl)
                              case o5 =>
                                intro A y W hy hb d hd K hK
                                have e4 : y 4 = .int .i64 x := by obtain ⟨_, _, _, _, e⟩ := hd ⟨4, .data⟩ (by simp) rfl rfl; exact e
                                have s148 := (hy 4 _ 148 rfl rfl).trans e4
                                have s148' := s148
                                rw [Array.getD_eq_getD_getElem?] at s148'
                                clear hd hy hb
                                go_simp
                                exact hK.out _ W (stp_of hmo d (Below.refl _ _)) (if_pos rfl)
                              case o6 =>
                                intro A y W hy hb d hd K hK
                                have e5 : y 5 = .bool true := by obtain ⟨_, _, _, _, e⟩ := hd ⟨5, .data⟩ (by simp) rfl rfl; exact e
                                have s149 := (hy 5 _ 149 rfl rfl).trans e5
                                have s149' := s149
                                rw [Array.getD_eq_getD_getElem?] at s149'
                                clear hd hy hb
                                go_simp
                                exact hK.out _ W (stp_of hmo d (Below.refl _ _)) (if_pos rfl)
                              case o7 =>
                                intro A y W hy hb d hd K hK
                                have e6 : y 6 = .bool true := by obtain ⟨_, _, _, _, e⟩ := hd ⟨6, .guard⟩ (by simp) rfl rfl; exact e
                                have s1 : A.tmps.getD 1 undef = .pointer (some ⟨w.heap.size, 0, none⟩) := hb 1 rfl
                                have s1' := s1
                                rw [Array.getD_eq_getD_getElem?] at s1'
                                have s150 := (hy 6 _ 150 rfl rfl).trans e6
                                have s150' := s150
                                rw [Array.getD_eq_getD_getElem?] at s150'
                                have g150 := got_bool s150
                                clear hd hy hb
                                go_simp
                                exact hK.out _ W (stp_of hmo d (Below.refl _ _)) (if_pos rfl)
                              case o8 =>
                                intro A y W hy hb d hd K hK
                                have e7 : y 7 = .pointer (some ⟨w.heap.size, 13, none⟩) := by obtain ⟨_, _, _, _, e⟩ := hd ⟨7, .data⟩ (by simp) rfl rfl; exact e
                                have e6 : y 6 = .bool true := by obtain ⟨_, _, _, _, e⟩ := hd ⟨6, .guard⟩ (by simp) rfl rfl; exact e
                                have s150 := (hy 6 _ 150 rfl rfl).trans e6
                                have s150' := s150
                                rw [Array.getD_eq_getD_getElem?] at s150'
                                have s151 := (hy 7 _ 151 rfl rfl).trans e7
                                have s151' := s151
                                rw [Array.getD_eq_getD_getElem?] at s151'
                                have g150 := got_bool s150
                                clear hd hy hb
                                have S := SW.out W (HYB.out.trans (d.mono HYB.out.size))
                                obtain ⟨c13, c15⟩ := S
                                go_simp
                                exact hK.out _ W (stp_of hmo d (Below.refl _ _)) (if_pos rfl)
                              case o9 =>
                                intro A y W hy hb d hd K hK
                                have e6 : y 6 = .bool true := by obtain ⟨_, _, _, _, e⟩ := hd ⟨6, .guard⟩ (by simp) rfl rfl; exact e
                                have s14 : A.tmps.getD 14 undef = .int .i64 i := hb 14 rfl
                                have s14' := s14
                                rw [Array.getD_eq_getD_getElem?] at s14'
                                have s150 := (hy 6 _ 150 rfl rfl).trans e6
                                have s150' := s150
                                rw [Array.getD_eq_getD_getElem?] at s150'
                                have g150 := got_bool s150
                                clear hd hy hb
                                go_simp
                                exact hK.out _ W (stp_of hmo d (Below.refl _ _)) (if_pos rfl)
                              case o10 =>
                                intro A y W hy hb d hd K hK
                                have e8 : y 8 = .slice (some ⟨g, o, none⟩) Wd.length cw := by obtain ⟨_, _, _, _, e⟩ := hd ⟨8, .data⟩ (by simp) rfl rfl; exact e
                                have e9 : y 9 = .int .i64 i := by obtain ⟨_, _, _, _, e⟩ := hd ⟨9, .data⟩ (by simp) rfl rfl; exact e
                                have e6 : y 6 = .bool true := by obtain ⟨_, _, _, _, e⟩ := hd ⟨6, .guard⟩ (by simp) rfl rfl; exact e
                                have s150 := (hy 6 _ 150 rfl rfl).trans e6
                                have s150' := s150
                                rw [Array.getD_eq_getD_getElem?] at s150'
                                have s152 := (hy 8 _ 152 rfl rfl).trans e8
                                have s152' := s152
                                rw [Array.getD_eq_getD_getElem?] at s152'
                                have s153 := (hy 9 _ 153 rfl rfl).trans e9
                                have s153' := s153
                                rw [Array.getD_eq_getD_getElem?] at s153'
                                have g150 := got_bool s150
                                clear hd hy hb
                                go_simp
                                exact hK.out _ W (stp_of hmo d (Below.refl _ _)) (if_pos rfl)
                              case o11 =>
                                intro A y W hy hb d hd K hK
                                have e10 : y 10 = .pointer (some ⟨g, o + i, none⟩) := by obtain ⟨_, _, _, _, e⟩ := hd ⟨10, .data⟩ (by simp) rfl rfl; exact e
                                have e6 : y 6 = .bool true := by obtain ⟨_, _, _, _, e⟩ := hd ⟨6, .guard⟩ (by simp) rfl rfl; exact e
                                have s150 := (hy 6 _ 150 rfl rfl).trans e6
                                have s150' := s150
                                rw [Array.getD_eq_getD_getElem?] at s150'
                                have s154 := (hy 10 _ 154 rfl rfl).trans e10
                                have s154' := s154
                                rw [Array.getD_eq_getD_getElem?] at s154'
                                have g150 := got_bool s150
                                clear hd hy hb
                                have q2 := (d.cell (p := ⟨g, o + i, none⟩) (World.block_lt_of_cell? wr _ q)).trans q
                                go_simp
                                exact hK.out _ W (stp_of hmo d (Below.refl _ _)) (if_pos rfl)
                              case o12 =>
                                intro A y W hy hb d hd K hK
                                have e6 : y 6 = .bool true := by obtain ⟨_, _, _, _, e⟩ := hd ⟨6, .guard⟩ (by simp) rfl rfl; exact e
                                have s1 : A.tmps.getD 1 undef = .pointer (some ⟨w.heap.size, 0, none⟩) := hb 1 rfl
                                have s1' := s1
                                rw [Array.getD_eq_getD_getElem?] at s1'
                                have s150 := (hy 6 _ 150 rfl rfl).trans e6
                                have s150' := s150
                                rw [Array.getD_eq_getD_getElem?] at s150'
                                have g150 := got_bool s150
                                clear hd hy hb
                                go_simp
                                exact hK.out _ W (stp_of hmo d (Below.refl _ _)) (if_pos rfl)
                              case o13 =>
                                intro A y W hy hb d hd K hK
                                have e12 : y 12 = .pointer (some ⟨w.heap.size, 15, none⟩) := by obtain ⟨_, _, _, _, e⟩ := hd ⟨12, .data⟩ (by simp) rfl rfl; exact e
                                have e6 : y 6 = .bool true := by obtain ⟨_, _, _, _, e⟩ := hd ⟨6, .guard⟩ (by simp) rfl rfl; exact e
                                have s150 := (hy 6 _ 150 rfl rfl).trans e6
                                have s150' := s150
                                rw [Array.getD_eq_getD_getElem?] at s150'
                                have s156 := (hy 12 _ 156 rfl rfl).trans e12
                                have s156' := s156
                                rw [Array.getD_eq_getD_getElem?] at s156'
                                have g150 := got_bool s150
                                clear hd hy hb
                                have S := SW.out W (HYB.out.trans (d.mono HYB.out.size))
                                obtain ⟨c13, c15⟩ := S
                                go_simp
                                exact hK.out _ W (stp_of hmo d (Below.refl _ _)) (if_pos rfl)
                              case o14 =>
                                intro A y W hy hb d hd K hK
                                have e13 : y 13 = .slice o1 To.length co := by obtain ⟨_, _, _, _, e⟩ := hd ⟨13, .data⟩ (by simp) rfl rfl; exact e
                                have e6 : y 6 = .bool true := by obtain ⟨_, _, _, _, e⟩ := hd ⟨6, .guard⟩ (by simp) rfl rfl; exact e
                                have s150 := (hy 6 _ 150 rfl rfl).trans e6
                                have s150' := s150
                                rw [Array.getD_eq_getD_getElem?] at s150'
                                have s157 := (hy 13 _ 157 rfl rfl).trans e13
                                have s157' := s157
                                rw [Array.getD_eq_getD_getElem?] at s157'
                                have g150 := got_bool s150
                                clear hd hy hb
                                go_simp
                                exact hK.out _ W (stp_of hmo d (Below.refl _ _)) (if_pos rfl)
                              case o15 =>
                                intro A y W hy hb d hd K hK
                                have e11 : y 11 = .int .i64 x := by obtain ⟨_, _, _, _, e⟩ := hd ⟨11, .data⟩ (by simp) rfl rfl; exact e
                                have e14 : y 14 = .int .i64 (To.length : Int) := by obtain ⟨_, _, _, _, e⟩ := hd ⟨14, .data⟩ (by simp) rfl rfl; exact e
                                have e6 : y 6 = .bool true := by obtain ⟨_, _, _, _, e⟩ := hd ⟨6, .guard⟩ (by simp) rfl rfl; exact e
                                have s150 := (hy 6 _ 150 rfl rfl).trans e6
                                have s150' := s150
                                rw [Array.getD_eq_getD_getElem?] at s150'
                                have s155 := (hy 11 _ 155 rfl rfl).trans e11
                                have s155' := s155
                                rw [Array.getD_eq_getD_getElem?] at s155'
                                have s158 := (hy 14 _ 158 rfl rfl).trans e14
                                have s158' := s158
                                rw [Array.getD_eq_getD_getElem?] at s158'
                                have g150 := got_bool s150
                                clear hd hy hb
                                go_simp
                                exact hK.out _ W (stp_of hmo d (Below.refl _ _)) (if_pos rfl)
                              case o16 =>
                                intro A y W hy hb d hd K hK
                                have e6 : y 6 = .bool true := by obtain ⟨_, _, _, _, e⟩ := hd ⟨6, .data⟩ (by simp) rfl rfl; exact e
                                have e15 : y 15 = .bool true := by obtain ⟨_, _, _, _, e⟩ := hd ⟨15, .data⟩ (by simp) rfl rfl; exact e
                                have s150 := (hy 6 _ 150 rfl rfl).trans e6
                                have s150' := s150
                                rw [Array.getD_eq_getD_getElem?] at s150'
                                have s159 := (hy 15 _ 159 rfl rfl).trans e15
                                have s159' := s159
                                rw [Array.getD_eq_getD_getElem?] at s159'
                                clear hd hy hb
                                go_simp
                                exact hK.out _ W (stp_of hmo d (Below.refl _ _)) (if_pos rfl)
                              case fin =>
                                intro y lo hi W hM
                                show wpList _ _ _ [] _ _
                                have e0 : y 0 = .pointer (some ⟨w.heap.size, 13, none⟩) := hM.fact 0 (by simp) rfl (notR_all 0 rfl)
                                have e1 : y 1 = .slice (some ⟨g, o, none⟩) Wd.length cw := hM.fact 1 (by simp) rfl (notR_all 1 rfl)
                                have e2 : y 2 = .int .i64 i := hM.fact 2 (by simp) rfl (notR_all 2 rfl)
                                have e3 : y 3 = .pointer (some ⟨g, o + i, none⟩) := hM.fact 3 (by simp) rfl (notR_all 3 rfl)
                                have e4 : y 4 = .int .i64 x := hM.fact 4 (by simp) rfl (notR_all 4 rfl)
                                have e5 : y 5 = .bool true := hM.fact 5 (by simp) rfl (notR_all 5 rfl)
                                have e6 : y 6 = .bool true := hM.fact 6 (by simp) rfl (notR_all 6 rfl)
                                have e7 : y 7 = .pointer (some ⟨w.heap.size, 13, none⟩) := hM.fact 7 (by simp) rfl (notR_all 7 rfl)
                                have e8 : y 8 = .slice (some ⟨g, o, none⟩) Wd.length cw := hM.fact 8 (by simp) rfl (notR_all 8 rfl)
                                have e9 : y 9 = .int .i64 i := hM.fact 9 (by simp) rfl (notR_all 9 rfl)
                                have e10 : y 10 = .pointer (some ⟨g, o + i, none⟩) := hM.fact 10 (by simp) rfl (notR_all 10 rfl)
                                have e11 : y 11 = .int .i64 x := hM.fact 11 (by simp) rfl (notR_all 11 rfl)
                                have e12 : y 12 = .pointer (some ⟨w.heap.size, 15, none⟩) := hM.fact 12 (by simp) rfl (notR_all 12 rfl)
                                have e13 : y 13 = .slice o1 To.length co := hM.fact 13 (by simp) rfl (notR_all 13 rfl)
                                have e14 : y 14 = .int .i64 (To.length : Int) := hM.fact 14 (by simp) rfl (notR_all 14 rfl)
                                have e15 : y 15 = .bool true := hM.fact 15 (by simp) rfl (notR_all 15 rfl)
                                have e16 : y 16 = .bool true := hM.fact 16 (by simp) rfl (notR_all 16 rfl)
                                have DW := hide hM.d
                                simp only [fills, Act.put, List.take, List.length, List.setIfInBounds_toArray, List.set_cons_zero, List.set_cons_succ, e0, e1, e2, e3, e4, e5, e6, e7, e8, e9, e10, e11, e12, e13, e14, e15, e16]
                                clear hM hmo e0 e1 e2 e3 e4 e5 e6 e7 e8 e9 e10 e11 e12 e13 e14 e15 e16
                                go_wp2_with fail
                                go_meet
                                exact ⟨rfl, DW⟩

                            case rest =>
                              obtain ⟨rfl, HK⟩ := hcut
                              rename World => wk
                              have q := (HK.out.cell (p := ⟨g, o + i, none⟩) (World.block_lt_of_cell? wr _ q)).trans q
                              have HYO := hide (own_below HYO.out HK.out)
                              have HYB := hide (HYB.out.trans (HK.out.mono HYB.out.size))
                              have x0 := hx2.1
                              have x1 := hx2.2
                              have xl : x.toNat < To.length := by omega
                              have xn : (x.toNat : Int) = x := Int.toNat_of_nonneg hx2.1
                              obtain ⟨gt, ot, hto, qt⟩ := RO.out wk HYB.out x.toNat xl
                              subst hto
                              have HZ : Hid (toF To x = To[x.toNat]) := hide (toF_at hx2.1 hx2.2).2.2
                              rw [HZ.out] at HO2
                              generalize To[x.toNat] = z at qt HO2
                              clear HZ hx hx2 HOI HOO
                              go_upto_region 25 with fail
                              have hmo : MonIL 0 [vI 0 (u12), vI 1 (.pointer (some ⟨w.heap.size, 15, none⟩)), vI 2 (.slice (some ⟨gt, ot, none⟩) To.length co), vI 3 (.pointer (some ⟨w.heap.size, 13, none⟩)), vI 4 (.slice (some ⟨g, o, none⟩) Wd.length cw), vI 5 (.int .i64 i), vI 6 (.pointer (some ⟨g, o + i, none⟩)), vI 7 (.int .i64 x), vI 8 (.pointer (some ⟨gt, ot + x.toNat, none⟩)), vI 9 (.int .i64 z), pI 10 (oneP (.int .i64 z))] := ⟨vI_mono _ _, vI_mono _ _, vI_mono _ _, vI_mono _ _, vI_mono _ _, vI_mono _ _, vI_mono _ _, vI_mono _ _, vI_mono _ _, vI_mono _ _, pI_mono oneP_mono, trivial⟩
                              refine wp_region_sl [vI 0 (u12), vI 1 (.pointer (some ⟨w.heap.size, 15, none⟩)), vI 2 (.slice (some ⟨gt, ot, none⟩) To.length co), vI 3 (.pointer (some ⟨w.heap.size, 13, none⟩)), vI 4 (.slice (some ⟨g, o, none⟩) Wd.length cw), vI 5 (.int .i64 i), vI 6 (.pointer (some ⟨g, o + i, none⟩)), vI 7 (.int .i64 x), vI 8 (.pointer (some ⟨gt, ot + x.toNat, none⟩)), vI 9 (.int .i64 z), pI 10 (oneP (.int .i64 z))] (by kernel_rfl) (by kernel_rfl) (by kernel_rfl) (by kernel_rfl) hmo ⟨?o0, ?o1, ?o2, ?o3, ?o4, ?o5, ?o6, ?o7, ?o8, ?o9, ?o10, trivial⟩ ?fin
                              case o0 =>
                                intro A y W hy hb d hd K hK
                                have s12 : A.tmps.getD 12 undef = u12 := hb 12 rfl
                                have s12' := s12
                                rw [Array.getD_eq_getD_getElem?] at s12'
                                clear hd hy hb
                                go_simp
                                exact hK.out _ W (stp_of hmo d (Below.refl _ _)) (if_pos rfl)
                              case o1 =>
                                intro A y W hy hb d hd K hK
                                have s1 : A.tmps.getD 1 undef = .pointer (some ⟨w.heap.size, 0, none⟩) := hb 1 rfl
                                have s1' := s1
                                rw [Array.getD_eq_getD_getElem?] at s1'
                                clear hd hy hb
                                go_simp
                                exact hK.out _ W (stp_of hmo d (Below.refl _ _)) (if_pos rfl)
                              case o2 =>
                                intro A y W hy hb d hd K hK
                                have e1 : y 1 = .pointer (some ⟨w.heap.size, 15, none⟩) := by obtain ⟨_, _, _, _, e⟩ := hd ⟨1, .data⟩ (by simp) rfl rfl; exact e
                                have s162 := (hy 1 _ 162 rfl rfl).trans e1
                                have s162' := s162
                                rw [Array.getD_eq_getD_getElem?] at s162'
                                clear hd hy hb
                                have S := SW.out W (HYB.out.trans (d.mono HYB.out.size))
                                obtain ⟨c13, c15⟩ := S
                                go_simp
                                exact hK.out _ W (stp_of hmo d (Below.refl _ _)) (if_pos rfl)
                              case o3 =>
                                intro A y W hy hb d hd K hK
                                have s1 : A.tmps.getD 1 undef = .pointer (some ⟨w.heap.size, 0, none⟩) := hb 1 rfl
                                have s1' := s1
                                rw [Array.getD_eq_getD_getElem?] at s1'
                                clear hd hy hb
                                go_simp
                                exact hK.out _ W (stp_of hmo d (Below.refl _ _)) (if_pos rfl)
                              case o4 =>
                                intro A y W hy hb d hd K hK
                                have e3 : y 3 = .pointer (some ⟨w.heap.size, 13, none⟩) := by obtain ⟨_, _, _, _, e⟩ := hd ⟨3, .data⟩ (by simp) rfl rfl; exact e
                                have s164 := (hy 3 _ 164 rfl rfl).trans e3
                                have s164' := s164
                                rw [Array.getD_eq_getD_getElem?] at s164'
                                clear hd hy hb
                                have S := SW.out W (HYB.out.trans (d.mono HYB.out.size))
                                obtain ⟨c13, c15⟩ := S
                                go_simp
                                exact hK.out _ W (stp_of hmo d (Below.refl _ _)) (if_pos rfl)
                              case o5 =>
                                intro A y W hy hb d hd K hK
                                have s14 : A.tmps.getD 14 undef = .int .i64 i := hb 14 rfl
                                have s14' := s14
                                rw [Array.getD_eq_getD_getElem?] at s14'
                                clear hd hy hb
                                go_simp
                                exact hK.out _ W (stp_of hmo d (Below.refl _ _)) (if_pos rfl)
                              case o6 =>
                                intro A y W hy hb d hd K hK
                                have e4 : y 4 = .slice (some ⟨g, o, none⟩) Wd.length cw := by obtain ⟨_, _, _, _, e⟩ := hd ⟨4, .data⟩ (by simp) rfl rfl; exact e
                                have e5 : y 5 = .int .i64 i := by obtain ⟨_, _, _, _, e⟩ := hd ⟨5, .data⟩ (by simp) rfl rfl; exact e
                                have s165 := (hy 4 _ 165 rfl rfl).trans e4
                                have s165' := s165
                                rw [Array.getD_eq_getD_getElem?] at s165'
                                have s166 := (hy 5 _ 166 rfl rfl).trans e5
                                have s166' := s166
                                rw [Array.getD_eq_getD_getElem?] at s166'
                                clear hd hy hb
                                go_simp
                                exact hK.out _ W (stp_of hmo d (Below.refl _ _)) (if_pos rfl)
                              case o7 =>
                                intro A y W hy hb d hd K hK
                                have e6 : y 6 = .pointer (some ⟨g, o + i, none⟩) := by obtain ⟨_, _, _, _, e⟩ := hd ⟨6, .data⟩ (by simp) rfl rfl; exact e
                                have s167 := (hy 6 _ 167 rfl rfl).trans e6
                                have s167' := s167
                                rw [Array.getD_eq_getD_getElem?] at s167'
                                clear hd hy hb
                                have q2 := (d.cell (p := ⟨g, o + i, none⟩) (World.block_lt_of_cell? wk _ q)).trans q
                                go_simp
                                exact hK.out _ W (stp_of hmo d (Below.refl _ _)) (if_pos rfl)
                              case o8 =>
                                intro A y W hy hb d hd K hK
                                have e2 : y 2 = .slice (some ⟨gt, ot, none⟩) To.length co := by obtain ⟨_, _, _, _, e⟩ := hd ⟨2, .data⟩ (by simp) rfl rfl; exact e
                                have e7 : y 7 = .int .i64 x := by obtain ⟨_, _, _, _, e⟩ := hd ⟨7, .data⟩ (by simp) rfl rfl; exact e
                                have s163 := (hy 2 _ 163 rfl rfl).trans e2
                                have s163' := s163
                                rw [Array.getD_eq_getD_getElem?] at s163'
                                have s168 := (hy 7 _ 168 rfl rfl).trans e7
                                have s168' := s168
                                rw [Array.getD_eq_getD_getElem?] at s168'
                                clear hd hy hb
                                go_simp
                                exact hK.out _ W (stp_of hmo d (Below.refl _ _)) (if_pos rfl)
                              case o9 =>
                                intro A y W hy hb d hd K hK
                                have e8 : y 8 = .pointer (some ⟨gt, ot + x.toNat, none⟩) := by obtain ⟨_, _, _, _, e⟩ := hd ⟨8, .data⟩ (by simp) rfl rfl; exact e
                                have s169 := (hy 8 _ 169 rfl rfl).trans e8
                                have s169' := s169
                                rw [Array.getD_eq_getD_getElem?] at s169'
                                clear hd hy hb
                                have q2 := (d.cell (p := ⟨gt, ot + x.toNat, none⟩) (World.block_lt_of_cell? wk _ qt)).trans qt
                                go_simp
                                exact hK.out _ W (stp_of hmo d (Below.refl _ _)) (if_pos rfl)
                              case o10 =>
                                intro A y W hy hb d hd K hK
                                have e9 : y 9 = .int .i64 z := by obtain ⟨_, _, _, _, e⟩ := hd ⟨9, .data⟩ (by simp) rfl rfl; exact e
                                have s170 := (hy 9 _ 170 rfl rfl).trans e9
                                have s170' := s170
                                rw [Array.getD_eq_getD_getElem?] at s170'
                                clear hd hy hb
                                go_simp
                                exact hK.out _ _ (stp_of hmo d ((Below.refl _ _).alloc (Nat.le_refl _) _)) ⟨if_pos rfl, by simp, World.alloc_heap_new _ _⟩
                              case fin =>
                                intro y lo hi W hM
                                show wpList _ _ _ [_, _] _ _
                                have e0 : y 0 = u12 := hM.fact 0 (by simp) rfl (notR_all 0 rfl)
                                have e1 : y 1 = .pointer (some ⟨w.heap.size, 15, none⟩) := hM.fact 1 (by simp) rfl (notR_all 1 rfl)
                                have e2 : y 2 = .slice (some ⟨gt, ot, none⟩) To.length co := hM.fact 2 (by simp) rfl (notR_all 2 rfl)
                                have e3 : y 3 = .pointer (some ⟨w.heap.size, 13, none⟩) := hM.fact 3 (by simp) rfl (notR_all 3 rfl)
                                have e4 : y 4 = .slice (some ⟨g, o, none⟩) Wd.length cw := hM.fact 4 (by simp) rfl (notR_all 4 rfl)
                                have e5 : y 5 = .int .i64 i := hM.fact 5 (by simp) rfl (notR_all 5 rfl)
                                have e6 : y 6 = .pointer (some ⟨g, o + i, none⟩) := hM.fact 6 (by simp) rfl (notR_all 6 rfl)
                                have e7 : y 7 = .int .i64 x := hM.fact 7 (by simp) rfl (notR_all 7 rfl)
                                have e8 : y 8 = .pointer (some ⟨gt, ot + x.toNat, none⟩) := hM.fact 8 (by simp) rfl (notR_all 8 rfl)
                                have e9 : y 9 = .int .i64 z := hM.fact 9 (by simp) rfl (notR_all 9 rfl)
                                have DW := hide (HYB.out.trans (hM.d.mono HYB.out.size))
                                have OW := hide (own_below HYO.out hM.d)
                                obtain ⟨e10, l10, z10⟩ := hM.fact 10 (by simp) rfl (notR_all 10 rfl)
                                have HN := hide (one_cells z10)
                                simp only [fills, Act.put, List.take, List.length, List.setIfInBounds_toArray, List.set_cons_zero, List.set_cons_succ, e0, e1, e2, e3, e4, e5, e6, e7, e8, e9, e10]
                                clear hM hmo e0 e1 e2 e3 e4 e5 e6 e7 e8 e9 e10 z10 l10
                                generalize lo 10 = pn at HN
                                go_wp2_with (at_builtin; refine wpList_append_own_at _ rfl _ _ _ rfl ww.heap.size 3 i3 _ 1 8 Tryz.underlying22 hi3 hz30 hz31 hz32 rfl (by omega) u12 (oth To (Wd.take i)).length ((oth To (Wd.take i)).map (Value.int .i64)) rfl OW.out ⟨pn, 0, none⟩ 1 1 [.int .i64 z] rfl rfl HN.out (by simp [Value.oneCell']) (by unfold maxLen; have := HLO.out; omega) (by have := HLO.out; omega) DW.out.size ?_)
                                intro v2 w2 ho hgr hnil hloc
                                have hb := OW.out.lt
                                have D2 := hide (DW.out.grown hgr DW.out.size (fun k hk => (hb k hk).1))
                                have ho2 : Hid (w2.ownsRow ww.heap.size 3 1 v2 (oth To (Wd.take (i + 1))).length ((oth To (Wd.take (i + 1))).map (Value.int .i64))) := hide (by rw [HO2.out.1, List.map_append, List.length_append]; simpa using ho)
                                clear ho hgr hnil hloc hb
                                go_wp2_with fail
                                go_roundw
                                case rel => exact ⟨i + 1, by omega, by rw [HO2.out.2, HST.out], by go_num, hide ⟨ho2.out, D2.out⟩⟩
                                case measure => simp [intOf]; omega

                          · have hx : inB To.length x = false := by simpa using hx
                            have hx2 := inB_not.1 hx
                            have HO2 := hide (HOO.out hx)
                            go_cut [160] from 144 to 160 (fun v W => v = .bool false ∧ Hid (Below wr.heap.size wr W))
                            case first =>
                              by_cases hneg : 0 ≤ x
                              · have x0 : decide (x ≥ 0) = true := by simpa using hneg
                                have x1 : decide (x < (To.length : Int)) = false := by simp; omega
                                have x2 : ¬ x < (To.length : Int) := by omega
                                clear hx hx2
                                have hmo : MonIL 0 [vI 0 (.pointer (some ⟨w.heap.size, 13, none⟩)), vI 1 (.slice (some ⟨g, o, none⟩) Wd.length cw), vI 2 (.int .i64 i), vI 3 (.pointer (some ⟨g, o + i, none⟩)), vI 4 (.int .i64 x), vI 5 (.bool true), vI 6 (.bool true), vI 7 (.pointer (some ⟨w.heap.size, 13, none⟩)), vI 8 (.slice (some ⟨g, o, none⟩) Wd.length cw), vI 9 (.int .i64 i), vI 10 (.pointer (some ⟨g, o + i, none⟩)), vI 11 (.int .i64 x), vI 12 (.pointer (some ⟨w.heap.size, 15, none⟩)), vI 13 (.slice o1 To.length co), vI 14 (.int .i64 (To.length : Int)), vI 15 (.bool false), vI 16 (.bool false)] := ⟨vI_mono _ _, vI_mono _ _, vI_mono _ _, vI_mono _ _, vI_mono _ _, vI_mono _ _, vI_mono _ _, vI_mono _ _, vI_mono _ _, vI_mono _ _, vI_mono _ _, vI_mono _ _, vI_mono _ _, vI_mono _ _, vI_mono _ _, vI_mono _ _, vI_mono _ _, trivial⟩
                                refine wp_region_sl [vI 0 (.pointer (some ⟨w.heap.size, 13, none⟩)), vI 1 (.slice (some ⟨g, o, none⟩) Wd.length cw), vI 2 (.int .i64 i), vI 3 (.pointer (some ⟨g, o + i, none⟩)), vI 4 (.int .i64 x), vI 5 (.bool true), vI 6 (.bool true), vI 7 (.pointer (some ⟨w.heap.size, 13, none⟩)), vI 8 (.slice (some ⟨g, o, none⟩) Wd.length cw), vI 9 (.int .i64 i), vI 10 (.pointer (some ⟨g, o + i, none⟩)), vI 11 (.int .i64 x), vI 12 (.pointer (some ⟨w.heap.size, 15, none⟩)), vI 13 (.slice o1 To.length co), vI 14 (.int .i64 (To.length : Int)), vI 15 (.bool false), vI 16 (.bool false)] (by kernel_rfl) (by kernel_rfl) (by kernel_rfl) (by kernel_rfl) hmo ⟨?o0, ?o1, ?o2, ?o3, ?o4, ?o5, ?o6, ?o7, ?o8, ?o9, ?o10, ?o11, ?o12, ?o13, ?o14, ?o15, ?o16, trivial⟩ ?fin
                                case o0 =>
                                  intro A y W hy hb d hd K hK
                                  have s1 : A.tmps.getD 1 undef = .pointer (some ⟨w.heap.size, 0, none⟩) := hb 1 rfl
                                  have s1' := s1
                                  rw [Array.getD_eq_getD_getElem?] at s1'
                                  clear hd hy hb
                                  go_simp
                                  exact hK.out _ W (stp_of hmo d (Below.refl _ _)) (if_pos rfl)
                                case o1 =>
                                  intro A y W hy hb d hd K hK
                                  have e0 : y 0 = .pointer (some ⟨w.heap.size, 13, none⟩) := by obtain ⟨_, _, _, _, e⟩ := hd ⟨0, .data⟩ (by simp) rfl rfl; exact e
                                  have s144 := (hy 0 _ 144 rfl rfl).trans e0
                                  have s144' := s144
                                  rw [Array.getD_eq_getD_getElem?] at s144'
                                  clear hd hy hb
                                  have S := SW.out W (HYB.out.trans (d.mono HYB.out.size))
                                  obtain ⟨c13, c15⟩ := S
                                  go_simp
                                  exact hK.out _ W (stp_of hmo d (Below.refl _ _)) (if_pos rfl)
                                case o2 =>
                                  intro A y W hy hb d hd K hK
                                  have s14 : A.tmps.getD 14 undef = .int .i64 i := hb 14 rfl
                                  have s14' := s14
                                  rw [Array.getD_eq_getD_getElem?] at s14'
                                  clear hd hy hb
                                  go_simp
                                  exact hK.out _ W (stp_of hmo d (Below.refl _ _)) (if_pos rfl)
                                case o3 =>
                                  intro A y W hy hb d hd K hK
                                  have e1 : y 1 = .slice (some ⟨g, o, none⟩) Wd.length cw := by obtain ⟨_, _, _, _, e⟩ := hd ⟨1, .data⟩ (by simp) rfl rfl; exact e
                                  have e2 : y 2 = .int .i64 i := by obtain ⟨_, _, _, _, e⟩ := hd ⟨2, .data⟩ (by simp) rfl rfl; exact e
                                  have s145 := (hy 1 _ 145 rfl rfl).trans e1
                                  have s145' := s145
                                  rw [Array.getD_eq_getD_getElem?] at s145'
                                  have s146 := (hy 2 _ 146 rfl rfl).trans e2
                                  have s146' := s146
                                  rw [Array.getD_eq_getD_getElem?] at s146'
                                  clear hd hy hb
                                  go_simp
                                  exact hK.out _ W (stp_of hmo d (Below.refl _ _)) (if_pos rfl)
                                case o4 =>
                                  intro A y W hy hb d hd K hK
                                  have e3 : y 3 = .pointer (some ⟨g, o + i, none⟩) := by obtain ⟨_, _, _, _, e⟩ := hd ⟨3, .data⟩ (by simp) rfl rfl; exact e
                                  have s147 := (hy 3 _ 147 rfl rfl).trans e3
                                  have s147' := s147
                                  rw [Array.getD_eq_getD_getElem?] at s147'
                                  clear hd hy hb
                                  have q2 := (d.cell (p := ⟨g, o + i, none⟩) (World.block_lt_of_cell? wr _ q)).trans q
                                  go_simp
                                  exact hK.out _ W (stp_of hmo d (Below.refl _ _)) (if_pos rfl)
                                case o5 =>
                                  intro A y W hy hb d hd K hK
                                  have e4 : y 4 = .int .i64 x := by obtain ⟨_, _, _, _, e⟩ := hd ⟨4, .data⟩ (by simp) rfl rfl; exact e
                                  have s148 := (hy 4 _ 148 rfl rfl).trans e4
                                  have s148' := s148
                                  rw [Array.getD_eq_getD_getElem?] at s148'
                                  clear hd hy hb
                                  go_simp
                                  exact hK.out _ W (stp_of hmo d (Below.refl _ _)) (if_pos rfl)
                                case o6 =>
                                  intro A y W hy hb d hd K hK
                                  have e5 : y 5 = .bool true := by obtain ⟨_, _, _, _, e⟩ := hd ⟨5, .data⟩ (by simp) rfl rfl; exact e
                                  have s149 := (hy 5 _ 149 rfl rfl).trans e5
                                  have s149' := s149
                                  rw [Array.getD_eq_getD_getElem?] at s149'
                                  clear hd hy hb
                                  go_simp
                                  exact hK.out _ W (stp_of hmo d (Below.refl _ _)) (if_pos rfl)
                                case o7 =>
                                  intro A y W hy hb d hd K hK
                                  have e6 : y 6 = .bool true := by obtain ⟨_, _, _, _, e⟩ := hd ⟨6, .guard⟩ (by simp) rfl rfl; exact e
                                  have s1 : A.tmps.getD 1 undef = .pointer (some ⟨w.heap.size, 0, none⟩) := hb 1 rfl
                                  have s1' := s1
                                  rw [Array.getD_eq_getD_getElem?] at s1'
                                  have s150 := (hy 6 _ 150 rfl rfl).trans e6
                                  have s150' := s150
                                  rw [Array.getD_eq_getD_getElem?] at s150'
                                  have g150 := got_bool s150
                                  clear hd hy hb
                                  go_simp
                                  exact hK.out _ W (stp_of hmo d (Below.refl _ _)) (if_pos rfl)
                                case o8 =>
                                  intro A y W hy hb d hd K hK
                                  have e7 : y 7 = .pointer (some ⟨w.heap.size, 13, none⟩) := by obtain ⟨_, _, _, _, e⟩ := hd ⟨7, .data⟩ (by simp) rfl rfl; exact e
                                  have e6 : y 6 = .bool true := by obtain ⟨_, _, _, _, e⟩ := hd ⟨6, .guard⟩ (by simp) rfl rfl; exact e
                                  have s150 := (hy 6 _ 150 rfl rfl).trans e6
                                  have s150' := s150
                                  rw [Array.getD_eq_getD_getElem?] at s150'
                                  have s151 := (hy 7 _ 151 rfl rfl).trans e7
                                  have s151' := s151
                                  rw [Array.getD_eq_getD_getElem?] at s151'
                                  have g150 := got_bool s150
                                  clear hd hy hb
                                  have S := SW.out W (HYB.out.trans (d.mono HYB.out.size))
                                  obtain ⟨c13, c15⟩ := S
                                  go_simp
                                  exact hK.out _ W (stp_of hmo d (Below.refl _ _)) (if_pos rfl)
                                case o9 =>
                                  intro A y W hy hb d hd K hK
                                  have e6 : y 6 = .bool true := by obtain ⟨_, _, _, _, e⟩ := hd ⟨6, .guard⟩ (by simp) rfl rfl; exact e
                                  have s14 : A.tmps.getD 14 undef = .int .i64 i := hb 14 rfl
                                  have s14' := s14
                                  rw [Array.getD_eq_getD_getElem?] at s14'
                                  have s150 := (hy 6 _ 150 rfl rfl).trans e6
                                  have s150' := s150
                                  rw [Array.getD_eq_getD_getElem?] at s150'
                                  have g150 := got_bool s150
                                  clear hd hy hb
                                  go_simp
                                  exact hK.out _ W (stp_of hmo d (Below.refl _ _)) (if_pos rfl)
                                case o10 =>
                                  intro A y W hy hb d hd K hK
                                  have e8 : y 8 = .slice (some ⟨g, o, none⟩) Wd.length cw := by obtain ⟨_, _, _, _, e⟩ := hd ⟨8, .data⟩ (by simp) rfl rfl; exact e
                                  have e9 : y 9 = .int .i64 i := by obtain ⟨_, _, _, _, e⟩ := hd ⟨9, .data⟩ (by simp) rfl rfl; exact e
                                  have e6 : y 6 = .bool true := by obtain ⟨_, _, _, _, e⟩ := hd ⟨6, .guard⟩ (by simp) rfl rfl; exact e
                                  have s150 := (hy 6 _ 150 rfl rfl).trans e6
                                  have s150' := s150
                                  rw [Array.getD_eq_getD_getElem?] at s150'
                                  have s152 := (hy 8 _ 152 rfl rfl).trans e8
                                  have s152' := s152
                                  rw [Array.getD_eq_getD_getElem?] at s152'
                                  have s153 := (hy 9 _ 153 rfl rfl).trans e9
                                  have s153' := s153
                                  rw [Array.getD_eq_getD_getElem?] at s153'
                                  have g150 := got_bool s150
                                  clear hd hy hb
                                  go_simp
                                  exact hK.out _ W (stp_of hmo d (Below.refl _ _)) (if_pos rfl)
                                case o11 =>
                                  intro A y W hy hb d hd K hK
                                  have e10 : y 10 = .pointer (some ⟨g, o + i, none⟩) := by obtain ⟨_, _, _, _, e⟩ := hd ⟨10, .data⟩ (by simp) rfl rfl; exact e
                                  have e6 : y 6 = .bool true := by obtain ⟨_, _, _, _, e⟩ := hd ⟨6, .guard⟩ (by simp) rfl rfl; exact e
                                  have s150 := (hy 6 _ 150 rfl rfl).trans e6
                                  have s150' := s150
                                  rw [Array.getD_eq_getD_getElem?] at s150'
                                  have s154 := (hy 10 _ 154 rfl rfl).trans e10
                                  have s154' := s154
                                  rw [Array.getD_eq_getD_getElem?] at s154'
                                  have g150 := got_bool s150
                                  clear hd hy hb
                                  have q2 := (d.cell (p := ⟨g, o + i, none⟩) (World.block_lt_of_cell? wr _ q)).trans q
                                  go_simp
                                  exact hK.out _ W (stp_of hmo d (Below.refl _ _)) (if_pos rfl)
                                case o12 =>
                                  intro A y W hy hb d hd K hK
                                  have e6 : y 6 = .bool true := by obtain ⟨_, _, _, _, e⟩ := hd ⟨6, .guard⟩ (by simp) rfl rfl; exact e
                                  have s1 : A.tmps.getD 1 undef = .pointer (some ⟨w.heap.size, 0, none⟩) := hb 1 rfl
                                  have s1' := s1
                                  rw [Array.getD_eq_getD_getElem?] at s1'
                                  have s150 := (hy 6 _ 150 rfl rfl).trans e6
                                  have s150' := s150
                                  rw [Array.getD_eq_getD_getElem?] at s150'
                                  have g150 := got_bool s150
                                  clear hd hy hb
                                  go_simp
                                  exact hK.out _ W (stp_of hmo d (Below.refl _ _)) (if_pos rfl)
                                case o13 =>
                                  intro A y W hy hb d hd K hK
                                  have e12 : y 12 = .pointer (some ⟨w.heap.size, 15, none⟩) := by obtain ⟨_, _, _, _, e⟩ := hd ⟨12, .data⟩ (by simp) rfl rfl; exact e
                                  have e6 : y 6 = .bool true := by obtain ⟨_, _, _, _, e⟩ := hd ⟨6, .guard⟩ (by simp) rfl rfl; exact e
                                  have s150 := (hy 6 _ 150 rfl rfl).trans e6
                                  have s150' := s150
                                  rw [Array.getD_eq_getD_getElem?] at s150'
                                  have s156 := (hy 12 _ 156 rfl rfl).trans e12
                                  have s156' := s156
                                  rw [Array.getD_eq_getD_getElem?] at s156'
                                  have g150 := got_bool s150
                                  clear hd hy hb
                                  have S := SW.out W (HYB.out.trans (d.mono HYB.out.size))
                                  obtain ⟨c13, c15⟩ := S
                                  go_simp
                                  exact hK.out _ W (stp_of hmo d (Below.refl _ _)) (if_pos rfl)
                                case o14 =>
                                  intro A y W hy hb d hd K hK
                                  have e13 : y 13 = .slice o1 To.length co := by obtain ⟨_, _, _, _, e⟩ := hd ⟨13, .data⟩ (by simp) rfl rfl; exact e
                                  have e6 : y 6 = .bool true := by obtain ⟨_, _, _, _, e⟩ := hd ⟨6, .guard⟩ (by simp) rfl rfl; exact e
                                  have s150 := (hy 6 _ 150 rfl rfl).trans e6
                                  have s150' := s150
                                  rw [Array.getD_eq_getD_getElem?] at s150'
                                  have s157 := (hy 13 _ 157 rfl rfl).trans e13
                                  have s157' := s157
                                  rw [Array.getD_eq_getD_getElem?] at s157'
                                  have g150 := got_bool s150
                                  clear hd hy hb
                                  go_simp
                                  exact hK.out _ W (stp_of hmo d (Below.refl _ _)) (if_pos rfl)
                                case o15 =>
                                  intro A y W hy hb d hd K hK
                                  have e11 : y 11 = .int .i64 x := by obtain ⟨_, _, _, _, e⟩ := hd ⟨11, .data⟩ (by simp) rfl rfl; exact e
                                  have e14 : y 14 = .int .i64 (To.length : Int) := by obtain ⟨_, _, _, _, e⟩ := hd ⟨14, .data⟩ (by simp) rfl rfl; exact e
                                  have e6 : y 6 = .bool true := by obtain ⟨_, _, _, _, e⟩ := hd ⟨6, .guard⟩ (by simp) rfl rfl; exact e
                                  have s150 := (hy 6 _ 150 rfl rfl).trans e6
                                  have s150' := s150
                                  rw [Array.getD_eq_getD_getElem?] at s150'
                                  have s155 := (hy 11 _ 155 rfl rfl).trans e11
                                  have s155' := s155
                                  rw [Array.getD_eq_getD_getElem?] at s155'
                                  have s158 := (hy 14 _ 158 rfl rfl).trans e14
                                  have s158' := s158
                                  rw [Array.getD_eq_getD_getElem?] at s158'
                                  have g150 := got_bool s150
                                  clear hd hy hb
                                  go_simp
                                  exact hK.out _ W (stp_of hmo d (Below.refl _ _)) (if_pos rfl)
                                case o16 =>
                                  intro A y W hy hb d hd K hK
                                  have e6 : y 6 = .bool true := by obtain ⟨_, _, _, _, e⟩ := hd ⟨6, .data⟩ (by simp) rfl rfl; exact e
                                  have e15 : y 15 = .bool false := by obtain ⟨_, _, _, _, e⟩ := hd ⟨15, .data⟩ (by simp) rfl rfl; exact e
                                  have s150 := (hy 6 _ 150 rfl rfl).trans e6
                                  have s150' := s150
                                  rw [Array.getD_eq_getD_getElem?] at s150'
                                  have s159 := (hy 15 _ 159 rfl rfl).trans e15
                                  have s159' := s159
                                  rw [Array.getD_eq_getD_getElem?] at s159'
                                  clear hd hy hb
                                  go_simp
                                  exact hK.out _ W (stp_of hmo d (Below.refl _ _)) (if_pos rfl)
                                case fin =>
                                  intro y lo hi W hM
                                  show wpList _ _ _ [] _ _
                                  have e0 : y 0 = .pointer (some ⟨w.heap.size, 13, none⟩) := hM.fact 0 (by simp) rfl (notR_all 0 rfl)
                                  have e1 : y 1 = .slice (some ⟨g, o, none⟩) Wd.length cw := hM.fact 1 (by simp) rfl (notR_all 1 rfl)
                                  have e2 : y 2 = .int .i64 i := hM.fact 2 (by simp) rfl (notR_all 2 rfl)
                                  have e3 : y 3 = .pointer (some ⟨g, o + i, none⟩) := hM.fact 3 (by simp) rfl (notR_all 3 rfl)
                                  have e4 : y 4 = .int .i64 x := hM.fact 4 (by simp) rfl (notR_all 4 rfl)
                                  have e5 : y 5 = .bool true := hM.fact 5 (by simp) rfl (notR_all 5 rfl)
                                  have e6 : y 6 = .bool true := hM.fact 6 (by simp) rfl (notR_all 6 rfl)
                                  have e7 : y 7 = .pointer (some ⟨w.heap.size, 13, none⟩) := hM.fact 7 (by simp) rfl (notR_all 7 rfl)
                                  have e8 : y 8 = .slice (some ⟨g, o, none⟩) Wd.length cw := hM.fact 8 (by simp) rfl (notR_all 8 rfl)
                                  have e9 : y 9 = .int .i64 i := hM.fact 9 (by simp) rfl (notR_all 9 rfl)
                                  have e10 : y 10 = .pointer (some ⟨g, o + i, none⟩) := hM.fact 10 (by simp) rfl (notR_all 10 rfl)
                                  have e11 : y 11 = .int .i64 x := hM.fact 11 (by simp) rfl (notR_all 11 rfl)
                                  have e12 : y 12 = .pointer (some ⟨w.heap.size, 15, none⟩) := hM.fact 12 (by simp) rfl (notR_all 12 rfl)
                                  have e13 : y 13 = .slice o1 To.length co := hM.fact 13 (by simp) rfl (notR_all 13 rfl)
                                  have e14 : y 14 = .int .i64 (To.length : Int) := hM.fact 14 (by simp) rfl (notR_all 14 rfl)
                                  have e15 : y 15 = .bool false := hM.fact 15 (by simp) rfl (notR_all 15 rfl)
                                  have e16 : y 16 = .bool false := hM.fact 16 (by simp) rfl (notR_all 16 rfl)
                                  have DW := hide hM.d
                                  simp only [fills, Act.put, List.take, List.length, List.setIfInBounds_toArray, List.set_cons_zero, List.set_cons_succ, e0, e1, e2, e3, e4, e5, e6, e7, e8, e9, e10, e11, e12, e13, e14, e15, e16]
                                  clear hM hmo e0 e1 e2 e3 e4 e5 e6 e7 e8 e9 e10 e11 e12 e13 e14 e15 e16
                                  go_wp2_with fail
                                  go_meet
                                  exact ⟨rfl, DW⟩

                              · have x0 : decide (x ≥ 0) = false := by simp; omega
                                have x2 : ¬ x ≥ 0 := by omega
                                clear hx hx2
                                have hmo : MonIL 0 [vI 0 (.pointer (some ⟨w.heap.size, 13, none⟩)), vI 1 (.slice (some ⟨g, o, none⟩) Wd.length cw), vI 2 (.int .i64 i), vI 3 (.pointer (some ⟨g, o + i, none⟩)), vI 4 (.int .i64 x), vI 5 (.bool false), vI 6 (.bool false), vI 7 (undef), vI 8 (undef), vI 9 (undef), vI 10 (undef), vI 11 (undef), vI 12 (undef), vI 13 (undef), vI 14 (undef), vI 15 (undef), vI 16 (.bool false)] := ⟨vI_mono _ _, vI_mono _ _, vI_mono _ _, vI_mono _ _, vI_mono _ _, vI_mono _ _, vI_mono _ _, vI_mono _ _, vI_mono _ _, vI_mono _ _, vI_mono _ _, vI_mono _ _, vI_mono _ _, vI_mono _ _, vI_mono _ _, vI_mono _ _, vI_mono _ _, trivial⟩
                                refine wp_region_sl [vI 0 (.pointer (some ⟨w.heap.size, 13, none⟩)), vI 1 (.slice (some ⟨g, o, none⟩) Wd.length cw), vI 2 (.int .i64 i), vI 3 (.pointer (some ⟨g, o + i, none⟩)), vI 4 (.int .i64 x), vI 5 (.bool false), vI 6 (.bool false), vI 7 (undef), vI 8 (undef), vI 9 (undef), vI 10 (undef), vI 11 (undef), vI 12 (undef), vI 13 (undef), vI 14 (undef), vI 15 (undef), vI 16 (.bool false)] (by kernel_rfl) (by kernel_rfl) (by kernel_rfl) (by kernel_rfl) hmo ⟨?o0, ?o1, ?o2, ?o3, ?o4, ?o5, ?o6, ?o7, ?o8, ?o9, ?o10, ?o11, ?o12, ?o13, ?o14, ?o15, ?o16, trivial⟩ ?fin
                                case o0 =>
                                  intro A y W hy hb d hd K hK
                                  have s1 : A.tmps.getD 1 undef = .pointer (some ⟨w.heap.size, 0, none⟩) := hb 1 rfl
                                  have s1' := s1
                                  rw [Array.getD_eq_getD_getElem?] at s1'
                                  clear hd hy hb
                                  go_simp
                                  exact hK.out _ W (stp_of hmo d (Below.refl _ _)) (if_pos rfl)
                                case o1 =>
                                  intro A y W hy hb d hd K hK
                                  have e0 : y 0 = .pointer (some ⟨w.heap.size, 13, none⟩) := by obtain ⟨_, _, _, _, e⟩ := hd ⟨0, .data⟩ (by simp) rfl rfl; exact e
                                  have s144 := (hy 0 _ 144 rfl rfl).trans e0
                                  have s144' := s144
                                  rw [Array.getD_eq_getD_getElem?] at s144'
                                  clear hd hy hb
                                  have S := SW.out W (HYB.out.trans (d.mono HYB.out.size))
                                  obtain ⟨c13, c15⟩ := S
                                  go_simp
                                  exact hK.out _ W (stp_of hmo d (Below.refl _ _)) (if_pos rfl)
                                case o2 =>
                                  intro A y W hy hb d hd K hK
                                  have s14 : A.tmps.getD 14 undef = .int .i64 i := hb 14 rfl
                                  have s14' := s14
                                  rw [Array.getD_eq_getD_getElem?] at s14'
                                  clear hd hy hb
                                  go_simp
                                  exact hK.out _ W (stp_of hmo d (Below.refl _ _)) (if_pos rfl)
                                case o3 =>
                                  intro A y W hy hb d hd K hK
                                  have e1 : y 1 = .slice (some ⟨g, o, none⟩) Wd.length cw := by obtain ⟨_, _, _, _, e⟩ := hd ⟨1, .data⟩ (by simp) rfl rfl; exact e
                                  have e2 : y 2 = .int .i64 i := by obtain ⟨_, _, _, _, e⟩ := hd ⟨2, .data⟩ (by simp) rfl rfl; exact e
                                  have s145 := (hy 1 _ 145 rfl rfl).trans e1
                                  have s145' := s145
                                  rw [Array.getD_eq_getD_getElem?] at s145'
                                  have s146 := (hy 2 _ 146 rfl rfl).trans e2
                                  have s146' := s146
                                  rw [Array.getD_eq_getD_getElem?] at s146'
                                  clear hd hy hb
                                  go_simp
                                  exact hK.out _ W (stp_of hmo d (Below.refl _ _)) (if_pos rfl)
                                case o4 =>
                                  intro A y W hy hb d hd K hK
                                  have e3 : y 3 = .pointer (some ⟨g, o + i, none⟩) := by obtain ⟨_, _, _, _, e⟩ := hd ⟨3, .data⟩ (by simp) rfl rfl; exact e
                                  have s147 := (hy 3 _ 147 rfl rfl).trans e3
                                  have s147' := s147
                                  rw [Array.getD_eq_getD_getElem?] at s147'
                                  clear hd hy hb
                                  have q2 := (d.cell (p := ⟨g, o + i, none⟩) (World.block_lt_of_cell? wr _ q)).trans q
                                  go_simp
                                  exact hK.out _ W (stp_of hmo d (Below.refl _ _)) (if_pos rfl)
                                case o5 =>
                                  intro A y W hy hb d hd K hK
                                  have e4 : y 4 = .int .i64 x := by obtain ⟨_, _, _, _, e⟩ := hd ⟨4, .data⟩ (by simp) rfl rfl; exact e
                                  have s148 := (hy 4 _ 148 rfl rfl).trans e4
                                  have s148' := s148
                                  rw [Array.getD_eq_getD_getElem?] at s148'
                                  clear hd hy hb
                                  go_simp
                                  exact hK.out _ W (stp_of hmo d (Below.refl _ _)) (if_pos rfl)
                                case o6 =>
                                  intro A y W hy hb d hd K hK
                                  have e5 : y 5 = .bool false := by obtain ⟨_, _, _, _, e⟩ := hd ⟨5, .data⟩ (by simp) rfl rfl; exact e
                                  have s149 := (hy 5 _ 149 rfl rfl).trans e5
                                  have s149' := s149
                                  rw [Array.getD_eq_getD_getElem?] at s149'
                                  clear hd hy hb
                                  go_simp
                                  exact hK.out _ W (stp_of hmo d (Below.refl _ _)) (if_pos rfl)
                                case o7 =>
                                  intro A y W hy hb d hd K hK
                                  have e6 : y 6 = .bool false := by obtain ⟨_, _, _, _, e⟩ := hd ⟨6, .guard⟩ (by simp) rfl rfl; exact e
                                  have s150 := (hy 6 _ 150 rfl rfl).trans e6
                                  have s150' := s150
                                  rw [Array.getD_eq_getD_getElem?] at s150'
                                  have g150 := got_bool s150
                                  clear hd hy hb
                                  go_simp
                                  exact hK.out _ W (stp_of hmo d (Below.refl _ _)) (if_pos rfl)
                                case o8 =>
                                  intro A y W hy hb d hd K hK
                                  have e7 : y 7 = undef := by obtain ⟨_, _, _, _, e⟩ := hd ⟨7, .data⟩ (by simp) rfl rfl; exact e
                                  have e6 : y 6 = .bool false := by obtain ⟨_, _, _, _, e⟩ := hd ⟨6, .guard⟩ (by simp) rfl rfl; exact e
                                  have s150 := (hy 6 _ 150 rfl rfl).trans e6
                                  have s150' := s150
                                  rw [Array.getD_eq_getD_getElem?] at s150'
                                  have g150 := got_bool s150
                                  clear hd hy hb
                                  go_simp
                                  exact hK.out _ W (stp_of hmo d (Below.refl _ _)) (if_pos rfl)
                                case o9 =>
                                  intro A y W hy hb d hd K hK
                                  have e6 : y 6 = .bool false := by obtain ⟨_, _, _, _, e⟩ := hd ⟨6, .guard⟩ (by simp) rfl rfl; exact e
                                  have s150 := (hy 6 _ 150 rfl rfl).trans e6
                                  have s150' := s150
                                  rw [Array.getD_eq_getD_getElem?] at s150'
                                  have g150 := got_bool s150
                                  clear hd hy hb
                                  go_simp
                                  exact hK.out _ W (stp_of hmo d (Below.refl _ _)) (if_pos rfl)
                                case o10 =>
                                  intro A y W hy hb d hd K hK
                                  have e8 : y 8 = undef := by obtain ⟨_, _, _, _, e⟩ := hd ⟨8, .data⟩ (by simp) rfl rfl; exact e
                                  have e9 : y 9 = undef := by obtain ⟨_, _, _, _, e⟩ := hd ⟨9, .data⟩ (by simp) rfl rfl; exact e
                                  have e6 : y 6 = .bool false := by obtain ⟨_, _, _, _, e⟩ := hd ⟨6, .guard⟩ (by simp) rfl rfl; exact e
                                  have s150 := (hy 6 _ 150 rfl rfl).trans e6
                                  have s150' := s150
                                  rw [Array.getD_eq_getD_getElem?] at s150'
                                  have g150 := got_bool s150
                                  clear hd hy hb
                                  go_simp
                                  exact hK.out _ W (stp_of hmo d (Below.refl _ _)) (if_pos rfl)
                                case o11 =>
                                  intro A y W hy hb d hd K hK
                                  have e10 : y 10 = undef := by obtain ⟨_, _, _, _, e⟩ := hd ⟨10, .data⟩ (by simp) rfl rfl; exact e
                                  have e6 : y 6 = .bool false := by obtain ⟨_, _, _, _, e⟩ := hd ⟨6, .guard⟩ (by simp) rfl rfl; exact e
                                  have s150 := (hy 6 _ 150 rfl rfl).trans e6
                                  have s150' := s150
                                  rw [Array.getD_eq_getD_getElem?] at s150'
                                  have g150 := got_bool s150
                                  clear hd hy hb
                                  go_simp
                                  exact hK.out _ W (stp_of hmo d (Below.refl _ _)) (if_pos rfl)
                                case o12 =>
                                  intro A y W hy hb d hd K hK
                                  have e6 : y 6 = .bool false := by obtain ⟨_, _, _, _, e⟩ := hd ⟨6, .guard⟩ (by simp) rfl rfl; exact e
                                  have s150 := (hy 6 _ 150 rfl rfl).trans e6
                                  have s150' := s150
                                  rw [Array.getD_eq_getD_getElem?] at s150'
                                  have g150 := got_bool s150
                                  clear hd hy hb
                                  go_simp
                                  exact hK.out _ W (stp_of hmo d (Below.refl _ _)) (if_pos rfl)
                                case o13 =>
                                  intro A y W hy hb d hd K hK
                                  have e12 : y 12 = undef := by obtain ⟨_, _, _, _, e⟩ := hd ⟨12, .data⟩ (by simp) rfl rfl; exact e
                                  have e6 : y 6 = .bool false := by obtain ⟨_, _, _, _, e⟩ := hd ⟨6, .guard⟩ (by simp) rfl rfl; exact e
                                  have s150 := (hy 6 _ 150 rfl rfl).trans e6
                                  have s150' := s150
                                  rw [Array.getD_eq_getD_getElem?] at s150'
                                  have g150 := got_bool s150
                                  clear hd hy hb
                                  go_simp
                                  exact hK.out _ W (stp_of hmo d (Below.refl _ _)) (if_pos rfl)
                                case o14 =>
                                  intro A y W hy hb d hd K hK
                                  have e13 : y 13 = undef := by obtain ⟨_, _, _, _, e⟩ := hd ⟨13, .data⟩ (by simp) rfl rfl; exact e
                                  have e6 : y 6 = .bool false := by obtain ⟨_, _, _, _, e⟩ := hd ⟨6, .guard⟩ (by simp) rfl rfl; exact e
                                  have s150 := (hy 6 _ 150 rfl rfl).trans e6
                                  have s150' := s150
                                  rw [Array.getD_eq_getD_getElem?] at s150'
                                  have g150 := got_bool s150
                                  clear hd hy hb
                                  go_simp
                                  exact hK.out _ W (stp_of hmo d (Below.refl _ _)) (if_pos rfl)
                                case o15 =>
                                  intro A y W hy hb d hd K hK
                                  have e11 : y 11 = undef := by obtain ⟨_, _, _, _, e⟩ := hd ⟨11, .data⟩ (by simp) rfl rfl; exact e
                                  have e14 : y 14 = undef := by obtain ⟨_, _, _, _, e⟩ := hd ⟨14, .data⟩ (by simp) rfl rfl; exact e
                                  have e6 : y 6 = .bool false := by obtain ⟨_, _, _, _, e⟩ := hd ⟨6, .guard⟩ (by simp) rfl rfl; exact e
                                  have s150 := (hy 6 _ 150 rfl rfl).trans e6
                                  have s150' := s150
                                  rw [Array.getD_eq_getD_getElem?] at s150'
                                  have g150 := got_bool s150
                                  clear hd hy hb
                                  go_simp
                                  exact hK.out _ W (stp_of hmo d (Below.refl _ _)) (if_pos rfl)
                                case o16 =>
                                  intro A y W hy hb d hd K hK
                                  have e6 : y 6 = .bool false := by obtain ⟨_, _, _, _, e⟩ := hd ⟨6, .data⟩ (by simp) rfl rfl; exact e
                                  have e15 : y 15 = undef := by obtain ⟨_, _, _, _, e⟩ := hd ⟨15, .data⟩ (by simp) rfl rfl; exact e
                                  have s150 := (hy 6 _ 150 rfl rfl).trans e6
                                  have s150' := s150
                                  rw [Array.getD_eq_getD_getElem?] at s150'
                                  have s159 := (hy 15 _ 159 rfl rfl).trans e15
                                  have s159' := s159
                                  rw [Array.getD_eq_getD_getElem?] at s159'
                                  clear hd hy hb
                                  go_simp
                                  exact hK.out _ W (stp_of hmo d (Below.refl _ _)) (if_pos rfl)
                                case fin =>
                                  intro y lo hi W hM
                                  show wpList _ _ _ [] _ _
                                  have e0 : y 0 = .pointer (some ⟨w.heap.size, 13, none⟩) := hM.fact 0 (by simp) rfl (notR_all 0 rfl)
                                  have e1 : y 1 = .slice (some ⟨g, o, none⟩) Wd.length cw := hM.fact 1 (by simp) rfl (notR_all 1 rfl)
                                  have e2 : y 2 = .int .i64 i := hM.fact 2 (by simp) rfl (notR_all 2 rfl)
                                  have e3 : y 3 = .pointer (some ⟨g, o + i, none⟩) := hM.fact 3 (by simp) rfl (notR_all 3 rfl)
                                  have e4 : y 4 = .int .i64 x := hM.fact 4 (by simp) rfl (notR_all 4 rfl)
                                  have e5 : y 5 = .bool false := hM.fact 5 (by simp) rfl (notR_all 5 rfl)
                                  have e6 : y 6 = .bool false := hM.fact 6 (by simp) rfl (notR_all 6 rfl)
                                  have e7 : y 7 = undef := hM.fact 7 (by simp) rfl (notR_all 7 rfl)
                                  have e8 : y 8 = undef := hM.fact 8 (by simp) rfl (notR_all 8 rfl)
                                  have e9 : y 9 = undef := hM.fact 9 (by simp) rfl (notR_all 9 rfl)
                                  have e10 : y 10 = undef := hM.fact 10 (by simp) rfl (notR_all 10 rfl)
                                  have e11 : y 11 = undef := hM.fact 11 (by simp) rfl (notR_all 11 rfl)
                                  have e12 : y 12 = undef := hM.fact 12 (by simp) rfl (notR_all 12 rfl)
                                  have e13 : y 13 = undef := hM.fact 13 (by simp) rfl (notR_all 13 rfl)
                                  have e14 : y 14 = undef := hM.fact 14 (by simp) rfl (notR_all 14 rfl)
                                  have e15 : y 15 = undef := hM.fact 15 (by simp) rfl (notR_all 15 rfl)
                                  have e16 : y 16 = .bool false := hM.fact 16 (by simp) rfl (notR_all 16 rfl)
                                  have DW := hide hM.d
                                  simp only [fills, Act.put, List.take, List.length, List.setIfInBounds_toArray, List.set_cons_zero, List.set_cons_succ, e0, e1, e2, e3, e4, e5, e6, e7, e8, e9, e10, e11, e12, e13, e14, e15, e16]
                                  clear hM hmo e0 e1 e2 e3 e4 e5 e6 e7 e8 e9 e10 e11 e12 e13 e14 e15 e16
                                  go_wp2_with fail
                                  go_meet
                                  exact ⟨rfl, DW⟩

                            case rest =>
                              obtain ⟨rfl, HK⟩ := hcut
                              rename World => wk
                              have HYO := hide (own_below HYO.out HK.out)
                              have HYB := hide (HYB.out.trans (HK.out.mono HYB.out.size))
                              clear hx hx2 HOI HOO
                              go_wp2_with fail
                              go_roundw
                              case rel => exact ⟨i + 1, by omega, by rw [HO2.out.2], by go_num, hide ⟨by rw [HO2.out.1]; exact HYO.out, HYB.out⟩⟩
                              case measure => simp [intOf]; omega
                        · have i0 : ¬ (i : Int) < (Wd.length : Int) := by omega
                          have etk : Wd.take i = Wd := List.take_of_length_le (by omega)
                          rw [etk] at HYO ⊢
                          obtain ⟨ao, ca, hv, hD⟩ := rd_own HYO.out
                          subst hv
                          have HX := hide hD
                          have HXL : Hid ((oth To Wd).length ≤ 4194304) := hide (Nat.le_trans (oth_len _ _) (by omega))
                          clear hD HYO etk
                          obtain ⟨X, hX⟩ : ∃ X, oth To Wd = X := ⟨_, rfl⟩
                          rw [hX] at HX HXL YW ⊢
                          clear hX
                          obtain ⟨st, hst⟩ : ∃ st, strB To Wd = st := ⟨_, rfl⟩
                          rw [hst] at YW ⊢
                          clear hst
                          obtain ⟨c13, c15⟩ := SW.out wr HYB.out
                          go_upto_region 27 with fail
                          clear c13 c15
                          go_cut [181] from 173 to 181 (fun v W => v = .bool false ∧ Hid (Below ww.heap.size ww W))
                          case first =>
                            obtain ⟨q0, q1', q2, q3, q4⟩ := BC.out wr HYB.out
                            cases st with
                            | true =>
                              go_wp2_with fail
                              go_meet
                              exact ⟨rfl, HYB⟩
                            | false =>
                              have GX : Hid (∀ W, Below ww.heap.size ww W → RdN W ao X → Calls Tryz.prog 26 #[.agg #[.int .i64 (N : Int), .int .i64 kk, .slice (some ⟨v1, 0, none⟩) (S1).length kv1, .slice (some ⟨v2, 0, none⟩) (F1).length kv2, .slice (some ⟨v3, 0, none⟩) (RE).length kv3], .slice ao X.length ca] W fun e w' => e = .returned (.bool ys) ∧ Below ww.heap.size ww w') := hide (fun W d hQ => by
                                have t := GW.out W ao ca X d hQ HXL.out
                                rw [YW.out rfl] at t
                                exact t.mono fun e w' ⟨h, dd, _⟩ => ⟨h, dd⟩)
                              go_wp2_with (go_at_call 26; refine (GX.out _ HYB.out HX.out).mono ?_; rintro e wa ⟨rfl, Da⟩)
                              go_meet
                              exact ⟨rfl, hide Da⟩
                          case rest =>
                            obtain ⟨rfl, HK⟩ := hcut
                            rename World => wk
                            clear HYB HX HXL
                            have HYB := HK
                            clear HK
                            obtain ⟨yw, hyw⟩ : ∃ yw, tkB N kk S1 F1 RE Wd = yw := ⟨_, rfl⟩
                            rw [hyw] at YS
                            have GY2 : Hid (∀ (W : World) (gq kq : Nat), Below ww.heap.size ww W → RdN W (some ⟨gq, 0, none⟩) Wd → Calls Tryz.prog 26 #[.agg #[.int .i64 (N : Int), .int .i64 kk, .slice (some ⟨v1, 0, none⟩) (S1).length kv1, .slice (some ⟨v2, 0, none⟩) (F1).length kv2, .slice (some ⟨v3, 0, none⟩) (RE).length kv3], .slice (some ⟨gq, 0, none⟩) Wd.length kq] W fun e w' => e = .returned (.bool yw) ∧ Below ww.heap.size ww w' ∧ Below W.heap.size W w') := hide (fun W gq kq d hQ => by
                              have t := GW.out W (some ⟨gq, 0, none⟩) kq Wd d hQ (by omega)
                              rw [hyw] at t
                              exact t)
                            clear hyw
                            have GI : Hid (∀ W, Below ww.heap.size ww W → Calls Tryz.prog 11 #[.slice u1 Wd.length cw] W fun e w' => ∃ g c, e = .returned (.slice (some ⟨g, 0, none⟩) Wd.length c) ∧ Hid (RdN w' (some ⟨g, 0, none⟩) Wd) ∧ Below W.heap.size W w') := hide (fun W d => by
                              refine (ints_any W u1 Wd cw (hide (RU.out W d)) (by omega)).mono ?_
                              rintro e w' ⟨g, c, he, hm, dd⟩
                              exact ⟨g, c, he, hide hm.out.rd, dd⟩)
                            go_upto_region 29 with fail
                            go_cut [186] from 182 to 186 (fun v W => v = .bool yw ∧ Hid (Below ww.heap.size ww W))
                            case first =>
                              have hmo : MonIL 0 [vI 0 (.agg #[.int .i64 (N : Int), .int .i64 kk, .slice (some ⟨v1, 0, none⟩) (S1).length kv1, .slice (some ⟨v2, 0, none⟩) (F1).length kv2, .slice (some ⟨v3, 0, none⟩) (RE).length kv3]), vI 1 (.pointer (some ⟨w.heap.size, 13, none⟩)), vI 2 (.slice u1 Wd.length cw), pI 3 (rowP Wd), vI 4 (.bool yw)] := ⟨vI_mono _ _, vI_mono _ _, vI_mono _ _, pI_mono rowP_mono, vI_mono _ _, trivial⟩
                              refine wp_region_sl [vI 0 (.agg #[.int .i64 (N : Int), .int .i64 kk, .slice (some ⟨v1, 0, none⟩) (S1).length kv1, .slice (some ⟨v2, 0, none⟩) (F1).length kv2, .slice (some ⟨v3, 0, none⟩) (RE).length kv3]), vI 1 (.pointer (some ⟨w.heap.size, 13, none⟩)), vI 2 (.slice u1 Wd.length cw), pI 3 (rowP Wd), vI 4 (.bool yw)] (by kernel_rfl) (by kernel_rfl) (by kernel_rfl) (by kernel_rfl) hmo ⟨?o0, ?o1, ?o2, ?o3, ?o4, trivial⟩ ?fin
                              case o0 =>
                                intro A y W hy hb d hd K hK
                                have s11 : A.tmps.getD 11 undef = .pointer (some ⟨bw, 0, none⟩) := hb 11 rfl
                                have s11' := s11
                                rw [Array.getD_eq_getD_getElem?] at s11'
                                clear hd hy hb
                                obtain ⟨q0, q1', q2, q3, q4⟩ := BC.out W (HYB.out.trans (d.mono HYB.out.size))
                                go_simp
                                exact hK.out _ W (stp_of hmo d (Below.refl _ _)) (if_pos rfl)
                              case o1 =>
                                intro A y W hy hb d hd K hK
                                have s1 : A.tmps.getD 1 undef = .pointer (some ⟨w.heap.size, 0, none⟩) := hb 1 rfl
                                have s1' := s1
                                rw [Array.getD_eq_getD_getElem?] at s1'
                                clear hd hy hb
                                go_simp
                                exact hK.out _ W (stp_of hmo d (Below.refl _ _)) (if_pos rfl)
                              case o2 =>
                                intro A y W hy hb d hd K hK
                                have e1 : y 1 = .pointer (some ⟨w.heap.size, 13, none⟩) := by obtain ⟨_, _, _, _, e⟩ := hd ⟨1, .data⟩ (by simp) rfl rfl; exact e
                                have s183 := (hy 1 _ 183 rfl rfl).trans e1
                                have s183' := s183
                                rw [Array.getD_eq_getD_getElem?] at s183'
                                clear hd hy hb
                                have S := SW.out W (HYB.out.trans (d.mono HYB.out.size))
                                obtain ⟨c13, c15⟩ := S
                                go_simp
                                exact hK.out _ W (stp_of hmo d (Below.refl _ _)) (if_pos rfl)
                              case o3 =>
                                intro A y W hy hb d hd K hK
                                have e2 : y 2 = .slice u1 Wd.length cw := by obtain ⟨_, _, _, _, e⟩ := hd ⟨2, .data⟩ (by simp) rfl rfl; exact e
                                have DW := HYB.out.trans (d.mono HYB.out.size)
                                have s184 := (hy 2 _ 184 rfl rfl).trans e2
                                have s184' := s184
                                rw [Array.getD_eq_getD_getElem?] at s184'
                                clear hd hy hb
                                go_simp
                                go_wp2_with (go_at_call 11; refine (GI.out _ DW).mono ?_; rintro e wa ⟨gq, kq, rfl, hQ1, da⟩)
                                exact hK.out _ wa (stp_of hmo d da) ⟨gq, kq, if_pos rfl, hQ1.out⟩
                              case o4 =>
                                intro A y W hy hb d hd K hK
                                have e0 : y 0 = .agg #[.int .i64 (N : Int), .int .i64 kk, .slice (some ⟨v1, 0, none⟩) (S1).length kv1, .slice (some ⟨v2, 0, none⟩) (F1).length kv2, .slice (some ⟨v3, 0, none⟩) (RE).length kv3] := by obtain ⟨_, _, _, _, e⟩ := hd ⟨0, .data⟩ (by simp) rfl rfl; exact e
                                have f3 := hd ⟨3, .data⟩ (by simp) rfl rfl
                                have DW := HYB.out.trans (d.mono HYB.out.size)
                                obtain ⟨_, _, _, _, gq, kq, e3, r3⟩ := f3
                                have s182 := (hy 0 _ 182 rfl rfl).trans e0
                                have s182' := s182
                                rw [Array.getD_eq_getD_getElem?] at s182'
                                have s185 := (hy 3 _ 185 rfl rfl).trans e3
                                have s185' := s185
                                rw [Array.getD_eq_getD_getElem?] at s185'
                                clear hd hy hb
                                go_simp
                                go_wp2_with (go_at_call 26; refine (GY2.out _ _ _ DW r3).mono ?_; rintro e wa ⟨rfl, Da, da⟩)
                                exact hK.out _ wa (stp_of hmo d da) (if_pos rfl)
                              case fin =>
                                intro y lo hi W hM
                                show wpList _ _ _ [] _ _
                                have e0 : y 0 = .agg #[.int .i64 (N : Int), .int .i64 kk, .slice (some ⟨v1, 0, none⟩) (S1).length kv1, .slice (some ⟨v2, 0, none⟩) (F1).length kv2, .slice (some ⟨v3, 0, none⟩) (RE).length kv3] := hM.fact 0 (by simp) rfl (notR_all 0 rfl)
                                have e1 : y 1 = .pointer (some ⟨w.heap.size, 13, none⟩) := hM.fact 1 (by simp) rfl (notR_all 1 rfl)
                                have e2 : y 2 = .slice u1 Wd.length cw := hM.fact 2 (by simp) rfl (notR_all 2 rfl)
                                have e4 : y 4 = .bool yw := hM.fact 4 (by simp) rfl (notR_all 4 rfl)
                                have DW := hide (HYB.out.trans (hM.d.mono HYB.out.size))
                                simp only [fills, Act.put, List.take, List.length, List.setIfInBounds_toArray, List.set_cons_zero, List.set_cons_succ, e0, e1, e2, e4]
                                clear hM hmo e0 e1 e2 e4
                                go_wp2_with fail
                                go_meet
                                exact ⟨rfl, DW⟩

                            case rest =>
                              obtain ⟨rfl, HK⟩ := hcut
                              rename World => wj
                              clear HYB GY2 GI GW
                              cases yw with
                              | false =>
                                go_wp2_with fail
                                refine bodyPost_ret (results_tmp rfl _ _ _) rfl ?_
                                exact ⟨rfl, KE.out _ HK.out⟩
                              | true =>
                                have YT := hide (YS.out rfl)
                                clear YS YW
                                go_wp2_with fail
                                go_loopw [15] (fun iv wr => ∃ i : Nat, i ≤ Wd.length ∧ iv = .int .i64 i ∧ Hid (Below ww.heap.size ww wr)) (fun iv _ => Wd.length - (intOf iv).toNat)
                                case atStart => exact ⟨0, Nat.zero_le _, rfl, HK⟩
                                case round =>
                                  clear hi i0
                                  obtain ⟨i, hi, rfl, HYB⟩ := hrel
                                  clear HK
                                  obtain ⟨c13, c15⟩ := SW.out wr HYB.out
                                  by_cases hlt : i < Wd.length
                                  · have i0 : (i : Int) < (Wd.length : Int) := by omega
                                    have i1 : (0 : Int) ≤ (i : Int) := by omega
                                    have iw : IntKind.i64.wrap ((i : Int) + 1) = (i : Int) + 1 := by rw [IntKind.wrap_i64]; omega
                                    obtain ⟨g, o, hao, q⟩ := RU.out wr HYB.out i hlt
                                    subst hao
                                    have hin := YT.out Wd[i] (List.getElem_mem hlt)
                                    generalize Wd[i] = x at q hin
                                    have GH : Hid (∀ W, Below ww.heap.size ww W → Calls Tryz.prog 17 #[.slice o1 To.length co, .int .i64 x] W fun e w' => e = .returned (.bool true) ∧ Below W.heap.size W w') := hide (fun W d => (has17 W o1 To co x (hide (RO.out W d)) (by omega)).mono fun e w' ⟨h, hw⟩ => ⟨by rw [h]; simp [hin], by rw [hw]; exact Below.refl _ _⟩)
                                    clear hin
                                    go_upto_region 33 with fail
                                    clear c13 c15
                                    go_cut [202] from 194 to 202 (fun v W => v = .bool false ∧ Hid (Below ww.heap.size ww W))
                                    case first =>
                                      have hmo : MonIL 0 [vI 0 (.pointer (some ⟨w.heap.size, 15, none⟩)), vI 1 (.slice o1 To.length co), vI 2 (.pointer (some ⟨w.heap.size, 13, none⟩)), vI 3 (.slice (some ⟨g, o, none⟩) Wd.length cw), vI 4 (.int .i64 i), vI 5 (.pointer (some ⟨g, o + i, none⟩)), vI 6 (.int .i64 x), vI 7 (.bool true), vI 8 (.bool false)] := ⟨vI_mono _ _, vI_mono _ _, vI_mono _ _, vI_mono _ _, vI_mono _ _, vI_mono _ _, vI_mono _ _, vI_mono _ _, vI_mono _ _, trivial⟩
                                      refine wp_region_sl [vI 0 (.pointer (some ⟨w.heap.size, 15, none⟩)), vI 1 (.slice o1 To.length co), vI 2 (.pointer (some ⟨w.heap.size, 13, none⟩)), vI 3 (.slice (some ⟨g, o, none⟩) Wd.length cw), vI 4 (.int .i64 i), vI 5 (.pointer (some ⟨g, o + i, none⟩)), vI 6 (.int .i64 x), vI 7 (.bool true), vI 8 (.bool false)] (by kernel_rfl) (by kernel_rfl) (by kernel_rfl) (by kernel_rfl) hmo ⟨?o0, ?o1, ?o2, ?o3, ?o4, ?o5, ?o6, ?o7, ?o8, trivial⟩ ?fin
                                      case o0 =>
                                        intro A y W hy hb d hd K hK
                                        have s1 : A.tmps.getD 1 undef = .pointer (some ⟨w.heap.size, 0, none⟩) := hb 1 rfl
                                        have s1' := s1
                                        rw [Array.getD_eq_getD_getElem?] at s1'
                                        clear hd hy hb
                                        go_simp
                                        exact hK.out _ W (stp_of hmo d (Below.refl _ _)) (if_pos rfl)
                                      case o1 =>
                                        intro A y W hy hb d hd K hK
                                        have e0 : y 0 = .pointer (some ⟨w.heap.size, 15, none⟩) := by obtain ⟨_, _, _, _, e⟩ := hd ⟨0, .data⟩ (by simp) rfl rfl; exact e
                                        have s194 := (hy 0 _ 194 rfl rfl).trans e0
                                        have s194' := s194
                                        rw [Array.getD_eq_getD_getElem?] at s194'
                                        clear hd hy hb
                                        have S := SW.out W (HYB.out.trans (d.mono HYB.out.size))
                                        obtain ⟨c13, c15⟩ := S
                                        go_simp
                                        exact hK.out _ W (stp_of hmo d (Below.refl _ _)) (if_pos rfl)
                                      case o2 =>
                                        intro A y W hy hb d hd K hK
                                        have s1 : A.tmps.getD 1 undef = .pointer (some ⟨w.heap.size, 0, none⟩) := hb 1 rfl
                                        have s1' := s1
                                        rw [Array.getD_eq_getD_getElem?] at s1'
                                        clear hd hy hb
                                        go_simp
                                        exact hK.out _ W (stp_of hmo d (Below.refl _ _)) (if_pos rfl)
                                      case o3 =>
                                        intro A y W hy hb d hd K hK
                                        have e2 : y 2 = .pointer (some ⟨w.heap.size, 13, none⟩) := by obtain ⟨_, _, _, _, e⟩ := hd ⟨2, .data⟩ (by simp) rfl rfl; exact e
                                        have s196 := (hy 2 _ 196 rfl rfl).trans e2
                                        have s196' := s196
                                        rw [Array.getD_eq_getD_getElem?] at s196'
                                        clear hd hy hb
                                        have S := SW.out W (HYB.out.trans (d.mono HYB.out.size))
                                        obtain ⟨c13, c15⟩ := S
                                        go_simp
                                        exact hK.out _ W (stp_of hmo d (Below.refl _ _)) (if_pos rfl)
                                      case o4 =>
                                        intro A y W hy hb d hd K hK
                                        have s15 : A.tmps.getD 15 undef = .int .i64 i := hb 15 rfl
                                        have s15' := s15
                                        rw [Array.getD_eq_getD_getElem?] at s15'
                                        clear hd hy hb
                                        go_simp
                                        exact hK.out _ W (stp_of hmo d (Below.refl _ _)) (if_pos rfl)
                                      case o5 =>
                                        intro A y W hy hb d hd K hK
                                        have e3 : y 3 = .slice (some ⟨g, o, none⟩) Wd.length cw := by obtain ⟨_, _, _, _, e⟩ := hd ⟨3, .data⟩ (by simp) rfl rfl; exact e
                                        have e4 : y 4 = .int .i64 i := by obtain ⟨_, _, _, _, e⟩ := hd ⟨4, .data⟩ (by simp) rfl rfl; exact e
                                        have s197 := (hy 3 _ 197 rfl rfl).trans e3
                                        have s197' := s197
                                        rw [Array.getD_eq_getD_getElem?] at s197'
                                        have s198 := (hy 4 _ 198 rfl rfl).trans e4
                                        have s198' := s198
                                        rw [Array.getD_eq_getD_getElem?] at s198'
                                        clear hd hy hb
                                        go_simp
                                        exact hK.out _ W (stp_of hmo d (Below.refl _ _)) (if_pos rfl)
                                      case o6 =>
                                        intro A y W hy hb d hd K hK
                                        have e5 : y 5 = .pointer (some ⟨g, o + i, none⟩) := by obtain ⟨_, _, _, _, e⟩ := hd ⟨5, .data⟩ (by simp) rfl rfl; exact e
                                        have s199 := (hy 5 _ 199 rfl rfl).trans e5
                                        have s199' := s199
                                        rw [Array.getD_eq_getD_getElem?] at s199'
                                        clear hd hy hb
                                        have q2 := (d.cell (p := ⟨g, o + i, none⟩) (World.block_lt_of_cell? wr _ q)).trans q
                                        go_simp
                                        exact hK.out _ W (stp_of hmo d (Below.refl _ _)) (if_pos rfl)
                                      case o7 =>
                                        intro A y W hy hb d hd K hK
                                        have e1 : y 1 = .slice o1 To.length co := by obtain ⟨_, _, _, _, e⟩ := hd ⟨1, .data⟩ (by simp) rfl rfl; exact e
                                        have e6 : y 6 = .int .i64 x := by obtain ⟨_, _, _, _, e⟩ := hd ⟨6, .data⟩ (by simp) rfl rfl; exact e
                                        have DW := HYB.out.trans (d.mono HYB.out.size)
                                        have s195 := (hy 1 _ 195 rfl rfl).trans e1
                                        have s195' := s195
                                        rw [Array.getD_eq_getD_getElem?] at s195'
                                        have s200 := (hy 6 _ 200 rfl rfl).trans e6
                                        have s200' := s200
                                        rw [Array.getD_eq_getD_getElem?] at s200'
                                        clear hd hy hb
                                        go_simp
                                        go_wp2_with (go_at_call 17; refine (GH.out _ DW).mono ?_; rintro e wa ⟨rfl, da⟩)
                                        exact hK.out _ wa (stp_of hmo d da) (if_pos rfl)
                                      case o8 =>
                                        intro A y W hy hb d hd K hK
                                        have e7 : y 7 = .bool true := by obtain ⟨_, _, _, _, e⟩ := hd ⟨7, .data⟩ (by simp) rfl rfl; exact e
                                        have s201 := (hy 7 _ 201 rfl rfl).trans e7
                                        have s201' := s201
                                        rw [Array.getD_eq_getD_getElem?] at s201'
                                        clear hd hy hb
                                        go_simp
                                        exact hK.out _ W (stp_of hmo d (Below.refl _ _)) (if_pos rfl)
                                      case fin =>
                                        intro y lo hi W hM
                                        show wpList _ _ _ [] _ _
                                        have e0 : y 0 = .pointer (some ⟨w.heap.size, 15, none⟩) := hM.fact 0 (by simp) rfl (notR_all 0 rfl)
                                        have e1 : y 1 = .slice o1 To.length co := hM.fact 1 (by simp) rfl (notR_all 1 rfl)
                                        have e2 : y 2 = .pointer (some ⟨w.heap.size, 13, none⟩) := hM.fact 2 (by simp) rfl (notR_all 2 rfl)
                                        have e3 : y 3 = .slice (some ⟨g, o, none⟩) Wd.length cw := hM.fact 3 (by simp) rfl (notR_all 3 rfl)
                                        have e4 : y 4 = .int .i64 i := hM.fact 4 (by simp) rfl (notR_all 4 rfl)
                                        have e5 : y 5 = .pointer (some ⟨g, o + i, none⟩) := hM.fact 5 (by simp) rfl (notR_all 5 rfl)
                                        have e6 : y 6 = .int .i64 x := hM.fact 6 (by simp) rfl (notR_all 6 rfl)
                                        have e7 : y 7 = .bool true := hM.fact 7 (by simp) rfl (notR_all 7 rfl)
                                        have e8 : y 8 = .bool false := hM.fact 8 (by simp) rfl (notR_all 8 rfl)
                                        have DW := hide (HYB.out.trans (hM.d.mono HYB.out.size))
                                        simp only [fills, Act.put, List.take, List.length, List.setIfInBounds_toArray, List.set_cons_zero, List.set_cons_succ, e0, e1, e2, e3, e4, e5, e6, e7, e8]
                                        clear hM hmo e0 e1 e2 e3 e4 e5 e6 e7 e8
                                        go_wp2_with fail
                                        go_meet
                                        exact ⟨rfl, DW⟩

                                    case rest =>
                                      obtain ⟨rfl, HK⟩ := hcut
                                      rename World => wm
                                      go_wp2_with fail
                                      go_roundw
                                      case rel => exact ⟨i + 1, by omega, by go_num, HK⟩
                                      case measure => simp [intOf]; omega
                                  · have i0 : ¬ (i : Int) < (Wd.length : Int) := by omega
                                    go_wp2_with fail
                                    refine bodyPost_ret (results_tmp rfl _ _ _) rfl ?_
                                    exact ⟨rfl, KE.out _ HYB.out⟩
end Go.Proofs.YtfoahpideglghaaGreatDoor
