import Derived.Test.YtchoopnjckcohaaGreatDoorQax
import Derived.Test.YtchoopnjckcohaaGreatDoorQam
namespace Go.Proofs.YtchoopnjckcohaaGreatDoor
open Go.RowKit Go.Maps Go.Shelf
attribute [local go_sem] Oper.semAt_some

/-! ### The law's some: the states that some lead to -/
def rnd1 (Ed : List EdT) (l : List Int) (k : Nat) : List Int := riseL (l ++ riseL (imgL false Ed l (k : Int)))
def rndK (Ed : List EdT) (l : List Int) (k : Nat) : List Int := (List.range k).foldl (rnd1 Ed) l
def rnds (Ed : List EdT) (m : Nat) : Nat → List Int → List Int
  | 0, l => l
  | i + 1, l => rndK Ed (rnds Ed m i l) m
theorem rndK_next (Ed : List EdT) (l : List Int) (k : Nat) : rndK Ed l (k + 1) = rnd1 Ed (rndK Ed l k) k := by
  unfold rndK
  rw [List.range_succ, List.foldl_append]
  rfl
/-- Rising, and states. -/
def UpN (N : Nat) (l : List Int) : Prop := l.Pairwise (· < ·) ∧ ∀ x ∈ l, 0 ≤ x ∧ x < (N : Int)
theorem up_len : ∀ (l : List Int) (a b : Int), l.Pairwise (· < ·) → (∀ x ∈ l, a ≤ x ∧ x < b) → l.length ≤ (b - a).toNat
  | [], _, _, _, _ => Nat.zero_le _
  | x :: l, a, b, hp, hx => by
    have h1 := hx x (by simp)
    have h2 := up_len l (x + 1) b (List.pairwise_cons.1 hp).2 (fun y hy => ⟨(List.pairwise_cons.1 hp).1 y hy, (hx y (by simp [hy])).2⟩)
    rw [List.length_cons]
    omega
theorem UpN.len {N : Nat} {l : List Int} (h : UpN N l) : l.length ≤ N := by
  have := up_len l 0 N h.1 h.2
  omega
theorem upN_rise {N : Nat} {L : List Int} (h : ∀ x ∈ L, 0 ≤ x ∧ x < (N : Int)) : UpN N (riseL L) := ⟨riseL_ss L, fun x hx => h x ((riseL_iff L x).1 hx)⟩
theorem img_in {N : Nat} {Ed : List EdT} (hE : ∀ e ∈ Ed, 0 ≤ e.2.2 ∧ e.2.2 < (N : Int)) {l : List Int} {k x : Int} (h : x ∈ imgL false Ed l k) : 0 ≤ x ∧ x < (N : Int) := by
  obtain ⟨e, he, _, _, rfl⟩ := imgL_iff.1 h
  exact hE e he
theorem upN_rnd1 {N : Nat} {Ed : List EdT} (hE : ∀ e ∈ Ed, 0 ≤ e.2.2 ∧ e.2.2 < (N : Int)) {l : List Int} (h : UpN N l) (k : Nat) : UpN N (rnd1 Ed l k) := upN_rise fun x hx => by
  rcases List.mem_append.1 hx with hx | hx
  · exact h.2 x hx
  · exact img_in hE ((riseL_iff _ x).1 hx)
theorem upN_rndK {N : Nat} {Ed : List EdT} (hE : ∀ e ∈ Ed, 0 ≤ e.2.2 ∧ e.2.2 < (N : Int)) {l : List Int} (h : UpN N l) (k : Nat) : UpN N (rndK Ed l k) := by
  induction k with
  | zero => exact h
  | succ k ih => rw [rndK_next]; exact upN_rnd1 hE ih k
theorem upN_rnds {N m : Nat} {Ed : List EdT} (hE : ∀ e ∈ Ed, 0 ≤ e.2.2 ∧ e.2.2 < (N : Int)) {l : List Int} (h : UpN N l) (i : Nat) : UpN N (rnds Ed m i l) := by
  induction i with
  | zero => exact h
  | succ i ih => exact upN_rndK hE ih m
/-- A list of one's own. -/
def LO (B : Nat) (w : World) (b : Option Addr) (c : Nat) (l : List Int) : Prop := w.ownsRow B 3 1 (.slice b l.length c) l.length (l.map (Value.int .i64))
theorem own_zero {W : World} {B g : Nat} (h : W.heap[g]? = some (.cells #[] 3 (0, 0))) (hB : B ≤ g) : W.ownsRow B 3 1 (.slice (some ⟨g, 0, none⟩) 0 0) ([] : List Int).length (([] : List Int).map (Value.int .i64)) :=
  ⟨by simp, .inr ⟨g, 0, #[], rfl, hB, h, Nat.le_refl _, Nat.zero_le _, by simp, by simp⟩⟩
set_option maxRecDepth 100000 in
set_option maxHeartbeats 4000000 in
theorem lsome_any (w : World) (N m n1 n2 n3 : Nat) (a1 a2 a3 q1 : Option Addr) (c1 c2 c3 cq : Nat) (St Fi Q : List Int) (Ed : List EdT) (en : Hid (St.length = n1 ∧ Fi.length = n2 ∧ Ed.length = n3)) (hA : Hid (RdA w a1 a2 a3 St Fi Ed)) (hQ : Hid (RdN w q1 Q)) (h3 : n3 ≤ 4194304) (hq : Q.length ≤ 4194304) (hN : N ≤ 4096) (hm : m ≤ 128) (hE : Hid (∀ e ∈ Ed, 0 ≤ e.2.2 ∧ e.2.2 < (N : Int))) (hR : Hid (∀ x ∈ Q, 0 ≤ x ∧ x < (N : Int))) :
    Calls Tryz.prog 14 #[.agg #[.int .i64 (N : Int), .int .i64 (m : Int), .slice a1 n1 c1, .slice a2 n2 c2, .slice a3 n3 c3], .slice q1 Q.length cq, .bool false] w fun e w' => ∃ b c, e = .returned (.slice b (rnds Ed m N (riseL Q)).length c) ∧ Hid (LO w.heap.size w' b c (rnds Ed m N (riseL Q))) ∧ Below w.heap.size w w' := by
  obtain ⟨W0, hW0⟩ : ∃ W0, w.alloc (.cells #[.int .i64 (N : Int), .int .i64 (m : Int), .slice a1 n1 c1, .slice a2 n2 c2, .slice a3 n3 c3] 25) = W0 := ⟨_, rfl⟩
  have HB : Hid (W0.heap[w.heap.size]? = some (.cells #[.int .i64 (N : Int), .int .i64 (m : Int), .slice a1 n1 c1, .slice a2 n2 c2, .slice a3 n3 c3] 25 (0, 0)) ∧ Below w.heap.size w W0 ∧ W0.heap.size = w.heap.size + 1) := hide (by rw [← hW0]; exact ⟨World.alloc_heap_new _ _, (Below.refl _ _).alloc (Nat.le_refl _) _, by simp⟩)
  have HU : Hid (∀ i k, UpN N (rndK Ed (rnds Ed m i (riseL Q)) k)) := hide (fun i k => upN_rndK hE.out (upN_rnds hE.out (upN_rise hR.out) i) k)
  have TS := set_any W0 q1 Q cq (hide (hQ.out.on HB.out.2.1)) hq
  obtain ⟨nq, hnq⟩ : ∃ nq, Q.length = nq := ⟨_, rfl⟩
  rw [hnq] at TS ⊢
  clear hnq hq
  obtain ⟨l0, hl0⟩ : ∃ l0, riseL Q = l0 := ⟨_, rfl⟩
  rw [hl0] at TS HU ⊢
  clear hl0
  have SK : Hid (∀ W, Below W0.heap.size W0 W → W.cell? ⟨w.heap.size, 0, none⟩ = some (.int .i64 (N : Int)) ∧ W.cell? ⟨w.heap.size, 1, none⟩ = some (.int .i64 (m : Int)) ∧ W.cell? ⟨w.heap.size, 2, none⟩ = some (.slice a1 n1 c1) ∧ W.cell? ⟨w.heap.size, 3, none⟩ = some (.slice a2 n2 c2) ∧ W.cell? ⟨w.heap.size, 4, none⟩ = some (.slice a3 n3 c3)) := hide (fun W d => by
    have e := blk_on HB.out.1 d
    exact ⟨cell_of e rfl, cell_of e rfl, cell_of e rfl, cell_of e rfl, cell_of e rfl⟩)
  go_enter Tryz.func14, Tryz.ntmps14
  go_upto_region 2 with (go_at_call 44; refine TS.mono ?_; rintro e w1 ⟨b0, k0, rfl, O1, D1⟩)
  clear TS
  have H1 : Hid (LO w.heap.size w1 b0 k0 l0 ∧ Below W0.heap.size W0 w1) := hide ⟨owns_down O1.out HB.out.2.1.size, D1⟩
  clear O1 D1
  obtain ⟨y0, y1, y2, y3, y4⟩ := SK.out w1 H1.out.2
  go_wp2_with fail
  clear y0 y1 y2 y3 y4
  go_loopw [7, 14] (fun lv iv wr => ∃ (i : Nat) (b : Option Addr) (c : Nat), i ≤ N ∧ lv = .slice b (rnds Ed m i l0).length c ∧ iv = .int .i64 (i : Int) ∧ Hid (LO w.heap.size wr b c (rnds Ed m i l0) ∧ Below W0.heap.size W0 wr)) (fun _ iv _ => N - (intOf iv).toNat)
  case atStart => exact ⟨0, b0, k0, Nat.zero_le _, rfl, rfl, H1⟩
  case round =>
    obtain ⟨i, b, c, hi, rfl, rfl, HY⟩ := hrel
    clear H1
    by_cases hil : i < N
    · have i1 : (i : Int) < (N : Int) := by omega
      obtain ⟨y0, y1, y2, y3, y4⟩ := SK.out wr HY.out.2
      go_wp2_with fail
      clear y0 y1 y2 y3 y4
      rename World => wo
      go_loopw [7, 18] (fun lv kv wr => ∃ (k : Nat) (b : Option Addr) (c : Nat), k ≤ m ∧ lv = .slice b (rndK Ed (rnds Ed m i l0) k).length c ∧ kv = .int .i64 (k : Int) ∧ Hid (LO w.heap.size wr b c (rndK Ed (rnds Ed m i l0) k) ∧ Below W0.heap.size W0 wr)) (fun _ kv _ => m - (intOf kv).toNat)
      case atStart => exact ⟨0, b, c, Nat.zero_le _, rfl, rfl, HY⟩
      case round =>
        obtain ⟨k, b', c', hk, rfl, rfl, HZ⟩ := hrel
        clear HY
        by_cases hkl : k < m
        · have k1 : (k : Int) < (m : Int) := by omega
          have HN1 := hide (HU.out i k).len
          have HK : Hid (rndK Ed (rnds Ed m i l0) (k + 1) = rnd1 Ed (rndK Ed (rnds Ed m i l0) k) k) := hide (rndK_next Ed _ k)
          generalize rndK Ed (rnds Ed m i l0) k = l at HZ HK HN1 ⊢
          obtain ⟨l2, hl2⟩ : ∃ l2, rndK Ed (rnds Ed m i l0) (k + 1) = l2 := ⟨_, rfl⟩
          rw [hl2] at HK
          have HL2 := hide hl2
          clear hl2
          obtain ⟨y0, y1, y2, y3, y4⟩ := SK.out wr HZ.out.2
          have DW : Hid (Below w.heap.size w wr) := hide (HB.out.2.1.trans (HZ.out.2.mono HB.out.2.1.size))
          have TN := rnext_any wr (N : Int) (m : Int) a1 a2 a3 b' c1 c2 c3 c' St Fi Ed l (k : Int) (hide (hA.out.on DW.out)) (hide (own_rdN HZ.out.1)) (by have := en.out.2.2; omega) (by have := HN1.out; omega)
          rw [en.out.1, en.out.2.1, en.out.2.2] at TN
          have HI : Hid ((riseL (imgL false Ed l (k : Int))).length ≤ N) := hide (upN_rise (fun x hx => img_in hE.out hx)).len
          have HK2 : Hid (riseL (l ++ riseL (imgL false Ed l (k : Int))) = l2) := hide HK.out.symm
          generalize riseL (imgL false Ed l (k : Int)) = mm at TN HI HK2
          go_upto_region 8 with (go_at_call 45; refine TN.mono ?_; rintro e w5 ⟨b5, k5, rfl, O5, D5⟩; have H5 := hide (And.intro O5.out D5); clear O5 D5)
          clear TN y0 y1 y2 y3 y4
          obtain ⟨W6, hW6⟩ : ∃ W, w5.alloc (.cells #[] 3) = W := ⟨_, rfl⟩
          have H6 : Hid (W6.heap[w5.heap.size]? = some (.cells #[] 3 (0, 0)) ∧ Below w5.heap.size w5 W6 ∧ W6.heap.size = w5.heap.size + 1) := hide (by rw [← hW6]; exact ⟨World.alloc_heap_new _ _, (Below.refl _ _).alloc (Nat.le_refl _) _, by simp⟩)
          have O6 := own_zero H6.out.1 (Nat.le_refl _)
          have R6 : RdN W6 b' l := (own_rdN HZ.out.1).on (H5.out.2.trans (H6.out.2.1.mono H5.out.2.size))
          have zb : b' = none → c' = 0 := fun e => none_zero HZ.out.1 e
          have zm : b5 = none → k5 = 0 := fun e => none_zero H5.out.1 e
          have HR := hide (And.intro O6 (And.intro R6 (And.intro zb zm)))
          clear O6 R6 zb zm
          obtain ⟨ll, hll⟩ : ∃ ll, l ++ mm = ll := ⟨_, rfl⟩
          have HLL := hide hll
          have HLn : Hid (ll.length ≤ 8192) := hide (by rw [← hll, List.length_append]; have := HN1.out; have := HI.out; omega)
          rw [hll] at HK2
          clear hll
          go_wp2_with (first
            | (go_at_call 44; refine (set_any w8 z8 ll d8 (hide (own_rdN HO8.out)) (by have := HLn.out; omega)).mono ?_; rintro e w9 ⟨b9, k9, rfl, O9, D9⟩; have H9 := hide (And.intro O9.out D9); clear O9 D9)
            | (at_builtin; refine wpList_appL rfl _ _ rfl w5.heap.size (.slice (some ⟨w5.heap.size, 0, none⟩) 0 0) [] rfl HR.out.1 b' l.length c' l rfl HR.out.2.2.1 rfl HR.out.2.1 (by have := HN1.out; simp; omega) (by have := H6.out.2.2; omega) ?_; intro v7 w7 HO7 HG7; rw [List.nil_append] at HO7; obtain ⟨z7, d7, e7⟩ := own_slice HO7.out; subst e7; have D7 : Hid (Below w5.heap.size w5 w7) := hide (H6.out.2.1.trans (HG7.out.toBelow H6.out.2.1.size (fun k hk => (HR.out.1.lt k hk).1))))
            | (at_builtin; refine wpList_appL rfl _ _ rfl w5.heap.size (.slice z7 l.length d7) l rfl HO7.out b5 mm.length k5 mm rfl HR.out.2.2.2 rfl ((own_rdN H5.out.1).on D7.out) (by have := HN1.out; have := HI.out; omega) D7.out.size ?_; intro v8 w8 HO8 HG8; rw [HLL.out] at HO8; obtain ⟨z8, d8, e8⟩ := own_slice HO8.out; subst e8; have D8 : Hid (Below w5.heap.size w5 w8) := hide (D7.out.trans (HG8.out.toBelow D7.out.size (fun k hk => (HO7.out.lt k hk).1))))
            | fail)
          rw [HK2.out] at H9
          go_roundw
          case rel =>
            have q9 := D8.out.trans (H9.out.2.mono D8.out.size)
            have qq := H5.out.2.trans (q9.mono H5.out.2.size)
            exact ⟨k + 1, b9, k9, by omega, by rw [HK2.out, HL2.out], by go_num, hide ⟨by rw [HL2.out]; exact owns_down H9.out.1 (Nat.le_trans DW.out.size (Nat.le_trans H5.out.2.size D8.out.size)), HZ.out.2.trans (qq.mono HZ.out.2.size)⟩⟩
          case measure => simp [intOf]; omega
        · have k1 : ¬ (k : Int) < (m : Int) := by omega
          obtain rfl : k = m := by omega
          go_wp2_with fail
          go_roundw
          case rel => exact ⟨i + 1, b', c', by omega, rfl, by go_num, HZ⟩
          case measure => simp [intOf]; omega
    · have i1 : ¬ (i : Int) < (N : Int) := by omega
      obtain rfl : i = N := by omega
      go_wp2_with fail
      go_ret
      exact ⟨b, c, rfl, hide HY.out.1, HB.out.2.1.trans (HY.out.2.mono HB.out.2.1.size)⟩
end Go.Proofs.YtchoopnjckcohaaGreatDoor
namespace Go.Proofs.YtchoopnjckcohaaGreatDoor
open Go.RowKit Go.Maps Go.Shelf
attribute [local go_sem] Oper.semAt_some

/-! ### The law's some2: is some word taken? -/
def loP (L : List Int) : MkP := fun x _ _ W => ∃ b c, x = .slice b L.length c ∧ LO 0 W b c L
theorem loP_mono {L : List Int} : MonoP (loP L) := fun _ _ _ _ _ _ d ⟨b, c, e, h⟩ => ⟨b, c, e, own_below h d⟩
set_option maxRecDepth 100000 in
set_option maxHeartbeats 4000000 in
theorem lsome2_any (w : World) (N m n1 n2 n3 : Nat) (a1 a2 a3 : Option Addr) (c1 c2 c3 : Nat) (St Fi : List Int) (Ed : List EdT) (en : Hid (St.length = n1 ∧ Fi.length = n2 ∧ Ed.length = n3)) (hA : Hid (RdA w a1 a2 a3 St Fi Ed)) (h1 : n1 ≤ 4194304) (h2 : n2 ≤ 4194304) (h3 : n3 ≤ 4194304) (hN : N ≤ 4096) (hm : m ≤ 128) (hE : Hid (∀ e ∈ Ed, 0 ≤ e.2.2 ∧ e.2.2 < (N : Int))) (hR : Hid (∀ x ∈ St, 0 ≤ x ∧ x < (N : Int))) :
    Calls Tryz.prog 15 #[.agg #[.int .i64 (N : Int), .int .i64 (m : Int), .slice a1 n1 c1, .slice a2 n2 c2, .slice a3 n3 c3]] w fun e w' => e = .returned (.bool ((rnds Ed m N (riseL St)).any fun x => decide (x ∈ riseL Fi))) ∧ Below w.heap.size w w' := by
  obtain ⟨W0, hW0⟩ : ∃ W0, w.alloc (.cells #[.int .i64 (N : Int), .int .i64 (m : Int), .slice a1 n1 c1, .slice a2 n2 c2, .slice a3 n3 c3] 25) = W0 := ⟨_, rfl⟩
  have HB : Hid (W0.heap[w.heap.size]? = some (.cells #[.int .i64 (N : Int), .int .i64 (m : Int), .slice a1 n1 c1, .slice a2 n2 c2, .slice a3 n3 c3] 25 (0, 0)) ∧ Below w.heap.size w W0 ∧ W0.heap.size = w.heap.size + 1) := hide (by rw [← hW0]; exact ⟨World.alloc_heap_new _ _, (Below.refl _ _).alloc (Nat.le_refl _) _, by simp⟩)
  have KR : Hid (∀ W, Below W0.heap.size W0 W → RdA W a1 a2 a3 St Fi Ed) := hide (fun W d => (hA.out.on HB.out.2.1).on d)
  have HU : Hid ((rnds Ed m N (riseL St)).length ≤ N ∧ (riseL Fi).length ≤ 4194304) := hide ⟨(upN_rnds hE.out (upN_rise hR.out) N).len, Nat.le_trans (riseL_len Fi) (by rw [en.out.2.1]; exact h2)⟩
  have T3 : Hid (∀ W, Below W0.heap.size W0 W → Calls Tryz.prog 14 #[.agg #[.int .i64 (N : Int), .int .i64 (m : Int), .slice a1 n1 c1, .slice a2 n2 c2, .slice a3 n3 c3], .slice a1 n1 c1, .bool false] W fun e w' => ∃ b c, e = .returned (.slice b (rnds Ed m N (riseL St)).length c) ∧ Hid (LO W.heap.size w' b c (rnds Ed m N (riseL St))) ∧ Below W.heap.size W w') := hide (fun W d => by
    have q := lsome_any W N m n1 n2 n3 a1 a2 a3 a1 c1 c2 c3 c1 St Fi St Ed en (hide (KR.out W d)) (hide (KR.out W d).s) h3 (by rw [en.out.1]; exact h1) hN hm hE hR
    rwa [en.out.1] at q)
  have T6 : Hid (∀ W, Below W0.heap.size W0 W → Calls Tryz.prog 44 #[.slice a2 n2 c2] W fun e w' => ∃ b c, e = .returned (.slice b (riseL Fi).length c) ∧ Hid (w'.ownsRow W.heap.size 3 1 (.slice b (riseL Fi).length c) (riseL Fi).length ((riseL Fi).map (Value.int .i64))) ∧ Below W.heap.size W w') := hide (fun W d => by
    have q := set_any W a2 Fi c2 (hide (KR.out W d).f) (by rw [en.out.2.1]; exact h2)
    rwa [en.out.2.1] at q)
  generalize rnds Ed m N (riseL St) = L1 at *
  generalize riseL Fi = L2 at *
  obtain ⟨rr, hrr⟩ : ∃ rr, (L1.any fun x => decide (x ∈ L2)) = rr := ⟨_, rfl⟩
  have T7 : Hid (∀ W b3 k3 b6 k6, LO 0 W b3 k3 L1 → LO 0 W b6 k6 L2 → Calls Tryz.prog 47 #[.slice b3 L1.length k3, .slice b6 L2.length k6] W fun e w' => e = .returned (.bool rr) ∧ w' = W) := hide (fun W b3 k3 b6 k6 h3 h6 => by
    have q := meets18 W b3 b6 L1 L2 k3 k6 (hide (own_rdN h3)) (hide (own_rdN h6)) (by have := HU.out.1; omega) HU.out.2
    rwa [hrr] at q)
  rw [hrr]
  clear hrr
  go_enter Tryz.func15, Tryz.ntmps15
  go_upto_region 1 with fail
  have hmo : MonIL 0 [vI 0 (.agg #[.int .i64 (N : Int), .int .i64 (m : Int), .slice a1 n1 c1, .slice a2 n2 c2, .slice a3 n3 c3]), vI 1 (.pointer (some ⟨w.heap.size, 2, none⟩)), vI 2 (.slice a1 n1 c1), pI 3 (loP L1), vI 4 (.pointer (some ⟨w.heap.size, 3, none⟩)), vI 5 (.slice a2 n2 c2), pI 6 (loP L2), vI 7 (.bool rr)] := ⟨vI_mono _ _, vI_mono _ _, vI_mono _ _, pI_mono loP_mono, vI_mono _ _, vI_mono _ _, pI_mono loP_mono, vI_mono _ _, trivial⟩
  refine wp_region_sl [vI 0 (.agg #[.int .i64 (N : Int), .int .i64 (m : Int), .slice a1 n1 c1, .slice a2 n2 c2, .slice a3 n3 c3]), vI 1 (.pointer (some ⟨w.heap.size, 2, none⟩)), vI 2 (.slice a1 n1 c1), pI 3 (loP L1), vI 4 (.pointer (some ⟨w.heap.size, 3, none⟩)), vI 5 (.slice a2 n2 c2), pI 6 (loP L2), vI 7 (.bool rr)] (by kernel_rfl) (by kernel_rfl) (by kernel_rfl) (by kernel_rfl) hmo ⟨?o0, ?o1, ?o2, ?o3, ?o4, ?o5, ?o6, ?o7, trivial⟩ ?fin
  case o0 =>
    intro At yy W hy hb d hd K hK
    have s1 : At.tmps.getD 1 undef = .pointer (some ⟨w.heap.size, 0, none⟩) := hb 1 rfl
    have s1' := s1
    rw [Array.getD_eq_getD_getElem?] at s1'
    clear hd hy hb
    have bx := blk_on HB.out.1 d
    have y0 : W.cell? ⟨w.heap.size, 0, none⟩ = some (.int .i64 (N : Int)) := cell_of bx rfl
    have y1 : W.cell? ⟨w.heap.size, 1, none⟩ = some (.int .i64 (m : Int)) := cell_of bx rfl
    have y2 : W.cell? ⟨w.heap.size, 2, none⟩ = some (.slice a1 n1 c1) := cell_of bx rfl
    have y3 : W.cell? ⟨w.heap.size, 3, none⟩ = some (.slice a2 n2 c2) := cell_of bx rfl
    have y4 : W.cell? ⟨w.heap.size, 4, none⟩ = some (.slice a3 n3 c3) := cell_of bx rfl
    clear bx
    go_simp
    exact hK.out _ W (stp_of hmo d (Below.refl _ _)) (if_pos rfl)
  case o1 =>
    intro At yy W hy hb d hd K hK
    have s1 : At.tmps.getD 1 undef = .pointer (some ⟨w.heap.size, 0, none⟩) := hb 1 rfl
    have s1' := s1
    rw [Array.getD_eq_getD_getElem?] at s1'
    clear hd hy hb
    go_simp
    exact hK.out _ W (stp_of hmo d (Below.refl _ _)) (if_pos rfl)
  case o2 =>
    intro At yy W hy hb d hd K hK
    have e1 : yy 1 = .pointer (some ⟨w.heap.size, 2, none⟩) := by obtain ⟨_, _, _, _, e⟩ := hd ⟨1, .data⟩ (by simp) rfl rfl; exact e
    have s4 := (hy 1 _ 4 rfl rfl).trans e1
    have s4' := s4
    rw [Array.getD_eq_getD_getElem?] at s4'
    clear hd hy hb
    have bx := blk_on HB.out.1 d
    have y0 : W.cell? ⟨w.heap.size, 0, none⟩ = some (.int .i64 (N : Int)) := cell_of bx rfl
    have y1 : W.cell? ⟨w.heap.size, 1, none⟩ = some (.int .i64 (m : Int)) := cell_of bx rfl
    have y2 : W.cell? ⟨w.heap.size, 2, none⟩ = some (.slice a1 n1 c1) := cell_of bx rfl
    have y3 : W.cell? ⟨w.heap.size, 3, none⟩ = some (.slice a2 n2 c2) := cell_of bx rfl
    have y4 : W.cell? ⟨w.heap.size, 4, none⟩ = some (.slice a3 n3 c3) := cell_of bx rfl
    clear bx
    go_simp
    exact hK.out _ W (stp_of hmo d (Below.refl _ _)) (if_pos rfl)
  case o3 =>
    intro At yy W hy hb d hd K hK
    have e0 : yy 0 = .agg #[.int .i64 (N : Int), .int .i64 (m : Int), .slice a1 n1 c1, .slice a2 n2 c2, .slice a3 n3 c3] := by obtain ⟨_, _, _, _, e⟩ := hd ⟨0, .data⟩ (by simp) rfl rfl; exact e
    have e2 : yy 2 = .slice a1 n1 c1 := by obtain ⟨_, _, _, _, e⟩ := hd ⟨2, .data⟩ (by simp) rfl rfl; exact e
    have s3 := (hy 0 _ 3 rfl rfl).trans e0
    have s3' := s3
    rw [Array.getD_eq_getD_getElem?] at s3'
    have s5 := (hy 2 _ 5 rfl rfl).trans e2
    have s5' := s5
    rw [Array.getD_eq_getD_getElem?] at s5'
    clear hd hy hb
    go_simp
    go_wp2_with (go_at_call 14; refine (T3.out _ d).mono ?_; rintro e wa ⟨b, c, rfl, hR, da⟩)
    exact hK.out _ wa (stp_of hmo d da) ⟨b, c, if_pos rfl, owns_down hR.out (Nat.zero_le _)⟩
  case o4 =>
    intro At yy W hy hb d hd K hK
    have s1 : At.tmps.getD 1 undef = .pointer (some ⟨w.heap.size, 0, none⟩) := hb 1 rfl
    have s1' := s1
    rw [Array.getD_eq_getD_getElem?] at s1'
    clear hd hy hb
    go_simp
    exact hK.out _ W (stp_of hmo d (Below.refl _ _)) (if_pos rfl)
  case o5 =>
    intro At yy W hy hb d hd K hK
    have e4 : yy 4 = .pointer (some ⟨w.heap.size, 3, none⟩) := by obtain ⟨_, _, _, _, e⟩ := hd ⟨4, .data⟩ (by simp) rfl rfl; exact e
    have s7 := (hy 4 _ 7 rfl rfl).trans e4
    have s7' := s7
    rw [Array.getD_eq_getD_getElem?] at s7'
    clear hd hy hb
    have bx := blk_on HB.out.1 d
    have y0 : W.cell? ⟨w.heap.size, 0, none⟩ = some (.int .i64 (N : Int)) := cell_of bx rfl
    have y1 : W.cell? ⟨w.heap.size, 1, none⟩ = some (.int .i64 (m : Int)) := cell_of bx rfl
    have y2 : W.cell? ⟨w.heap.size, 2, none⟩ = some (.slice a1 n1 c1) := cell_of bx rfl
    have y3 : W.cell? ⟨w.heap.size, 3, none⟩ = some (.slice a2 n2 c2) := cell_of bx rfl
    have y4 : W.cell? ⟨w.heap.size, 4, none⟩ = some (.slice a3 n3 c3) := cell_of bx rfl
    clear bx
    go_simp
    exact hK.out _ W (stp_of hmo d (Below.refl _ _)) (if_pos rfl)
  case o6 =>
    intro At yy W hy hb d hd K hK
    have e5 : yy 5 = .slice a2 n2 c2 := by obtain ⟨_, _, _, _, e⟩ := hd ⟨5, .data⟩ (by simp) rfl rfl; exact e
    have s8 := (hy 5 _ 8 rfl rfl).trans e5
    have s8' := s8
    rw [Array.getD_eq_getD_getElem?] at s8'
    clear hd hy hb
    go_simp
    go_wp2_with (go_at_call 44; refine (T6.out _ d).mono ?_; rintro e wa ⟨b, c, rfl, hR, da⟩)
    exact hK.out _ wa (stp_of hmo d da) ⟨b, c, if_pos rfl, owns_down hR.out (Nat.zero_le _)⟩
  case o7 =>
    intro At yy W hy hb d hd K hK
    have f3 := hd ⟨3, .data⟩ (by simp) rfl rfl
    have f6 := hd ⟨6, .data⟩ (by simp) rfl rfl
    obtain ⟨_, _, _, _, b3, k3, e3, h3⟩ := f3
    obtain ⟨_, _, _, _, b6, k6, e6, h6⟩ := f6
    have s6 := (hy 3 _ 6 rfl rfl).trans e3
    have s6' := s6
    rw [Array.getD_eq_getD_getElem?] at s6'
    have s9 := (hy 6 _ 9 rfl rfl).trans e6
    have s9' := s9
    rw [Array.getD_eq_getD_getElem?] at s9'
    clear hd hy hb
    go_simp
    go_wp2_with (go_at_call 47; refine (T7.out W b3 k3 b6 k6 h3 h6).mono ?_; rintro e wa ⟨rfl, rfl⟩)
    exact hK.out _ _ (stp_of hmo d (Below.refl _ _)) (if_pos rfl)
  case fin =>
    intro yy lo hi W hM
    show wpList _ _ _ [_] _ _
    have e0 : yy 0 = .agg #[.int .i64 (N : Int), .int .i64 (m : Int), .slice a1 n1 c1, .slice a2 n2 c2, .slice a3 n3 c3] := hM.fact 0 (by simp) rfl (notR_all 0 rfl)
    have e1 : yy 1 = .pointer (some ⟨w.heap.size, 2, none⟩) := hM.fact 1 (by simp) rfl (notR_all 1 rfl)
    have e2 : yy 2 = .slice a1 n1 c1 := hM.fact 2 (by simp) rfl (notR_all 2 rfl)
    have e4 : yy 4 = .pointer (some ⟨w.heap.size, 3, none⟩) := hM.fact 4 (by simp) rfl (notR_all 4 rfl)
    have e5 : yy 5 = .slice a2 n2 c2 := hM.fact 5 (by simp) rfl (notR_all 5 rfl)
    have e7 : yy 7 = .bool rr := hM.fact 7 (by simp) rfl (notR_all 7 rfl)
    obtain ⟨b3, k3, e3, _⟩ := hM.fact 3 (by simp) rfl (notR_all 3 rfl)
    obtain ⟨b6, k6, e6, _⟩ := hM.fact 6 (by simp) rfl (notR_all 6 rfl)
    have HDD := hide hM.d
    simp only [fills, Act.put, List.take, List.length, List.setIfInBounds_toArray, List.set_cons_zero, List.set_cons_succ, e0, e1, e2, e4, e5, e7, e3, e6]
    clear hM hmo e0 e1 e2 e4 e5 e7 e3 e6
    go_wp2_with fail
    go_ret
    exact ⟨rfl, HB.out.2.1.trans (HDD.out.mono HB.out.2.1.size)⟩
end Go.Proofs.YtchoopnjckcohaaGreatDoor
namespace Go.Proofs.YtchoopnjckcohaaGreatDoor
open Go.RowKit Go.Maps

/-! ### What BuildEnds asks, of lists -/
theorem aftL_iff {Ed : List EdT} : ∀ (Wd S : List Int) (x : Int), x ∈ aftL Ed S Wd ↔ ∃ p ∈ S, Rch Ed Wd p x
  | [], S, x => ⟨fun h => ⟨x, h, rfl⟩, fun ⟨p, h, e⟩ => by cases e; exact h⟩
  | y :: W, S, x => by
    show x ∈ aftL Ed (riseL (imgL false Ed S y)) W ↔ _
    rw [aftL_iff W]
    constructor
    · rintro ⟨p, hp, h⟩
      obtain ⟨e, he, rfl, hs, rfl⟩ := imgL_iff.1 ((riseL_iff _ p).1 hp)
      exact ⟨e.1, hs, e.2.2, he, h⟩
    · rintro ⟨p, hp, r, he, h⟩
      exact ⟨r, (riseL_iff _ r).2 (imgL_iff.2 ⟨(p, y, r), he, rfl, hp, rfl⟩), h⟩
theorem tkF_iff {n m : Int} {St Fi : List Int} {Ed : List EdT} {Wd : List Int} : tkF n m St Fi Ed Wd = true ↔ mayA n m St Fi Ed = true ∧ Wd.all (inB m) = true ∧ Tak St Fi Ed Wd := by
  unfold tkF accA aftA
  by_cases e : wordErr n m St Fi Ed Wd = 0
  · rw [if_pos e]
    obtain ⟨h1, h2⟩ := wordErr_zero e
    simp only [decide_true, Bool.and_true, List.any_eq_true, decide_eq_true_eq]
    constructor
    · rintro ⟨x, hx, hf⟩
      obtain ⟨p, hp, hr⟩ := (aftL_iff Wd _ x).1 hx
      exact ⟨h1, h2, p, (riseL_iff St p).1 hp, x, hf, hr⟩
    · rintro ⟨_, _, p, hp, q, hq, hr⟩
      exact ⟨q, (aftL_iff Wd _ q).2 ⟨p, (riseL_iff St p).2 hp, hr⟩, hq⟩
  · rw [if_neg e]
    simp only [List.any_nil, Bool.false_and]
    exact ⟨fun h => (by cases h), fun ⟨h1, h2, _⟩ => absurd (wordErr_iff.2 ⟨h1, h2⟩) e⟩
/-! some -/
theorem rnd1_iff {Ed : List EdT} {l : List Int} {k : Nat} {x : Int} : x ∈ rnd1 Ed l k ↔ x ∈ l ∨ ∃ e ∈ Ed, e.2.1 = (k : Int) ∧ e.1 ∈ l ∧ e.2.2 = x := by
  unfold rnd1
  rw [riseL_iff, List.mem_append, riseL_iff, imgL_iff]
  rfl
theorem rndK_old {Ed : List EdT} {l : List Int} {x : Int} (h : x ∈ l) (k : Nat) : x ∈ rndK Ed l k := by
  induction k with
  | zero => exact h
  | succ k ih => rw [rndK_next, rnd1_iff]; exact .inl ih
theorem rndK_step {Ed : List EdT} {l : List Int} {e : EdT} (he : e ∈ Ed) (hl : e.1 ∈ l) {k j : Nat} (hs : e.2.1 = (j : Int)) (hj : j < k) : e.2.2 ∈ rndK Ed l k := by
  induction k with
  | zero => omega
  | succ k ih =>
    rw [rndK_next, rnd1_iff]
    by_cases h : j < k
    · exact .inl (ih h)
    · have : j = k := by omega
      exact .inr ⟨e, he, by rw [hs, this], rndK_old hl k, rfl⟩
theorem rndK_from {Ed : List EdT} {Q l : List Int} (hl : ∀ x ∈ l, ∃ p ∈ Q, ∃ W, Rch Ed W p x) (k : Nat) : ∀ x ∈ rndK Ed l k, ∃ p ∈ Q, ∃ W, Rch Ed W p x := by
  induction k with
  | zero => exact hl
  | succ k ih =>
    intro x hx
    rw [rndK_next, rnd1_iff] at hx
    rcases hx with hx | ⟨e, he, _, h1, rfl⟩
    · exact ih x hx
    · obtain ⟨p, hp, W, hr⟩ := ih _ h1
      exact ⟨p, hp, W ++ [e.2.1], (rch_app W [e.2.1] p e.2.2).2 ⟨e.1, hr, e.2.2, he, rfl⟩⟩
theorem rnds_from {Ed : List EdT} {m : Nat} {Q : List Int} (i : Nat) : ∀ x ∈ rnds Ed m i (riseL Q), ∃ p ∈ Q, ∃ W, Rch Ed W p x := by
  induction i with
  | zero => exact fun x hx => ⟨x, (riseL_iff Q x).1 hx, [], rfl⟩
  | succ i ih => exact rndK_from ih m
/-- A rising list that lies in another of its length is it. -/
theorem up_same : ∀ (A B : List Int), A.Pairwise (· < ·) → B.Pairwise (· < ·) → (∀ x ∈ A, x ∈ B) → B.length ≤ A.length → A = B
  | [], [], _, _, _, _ => rfl
  | [], b :: B, _, _, _, h => by simp at h
  | a :: A, [], _, _, hs, _ => by have := hs a (by simp); simp at this
  | a :: A, b :: B, hA, hB, hs, hl => by
    have hA' := List.pairwise_cons.1 hA
    have hB' := List.pairwise_cons.1 hB
    have hab : b ≤ a := by
      rcases List.mem_cons.1 (hs a (by simp)) with h | h
      · omega
      · have := hB'.1 a h; omega
    have sub : ∀ x ∈ A, x ∈ B := fun x hx => by
      rcases List.mem_cons.1 (hs x (by simp [hx])) with h | h
      · have := hA'.1 x hx; omega
      · exact h
    have e := up_same A B hA'.2 hB'.2 sub (by simpa using hl)
    subst e
    rcases List.mem_cons.1 (hs a (by simp)) with h | h
    · rw [h]
    · have := hA'.1 a h; omega
theorem up_sub : ∀ (A B : List Int), A.Pairwise (· < ·) → B.Pairwise (· < ·) → (∀ x ∈ A, x ∈ B) → A.length ≤ B.length
  | [], _, _, _, _ => Nat.zero_le _
  | a :: A, [], _, _, hs => by have := hs a (by simp); simp at this
  | a :: A, b :: B, hA, hB, hs => by
    have hA' := List.pairwise_cons.1 hA
    have hB' := List.pairwise_cons.1 hB
    have hab : b ≤ a := by
      rcases List.mem_cons.1 (hs a (by simp)) with h | h
      · omega
      · have := hB'.1 a h; omega
    have sub : ∀ x ∈ A, x ∈ B := fun x hx => by
      rcases List.mem_cons.1 (hs x (by simp [hx])) with h | h
      · have := hA'.1 x hx; omega
      · exact h
    have := up_sub A B hA'.2 hB'.2 sub
    simp only [List.length_cons]
    omega
theorem rnds_grow {N m : Nat} {Ed : List EdT} (hE : ∀ e ∈ Ed, 0 ≤ e.2.2 ∧ e.2.2 < (N : Int)) {l : List Int} (h : UpN N l) (i : Nat) : rndK Ed (rnds Ed m i l) m = rnds Ed m i l ∨ i ≤ (rnds Ed m i l).length := by
  induction i with
  | zero => exact .inr (Nat.zero_le _)
  | succ i ih =>
    have u1 := upN_rnds (m := m) hE h i
    have u2 := upN_rnds (m := m) hE h (i + 1)
    have sub : ∀ x ∈ rnds Ed m i l, x ∈ rnds Ed m (i + 1) l := fun x hx => rndK_old hx m
    have le := up_sub _ _ u1.1 u2.1 sub
    by_cases hle : (rnds Ed m (i + 1) l).length ≤ (rnds Ed m i l).length
    · have e := up_same _ _ u1.1 u2.1 sub hle
      refine .inl ?_
      have e2 : rndK Ed (rnds Ed m i l) m = rnds Ed m i l := e.symm
      show rndK Ed (rndK Ed (rnds Ed m i l) m) m = rndK Ed (rnds Ed m i l) m
      rw [e2, e2]
    · rcases ih with ih | ih
      · have : rnds Ed m (i + 1) l = rnds Ed m i l := ih
        rw [this] at hle
        omega
      · exact .inr (by omega)
theorem rnds_fix {N m : Nat} {Ed : List EdT} (hE : ∀ e ∈ Ed, 0 ≤ e.2.2 ∧ e.2.2 < (N : Int)) {l : List Int} (h : UpN N l) : rndK Ed (rnds Ed m N l) m = rnds Ed m N l := by
  rcases rnds_grow (m := m) hE h N with e | e
  · exact e
  · have u1 := upN_rnds (m := m) hE h N
    have u2 := upN_rnds (m := m) hE h (N + 1)
    exact (up_same _ _ u1.1 u2.1 (fun x hx => rndK_old hx m) (Nat.le_trans u2.len e)).symm
theorem rnds_iff {N m : Nat} {Ed : List EdT} (hE : ∀ e ∈ Ed, 0 ≤ e.2.2 ∧ e.2.2 < (N : Int)) (hY : ∀ e ∈ Ed, 0 ≤ e.2.1 ∧ e.2.1 < (m : Int)) {Q : List Int} (hQ : ∀ x ∈ Q, 0 ≤ x ∧ x < (N : Int)) (x : Int) : x ∈ rnds Ed m N (riseL Q) ↔ ∃ p ∈ Q, ∃ W, Rch Ed W p x := by
  refine ⟨rnds_from N x, fun ⟨p, hp, W, hr⟩ => ?_⟩
  have fx := rnds_fix (m := m) hE (upN_rise hQ)
  have h0 : p ∈ rnds Ed m N (riseL Q) := by
    have : ∀ i, p ∈ rnds Ed m i (riseL Q) := fun i => by
      induction i with
      | zero => exact (riseL_iff Q p).2 hp
      | succ i ih => exact rndK_old ih m
    exact this N
  clear hp
  induction W generalizing p with
  | nil => cases hr; exact h0
  | cons y W ih =>
    obtain ⟨r, he, hr⟩ := hr
    refine ih r hr ?_
    have hy := hY _ he
    simp only at hy
    rw [← fx]
    exact rndK_step (e := (p, y, r)) he h0 (j := y.toNat) (by simp only; omega) (by omega)
/-! Reach and Coreach -/
theorem wlk_fwd {Ed : List EdT} {S : List Int} : ∀ (k q : Nat), Wlk (fun q => (q : Int) ∈ S) (stepE false Ed) k q → ∃ p ∈ S, ∃ W, Rch Ed W p (q : Int)
  | 0, q, h => ⟨q, h, [], rfl⟩
  | k + 1, q, ⟨p, h, e, he, hp⟩ => by
    obtain ⟨s, hs, W, hr⟩ := wlk_fwd k p h
    have h1 : e.1 = (p : Int) := congrArg Prod.fst hp
    have h2 : e.2.2 = (q : Int) := congrArg Prod.snd hp
    exact ⟨s, hs, W ++ [e.2.1], (rch_app W [e.2.1] s q).2 ⟨p, hr, q, by rw [← h1, ← h2]; exact he, rfl⟩⟩
theorem wlk_bwd {Ed : List EdT} {F : List Int} : ∀ (k q : Nat), Wlk (fun q => (q : Int) ∈ F) (stepE true Ed) k q → ∃ f ∈ F, ∃ W, Rch Ed W (q : Int) f
  | 0, q, h => ⟨q, h, [], rfl⟩
  | k + 1, q, ⟨p, h, e, he, hp⟩ => by
    obtain ⟨f, hf, W, hr⟩ := wlk_bwd k p h
    have h1 : e.2.2 = (p : Int) := congrArg Prod.fst hp
    have h2 : e.1 = (q : Int) := congrArg Prod.snd hp
    exact ⟨f, hf, e.2.1 :: W, p, by rw [← h1, ← h2]; exact he, hr⟩
theorem rch_wlk_fwd {N : Nat} {Ed : List EdT} (hE : ∀ e ∈ Ed, 0 ≤ e.2.2 ∧ e.2.2 < (N : Int)) {S : List Int} : ∀ (W : List Int) (p q k : Nat), Wlk (fun q => (q : Int) ∈ S) (stepE false Ed) k p → Rch Ed W (p : Int) (q : Int) → ∃ k, Wlk (fun q => (q : Int) ∈ S) (stepE false Ed) k q
  | [], p, q, k, h, e => by
    have e' : (p : Int) = (q : Int) := e
    have : p = q := by omega
    subst this
    exact ⟨k, h⟩
  | y :: W, p, q, k, h, ⟨r, he, hr⟩ => by
    have hb := hE _ he
    obtain ⟨r', rfl⟩ : ∃ r' : Nat, r = (r' : Int) := ⟨r.toNat, by simp only at hb; omega⟩
    exact rch_wlk_fwd hE W r' q (k + 1) ⟨p, h, _, he, rfl⟩ hr
theorem rch_wlk_bwd {N : Nat} {Ed : List EdT} (hE : ∀ e ∈ Ed, 0 ≤ e.2.2 ∧ e.2.2 < (N : Int)) {F : List Int} : ∀ (W : List Int) (q : Nat) (f : Int), f ∈ F → Rch Ed W (q : Int) f → ∃ k, Wlk (fun q => (q : Int) ∈ F) (stepE true Ed) k q
  | [], q, f, hf, e => by
    have e' : (q : Int) = f := e
    exact ⟨0, by show (q : Int) ∈ F; rw [e']; exact hf⟩
  | y :: W, q, f, hf, ⟨r, he, hr⟩ => by
    have hb := hE _ he
    obtain ⟨r', rfl⟩ : ∃ r' : Nat, r = (r' : Int) := ⟨r.toNat, by simp only at hb; omega⟩
    obtain ⟨k, hk⟩ := rch_wlk_bwd hE W r' f hf hr
    exact ⟨k + 1, r', hk, _, he, rfl⟩
theorem maskL_iff {N : Nat} {M : Nat → Bool} {x : Int} : x ∈ maskL N M ↔ ∃ q : Nat, q < N ∧ M q = true ∧ x = (q : Int) := by
  unfold maskL natL
  simp only [List.mem_map, List.mem_filter, List.mem_range]
  exact ⟨fun ⟨q, ⟨h1, h2⟩, h3⟩ => ⟨q, h1, h2, h3.symm⟩, fun ⟨q, h1, h2, h3⟩ => ⟨q, ⟨h1, h2⟩, h3.symm⟩⟩
theorem rch_in {N : Nat} {Ed : List EdT} (hE : ∀ e ∈ Ed, 0 ≤ e.2.2 ∧ e.2.2 < (N : Int)) : ∀ (W : List Int) (p q : Int), (0 ≤ p ∧ p < (N : Int)) → Rch Ed W p q → 0 ≤ q ∧ q < (N : Int)
  | [], p, q, h, e => by cases e; exact h
  | y :: W, p, q, _, ⟨r, he, hr⟩ => rch_in hE W r q (hE _ he) hr
theorem reach_iff {N : Nat} {m : Int} {St Fi : List Int} {Ed : List EdT} (h : mayA (N : Int) m St Fi Ed = true) (x : Int) : x ∈ rchL false (N : Int) m St Fi Ed ↔ ∃ p ∈ St, ∃ W, Rch Ed W p x := by
  have hE : ∀ e ∈ Ed, 0 ≤ e.2.2 ∧ e.2.2 < (N : Int) := fun e he => ((may_parts h).2.2.2.2.2 e he).2.2
  unfold rchL
  rw [if_pos h, Int.toNat_natCast, maskL_iff]
  constructor
  · rintro ⟨q, _, hq, rfl⟩
    obtain ⟨k, hk⟩ := (cdec _).1 hq
    exact wlk_fwd k q hk
  · rintro ⟨p, hp, W, hr⟩
    have hb := (may_st h).1 p hp
    have hx := rch_in hE W p x hb hr
    obtain ⟨p', rfl⟩ : ∃ p' : Nat, p = (p' : Int) := ⟨p.toNat, by omega⟩
    obtain ⟨x', rfl⟩ : ∃ x' : Nat, x = (x' : Int) := ⟨x.toNat, by omega⟩
    exact ⟨x', by omega, (cdec _).2 (rch_wlk_fwd hE W p' x' 0 hp hr), rfl⟩
theorem coreach_iff {N : Nat} {m : Int} {St Fi : List Int} {Ed : List EdT} (h : mayA (N : Int) m St Fi Ed = true) (x : Int) (hx : 0 ≤ x ∧ x < (N : Int)) : x ∈ rchL true (N : Int) m St Fi Ed ↔ ∃ f ∈ Fi, ∃ W, Rch Ed W x f := by
  have hE : ∀ e ∈ Ed, 0 ≤ e.2.2 ∧ e.2.2 < (N : Int) := fun e he => ((may_parts h).2.2.2.2.2 e he).2.2
  unfold rchL
  rw [if_pos h, Int.toNat_natCast, maskL_iff]
  constructor
  · rintro ⟨q, _, hq, rfl⟩
    obtain ⟨k, hk⟩ := (cdec _).1 hq
    exact wlk_bwd k q hk
  · rintro ⟨f, hf, W, hr⟩
    obtain ⟨x', rfl⟩ : ∃ x' : Nat, x = (x' : Int) := ⟨x.toNat, by omega⟩
    exact ⟨x', by omega, (cdec _).2 (rch_wlk_bwd hE W x' f hf hr), rfl⟩
theorem rchL_in {N : Nat} {m : Int} {bk : Bool} {St Fi : List Int} {Ed : List EdT} {x : Int} (hx : x ∈ rchL bk (N : Int) m St Fi Ed) : 0 ≤ x ∧ x < (N : Int) := by
  unfold rchL at hx
  split at hx
  · rw [Int.toNat_natCast, maskL_iff] at hx
    obtain ⟨q, hq, _, rfl⟩ := hx
    omega
  · cases hx
/-! What comes of it -/
theorem may_pre {N : Nat} {m : Int} {St Fi : List Int} {Ed : List EdT} (h : mayA (N : Int) m St Fi Ed = true) : mayA (N : Int) m (riseL St) (rchL true (N : Int) m St Fi Ed) (riseE Ed) = true := by
  obtain ⟨h1, h2, h3, _, _, h6⟩ := may_parts (may_rise h)
  exact may_of h1 h2 h3 (may_st (may_rise h)).1 (fun x hx => rchL_in hx) h6
theorem may_suf {N : Nat} {m : Int} {St Fi : List Int} {Ed : List EdT} (h : mayA (N : Int) m St Fi Ed = true) : mayA (N : Int) m (rchL false (N : Int) m St Fi Ed) (riseL Fi) (riseE Ed) = true := by
  obtain ⟨h1, h2, h3, _, _, h6⟩ := may_parts (may_rise h)
  exact may_of h1 h2 h3 (fun x hx => rchL_in hx) (may_st (may_rise h)).2 h6
theorem tk_pre {N : Nat} {m : Int} {St Fi : List Int} {Ed : List EdT} {Wd : List Int} (h : mayA (N : Int) m St Fi Ed = true) : tkF (N : Int) m (riseL St) (rchL true (N : Int) m St Fi Ed) (riseE Ed) Wd = true ↔ Wd.all (inB m) = true ∧ ∃ p ∈ St, ∃ q, Rch Ed Wd p q ∧ ∃ f ∈ Fi, ∃ W, Rch Ed W q f := by
  have hE : ∀ e ∈ Ed, 0 ≤ e.2.2 ∧ e.2.2 < (N : Int) := fun e he => ((may_parts h).2.2.2.2.2 e he).2.2
  rw [tkF_iff]
  constructor
  · rintro ⟨_, h2, p, hp, q, hq, hr⟩
    exact ⟨h2, p, (riseL_iff St p).1 hp, q, (rch_same (riseE_iff Ed) Wd p q).1 hr, (coreach_iff h q (rchL_in hq)).1 hq⟩
  · rintro ⟨h2, p, hp, q, hr, hf⟩
    have hq := rch_in hE Wd p q ((may_st h).1 p hp) hr
    exact ⟨may_pre h, h2, p, (riseL_iff St p).2 hp, q, (coreach_iff h q hq).2 hf, (rch_same (riseE_iff Ed) Wd p q).2 hr⟩
theorem tk_suf {N : Nat} {m : Int} {St Fi : List Int} {Ed : List EdT} {Wd : List Int} (h : mayA (N : Int) m St Fi Ed = true) : tkF (N : Int) m (rchL false (N : Int) m St Fi Ed) (riseL Fi) (riseE Ed) Wd = true ↔ Wd.all (inB m) = true ∧ ∃ q, (∃ p ∈ St, ∃ W, Rch Ed W p q) ∧ ∃ f ∈ Fi, Rch Ed Wd q f := by
  rw [tkF_iff]
  constructor
  · rintro ⟨_, h2, q, hq, f, hf, hr⟩
    exact ⟨h2, q, (reach_iff h q).1 hq, f, (riseL_iff Fi f).1 hf, (rch_same (riseE_iff Ed) Wd q f).1 hr⟩
  · rintro ⟨h2, q, hq, f, hf, hr⟩
    exact ⟨may_suf h, h2, q, (reach_iff h q).2 hq, f, (riseL_iff Fi f).2 hf, (rch_same (riseE_iff Ed) Wd q f).2 hr⟩
/-- A beginning and an end of a word that is taken. -/
theorem ends_cut {N : Nat} {m : Int} {St Fi : List Int} {Ed : List EdT} {Wd : List Int} (ht : tkF (N : Int) m St Fi Ed Wd = true) (k : Nat) : tkF (N : Int) m (riseL St) (rchL true (N : Int) m St Fi Ed) (riseE Ed) (Wd.take k) = true ∧ tkF (N : Int) m (rchL false (N : Int) m St Fi Ed) (riseL Fi) (riseE Ed) (Wd.drop k) = true := by
  obtain ⟨h, h2, p, hp, q, hq, hr⟩ := tkF_iff.1 ht
  rw [← List.take_append_drop k Wd, rch_app] at hr
  obtain ⟨r, hr1, hr2⟩ := hr
  rw [List.all_eq_true] at h2
  rw [tk_pre h, tk_suf h]
  exact ⟨⟨List.all_eq_true.2 (fun x hx => h2 x (List.mem_of_mem_take hx)), p, hp, r, hr1, q, hq, _, hr2⟩, ⟨List.all_eq_true.2 (fun x hx => h2 x (List.mem_of_mem_drop hx)), r, ⟨p, hp, _, hr1⟩, q, hq, hr2⟩⟩
/-- What Prefixes takes can be gone on with. -/
theorem ends_pre {N m : Nat} {St Fi : List Int} {Ed : List EdT} {Wd : List Int} (h : mayA (N : Int) (m : Int) St Fi Ed = true) (hw : Wd.all (inB (m : Int)) = true) : tkF (N : Int) (m : Int) (riseL St) (rchL true (N : Int) (m : Int) St Fi Ed) (riseE Ed) Wd = (rnds Ed m N (riseL (aftL Ed (riseL St) Wd))).any fun x => decide (x ∈ riseL Fi) := by
  have hE : ∀ e ∈ Ed, 0 ≤ e.2.2 ∧ e.2.2 < (N : Int) := fun e he => ((may_parts h).2.2.2.2.2 e he).2.2
  have hY : ∀ e ∈ Ed, 0 ≤ e.2.1 ∧ e.2.1 < (m : Int) := fun e he => ((may_parts h).2.2.2.2.2 e he).2.1
  have hQ : ∀ x ∈ aftL Ed (riseL St) Wd, 0 ≤ x ∧ x < (N : Int) := fun x hx => by
    obtain ⟨p, hp, hr⟩ := (aftL_iff Wd _ x).1 hx
    exact rch_in hE Wd p x ((may_st h).1 p ((riseL_iff St p).1 hp)) hr
  rw [Bool.eq_iff_iff, tk_pre h, List.any_eq_true]
  simp only [decide_eq_true_eq]
  constructor
  · rintro ⟨_, p, hp, q, hr, f, hf, W, hW⟩
    exact ⟨f, (rnds_iff hE hY hQ f).2 ⟨q, (aftL_iff Wd _ q).2 ⟨p, (riseL_iff St p).2 hp, hr⟩, W, hW⟩, (riseL_iff Fi f).2 hf⟩
  · rintro ⟨f, hf, hff⟩
    obtain ⟨q, hq, W, hW⟩ := (rnds_iff hE hY hQ f).1 hf
    obtain ⟨p, hp, hr⟩ := (aftL_iff Wd _ q).1 hq
    exact ⟨hw, p, (riseL_iff St p).1 hp, q, hr, f, (riseL_iff Fi f).1 hff, W, hW⟩
/-- What Suffixes takes can be led up to. -/
theorem ends_suf {N m : Nat} {St Fi : List Int} {Ed : List EdT} {Wd : List Int} (h : mayA (N : Int) (m : Int) St Fi Ed = true) : tkF (N : Int) (m : Int) (rchL false (N : Int) (m : Int) St Fi Ed) (riseL Fi) (riseE Ed) Wd = tkF (N : Int) (m : Int) (rnds Ed m N (riseL St)) Fi Ed Wd := by
  have hE : ∀ e ∈ Ed, 0 ≤ e.2.2 ∧ e.2.2 < (N : Int) := fun e he => ((may_parts h).2.2.2.2.2 e he).2.2
  have hY : ∀ e ∈ Ed, 0 ≤ e.2.1 ∧ e.2.1 < (m : Int) := fun e he => ((may_parts h).2.2.2.2.2 e he).2.1
  have hQ := (may_st h).1
  have hm : mayA (N : Int) (m : Int) (rnds Ed m N (riseL St)) Fi Ed = true := by
    obtain ⟨h1, h2, h3, _, _, h6⟩ := may_parts h
    exact may_of h1 h2 h3 (upN_rnds hE (upN_rise hQ) N).2 (may_st h).2 h6
  rw [Bool.eq_iff_iff, tk_suf h, tkF_iff]
  constructor
  · rintro ⟨h2, q, hq, f, hf, hr⟩
    exact ⟨hm, h2, q, (rnds_iff hE hY hQ q).2 hq, f, hf, hr⟩
  · rintro ⟨_, h2, q, hq, f, hf, hr⟩
    exact ⟨h2, q, (rnds_iff hE hY hQ q).1 hq, f, hf, hr⟩
end Go.Proofs.YtchoopnjckcohaaGreatDoor
