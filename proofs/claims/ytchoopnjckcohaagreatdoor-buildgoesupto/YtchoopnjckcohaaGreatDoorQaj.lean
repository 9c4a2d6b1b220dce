import Derived.Test.YtchoopnjckcohaaGreatDoorQai
import Derived.Shelf.Slices.Reverse
set_option maxRecDepth 100000
set_option maxHeartbeats 40000000
namespace Go.Proofs.YtchoopnjckcohaaGreatDoor
open Go.RowKit Go.Maps Go.Shelf
attribute [local go_sem] Oper.semAt_some
def allE (s : Nat) : List EdT := (List.range s).map fun (k : Nat) => (0, (k : Int), 0)
theorem allE_len (s : Nat) : (allE s).length = s := by simp [allE]
theorem allE_next (s : Nat) : allE (s + 1) = allE s ++ [(0, (s : Int), 0)] := by simp [allE, List.range_succ]
theorem union_made (w : World) (n m n' m' : Int) (a1 a2 a3 b1 b2 b3 : Option Addr) (c1 c2 c3 d1 d2 d3 : Nat) (Sa Fa Sb Fb : List Int) (Ea Eb : List EdT) (hA : Hid (RdA w a1 a2 a3 Sa Fa Ea)) (hB : Hid (RdA w b1 b2 b3 Sb Fb Eb)) (h1 : Sa.length ≤ 4194304) (h2 : Fa.length ≤ 4194304) (h3 : Ea.length ≤ 4194304) (h4 : Sb.length ≤ 4194304) (h5 : Fb.length ≤ 4194304) (h6 : Eb.length ≤ 4194304) :
 Calls Tryz.prog 25 #[.agg #[.int .i64 n, .int .i64 m, .slice a1 Sa.length c1, .slice a2 Fa.length c2, .slice a3 Ea.length c3], .agg #[.int .i64 n', .int .i64 m', .slice b1 Sb.length d1, .slice b2 Fb.length d2, .slice b3 Eb.length d3]] w (AnsO w (uniAns n m n' m' Sa Fa Ea Sb Fb Eb)) := by
 obtain ⟨W0, hW0⟩ : ∃ W0, ((w.alloc (.cells #[.int .i64 n, .int .i64 m, .slice a1 Sa.length c1, .slice a2 Fa.length c2, .slice a3 Ea.length c3] 25)).alloc (.cells #[.int .i64 n', .int .i64 m', .slice b1 Sb.length d1, .slice b2 Fb.length d2, .slice b3 Eb.length d3] 25)).alloc (.cells #[.int .i64 0, .int .i64 0, .slice none 0 0, .slice none 0 0, .slice none 0 0] 25) = W0 := ⟨_, rfl⟩
 have HD := hide (box3b w #[.int .i64 n, .int .i64 m, .slice a1 Sa.length c1, .slice a2 Fa.length c2, .slice a3 Ea.length c3] #[.int .i64 n', .int .i64 m', .slice b1 Sb.length d1, .slice b2 Fb.length d2, .slice b3 Eb.length d3] #[.int .i64 0, .int .i64 0, .slice none 0 0, .slice none 0 0, .slice none 0 0] 25)
 rw [hW0] at HD
 have TU := union_ans W0 n m n' m' a1 a2 a3 b1 b2 b3 c1 c2 c3 d1 d2 d3 Sa Fa Ea Sb Fb Eb (hide (hA.out.on HD.out.1)) (hide (hB.out.on HD.out.1)) h1 h2 h3 h4 h5 h6
 generalize uniAns n m n' m' Sa Fa Ea Sb Fb Eb = R at TU ⊢
 obtain ⟨rn, rm, rs, rf, re, rr⟩ := R
 obtain ⟨y0, y1, y2, y3, y4⟩ := zd5 HD.out.2.1 rfl rfl rfl rfl rfl
 obtain ⟨x0, x1, x2, x3, x4⟩ := zd5 HD.out.2.2.1 rfl rfl rfl rfl rfl
 go_enter Tryz.func25, Tryz.ntmps25
 go_wp2_with (go_at_call 59; refine TU.mono ?_; rintro e w1 ⟨x1, y1, x2, y2, x3, y3, rfl, O1, D1⟩; have H1 := hide (And.intro O1.out D1); clear O1 D1; have F4 := blk_on HD.out.2.2.2.1 H1.out.2; obtain ⟨o0, o1, o2, o3, o4⟩ := zd5 F4 rfl rfl rfl rfl rfl; have fz0 : w1.frozen? ⟨w.heap.size + 1 + 1, 0, none⟩ = false := fz_of F4; have fz1 : w1.frozen? ⟨w.heap.size + 1 + 1, 1, none⟩ = false := fz_of F4; have fz2 : w1.frozen? ⟨w.heap.size + 1 + 1, 2, none⟩ = false := fz_of F4; have fz3 : w1.frozen? ⟨w.heap.size + 1 + 1, 3, none⟩ = false := fz_of F4; have fz4 : w1.frozen? ⟨w.heap.size + 1 + 1, 4, none⟩ = false := fz_of F4; have O6 := hide (And.intro (set5 w1 (w.heap.size + 1 + 1) _ _ _ _ _ (.int .i64 rn) (.int .i64 rm) (.slice x1 rs.length y1) (.slice x2 rf.length y2) (.slice x3 re.length y3) 25 F4) (only5 w1 (w.heap.size + 1 + 1) (.int .i64 rn) (.int .i64 rm) (.slice x1 rs.length y1) (.slice x2 rf.length y2) (.slice x3 re.length y3))); have HO := hide (H1.out.1.keep F4 O6.out.2); clear F4)
 refine bodyPost_ret (results_c1 (p := 4) (q := 5) (ty := 25) rfl _ _ (w.heap.size + 1 + 1) 25 _ (0, 0) _ _ rfl rfl O6.out.1 Tryz.underlying25 rfl (by kernel_rfl)) rfl ?_
 have s1 := HD.out.2.2.2.2
 have s2 := H1.out.2.size
 exact ⟨x1, y1, x2, y2, x3, y3, rfl, hide (HO.out.down HD.out.1.size), (HD.out.1.trans (H1.out.2.mono HD.out.1.size)).trans (O6.out.2.toBelow (by omega) (fun k hk => by omega))⟩
theorem none_err (w : World) (s : Int) (hs : symOk s = false) : Calls Tryz.prog 24 #[.int .i64 s] w (AnsO w (badA 1)) := by
 obtain ⟨W0, hW0⟩ : ∃ W0, w.alloc (.cells #[.int .i64 0, .int .i64 0, .slice none 0 0, .slice none 0 0, .slice none 0 0] 25) = W0 := ⟨_, rfl⟩
 have HD : Hid (W0.heap[w.heap.size]? = some (.cells #[.int .i64 0, .int .i64 0, .slice none 0 0, .slice none 0 0, .slice none 0 0] 25 (0, 0)) ∧ Below w.heap.size w W0 ∧ W0.heap.size = w.heap.size + 1) := hide (by rw [← hW0]; exact ⟨World.alloc_heap_new _ _, (Below.refl _ _).alloc (Nat.le_refl _) _, by simp⟩)
 have TM := mayBe_any W0 s
 rw [hs] at TM
 clear hs
 have F4 := HD.out.1
 obtain ⟨o0, o1, o2, o3, o4⟩ := zd5 F4 rfl rfl rfl rfl rfl
 have fz0 : W0.frozen? ⟨w.heap.size, 0, none⟩ = false := fz_of F4
 have fz1 : W0.frozen? ⟨w.heap.size, 1, none⟩ = false := fz_of F4
 have fz2 : W0.frozen? ⟨w.heap.size, 2, none⟩ = false := fz_of F4
 have fz3 : W0.frozen? ⟨w.heap.size, 3, none⟩ = false := fz_of F4
 have fz4 : W0.frozen? ⟨w.heap.size, 4, none⟩ = false := fz_of F4
 have O6 := hide (And.intro (set5 W0 (w.heap.size) _ _ _ _ _ (.int .i64 0) (.int .i64 0) (.slice none 0 0) (.slice none 0 0) (.slice none 0 0) 25 F4) (only5 W0 (w.heap.size) (.int .i64 0) (.int .i64 0) (.slice none 0 0) (.slice none 0 0) (.slice none 0 0)))
 clear F4
 go_enter Tryz.func24, Tryz.ntmps24
 go_wp2_with (go_at_call 54; refine TM.mono ?_; rintro e wq ⟨rfl, hq⟩; subst hq)
 refine bodyPost_ret (results_c1 (p := 2) (q := 3) (ty := 25) rfl _ _ (w.heap.size) 25 _ (0, 0) _ _ rfl rfl O6.out.1 Tryz.underlying25 rfl (by kernel_rfl)) rfl ?_
 have s1 := HD.out.2.2
 exact ansO_bad rfl (HD.out.2.1.trans (O6.out.2.toBelow (by omega) (fun k hk => by omega)))
theorem none_good (w : World) (s : Int) (hs : symOk s = true) : Calls Tryz.prog 24 #[.int .i64 s] w (AnsO w ⟨0, s, [], [], [], 0⟩) := by
 obtain ⟨W0, hW0⟩ : ∃ W0, w.alloc (.cells #[.int .i64 0, .int .i64 0, .slice none 0 0, .slice none 0 0, .slice none 0 0] 25) = W0 := ⟨_, rfl⟩
 have HD : Hid (W0.heap[w.heap.size]? = some (.cells #[.int .i64 0, .int .i64 0, .slice none 0 0, .slice none 0 0, .slice none 0 0] 25 (0, 0)) ∧ Below w.heap.size w W0 ∧ W0.heap.size = w.heap.size + 1) := hide (by rw [← hW0]; exact ⟨World.alloc_heap_new _ _, (Below.refl _ _).alloc (Nat.le_refl _) _, by simp⟩)
 have TM := mayBe_any W0 s
 rw [hs] at TM
 clear hs
 have F4 := HD.out.1
 obtain ⟨o0, o1, o2, o3, o4⟩ := zd5 F4 rfl rfl rfl rfl rfl
 have fz0 : W0.frozen? ⟨w.heap.size, 0, none⟩ = false := fz_of F4
 have fz1 : W0.frozen? ⟨w.heap.size, 1, none⟩ = false := fz_of F4
 have fz2 : W0.frozen? ⟨w.heap.size, 2, none⟩ = false := fz_of F4
 have fz3 : W0.frozen? ⟨w.heap.size, 3, none⟩ = false := fz_of F4
 have fz4 : W0.frozen? ⟨w.heap.size, 4, none⟩ = false := fz_of F4
 have O6 := hide (And.intro (set5 W0 (w.heap.size) _ _ _ _ _ (.int .i64 0) (.int .i64 s) (.slice none 0 0) (.slice none 0 0) (.slice none 0 0) 25 F4) (only5 W0 (w.heap.size) (.int .i64 0) (.int .i64 s) (.slice none 0 0) (.slice none 0 0) (.slice none 0 0)))
 clear F4
 go_enter Tryz.func24, Tryz.ntmps24
 go_wp2_with (go_at_call 54; refine TM.mono ?_; rintro e wq ⟨rfl, hq⟩; subst hq)
 refine bodyPost_ret (results_c1 (p := 2) (q := 3) (ty := 25) rfl _ _ (w.heap.size) 25 _ (0, 0) _ _ rfl rfl O6.out.1 Tryz.underlying25 rfl (by kernel_rfl)) rfl ?_
 have s1 := HD.out.2.2
 exact ⟨none, 0, none, 0, none, 0, rfl, hide ⟨⟨rfl, .inl ⟨rfl, rfl⟩⟩, ⟨rfl, .inl ⟨rfl, rfl⟩⟩, ⟨rfl, .inl ⟨rfl, rfl⟩⟩, fun g q => by cases q⟩, HD.out.2.1.trans (O6.out.2.toBelow (by omega) (fun k hk => by omega))⟩
theorem all_err (w : World) (s : Int) (hs : symOk s = false) : Calls Tryz.prog 22 #[.int .i64 s] w (AnsO w (badA 1)) := by
 obtain ⟨W0, hW0⟩ : ∃ W0, w.alloc (.cells #[.int .i64 0, .int .i64 0, .slice none 0 0, .slice none 0 0, .slice none 0 0] 25) = W0 := ⟨_, rfl⟩
 have HD : Hid (W0.heap[w.heap.size]? = some (.cells #[.int .i64 0, .int .i64 0, .slice none 0 0, .slice none 0 0, .slice none 0 0] 25 (0, 0)) ∧ Below w.heap.size w W0 ∧ W0.heap.size = w.heap.size + 1) := hide (by rw [← hW0]; exact ⟨World.alloc_heap_new _ _, (Below.refl _ _).alloc (Nat.le_refl _) _, by simp⟩)
 have TM := mayBe_any W0 s
 rw [hs] at TM
 clear hs
 have F4 := HD.out.1
 obtain ⟨o0, o1, o2, o3, o4⟩ := zd5 F4 rfl rfl rfl rfl rfl
 have fz0 : W0.frozen? ⟨w.heap.size, 0, none⟩ = false := fz_of F4
 have fz1 : W0.frozen? ⟨w.heap.size, 1, none⟩ = false := fz_of F4
 have fz2 : W0.frozen? ⟨w.heap.size, 2, none⟩ = false := fz_of F4
 have fz3 : W0.frozen? ⟨w.heap.size, 3, none⟩ = false := fz_of F4
 have fz4 : W0.frozen? ⟨w.heap.size, 4, none⟩ = false := fz_of F4
 have O6 := hide (And.intro (set5 W0 (w.heap.size) _ _ _ _ _ (.int .i64 0) (.int .i64 0) (.slice none 0 0) (.slice none 0 0) (.slice none 0 0) 25 F4) (only5 W0 (w.heap.size) (.int .i64 0) (.int .i64 0) (.slice none 0 0) (.slice none 0 0) (.slice none 0 0)))
 clear F4
 go_enter Tryz.func22, Tryz.ntmps22
 go_wp2_with (go_at_call 54; refine TM.mono ?_; rintro e wq ⟨rfl, hq⟩; subst hq)
 refine bodyPost_ret (results_c1 (p := 2) (q := 3) (ty := 25) rfl _ _ (w.heap.size) 25 _ (0, 0) _ _ rfl rfl O6.out.1 Tryz.underlying25 rfl (by kernel_rfl)) rfl ?_
 have s1 := HD.out.2.2
 exact ansO_bad rfl (HD.out.2.1.trans (O6.out.2.toBelow (by omega) (fun k hk => by omega)))
theorem all_good (w : World) (s : Nat) (hs : s ≤ 128) : Calls Tryz.prog 22 #[.int .i64 (s : Int)] w (AnsO w ⟨1, (s : Int), [0], [0], allE s, 0⟩) := by
 obtain ⟨W0, hW0⟩ : ∃ W0, w.alloc (.cells #[.int .i64 0, .int .i64 0, .slice none 0 0, .slice none 0 0, .slice none 0 0] 25) = W0 := ⟨_, rfl⟩
 have HD : Hid (W0.heap[w.heap.size]? = some (.cells #[.int .i64 0, .int .i64 0, .slice none 0 0, .slice none 0 0, .slice none 0 0] 25 (0, 0)) ∧ Below w.heap.size w W0 ∧ W0.heap.size = w.heap.size + 1) := hide (by rw [← hW0]; exact ⟨World.alloc_heap_new _ _, (Below.refl _ _).alloc (Nat.le_refl _) _, by simp⟩)
 have TM := mayBe_any W0 (s : Int)
 rw [show symOk (s : Int) = true by simp [symOk]; omega] at TM
 go_enter Tryz.func22, Tryz.ntmps22
 go_upto_region 4 with (go_at_call 54; refine TM.mono ?_; rintro e wq ⟨rfl, hq⟩; subst hq)
 clear TM hW0
 obtain ⟨W1, hW1⟩ : ∃ W, ((wq.alloc (.cells #[.int .i64 0] 3)).alloc (.cells #[.int .i64 0] 3)).alloc (.cells #[.int .i64 1, .int .i64 (s : Int), .slice (some ⟨wq.heap.size, 0, none⟩) 1 1, .slice (some ⟨wq.heap.size + 1, 0, none⟩) 1 1, .slice none 0 0] 25) = W := ⟨_, rfl⟩
 rw [hW1]
 have HA : Hid (MvA wq W1 (wq.heap.size + 1 + 1) 1 (s : Int) (.slice (some ⟨wq.heap.size, 0, none⟩) 1 1) (.slice (some ⟨wq.heap.size + 1, 0, none⟩) 1 1) (.slice none 0 0) [0] [0] []) := hide (by
  have hb := box33 wq #[.int .i64 0] #[.int .i64 0] #[.int .i64 1, .int .i64 (s : Int), .slice (some ⟨wq.heap.size, 0, none⟩) 1 1, .slice (some ⟨wq.heap.size + 1, 0, none⟩) 1 1, .slice none 0 0] 3 3 25
  rw [hW1] at hb
  exact ⟨hb.2.2.2.1, by omega, ⟨own_one hb.2.1 (by omega), own_one hb.2.2.1 (by omega), World.ownsRow_nil W1 wq.heap.size _ _, fun x hx hy => by
   simp only [Value.ownBlock, Option.some.injEq] at hx hy
   omega⟩, hb.1⟩)
 obtain ⟨g, hg⟩ : ∃ g, wq.heap.size = g := ⟨_, rfl⟩
 clear hW1
 rw [hg] at HA ⊢
 clear hg
 go_wp2_with fail
 go_loopw [15] (fun iv wr => ∃ i : Nat, i ≤ s ∧ iv = .int .i64 (i : Int) ∧ ∃ b3 k3, Hid (MvA wq wr (g + 1 + 1) 1 (s : Int) (.slice (some ⟨g, 0, none⟩) 1 1) (.slice (some ⟨g + 1, 0, none⟩) 1 1) (.slice b3 i k3) [0] [0] (allE i))) (fun iv _ => s - (intOf iv).toNat)
 case atStart => exact ⟨0, Nat.zero_le _, rfl, none, 0, HA⟩
 case round =>
  obtain ⟨i, hi, rfl, b3, k3, HY⟩ := hrel
  clear HA
  by_cases hil : i < s
  · have i0 : (0 : Int) ≤ (i : Int) := by omega
    have i1 : (i : Int) < (s : Int) := by omega
    have HT := hide (allE_next i)
    have HTl : Hid ((allE i).length = i) := hide (allE_len i)
    have HS0 := hide HY.out.be.size
    have z4 : wr.cell? ⟨g + 1 + 1, 4, none⟩ = some (.slice b3 i k3) := cell_of HY.out.bx rfl
    go_wp2_with (at_builtin; refine wpList_appG rfl _ _ rfl wq.heap.size (.slice b3 i k3) (allE i) rfl (own_below HY.out.ow.e ((Below.refl _ _).alloc (Nat.le_refl _) _)) wr.heap.size (0, (i : Int), 0) rfl (World.alloc_heap_new _ _) (by have := HTl.out; omega) (by have := HS0.out; rw [World.size_alloc]; omega) ?_; intro v5 w5 HO5 HG5; obtain ⟨z5, d5, e5⟩ := own_slice HO5.out; have E5 : v5 = .slice z5 (i + 1) d5 := (by rw [e5, List.length_append, HTl.out]; rfl); clear e5; subst E5; have HQ := hide (mvA_put HY.out ((Below.refl _ _).alloc (Nat.le_refl _) _) HO5.out HG5.out); have c5 : w5.cell? ⟨g + 1 + 1, 4, none⟩ = some (.slice b3 i k3) := cell_of HQ.out.1 rfl; have f5 : w5.frozen? ⟨g + 1 + 1, 4, none⟩ = false := fz_of HQ.out.1)
    refine ⟨⟨i + 1, by omega, by go_num, z5, d5, hide (by rw [HT.out]; exact HQ.out.2)⟩, by simp [intOf]; omega⟩
  · obtain rfl : s = i := by omega
    have i1 : ¬ (s : Int) < (s : Int) := by omega
    have F3 := blk_on HD.out.1 HY.out.be
    have F4 := HY.out.bx
    obtain ⟨o0, o1, o2, o3, o4⟩ := zd5 F3 rfl rfl rfl rfl rfl
    have fz0 : wr.frozen? ⟨w.heap.size, 0, none⟩ = false := fz_of F3
    have fz1 : wr.frozen? ⟨w.heap.size, 1, none⟩ = false := fz_of F3
    have fz2 : wr.frozen? ⟨w.heap.size, 2, none⟩ = false := fz_of F3
    have fz3 : wr.frozen? ⟨w.heap.size, 3, none⟩ = false := fz_of F3
    have fz4 : wr.frozen? ⟨w.heap.size, 4, none⟩ = false := fz_of F3
    obtain ⟨v0, v1, v2, v3, v4⟩ := zd5 F4 rfl rfl rfl rfl rfl
    have O6 := hide (And.intro (set5 wr (w.heap.size) _ _ _ _ _ (.int .i64 1) (.int .i64 (s : Int)) (.slice (some ⟨g, 0, none⟩) 1 1) (.slice (some ⟨g + 1, 0, none⟩) 1 1) (.slice b3 s k3) 25 F3) (only5 wr (w.heap.size) (.int .i64 1) (.int .i64 (s : Int)) (.slice (some ⟨g, 0, none⟩) 1 1) (.slice (some ⟨g + 1, 0, none⟩) 1 1) (.slice b3 s k3)))
    have HO2 := hide (HY.out.ow.keep F3 O6.out.2)
    have HEn := hide (allE_len s)
    clear F3 F4
    go_wp2_with fail
    refine bodyPost_ret (results_c1 (p := 2) (q := 3) (ty := 25) rfl _ _ (w.heap.size) 25 _ (0, 0) _ _ rfl rfl O6.out.1 Tryz.underlying25 rfl (by kernel_rfl)) rfl ?_
    have s1 := HD.out.2.2
    have s2 := HY.out.be.size
    refine ⟨some ⟨g, 0, none⟩, 1, some ⟨g + 1, 0, none⟩, 1, b3, k3, ?_, hide ?_, ?_⟩
    · rw [HEn.out]; rfl
    · have q := HO2.out.down (show w.heap.size ≤ wq.heap.size by omega)
      rw [HEn.out]
      exact q
    · exact (HD.out.2.1.trans (HY.out.be.mono (by omega))).trans (O6.out.2.toBelow (by omega) (fun k hk => by omega))
theorem one_word (w : World) (ao : Option Addr) (c : Nat) (L : List Int) (s : Int) (hr : Hid (RdN w ao L)) (hl : L.length ≤ 4194304) (hb : L.any (badS s) = true) :
 Calls Tryz.prog 20 #[.slice ao L.length c, .int .i64 s] w (AnsO w (badA 7)) := by
 obtain ⟨W0, hW0⟩ : ∃ W0, (w.alloc (.cells #[.int .i64 s] 3)).alloc (.cells #[.int .i64 0, .int .i64 0, .slice none 0 0, .slice none 0 0, .slice none 0 0] 25) = W0 := ⟨_, rfl⟩
 have HD : Hid (Below w.heap.size w W0 ∧ W0.heap[w.heap.size]? = some (.cells #[.int .i64 s] 3 (0, 0)) ∧ W0.heap[w.heap.size + 1]? = some (.cells #[.int .i64 0, .int .i64 0, .slice none 0 0, .slice none 0 0, .slice none 0 0] 25 (0, 0)) ∧ W0.heap.size = w.heap.size + 2) := hide (by
  have k1 := (Below.refl w.heap.size w).alloc (Nat.le_refl _) (.cells #[.int .i64 s] 3)
  have z1 := World.alloc_heap_new w (.cells #[.int .i64 s] 3)
  have s1 : (w.alloc (.cells #[.int .i64 s] 3)).heap.size = w.heap.size + 1 := by simp
  generalize w.alloc (.cells #[.int .i64 s] 3) = X at k1 z1 s1 hW0
  have k2 := (Below.refl X.heap.size X).alloc (Nat.le_refl _) (.cells #[.int .i64 0, .int .i64 0, .slice none 0 0, .slice none 0 0, .slice none 0 0] 25)
  have z2 := World.alloc_heap_new X (.cells #[.int .i64 0, .int .i64 0, .slice none 0 0, .slice none 0 0, .slice none 0 0] 25)
  rw [hW0] at k2 z2
  rw [s1] at z2
  exact ⟨k1.trans (k2.mono k1.size), blk_on z1 k2, z2, by rw [← hW0, World.size_alloc, s1]⟩)
 have y0 : W0.cell? ⟨w.heap.size, 0, none⟩ = some (.int .i64 s) := cell_of HD.out.2.1 rfl
 have TC := cont53 W0 ao c L w.heap.size s (hide y0) (hide (hr.out.on HD.out.1)) hl
 rw [hb] at TC
 clear hb
 obtain ⟨n, hn⟩ : ∃ n, L.length = n := ⟨_, rfl⟩
 rw [hn] at TC ⊢
 clear hn
 go_enter Tryz.func20, Tryz.ntmps20
 go_upto_region 2 with (go_at_call 52; refine TC.mono ?_; rintro e w2 ⟨rfl, D2⟩; have H2 := hide D2; clear D2; have yq : w2.cell? ⟨w.heap.size, 0, none⟩ = some (.int .i64 s) := cell_of (blk_on HD.out.2.1 H2.out) rfl)
 have F4 := blk_on HD.out.2.2.1 H2.out
 obtain ⟨o0, o1, o2, o3, o4⟩ := zd5 F4 rfl rfl rfl rfl rfl
 have fz0 : w2.frozen? ⟨w.heap.size + 1, 0, none⟩ = false := fz_of F4
 have fz1 : w2.frozen? ⟨w.heap.size + 1, 1, none⟩ = false := fz_of F4
 have fz2 : w2.frozen? ⟨w.heap.size + 1, 2, none⟩ = false := fz_of F4
 have fz3 : w2.frozen? ⟨w.heap.size + 1, 3, none⟩ = false := fz_of F4
 have fz4 : w2.frozen? ⟨w.heap.size + 1, 4, none⟩ = false := fz_of F4
 have O6 := hide (And.intro (set5 w2 (w.heap.size + 1) _ _ _ _ _ (.int .i64 0) (.int .i64 0) (.slice none 0 0) (.slice none 0 0) (.slice none 0 0) 25 F4) (only5 w2 (w.heap.size + 1) (.int .i64 0) (.int .i64 0) (.slice none 0 0) (.slice none 0 0) (.slice none 0 0)))
 clear F4
 go_wp2_with fail
 refine bodyPost_ret (results_c1 (p := 4) (q := 5) (ty := 25) rfl _ _ (w.heap.size + 1) 25 _ (0, 0) _ _ rfl rfl O6.out.1 Tryz.underlying25 rfl (by kernel_rfl)) rfl ?_
 have s1 := HD.out.2.2.2
 have s2 := H2.out.size
 exact ansO_bad rfl ((HD.out.1.trans (H2.out.mono HD.out.1.size)).trans (O6.out.2.toBelow (by omega) (fun k hk => by omega)))
theorem one_syms (w : World) (ao : Option Addr) (c : Nat) (L : List Int) (s : Int) (hr : Hid (RdN w ao L)) (hl : L.length ≤ 4194304) (hb : L.any (badS s) = false) (h2 : symOk s = false) :
 Calls Tryz.prog 20 #[.slice ao L.length c, .int .i64 s] w (AnsO w (badA 1)) := by
 obtain ⟨W0, hW0⟩ : ∃ W0, (w.alloc (.cells #[.int .i64 s] 3)).alloc (.cells #[.int .i64 0, .int .i64 0, .slice none 0 0, .slice none 0 0, .slice none 0 0] 25) = W0 := ⟨_, rfl⟩
 have HD : Hid (Below w.heap.size w W0 ∧ W0.heap[w.heap.size]? = some (.cells #[.int .i64 s] 3 (0, 0)) ∧ W0.heap[w.heap.size + 1]? = some (.cells #[.int .i64 0, .int .i64 0, .slice none 0 0, .slice none 0 0, .slice none 0 0] 25 (0, 0)) ∧ W0.heap.size = w.heap.size + 2) := hide (by
  have k1 := (Below.refl w.heap.size w).alloc (Nat.le_refl _) (.cells #[.int .i64 s] 3)
  have z1 := World.alloc_heap_new w (.cells #[.int .i64 s] 3)
  have s1 : (w.alloc (.cells #[.int .i64 s] 3)).heap.size = w.heap.size + 1 := by simp
  generalize w.alloc (.cells #[.int .i64 s] 3) = X at k1 z1 s1 hW0
  have k2 := (Below.refl X.heap.size X).alloc (Nat.le_refl _) (.cells #[.int .i64 0, .int .i64 0, .slice none 0 0, .slice none 0 0, .slice none 0 0] 25)
  have z2 := World.alloc_heap_new X (.cells #[.int .i64 0, .int .i64 0, .slice none 0 0, .slice none 0 0, .slice none 0 0] 25)
  rw [hW0] at k2 z2
  rw [s1] at z2
  exact ⟨k1.trans (k2.mono k1.size), blk_on z1 k2, z2, by rw [← hW0, World.size_alloc, s1]⟩)
 have y0 : W0.cell? ⟨w.heap.size, 0, none⟩ = some (.int .i64 s) := cell_of HD.out.2.1 rfl
 have TC := cont53 W0 ao c L w.heap.size s (hide y0) (hide (hr.out.on HD.out.1)) hl
 rw [hb] at TC
 have HM : Hid (∀ W, Calls Tryz.prog 54 #[.int .i64 s] W fun e w' => e = .returned (.bool false) ∧ w' = W) := hide (fun W => by have q := mayBe_any W s; rwa [h2] at q)
 clear hb h2
 obtain ⟨n, hn⟩ : ∃ n, L.length = n := ⟨_, rfl⟩
 rw [hn] at TC ⊢
 clear hn
 go_enter Tryz.func20, Tryz.ntmps20
 go_upto_region 4 with (first | (go_at_call 52; refine TC.mono ?_; rintro e w2 ⟨rfl, D2⟩; have H2 := hide D2; clear D2; have yq : w2.cell? ⟨w.heap.size, 0, none⟩ = some (.int .i64 s) := cell_of (blk_on HD.out.2.1 H2.out) rfl) | (go_at_call 54; refine (HM.out w2).mono ?_; rintro e wq ⟨rfl, hq⟩; subst hq))
 have F4 := blk_on HD.out.2.2.1 H2.out
 obtain ⟨o0, o1, o2, o3, o4⟩ := zd5 F4 rfl rfl rfl rfl rfl
 have fz0 : wq.frozen? ⟨w.heap.size + 1, 0, none⟩ = false := fz_of F4
 have fz1 : wq.frozen? ⟨w.heap.size + 1, 1, none⟩ = false := fz_of F4
 have fz2 : wq.frozen? ⟨w.heap.size + 1, 2, none⟩ = false := fz_of F4
 have fz3 : wq.frozen? ⟨w.heap.size + 1, 3, none⟩ = false := fz_of F4
 have fz4 : wq.frozen? ⟨w.heap.size + 1, 4, none⟩ = false := fz_of F4
 have O6 := hide (And.intro (set5 wq (w.heap.size + 1) _ _ _ _ _ (.int .i64 0) (.int .i64 0) (.slice none 0 0) (.slice none 0 0) (.slice none 0 0) 25 F4) (only5 wq (w.heap.size + 1) (.int .i64 0) (.int .i64 0) (.slice none 0 0) (.slice none 0 0) (.slice none 0 0)))
 clear F4
 go_wp2_with fail
 refine bodyPost_ret (results_c1 (p := 4) (q := 5) (ty := 25) rfl _ _ (w.heap.size + 1) 25 _ (0, 0) _ _ rfl rfl O6.out.1 Tryz.underlying25 rfl (by kernel_rfl)) rfl ?_
 have s1 := HD.out.2.2.2
 have s2 := H2.out.size
 exact ansO_bad rfl ((HD.out.1.trans (H2.out.mono HD.out.1.size)).trans (O6.out.2.toBelow (by omega) (fun k hk => by omega)))
theorem one_size (w : World) (ao : Option Addr) (c : Nat) (L : List Int) (s : Int) (hr : Hid (RdN w ao L)) (hl : L.length ≤ 4194304) (hb : L.any (badS s) = false) (h2 : symOk s = true) (h3 : 4096 ≤ L.length) :
 Calls Tryz.prog 20 #[.slice ao L.length c, .int .i64 s] w (AnsO w (badA 8)) := by
 obtain ⟨W0, hW0⟩ : ∃ W0, (w.alloc (.cells #[.int .i64 s] 3)).alloc (.cells #[.int .i64 0, .int .i64 0, .slice none 0 0, .slice none 0 0, .slice none 0 0] 25) = W0 := ⟨_, rfl⟩
 have HD : Hid (Below w.heap.size w W0 ∧ W0.heap[w.heap.size]? = some (.cells #[.int .i64 s] 3 (0, 0)) ∧ W0.heap[w.heap.size + 1]? = some (.cells #[.int .i64 0, .int .i64 0, .slice none 0 0, .slice none 0 0, .slice none 0 0] 25 (0, 0)) ∧ W0.heap.size = w.heap.size + 2) := hide (by
  have k1 := (Below.refl w.heap.size w).alloc (Nat.le_refl _) (.cells #[.int .i64 s] 3)
  have z1 := World.alloc_heap_new w (.cells #[.int .i64 s] 3)
  have s1 : (w.alloc (.cells #[.int .i64 s] 3)).heap.size = w.heap.size + 1 := by simp
  generalize w.alloc (.cells #[.int .i64 s] 3) = X at k1 z1 s1 hW0
  have k2 := (Below.refl X.heap.size X).alloc (Nat.le_refl _) (.cells #[.int .i64 0, .int .i64 0, .slice none 0 0, .slice none 0 0, .slice none 0 0] 25)
  have z2 := World.alloc_heap_new X (.cells #[.int .i64 0, .int .i64 0, .slice none 0 0, .slice none 0 0, .slice none 0 0] 25)
  rw [hW0] at k2 z2
  rw [s1] at z2
  exact ⟨k1.trans (k2.mono k1.size), blk_on z1 k2, z2, by rw [← hW0, World.size_alloc, s1]⟩)
 have y0 : W0.cell? ⟨w.heap.size, 0, none⟩ = some (.int .i64 s) := cell_of HD.out.2.1 rfl
 have TC := cont53 W0 ao c L w.heap.size s (hide y0) (hide (hr.out.on HD.out.1)) hl
 rw [hb] at TC
 have HM : Hid (∀ W, Calls Tryz.prog 54 #[.int .i64 s] W fun e w' => e = .returned (.bool true) ∧ w' = W) := hide (fun W => by have q := mayBe_any W s; rwa [h2] at q)
 clear hb h2
 obtain ⟨n, hn⟩ : ∃ n, L.length = n := ⟨_, rfl⟩
 rw [hn] at TC ⊢
 rw [hn] at h3
 clear hn
 have jn : (4096 : Int) ≤ (n : Int) := by omega
 go_enter Tryz.func20, Tryz.ntmps20
 go_upto_region 6 with (first | (go_at_call 52; refine TC.mono ?_; rintro e w2 ⟨rfl, D2⟩; have H2 := hide D2; clear D2; have yq : w2.cell? ⟨w.heap.size, 0, none⟩ = some (.int .i64 s) := cell_of (blk_on HD.out.2.1 H2.out) rfl) | (go_at_call 54; refine (HM.out w2).mono ?_; rintro e wq ⟨rfl, hq⟩; subst hq))
 have F4 := blk_on HD.out.2.2.1 H2.out
 obtain ⟨o0, o1, o2, o3, o4⟩ := zd5 F4 rfl rfl rfl rfl rfl
 have fz0 : wq.frozen? ⟨w.heap.size + 1, 0, none⟩ = false := fz_of F4
 have fz1 : wq.frozen? ⟨w.heap.size + 1, 1, none⟩ = false := fz_of F4
 have fz2 : wq.frozen? ⟨w.heap.size + 1, 2, none⟩ = false := fz_of F4
 have fz3 : wq.frozen? ⟨w.heap.size + 1, 3, none⟩ = false := fz_of F4
 have fz4 : wq.frozen? ⟨w.heap.size + 1, 4, none⟩ = false := fz_of F4
 have O6 := hide (And.intro (set5 wq (w.heap.size + 1) _ _ _ _ _ (.int .i64 0) (.int .i64 0) (.slice none 0 0) (.slice none 0 0) (.slice none 0 0) 25 F4) (only5 wq (w.heap.size + 1) (.int .i64 0) (.int .i64 0) (.slice none 0 0) (.slice none 0 0) (.slice none 0 0)))
 clear F4
 go_wp2_with fail
 refine bodyPost_ret (results_c1 (p := 4) (q := 5) (ty := 25) rfl _ _ (w.heap.size + 1) 25 _ (0, 0) _ _ rfl rfl O6.out.1 Tryz.underlying25 rfl (by kernel_rfl)) rfl ?_
 have s1 := HD.out.2.2.2
 have s2 := H2.out.size
 exact ansO_bad rfl ((HD.out.1.trans (H2.out.mono HD.out.1.size)).trans (O6.out.2.toBelow (by omega) (fun k hk => by omega)))
end Go.Proofs.YtchoopnjckcohaaGreatDoor
namespace Go.Proofs.YtchoopnjckcohaaGreatDoor
open Go.RowKit Go.Maps
theorem mem_toL {Ed : List EdT} {p s : Nat} {x : Int} : x ∈ toL (fromL Ed p (s : Int)) ↔ ((p : Int), (s : Int), x) ∈ Ed := by
 unfold toL fromL
 simp only [List.mem_map, List.mem_filter, decide_eq_true_eq]
 constructor
 · rintro ⟨e, ⟨he, h⟩, rfl⟩
   have h1 : e.1 = (p : Int) := by omega
   have h2 : e.2.1 = (s : Int) := by omega
   rw [← h1, ← h2]
   exact he
 · intro h
   exact ⟨_, ⟨h, by simp⟩, rfl⟩
def BrE (Ed : List EdT) (Fi Bg : List Int) (e : EdT) : Prop := e ∈ Ed ∨ (∃ q, (e.1, e.2.1, q) ∈ Ed ∧ q ∈ Fi) ∧ e.2.2 ∈ Bg
theorem mem_endL {Ed : List EdT} {Fi Bg : List Int} (hF : ∀ e ∈ Ed, 0 ≤ e.2.2) {p s : Nat} {x : Int} : x ∈ endL Ed Fi Bg p s ↔ BrE Ed Fi Bg ((p : Int), (s : Int), x) := by
 have key : ((toL (fromL Ed p (s : Int))).any (fun x => finB Fi x.toNat)) = true ↔ ∃ q, ((p : Int), (s : Int), q) ∈ Ed ∧ q ∈ Fi := by
  rw [List.any_eq_true]
  constructor
  · rintro ⟨q, hq, h⟩
    have h0 := mem_toL.1 hq
    have h1 := hF _ h0
    unfold finB at h
    rw [decide_eq_true_eq] at h
    simp only at h1
    rw [show ((q.toNat : Nat) : Int) = q by omega] at h
    exact ⟨q, h0, h⟩
  · rintro ⟨q, h0, h⟩
    have h1 := hF _ h0
    simp only at h1
    refine ⟨q, mem_toL.2 h0, ?_⟩
    unfold finB
    rw [decide_eq_true_eq, show ((q.toNat : Nat) : Int) = q by omega]
    exact h
 unfold endL BrE
 by_cases hc : ((toL (fromL Ed p (s : Int))).any (fun x => finB Fi x.toNat)) = true
 · rw [if_pos hc, List.mem_append, mem_toL]
   exact ⟨fun h => h.imp id fun h => ⟨key.1 hc, h⟩, fun h => h.imp id fun h => h.2⟩
 · rw [if_neg hc, mem_toL]
   exact ⟨Or.inl, fun h => h.elim id fun h => absurd (key.2 h.1) hc⟩
theorem mem_brL {N m : Nat} {Ed : List EdT} {Fi Bg : List Int} (hF : ∀ e ∈ Ed, (0 ≤ e.1 ∧ e.1 < (N : Int)) ∧ (0 ≤ e.2.1 ∧ e.2.1 < (m : Int)) ∧ (0 ≤ e.2.2 ∧ e.2.2 < (N : Int))) (e : EdT) : e ∈ brL Ed Fi Bg m N ↔ BrE Ed Fi Bg e := by
 have h0 : ∀ e ∈ Ed, 0 ≤ e.2.2 := fun e he => (hF e he).2.2.1
 unfold brL rowL celL
 simp only [List.mem_flatMap, List.mem_range, List.mem_map]
 constructor
 · rintro ⟨p, _, s, _, x, hx, rfl⟩
   exact (mem_endL h0).1 ((riseL_iff _ x).1 hx)
 · intro h
   have hb : (0 ≤ e.1 ∧ e.1 < (N : Int)) ∧ (0 ≤ e.2.1 ∧ e.2.1 < (m : Int)) := by
    rcases h with h | ⟨⟨q, h, _⟩, _⟩
    · exact ⟨(hF e h).1, (hF e h).2.1⟩
    · exact ⟨(hF _ h).1, (hF _ h).2.1⟩
   have e1 : ((e.1.toNat : Nat) : Int) = e.1 := by omega
   have e2 : ((e.2.1.toNat : Nat) : Int) = e.2.1 := by omega
   refine ⟨e.1.toNat, by omega, e.2.1.toNat, by omega, e.2.2, ?_, by rw [e1, e2]⟩
   rw [riseL_iff]
   refine (mem_endL h0).2 ?_
   rw [e1, e2]
   exact h
open Go.Shelf
theorem mem_mov {L : List Int} {b x : Int} : x ∈ movN L b ↔ x - b ∈ L := by
 unfold movN
 rw [List.mem_map]
 constructor
 · rintro ⟨y, hy, rfl⟩
   rw [show y + b - b = y by omega]
   exact hy
 · intro h
   exact ⟨x - b, h, by omega⟩
theorem rch_shift {E : List EdT} {b : Int} : ∀ (W : List Int) (p q : Int), Rch (movE E b) W p q ↔ Rch E W (p - b) (q - b)
 | [], p, q => by simp only [Rch]; omega
 | y :: W, p, q => by
  simp only [Rch]
  constructor
  · rintro ⟨r, hr, hR⟩
    unfold movE at hr
    obtain ⟨e, he, h⟩ := List.mem_map.1 hr
    simp only [Prod.mk.injEq] at h
    obtain ⟨h1, h2, h3⟩ := h
    refine ⟨r - b, ?_, (rch_shift W r q).1 hR⟩
    rw [show (p - b, y, r - b) = e from Prod.ext (by simp only; omega) (Prod.ext (by simp only; omega) (by simp only; omega))]
    exact he
  · rintro ⟨r, hr, hR⟩
    refine ⟨r + b, ?_, (rch_shift W _ q).2 (by rw [show r + b - b = r by omega]; exact hR)⟩
    unfold movE
    exact List.mem_map.2 ⟨_, hr, Prod.ext (by simp only; omega) rfl⟩
theorem rch_con {n : Int} {E B E2 : List EdT} {F S2 : List Int} (hB : ∀ e, e ∈ B ↔ BrE E F (movN S2 n) e) (hE : ∀ e ∈ E, e.1 < n ∧ e.2.2 < n) (hE2 : ∀ e ∈ E2, 0 ≤ e.1 ∧ 0 ≤ e.2.2) (hS : ∀ x ∈ S2, 0 ≤ x) : ∀ (W : List Int) (p q : Int), p < n → (Rch (B ++ movE E2 n) W p q ↔ Rch E W p q ∨ ∃ U V f x, W = U ++ V ∧ U ≠ [] ∧ Rch E U p f ∧ f ∈ F ∧ x ∈ S2 ∧ Rch E2 V x (q - n))
 | [], p, q, _ => by
  simp only [Rch]
  constructor
  · exact fun h => .inl h
  · rintro (h | ⟨U, V, f, x, h, h2, _⟩)
    · exact h
    · exact absurd (List.append_eq_nil_iff.1 h.symm).1 h2
 | y :: W, p, q, hp => by
  have hB1 : ∀ e ∈ B, e.1 < n := by
   intro e he
   rcases (hB e).1 he with h | ⟨⟨q, h, _⟩, _⟩
   · exact (hE e h).1
   · exact (hE _ h).1
  have hi : ∀ (W : List Int) (p q : Int), n ≤ p → (Rch (B ++ movE E2 n) W p q ↔ Rch E2 W (p - n) (q - n)) := rch_high hB1 (fun e he => (hE2 e he).2)
  simp only [Rch]
  constructor
  · rintro ⟨r, hr, hR⟩
    rcases List.mem_append.1 hr with hr | hr
    · rcases (hB _).1 hr with h | ⟨⟨q0, h, hq⟩, hg⟩
      · rcases (rch_con hB hE hE2 hS W r q (hE _ h).2).1 hR with h2 | ⟨U, V, f, x, rfl, u1, u2, u3, u4, u5⟩
        · exact .inl ⟨r, h, h2⟩
        · exact .inr ⟨y :: U, V, f, x, rfl, by simp, ⟨r, h, u2⟩, u3, u4, u5⟩
      · have hx := mem_mov.1 hg
        simp only at hx
        have := hS _ hx
        exact .inr ⟨[y], W, q0, r - n, rfl, by simp, ⟨q0, h, rfl⟩, hq, hx, (hi W r q (by omega)).1 hR⟩
    · exfalso
      unfold movE at hr
      obtain ⟨e, he, h⟩ := List.mem_map.1 hr
      simp only [Prod.mk.injEq] at h
      have := (hE2 e he).1
      omega
  · rintro (⟨r, h, h2⟩ | ⟨U, V, f, x, hw, u1, u2, u3, u4, u5⟩)
    · exact ⟨r, List.mem_append_left _ ((hB _).2 (.inl h)), (rch_con hB hE hE2 hS W r q (hE _ h).2).2 (.inl h2)⟩
    · cases U with
      | nil => exact absurd rfl u1
      | cons z U =>
       rw [List.cons_append] at hw
       cases hw
       obtain ⟨r, h, h2⟩ := u2
       cases U with
       | nil =>
        cases h2
        refine ⟨x + n, List.mem_append_left _ ((hB _).2 (.inr ⟨⟨_, h, u3⟩, mem_mov.2 (by simp only; rw [show x + n - n = x by omega]; exact u4)⟩)), ?_⟩
        rw [List.nil_append]
        exact (hi V _ q (by have := hS x u4; omega)).2 (by rw [show x + n - n = x by omega]; exact u5)
       | cons z2 U =>
        exact ⟨r, List.mem_append_left _ ((hB _).2 (.inl h)), (rch_con hB hE hE2 hS _ r q (hE _ h).2).2 (.inr ⟨z2 :: U, V, f, x, rfl, by simp, h2, u3, u4, u5⟩)⟩
theorem rch_sta {E B : List EdT} {F S : List Int} (hB : ∀ e, e ∈ B ↔ BrE E F S e) : ∀ (W : List Int) (p q : Int), (Rch B W p q ↔ Rch E W p q ∨ ∃ U V f x, W = U ++ V ∧ U ≠ [] ∧ Rch E U p f ∧ f ∈ F ∧ x ∈ S ∧ Rch B V x q)
 | [], p, q => by
  simp only [Rch]
  constructor
  · exact fun h => .inl h
  · rintro (h | ⟨U, V, f, x, h, h2, _⟩)
    · exact h
    · exact absurd (List.append_eq_nil_iff.1 h.symm).1 h2
 | y :: W, p, q => by
  simp only [Rch]
  constructor
  · rintro ⟨r, hr, hR⟩
    rcases (hB _).1 hr with h | ⟨⟨q0, h, hq⟩, hg⟩
    · rcases (rch_sta hB W r q).1 hR with h2 | ⟨U, V, f, x, rfl, u1, u2, u3, u4, u5⟩
      · exact .inl ⟨r, h, h2⟩
      · exact .inr ⟨y :: U, V, f, x, rfl, by simp, ⟨r, h, u2⟩, u3, u4, u5⟩
    · exact .inr ⟨[y], W, q0, r, rfl, by simp, ⟨q0, h, rfl⟩, hq, hg, hR⟩
  · rintro (⟨r, h, h2⟩ | ⟨U, V, f, x, hw, u1, u2, u3, u4, u5⟩)
    · exact ⟨r, (hB _).2 (.inl h), (rch_sta hB W r q).2 (.inl h2)⟩
    · cases U with
      | nil => exact absurd rfl u1
      | cons z U =>
       rw [List.cons_append] at hw
       cases hw
       obtain ⟨r, h, h2⟩ := u2
       cases U with
       | nil =>
        cases h2
        exact ⟨x, (hB _).2 (.inr ⟨⟨_, h, u3⟩, u4⟩), u5⟩
       | cons z2 U => exact ⟨r, (hB _).2 (.inl h), (rch_sta hB _ r q).2 (.inr ⟨z2 :: U, V, f, x, rfl, by simp, h2, u3, u4, u5⟩)⟩
inductive Stk (L : List Int → Prop) : List Int → Prop
 | nil : Stk L []
 | cons {U V : List Int} : U ≠ [] → L U → Stk L V → Stk L (U ++ V)
theorem Stk.app {L : List Int → Prop} {A B : List Int} (h : Stk L A) (h2 : Stk L B) : Stk L (A ++ B) := by
 induction h with
 | nil => exact h2
 | cons h1 h3 _ ih => rw [List.append_assoc]; exact .cons h1 h3 ih
theorem sta_words {E B : List EdT} {F S : List Int} (hB : ∀ e, e ∈ B ↔ BrE E F S e) : ∀ (n : Nat) (W : List Int), W.length ≤ n → ((W = [] ∨ Tak S F B W) ↔ Stk (Tak S F E) W) := by
 intro n
 induction n with
 | zero =>
  intro W hW
  obtain rfl := List.eq_nil_of_length_eq_zero (Nat.le_zero.1 hW)
  exact ⟨fun _ => .nil, fun _ => .inl rfl⟩
 | succ n ih =>
  intro W hW
  constructor
  · rintro (rfl | ⟨p, hp, q, hq, hr⟩)
    · exact .nil
    · rcases (rch_sta hB W p q).1 hr with h | ⟨U, V, f, x, rfl, u1, u2, u3, u4, u5⟩
      · by_cases e : W = []
        · subst e; exact .nil
        · have := Stk.cons e (show Tak S F E W from ⟨p, hp, q, hq, h⟩) Stk.nil
          rwa [List.append_nil] at this
      · refine .cons u1 ⟨p, hp, f, u3, u2⟩ ((ih V ?_).1 (.inr ⟨x, u4, q, hq, u5⟩))
        have : 0 < U.length := List.length_pos_iff.2 u1
        rw [List.length_append] at hW
        omega
  · intro h
    cases h with
    | nil => exact .inl rfl
    | @cons U V h1 h2 h3 =>
     have hV : V.length ≤ n := by
      have : 0 < U.length := List.length_pos_iff.2 h1
      rw [List.length_append] at hW
      omega
     obtain ⟨p, hp, q, hq, hr⟩ := h2
     rcases (ih V hV).2 h3 with rfl | ⟨p2, hp2, q2, hq2, hr2⟩
     · rw [List.append_nil]
       exact .inr ⟨p, hp, q, hq, (rch_sta hB U p q).2 (.inl hr)⟩
     · exact .inr ⟨p, hp, q2, hq2, (rch_sta hB _ p q2).2 (.inr ⟨U, V, q, p2, rfl, h1, hr, hq, hp2, hr2⟩)⟩
theorem nodup_len : ∀ (A B : List EdT), A.Nodup → (∀ x ∈ A, x ∈ B) → A.length ≤ B.length
 | [], _, _, _ => Nat.zero_le _
 | a :: A, B, hn, hs => by
  have hn' := List.nodup_cons.1 hn
  have ha : a ∈ B := hs a (by simp)
  have h := nodup_len A (B.erase a) hn'.2 (fun x hx => (List.mem_erase_of_ne (fun e => by subst e; exact hn'.1 hx)).2 (hs x (by simp [hx])))
  rw [List.length_erase_of_mem ha] at h
  have : 0 < B.length := List.length_pos_of_mem ha
  rw [List.length_cons]
  omega
end Go.Proofs.YtchoopnjckcohaaGreatDoor
namespace Go.Proofs.YtchoopnjckcohaaGreatDoor
open Go.RowKit Go.Maps Go.Shelf
attribute [local go_sem] Oper.semAt_some
def wdP (n : Nat) (L : List Int) : MkP := fun x _ _ W => ∃ ad c, x = .slice ad n c ∧ RdN W ad L
theorem wdP_mono {n : Nat} {L : List Int} : MonoP (wdP n L) := fun _ _ _ _ _ _ d ⟨ad, c, e, h⟩ => ⟨ad, c, e, h.on d⟩
end Go.Proofs.YtchoopnjckcohaaGreatDoor
namespace Go.Proofs.YtchoopnjckcohaaGreatDoor
open Go.RowKit Go.Maps
theorem aft_rise {Ed : List EdT} : ∀ (Wd S : List Int), aftL (riseE Ed) S Wd = aftL Ed S Wd
 | [], _ => rfl
 | y :: W, S => by
  show aftL (riseE Ed) (riseL (imgL false (riseE Ed) S y)) W = aftL Ed (riseL (imgL false Ed S y)) W
  rw [aft_rise W, show riseL (imgL false (riseE Ed) S y) = riseL (imgL false Ed S y) from ssL_eq _ _ (riseL_ss _) (riseL_ss _) (fun x => by
   rw [riseL_iff, riseL_iff, imgL_iff, imgL_iff]
   simp only [riseE_iff])]
theorem ss_nodup {E : List EdT} (h : SsE E) : E.Nodup := h.imp fun {a b} q e => by
 subst e
 simp [ltE] at q
theorem br_long {N m : Nat} {Ed : List EdT} {Fi Bg : List Int} (hS : SsE Ed) (hF : ∀ e ∈ Ed, (0 ≤ e.1 ∧ e.1 < (N : Int)) ∧ (0 ≤ e.2.1 ∧ e.2.1 < (m : Int)) ∧ (0 ≤ e.2.2 ∧ e.2.2 < (N : Int))) : Ed.length ≤ (brL Ed Fi Bg m N).length :=
 nodup_len _ _ (ss_nodup hS) fun x hx => (mem_brL hF x).2 (.inl hx)
theorem bad_all {m : Int} : ∀ {L : List Int}, L.any (badS m) = false ↔ ∀ x ∈ L, 0 ≤ x ∧ x < m
 | [] => by simp
 | x :: L => by
  rw [List.any_cons, Bool.or_eq_false_iff, bad_all (L := L), List.forall_mem_cons]
  refine and_congr ?_ Iff.rfl
  unfold badS
  rw [decide_eq_false_iff_not]
  omega
def conA (n m n' m' : Int) (Sa Fa : List Int) (Ea : List EdT) (Sb Fb : List Int) (Eb : List EdT) : Ans := if unErr n m n' m' Sa Fa Ea Sb Fb Eb = 0 then behA (n' + n) m (if emptB (riseL Sa) (riseL Fa) then (riseL Sa) ++ movN (riseL Sb) n else (riseL Sa)) (if emptB (movN (riseL Sb) n) (movN (riseL Fb) n) then (riseL Fa) ++ movN (riseL Fb) n else movN (riseL Fb) n) (brL (riseE Ea) (riseL Fa) (movN (riseL Sb) n) m.toNat n.toNat) (movE (riseE Eb) n) else badA (unErr n m n' m' Sa Fa Ea Sb Fb Eb)
def staA (n m : Int) (Sa Fa : List Int) (Ea : List EdT) : Ans := if mayA n m Sa Fa Ea = true then (if n < 4096 then agaA (n + 1) m (movN (riseL Sa) 1) (movN (riseL Fa) 1) (brL (movE (riseE Ea) 1) (movN (riseL Fa) 1) (movN (riseL Sa) 1) m.toNat (n.toNat + 1)) else badA 8) else badA 2
def lefA (n m : Int) (Sa Fa : List Int) (Ea : List EdT) (Wd : List Int) : Ans := if wordErr n m Sa Fa Ea Wd = 0 then ⟨n, m, aftL Ea (riseL Sa) Wd, riseL Fa, riseE Ea, 0⟩ else badA (wordErr n m Sa Fa Ea Wd)
def onA (Wd : List Int) (s : Int) : Ans := if Wd.any (badS s) = true then badA 7 else if symOk s = true then (if Wd.length < 4096 then ⟨(Wd.length : Int) + 1, s, [0], [(Wd.length : Int)], oneE Wd, 0⟩ else badA 8) else badA 1
def alA (s : Int) : Ans := if symOk s = true then ⟨1, s, [0], [0], allE s.toNat, 0⟩ else badA 1
def noA (s : Int) : Ans := if symOk s = true then ⟨0, s, [], [], [], 0⟩ else badA 1
theorem mk_nat {n m : Int} {Sa Fa : List Int} {Ea : List EdT} (h : mayA n m Sa Fa Ea = true) : ∃ N m' : Nat, n = (N : Int) ∧ m = (m' : Int) ∧ N ≤ 4096 ∧ m' ≤ 128 := by
 obtain ⟨q1, q2, _⟩ := may_parts h
 exact ⟨n.toNat, m.toNat, by omega, by omega, by omega, by omega⟩
theorem un_cases (n m n' m' : Int) (Sa Fa : List Int) (Ea : List EdT) (Sb Fb : List Int) (Eb : List EdT) : (mayA n m Sa Fa Ea = false ∧ unErr n m n' m' Sa Fa Ea Sb Fb Eb = 2) ∨ (mayA n m Sa Fa Ea = true ∧ mayA n' m' Sb Fb Eb = false ∧ unErr n m n' m' Sa Fa Ea Sb Fb Eb = 2) ∨ (mayA n m Sa Fa Ea = true ∧ mayA n' m' Sb Fb Eb = true ∧ m ≠ m' ∧ unErr n m n' m' Sa Fa Ea Sb Fb Eb = 6) ∨ (mayA n m Sa Fa Ea = true ∧ mayA n' m' Sb Fb Eb = true ∧ m = m' ∧ 4096 < n + n' ∧ unErr n m n' m' Sa Fa Ea Sb Fb Eb = 8) ∨ (mayA n m Sa Fa Ea = true ∧ mayA n' m' Sb Fb Eb = true ∧ m = m' ∧ n + n' ≤ 4096 ∧ 65536 < (riseE Ea).length + (riseE Eb).length ∧ unErr n m n' m' Sa Fa Ea Sb Fb Eb = 8) ∨ (mayA n m Sa Fa Ea = true ∧ mayA n' m' Sb Fb Eb = true ∧ m = m' ∧ n + n' ≤ 4096 ∧ (riseE Ea).length + (riseE Eb).length ≤ 65536 ∧ unErr n m n' m' Sa Fa Ea Sb Fb Eb = 0) := by
 unfold unErr
 cases e1 : mayA n m Sa Fa Ea with
 | false => left; exact ⟨rfl, if_pos (.inl rfl)⟩
 | true =>
  cases e2 : mayA n' m' Sb Fb Eb with
  | false => right; left; exact ⟨rfl, rfl, if_pos (.inr rfl)⟩
  | true =>
   rw [if_neg (by simp)]
   by_cases e3 : m = m'
   · rw [if_neg (by simp [e3])]
     by_cases e4 : 4096 < n + n'
     · rw [if_pos e4]; right; right; right; left; exact ⟨rfl, rfl, e3, e4, rfl⟩
     · rw [if_neg e4]
       by_cases e5 : 65536 < (riseE Ea).length + (riseE Eb).length
       · rw [if_pos e5]; right; right; right; right; left; exact ⟨rfl, rfl, e3, by omega, e5, rfl⟩
       · rw [if_neg e5]; right; right; right; right; right; exact ⟨rfl, rfl, e3, by omega, by omega, rfl⟩
   · rw [if_pos e3]; right; right; left; exact ⟨rfl, rfl, e3, rfl⟩
theorem conA_bad {n m n' m' : Int} {Sa Fa : List Int} {Ea : List EdT} {Sb Fb : List Int} {Eb : List EdT} {er : Int} (h : unErr n m n' m' Sa Fa Ea Sb Fb Eb = er) (e0 : er ≠ 0) : conA n m n' m' Sa Fa Ea Sb Fb Eb = badA er := by
 unfold conA
 rw [h, if_neg e0]
theorem mk_uni (w : World) (n m : Int) (a1 a2 a3 : Option Addr) (c1 c2 c3 : Nat) (Sa Fa : List Int) (Ea : List EdT) (hA : Hid (RdA w a1 a2 a3 Sa Fa Ea)) (h1 : Sa.length ≤ 2000000) (h2 : Fa.length ≤ 2000000) (h3 : Ea.length ≤ 2000000) (n' m' : Int) (b1 b2 b3 : Option Addr) (d1 d2 d3 : Nat) (Sb Fb : List Int) (Eb : List EdT) (hB : Hid (RdA w b1 b2 b3 Sb Fb Eb)) (h4 : Sb.length ≤ 2000000) (h5 : Fb.length ≤ 2000000) (h6 : Eb.length ≤ 2000000) : Calls Tryz.prog 25 #[.agg #[.int .i64 n, .int .i64 m, .slice a1 Sa.length c1, .slice a2 Fa.length c2, .slice a3 Ea.length c3], .agg #[.int .i64 n', .int .i64 m', .slice b1 Sb.length d1, .slice b2 Fb.length d2, .slice b3 Eb.length d3]] w (AnsO w (uniAns n m n' m' Sa Fa Ea Sb Fb Eb)) := by
 exact union_made w n m n' m' a1 a2 a3 b1 b2 b3 c1 c2 c3 d1 d2 d3 Sa Fa Sb Fb Ea Eb hA hB (by omega) (by omega) (by omega) (by omega) (by omega) (by omega)
theorem mk_con (w : World) (n m : Int) (a1 a2 a3 : Option Addr) (c1 c2 c3 : Nat) (Sa Fa : List Int) (Ea : List EdT) (hA : Hid (RdA w a1 a2 a3 Sa Fa Ea)) (h1 : Sa.length ≤ 2000000) (h2 : Fa.length ≤ 2000000) (h3 : Ea.length ≤ 2000000) (n' m' : Int) (b1 b2 b3 : Option Addr) (d1 d2 d3 : Nat) (Sb Fb : List Int) (Eb : List EdT) (hB : Hid (RdA w b1 b2 b3 Sb Fb Eb)) (h4 : Sb.length ≤ 2000000) (h5 : Fb.length ≤ 2000000) (h6 : Eb.length ≤ 2000000) : Calls Tryz.prog 21 #[.agg #[.int .i64 n, .int .i64 m, .slice a1 Sa.length c1, .slice a2 Fa.length c2, .slice a3 Ea.length c3], .agg #[.int .i64 n', .int .i64 m', .slice b1 Sb.length d1, .slice b2 Fb.length d2, .slice b3 Eb.length d3]] w (AnsO w (conA n m n' m' Sa Fa Ea Sb Fb Eb)) := by
 rcases un_cases n m n' m' Sa Fa Ea Sb Fb Eb with ⟨e1, h⟩ | ⟨e1, e2, h⟩ | ⟨e1, e2, e3, h⟩ | ⟨e1, e2, e3, e4, h⟩ | ⟨e1, e2, e3, e4, e5, h⟩ | ⟨e1, e2, e3, e4, e5, h⟩
 · rw [conA_bad h (by decide)]; exact concat_a w n m n' m' a1 a2 a3 b1 b2 b3 c1 c2 c3 d1 d2 d3 Sa Fa Sb Fb Ea Eb hA hB h1 h2 h3 h4 h5 h6 e1
 · rw [conA_bad h (by decide)]; exact concat_b w n m n' m' a1 a2 a3 b1 b2 b3 c1 c2 c3 d1 d2 d3 Sa Fa Sb Fb Ea Eb hA hB h1 h2 h3 h4 h5 h6 e1 e2
 · rw [conA_bad h (by decide)]; exact concat_m w n m n' m' a1 a2 a3 b1 b2 b3 c1 c2 c3 d1 d2 d3 Sa Fa Sb Fb Ea Eb hA hB h1 h2 h3 h4 h5 h6 e1 e2 e3
 · rw [conA_bad h (by decide)]
   subst e3
   obtain ⟨N, k, rfl, rfl, _, _⟩ := mk_nat e1
   obtain ⟨M, _, rfl, _, _, _⟩ := mk_nat e2
   exact concat_big w N M k a1 a2 a3 b1 b2 b3 c1 c2 c3 d1 d2 d3 Sa Fa Sb Fb Ea Eb hA hB h1 h2 h3 h4 h5 h6 e1 e2 (by omega)
 · rw [conA_bad h (by decide)]
   subst e3
   obtain ⟨N, k, rfl, rfl, _, _⟩ := mk_nat e1
   obtain ⟨M, _, rfl, _, _, _⟩ := mk_nat e2
   have q := concat_fit w N M k a1 a2 a3 b1 b2 b3 c1 c2 c3 d1 d2 d3 Sa Fa Sb Fb Ea Eb hA hB h1 h2 h3 h4 h5 h6 e1 e2 (by omega)
   have l := br_long (Fi := riseL Fa) (Bg := movN (riseL Sb) N) (riseE_ss Ea) (may_parts (may_rise e1)).2.2.2.2.2
   unfold behA at q
   rw [movE_len, if_pos (by omega)] at q
   exact q
 · subst e3
   obtain ⟨N, k, rfl, rfl, _, _⟩ := mk_nat e1
   obtain ⟨M, _, rfl, _, _, _⟩ := mk_nat e2
   have q := concat_fit w N M k a1 a2 a3 b1 b2 b3 c1 c2 c3 d1 d2 d3 Sa Fa Sb Fb Ea Eb hA hB h1 h2 h3 h4 h5 h6 e1 e2 (by omega)
   unfold conA
   rw [if_pos h, Int.toNat_natCast, Int.toNat_natCast]
   exact q
theorem mk_sta (w : World) (n m : Int) (a1 a2 a3 : Option Addr) (c1 c2 c3 : Nat) (Sa Fa : List Int) (Ea : List EdT) (hA : Hid (RdA w a1 a2 a3 Sa Fa Ea)) (h1 : Sa.length ≤ 2000000) (h2 : Fa.length ≤ 2000000) (h3 : Ea.length ≤ 2000000) : Calls Tryz.prog 16 #[.agg #[.int .i64 n, .int .i64 m, .slice a1 Sa.length c1, .slice a2 Fa.length c2, .slice a3 Ea.length c3]] w (AnsO w (staA n m Sa Fa Ea)) := by
 unfold staA
 cases e1 : mayA n m Sa Fa Ea with
 | false => rw [if_neg (by simp)]; exact star_bad w n m a1 a2 a3 c1 c2 c3 Sa Fa Ea hA h1 h2 h3 e1
 | true =>
  rw [if_pos rfl]
  obtain ⟨N, k, rfl, rfl, _, _⟩ := mk_nat e1
  by_cases hN : N < 4096
  · rw [if_pos (by omega), Int.toNat_natCast, Int.toNat_natCast]
    exact star_fit w N k hN a1 a2 a3 c1 c2 c3 Sa Fa Ea hA h1 h2 h3 e1
  · rw [if_neg (by omega)]
    exact star_full w N k (by omega) a1 a2 a3 c1 c2 c3 Sa Fa Ea hA h1 h2 h3 e1
theorem mk_lef (w : World) (n m : Int) (a1 a2 a3 : Option Addr) (c1 c2 c3 : Nat) (Sa Fa : List Int) (Ea : List EdT) (hA : Hid (RdA w a1 a2 a3 Sa Fa Ea)) (h1 : Sa.length ≤ 2000000) (h2 : Fa.length ≤ 2000000) (h3 : Ea.length ≤ 2000000) (aw : Option Addr) (cw : Nat) (Wd : List Int) (hU : Hid (RdN w aw Wd)) (hw : Wd.length ≤ 2000000) (hT : Hid (TabAt w ∧ 0 < w.heap.size)) : Calls Tryz.prog 17 #[.slice aw Wd.length cw, .agg #[.int .i64 n, .int .i64 m, .slice a1 Sa.length c1, .slice a2 Fa.length c2, .slice a3 Ea.length c3]] w (AnsO w (lefA n m Sa Fa Ea Wd)) := by
 unfold lefA
 by_cases e0 : wordErr n m Sa Fa Ea Wd = 0
 · rw [if_pos e0]; exact left_good w n m a1 a2 a3 c1 c2 c3 Sa Fa Ea hA (by omega) (by omega) (by omega) aw cw Wd hU (by omega) hT e0
 · rw [if_neg e0]; exact left_err w n m a1 a2 a3 c1 c2 c3 Sa Fa Ea hA (by omega) (by omega) (by omega) aw cw Wd hU (by omega) _ e0 rfl
theorem sym_nat {s : Int} (h : symOk s = true) : ∃ k : Nat, s = (k : Int) ∧ k ≤ 128 := by
 unfold symOk at h
 rw [decide_eq_true_eq] at h
 exact ⟨s.toNat, by omega, by omega⟩
theorem mk_one (w : World) (aw : Option Addr) (cw : Nat) (Wd : List Int) (hU : Hid (RdN w aw Wd)) (hw : Wd.length ≤ 2000000) (s : Int) : Calls Tryz.prog 20 #[.slice aw Wd.length cw, .int .i64 s] w (AnsO w (onA Wd s)) := by
 unfold onA
 cases eb : Wd.any (badS s) with
 | true => rw [if_pos rfl]; exact one_word w aw cw Wd s hU (by omega) eb
 | false =>
  rw [if_neg (by simp)]
  cases es : symOk s with
  | false =>
   rw [if_neg (by simp)]
   exact one_syms w aw cw Wd s hU (by omega) eb es
  | true =>
   rw [if_pos rfl]
   by_cases hl : Wd.length < 4096
   · rw [if_pos hl]
     obtain ⟨k, rfl, hk⟩ := sym_nat es
     refine (one_ok w aw cw Wd.length k Wd (hide rfl) hU hl hk (hide (bad_all.1 eb))).mono ?_
     intro e w' h
     obtain ⟨b1, k1, b2, k2, b3, k3, he, ho⟩ := h
     have h : AnsO w ⟨(Wd.length : Int) + 1, (k : Int), [0], [(Wd.length : Int)], oneE Wd, 0⟩ e w' := ⟨b1, k1, b2, k2, b3, k3, by rw [he]; simp [oneE_len], hide (by
      show OwnO _ _ (.slice b1 1 k1) (.slice b2 1 k2) (.slice b3 (oneE Wd).length k3) _ _ _
      rw [oneE_len]
      exact ho.out.1), ho.out.2⟩
     exact h
   · rw [if_neg hl]
     exact one_size w aw cw Wd s hU (by omega) eb es (by omega)
theorem mk_all (w : World) (s : Int) : Calls Tryz.prog 22 #[.int .i64 s] w (AnsO w (alA s)) := by
 unfold alA
 cases es : symOk s with
 | false => rw [if_neg (by simp)]; exact all_err w s es
 | true =>
  rw [if_pos rfl]
  obtain ⟨k, rfl, hk⟩ := sym_nat es
  rw [Int.toNat_natCast]
  exact all_good w k hk
theorem mk_non (w : World) (s : Int) : Calls Tryz.prog 24 #[.int .i64 s] w (AnsO w (noA s)) := by
 unfold noA
 cases es : symOk s with
 | false => rw [if_neg (by simp)]; exact none_err w s es
 | true => rw [if_pos rfl]; exact none_good w s es
open Go.Shelf
def tkA (r : Ans) (W : List Int) : Bool := tkF r.n r.m r.s r.f r.e W
theorem un_zero {n m n' m' : Int} {Sa Fa : List Int} {Ea : List EdT} {Sb Fb : List Int} {Eb : List EdT} (h : unErr n m n' m' Sa Fa Ea Sb Fb Eb = 0) : mayA n m Sa Fa Ea = true ∧ mayA n' m' Sb Fb Eb = true ∧ m = m' ∧ n + n' ≤ 4096 ∧ (riseE Ea).length + (riseE Eb).length ≤ 65536 := by
 unfold unErr at h
 split at h
 · cases h
 · split at h
   · cases h
   · split at h
     · cases h
     · split at h
       · cases h
       · rename_i h1 h2 h3 h4
         exact ⟨by cases e : mayA n m Sa Fa Ea <;> simp_all, by cases e : mayA n' m' Sb Fb Eb <;> simp_all, by omega, by omega, by omega⟩
theorem empt_iff {S F : List Int} (h : ∀ x ∈ S, 0 ≤ x) : emptB S F = true ↔ ∃ x ∈ S, x ∈ F := by
 unfold emptB
 rw [List.any_eq_true]
 refine exists_congr fun x => and_congr_right fun hx => ?_
 unfold finB
 rw [decide_eq_true_eq, Int.toNat_of_nonneg (h x hx)]
theorem rch_from {E : List EdT} {n : Int} (hE : ∀ e ∈ E, 0 ≤ e.2.2 ∧ e.2.2 < n) : ∀ (W : List Int) (p q : Int), 0 ≤ p ∧ p < n → Rch E W p q → 0 ≤ q ∧ q < n
 | [], p, q, hp, h => by cases h; exact hp
 | _ :: W, _, q, _, ⟨r, hr, h⟩ => rch_from hE W r q (hE _ hr) h
theorem all_app {m : Int} {U V : List Int} : (U ++ V).all (inB m) = true ↔ U.all (inB m) = true ∧ V.all (inB m) = true := by
 rw [List.all_append, Bool.and_eq_true]
theorem tk_con {n m n' m' : Int} {Sa Fa : List Int} {Ea : List EdT} {Sb Fb : List Int} {Eb : List EdT} (h0 : (conA n m n' m' Sa Fa Ea Sb Fb Eb).er = 0) (W : List Int) : tkA (conA n m n' m' Sa Fa Ea Sb Fb Eb) W = true ↔ ∃ U V, W = U ++ V ∧ tkF n m Sa Fa Ea U = true ∧ tkF n' m' Sb Fb Eb V = true := by
 have hu : unErr n m n' m' Sa Fa Ea Sb Fb Eb = 0 := by
  by_cases e : unErr n m n' m' Sa Fa Ea Sb Fb Eb = 0
  · exact e
  · unfold conA at h0
    rw [if_neg e] at h0
    exact h0
 obtain ⟨em, em', rfl, hnn, _⟩ := un_zero hu
 unfold conA at h0 ⊢
 rw [if_pos hu] at h0 ⊢
 obtain ⟨N, k, rfl, rfl, hN, hk⟩ := mk_nat em
 obtain ⟨M, _, rfl, _, hM, _⟩ := mk_nat em'
 simp only [Int.toNat_natCast] at h0 ⊢
 have r1 := may_rise em
 have r2 := may_rise em'
 have p1 := may_parts r1
 have p2 := may_parts r2
 have s1 := may_st r1
 have s2 := may_st r2
 simp only [tkF_iff (n := (N : Int)), tkF_iff (n := (M : Int))]
 have tr1 : ∀ U, Tak Sa Fa Ea U ↔ Tak (riseL Sa) (riseL Fa) (riseE Ea) U := fun U => tak_rise.symm
 have tr2 : ∀ U, Tak Sb Fb Eb U ↔ Tak (riseL Sb) (riseL Fb) (riseE Eb) U := fun U => tak_rise.symm
 simp only [tr1, tr2]
 have hB := mem_brL (Fi := riseL Fa) (Bg := movN (riseL Sb) (N : Int)) p1.2.2.2.2.2
 have emp1 := empt_iff (F := riseL Fa) (fun x hx => (s1.1 x hx).1)
 have emp2 := empt_iff (S := movN (riseL Sb) (N : Int)) (F := movN (riseL Fb) (N : Int)) (fun x hx => by have := (s2.1 _ (mem_mov.1 hx)).1; omega)
 unfold behA at h0 ⊢
 by_cases hbig : 65536 < (brL (riseE Ea) (riseL Fa) (movN (riseL Sb) (N : Int)) k N).length + (movE (riseE Eb) (N : Int)).length
 · rw [if_pos hbig] at h0
   cases h0
 rw [if_neg hbig]
 unfold tkA
 simp only
 rw [tkF_iff]
 generalize brL (riseE Ea) (riseL Fa) (movN (riseL Sb) (N : Int)) k N = Br at *
 generalize riseL Sa = S1 at *
 generalize riseL Fa = F1 at *
 generalize riseE Ea = E1 at *
 generalize riseL Sb = S2 at *
 generalize riseL Fb = F2 at *
 generalize riseE Eb = E2 at *
 have hE1 : ∀ e ∈ E1, e.1 < (N : Int) ∧ e.2.2 < (N : Int) := fun e he => by have := p1.2.2.2.2.2 e he; omega
 have hE2 : ∀ e ∈ E2, 0 ≤ e.1 ∧ 0 ≤ e.2.2 := fun e he => by have := p2.2.2.2.2.2 e he; omega
 have hlo := rch_con hB hE1 hE2 (fun x hx => (s2.1 x hx).1)
 have hBr : ∀ e ∈ Br, e.1 < (N : Int) := by
  intro e he
  rcases (hB e).1 he with h | ⟨⟨q, h, _⟩, _⟩
  · exact (hE1 e h).1
  · exact (hE1 _ h).1
 have hhi : ∀ (W : List Int) (p q : Int), (N : Int) ≤ p → (Rch (Br ++ movE E2 (N : Int)) W p q ↔ Rch E2 W (p - N) (q - N)) := rch_high hBr (fun e he => (hE2 e he).2)
 have in1 := rch_from (n := (N : Int)) (E := E1) (fun e he => by have := p1.2.2.2.2.2 e he; omega)
 have in2 := rch_from (n := (M : Int)) (E := E2) (fun e he => by have := p2.2.2.2.2.2 e he; omega)
 constructor
 · rintro ⟨_, hw, p, hp, q, hq, hr⟩
   have hp2 : (p ∈ S1) ∨ (p - N ∈ S2 ∧ ∃ x ∈ S1, x ∈ F1) := by
    by_cases e : emptB S1 F1 = true
    · rw [if_pos e] at hp
      rcases List.mem_append.1 hp with h | h
      · exact .inl h
      · exact .inr ⟨mem_mov.1 h, emp1.1 e⟩
    · rw [if_neg e] at hp
      exact .inl hp
   have hq2 : (q ∈ F1 ∧ ∃ x, x ∈ S2 ∧ x ∈ F2) ∨ q - N ∈ F2 := by
    by_cases e : emptB (movN S2 (N : Int)) (movN F2 (N : Int)) = true
    · rw [if_pos e] at hq
      rcases List.mem_append.1 hq with h | h
      · obtain ⟨x, x1, x2⟩ := emp2.1 e
        exact .inl ⟨h, x - N, mem_mov.1 x1, mem_mov.1 x2⟩
      · exact .inr (mem_mov.1 h)
    · rw [if_neg e] at hq
      exact .inr (mem_mov.1 hq)
   rcases hp2 with hp2 | ⟨hp2, x0, hx1, hx2⟩
   · have lp := s1.1 p hp2
     rcases (hlo W p q lp.2).1 hr with h | ⟨U, V, f, x, rfl, u1, u2, u3, u4, u5⟩
     · have lq := in1 W p q lp h
       rcases hq2 with ⟨q1, x, x1, x2⟩ | q1
       · exact ⟨W, [], by simp, ⟨em, hw, p, hp2, q, q1, h⟩, em', by simp, x, x1, x, x2, rfl⟩
       · have := (s2.2 _ q1).1
         omega
     · have lq := in2 V x _ (s2.1 x u4) u5
       rcases hq2 with ⟨q1, _⟩ | q1
       · have := (s1.2 _ q1).2
         omega
       · obtain ⟨w1, w2⟩ := all_app.1 hw
         exact ⟨U, V, rfl, ⟨em, w1, p, hp2, f, u3, u2⟩, em', w2, x, u4, q - N, q1, u5⟩
   · have lp := s2.1 _ hp2
     have h := (hhi W p q (by omega)).1 hr
     have lq := in2 W _ _ lp h
     rcases hq2 with ⟨q1, _⟩ | q1
     · have := (s1.2 _ q1).2
       omega
     · exact ⟨[], W, rfl, ⟨em, by simp, x0, hx1, x0, hx2, rfl⟩, em', hw, p - N, hp2, q - N, q1, h⟩
 · rintro ⟨U, V, rfl, ⟨_, w1, p, hp, f, hf, hr⟩, ⟨_, w2, x, hx, g, hg, hr2⟩⟩
   have hfin : g + N ∈ (if emptB (movN S2 (N : Int)) (movN F2 (N : Int)) = true then F1 ++ movN F2 (N : Int) else movN F2 (N : Int)) := by
    have : g + (N : Int) ∈ movN F2 (N : Int) := mem_mov.2 (by rw [show g + (N : Int) - N = g by omega]; exact hg)
    split
    · exact List.mem_append_right _ this
    · exact this
   refine ⟨?_, all_app.2 ⟨w1, w2⟩, ?_⟩
   · refine may_of (by omega) (by omega) (by rw [List.length_append]; omega) (fun y hy => ?_) (fun y hy => ?_) (fun e he => ?_)
     · split at hy
       · rcases List.mem_append.1 hy with h | h
         · have := s1.1 y h; omega
         · have := s2.1 _ (mem_mov.1 h); omega
       · have := s1.1 y hy; omega
     · split at hy
       · rcases List.mem_append.1 hy with h | h
         · have := s1.2 y h; omega
         · have := s2.2 _ (mem_mov.1 h); omega
       · have := s2.2 _ (mem_mov.1 hy); omega
     · rcases List.mem_append.1 he with h | h
       · rcases (hB e).1 h with h | ⟨⟨q, h, _⟩, h3⟩
         · have := p1.2.2.2.2.2 e h; omega
         · have a1 := p1.2.2.2.2.2 _ h
           have a2 := s2.1 _ (mem_mov.1 h3)
           simp only at a1
           omega
       · unfold movE at h
         obtain ⟨e', he', rfl⟩ := List.mem_map.1 h
         have := p2.2.2.2.2.2 e' he'
         simp only
         omega
   · by_cases hU : U = []
     · subst hU
       cases hr
       have e : emptB S1 F1 = true := emp1.2 ⟨p, hp, hf⟩
       rw [if_pos e]
       have lx := s2.1 x hx
       refine ⟨x + N, List.mem_append_right _ (mem_mov.2 (by rw [show x + (N : Int) - N = x by omega]; exact hx)), g + N, hfin, (hhi _ _ _ (by omega)).2 ?_⟩
       rw [show x + (N : Int) - N = x by omega, show g + (N : Int) - N = g by omega]
       exact hr2
     · refine ⟨p, ?_, g + N, hfin, (hlo _ p _ (s1.1 p hp).2).2 (.inr ⟨U, V, f, x, rfl, hU, hr, hf, hx, by rw [show g + (N : Int) - N = g by omega]; exact hr2⟩)⟩
       split
       · exact List.mem_append_left _ hp
       · exact hp
theorem stk_mono {L L' : List Int → Prop} {W : List Int} (h : Stk L W) : ∀ {m : Int}, W.all (inB m) = true → (∀ U, U.all (inB m) = true → L U → L' U) → Stk L' W := by
 induction h with
 | nil => intro m _ _; exact .nil
 | cons h1 h2 _ ih =>
  intro m hW q
  obtain ⟨w1, w2⟩ := all_app.1 hW
  exact .cons h1 (q _ w1 h2) (ih w2 q)
theorem tk_sta {n m : Int} {Sa Fa : List Int} {Ea : List EdT} (h0 : (staA n m Sa Fa Ea).er = 0) (W : List Int) (hW : W.all (inB m) = true) : tkA (staA n m Sa Fa Ea) W = true ↔ Stk (fun U => tkF n m Sa Fa Ea U = true) W := by
 unfold staA at h0 ⊢
 by_cases em : mayA n m Sa Fa Ea = true
 case neg => rw [if_neg em] at h0; cases h0
 rw [if_pos em] at h0 ⊢
 by_cases hn : n < 4096
 case neg => rw [if_neg hn] at h0; cases h0
 rw [if_pos hn] at h0 ⊢
 obtain ⟨N, k, rfl, rfl, hN, hk⟩ := mk_nat em
 simp only [Int.toNat_natCast] at h0 ⊢
 have r1 := may_rise em
 have p1 := may_parts r1
 have s1 := may_st r1
 have tr1 : ∀ U, Tak Sa Fa Ea U ↔ Tak (riseL Sa) (riseL Fa) (riseE Ea) U := fun U => tak_rise.symm
 have hF : ∀ e ∈ movE (riseE Ea) 1, (0 ≤ e.1 ∧ e.1 < ((N + 1 : Nat) : Int)) ∧ (0 ≤ e.2.1 ∧ e.2.1 < (k : Int)) ∧ (0 ≤ e.2.2 ∧ e.2.2 < ((N + 1 : Nat) : Int)) := by
  intro e he
  unfold movE at he
  obtain ⟨e', he', rfl⟩ := List.mem_map.1 he
  have := p1.2.2.2.2.2 e' he'
  simp only
  omega
 have hF1 : ∀ e ∈ movE (riseE Ea) 1, 1 ≤ e.1 ∧ 1 ≤ e.2.2 := by
  intro e he
  unfold movE at he
  obtain ⟨e', he', rfl⟩ := List.mem_map.1 he
  have := p1.2.2.2.2.2 e' he'
  simp only
  omega
 have hB := mem_brL (Fi := movN (riseL Fa) 1) (Bg := movN (riseL Sa) 1) hF
 unfold agaA at h0 ⊢
 by_cases hbig : 65536 < (brL (movE (riseE Ea) 1) (movN (riseL Fa) 1) (movN (riseL Sa) 1) k (N + 1)).length
 · rw [if_pos hbig] at h0; cases h0
 rw [if_neg hbig]
 unfold tkA
 simp only
 rw [tkF_iff]
 have sm : ∀ x ∈ movN (riseL Sa) 1, 1 ≤ x ∧ x < (N : Int) + 1 := fun x hx => by have := s1.1 _ (mem_mov.1 hx); omega
 have fm : ∀ x ∈ movN (riseL Fa) 1, 1 ≤ x ∧ x < (N : Int) + 1 := fun x hx => by have := s1.2 _ (mem_mov.1 hx); omega
 have tk1 : ∀ U, Tak (movN (riseL Sa) 1) (movN (riseL Fa) 1) (movE (riseE Ea) 1) U ↔ Tak Sa Fa Ea U := by
  intro U
  rw [tr1]
  unfold Tak
  constructor
  · rintro ⟨p, hp, q, hq, hr⟩
    exact ⟨p - 1, mem_mov.1 hp, q - 1, mem_mov.1 hq, (rch_shift U p q).1 hr⟩
  · rintro ⟨p, hp, q, hq, hr⟩
    refine ⟨p + 1, mem_mov.2 (by rw [show p + 1 - 1 = p by omega]; exact hp), q + 1, mem_mov.2 (by rw [show q + 1 - 1 = q by omega]; exact hq), (rch_shift U _ _).2 ?_⟩
    rw [show p + 1 - 1 = p by omega, show q + 1 - 1 = q by omega]
    exact hr
 generalize brL (movE (riseE Ea) 1) (movN (riseL Fa) 1) (movN (riseL Sa) 1) k (N + 1) = Br at *
 generalize movN (riseL Sa) 1 = S at *
 generalize movN (riseL Fa) 1 = F at *
 generalize movE (riseE Ea) 1 = E at *
 have hBr : ∀ e ∈ Br, 1 ≤ e.1 ∧ 1 ≤ e.2.2 := by
  intro e he
  rcases (hB e).1 he with h | ⟨⟨q, h, _⟩, h2⟩
  · exact hF1 e h
  · exact ⟨(hF1 _ h).1, (sm _ h2).1⟩
 have up : ∀ (W : List Int) (p q : Int), 1 ≤ p → Rch Br W p q → 1 ≤ q := by
  intro W
  induction W with
  | nil => intro p q hp h; cases h; exact hp
  | cons y W ih => intro p q _ ⟨r, hr, h⟩; exact ih r q (hBr _ hr).2 h
 have hT : Tak ([0] ++ S) ([0] ++ F) Br W ↔ W = [] ∨ Tak S F Br W := by
  unfold Tak
  constructor
  · rintro ⟨p, hp, q, hq, hr⟩
    rcases List.mem_append.1 hp with h | h
    · rw [List.mem_singleton] at h
      subst h
      cases W with
      | nil => exact .inl rfl
      | cons y W =>
       obtain ⟨r, hr, _⟩ := hr
       have := (hBr _ hr).1
       simp only at this
       omega
    · rcases List.mem_append.1 hq with h2 | h2
      · rw [List.mem_singleton] at h2
        subst h2
        have := up W p 0 (sm p h).1 hr
        omega
      · exact .inr ⟨p, h, q, h2, hr⟩
  · rintro (rfl | ⟨p, hp, q, hq, hr⟩)
    · exact ⟨0, by simp, 0, by simp, rfl⟩
    · exact ⟨p, List.mem_append_right _ hp, q, List.mem_append_right _ hq, hr⟩
 have hmay : mayA ((N : Int) + 1) (k : Int) ([0] ++ S) ([0] ++ F) Br = true := by
  refine may_of (by omega) (by omega) (by omega) (fun x hx => ?_) (fun x hx => ?_) (fun e he => ?_)
  · rcases List.mem_append.1 hx with h | h
    · rw [List.mem_singleton] at h; omega
    · have := sm x h; omega
  · rcases List.mem_append.1 hx with h | h
    · rw [List.mem_singleton] at h; omega
    · have := fm x h; omega
  · rcases (hB e).1 he with h | ⟨⟨q, h, _⟩, h2⟩
    · have := hF e h; omega
    · have a := hF _ h
      have b := sm _ h2
      simp only at a
      omega
 constructor
 · rintro ⟨_, _, h⟩
   refine stk_mono ((sta_words hB W.length W (Nat.le_refl _)).1 (hT.1 h)) hW (fun U hU h => ?_)
   exact tkF_iff.2 ⟨em, hU, (tk1 U).1 h⟩
 · intro h
   refine ⟨hmay, hW, hT.2 ((sta_words hB W.length W (Nat.le_refl _)).2 (stk_mono h hW (fun U _ h => ?_)))⟩
   exact (tk1 U).2 (tkF_iff.1 h).2.2
theorem tk_lef {n m : Int} {Sa Fa : List Int} {Ea : List EdT} {V : List Int} (h0 : (lefA n m Sa Fa Ea V).er = 0) (W : List Int) : tkA (lefA n m Sa Fa Ea V) W = tkF n m Sa Fa Ea (V ++ W) := by
 unfold lefA at h0 ⊢
 by_cases e : wordErr n m Sa Fa Ea V = 0
 case neg => rw [if_neg e] at h0; exact absurd h0 e
 rw [if_pos e]
 obtain ⟨em, hV⟩ := wordErr_iff.1 e
 unfold tkA
 simp only
 rw [Bool.eq_iff_iff, tkF_iff, tkF_iff]
 have p1 := may_parts em
 have s1 := may_st em
 have in1 := rch_from (E := Ea) (n := n) (fun e he => by have := p1.2.2.2.2.2 e he; omega)
 have hmay : mayA n m (aftL Ea (riseL Sa) V) (riseL Fa) (riseE Ea) = true := by
  have r := may_parts (may_rise em)
  refine may_of p1.1 p1.2.1 r.2.2.1 (fun x hx => ?_) (may_st (may_rise em)).2 r.2.2.2.2.2
  obtain ⟨p, hp, hr⟩ := (aftL_iff V _ x).1 hx
  exact in1 V p x (s1.1 p ((riseL_iff _ _).1 hp)) hr
 rw [all_app]
 constructor
 · rintro ⟨_, hw, p, hp, q, hq, hr⟩
   obtain ⟨p0, hp0, hr0⟩ := (aftL_iff V _ p).1 hp
   exact ⟨em, ⟨hV, hw⟩, p0, (riseL_iff _ _).1 hp0, q, (riseL_iff _ _).1 hq, (rch_app V W p0 q).2 ⟨p, hr0, (rch_rise W p q).1 hr⟩⟩
 · rintro ⟨_, ⟨_, hw⟩, p, hp, q, hq, hr⟩
   obtain ⟨r, r1, r2⟩ := (rch_app V W p q).1 hr
   exact ⟨hmay, hw, r, (aftL_iff V _ r).2 ⟨p, (riseL_iff _ _).2 hp, r1⟩, q, (riseL_iff _ _).2 hq, (rch_rise W r q).2 r2⟩
theorem mem_oneE {V : List Int} {a s r : Int} : (a, s, r) ∈ oneE V ↔ ∃ k : Nat, V[k]? = some s ∧ a = (k : Int) ∧ r = (k : Int) + 1 := by
 unfold oneE
 rw [List.mem_map]
 constructor
 · rintro ⟨⟨x, k⟩, h, e⟩
   rw [List.mem_zipIdx_iff_getElem?] at h
   simp only [Prod.mk.injEq] at e
   obtain ⟨rfl, rfl, rfl⟩ := e
   exact ⟨k, h, rfl, rfl⟩
 · rintro ⟨k, h, rfl, rfl⟩
   exact ⟨(s, k), List.mem_zipIdx_iff_getElem?.2 h, rfl⟩
theorem rch_one {V : List Int} : ∀ (W : List Int) (i : Nat) (q : Int), i ≤ V.length → (Rch (oneE V) W (i : Int) q ↔ ∃ T, V.drop i = W ++ T ∧ q = ((i + W.length : Nat) : Int))
 | [], i, q, _ => by
  simp only [Rch, List.nil_append, List.length_nil, Nat.add_zero]
  exact ⟨fun h => ⟨V.drop i, rfl, h.symm⟩, fun ⟨_, _, h⟩ => h.symm⟩
 | y :: W, i, q, hi => by
  simp only [Rch]
  constructor
  · rintro ⟨r, hr, hR⟩
    obtain ⟨k, h1, h2, rfl⟩ := mem_oneE.1 hr
    obtain rfl : k = i := by omega
    obtain ⟨hk, h1⟩ := List.getElem?_eq_some_iff.1 h1
    obtain ⟨T, e1, e2⟩ := (rch_one W (k + 1) q hk).1 (by rw [Int.natCast_add]; exact hR)
    refine ⟨T, ?_, ?_⟩
    · rw [List.drop_eq_getElem_cons hk, h1, e1, List.cons_append]
    · rw [e2, List.length_cons]; omega
  · rintro ⟨T, e1, e2⟩
    have hk : i < V.length := by
     by_cases h : i < V.length
     · exact h
     · rw [List.drop_eq_nil_of_le (by omega)] at e1
       cases e1
    rw [List.drop_eq_getElem_cons hk, List.cons_append] at e1
    injection e1 with e3 e4
    refine ⟨(i : Int) + 1, mem_oneE.2 ⟨i, by rw [List.getElem?_eq_getElem hk, e3], rfl, rfl⟩, ?_⟩
    have := (rch_one W (i + 1) q hk).2 ⟨T, e4, by rw [e2, List.length_cons]; omega⟩
    rwa [Int.natCast_add] at this
theorem tk_one {V : List Int} {s : Int} (h0 : (onA V s).er = 0) (W : List Int) : tkA (onA V s) W = true ↔ W = V := by
 unfold onA at h0 ⊢
 by_cases e1 : V.any (badS s) = true
 · rw [if_pos e1] at h0; cases h0
 rw [if_neg e1] at h0 ⊢
 by_cases e2 : symOk s = true
 case neg => rw [if_neg e2] at h0; cases h0
 rw [if_pos e2] at h0 ⊢
 by_cases e3 : V.length < 4096
 case neg => rw [if_neg e3] at h0; cases h0
 rw [if_pos e3]
 have hV := bad_all.1 (Bool.eq_false_iff.2 e1)
 have hs : 0 ≤ s ∧ s ≤ 128 := by unfold symOk at e2; simpa using e2
 unfold tkA
 simp only
 rw [tkF_iff]
 unfold Tak
 constructor
 · rintro ⟨_, _, p, hp, q, hq, hr⟩
   rw [List.mem_singleton] at hp hq
   subst hp hq
   obtain ⟨T, e4, e5⟩ := (rch_one W 0 _ (Nat.zero_le _)).1 hr
   rw [List.drop_zero] at e4
   have : T = [] := by
    apply List.eq_nil_of_length_eq_zero
    have := congrArg List.length e4
    rw [List.length_append] at this
    omega
   rw [e4, this, List.append_nil]
 · rintro rfl
   refine ⟨may_of (by omega) (by omega) (by rw [oneE_len]; omega) (fun x hx => by rw [List.mem_singleton] at hx; omega) (fun x hx => by rw [List.mem_singleton] at hx; omega) (fun e he => ?_), all_rng.2 hV, 0, by simp, (W.length : Int), by simp, (rch_one W 0 _ (Nat.zero_le _)).2 ⟨[], by simp, by simp⟩⟩
   obtain ⟨k, h1, h2, h3⟩ := mem_oneE.1 (show (e.1, e.2.1, e.2.2) ∈ oneE W from he)
   have hk := (List.getElem?_eq_some_iff.1 h1).1
   have := hV _ (List.mem_of_getElem? h1)
   omega
theorem tk_all {s : Int} (h0 : (alA s).er = 0) (W : List Int) (hW : W.all (inB s) = true) : tkA (alA s) W = true := by
 unfold alA at h0 ⊢
 by_cases e2 : symOk s = true
 case neg => rw [if_neg e2] at h0; cases h0
 rw [if_pos e2]
 obtain ⟨k, rfl, hk⟩ := sym_nat e2
 unfold tkA
 simp only
 rw [tkF_iff]
 have hm : ∀ e, e ∈ allE k ↔ ∃ j : Nat, j < k ∧ e = (0, (j : Int), 0) := by
  intro e
  unfold allE
  simp only [List.mem_map, List.mem_range]
  exact exists_congr fun j => and_congr_right fun _ => eq_comm
 rw [Int.toNat_natCast]
 refine ⟨may_of (by omega) (by omega) (by rw [allE_len]; omega) (fun x hx => by rw [List.mem_singleton] at hx; omega) (fun x hx => by rw [List.mem_singleton] at hx; omega) (fun e he => ?_), hW, 0, by simp, 0, by simp, ?_⟩
 · obtain ⟨j, hj, rfl⟩ := (hm e).1 he
   simp only
   omega
 · have hw := all_rng.1 hW
   clear hW
   induction W with
   | nil => rfl
   | cons y W ih =>
    obtain ⟨y0, y1⟩ := hw y (by simp)
    obtain ⟨j, rfl⟩ := Int.eq_ofNat_of_zero_le y0
    exact ⟨0, (hm _).2 ⟨j, by omega, rfl⟩, ih (fun x hx => hw x (by simp [hx]))⟩
theorem may_con {n m n' m' : Int} {Sa Fa : List Int} {Ea : List EdT} {Sb Fb : List Int} {Eb : List EdT} (h0 : (conA n m n' m' Sa Fa Ea Sb Fb Eb).er = 0) : mayA (conA n m n' m' Sa Fa Ea Sb Fb Eb).n (conA n m n' m' Sa Fa Ea Sb Fb Eb).m (conA n m n' m' Sa Fa Ea Sb Fb Eb).s (conA n m n' m' Sa Fa Ea Sb Fb Eb).f (conA n m n' m' Sa Fa Ea Sb Fb Eb).e = true ∧ (conA n m n' m' Sa Fa Ea Sb Fb Eb).m = m := by
 have hu : unErr n m n' m' Sa Fa Ea Sb Fb Eb = 0 := by
  by_cases e : unErr n m n' m' Sa Fa Ea Sb Fb Eb = 0
  · exact e
  · unfold conA at h0
    rw [if_neg e] at h0
    exact h0
 obtain ⟨em, em', rfl, hnn, _⟩ := un_zero hu
 unfold conA at h0 ⊢
 rw [if_pos hu] at h0 ⊢
 obtain ⟨N, k, rfl, rfl, hN, hk⟩ := mk_nat em
 obtain ⟨M, _, rfl, _, hM, _⟩ := mk_nat em'
 simp only [Int.toNat_natCast] at h0 ⊢
 have r1 := may_rise em
 have r2 := may_rise em'
 have p1 := may_parts r1
 have p2 := may_parts r2
 have s1 := may_st r1
 have s2 := may_st r2
 have hB := mem_brL (Fi := riseL Fa) (Bg := movN (riseL Sb) (N : Int)) p1.2.2.2.2.2
 unfold behA at h0 ⊢
 by_cases hbig : 65536 < (brL (riseE Ea) (riseL Fa) (movN (riseL Sb) (N : Int)) k N).length + (movE (riseE Eb) (N : Int)).length
 · rw [if_pos hbig] at h0
   cases h0
 rw [if_neg hbig]
 simp only
 refine ⟨?_, trivial⟩
 generalize brL (riseE Ea) (riseL Fa) (movN (riseL Sb) (N : Int)) k N = Br at *
 generalize riseL Sa = S1 at *
 generalize riseL Fa = F1 at *
 generalize riseE Ea = E1 at *
 generalize riseL Sb = S2 at *
 generalize riseL Fb = F2 at *
 generalize riseE Eb = E2 at *
 refine may_of (by omega) (by omega) (by rw [List.length_append]; omega) (fun y hy => ?_) (fun y hy => ?_) (fun e he => ?_)
 · split at hy
   · rcases List.mem_append.1 hy with h | h
     · have := s1.1 y h; omega
     · have := s2.1 _ (mem_mov.1 h); omega
   · have := s1.1 y hy; omega
 · split at hy
   · rcases List.mem_append.1 hy with h | h
     · have := s1.2 y h; omega
     · have := s2.2 _ (mem_mov.1 h); omega
   · have := s2.2 _ (mem_mov.1 hy); omega
 · rcases List.mem_append.1 he with h | h
   · rcases (hB e).1 h with h | ⟨⟨q, h, _⟩, h3⟩
     · have := p1.2.2.2.2.2 e h; omega
     · have a1 := p1.2.2.2.2.2 _ h
       have a2 := s2.1 _ (mem_mov.1 h3)
       simp only at a1
       omega
   · unfold movE at h
     obtain ⟨e', he', rfl⟩ := List.mem_map.1 h
     have := p2.2.2.2.2.2 e' he'
     simp only
     omega
theorem aft_app (E : List EdT) (S U V : List Int) : aftL E S (U ++ V) = aftL E (aftL E S U) V := by unfold aftL; rw [List.foldl_append]
theorem rise_aft (E : List EdT) (S W : List Int) : riseL (aftL E (riseL S) W) = aftL E (riseL S) W := by
 rcases List.eq_nil_or_concat W with rfl | ⟨U, y, rfl⟩
 · exact riseL_idem S
 · rw [List.concat_eq_append, aft_app]
   exact riseL_idem _
theorem may_lef {n m : Int} {Sa Fa : List Int} {Ea : List EdT} {V : List Int} (em : mayA n m Sa Fa Ea = true) : mayA n m (aftL Ea (riseL Sa) V) (riseL Fa) (riseE Ea) = true := by
 have p1 := may_parts em
 have s1 := may_st em
 have in1 := rch_from (E := Ea) (n := n) (fun e he => by have := p1.2.2.2.2.2 e he; omega)
 have r := may_parts (may_rise em)
 refine may_of p1.1 p1.2.1 r.2.2.1 (fun x hx => ?_) (may_st (may_rise em)).2 r.2.2.2.2.2
 obtain ⟨p, hp, hr⟩ := (aftL_iff V _ x).1 hx
 exact in1 V p x (s1.1 p ((riseL_iff _ _).1 hp)) hr
theorem lef_is {n m : Int} {Sa Fa : List Int} {Ea : List EdT} {W : List Int} (em : mayA n m Sa Fa Ea = true) (hW : W.all (inB m) = true) : lefA n m Sa Fa Ea W = ⟨n, m, aftL Ea (riseL Sa) W, riseL Fa, riseE Ea, 0⟩ := by
 unfold lefA
 rw [if_pos (wordErr_iff.2 ⟨em, hW⟩)]
theorem lef_lef {n m : Int} {Sa Fa : List Int} {Ea : List EdT} {W V : List Int} (em : mayA n m Sa Fa Ea = true) (hW : W.all (inB m) = true) (hV : V.all (inB m) = true) : lefA n m (aftL Ea (riseL Sa) W) (riseL Fa) (riseE Ea) V = lefA n m Sa Fa Ea (W ++ V) := by
 rw [lef_is (may_lef em) hV, lef_is em (all_app.2 ⟨hW, hV⟩), aft_rise, rise_aft, aft_app, riseL_idem, riseE_idem]
theorem goes_con {n m : Int} {Sa Fa : List Int} {Ea : List EdT} {W V : List Int} (hW : W.all (inB m) = true) {o c : Ans} (ho : onA W m = o) (h1 : o.er = 0) (hc : conA o.n o.m n m o.s o.f o.e Sa Fa Ea = c) (h2 : c.er = 0) : (lefA c.n c.m c.s c.f c.e W).er = 0 ∧ tkA (lefA c.n c.m c.s c.f c.e W) V = tkF n m Sa Fa Ea V := by
 subst hc
 obtain ⟨k1, k2⟩ := may_con h2
 have om : o.m = m := by
  rw [← ho] at h1 ⊢
  unfold onA at h1 ⊢
  split
  · rename_i e; rw [if_pos e] at h1; cases h1
  · rename_i e
    rw [if_neg e] at h1
    split
    · rename_i e2
      rw [if_pos e2] at h1
      split
      · rfl
      · rename_i e3; rw [if_neg e3] at h1; cases h1
    · rename_i e2; rw [if_neg e2] at h1; cases h1
 have hl : (lefA (conA o.n o.m n m o.s o.f o.e Sa Fa Ea).n (conA o.n o.m n m o.s o.f o.e Sa Fa Ea).m (conA o.n o.m n m o.s o.f o.e Sa Fa Ea).s (conA o.n o.m n m o.s o.f o.e Sa Fa Ea).f (conA o.n o.m n m o.s o.f o.e Sa Fa Ea).e W).er = 0 := by
  rw [lef_is k1 (by rw [k2, om]; exact hW)]
 refine ⟨hl, ?_⟩
 have q := tk_con h2 (W ++ V)
 rw [tk_lef hl V, Bool.eq_iff_iff]
 refine (show tkF _ _ _ _ _ (W ++ V) = true ↔ _ from q).trans ?_
 have hone : ∀ U, tkF o.n o.m o.s o.f o.e U = true ↔ U = W := fun U => by
  have q2 := tk_one (V := W) (s := m) (by rw [ho]; exact h1) U
  rw [ho] at q2
  exact q2
 constructor
 · rintro ⟨U, X, e, u1, u2⟩
   rw [hone] at u1
   subst u1
   rw [List.append_cancel_left e]
   exact u2
 · exact fun h => ⟨W, V, rfl, (hone W).2 rfl, h⟩
theorem stk_stk {L : List Int → Prop} {W : List Int} : Stk (Stk L) W ↔ Stk L W := by
 constructor
 · intro h
   induction h with
   | nil => exact .nil
   | cons _ h2 _ ih => exact h2.app ih
 · intro h
   by_cases e : W = []
   · subst e; exact .nil
   · have := Stk.cons e h (Stk.nil (L := Stk L))
     rwa [List.append_nil] at this
theorem sta_m {n m : Int} {Sa Fa : List Int} {Ea : List EdT} (h0 : (staA n m Sa Fa Ea).er = 0) : (staA n m Sa Fa Ea).m = m := by
 unfold staA agaA at h0 ⊢
 split
 · rename_i e
   rw [if_pos e] at h0
   split
   · rename_i e2
     rw [if_pos e2] at h0
     split
     · rename_i e3; rw [if_pos e3] at h0; cases h0
     · rfl
   · rename_i e2; rw [if_neg e2] at h0; cases h0
 · rename_i e; rw [if_neg e] at h0; cases h0
theorem goes_sta {n m : Int} {Sa Fa : List Int} {Ea : List EdT} {V : List Int} (hV : V.all (inB m) = true) {s t : Ans} (hs : staA n m Sa Fa Ea = s) (h1 : s.er = 0) (ht : staA s.n s.m s.s s.f s.e = t) (h2 : t.er = 0) : tkA s V = tkA t V := by
 subst hs ht
 have sm := sta_m h1
 have hV2 : V.all (inB (staA n m Sa Fa Ea).m) = true := by rw [sm]; exact hV
 rw [Bool.eq_iff_iff, tk_sta h1 V hV, tk_sta h2 V hV2, ← stk_stk]
 constructor
 · exact fun h => stk_mono h hV (fun U hU hL => (tk_sta h1 U hU).2 hL)
 · exact fun h => stk_mono h hV (fun U hU hL => (tk_sta h1 U hU).1 hL)
theorem all_ok {n m : Int} {Sa Fa : List Int} {Ea : List EdT} (em : mayA n m Sa Fa Ea = true) : symOk m = true := by
 unfold symOk
 exact decide_eq_true (may_parts em).2.1
theorem all_er {n m : Int} {Sa Fa : List Int} {Ea : List EdT} (em : mayA n m Sa Fa Ea = true) : (alA m).er = 0 := by
 unfold alA
 rw [if_pos (all_ok em)]
theorem goes_uni {n m : Int} {Sa Fa : List Int} {Ea : List EdT} (em : mayA n m Sa Fa Ea = true) {z : Ans} (hz : noA m = z) : uniAns n m z.n z.m Sa Fa Ea z.s z.f z.e = normAns n m Sa Fa Ea := by
 subst hz
 have p := may_parts em
 have r := may_parts (may_rise em)
 unfold noA normAns
 rw [if_pos (all_ok em), if_pos em]
 have hm : mayA 0 m [] [] [] = true := may_of (by omega) p.2.1 (by simp) (by simp) (by simp) (by simp)
 have hu : unErr n m 0 m Sa Fa Ea [] [] [] = 0 := by
  unfold unErr
  rw [if_neg (by rw [em, hm]; simp), if_neg (by simp), if_neg (by omega), if_neg (by have : (riseE ([] : List EdT)).length = 0 := (by decide +kernel); omega)]
 unfold uniAns
 rw [if_pos hu]
 have e1 : riseL ([] : List Int) = [] := by decide +kernel
 have e2 : riseE ([] : List EdT) = [] := by decide +kernel
 rw [e1, e2]
 simp [shL, shEs]
end Go.Proofs.YtchoopnjckcohaaGreatDoor
namespace Go.Proofs.YtchoopnjckcohaaGreatDoor
open Go.RowKit Go.Maps Go.Shelf
attribute [local go_sem] Oper.semAt_some
theorem joined_any (w : World) (a1 a2 : Option Addr) (c1 c2 n1 n2 : Nat) (U V : List Int) (en : Hid (U.length = n1 ∧ V.length = n2)) (hU : Hid (RdN w a1 U)) (hV : Hid (RdN w a2 V)) (z1 : Hid (a1 = none → c1 = 0)) (z2 : Hid (a2 = none → c2 = 0)) (h1 : n1 ≤ 4194304) (h2 : n2 ≤ 4194304) :
 Calls Tryz.prog 18 #[.slice a1 n1 c1, .slice a2 n2 c2] w fun e w' => ∃ b c, e = .returned (.slice b (n1 + n2) c) ∧ Hid (RdN w' b (U ++ V)) ∧ Below w.heap.size w w' := by
 obtain ⟨W6, hW6⟩ : ∃ W, w.alloc (.cells #[] 3) = W := ⟨_, rfl⟩
 have H6 : Hid (W6.heap[w.heap.size]? = some (.cells #[] 3 (0, 0)) ∧ Below w.heap.size w W6 ∧ W6.heap.size = w.heap.size + 1) := hide (by rw [← hW6]; exact ⟨World.alloc_heap_new _ _, (Below.refl _ _).alloc (Nat.le_refl _) _, by simp⟩)
 have O6 := hide (own_zero H6.out.1 (Nat.le_refl _))
 have R6 := hide (hU.out.on H6.out.2.1)
 go_enter Tryz.func18, Tryz.ntmps18
 go_wp2_with (first
  | (at_builtin; refine wpList_appL rfl _ _ rfl w.heap.size (.slice (some ⟨w.heap.size, 0, none⟩) 0 0) [] rfl O6.out a1 n1 c1 U en.out.1 z1.out rfl R6.out (by have := en.out; simp; omega) (by have := H6.out.2.2; omega) ?_; intro v7 w7 HO7 HG7; rw [List.nil_append, en.out.1] at HO7; obtain ⟨z7, d7, e7⟩ := own_slice HO7.out; subst e7; have D7 : Hid (Below w.heap.size w w7) := hide (H6.out.2.1.trans (HG7.out.toBelow H6.out.2.1.size (fun k hk => (O6.out.lt k hk).1))))
  | (at_builtin; refine wpList_appL rfl _ _ rfl w.heap.size (.slice z7 n1 d7) U rfl (by rw [en.out.1]; exact HO7.out) a2 n2 c2 V en.out.2 z2.out rfl (hV.out.on D7.out) (by have := en.out; omega) D7.out.size ?_; intro v8 w8 HO8 HG8; obtain ⟨z8, d8, e8⟩ := own_slice HO8.out; subst e8; have D8 : Hid (Below w.heap.size w w8) := hide (D7.out.trans (HG8.out.toBelow D7.out.size (fun k hk => (HO7.out.lt k hk).1))))
  | fail)
 go_ret
 exact ⟨z8, d8, by rw [← en.out.1, ← en.out.2]; rfl, hide (own_rdN HO8.out), D8.out⟩
theorem aft_len {b : Nat} {Ed : List EdT} {S Wd : List Int} (hs : S.length ≤ b) (h3 : Ed.length ≤ b) : (aftL Ed S Wd).length ≤ b := by
 rcases Wd.eq_nil_or_concat with rfl | ⟨l, y, rfl⟩
 · exact hs
 · unfold aftL
   rw [List.concat_eq_append, List.foldl_append]
   exact Nat.le_trans (riseL_len _) (Nat.le_trans (imgL_len _ _ _ _) h3)
section
variable {w W W' : World} {B D1 D2 : Nat} {A C : Array Value} {g1 k1 g2 k2 g3 k3 p1 j1 p2 j2 p3 j3 gw cw : Nat} {St Fi : List Int} {Ed : List EdT} {St' Fi' : List Int} {Ed' : List EdT} {Wd : List Int}
end
end Go.Proofs.YtchoopnjckcohaaGreatDoor
namespace Go.Proofs.YtchoopnjckcohaaGreatDoor
open Go.RowKit
theorem zsh {A a : Act} {t : Nat} {v : Value} (h : A.tmps.getD t undef = a.tmps.getD t undef) (e : a.tmps.toList[t]? = some v) : A.tmps.getD t undef = v ∧ A.tmps[t]?.getD undef = v := zsb (h.trans (by rw [Array.getD_eq_getD_getElem?, ← Array.getElem?_toList, e]; rfl))
open Go.Maps Go.Shelf
theorem con_len (n m n' m' : Int) (Sa Fa : List Int) (Ea : List EdT) (Sb Fb : List Int) (Eb : List EdT) : (conA n m n' m' Sa Fa Ea Sb Fb Eb).s.length ≤ Sa.length + Sb.length ∧ (conA n m n' m' Sa Fa Ea Sb Fb Eb).f.length ≤ Fa.length + Fb.length ∧ (conA n m n' m' Sa Fa Ea Sb Fb Eb).e.length ≤ 65536 := by
 have q1 := riseL_len Sa
 have q2 := riseL_len Sb
 have q3 := riseL_len Fa
 have q4 := riseL_len Fb
 unfold conA
 split
 · unfold behA
   split
   · exact ⟨Nat.zero_le _, Nat.zero_le _, Nat.zero_le _⟩
   · rename_i h
     refine ⟨?_, ?_, ?_⟩
     · dsimp only
       split
       · rw [List.length_append, movN_len]; omega
       · omega
     · dsimp only
       split
       · rw [List.length_append, movN_len]; omega
       · rw [movN_len]; omega
     · dsimp only
       rw [List.length_append]
       omega
 · exact ⟨Nat.zero_le _, Nat.zero_le _, Nat.zero_le _⟩
theorem sta_len (n m : Int) (Sa Fa : List Int) (Ea : List EdT) : (staA n m Sa Fa Ea).s.length ≤ Sa.length + 1 ∧ (staA n m Sa Fa Ea).f.length ≤ Fa.length + 1 ∧ (staA n m Sa Fa Ea).e.length ≤ 65536 := by
 have q1 := riseL_len Sa
 have q3 := riseL_len Fa
 unfold staA
 split
 · split
   · unfold agaA
     split
     · exact ⟨Nat.zero_le _, Nat.zero_le _, Nat.zero_le _⟩
     · rename_i h
       refine ⟨?_, ?_, ?_⟩
       · dsimp only
         rw [List.length_append, movN_len, List.length_singleton]; omega
       · dsimp only
         rw [List.length_append, movN_len, List.length_singleton]; omega
       · dsimp only
         omega
   · exact ⟨Nat.zero_le _, Nat.zero_le _, Nat.zero_le _⟩
 · exact ⟨Nat.zero_le _, Nat.zero_le _, Nat.zero_le _⟩
theorem one_len (W : List Int) (s : Int) : (onA W s).s.length ≤ 1 ∧ (onA W s).f.length ≤ 1 ∧ (onA W s).e.length ≤ W.length := by
 unfold onA
 split
 · exact ⟨Nat.zero_le _, Nat.zero_le _, Nat.zero_le _⟩
 · split
   · split
     · exact ⟨Nat.le_refl _, Nat.le_refl _, Nat.le_of_eq (oneE_len W)⟩
     · exact ⟨Nat.zero_le _, Nat.zero_le _, Nat.zero_le _⟩
   · exact ⟨Nat.zero_le _, Nat.zero_le _, Nat.zero_le _⟩
theorem al_len (s : Int) : (alA s).s.length ≤ 1 ∧ (alA s).f.length ≤ 1 ∧ (alA s).e.length ≤ 128 := by
 unfold alA
 split
 · rename_i h
   refine ⟨Nat.le_refl _, Nat.le_refl _, ?_⟩
   dsimp only
   rw [allE_len]
   unfold symOk at h
   have := of_decide_eq_true h
   omega
 · exact ⟨Nat.zero_le _, Nat.zero_le _, Nat.zero_le _⟩
theorem no_len (s : Int) : (noA s).s.length ≤ 1 ∧ (noA s).f.length ≤ 1 ∧ (noA s).e.length ≤ 1 := by
 unfold noA
 split <;> exact ⟨Nat.zero_le _, Nat.zero_le _, Nat.zero_le _⟩
theorem lef_len (n m : Int) (Sa Fa : List Int) (Ea : List EdT) (W : List Int) (b : Nat) (h1 : Sa.length ≤ b) (h2 : Fa.length ≤ b) (h3 : Ea.length ≤ b) : (lefA n m Sa Fa Ea W).s.length ≤ b ∧ (lefA n m Sa Fa Ea W).f.length ≤ b ∧ (lefA n m Sa Fa Ea W).e.length ≤ b := by
 unfold lefA
 split
 · exact ⟨aft_len (Nat.le_trans (riseL_len Sa) h1) h3, Nat.le_trans (riseL_len Fa) h2, Nat.le_trans (riseE_len Ea) h3⟩
 · exact ⟨Nat.zero_le _, Nat.zero_le _, Nat.zero_le _⟩
theorem nor_len (n m : Int) (Sa Fa : List Int) (Ea : List EdT) (b : Nat) (h1 : Sa.length ≤ b) (h2 : Fa.length ≤ b) (h3 : Ea.length ≤ b) : (normAns n m Sa Fa Ea).s.length ≤ b ∧ (normAns n m Sa Fa Ea).f.length ≤ b ∧ (normAns n m Sa Fa Ea).e.length ≤ b := by
 unfold normAns
 split
 · exact ⟨Nat.le_trans (riseL_len Sa) h1, Nat.le_trans (riseL_len Fa) h2, Nat.le_trans (riseE_len Ea) h3⟩
 · exact ⟨Nat.zero_le _, Nat.zero_le _, Nat.zero_le _⟩
def tupP (B : Nat) (r : Ans) : MkP := fun x _ _ W => ∃ b1 k1 b2 k2 b3 k3, x = .tuple #[.agg #[.int .i64 r.n, .int .i64 r.m, .slice b1 r.s.length k1, .slice b2 r.f.length k2, .slice b3 r.e.length k3], .int .i64 r.er] ∧ OwnO B W (.slice b1 r.s.length k1) (.slice b2 r.f.length k2) (.slice b3 r.e.length k3) r.s r.f r.e
def aggP (B : Nat) (r : Ans) : MkP := fun x _ _ W => ∃ b1 k1 b2 k2 b3 k3, x = .agg #[.int .i64 r.n, .int .i64 r.m, .slice b1 r.s.length k1, .slice b2 r.f.length k2, .slice b3 r.e.length k3] ∧ OwnO B W (.slice b1 r.s.length k1) (.slice b2 r.f.length k2) (.slice b3 r.e.length k3) r.s r.f r.e
theorem tupP_mono {B : Nat} {r : Ans} : MonoP (tupP B r) := fun _ _ _ _ _ _ d ⟨b1, k1, b2, k2, b3, k3, e, o⟩ => ⟨b1, k1, b2, k2, b3, k3, e, o.on d⟩
theorem aggP_mono {B : Nat} {r : Ans} : MonoP (aggP B r) := fun _ _ _ _ _ _ d ⟨b1, k1, b2, k2, b3, k3, e, o⟩ => ⟨b1, k1, b2, k2, b3, k3, e, o.on d⟩
theorem tupP_keep {B p : Nat} {r : Ans} {x : Value} {lo hi : Nat} {W W' : World} {cs : Array Value} (h : tupP B r x lo hi W) (z : W.heap[p]? = some (.cells cs 25 (0, 0))) (o : Only W W' (fun k => k = p)) : tupP B r x lo hi W' := by
 obtain ⟨b1, k1, b2, k2, b3, k3, e, q⟩ := h
 exact ⟨b1, k1, b2, k2, b3, k3, e, q.keep z o⟩
theorem aggP_keep {B p : Nat} {r : Ans} {x : Value} {lo hi : Nat} {W W' : World} {cs : Array Value} (h : aggP B r x lo hi W) (z : W.heap[p]? = some (.cells cs 25 (0, 0))) (o : Only W W' (fun k => k = p)) : aggP B r x lo hi W' := by
 obtain ⟨b1, k1, b2, k2, b3, k3, e, q⟩ := h
 exact ⟨b1, k1, b2, k2, b3, k3, e, q.keep z o⟩
def BxA (B : Nat) (r : Ans) (v : Value) (W : World) : Prop := ∃ p b1 k1 b2 k2 b3 k3, v = .pointer (some ⟨p, 0, none⟩) ∧ B ≤ p ∧ W.heap[p]? = some (.cells #[.int .i64 r.n, .int .i64 r.m, .slice b1 r.s.length k1, .slice b2 r.f.length k2, .slice b3 r.e.length k3] 25 (0, 0)) ∧ OwnO B W (.slice b1 r.s.length k1) (.slice b2 r.f.length k2) (.slice b3 r.e.length k3) r.s r.f r.e
theorem BxA.on {B : Nat} {r : Ans} {v : Value} {W W' : World} (h : BxA B r v W) (d : Below W.heap.size W W') : BxA B r v W' := by
 obtain ⟨p, b1, k1, b2, k2, b3, k3, e, l, z, o⟩ := h
 exact ⟨p, b1, k1, b2, k2, b3, k3, e, l, blk_on z d, o.on d⟩
end Go.Proofs.YtchoopnjckcohaaGreatDoor
