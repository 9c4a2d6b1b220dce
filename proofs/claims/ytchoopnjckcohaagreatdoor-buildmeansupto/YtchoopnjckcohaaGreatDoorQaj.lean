import Derived.Test.YtchoopnjckcohaaGreatDoorQai
import Derived.Shelf.Slices.Reverse
set_option maxRecDepth 100000
set_option maxHeartbeats 40000000
namespace Go.Proofs.YtchoopnjckcohaaGreatDoor
open Go.RowKit Go.Maps Go.Shelf
attribute [local go_sem] Oper.semAt_some
def allE (s : Nat) : List EdT := (List.range s).map fun (k : Nat) => (0, (k : Int), 0)
theorem allE_len (s : Nat) : (allE s).length = s := by simp [allE]
theorem allE_next (s : Nat) : allE (s + 1) = allE s ++ [(0, (s : Int), 0)] := by simp [allE, List.range_succ]
theorem union_made (w : World) (n m n' m' : Int) (a1 a2 a3 b1 b2 b3 : Option Addr) (c1 c2 c3 d1 d2 d3 : Nat) (Sa Fa Sb Fb : List Int) (Ea Eb : List EdT) (hA : Hid (RdA w a1 a2 a3 Sa Fa Ea)) (hB : Hid (RdA w b1 b2 b3 Sb Fb Eb)) (h1 : Sa.length ≤ 4194304) (h2 : Fa.length ≤ 4194304) (h3 : Ea.length ≤ 4194304) (h4 : Sb.length ≤ 4194304) (h5 : Fb.length ≤ 4194304) (h6 : Eb.length ≤ 4194304) :
 Calls Tryz.prog 25 #[.agg #[.int .i64 n, .int .i64 m, .slice a1 Sa.length c1, .slice a2 Fa.length c2, .slice a3 Ea.length c3], .agg #[.int .i64 n', .int .i64 m', .slice b1 Sb.length d1, .slice b2 Fb.length d2, .slice b3 Eb.length d3]] w (AnsO w (uniAns n m n' m' Sa Fa Ea Sb Fb Eb)) := by
 obtain ⟨W0, hW0⟩ : ∃ W0, ((w.alloc (.cells #[.int .i64 n, .int .i64 m, .slice a1 Sa.length c1, .slice a2 Fa.length c2, .slice a3 Ea.length c3] 25)).alloc (.cells #[.int .i64 n', .int .i64 m', .slice b1 Sb.length d1, .slice b2 Fb.length d2, .slice b3 Eb.length d3] 25)).alloc (.cells #[.int .i64 0, .int .i64 0, .slice none 0 0, .slice none 0 0, .slice none 0 0] 25) = W0 := ⟨_, rfl⟩
 have HD := hide (box3b w #[.int .i64 n, .int .i64 m, .slice a1 Sa.length c1, .slice a2 Fa.length c2, .slice a3 Ea.length c3] #[.int .i64 n', .int .i64 m', .slice b1 Sb.length d1, .slice b2 Fb.length d2, .slice b3 Eb.length d3] #[.int .i64 0, .int .i64 0, .slice none 0 0, .slice none 0 0, .slice none 0 0] 25)
 rw [hW0] at HD
 have TU := union_ans W0 n m n' m' a1 a2 a3 b1 b2 b3 c1 c2 c3 d1 d2 d3 Sa Fa Ea Sb Fb Eb (hide (hA.out.on HD.out.1)) (hide (hB.out.on HD.out.1)) h1 h2 h3 h4 h5 h6
 generalize uniAns n m n' m' Sa Fa Ea Sb Fb Eb = R at TU ⊢
 obtain ⟨rn, rm, rs, rf, re, rr⟩ := R
 obtain ⟨y0, y1, y2, y3, y4⟩ := zd5 HD.out.2.1 rfl rfl rfl rfl rfl
 obtain ⟨x0, x1, x2, x3, x4⟩ := zd5 HD.out.2.2.1 rfl rfl rfl rfl rfl
 go_enter Tryz.func25, Tryz.ntmps25
 go_wp2_with (go_at_call 59; refine TU.mono ?_; rintro e w1 ⟨x1, y1, x2, y2, x3, y3, rfl, O1, D1⟩; have H1 := hide (And.intro O1.out D1); clear O1 D1; have F4 := blk_on HD.out.2.2.2.1 H1.out.2; obtain ⟨o0, o1, o2, o3, o4⟩ := zd5 F4 rfl rfl rfl rfl rfl; have fz0 : w1.frozen? ⟨w.heap.size + 1 + 1, 0, none⟩ = false := fz_of F4; have fz1 : w1.frozen? ⟨w.heap.size + 1 + 1, 1, none⟩ = false := fz_of F4; have fz2 : w1.frozen? ⟨w.heap.size + 1 + 1, 2, none⟩ = false := fz_of F4; have fz3 : w1.frozen? ⟨w.heap.size + 1 + 1, 3, none⟩ = false := fz_of F4; have fz4 : w1.frozen? ⟨w.heap.size + 1 + 1, 4, none⟩ = false := fz_of F4; have O6 := hide (And.intro (set5 w1 (w.heap.size + 1 + 1) _ _ _ _ _ (.int .i64 rn) (.int .i64 rm) (.slice x1 rs.length y1) (.slice x2 rf.length y2) (.slice x3 re.length y3) 25 F4) (only5 w1 (w.heap.size + 1 + 1) (.int .i64 rn) (.int .i64 rm) (.slice x1 rs.length y1) (.slice x2 rf.length y2) (.slice x3 re.length y3))); have HO := hide (H1.out.1.keep F4 O6.out.2); clear F4)
 refine bodyPost_ret (results_c1 (p := 4) (q := 5) (ty := 25) rfl _ _ (w.heap.size + 1 + 1) 25 _ (0, 0) _ _ rfl rfl O6.out.1 Tryz.underlying25 rfl (by kernel_rfl)) rfl ?_
 have s1 := HD.out.2.2.2.2
 have s2 := H1.out.2.size
 exact ⟨x1, y1, x2, y2, x3, y3, rfl, hide (HO.out.down HD.out.1.size), (HD.out.1.trans (H1.out.2.mono HD.out.1.size)).trans (O6.out.2.toBelow (by omega) (fun k hk => by omega))⟩
theorem none_err (w : World) (s : Int) (hs : symOk s = false) : Calls Tryz.prog 24 #[.int .i64 s] w (AnsO w (badA 1)) := by
 obtain ⟨W0, hW0⟩ : ∃ W0, w.alloc (.cells #[.int .i64 0, .int .i64 0, .slice none 0 0, .slice none 0 0, .slice none 0 0] 25) = W0 := ⟨_, rfl⟩
 have HD : Hid (W0.heap[w.heap.size]? = some (.cells #[.int .i64 0, .int .i64 0, .slice none 0 0, .slice none 0 0, .slice none 0 0] 25 (0, 0)) ∧ Below w.heap.size w W0 ∧ W0.heap.size = w.heap.size + 1) := hide (by rw [← hW0]; exact ⟨World.alloc_heap_new _ _, (Below.refl _ _).alloc (Nat.le_refl _) _, by simp⟩)
 have TM := mayBe_any W0 s
 rw [hs] at TM
 clear hs
 have F4 := HD.out.1
 obtain ⟨o0, o1, o2, o3, o4⟩ := zd5 F4 rfl rfl rfl rfl rfl
 have fz0 : W0.frozen? ⟨w.heap.size, 0, none⟩ = false := fz_of F4
 have fz1 : W0.frozen? ⟨w.heap.size, 1, none⟩ = false := fz_of F4
 have fz2 : W0.frozen? ⟨w.heap.size, 2, none⟩ = false := fz_of F4
 have fz3 : W0.frozen? ⟨w.heap.size, 3, none⟩ = false := fz_of F4
 have fz4 : W0.frozen? ⟨w.heap.size, 4, none⟩ = false := fz_of F4
 have O6 := hide (And.intro (set5 W0 (w.heap.size) _ _ _ _ _ (.int .i64 0) (.int .i64 0) (.slice none 0 0) (.slice none 0 0) (.slice none 0 0) 25 F4) (only5 W0 (w.heap.size) (.int .i64 0) (.int .i64 0) (.slice none 0 0) (.slice none 0 0) (.slice none 0 0)))
 clear F4
 go_enter Tryz.func24, Tryz.ntmps24
 go_wp2_with (go_at_call 54; refine TM.mono ?_; rintro e wq ⟨rfl, hq⟩; subst hq)
 refine bodyPost_ret (results_c1 (p := 2) (q := 3) (ty := 25) rfl _ _ (w.heap.size) 25 _ (0, 0) _ _ rfl rfl O6.out.1 Tryz.underlying25 rfl (by kernel_rfl)) rfl ?_
 have s1 := HD.out.2.2
 exact ansO_bad rfl (HD.out.2.1.trans (O6.out.2.toBelow (by omega) (fun k hk => by omega)))
theorem none_good (w : World) (s : Int) (hs : symOk s = true) : Calls Tryz.prog 24 #[.int .i64 s] w (AnsO w ⟨0, s, [], [], [], 0⟩) := by
 obtain ⟨W0, hW0⟩ : ∃ W0, w.alloc (.cells #[.int .i64 0, .int .i64 0, .slice none 0 0, .slice none 0 0, .slice none 0 0] 25) = W0 := ⟨_, rfl⟩
 have HD : Hid (W0.heap[w.heap.size]? = some (.cells #[.int .i64 0, .int .i64 0, .slice none 0 0, .slice none 0 0, .slice none 0 0] 25 (0, 0)) ∧ Below w.heap.size w W0 ∧ W0.heap.size = w.heap.size + 1) := hide (by rw [← hW0]; exact ⟨World.alloc_heap_new _ _, (Below.refl _ _).alloc (Nat.le_refl _) _, by simp⟩)
 have TM := mayBe_any W0 s
 rw [hs] at TM
 clear hs
 have F4 := HD.out.1
 obtain ⟨o0, o1, o2, o3, o4⟩ := zd5 F4 rfl rfl rfl rfl rfl
 have fz0 : W0.frozen? ⟨w.heap.size, 0, none⟩ = false := fz_of F4
 have fz1 : W0.frozen? ⟨w.heap.size, 1, none⟩ = false := fz_of F4
 have fz2 : W0.frozen? ⟨w.heap.size, 2, none⟩ = false := fz_of F4
 have fz3 : W0.frozen? ⟨w.heap.size, 3, none⟩ = false := fz_of F4
 have fz4 : W0.frozen? ⟨w.heap.size, 4, none⟩ = false := fz_of F4
 have O6 := hide (And.intro (set5 W0 (w.heap.size) _ _ _ _ _ (.int .i64 0) (.int .i64 s) (.slice none 0 0) (.slice none 0 0) (.slice none 0 0) 25 F4) (only5 W0 (w.heap.size) (.int .i64 0) (.int .i64 s) (.slice none 0 0) (.slice none 0 0) (.slice none 0 0)))
 clear F4
 go_enter Tryz.func24, Tryz.ntmps24
 go_wp2_with (go_at_call 54; refine TM.mono ?_; rintro e wq ⟨rfl, hq⟩; subst hq)
 refine bodyPost_ret (results_c1 (p := 2) (q := 3) (ty := 25) rfl _ _ (w.heap.size) 25 _ (0, 0) _ _ rfl rfl O6.out.1 Tryz.underlying25 rfl (by kernel_rfl)) rfl ?_
 have s1 := HD.out.2.2
 exact ⟨none, 0, none, 0, none, 0, rfl, hide ⟨⟨rfl, .inl ⟨rfl, rfl⟩⟩, ⟨rfl, .inl ⟨rfl, rfl⟩⟩, ⟨rfl, .inl ⟨rfl, rfl⟩⟩, fun g q => by cases q⟩, HD.out.2.1.trans (O6.out.2.toBelow (by omega) (fun k hk => by omega))⟩
theorem all_err (w : World) (s : Int) (hs : symOk s = false) : Calls Tryz.prog 22 #[.int .i64 s] w (AnsO w (badA 1)) := by
 obtain ⟨W0, hW0⟩ : ∃ W0, w.alloc (.cells #[.int .i64 0, .int .i64 0, .slice none 0 0, .slice none 0 0, .slice none 0 0] 25) = W0 := ⟨_, rfl⟩
 have HD : Hid (W0.heap[w.heap.size]? = some (.cells #[.int .i64 0, .int .i64 0, .slice none 0 0, .slice none 0 0, .slice none 0 0] 25 (0, 0)) ∧ Below w.heap.size w W0 ∧ W0.heap.size = w.heap.size + 1) := hide (by rw [← hW0]; exact ⟨World.alloc_heap_new _ _, (Below.refl _ _).alloc (Nat.le_refl _) _, by simp⟩)
 have TM := mayBe_any W0 s
 rw [hs] at TM
 clear hs
 have F4 := HD.out.1
 obtain ⟨o0, o1, o2, o3, o4⟩ := zd5 F4 rfl rfl rfl rfl rfl
 have fz0 : W0.frozen? ⟨w.heap.size, 0, none⟩ = false := fz_of F4
 have fz1 : W0.frozen? ⟨w.heap.size, 1, none⟩ = false := fz_of F4
 have fz2 : W0.frozen? ⟨w.heap.size, 2, none⟩ = false := fz_of F4
 have fz3 : W0.frozen? ⟨w.heap.size, 3, none⟩ = false := fz_of F4
 have fz4 : W0.frozen? ⟨w.heap.size, 4, none⟩ = false := fz_of F4
 have O6 := hide (And.intro (set5 W0 (w.heap.size) _ _ _ _ _ (.int .i64 0) (.int .i64 0) (.slice none 0 0) (.slice none 0 0) (.slice none 0 0) 25 F4) (only5 W0 (w.heap.size) (.int .i64 0) (.int .i64 0) (.slice none 0 0) (.slice none 0 0) (.slice none 0 0)))
 clear F4
 go_enter Tryz.func22, Tryz.ntmps22
 go_wp2_with (go_at_call 54; refine TM.mono ?_; rintro e wq ⟨rfl, hq⟩; subst hq)
 refine bodyPost_ret (results_c1 (p := 2) (q := 3) (ty := 25) rfl _ _ (w.heap.size) 25 _ (0, 0) _ _ rfl rfl O6.out.1 Tryz.underlying25 rfl (by kernel_rfl)) rfl ?_
 have s1 := HD.out.2.2
 exact ansO_bad rfl (HD.out.2.1.trans (O6.out.2.toBelow (by omega) (fun k hk => by omega)))
theorem all_good (w : World) (s : Nat) (hs : s ≤ 128) : Calls Tryz.prog 22 #[.int .i64 (s : Int)] w (AnsO w ⟨1, (s : Int), [0], [0], allE s, 0⟩) := by
 obtain ⟨W0, hW0⟩ : ∃ W0, w.alloc (.cells #[.int .i64 0, .int .i64 0, .slice none 0 0, .slice none 0 0, .slice none 0 0] 25) = W0 := ⟨_, rfl⟩
 have HD : Hid (W0.heap[w.heap.size]? = some (.cells #[.int .i64 0, .int .i64 0, .slice none 0 0, .slice none 0 0, .slice none 0 0] 25 (0, 0)) ∧ Below w.heap.size w W0 ∧ W0.heap.size = w.heap.size + 1) := hide (by rw [← hW0]; exact ⟨World.alloc_heap_new _ _, (Below.refl _ _).alloc (Nat.le_refl _) _, by simp⟩)
 have TM := mayBe_any W0 (s : Int)
 rw [show symOk (s : Int) = true by simp [symOk]; omega] at TM
 go_enter Tryz.func22, Tryz.ntmps22
 go_upto_region 4 with (go_at_call 54; refine TM.mono ?_; rintro e wq ⟨rfl, hq⟩; subst hq)
 clear TM hW0
 obtain ⟨W1, hW1⟩ : ∃ W, ((wq.alloc (.cells #[.int .i64 0] 3)).alloc (.cells #[.int .i64 0] 3)).alloc (.cells #[.int .i64 1, .int .i64 (s : Int), .slice (some ⟨wq.heap.size, 0, none⟩) 1 1, .slice (some ⟨wq.heap.size + 1, 0, none⟩) 1 1, .slice none 0 0] 25) = W := ⟨_, rfl⟩
 rw [hW1]
 have HA : Hid (MvA wq W1 (wq.heap.size + 1 + 1) 1 (s : Int) (.slice (some ⟨wq.heap.size, 0, none⟩) 1 1) (.slice (some ⟨wq.heap.size + 1, 0, none⟩) 1 1) (.slice none 0 0) [0] [0] []) := hide (by
  have hb := box33 wq #[.int .i64 0] #[.int .i64 0] #[.int .i64 1, .int .i64 (s : Int), .slice (some ⟨wq.heap.size, 0, none⟩) 1 1, .slice (some ⟨wq.heap.size + 1, 0, none⟩) 1 1, .slice none 0 0] 3 3 25
  rw [hW1] at hb
  exact ⟨hb.2.2.2.1, by omega, ⟨own_one hb.2.1 (by omega), own_one hb.2.2.1 (by omega), World.ownsRow_nil W1 wq.heap.size _ _, fun x hx hy => by
   simp only [Value.ownBlock, Option.some.injEq] at hx hy
   omega⟩, hb.1⟩)
 obtain ⟨g, hg⟩ : ∃ g, wq.heap.size = g := ⟨_, rfl⟩
 clear hW1
 rw [hg] at HA ⊢
 clear hg
 go_wp2_with fail
 go_loopw [15] (fun iv wr => ∃ i : Nat, i ≤ s ∧ iv = .int .i64 (i : Int) ∧ ∃ b3 k3, Hid (MvA wq wr (g + 1 + 1) 1 (s : Int) (.slice (some ⟨g, 0, none⟩) 1 1) (.slice (some ⟨g + 1, 0, none⟩) 1 1) (.slice b3 i k3) [0] [0] (allE i))) (fun iv _ => s - (intOf iv).toNat)
 case atStart => exact ⟨0, Nat.zero_le _, rfl, none, 0, HA⟩
 case round =>
  obtain ⟨i, hi, rfl, b3, k3, HY⟩ := hrel
  clear HA
  by_cases hil : i < s
  · have i0 : (0 : Int) ≤ (i : Int) := by omega
    have i1 : (i : Int) < (s : Int) := by omega
    have HT := hide (allE_next i)
    have HTl : Hid ((allE i).length = i) := hide (allE_len i)
    have HS0 := hide HY.out.be.size
    have z4 : wr.cell? ⟨g + 1 + 1, 4, none⟩ = some (.slice b3 i k3) := cell_of HY.out.bx rfl
    go_wp2_with (at_builtin; refine wpList_appG rfl _ _ rfl wq.heap.size (.slice b3 i k3) (allE i) rfl (own_below HY.out.ow.e ((Below.refl _ _).alloc (Nat.le_refl _) _)) wr.heap.size (0, (i : Int), 0) rfl (World.alloc_heap_new _ _) (by have := HTl.out; omega) (by have := HS0.out; rw [World.size_alloc]; omega) ?_; intro v5 w5 HO5 HG5; obtain ⟨z5, d5, e5⟩ := own_slice HO5.out; have E5 : v5 = .slice z5 (i + 1) d5 := (by rw [e5, List.length_append, HTl.out]; rfl); clear e5; subst E5; have HQ := hide (mvA_put HY.out ((Below.refl _ _).alloc (Nat.le_refl _) _) HO5.out HG5.out); have c5 : w5.cell? ⟨g + 1 + 1, 4, none⟩ = some (.slice b3 i k3) := cell_of HQ.out.1 rfl; have f5 : w5.frozen? ⟨g + 1 + 1, 4, none⟩ = false := fz_of HQ.out.1)
    refine ⟨⟨i + 1, by omega, by go_num, z5, d5, hide (by rw [HT.out]; exact HQ.out.2)⟩, by simp [intOf]; omega⟩
  · obtain rfl : s = i := by omega
    have i1 : ¬ (s : Int) < (s : Int) := by omega
    have F3 := blk_on HD.out.1 HY.out.be
    have F4 := HY.out.bx
    obtain ⟨o0, o1, o2, o3, o4⟩ := zd5 F3 rfl rfl rfl rfl rfl
    have fz0 : wr.frozen? ⟨w.heap.size, 0, none⟩ = false := fz_of F3
    have fz1 : wr.frozen? ⟨w.heap.size, 1, none⟩ = false := fz_of F3
    have fz2 : wr.frozen? ⟨w.heap.size, 2, none⟩ = false := fz_of F3
    have fz3 : wr.frozen? ⟨w.heap.size, 3, none⟩ = false := fz_of F3
    have fz4 : wr.frozen? ⟨w.heap.size, 4, none⟩ = false := fz_of F3
    obtain ⟨v0, v1, v2, v3, v4⟩ := zd5 F4 rfl rfl rfl rfl rfl
    have O6 := hide (And.intro (set5 wr (w.heap.size) _ _ _ _ _ (.int .i64 1) (.int .i64 (s : Int)) (.slice (some ⟨g, 0, none⟩) 1 1) (.slice (some ⟨g + 1, 0, none⟩) 1 1) (.slice b3 s k3) 25 F3) (only5 wr (w.heap.size) (.int .i64 1) (.int .i64 (s : Int)) (.slice (some ⟨g, 0, none⟩) 1 1) (.slice (some ⟨g + 1, 0, none⟩) 1 1) (.slice b3 s k3)))
    have HO2 := hide (HY.out.ow.keep F3 O6.out.2)
    have HEn := hide (allE_len s)
    clear F3 F4
    go_wp2_with fail
    refine bodyPost_ret (results_c1 (p := 2) (q := 3) (ty := 25) rfl _ _ (w.heap.size) 25 _ (0, 0) _ _ rfl rfl O6.out.1 Tryz.underlying25 rfl (by kernel_rfl)) rfl ?_
    have s1 := HD.out.2.2
    have s2 := HY.out.be.size
    refine ⟨some ⟨g, 0, none⟩, 1, some ⟨g + 1, 0, none⟩, 1, b3, k3, ?_, hide ?_, ?_⟩
    · rw [HEn.out]; rfl
    · have q := HO2.out.down (show w.heap.size ≤ wq.heap.size by omega)
      rw [HEn.out]
      exact q
    · exact (HD.out.2.1.trans (HY.out.be.mono (by omega))).trans (O6.out.2.toBelow (by omega) (fun k hk => by omega))
theorem one_word (w : World) (ao : Option Addr) (c : Nat) (L : List Int) (s : Int) (hr : Hid (RdN w ao L)) (hl : L.length ≤ 4194304) (hb : L.any (badS s) = true) :
 Calls Tryz.prog 20 #[.slice ao L.length c, .int .i64 s] w (AnsO w (badA 7)) := by
 obtain ⟨W0, hW0⟩ : ∃ W0, (w.alloc (.cells #[.int .i64 s] 3)).alloc (.cells #[.int .i64 0, .int .i64 0, .slice none 0 0, .slice none 0 0, .slice none 0 0] 25) = W0 := ⟨_, rfl⟩
 have HD : Hid (Below w.heap.size w W0 ∧ W0.heap[w.heap.size]? = some (.cells #[.int .i64 s] 3 (0, 0)) ∧ W0.heap[w.heap.size + 1]? = some (.cells #[.int .i64 0, .int .i64 0, .slice none 0 0, .slice none 0 0, .slice none 0 0] 25 (0, 0)) ∧ W0.heap.size = w.heap.size + 2) := hide (by
  have k1 := (Below.refl w.heap.size w).alloc (Nat.le_refl _) (.cells #[.int .i64 s] 3)
  have z1 := World.alloc_heap_new w (.cells #[.int .i64 s] 3)
  have s1 : (w.alloc (.cells #[.int .i64 s] 3)).heap.size = w.heap.size + 1 := by simp
  generalize w.alloc (.cells #[.int .i64 s] 3) = X at k1 z1 s1 hW0
  have k2 := (Below.refl X.heap.size X).alloc (Nat.le_refl _) (.cells #[.int .i64 0, .int .i64 0, .slice none 0 0, .slice none 0 0, .slice none 0 0] 25)
  have z2 := World.alloc_heap_new X (.cells #[.int .i64 0, .int .i64 0, .slice none 0 0, .slice none 0 0, .slice none 0 0] 25)
  rw [hW0] at k2 z2
  rw [s1] at z2
  exact ⟨k1.trans (k2.mono k1.size), blk_on z1 k2, z2, by rw [← hW0, World.size_alloc, s1]⟩)
 have y0 : W0.cell? ⟨w.heap.size, 0, none⟩ = some (.int .i64 s) := cell_of HD.out.2.1 rfl
 have TC := cont53 W0 ao c L w.heap.size s (hide y0) (hide (hr.out.on HD.out.1)) hl
 rw [hb] at TC
 clear hb
 obtain ⟨n, hn⟩ : ∃ n, L.length = n := ⟨_, rfl⟩
 rw [hn] at TC ⊢
 clear hn
 go_enter Tryz.func20, Tryz.ntmps20
 go_upto_region 2 with (go_at_call 52; refine TC.mono ?_; rintro e w2 ⟨rfl, D2⟩; have H2 := hide D2; clear D2; have yq : w2.cell? ⟨w.heap.size, 0, none⟩ = some (.int .i64 s) := cell_of (blk_on HD.out.2.1 H2.out) rfl)
 have F4 := blk_on HD.out.2.2.1 H2.out
 obtain ⟨o0, o1, o2, o3, o4⟩ := zd5 F4 rfl rfl rfl rfl rfl
 have fz0 : w2.frozen? ⟨w.heap.size + 1, 0, none⟩ = false := fz_of F4
 have fz1 : w2.frozen? ⟨w.heap.size + 1, 1, none⟩ = false := fz_of F4
 have fz2 : w2.frozen? ⟨w.heap.size + 1, 2, none⟩ = false := fz_of F4
 have fz3 : w2.frozen? ⟨w.heap.size + 1, 3, none⟩ = false := fz_of F4
 have fz4 : w2.frozen? ⟨w.heap.size + 1, 4, none⟩ = false := fz_of F4
 have O6 := hide (And.intro (set5 w2 (w.heap.size + 1) _ _ _ _ _ (.int .i64 0) (.int .i64 0) (.slice none 0 0) (.slice none 0 0) (.slice none 0 0) 25 F4) (only5 w2 (w.heap.size + 1) (.int .i64 0) (.int .i64 0) (.slice none 0 0) (.slice none 0 0) (.slice none 0 0)))
 clear F4
 go_wp2_with fail
 refine bodyPost_ret (results_c1 (p := 4) (q := 5) (ty := 25) rfl _ _ (w.heap.size + 1) 25 _ (0, 0) _ _ rfl rfl O6.out.1 Tryz.underlying25 rfl (by kernel_rfl)) rfl ?_
 have s1 := HD.out.2.2.2
 have s2 := H2.out.size
 exact ansO_bad rfl ((HD.out.1.trans (H2.out.mono HD.out.1.size)).trans (O6.out.2.toBelow (by omega) (fun k hk => by omega)))
theorem one_syms (w : World) (ao : Option Addr) (c : Nat) (L : List Int) (s : Int) (hr : Hid (RdN w ao L)) (hl : L.length ≤ 4194304) (hb : L.any (badS s) = false) (h2 : symOk s = false) :
 Calls Tryz.prog 20 #[.slice ao L.length c, .int .i64 s] w (AnsO w (badA 1)) := by
 obtain ⟨W0, hW0⟩ : ∃ W0, (w.alloc (.cells #[.int .i64 s] 3)).alloc (.cells #[.int .i64 0, .int .i64 0, .slice none 0 0, .slice none 0 0, .slice none 0 0] 25) = W0 := ⟨_, rfl⟩
 have HD : Hid (Below w.heap.size w W0 ∧ W0.heap[w.heap.size]? = some (.cells #[.int .i64 s] 3 (0, 0)) ∧ W0.heap[w.heap.size + 1]? = some (.cells #[.int .i64 0, .int .i64 0, .slice none 0 0, .slice none 0 0, .slice none 0 0] 25 (0, 0)) ∧ W0.heap.size = w.heap.size + 2) := hide (by
  have k1 := (Below.refl w.heap.size w).alloc (Nat.le_refl _) (.cells #[.int .i64 s] 3)
  have z1 := World.alloc_heap_new w (.cells #[.int .i64 s] 3)
  have s1 : (w.alloc (.cells #[.int .i64 s] 3)).heap.size = w.heap.size + 1 := by simp
  generalize w.alloc (.cells #[.int .i64 s] 3) = X at k1 z1 s1 hW0
  have k2 := (Below.refl X.heap.size X).alloc (Nat.le_refl _) (.cells #[.int .i64 0, .int .i64 0, .slice none 0 0, .slice none 0 0, .slice none 0 0] 25)
  have z2 := World.alloc_heap_new X (.cells #[.int .i64 0, .int .i64 0, .slice none 0 0, .slice none 0 0, .slice none 0 0] 25)
  rw [hW0] at k2 z2
  rw [s1] at z2
  exact ⟨k1.trans (k2.mono k1.size), blk_on z1 k2, z2, by rw [← hW0, World.size_alloc, s1]⟩)
 have y0 : W0.cell? ⟨w.heap.size, 0, none⟩ = some (.int .i64 s) := cell_of HD.out.2.1 rfl
 have TC := cont53 W0 ao c L w.heap.size s (hide y0) (hide (hr.out.on HD.out.1)) hl
 rw [hb] at TC
 have HM : Hid (∀ W, Calls Tryz.prog 54 #[.int .i64 s] W fun e w' => e = .returned (.bool false) ∧ w' = W) := hide (fun W => by have q := mayBe_any W s; rwa [h2] at q)
 clear hb h2
 obtain ⟨n, hn⟩ : ∃ n, L.length = n := ⟨_, rfl⟩
 rw [hn] at TC ⊢
 clear hn
 go_enter Tryz.func20, Tryz.ntmps20
 go_upto_region 4 with (first | (go_at_call 52; refine TC.mono ?_; rintro e w2 ⟨rfl, D2⟩; have H2 := hide D2; clear D2; have yq : w2.cell? ⟨w.heap.size, 0, none⟩ = some (.int .i64 s) := cell_of (blk_on HD.out.2.1 H2.out) rfl) | (go_at_call 54; refine (HM.out w2).mono ?_; rintro e wq ⟨rfl, hq⟩; subst hq))
 have F4 := blk_on HD.out.2.2.1 H2.out
 obtain ⟨o0, o1, o2, o3, o4⟩ := zd5 F4 rfl rfl rfl rfl rfl
 have fz0 : wq.frozen? ⟨w.heap.size + 1, 0, none⟩ = false := fz_of F4
 have fz1 : wq.frozen? ⟨w.heap.size + 1, 1, none⟩ = false := fz_of F4
 have fz2 : wq.frozen? ⟨w.heap.size + 1, 2, none⟩ = false := fz_of F4
 have fz3 : wq.frozen? ⟨w.heap.size + 1, 3, none⟩ = false := fz_of F4
 have fz4 : wq.frozen? ⟨w.heap.size + 1, 4, none⟩ = false := fz_of F4
 have O6 := hide (And.intro (set5 wq (w.heap.size + 1) _ _ _ _ _ (.int .i64 0) (.int .i64 0) (.slice none 0 0) (.slice none 0 0) (.slice none 0 0) 25 F4) (only5 wq (w.heap.size + 1) (.int .i64 0) (.int .i64 0) (.slice none 0 0) (.slice none 0 0) (.slice none 0 0)))
 clear F4
 go_wp2_with fail
 refine bodyPost_ret (results_c1 (p := 4) (q := 5) (ty := 25) rfl _ _ (w.heap.size + 1) 25 _ (0, 0) _ _ rfl rfl O6.out.1 Tryz.underlying25 rfl (by kernel_rfl)) rfl ?_
 have s1 := HD.out.2.2.2
 have s2 := H2.out.size
 exact ansO_bad rfl ((HD.out.1.trans (H2.out.mono HD.out.1.size)).trans (O6.out.2.toBelow (by omega) (fun k hk => by omega)))
theorem one_size (w : World) (ao : Option Addr) (c : Nat) (L : List Int) (s : Int) (hr : Hid (RdN w ao L)) (hl : L.length ≤ 4194304) (hb : L.any (badS s) = false) (h2 : symOk s = true) (h3 : 4096 ≤ L.length) :
 Calls Tryz.prog 20 #[.slice ao L.length c, .int .i64 s] w (AnsO w (badA 8)) := by
 obtain ⟨W0, hW0⟩ : ∃ W0, (w.alloc (.cells #[.int .i64 s] 3)).alloc (.cells #[.int .i64 0, .int .i64 0, .slice none 0 0, .slice none 0 0, .slice none 0 0] 25) = W0 := ⟨_, rfl⟩
 have HD : Hid (Below w.heap.size w W0 ∧ W0.heap[w.heap.size]? = some (.cells #[.int .i64 s] 3 (0, 0)) ∧ W0.heap[w.heap.size + 1]? = some (.cells #[.int .i64 0, .int .i64 0, .slice none 0 0, .slice none 0 0, .slice none 0 0] 25 (0, 0)) ∧ W0.heap.size = w.heap.size + 2) := hide (by
  have k1 := (Below.refl w.heap.size w).alloc (Nat.le_refl _) (.cells #[.int .i64 s] 3)
  have z1 := World.alloc_heap_new w (.cells #[.int .i64 s] 3)
  have s1 : (w.alloc (.cells #[.int .i64 s] 3)).heap.size = w.heap.size + 1 := by simp
  generalize w.alloc (.cells #[.int .i64 s] 3) = X at k1 z1 s1 hW0
  have k2 := (Below.refl X.heap.size X).alloc (Nat.le_refl _) (.cells #[.int .i64 0, .int .i64 0, .slice none 0 0, .slice none 0 0, .slice none 0 0] 25)
  have z2 := World.alloc_heap_new X (.cells #[.int .i64 0, .int .i64 0, .slice none 0 0, .slice none 0 0, .slice none 0 0] 25)
  rw [hW0] at k2 z2
  rw [s1] at z2
  exact ⟨k1.trans (k2.mono k1.size), blk_on z1 k2, z2, by rw [← hW0, World.size_alloc, s1]⟩)
 have y0 : W0.cell? ⟨w.heap.size, 0, none⟩ = some (.int .i64 s) := cell_of HD.out.2.1 rfl
 have TC := cont53 W0 ao c L w.heap.size s (hide y0) (hide (hr.out.on HD.out.1)) hl
 rw [hb] at TC
 have HM : Hid (∀ W, Calls Tryz.prog 54 #[.int .i64 s] W fun e w' => e = .returned (.bool true) ∧ w' = W) := hide (fun W => by have q := mayBe_any W s; rwa [h2] at q)
 clear hb h2
 obtain ⟨n, hn⟩ : ∃ n, L.length = n := ⟨_, rfl⟩
 rw [hn] at TC ⊢
 rw [hn] at h3
 clear hn
 have jn : (4096 : Int) ≤ (n : Int) := by omega
 go_enter Tryz.func20, Tryz.ntmps20
 go_upto_region 6 with (first | (go_at_call 52; refine TC.mono ?_; rintro e w2 ⟨rfl, D2⟩; have H2 := hide D2; clear D2; have yq : w2.cell? ⟨w.heap.size, 0, none⟩ = some (.int .i64 s) := cell_of (blk_on HD.out.2.1 H2.out) rfl) | (go_at_call 54; refine (HM.out w2).mono ?_; rintro e wq ⟨rfl, hq⟩; subst hq))
 have F4 := blk_on HD.out.2.2.1 H2.out
 obtain ⟨o0, o1, o2, o3, o4⟩ := zd5 F4 rfl rfl rfl rfl rfl
 have fz0 : wq.frozen? ⟨w.heap.size + 1, 0, none⟩ = false := fz_of F4
 have fz1 : wq.frozen? ⟨w.heap.size + 1, 1, none⟩ = false := fz_of F4
 have fz2 : wq.frozen? ⟨w.heap.size + 1, 2, none⟩ = false := fz_of F4
 have fz3 : wq.frozen? ⟨w.heap.size + 1, 3, none⟩ = false := fz_of F4
 have fz4 : wq.frozen? ⟨w.heap.size + 1, 4, none⟩ = false := fz_of F4
 have O6 := hide (And.intro (set5 wq (w.heap.size + 1) _ _ _ _ _ (.int .i64 0) (.int .i64 0) (.slice none 0 0) (.slice none 0 0) (.slice none 0 0) 25 F4) (only5 wq (w.heap.size + 1) (.int .i64 0) (.int .i64 0) (.slice none 0 0) (.slice none 0 0) (.slice none 0 0)))
 clear F4
 go_wp2_with fail
 refine bodyPost_ret (results_c1 (p := 4) (q := 5) (ty := 25) rfl _ _ (w.heap.size + 1) 25 _ (0, 0) _ _ rfl rfl O6.out.1 Tryz.underlying25 rfl (by kernel_rfl)) rfl ?_
 have s1 := HD.out.2.2.2
 have s2 := H2.out.size
 exact ansO_bad rfl ((HD.out.1.trans (H2.out.mono HD.out.1.size)).trans (O6.out.2.toBelow (by omega) (fun k hk => by omega)))
end Go.Proofs.YtchoopnjckcohaaGreatDoor
namespace Go.Proofs
open Go.Shelf Go.RowKit Go.Lib Go.Sort
def Tryz.lays112_ren : Go.Shelf.Ren := ⟨fun | 112 => 63 | n => n, fun | 28 => 22 | 3 => 3 | 4 => 4 | 0 => 0 | n => n, fun | n => n⟩
theorem Tryz.lays112 : Go.Proofs.Lays.n112 Tryz.prog Tryz.lays112_ren := {
 mixed := by kernel_rfl
 f112 := Tryz.func63.trans (congrArg some (by kernel_rfl))
 t0 := Tryz.underlying0
 a0 := Tryz.isAgg0
 z0 := Tryz.sizeOf0
 v0 := Tryz.zeroValue0
 t3 := Tryz.underlying3
 a3 := Tryz.isAgg3
 z3 := Tryz.sizeOf3
 v3 := Tryz.zeroValue3
 t4 := Tryz.underlying4
 a4 := Tryz.isAgg4
 z4 := Tryz.sizeOf4
 v4 := Tryz.zeroValue4
 t28 := Tryz.underlying22
 a28 := Tryz.isAgg22
 z28 := Tryz.sizeOf22
 v28 := Tryz.zeroValue22
}
end Go.Proofs
namespace Go.Proofs.YtchoopnjckcohaaGreatDoor
open Go.RowKit Go.Maps Go.Sort Go.Proofs
theorem reverse_own (W : World) (B n : Nat) (v : Value) (L : List Int) (hn : n = L.length) (hv : W.ownsRow B 3 1 v n (L.map (Value.int .i64))) (hl : n ≤ 4194304) :
 Calls Tryz.prog 63 #[v] W fun e w' => e = .returned (.tuple #[]) ∧ w'.ownsRow B 3 1 v n (L.reverse.map (Value.int .i64)) ∧ W.grownBy w' v.ownBlock := by
 rcases hv.2 with ⟨ev, e0⟩ | ⟨g, cap, cur, rfl, hB, hb, h1, h2, h3, h4⟩
 · subst ev e0
   obtain rfl : L = [] := List.eq_nil_of_length_eq_zero hn.symm
   refine (Any.slices_Reverse_int_empty Tryz.lays112 none 0 W).mono ?_
   rintro e w' ⟨rfl, rfl⟩
   exact ⟨rfl, hv, rfl, rfl, rfl, Nat.le_refl _, fun _ _ _ => rfl⟩
 · subst hn
   rw [Nat.mul_one] at h4
   refine (Any.slices_Reverse_int Tryz.lays112 g 0 cap L W (holds_of_blockI hb h4) (by omega)).mono ?_
   rintro e w' ⟨rfl, k, rfl⟩
   rw [← grow_empty (putRow _ _ _ _ _)]
   exact ⟨rfl, ownsRow_sortedI (ts := L.reverse) (ss := L) (List.length_reverse) hB hb h1 h2 h3, grownBy_sortedI _⟩
end Go.Proofs.YtchoopnjckcohaaGreatDoor
namespace Go.Proofs.YtchoopnjckcohaaGreatDoor
open Go.RowKit Go.Maps Go.Shelf
attribute [local go_sem] Oper.semAt_some
theorem right_good (w : World) (n m : Int) (a1 a2 a3 : Option Addr) (c1 c2 c3 : Nat) (St Fi : List Int) (Ed : List EdT) (hA : Hid (RdA w a1 a2 a3 St Fi Ed)) (h1 : St.length ≤ 4194304) (h2 : Fi.length ≤ 4194304) (h3 : Ed.length ≤ 4194304) (aw : Option Addr) (cw : Nat) (Wd : List Int) (hU : Hid (RdN w aw Wd)) (hw : Wd.length ≤ 4194304) (hT : Hid (TabAt w ∧ 0 < w.heap.size)) (e0 : wordErr n m St Fi Ed Wd = 0) :
 Calls Tryz.prog 29 #[.agg #[.int .i64 n, .int .i64 m, .slice a1 St.length c1, .slice a2 Fi.length c2, .slice a3 Ed.length c3], .slice aw Wd.length cw] w (AnsO w ⟨n, m, riseL St, aftL (riseE (turnE Ed)) (riseL (riseL Fi)) Wd.reverse, riseE Ed, 0⟩) := by
 obtain ⟨W0, hW0⟩ : ∃ W0, (w.alloc (.cells #[.int .i64 n, .int .i64 m, .slice a1 St.length c1, .slice a2 Fi.length c2, .slice a3 Ed.length c3] 25)).alloc (.cells #[.int .i64 0, .int .i64 0, .slice none 0 0, .slice none 0 0, .slice none 0 0] 25) = W0 := ⟨_, rfl⟩
 have HD := hide (box2 w #[.int .i64 n, .int .i64 m, .slice a1 St.length c1, .slice a2 Fi.length c2, .slice a3 Ed.length c3] #[.int .i64 0, .int .i64 0, .slice none 0 0, .slice none 0 0, .slice none 0 0] 25)
 rw [hW0] at HD
 obtain ⟨cy0, cy1, cy2, cy3, cy4⟩ := zd5 HD.out.2.1 rfl rfl rfl rfl rfl
 have em := (wordErr_zero e0).1
 have HT0 : ∀ W, Below w.heap.size w W → TabAt W ∧ 0 < W.heap.size := fun W d => ⟨hT.out.1.below d hT.out.2, Nat.lt_of_lt_of_le hT.out.2 d.size⟩
 have HTT := hide HT0
 clear HT0
 have e1 : wordErr n m (riseL Fi) (riseL St) (riseE (turnE Ed)) Wd.reverse = 0 := wordErr_iff.2 ⟨may_turn em, by rw [List.all_reverse]; exact (wordErr_zero e0).2⟩
 have E1' := hide e1
 obtain ⟨LX, hLX⟩ : ∃ L, aftL (riseE (turnE Ed)) (riseL (riseL Fi)) Wd.reverse = L := ⟨_, rfl⟩
 rw [hLX]
 have HLX := hide hLX
 have TE : Hid (∀ W av cv B, Below w.heap.size w W → B ≤ W.heap.size → W.ownsRow B 3 1 (.slice av LX.length cv) LX.length (LX.map (Value.int .i64)) → Calls Tryz.prog 38 #[.agg #[.int .i64 n, .int .i64 m, .slice a1 St.length c1, .slice a2 Fi.length c2, .slice a3 Ed.length c3], .slice av LX.length cv, .int .i64 0] W fun e w' => ∃ x1 y1 x2 y2 x3 y3, e = .returned (.tuple #[.agg #[.int .i64 n, .int .i64 m, .slice x1 (riseL St).length y1, .slice x2 LX.length y2, .slice x3 (riseE Ed).length y3], .int .i64 0]) ∧ Hid (OwnO B w' (.slice x1 (riseL St).length y1) (.slice x2 LX.length y2) (.slice x3 (riseE Ed).length y3) (riseL St) LX (riseE Ed) ∧ Below W.heap.size W w')) := hide (fun W av cv B d hB ho => ending_own W n m a1 a2 a3 c1 c2 c3 St Fi Ed (hide (hA.out.on d)) h1 h2 h3 em av LX cv B hB (hide ho))
 clear hLX e0 e1
 generalize riseE Ed = E2 at TE ⊢
 have TR : Calls Tryz.prog 61 #[.agg #[.int .i64 n, .int .i64 m, .slice a1 St.length c1, .slice a2 Fi.length c2, .slice a3 Ed.length c3]] W0 (AnsO W0 ⟨n, m, riseL Fi, riseL St, riseE (turnE Ed), 0⟩) := by
  have q := reverse_ans W0 n m a1 a2 a3 c1 c2 c3 St Fi Ed (hide (hA.out.on HD.out.1)) h1 h2 h3
  rwa [show revAns n m St Fi Ed = ⟨n, m, riseL Fi, riseL St, riseE (turnE Ed), 0⟩ from if_pos em] at q
 have HLn : Hid ((riseL Fi).length ≤ 4194304 ∧ (riseL St).length ≤ 4194304 ∧ (riseE (turnE Ed)).length ≤ 4194304) := hide ⟨Nat.le_trans (riseL_len Fi) h2, Nat.le_trans (riseL_len St) h1, Nat.le_trans (riseE_len _) (by rw [show (turnE Ed).length = Ed.length by simp [turnE]]; exact h3)⟩
 clear em
 generalize riseL Fi = F1 at *
 generalize riseL St = S1 at *
 generalize riseE (turnE Ed) = E1 at *
 obtain ⟨nw, hnw⟩ : ∃ k, Wd.length = k := ⟨_, rfl⟩
 rw [hnw] at hw ⊢
 have HNW := hide hnw
 clear hnw
 go_enter Tryz.func29, Tryz.ntmps29
 go_upto_region 4 with (go_at_call 61; refine TR.mono ?_; rintro e w1 ⟨x1, y1, x2, y2, x3, y3, rfl, O1, D1⟩; have H1 := hide (And.intro O1.out D1); clear O1 D1)
 clear TR cy0 cy1 cy2 cy3 cy4
 obtain ⟨W1, hW1⟩ : ∃ W, w1.alloc (.cells #[.int .i64 n, .int .i64 m, .slice x1 F1.length y1, .slice x2 S1.length y2, .slice x3 E1.length y3] 25) = W := ⟨_, rfl⟩
 have HW : Hid (W1.heap[w1.heap.size]? = some (.cells #[.int .i64 n, .int .i64 m, .slice x1 F1.length y1, .slice x2 S1.length y2, .slice x3 E1.length y3] 25 (0, 0)) ∧ RdA W1 x1 x2 x3 F1 S1 E1 ∧ Below W0.heap.size W0 W1) := hide (by
  have k : Below w1.heap.size w1 W1 := by rw [← hW1]; exact (Below.refl _ _).alloc (Nat.le_refl _) _
  have z := World.alloc_heap_new w1 (.cells #[.int .i64 n, .int .i64 m, .slice x1 F1.length y1, .slice x2 S1.length y2, .slice x3 E1.length y3] 25)
  rw [hW1] at z
  exact ⟨z, (OwnO.rd H1.out.1).on k, H1.out.2.trans (k.mono H1.out.2.size)⟩)
 rw [hW1]
 clear hW1 H1
 have DW : Hid (Below w.heap.size w W1) := hide (HD.out.1.trans (HW.out.2.2.mono HD.out.1.size))
 have TC := clone_own W1 aw nw cw Wd HNW.out (hide (hU.out.on DW.out)) (by omega)
 go_upto_region 5 with (go_at_call 62; refine TC.mono ?_; rintro e w2 ⟨v2, rfl, H2⟩)
 clear TC
 have TV := reverse_own w2 W1.heap.size nw v2 Wd HNW.out.symm H2.out.1 (by omega)
 obtain ⟨z2, u2, rfl⟩ := own_slice H2.out.1
 go_upto_region 6 with (go_at_call 63; refine TV.mono ?_; rintro e w3 ⟨rfl, O3, G3⟩; have H3 : Hid (w3.ownsRow W1.heap.size 3 1 (.slice z2 nw u2) nw (Wd.reverse.map (Value.int .i64)) ∧ Below W1.heap.size W1 w3) := hide ⟨O3, H2.out.2.trans ((grown_only G3).toBelow H2.out.2.size (fun k hk => (H2.out.1.lt k hk).1))⟩; clear O3 G3)
 clear TV H2
 have HRW : Hid (RdN w3 z2 Wd.reverse) := hide (own_rdN (by have q := H3.out.1; rw [← HNW.out, ← List.length_reverse] at q; exact q))
 have hrl : Wd.reverse.length = nw := by rw [List.length_reverse]; exact HNW.out
 obtain ⟨r0, r1, r2, r3, r4⟩ := zd5 (blk_on HW.out.1 H3.out.2) rfl rfl rfl rfl rfl
 have TA := after_lans w3 n m x1 x2 x3 z2 y1 y2 y3 u2 F1 S1 E1 Wd.reverse (hide (HW.out.2.1.on H3.out.2)) HRW (hide (HTT.out w3 (DW.out.trans (H3.out.2.mono DW.out.size)))) HLn.out.1 HLn.out.2.1 HLn.out.2.2 (by omega) E1'.out
 rw [HLX.out, hrl] at TA
 go_upto_region 7 with (go_at_call 51; refine TA.mono ?_; rintro e w4 ⟨av, cv, rfl, O4, D4⟩; have H4 := hide (And.intro O4.out D4); clear O4 D4)
 clear TA r0 r1 r2 r3 r4
 have D4 : Hid (Below W0.heap.size W0 w4) := hide (by
  have q := HW.out.2.2.trans (H3.out.2.mono HW.out.2.2.size)
  exact q.trans (H4.out.2.mono q.size))
 have D4w : Hid (Below w.heap.size w w4) := hide (HD.out.1.trans (D4.out.mono HD.out.1.size))
 obtain ⟨cy0, cy1, cy2, cy3, cy4⟩ := zd5 (blk_on HD.out.2.1 D4.out) rfl rfl rfl rfl rfl
 go_wp2_with (go_at_call 38; refine (TE.out w4 av cv w3.heap.size D4w.out H4.out.2.size H4.out.1).mono ?_; rintro e w5 ⟨X1, Y1, X2, Y2, X3, Y3, rfl, H5⟩; have F4 := blk_on (blk_on HD.out.2.2.1 D4.out) H5.out.2; obtain ⟨o0, o1, o2, o3, o4⟩ := zd5 F4 rfl rfl rfl rfl rfl; have fz0 : w5.frozen? ⟨w.heap.size + 1, 0, none⟩ = false := fz_of F4; have fz1 : w5.frozen? ⟨w.heap.size + 1, 1, none⟩ = false := fz_of F4; have fz2 : w5.frozen? ⟨w.heap.size + 1, 2, none⟩ = false := fz_of F4; have fz3 : w5.frozen? ⟨w.heap.size + 1, 3, none⟩ = false := fz_of F4; have fz4 : w5.frozen? ⟨w.heap.size + 1, 4, none⟩ = false := fz_of F4; have O6 := hide (And.intro (set5 w5 (w.heap.size + 1) _ _ _ _ _ (.int .i64 n) (.int .i64 m) (.slice X1 S1.length Y1) (.slice X2 LX.length Y2) (.slice X3 E2.length Y3) 25 F4) (only5 w5 (w.heap.size + 1) (.int .i64 n) (.int .i64 m) (.slice X1 S1.length Y1) (.slice X2 LX.length Y2) (.slice X3 E2.length Y3))); have HO := hide (H5.out.1.keep F4 O6.out.2); clear F4)
 refine bodyPost_ret (results_c1 (p := 4) (q := 5) (ty := 25) rfl _ _ (w.heap.size + 1) 25 _ (0, 0) _ _ rfl rfl O6.out.1 Tryz.underlying25 rfl (by kernel_rfl)) rfl ?_
 have s1 := HD.out.2.2.2
 have d5 := D4w.out.trans (H5.out.2.mono D4w.out.size)
 have s4 := D4w.out.size
 have s5 := H5.out.2.size
 have s0 := D4.out.size
 have s3 := (HW.out.2.2.trans (H3.out.2.mono HW.out.2.2.size)).size
 exact ⟨X1, Y1, X2, Y2, X3, Y3, rfl, hide (HO.out.down (by omega)), d5.trans (O6.out.2.toBelow d5.size (fun k hk => by omega))⟩
end Go.Proofs.YtchoopnjckcohaaGreatDoor
namespace Go.Proofs.YtchoopnjckcohaaGreatDoor
open Go.RowKit Go.Maps
theorem mem_toL {Ed : List EdT} {p s : Nat} {x : Int} : x ∈ toL (fromL Ed p (s : Int)) ↔ ((p : Int), (s : Int), x) ∈ Ed := by
 unfold toL fromL
 simp only [List.mem_map, List.mem_filter, decide_eq_true_eq]
 constructor
 · rintro ⟨e, ⟨he, h⟩, rfl⟩
   have h1 : e.1 = (p : Int) := by omega
   have h2 : e.2.1 = (s : Int) := by omega
   rw [← h1, ← h2]
   exact he
 · intro h
   exact ⟨_, ⟨h, by simp⟩, rfl⟩
def BrE (Ed : List EdT) (Fi Bg : List Int) (e : EdT) : Prop := e ∈ Ed ∨ (∃ q, (e.1, e.2.1, q) ∈ Ed ∧ q ∈ Fi) ∧ e.2.2 ∈ Bg
theorem mem_endL {Ed : List EdT} {Fi Bg : List Int} (hF : ∀ e ∈ Ed, 0 ≤ e.2.2) {p s : Nat} {x : Int} : x ∈ endL Ed Fi Bg p s ↔ BrE Ed Fi Bg ((p : Int), (s : Int), x) := by
 have key : ((toL (fromL Ed p (s : Int))).any (fun x => finB Fi x.toNat)) = true ↔ ∃ q, ((p : Int), (s : Int), q) ∈ Ed ∧ q ∈ Fi := by
  rw [List.any_eq_true]
  constructor
  · rintro ⟨q, hq, h⟩
    have h0 := mem_toL.1 hq
    have h1 := hF _ h0
    unfold finB at h
    rw [decide_eq_true_eq] at h
    simp only at h1
    rw [show ((q.toNat : Nat) : Int) = q by omega] at h
    exact ⟨q, h0, h⟩
  · rintro ⟨q, h0, h⟩
    have h1 := hF _ h0
    simp only at h1
    refine ⟨q, mem_toL.2 h0, ?_⟩
    unfold finB
    rw [decide_eq_true_eq, show ((q.toNat : Nat) : Int) = q by omega]
    exact h
 unfold endL BrE
 by_cases hc : ((toL (fromL Ed p (s : Int))).any (fun x => finB Fi x.toNat)) = true
 · rw [if_pos hc, List.mem_append, mem_toL]
   exact ⟨fun h => h.imp id fun h => ⟨key.1 hc, h⟩, fun h => h.imp id fun h => h.2⟩
 · rw [if_neg hc, mem_toL]
   exact ⟨Or.inl, fun h => h.elim id fun h => absurd (key.2 h.1) hc⟩
theorem mem_brL {N m : Nat} {Ed : List EdT} {Fi Bg : List Int} (hF : ∀ e ∈ Ed, (0 ≤ e.1 ∧ e.1 < (N : Int)) ∧ (0 ≤ e.2.1 ∧ e.2.1 < (m : Int)) ∧ (0 ≤ e.2.2 ∧ e.2.2 < (N : Int))) (e : EdT) : e ∈ brL Ed Fi Bg m N ↔ BrE Ed Fi Bg e := by
 have h0 : ∀ e ∈ Ed, 0 ≤ e.2.2 := fun e he => (hF e he).2.2.1
 unfold brL rowL celL
 simp only [List.mem_flatMap, List.mem_range, List.mem_map]
 constructor
 · rintro ⟨p, _, s, _, x, hx, rfl⟩
   exact (mem_endL h0).1 ((riseL_iff _ x).1 hx)
 · intro h
   have hb : (0 ≤ e.1 ∧ e.1 < (N : Int)) ∧ (0 ≤ e.2.1 ∧ e.2.1 < (m : Int)) := by
    rcases h with h | ⟨⟨q, h, _⟩, _⟩
    · exact ⟨(hF e h).1, (hF e h).2.1⟩
    · exact ⟨(hF _ h).1, (hF _ h).2.1⟩
   have e1 : ((e.1.toNat : Nat) : Int) = e.1 := by omega
   have e2 : ((e.2.1.toNat : Nat) : Int) = e.2.1 := by omega
   refine ⟨e.1.toNat, by omega, e.2.1.toNat, by omega, e.2.2, ?_, by rw [e1, e2]⟩
   rw [riseL_iff]
   refine (mem_endL h0).2 ?_
   rw [e1, e2]
   exact h
open Go.Shelf
theorem mem_mov {L : List Int} {b x : Int} : x ∈ movN L b ↔ x - b ∈ L := by
 unfold movN
 rw [List.mem_map]
 constructor
 · rintro ⟨y, hy, rfl⟩
   rw [show y + b - b = y by omega]
   exact hy
 · intro h
   exact ⟨x - b, h, by omega⟩
theorem rch_shift {E : List EdT} {b : Int} : ∀ (W : List Int) (p q : Int), Rch (movE E b) W p q ↔ Rch E W (p - b) (q - b)
 | [], p, q => by simp only [Rch]; omega
 | y :: W, p, q => by
  simp only [Rch]
  constructor
  · rintro ⟨r, hr, hR⟩
    unfold movE at hr
    obtain ⟨e, he, h⟩ := List.mem_map.1 hr
    simp only [Prod.mk.injEq] at h
    obtain ⟨h1, h2, h3⟩ := h
    refine ⟨r - b, ?_, (rch_shift W r q).1 hR⟩
    rw [show (p - b, y, r - b) = e from Prod.ext (by simp only; omega) (Prod.ext (by simp only; omega) (by simp only; omega))]
    exact he
  · rintro ⟨r, hr, hR⟩
    refine ⟨r + b, ?_, (rch_shift W _ q).2 (by rw [show r + b - b = r by omega]; exact hR)⟩
    unfold movE
    exact List.mem_map.2 ⟨_, hr, Prod.ext (by simp only; omega) rfl⟩
theorem rch_con {n : Int} {E B E2 : List EdT} {F S2 : List Int} (hB : ∀ e, e ∈ B ↔ BrE E F (movN S2 n) e) (hE : ∀ e ∈ E, e.1 < n ∧ e.2.2 < n) (hE2 : ∀ e ∈ E2, 0 ≤ e.1 ∧ 0 ≤ e.2.2) (hS : ∀ x ∈ S2, 0 ≤ x) : ∀ (W : List Int) (p q : Int), p < n → (Rch (B ++ movE E2 n) W p q ↔ Rch E W p q ∨ ∃ U V f x, W = U ++ V ∧ U ≠ [] ∧ Rch E U p f ∧ f ∈ F ∧ x ∈ S2 ∧ Rch E2 V x (q - n))
 | [], p, q, _ => by
  simp only [Rch]
  constructor
  · exact fun h => .inl h
  · rintro (h | ⟨U, V, f, x, h, h2, _⟩)
    · exact h
    · exact absurd (List.append_eq_nil_iff.1 h.symm).1 h2
 | y :: W, p, q, hp => by
  have hB1 : ∀ e ∈ B, e.1 < n := by
   intro e he
   rcases (hB e).1 he with h | ⟨⟨q, h, _⟩, _⟩
   · exact (hE e h).1
   · exact (hE _ h).1
  have hi : ∀ (W : List Int) (p q : Int), n ≤ p → (Rch (B ++ movE E2 n) W p q ↔ Rch E2 W (p - n) (q - n)) := rch_high hB1 (fun e he => (hE2 e he).2)
  simp only [Rch]
  constructor
  · rintro ⟨r, hr, hR⟩
    rcases List.mem_append.1 hr with hr | hr
    · rcases (hB _).1 hr with h | ⟨⟨q0, h, hq⟩, hg⟩
      · rcases (rch_con hB hE hE2 hS W r q (hE _ h).2).1 hR with h2 | ⟨U, V, f, x, rfl, u1, u2, u3, u4, u5⟩
        · exact .inl ⟨r, h, h2⟩
        · exact .inr ⟨y :: U, V, f, x, rfl, by simp, ⟨r, h, u2⟩, u3, u4, u5⟩
      · have hx := mem_mov.1 hg
        simp only at hx
        have := hS _ hx
        exact .inr ⟨[y], W, q0, r - n, rfl, by simp, ⟨q0, h, rfl⟩, hq, hx, (hi W r q (by omega)).1 hR⟩
    · exfalso
      unfold movE at hr
      obtain ⟨e, he, h⟩ := List.mem_map.1 hr
      simp only [Prod.mk.injEq] at h
      have := (hE2 e he).1
      omega
  · rintro (⟨r, h, h2⟩ | ⟨U, V, f, x, hw, u1, u2, u3, u4, u5⟩)
    · exact ⟨r, List.mem_append_left _ ((hB _).2 (.inl h)), (rch_con hB hE hE2 hS W r q (hE _ h).2).2 (.inl h2)⟩
    · cases U with
      | nil => exact absurd rfl u1
      | cons z U =>
       rw [List.cons_append] at hw
       cases hw
       obtain ⟨r, h, h2⟩ := u2
       cases U with
       | nil =>
        cases h2
        refine ⟨x + n, List.mem_append_left _ ((hB _).2 (.inr ⟨⟨_, h, u3⟩, mem_mov.2 (by simp only; rw [show x + n - n = x by omega]; exact u4)⟩)), ?_⟩
        rw [List.nil_append]
        exact (hi V _ q (by have := hS x u4; omega)).2 (by rw [show x + n - n = x by omega]; exact u5)
       | cons z2 U =>
        exact ⟨r, List.mem_append_left _ ((hB _).2 (.inl h)), (rch_con hB hE hE2 hS _ r q (hE _ h).2).2 (.inr ⟨z2 :: U, V, f, x, rfl, by simp, h2, u3, u4, u5⟩)⟩
theorem rch_sta {E B : List EdT} {F S : List Int} (hB : ∀ e, e ∈ B ↔ BrE E F S e) : ∀ (W : List Int) (p q : Int), (Rch B W p q ↔ Rch E W p q ∨ ∃ U V f x, W = U ++ V ∧ U ≠ [] ∧ Rch E U p f ∧ f ∈ F ∧ x ∈ S ∧ Rch B V x q)
 | [], p, q => by
  simp only [Rch]
  constructor
  · exact fun h => .inl h
  · rintro (h | ⟨U, V, f, x, h, h2, _⟩)
    · exact h
    · exact absurd (List.append_eq_nil_iff.1 h.symm).1 h2
 | y :: W, p, q => by
  simp only [Rch]
  constructor
  · rintro ⟨r, hr, hR⟩
    rcases (hB _).1 hr with h | ⟨⟨q0, h, hq⟩, hg⟩
    · rcases (rch_sta hB W r q).1 hR with h2 | ⟨U, V, f, x, rfl, u1, u2, u3, u4, u5⟩
      · exact .inl ⟨r, h, h2⟩
      · exact .inr ⟨y :: U, V, f, x, rfl, by simp, ⟨r, h, u2⟩, u3, u4, u5⟩
    · exact .inr ⟨[y], W, q0, r, rfl, by simp, ⟨q0, h, rfl⟩, hq, hg, hR⟩
  · rintro (⟨r, h, h2⟩ | ⟨U, V, f, x, hw, u1, u2, u3, u4, u5⟩)
    · exact ⟨r, (hB _).2 (.inl h), (rch_sta hB W r q).2 (.inl h2)⟩
    · cases U with
      | nil => exact absurd rfl u1
      | cons z U =>
       rw [List.cons_append] at hw
       cases hw
       obtain ⟨r, h, h2⟩ := u2
       cases U with
       | nil =>
        cases h2
        exact ⟨x, (hB _).2 (.inr ⟨⟨_, h, u3⟩, u4⟩), u5⟩
       | cons z2 U => exact ⟨r, (hB _).2 (.inl h), (rch_sta hB _ r q).2 (.inr ⟨z2 :: U, V, f, x, rfl, by simp, h2, u3, u4, u5⟩)⟩
inductive Stk (L : List Int → Prop) : List Int → Prop
 | nil : Stk L []
 | cons {U V : List Int} : U ≠ [] → L U → Stk L V → Stk L (U ++ V)
theorem Stk.app {L : List Int → Prop} {A B : List Int} (h : Stk L A) (h2 : Stk L B) : Stk L (A ++ B) := by
 induction h with
 | nil => exact h2
 | cons h1 h3 _ ih => rw [List.append_assoc]; exact .cons h1 h3 ih
theorem Stk.snoc {L : List Int → Prop} {A U : List Int} (h : Stk L A) (h1 : U ≠ []) (h2 : L U) : Stk L (A ++ U) := h.app (by have := Stk.cons h1 h2 Stk.nil; rwa [List.append_nil] at this)
theorem Stk.last {L : List Int → Prop} {W : List Int} (h : Stk L W) : W = [] ∨ ∃ A U, W = A ++ U ∧ U ≠ [] ∧ L U ∧ Stk L A := by
 induction h with
 | nil => exact .inl rfl
 | @cons U V h1 h2 h3 ih =>
  rcases ih with rfl | ⟨A, X, rfl, x1, x2, x3⟩
  · exact .inr ⟨[], U, by simp, h1, h2, .nil⟩
  · exact .inr ⟨U ++ A, X, by rw [List.append_assoc], x1, x2, .cons h1 h2 x3⟩
theorem sta_words {E B : List EdT} {F S : List Int} (hB : ∀ e, e ∈ B ↔ BrE E F S e) : ∀ (n : Nat) (W : List Int), W.length ≤ n → ((W = [] ∨ Tak S F B W) ↔ Stk (Tak S F E) W) := by
 intro n
 induction n with
 | zero =>
  intro W hW
  obtain rfl := List.eq_nil_of_length_eq_zero (Nat.le_zero.1 hW)
  exact ⟨fun _ => .nil, fun _ => .inl rfl⟩
 | succ n ih =>
  intro W hW
  constructor
  · rintro (rfl | ⟨p, hp, q, hq, hr⟩)
    · exact .nil
    · rcases (rch_sta hB W p q).1 hr with h | ⟨U, V, f, x, rfl, u1, u2, u3, u4, u5⟩
      · by_cases e : W = []
        · subst e; exact .nil
        · have := Stk.cons e (show Tak S F E W from ⟨p, hp, q, hq, h⟩) Stk.nil
          rwa [List.append_nil] at this
      · refine .cons u1 ⟨p, hp, f, u3, u2⟩ ((ih V ?_).1 (.inr ⟨x, u4, q, hq, u5⟩))
        have : 0 < U.length := List.length_pos_iff.2 u1
        rw [List.length_append] at hW
        omega
  · intro h
    cases h with
    | nil => exact .inl rfl
    | @cons U V h1 h2 h3 =>
     have hV : V.length ≤ n := by
      have : 0 < U.length := List.length_pos_iff.2 h1
      rw [List.length_append] at hW
      omega
     obtain ⟨p, hp, q, hq, hr⟩ := h2
     rcases (ih V hV).2 h3 with rfl | ⟨p2, hp2, q2, hq2, hr2⟩
     · rw [List.append_nil]
       exact .inr ⟨p, hp, q, hq, (rch_sta hB U p q).2 (.inl hr)⟩
     · exact .inr ⟨p, hp, q2, hq2, (rch_sta hB _ p q2).2 (.inr ⟨U, V, q, p2, rfl, h1, hr, hq, hp2, hr2⟩)⟩
theorem nodup_len : ∀ (A B : List EdT), A.Nodup → (∀ x ∈ A, x ∈ B) → A.length ≤ B.length
 | [], _, _, _ => Nat.zero_le _
 | a :: A, B, hn, hs => by
  have hn' := List.nodup_cons.1 hn
  have ha : a ∈ B := hs a (by simp)
  have h := nodup_len A (B.erase a) hn'.2 (fun x hx => (List.mem_erase_of_ne (fun e => by subst e; exact hn'.1 hx)).2 (hs x (by simp [hx])))
  rw [List.length_erase_of_mem ha] at h
  have : 0 < B.length := List.length_pos_of_mem ha
  rw [List.length_cons]
  omega
end Go.Proofs.YtchoopnjckcohaaGreatDoor
namespace Go.Proofs.YtchoopnjckcohaaGreatDoor
open Go.RowKit Go.Maps Go.Shelf
attribute [local go_sem] Oper.semAt_some
theorem right_bad (w : World) (ao : Option Addr) (nl cl : Nat) (n m : Int) (a1 a2 a3 : Option Addr) (c1 c2 c3 : Nat) (Sa Fa : List Int) (Ea : List EdT) (hA : Hid (RdA w a1 a2 a3 Sa Fa Ea)) (h1 : Sa.length ≤ 4194304) (h2 : Fa.length ≤ 4194304) (h3 : Ea.length ≤ 4194304) (_hc : Ea.length ≤ c3) (em : mayA n m Sa Fa Ea = false) :
 Calls Tryz.prog 29 #[.agg #[.int .i64 n, .int .i64 m, .slice a1 Sa.length c1, .slice a2 Fa.length c2, .slice a3 Ea.length c3], .slice ao nl cl] w (AnsO w (badA 2)) := by
 obtain ⟨W0, hW0⟩ : ∃ W0, (w.alloc (.cells #[.int .i64 n, .int .i64 m, .slice a1 Sa.length c1, .slice a2 Fa.length c2, .slice a3 Ea.length c3] 25)).alloc (.cells #[.int .i64 0, .int .i64 0, .slice none 0 0, .slice none 0 0, .slice none 0 0] 25) = W0 := ⟨_, rfl⟩
 have HD := hide (box2 w #[.int .i64 n, .int .i64 m, .slice a1 Sa.length c1, .slice a2 Fa.length c2, .slice a3 Ea.length c3] #[.int .i64 0, .int .i64 0, .slice none 0 0, .slice none 0 0, .slice none 0 0] 25)
 rw [hW0] at HD
 have TN := reverse_bad W0 n m a1 a2 a3 c1 c2 c3 Sa Fa Ea (hide (hA.out.on HD.out.1)) h1 h2 h3 em
 clear em
 obtain ⟨y0, y1, y2, y3, y4⟩ := zd5 HD.out.2.1 rfl rfl rfl rfl rfl
 go_enter Tryz.func29, Tryz.ntmps29
 go_upto_region 3 with (go_at_call 61; refine TN.mono ?_; rintro e w1 ⟨rfl, D1⟩; have H1 := hide D1; clear D1)
 clear TN y0 y1 y2 y3 y4
 obtain ⟨W1, hW1⟩ : ∃ W, w1.alloc (.cells #[.int .i64 0, .int .i64 0, .slice none 0 0, .slice none 0 0, .slice none 0 0] 25) = W := ⟨_, rfl⟩
 have HW : Hid (W1.heap[w.heap.size + 1]? = some (.cells #[.int .i64 0, .int .i64 0, .slice none 0 0, .slice none 0 0, .slice none 0 0] 25 (0, 0)) ∧ w.heap.size + 2 ≤ W1.heap.size ∧ Below w.heap.size w W1) := hide (by
  have k : Below w1.heap.size w1 W1 := by rw [← hW1]; exact (Below.refl _ _).alloc (Nat.le_refl _) _
  have d2 := H1.out.trans (k.mono H1.out.size)
  have s := HD.out.2.2.2
  exact ⟨blk_on HD.out.2.2.1 d2, by have := d2.size; omega, HD.out.1.trans (d2.mono HD.out.1.size)⟩)
 rw [hW1]
 clear hW1 H1
 have F4 := HW.out.1
 obtain ⟨o0, o1, o2, o3, o4⟩ := zd5 F4 rfl rfl rfl rfl rfl
 have fz0 : W1.frozen? ⟨w.heap.size + 1, 0, none⟩ = false := fz_of F4
 have fz1 : W1.frozen? ⟨w.heap.size + 1, 1, none⟩ = false := fz_of F4
 have fz2 : W1.frozen? ⟨w.heap.size + 1, 2, none⟩ = false := fz_of F4
 have fz3 : W1.frozen? ⟨w.heap.size + 1, 3, none⟩ = false := fz_of F4
 have fz4 : W1.frozen? ⟨w.heap.size + 1, 4, none⟩ = false := fz_of F4
 have O6 := hide (And.intro (set5 W1 (w.heap.size + 1) _ _ _ _ _ (.int .i64 0) (.int .i64 0) (.slice none 0 0) (.slice none 0 0) (.slice none 0 0) 25 F4) (only5 W1 (w.heap.size + 1) (.int .i64 0) (.int .i64 0) (.slice none 0 0) (.slice none 0 0) (.slice none 0 0)))
 clear F4
 go_wp2_with fail
 refine bodyPost_ret (results_c1 (p := 4) (q := 5) (ty := 25) rfl _ _ (w.heap.size + 1) 25 _ (0, 0) _ _ rfl rfl O6.out.1 Tryz.underlying25 rfl (by kernel_rfl)) rfl ?_
 have s2 := HW.out.2.1
 exact ansO_bad rfl (HW.out.2.2.trans (O6.out.2.toBelow (by omega) (fun k hk => by omega)))
theorem right_word (w : World) (n m : Int) (a1 a2 a3 : Option Addr) (c1 c2 c3 : Nat) (St Fi : List Int) (Ed : List EdT) (hA : Hid (RdA w a1 a2 a3 St Fi Ed)) (h1 : St.length ≤ 4194304) (h2 : Fi.length ≤ 4194304) (h3 : Ed.length ≤ 4194304) (aw : Option Addr) (cw : Nat) (Wd : List Int) (hU : Hid (RdN w aw Wd)) (hw : Wd.length ≤ 4194304) (em : mayA n m St Fi Ed = true) (hw7 : Wd.all (inB m) = false) :
 Calls Tryz.prog 29 #[.agg #[.int .i64 n, .int .i64 m, .slice a1 St.length c1, .slice a2 Fi.length c2, .slice a3 Ed.length c3], .slice aw Wd.length cw] w (AnsO w (badA 7)) := by
 obtain ⟨W0, hW0⟩ : ∃ W0, (w.alloc (.cells #[.int .i64 n, .int .i64 m, .slice a1 St.length c1, .slice a2 Fi.length c2, .slice a3 Ed.length c3] 25)).alloc (.cells #[.int .i64 0, .int .i64 0, .slice none 0 0, .slice none 0 0, .slice none 0 0] 25) = W0 := ⟨_, rfl⟩
 have HD := hide (box2 w #[.int .i64 n, .int .i64 m, .slice a1 St.length c1, .slice a2 Fi.length c2, .slice a3 Ed.length c3] #[.int .i64 0, .int .i64 0, .slice none 0 0, .slice none 0 0, .slice none 0 0] 25)
 rw [hW0] at HD
 obtain ⟨cy0, cy1, cy2, cy3, cy4⟩ := zd5 HD.out.2.1 rfl rfl rfl rfl rfl
 have e1 : wordErr n m (riseL Fi) (riseL St) (riseE (turnE Ed)) Wd.reverse = 7 := by
  unfold wordErr
  rw [if_pos (may_turn em), List.all_reverse, hw7]
  rfl
 have E1' := hide e1
 have TE : Hid (∀ W, Below w.heap.size w W → Calls Tryz.prog 38 #[.agg #[.int .i64 n, .int .i64 m, .slice a1 St.length c1, .slice a2 Fi.length c2, .slice a3 Ed.length c3], .slice none 0 0, .int .i64 7] W fun e w' => e = .returned (.tuple #[.agg #[.int .i64 0, .int .i64 0, .slice none 0 0, .slice none 0 0, .slice none 0 0], .int .i64 7]) ∧ Below W.heap.size W w') := hide (fun W d => ending_bad W n m a1 a2 a3 c1 c2 c3 St Fi Ed (hide (hA.out.on d)) h1 h2 h3 (.slice none 0 0) 7 (by decide))
 clear e1 hw7
 have TR : Calls Tryz.prog 61 #[.agg #[.int .i64 n, .int .i64 m, .slice a1 St.length c1, .slice a2 Fi.length c2, .slice a3 Ed.length c3]] W0 (AnsO W0 ⟨n, m, riseL Fi, riseL St, riseE (turnE Ed), 0⟩) := by
  have q := reverse_ans W0 n m a1 a2 a3 c1 c2 c3 St Fi Ed (hide (hA.out.on HD.out.1)) h1 h2 h3
  rwa [show revAns n m St Fi Ed = ⟨n, m, riseL Fi, riseL St, riseE (turnE Ed), 0⟩ from if_pos em] at q
 have HLn : Hid ((riseL Fi).length ≤ 4194304 ∧ (riseL St).length ≤ 4194304 ∧ (riseE (turnE Ed)).length ≤ 4194304) := hide ⟨Nat.le_trans (riseL_len Fi) h2, Nat.le_trans (riseL_len St) h1, Nat.le_trans (riseE_len _) (by rw [show (turnE Ed).length = Ed.length by simp [turnE]]; exact h3)⟩
 clear em
 generalize riseL Fi = F1 at *
 generalize riseL St = S1 at *
 generalize riseE (turnE Ed) = E1 at *
 obtain ⟨nw, hnw⟩ : ∃ k, Wd.length = k := ⟨_, rfl⟩
 rw [hnw] at hw ⊢
 have HNW := hide hnw
 clear hnw
 go_enter Tryz.func29, Tryz.ntmps29
 go_upto_region 4 with (go_at_call 61; refine TR.mono ?_; rintro e w1 ⟨x1, y1, x2, y2, x3, y3, rfl, O1, D1⟩; have H1 := hide (And.intro O1.out D1); clear O1 D1)
 clear TR cy0 cy1 cy2 cy3 cy4
 obtain ⟨W1, hW1⟩ : ∃ W, w1.alloc (.cells #[.int .i64 n, .int .i64 m, .slice x1 F1.length y1, .slice x2 S1.length y2, .slice x3 E1.length y3] 25) = W := ⟨_, rfl⟩
 have HW : Hid (W1.heap[w1.heap.size]? = some (.cells #[.int .i64 n, .int .i64 m, .slice x1 F1.length y1, .slice x2 S1.length y2, .slice x3 E1.length y3] 25 (0, 0)) ∧ RdA W1 x1 x2 x3 F1 S1 E1 ∧ Below W0.heap.size W0 W1) := hide (by
  have k : Below w1.heap.size w1 W1 := by rw [← hW1]; exact (Below.refl _ _).alloc (Nat.le_refl _) _
  have z := World.alloc_heap_new w1 (.cells #[.int .i64 n, .int .i64 m, .slice x1 F1.length y1, .slice x2 S1.length y2, .slice x3 E1.length y3] 25)
  rw [hW1] at z
  exact ⟨z, (OwnO.rd H1.out.1).on k, H1.out.2.trans (k.mono H1.out.2.size)⟩)
 rw [hW1]
 clear hW1 H1
 have DW : Hid (Below w.heap.size w W1) := hide (HD.out.1.trans (HW.out.2.2.mono HD.out.1.size))
 have TC := clone_own W1 aw nw cw Wd HNW.out (hide (hU.out.on DW.out)) (by omega)
 go_upto_region 5 with (go_at_call 62; refine TC.mono ?_; rintro e w2 ⟨v2, rfl, H2⟩)
 clear TC
 have TV := reverse_own w2 W1.heap.size nw v2 Wd HNW.out.symm H2.out.1 (by omega)
 obtain ⟨z2, u2, rfl⟩ := own_slice H2.out.1
 go_upto_region 6 with (go_at_call 63; refine TV.mono ?_; rintro e w3 ⟨rfl, O3, G3⟩; have H3 : Hid (w3.ownsRow W1.heap.size 3 1 (.slice z2 nw u2) nw (Wd.reverse.map (Value.int .i64)) ∧ Below W1.heap.size W1 w3) := hide ⟨O3, H2.out.2.trans ((grown_only G3).toBelow H2.out.2.size (fun k hk => (H2.out.1.lt k hk).1))⟩; clear O3 G3)
 clear TV H2
 have HRW : Hid (RdN w3 z2 Wd.reverse) := hide (own_rdN (by have q := H3.out.1; rw [← HNW.out, ← List.length_reverse] at q; exact q))
 have hrl : Wd.reverse.length = nw := by rw [List.length_reverse]; exact HNW.out
 obtain ⟨r0, r1, r2, r3, r4⟩ := zd5 (blk_on HW.out.1 H3.out.2) rfl rfl rfl rfl rfl
 have TA := After_bad w3 n m x1 x2 x3 z2 y1 y2 y3 u2 F1 S1 E1 Wd.reverse (hide (HW.out.2.1.on H3.out.2)) HRW HLn.out.1 HLn.out.2.1 HLn.out.2.2 (by omega) (by rw [E1'.out]; decide)
 rw [E1'.out, hrl] at TA
 go_upto_region 7 with (go_at_call 51; refine TA.mono ?_; rintro e w4 ⟨rfl, D4⟩; have H4 := hide D4; clear D4)
 clear TA r0 r1 r2 r3 r4
 have D4 : Hid (Below W0.heap.size W0 w4) := hide (by
  have q := HW.out.2.2.trans (H3.out.2.mono HW.out.2.2.size)
  exact q.trans (H4.out.mono q.size))
 have D4w : Hid (Below w.heap.size w w4) := hide (HD.out.1.trans (D4.out.mono HD.out.1.size))
 obtain ⟨cy0, cy1, cy2, cy3, cy4⟩ := zd5 (blk_on HD.out.2.1 D4.out) rfl rfl rfl rfl rfl
 go_wp2_with (go_at_call 38; refine (TE.out w4 D4w.out).mono ?_; rintro e w5 ⟨rfl, D5⟩; have H5 := hide D5; clear D5; have F4 := blk_on (blk_on HD.out.2.2.1 D4.out) H5.out; obtain ⟨o0, o1, o2, o3, o4⟩ := zd5 F4 rfl rfl rfl rfl rfl; have fz0 : w5.frozen? ⟨w.heap.size + 1, 0, none⟩ = false := fz_of F4; have fz1 : w5.frozen? ⟨w.heap.size + 1, 1, none⟩ = false := fz_of F4; have fz2 : w5.frozen? ⟨w.heap.size + 1, 2, none⟩ = false := fz_of F4; have fz3 : w5.frozen? ⟨w.heap.size + 1, 3, none⟩ = false := fz_of F4; have fz4 : w5.frozen? ⟨w.heap.size + 1, 4, none⟩ = false := fz_of F4; have O6 := hide (And.intro (set5 w5 (w.heap.size + 1) _ _ _ _ _ (.int .i64 0) (.int .i64 0) (.slice none 0 0) (.slice none 0 0) (.slice none 0 0) 25 F4) (only5 w5 (w.heap.size + 1) (.int .i64 0) (.int .i64 0) (.slice none 0 0) (.slice none 0 0) (.slice none 0 0))); clear F4)
 refine bodyPost_ret (results_c1 (p := 4) (q := 5) (ty := 25) rfl _ _ (w.heap.size + 1) 25 _ (0, 0) _ _ rfl rfl O6.out.1 Tryz.underlying25 rfl (by kernel_rfl)) rfl ?_
 have s1 := HD.out.2.2.2
 have d5 := D4w.out.trans (H5.out.mono D4w.out.size)
 have s4 := D4w.out.size
 have s5 := H5.out.size
 have s0 := D4.out.size
 exact ansO_bad rfl (d5.trans (O6.out.2.toBelow d5.size (fun k hk => by omega)))
def wdP (n : Nat) (L : List Int) : MkP := fun x _ _ W => ∃ ad c, x = .slice ad n c ∧ RdN W ad L
theorem wdP_mono {n : Nat} {L : List Int} : MonoP (wdP n L) := fun _ _ _ _ _ _ d ⟨ad, c, e, h⟩ => ⟨ad, c, e, h.on d⟩
theorem rd_take {W : World} {ao : Option Addr} {L : List Int} (h : RdN W ao L) (k : Nat) : RdN W ao (L.take k) := fun j hj => by
 have hj2 : j < L.length := by rw [List.length_take] at hj; omega
 obtain ⟨g, o, e, c⟩ := h j hj2
 exact ⟨g, o, e, by rw [List.getElem_take]; exact c⟩
theorem rd_drop {W : World} {ao : Option Addr} {L : List Int} {cw k : Nat} (h : RdN W ao L) (hc : L.length ≤ cw) (hk : k ≤ L.length) : RdN W (if cw = k then ao else Option.map (fun x => x.add k) ao) (L.drop k) := fun j hj => by
 rw [List.length_drop] at hj
 have hj2 : k + j < L.length := by omega
 obtain ⟨g, o, rfl, c⟩ := h (k + j) hj2
 rw [if_neg (by omega)]
 refine ⟨g, o + k, ?_, ?_⟩
 · rw [Option.map_some, Addr.add_lit]
 · rw [List.getElem_drop, Nat.add_assoc]; exact c
end Go.Proofs.YtchoopnjckcohaaGreatDoor
namespace Go.Proofs.YtchoopnjckcohaaGreatDoor
open Go.RowKit Go.Maps
theorem ss_nodup {E : List EdT} (h : SsE E) : E.Nodup := h.imp fun {a b} q e => by
 subst e
 simp [ltE] at q
theorem br_long {N m : Nat} {Ed : List EdT} {Fi Bg : List Int} (hS : SsE Ed) (hF : ∀ e ∈ Ed, (0 ≤ e.1 ∧ e.1 < (N : Int)) ∧ (0 ≤ e.2.1 ∧ e.2.1 < (m : Int)) ∧ (0 ≤ e.2.2 ∧ e.2.2 < (N : Int))) : Ed.length ≤ (brL Ed Fi Bg m N).length :=
 nodup_len _ _ (ss_nodup hS) fun x hx => (mem_brL hF x).2 (.inl hx)
theorem bad_all {m : Int} : ∀ {L : List Int}, L.any (badS m) = false ↔ ∀ x ∈ L, 0 ≤ x ∧ x < m
 | [] => by simp
 | x :: L => by
  rw [List.any_cons, Bool.or_eq_false_iff, bad_all (L := L), List.forall_mem_cons]
  refine and_congr ?_ Iff.rfl
  unfold badS
  rw [decide_eq_false_iff_not]
  omega
def conA (n m n' m' : Int) (Sa Fa : List Int) (Ea : List EdT) (Sb Fb : List Int) (Eb : List EdT) : Ans := if unErr n m n' m' Sa Fa Ea Sb Fb Eb = 0 then behA (n' + n) m (if emptB (riseL Sa) (riseL Fa) then (riseL Sa) ++ movN (riseL Sb) n else (riseL Sa)) (if emptB (movN (riseL Sb) n) (movN (riseL Fb) n) then (riseL Fa) ++ movN (riseL Fb) n else movN (riseL Fb) n) (brL (riseE Ea) (riseL Fa) (movN (riseL Sb) n) m.toNat n.toNat) (movE (riseE Eb) n) else badA (unErr n m n' m' Sa Fa Ea Sb Fb Eb)
def staA (n m : Int) (Sa Fa : List Int) (Ea : List EdT) : Ans := if mayA n m Sa Fa Ea = true then (if n < 4096 then agaA (n + 1) m (movN (riseL Sa) 1) (movN (riseL Fa) 1) (brL (movE (riseE Ea) 1) (movN (riseL Fa) 1) (movN (riseL Sa) 1) m.toNat (n.toNat + 1)) else badA 8) else badA 2
noncomputable def preA (n m : Int) (Sa Fa : List Int) (Ea : List EdT) : Ans := if mayA n m Sa Fa Ea = true then ⟨n, m, riseL Sa, rchL true n m Sa Fa Ea, riseE Ea, 0⟩ else badA 2
noncomputable def sufA (n m : Int) (Sa Fa : List Int) (Ea : List EdT) : Ans := if mayA n m Sa Fa Ea = true then ⟨n, m, rchL false n m Sa Fa Ea, riseL Fa, riseE Ea, 0⟩ else badA 2
def lefA (n m : Int) (Sa Fa : List Int) (Ea : List EdT) (Wd : List Int) : Ans := if wordErr n m Sa Fa Ea Wd = 0 then ⟨n, m, aftL Ea (riseL Sa) Wd, riseL Fa, riseE Ea, 0⟩ else badA (wordErr n m Sa Fa Ea Wd)
def rigA (n m : Int) (Sa Fa : List Int) (Ea : List EdT) (Wd : List Int) : Ans := if wordErr n m Sa Fa Ea Wd = 0 then ⟨n, m, riseL Sa, aftL (riseE (turnE Ea)) (riseL Fa) Wd.reverse, riseE Ea, 0⟩ else badA (wordErr n m Sa Fa Ea Wd)
def onA (Wd : List Int) (s : Int) : Ans := if Wd.any (badS s) = true then badA 7 else if symOk s = true then (if Wd.length < 4096 then ⟨(Wd.length : Int) + 1, s, [0], [(Wd.length : Int)], oneE Wd, 0⟩ else badA 8) else badA 1
def alA (s : Int) : Ans := if symOk s = true then ⟨1, s, [0], [0], allE s.toNat, 0⟩ else badA 1
def noA (s : Int) : Ans := if symOk s = true then ⟨0, s, [], [], [], 0⟩ else badA 1
theorem mk_nat {n m : Int} {Sa Fa : List Int} {Ea : List EdT} (h : mayA n m Sa Fa Ea = true) : ∃ N m' : Nat, n = (N : Int) ∧ m = (m' : Int) ∧ N ≤ 4096 ∧ m' ≤ 128 := by
 obtain ⟨q1, q2, _⟩ := may_parts h
 exact ⟨n.toNat, m.toNat, by omega, by omega, by omega, by omega⟩
theorem un_cases (n m n' m' : Int) (Sa Fa : List Int) (Ea : List EdT) (Sb Fb : List Int) (Eb : List EdT) : (mayA n m Sa Fa Ea = false ∧ unErr n m n' m' Sa Fa Ea Sb Fb Eb = 2) ∨ (mayA n m Sa Fa Ea = true ∧ mayA n' m' Sb Fb Eb = false ∧ unErr n m n' m' Sa Fa Ea Sb Fb Eb = 2) ∨ (mayA n m Sa Fa Ea = true ∧ mayA n' m' Sb Fb Eb = true ∧ m ≠ m' ∧ unErr n m n' m' Sa Fa Ea Sb Fb Eb = 6) ∨ (mayA n m Sa Fa Ea = true ∧ mayA n' m' Sb Fb Eb = true ∧ m = m' ∧ 4096 < n + n' ∧ unErr n m n' m' Sa Fa Ea Sb Fb Eb = 8) ∨ (mayA n m Sa Fa Ea = true ∧ mayA n' m' Sb Fb Eb = true ∧ m = m' ∧ n + n' ≤ 4096 ∧ 65536 < (riseE Ea).length + (riseE Eb).length ∧ unErr n m n' m' Sa Fa Ea Sb Fb Eb = 8) ∨ (mayA n m Sa Fa Ea = true ∧ mayA n' m' Sb Fb Eb = true ∧ m = m' ∧ n + n' ≤ 4096 ∧ (riseE Ea).length + (riseE Eb).length ≤ 65536 ∧ unErr n m n' m' Sa Fa Ea Sb Fb Eb = 0) := by
 unfold unErr
 cases e1 : mayA n m Sa Fa Ea with
 | false => left; exact ⟨rfl, if_pos (.inl rfl)⟩
 | true =>
  cases e2 : mayA n' m' Sb Fb Eb with
  | false => right; left; exact ⟨rfl, rfl, if_pos (.inr rfl)⟩
  | true =>
   rw [if_neg (by simp)]
   by_cases e3 : m = m'
   · rw [if_neg (by simp [e3])]
     by_cases e4 : 4096 < n + n'
     · rw [if_pos e4]; right; right; right; left; exact ⟨rfl, rfl, e3, e4, rfl⟩
     · rw [if_neg e4]
       by_cases e5 : 65536 < (riseE Ea).length + (riseE Eb).length
       · rw [if_pos e5]; right; right; right; right; left; exact ⟨rfl, rfl, e3, by omega, e5, rfl⟩
       · rw [if_neg e5]; right; right; right; right; right; exact ⟨rfl, rfl, e3, by omega, by omega, rfl⟩
   · rw [if_pos e3]; right; right; left; exact ⟨rfl, rfl, e3, rfl⟩
theorem conA_bad {n m n' m' : Int} {Sa Fa : List Int} {Ea : List EdT} {Sb Fb : List Int} {Eb : List EdT} {er : Int} (h : unErr n m n' m' Sa Fa Ea Sb Fb Eb = er) (e0 : er ≠ 0) : conA n m n' m' Sa Fa Ea Sb Fb Eb = badA er := by
 unfold conA
 rw [h, if_neg e0]
theorem uni_bad {n m n' m' : Int} {Sa Fa : List Int} {Ea : List EdT} {Sb Fb : List Int} {Eb : List EdT} {er : Int} (h : unErr n m n' m' Sa Fa Ea Sb Fb Eb = er) (e0 : er ≠ 0) : uniAns n m n' m' Sa Fa Ea Sb Fb Eb = badA er := by
 unfold uniAns
 rw [h, if_neg e0]
theorem mk_uni (w : World) (n m : Int) (a1 a2 a3 : Option Addr) (c1 c2 c3 : Nat) (Sa Fa : List Int) (Ea : List EdT) (hA : Hid (RdA w a1 a2 a3 Sa Fa Ea)) (h1 : Sa.length ≤ 2000000) (h2 : Fa.length ≤ 2000000) (h3 : Ea.length ≤ 2000000) (n' m' : Int) (b1 b2 b3 : Option Addr) (d1 d2 d3 : Nat) (Sb Fb : List Int) (Eb : List EdT) (hB : Hid (RdA w b1 b2 b3 Sb Fb Eb)) (h4 : Sb.length ≤ 2000000) (h5 : Fb.length ≤ 2000000) (h6 : Eb.length ≤ 2000000) : Calls Tryz.prog 25 #[.agg #[.int .i64 n, .int .i64 m, .slice a1 Sa.length c1, .slice a2 Fa.length c2, .slice a3 Ea.length c3], .agg #[.int .i64 n', .int .i64 m', .slice b1 Sb.length d1, .slice b2 Fb.length d2, .slice b3 Eb.length d3]] w (AnsO w (uniAns n m n' m' Sa Fa Ea Sb Fb Eb)) := by
 exact union_made w n m n' m' a1 a2 a3 b1 b2 b3 c1 c2 c3 d1 d2 d3 Sa Fa Sb Fb Ea Eb hA hB (by omega) (by omega) (by omega) (by omega) (by omega) (by omega)
theorem mk_con (w : World) (n m : Int) (a1 a2 a3 : Option Addr) (c1 c2 c3 : Nat) (Sa Fa : List Int) (Ea : List EdT) (hA : Hid (RdA w a1 a2 a3 Sa Fa Ea)) (h1 : Sa.length ≤ 2000000) (h2 : Fa.length ≤ 2000000) (h3 : Ea.length ≤ 2000000) (n' m' : Int) (b1 b2 b3 : Option Addr) (d1 d2 d3 : Nat) (Sb Fb : List Int) (Eb : List EdT) (hB : Hid (RdA w b1 b2 b3 Sb Fb Eb)) (h4 : Sb.length ≤ 2000000) (h5 : Fb.length ≤ 2000000) (h6 : Eb.length ≤ 2000000) : Calls Tryz.prog 21 #[.agg #[.int .i64 n, .int .i64 m, .slice a1 Sa.length c1, .slice a2 Fa.length c2, .slice a3 Ea.length c3], .agg #[.int .i64 n', .int .i64 m', .slice b1 Sb.length d1, .slice b2 Fb.length d2, .slice b3 Eb.length d3]] w (AnsO w (conA n m n' m' Sa Fa Ea Sb Fb Eb)) := by
 rcases un_cases n m n' m' Sa Fa Ea Sb Fb Eb with ⟨e1, h⟩ | ⟨e1, e2, h⟩ | ⟨e1, e2, e3, h⟩ | ⟨e1, e2, e3, e4, h⟩ | ⟨e1, e2, e3, e4, e5, h⟩ | ⟨e1, e2, e3, e4, e5, h⟩
 · rw [conA_bad h (by decide)]; exact concat_a w n m n' m' a1 a2 a3 b1 b2 b3 c1 c2 c3 d1 d2 d3 Sa Fa Sb Fb Ea Eb hA hB h1 h2 h3 h4 h5 h6 e1
 · rw [conA_bad h (by decide)]; exact concat_b w n m n' m' a1 a2 a3 b1 b2 b3 c1 c2 c3 d1 d2 d3 Sa Fa Sb Fb Ea Eb hA hB h1 h2 h3 h4 h5 h6 e1 e2
 · rw [conA_bad h (by decide)]; exact concat_m w n m n' m' a1 a2 a3 b1 b2 b3 c1 c2 c3 d1 d2 d3 Sa Fa Sb Fb Ea Eb hA hB h1 h2 h3 h4 h5 h6 e1 e2 e3
 · rw [conA_bad h (by decide)]
   subst e3
   obtain ⟨N, k, rfl, rfl, _, _⟩ := mk_nat e1
   obtain ⟨M, _, rfl, _, _, _⟩ := mk_nat e2
   exact concat_big w N M k a1 a2 a3 b1 b2 b3 c1 c2 c3 d1 d2 d3 Sa Fa Sb Fb Ea Eb hA hB h1 h2 h3 h4 h5 h6 e1 e2 (by omega)
 · rw [conA_bad h (by decide)]
   subst e3
   obtain ⟨N, k, rfl, rfl, _, _⟩ := mk_nat e1
   obtain ⟨M, _, rfl, _, _, _⟩ := mk_nat e2
   have q := concat_fit w N M k a1 a2 a3 b1 b2 b3 c1 c2 c3 d1 d2 d3 Sa Fa Sb Fb Ea Eb hA hB h1 h2 h3 h4 h5 h6 e1 e2 (by omega)
   have l := br_long (Fi := riseL Fa) (Bg := movN (riseL Sb) N) (riseE_ss Ea) (may_parts (may_rise e1)).2.2.2.2.2
   unfold behA at q
   rw [movE_len, if_pos (by omega)] at q
   exact q
 · subst e3
   obtain ⟨N, k, rfl, rfl, _, _⟩ := mk_nat e1
   obtain ⟨M, _, rfl, _, _, _⟩ := mk_nat e2
   have q := concat_fit w N M k a1 a2 a3 b1 b2 b3 c1 c2 c3 d1 d2 d3 Sa Fa Sb Fb Ea Eb hA hB h1 h2 h3 h4 h5 h6 e1 e2 (by omega)
   unfold conA
   rw [if_pos h, Int.toNat_natCast, Int.toNat_natCast]
   exact q
theorem mk_sta (w : World) (n m : Int) (a1 a2 a3 : Option Addr) (c1 c2 c3 : Nat) (Sa Fa : List Int) (Ea : List EdT) (hA : Hid (RdA w a1 a2 a3 Sa Fa Ea)) (h1 : Sa.length ≤ 2000000) (h2 : Fa.length ≤ 2000000) (h3 : Ea.length ≤ 2000000) : Calls Tryz.prog 16 #[.agg #[.int .i64 n, .int .i64 m, .slice a1 Sa.length c1, .slice a2 Fa.length c2, .slice a3 Ea.length c3]] w (AnsO w (staA n m Sa Fa Ea)) := by
 unfold staA
 cases e1 : mayA n m Sa Fa Ea with
 | false => rw [if_neg (by simp)]; exact star_bad w n m a1 a2 a3 c1 c2 c3 Sa Fa Ea hA h1 h2 h3 e1
 | true =>
  rw [if_pos rfl]
  obtain ⟨N, k, rfl, rfl, _, _⟩ := mk_nat e1
  by_cases hN : N < 4096
  · rw [if_pos (by omega), Int.toNat_natCast, Int.toNat_natCast]
    exact star_fit w N k hN a1 a2 a3 c1 c2 c3 Sa Fa Ea hA h1 h2 h3 e1
  · rw [if_neg (by omega)]
    exact star_full w N k (by omega) a1 a2 a3 c1 c2 c3 Sa Fa Ea hA h1 h2 h3 e1
theorem mk_lef (w : World) (n m : Int) (a1 a2 a3 : Option Addr) (c1 c2 c3 : Nat) (Sa Fa : List Int) (Ea : List EdT) (hA : Hid (RdA w a1 a2 a3 Sa Fa Ea)) (h1 : Sa.length ≤ 2000000) (h2 : Fa.length ≤ 2000000) (h3 : Ea.length ≤ 2000000) (aw : Option Addr) (cw : Nat) (Wd : List Int) (hU : Hid (RdN w aw Wd)) (hw : Wd.length ≤ 2000000) (hT : Hid (TabAt w ∧ 0 < w.heap.size)) : Calls Tryz.prog 17 #[.slice aw Wd.length cw, .agg #[.int .i64 n, .int .i64 m, .slice a1 Sa.length c1, .slice a2 Fa.length c2, .slice a3 Ea.length c3]] w (AnsO w (lefA n m Sa Fa Ea Wd)) := by
 unfold lefA
 by_cases e0 : wordErr n m Sa Fa Ea Wd = 0
 · rw [if_pos e0]; exact left_good w n m a1 a2 a3 c1 c2 c3 Sa Fa Ea hA (by omega) (by omega) (by omega) aw cw Wd hU (by omega) hT e0
 · rw [if_neg e0]; exact left_err w n m a1 a2 a3 c1 c2 c3 Sa Fa Ea hA (by omega) (by omega) (by omega) aw cw Wd hU (by omega) _ e0 rfl
theorem word_cases (n m : Int) (Sa Fa : List Int) (Ea : List EdT) (Wd : List Int) : (mayA n m Sa Fa Ea = false ∧ wordErr n m Sa Fa Ea Wd = 2) ∨ (mayA n m Sa Fa Ea = true ∧ Wd.all (inB m) = false ∧ wordErr n m Sa Fa Ea Wd = 7) ∨ (mayA n m Sa Fa Ea = true ∧ Wd.all (inB m) = true ∧ wordErr n m Sa Fa Ea Wd = 0) := by
 unfold wordErr
 cases e1 : mayA n m Sa Fa Ea with
 | false => left; exact ⟨rfl, by simp⟩
 | true =>
  cases e2 : Wd.all (inB m) with
  | false => right; left; exact ⟨rfl, rfl, by simp⟩
  | true => right; right; exact ⟨rfl, rfl, by simp⟩
theorem mk_rig (w : World) (n m : Int) (a1 a2 a3 : Option Addr) (c1 c2 c3 : Nat) (Sa Fa : List Int) (Ea : List EdT) (hA : Hid (RdA w a1 a2 a3 Sa Fa Ea)) (h1 : Sa.length ≤ 2000000) (h2 : Fa.length ≤ 2000000) (h3 : Ea.length ≤ 2000000) (aw : Option Addr) (cw : Nat) (Wd : List Int) (hU : Hid (RdN w aw Wd)) (hw : Wd.length ≤ 2000000) (hT : Hid (TabAt w ∧ 0 < w.heap.size)) (hc : Ea.length ≤ c3) : Calls Tryz.prog 29 #[.agg #[.int .i64 n, .int .i64 m, .slice a1 Sa.length c1, .slice a2 Fa.length c2, .slice a3 Ea.length c3], .slice aw Wd.length cw] w (AnsO w (rigA n m Sa Fa Ea Wd)) := by
 unfold rigA
 rcases word_cases n m Sa Fa Ea Wd with ⟨e1, h⟩ | ⟨e1, e2, h⟩ | ⟨e1, e2, h⟩
 · rw [h, if_neg (by decide)]; exact right_bad w aw Wd.length cw n m a1 a2 a3 c1 c2 c3 Sa Fa Ea hA (by omega) (by omega) (by omega) hc e1
 · rw [h, if_neg (by decide)]; exact right_word w n m a1 a2 a3 c1 c2 c3 Sa Fa Ea hA (by omega) (by omega) (by omega) aw cw Wd hU (by omega) e1 e2
 · rw [if_pos h]
   have q := right_good w n m a1 a2 a3 c1 c2 c3 Sa Fa Ea hA (by omega) (by omega) (by omega) aw cw Wd hU (by omega) hT h
   rw [riseL_idem] at q
   exact q
theorem sym_nat {s : Int} (h : symOk s = true) : ∃ k : Nat, s = (k : Int) ∧ k ≤ 128 := by
 unfold symOk at h
 rw [decide_eq_true_eq] at h
 exact ⟨s.toNat, by omega, by omega⟩
theorem mk_one (w : World) (aw : Option Addr) (cw : Nat) (Wd : List Int) (hU : Hid (RdN w aw Wd)) (hw : Wd.length ≤ 2000000) (s : Int) : Calls Tryz.prog 20 #[.slice aw Wd.length cw, .int .i64 s] w (AnsO w (onA Wd s)) := by
 unfold onA
 cases eb : Wd.any (badS s) with
 | true => rw [if_pos rfl]; exact one_word w aw cw Wd s hU (by omega) eb
 | false =>
  rw [if_neg (by simp)]
  cases es : symOk s with
  | false =>
   rw [if_neg (by simp)]
   exact one_syms w aw cw Wd s hU (by omega) eb es
  | true =>
   rw [if_pos rfl]
   by_cases hl : Wd.length < 4096
   · rw [if_pos hl]
     obtain ⟨k, rfl, hk⟩ := sym_nat es
     refine (one_ok w aw cw Wd.length k Wd (hide rfl) hU hl hk (hide (bad_all.1 eb))).mono ?_
     intro e w' h
     obtain ⟨b1, k1, b2, k2, b3, k3, he, ho⟩ := h
     have h : AnsO w ⟨(Wd.length : Int) + 1, (k : Int), [0], [(Wd.length : Int)], oneE Wd, 0⟩ e w' := ⟨b1, k1, b2, k2, b3, k3, by rw [he]; simp [oneE_len], hide (by
      show OwnO _ _ (.slice b1 1 k1) (.slice b2 1 k2) (.slice b3 (oneE Wd).length k3) _ _ _
      rw [oneE_len]
      exact ho.out.1), ho.out.2⟩
     exact h
   · rw [if_neg hl]
     exact one_size w aw cw Wd s hU (by omega) eb es (by omega)
theorem mk_all (w : World) (s : Int) : Calls Tryz.prog 22 #[.int .i64 s] w (AnsO w (alA s)) := by
 unfold alA
 cases es : symOk s with
 | false => rw [if_neg (by simp)]; exact all_err w s es
 | true =>
  rw [if_pos rfl]
  obtain ⟨k, rfl, hk⟩ := sym_nat es
  rw [Int.toNat_natCast]
  exact all_good w k hk
theorem mk_non (w : World) (s : Int) : Calls Tryz.prog 24 #[.int .i64 s] w (AnsO w (noA s)) := by
 unfold noA
 cases es : symOk s with
 | false => rw [if_neg (by simp)]; exact none_err w s es
 | true => rw [if_pos rfl]; exact none_good w s es
noncomputable def mkA (k : Nat) (n m : Int) (Sa Fa : List Int) (Ea : List EdT) (n' m' : Int) (Sb Fb : List Int) (Eb : List EdT) (Wd : List Int) (s : Int) : Ans :=
 if k = 0 then uniAns n m n' m' Sa Fa Ea Sb Fb Eb else if k = 1 then conA n m n' m' Sa Fa Ea Sb Fb Eb else if k = 2 then staA n m Sa Fa Ea else if k = 3 then preA n m Sa Fa Ea else if k = 4 then sufA n m Sa Fa Ea else if k = 5 then lefA n m Sa Fa Ea Wd else if k = 6 then rigA n m Sa Fa Ea Wd else if k = 7 then onA Wd s else if k = 8 then alA s else noA s
open Go.Shelf
def tkA (r : Ans) (W : List Int) : Bool := tkF r.n r.m r.s r.f r.e W
theorem un_zero {n m n' m' : Int} {Sa Fa : List Int} {Ea : List EdT} {Sb Fb : List Int} {Eb : List EdT} (h : unErr n m n' m' Sa Fa Ea Sb Fb Eb = 0) : mayA n m Sa Fa Ea = true ∧ mayA n' m' Sb Fb Eb = true ∧ m = m' ∧ n + n' ≤ 4096 ∧ (riseE Ea).length + (riseE Eb).length ≤ 65536 := by
 unfold unErr at h
 split at h
 · cases h
 · split at h
   · cases h
   · split at h
     · cases h
     · split at h
       · cases h
       · rename_i h1 h2 h3 h4
         exact ⟨by cases e : mayA n m Sa Fa Ea <;> simp_all, by cases e : mayA n' m' Sb Fb Eb <;> simp_all, by omega, by omega, by omega⟩
theorem empt_iff {S F : List Int} (h : ∀ x ∈ S, 0 ≤ x) : emptB S F = true ↔ ∃ x ∈ S, x ∈ F := by
 unfold emptB
 rw [List.any_eq_true]
 refine exists_congr fun x => and_congr_right fun hx => ?_
 unfold finB
 rw [decide_eq_true_eq, Int.toNat_of_nonneg (h x hx)]
theorem rch_from {E : List EdT} {n : Int} (hE : ∀ e ∈ E, 0 ≤ e.2.2 ∧ e.2.2 < n) : ∀ (W : List Int) (p q : Int), 0 ≤ p ∧ p < n → Rch E W p q → 0 ≤ q ∧ q < n
 | [], p, q, hp, h => by cases h; exact hp
 | _ :: W, _, q, _, ⟨r, hr, h⟩ => rch_from hE W r q (hE _ hr) h
theorem all_app {m : Int} {U V : List Int} : (U ++ V).all (inB m) = true ↔ U.all (inB m) = true ∧ V.all (inB m) = true := by
 rw [List.all_append, Bool.and_eq_true]
theorem tk_con {n m n' m' : Int} {Sa Fa : List Int} {Ea : List EdT} {Sb Fb : List Int} {Eb : List EdT} (h0 : (conA n m n' m' Sa Fa Ea Sb Fb Eb).er = 0) (W : List Int) : tkA (conA n m n' m' Sa Fa Ea Sb Fb Eb) W = true ↔ ∃ U V, W = U ++ V ∧ tkF n m Sa Fa Ea U = true ∧ tkF n' m' Sb Fb Eb V = true := by
 have hu : unErr n m n' m' Sa Fa Ea Sb Fb Eb = 0 := by
  by_cases e : unErr n m n' m' Sa Fa Ea Sb Fb Eb = 0
  · exact e
  · unfold conA at h0
    rw [if_neg e] at h0
    exact h0
 obtain ⟨em, em', rfl, hnn, _⟩ := un_zero hu
 unfold conA at h0 ⊢
 rw [if_pos hu] at h0 ⊢
 obtain ⟨N, k, rfl, rfl, hN, hk⟩ := mk_nat em
 obtain ⟨M, _, rfl, _, hM, _⟩ := mk_nat em'
 simp only [Int.toNat_natCast] at h0 ⊢
 have r1 := may_rise em
 have r2 := may_rise em'
 have p1 := may_parts r1
 have p2 := may_parts r2
 have s1 := may_st r1
 have s2 := may_st r2
 simp only [tkF_iff (n := (N : Int)), tkF_iff (n := (M : Int))]
 have tr1 : ∀ U, Tak Sa Fa Ea U ↔ Tak (riseL Sa) (riseL Fa) (riseE Ea) U := fun U => tak_rise.symm
 have tr2 : ∀ U, Tak Sb Fb Eb U ↔ Tak (riseL Sb) (riseL Fb) (riseE Eb) U := fun U => tak_rise.symm
 simp only [tr1, tr2]
 have hB := mem_brL (Fi := riseL Fa) (Bg := movN (riseL Sb) (N : Int)) p1.2.2.2.2.2
 have emp1 := empt_iff (F := riseL Fa) (fun x hx => (s1.1 x hx).1)
 have emp2 := empt_iff (S := movN (riseL Sb) (N : Int)) (F := movN (riseL Fb) (N : Int)) (fun x hx => by have := (s2.1 _ (mem_mov.1 hx)).1; omega)
 unfold behA at h0 ⊢
 by_cases hbig : 65536 < (brL (riseE Ea) (riseL Fa) (movN (riseL Sb) (N : Int)) k N).length + (movE (riseE Eb) (N : Int)).length
 · rw [if_pos hbig] at h0
   cases h0
 rw [if_neg hbig]
 unfold tkA
 simp only
 rw [tkF_iff]
 generalize brL (riseE Ea) (riseL Fa) (movN (riseL Sb) (N : Int)) k N = Br at *
 generalize riseL Sa = S1 at *
 generalize riseL Fa = F1 at *
 generalize riseE Ea = E1 at *
 generalize riseL Sb = S2 at *
 generalize riseL Fb = F2 at *
 generalize riseE Eb = E2 at *
 have hE1 : ∀ e ∈ E1, e.1 < (N : Int) ∧ e.2.2 < (N : Int) := fun e he => by have := p1.2.2.2.2.2 e he; omega
 have hE2 : ∀ e ∈ E2, 0 ≤ e.1 ∧ 0 ≤ e.2.2 := fun e he => by have := p2.2.2.2.2.2 e he; omega
 have hlo := rch_con hB hE1 hE2 (fun x hx => (s2.1 x hx).1)
 have hBr : ∀ e ∈ Br, e.1 < (N : Int) := by
  intro e he
  rcases (hB e).1 he with h | ⟨⟨q, h, _⟩, _⟩
  · exact (hE1 e h).1
  · exact (hE1 _ h).1
 have hhi : ∀ (W : List Int) (p q : Int), (N : Int) ≤ p → (Rch (Br ++ movE E2 (N : Int)) W p q ↔ Rch E2 W (p - N) (q - N)) := rch_high hBr (fun e he => (hE2 e he).2)
 have in1 := rch_from (n := (N : Int)) (E := E1) (fun e he => by have := p1.2.2.2.2.2 e he; omega)
 have in2 := rch_from (n := (M : Int)) (E := E2) (fun e he => by have := p2.2.2.2.2.2 e he; omega)
 constructor
 · rintro ⟨_, hw, p, hp, q, hq, hr⟩
   have hp2 : (p ∈ S1) ∨ (p - N ∈ S2 ∧ ∃ x ∈ S1, x ∈ F1) := by
    by_cases e : emptB S1 F1 = true
    · rw [if_pos e] at hp
      rcases List.mem_append.1 hp with h | h
      · exact .inl h
      · exact .inr ⟨mem_mov.1 h, emp1.1 e⟩
    · rw [if_neg e] at hp
      exact .inl hp
   have hq2 : (q ∈ F1 ∧ ∃ x, x ∈ S2 ∧ x ∈ F2) ∨ q - N ∈ F2 := by
    by_cases e : emptB (movN S2 (N : Int)) (movN F2 (N : Int)) = true
    · rw [if_pos e] at hq
      rcases List.mem_append.1 hq with h | h
      · obtain ⟨x, x1, x2⟩ := emp2.1 e
        exact .inl ⟨h, x - N, mem_mov.1 x1, mem_mov.1 x2⟩
      · exact .inr (mem_mov.1 h)
    · rw [if_neg e] at hq
      exact .inr (mem_mov.1 hq)
   rcases hp2 with hp2 | ⟨hp2, x0, hx1, hx2⟩
   · have lp := s1.1 p hp2
     rcases (hlo W p q lp.2).1 hr with h | ⟨U, V, f, x, rfl, u1, u2, u3, u4, u5⟩
     · have lq := in1 W p q lp h
       rcases hq2 with ⟨q1, x, x1, x2⟩ | q1
       · exact ⟨W, [], by simp, ⟨em, hw, p, hp2, q, q1, h⟩, em', by simp, x, x1, x, x2, rfl⟩
       · have := (s2.2 _ q1).1
         omega
     · have lq := in2 V x _ (s2.1 x u4) u5
       rcases hq2 with ⟨q1, _⟩ | q1
       · have := (s1.2 _ q1).2
         omega
       · obtain ⟨w1, w2⟩ := all_app.1 hw
         exact ⟨U, V, rfl, ⟨em, w1, p, hp2, f, u3, u2⟩, em', w2, x, u4, q - N, q1, u5⟩
   · have lp := s2.1 _ hp2
     have h := (hhi W p q (by omega)).1 hr
     have lq := in2 W _ _ lp h
     rcases hq2 with ⟨q1, _⟩ | q1
     · have := (s1.2 _ q1).2
       omega
     · exact ⟨[], W, rfl, ⟨em, by simp, x0, hx1, x0, hx2, rfl⟩, em', hw, p - N, hp2, q - N, q1, h⟩
 · rintro ⟨U, V, rfl, ⟨_, w1, p, hp, f, hf, hr⟩, ⟨_, w2, x, hx, g, hg, hr2⟩⟩
   have hfin : g + N ∈ (if emptB (movN S2 (N : Int)) (movN F2 (N : Int)) = true then F1 ++ movN F2 (N : Int) else movN F2 (N : Int)) := by
    have : g + (N : Int) ∈ movN F2 (N : Int) := mem_mov.2 (by rw [show g + (N : Int) - N = g by omega]; exact hg)
    split
    · exact List.mem_append_right _ this
    · exact this
   refine ⟨?_, all_app.2 ⟨w1, w2⟩, ?_⟩
   · refine may_of (by omega) (by omega) (by rw [List.length_append]; omega) (fun y hy => ?_) (fun y hy => ?_) (fun e he => ?_)
     · split at hy
       · rcases List.mem_append.1 hy with h | h
         · have := s1.1 y h; omega
         · have := s2.1 _ (mem_mov.1 h); omega
       · have := s1.1 y hy; omega
     · split at hy
       · rcases List.mem_append.1 hy with h | h
         · have := s1.2 y h; omega
         · have := s2.2 _ (mem_mov.1 h); omega
       · have := s2.2 _ (mem_mov.1 hy); omega
     · rcases List.mem_append.1 he with h | h
       · rcases (hB e).1 h with h | ⟨⟨q, h, _⟩, h3⟩
         · have := p1.2.2.2.2.2 e h; omega
         · have a1 := p1.2.2.2.2.2 _ h
           have a2 := s2.1 _ (mem_mov.1 h3)
           simp only at a1
           omega
       · unfold movE at h
         obtain ⟨e', he', rfl⟩ := List.mem_map.1 h
         have := p2.2.2.2.2.2 e' he'
         simp only
         omega
   · by_cases hU : U = []
     · subst hU
       cases hr
       have e : emptB S1 F1 = true := emp1.2 ⟨p, hp, hf⟩
       rw [if_pos e]
       have lx := s2.1 x hx
       refine ⟨x + N, List.mem_append_right _ (mem_mov.2 (by rw [show x + (N : Int) - N = x by omega]; exact hx)), g + N, hfin, (hhi _ _ _ (by omega)).2 ?_⟩
       rw [show x + (N : Int) - N = x by omega, show g + (N : Int) - N = g by omega]
       exact hr2
     · refine ⟨p, ?_, g + N, hfin, (hlo _ p _ (s1.1 p hp).2).2 (.inr ⟨U, V, f, x, rfl, hU, hr, hf, hx, by rw [show g + (N : Int) - N = g by omega]; exact hr2⟩)⟩
       split
       · exact List.mem_append_left _ hp
       · exact hp
theorem tkF_tkB (n m : Int) (St Fi : List Int) (Ed : List EdT) (W : List Int) : tkF n m St Fi Ed W = tkB n m St Fi Ed W := by
 rw [Bool.eq_iff_iff, tkF_iff]
 unfold tkB
 simp only [decide_eq_true_eq, wordErr_iff, and_assoc]
theorem tk_uni {n m n' m' : Int} {Sa Fa : List Int} {Ea : List EdT} {Sb Fb : List Int} {Eb : List EdT} (h0 : (uniAns n m n' m' Sa Fa Ea Sb Fb Eb).er = 0) (W : List Int) : tkA (uniAns n m n' m' Sa Fa Ea Sb Fb Eb) W = (tkF n m Sa Fa Ea W || tkF n' m' Sb Fb Eb W) := by
 have hu : unErr n m n' m' Sa Fa Ea Sb Fb Eb = 0 := by
  by_cases e : unErr n m n' m' Sa Fa Ea Sb Fb Eb = 0
  · exact e
  · unfold uniAns at h0
    rw [if_neg e] at h0
    exact h0
 obtain ⟨em, em', rfl, hnn, hl⟩ := un_zero hu
 unfold uniAns
 rw [if_pos hu, tkF_tkB, tkF_tkB]
 unfold tkA
 simp only
 rw [tkF_tkB]
 exact (tk_union em em' hnn hl W).2
theorem stk_mono {L L' : List Int → Prop} {W : List Int} (h : Stk L W) : ∀ {m : Int}, W.all (inB m) = true → (∀ U, U.all (inB m) = true → L U → L' U) → Stk L' W := by
 induction h with
 | nil => intro m _ _; exact .nil
 | cons h1 h2 _ ih =>
  intro m hW q
  obtain ⟨w1, w2⟩ := all_app.1 hW
  exact .cons h1 (q _ w1 h2) (ih w2 q)
theorem tk_sta {n m : Int} {Sa Fa : List Int} {Ea : List EdT} (h0 : (staA n m Sa Fa Ea).er = 0) (W : List Int) (hW : W.all (inB m) = true) : tkA (staA n m Sa Fa Ea) W = true ↔ Stk (fun U => tkF n m Sa Fa Ea U = true) W := by
 unfold staA at h0 ⊢
 by_cases em : mayA n m Sa Fa Ea = true
 case neg => rw [if_neg em] at h0; cases h0
 rw [if_pos em] at h0 ⊢
 by_cases hn : n < 4096
 case neg => rw [if_neg hn] at h0; cases h0
 rw [if_pos hn] at h0 ⊢
 obtain ⟨N, k, rfl, rfl, hN, hk⟩ := mk_nat em
 simp only [Int.toNat_natCast] at h0 ⊢
 have r1 := may_rise em
 have p1 := may_parts r1
 have s1 := may_st r1
 have tr1 : ∀ U, Tak Sa Fa Ea U ↔ Tak (riseL Sa) (riseL Fa) (riseE Ea) U := fun U => tak_rise.symm
 have hF : ∀ e ∈ movE (riseE Ea) 1, (0 ≤ e.1 ∧ e.1 < ((N + 1 : Nat) : Int)) ∧ (0 ≤ e.2.1 ∧ e.2.1 < (k : Int)) ∧ (0 ≤ e.2.2 ∧ e.2.2 < ((N + 1 : Nat) : Int)) := by
  intro e he
  unfold movE at he
  obtain ⟨e', he', rfl⟩ := List.mem_map.1 he
  have := p1.2.2.2.2.2 e' he'
  simp only
  omega
 have hF1 : ∀ e ∈ movE (riseE Ea) 1, 1 ≤ e.1 ∧ 1 ≤ e.2.2 := by
  intro e he
  unfold movE at he
  obtain ⟨e', he', rfl⟩ := List.mem_map.1 he
  have := p1.2.2.2.2.2 e' he'
  simp only
  omega
 have hB := mem_brL (Fi := movN (riseL Fa) 1) (Bg := movN (riseL Sa) 1) hF
 unfold agaA at h0 ⊢
 by_cases hbig : 65536 < (brL (movE (riseE Ea) 1) (movN (riseL Fa) 1) (movN (riseL Sa) 1) k (N + 1)).length
 · rw [if_pos hbig] at h0; cases h0
 rw [if_neg hbig]
 unfold tkA
 simp only
 rw [tkF_iff]
 have sm : ∀ x ∈ movN (riseL Sa) 1, 1 ≤ x ∧ x < (N : Int) + 1 := fun x hx => by have := s1.1 _ (mem_mov.1 hx); omega
 have fm : ∀ x ∈ movN (riseL Fa) 1, 1 ≤ x ∧ x < (N : Int) + 1 := fun x hx => by have := s1.2 _ (mem_mov.1 hx); omega
 have tk1 : ∀ U, Tak (movN (riseL Sa) 1) (movN (riseL Fa) 1) (movE (riseE Ea) 1) U ↔ Tak Sa Fa Ea U := by
  intro U
  rw [tr1]
  unfold Tak
  constructor
  · rintro ⟨p, hp, q, hq, hr⟩
    exact ⟨p - 1, mem_mov.1 hp, q - 1, mem_mov.1 hq, (rch_shift U p q).1 hr⟩
  · rintro ⟨p, hp, q, hq, hr⟩
    refine ⟨p + 1, mem_mov.2 (by rw [show p + 1 - 1 = p by omega]; exact hp), q + 1, mem_mov.2 (by rw [show q + 1 - 1 = q by omega]; exact hq), (rch_shift U _ _).2 ?_⟩
    rw [show p + 1 - 1 = p by omega, show q + 1 - 1 = q by omega]
    exact hr
 generalize brL (movE (riseE Ea) 1) (movN (riseL Fa) 1) (movN (riseL Sa) 1) k (N + 1) = Br at *
 generalize movN (riseL Sa) 1 = S at *
 generalize movN (riseL Fa) 1 = F at *
 generalize movE (riseE Ea) 1 = E at *
 have hBr : ∀ e ∈ Br, 1 ≤ e.1 ∧ 1 ≤ e.2.2 := by
  intro e he
  rcases (hB e).1 he with h | ⟨⟨q, h, _⟩, h2⟩
  · exact hF1 e h
  · exact ⟨(hF1 _ h).1, (sm _ h2).1⟩
 have up : ∀ (W : List Int) (p q : Int), 1 ≤ p → Rch Br W p q → 1 ≤ q := by
  intro W
  induction W with
  | nil => intro p q hp h; cases h; exact hp
  | cons y W ih => intro p q _ ⟨r, hr, h⟩; exact ih r q (hBr _ hr).2 h
 have hT : Tak ([0] ++ S) ([0] ++ F) Br W ↔ W = [] ∨ Tak S F Br W := by
  unfold Tak
  constructor
  · rintro ⟨p, hp, q, hq, hr⟩
    rcases List.mem_append.1 hp with h | h
    · rw [List.mem_singleton] at h
      subst h
      cases W with
      | nil => exact .inl rfl
      | cons y W =>
       obtain ⟨r, hr, _⟩ := hr
       have := (hBr _ hr).1
       simp only at this
       omega
    · rcases List.mem_append.1 hq with h2 | h2
      · rw [List.mem_singleton] at h2
        subst h2
        have := up W p 0 (sm p h).1 hr
        omega
      · exact .inr ⟨p, h, q, h2, hr⟩
  · rintro (rfl | ⟨p, hp, q, hq, hr⟩)
    · exact ⟨0, by simp, 0, by simp, rfl⟩
    · exact ⟨p, List.mem_append_right _ hp, q, List.mem_append_right _ hq, hr⟩
 have hmay : mayA ((N : Int) + 1) (k : Int) ([0] ++ S) ([0] ++ F) Br = true := by
  refine may_of (by omega) (by omega) (by omega) (fun x hx => ?_) (fun x hx => ?_) (fun e he => ?_)
  · rcases List.mem_append.1 hx with h | h
    · rw [List.mem_singleton] at h; omega
    · have := sm x h; omega
  · rcases List.mem_append.1 hx with h | h
    · rw [List.mem_singleton] at h; omega
    · have := fm x h; omega
  · rcases (hB e).1 he with h | ⟨⟨q, h, _⟩, h2⟩
    · have := hF e h; omega
    · have a := hF _ h
      have b := sm _ h2
      simp only at a
      omega
 constructor
 · rintro ⟨_, _, h⟩
   refine stk_mono ((sta_words hB W.length W (Nat.le_refl _)).1 (hT.1 h)) hW (fun U hU h => ?_)
   exact tkF_iff.2 ⟨em, hU, (tk1 U).1 h⟩
 · intro h
   refine ⟨hmay, hW, hT.2 ((sta_words hB W.length W (Nat.le_refl _)).2 (stk_mono h hW (fun U _ h => ?_)))⟩
   exact (tk1 U).2 (tkF_iff.1 h).2.2
theorem tk_lef {n m : Int} {Sa Fa : List Int} {Ea : List EdT} {V : List Int} (h0 : (lefA n m Sa Fa Ea V).er = 0) (W : List Int) : tkA (lefA n m Sa Fa Ea V) W = tkF n m Sa Fa Ea (V ++ W) := by
 unfold lefA at h0 ⊢
 by_cases e : wordErr n m Sa Fa Ea V = 0
 case neg => rw [if_neg e] at h0; exact absurd h0 e
 rw [if_pos e]
 obtain ⟨em, hV⟩ := wordErr_iff.1 e
 unfold tkA
 simp only
 rw [Bool.eq_iff_iff, tkF_iff, tkF_iff]
 have p1 := may_parts em
 have s1 := may_st em
 have in1 := rch_from (E := Ea) (n := n) (fun e he => by have := p1.2.2.2.2.2 e he; omega)
 have hmay : mayA n m (aftL Ea (riseL Sa) V) (riseL Fa) (riseE Ea) = true := by
  have r := may_parts (may_rise em)
  refine may_of p1.1 p1.2.1 r.2.2.1 (fun x hx => ?_) (may_st (may_rise em)).2 r.2.2.2.2.2
  obtain ⟨p, hp, hr⟩ := (aftL_iff V _ x).1 hx
  exact in1 V p x (s1.1 p ((riseL_iff _ _).1 hp)) hr
 rw [all_app]
 constructor
 · rintro ⟨_, hw, p, hp, q, hq, hr⟩
   obtain ⟨p0, hp0, hr0⟩ := (aftL_iff V _ p).1 hp
   exact ⟨em, ⟨hV, hw⟩, p0, (riseL_iff _ _).1 hp0, q, (riseL_iff _ _).1 hq, (rch_app V W p0 q).2 ⟨p, hr0, (rch_rise W p q).1 hr⟩⟩
 · rintro ⟨_, ⟨_, hw⟩, p, hp, q, hq, hr⟩
   obtain ⟨r, r1, r2⟩ := (rch_app V W p q).1 hr
   exact ⟨hmay, hw, r, (aftL_iff V _ r).2 ⟨p, (riseL_iff _ _).2 hp, r1⟩, q, (riseL_iff _ _).2 hq, (rch_rise W r q).2 r2⟩
theorem tk_rig {n m : Int} {Sa Fa : List Int} {Ea : List EdT} {V : List Int} (h0 : (rigA n m Sa Fa Ea V).er = 0) (W : List Int) : tkA (rigA n m Sa Fa Ea V) W = tkF n m Sa Fa Ea (W ++ V) := by
 unfold rigA at h0 ⊢
 by_cases e : wordErr n m Sa Fa Ea V = 0
 case neg => rw [if_neg e] at h0; exact absurd h0 e
 rw [if_pos e]
 obtain ⟨em, hV⟩ := wordErr_iff.1 e
 unfold tkA
 simp only
 rw [Bool.eq_iff_iff, tkF_iff, tkF_iff]
 have p1 := may_parts em
 have s1 := may_st em
 have key : ∀ x, x ∈ aftL (riseE (turnE Ea)) (riseL Fa) V.reverse ↔ ∃ q ∈ Fa, Rch Ea V x q := by
  intro x
  rw [aftL_iff]
  constructor
  · rintro ⟨q, hq, hr⟩
    exact ⟨q, (riseL_iff _ _).1 hq, (rch_turn V x q).1 ((rch_rise _ _ _).1 hr)⟩
  · rintro ⟨q, hq, hr⟩
    exact ⟨q, (riseL_iff _ _).2 hq, (rch_rise _ _ _).2 ((rch_turn V x q).2 hr)⟩
 have back : ∀ (V : List Int) (x q : Int), 0 ≤ q ∧ q < n → Rch Ea V x q → 0 ≤ x ∧ x < n := by
  intro V
  cases V with
  | nil => intro x q hq h; cases h; exact hq
  | cons y V => intro x q _ ⟨r, hr, _⟩; have := p1.2.2.2.2.2 _ hr; simp only at this; omega
 have hmay : mayA n m (riseL Sa) (aftL (riseE (turnE Ea)) (riseL Fa) V.reverse) (riseE Ea) = true := by
  have r := may_parts (may_rise em)
  refine may_of p1.1 p1.2.1 r.2.2.1 (may_st (may_rise em)).1 (fun x hx => ?_) r.2.2.2.2.2
  obtain ⟨q, hq, hr⟩ := (key x).1 hx
  exact back V x q (s1.2 q hq) hr
 rw [all_app]
 constructor
 · rintro ⟨_, hw, p, hp, q, hq, hr⟩
   obtain ⟨q0, hq0, hr0⟩ := (key q).1 hq
   exact ⟨em, ⟨hw, hV⟩, p, (riseL_iff _ _).1 hp, q0, hq0, (rch_app W V p q0).2 ⟨q, (rch_rise W p q).1 hr, hr0⟩⟩
 · rintro ⟨_, ⟨hw, _⟩, p, hp, q, hq, hr⟩
   obtain ⟨r, r1, r2⟩ := (rch_app W V p q).1 hr
   exact ⟨hmay, hw, p, (riseL_iff _ _).2 hp, r, (key r).2 ⟨q, hq, r2⟩, (rch_rise W p r).2 r1⟩
theorem mem_oneE {V : List Int} {a s r : Int} : (a, s, r) ∈ oneE V ↔ ∃ k : Nat, V[k]? = some s ∧ a = (k : Int) ∧ r = (k : Int) + 1 := by
 unfold oneE
 rw [List.mem_map]
 constructor
 · rintro ⟨⟨x, k⟩, h, e⟩
   rw [List.mem_zipIdx_iff_getElem?] at h
   simp only [Prod.mk.injEq] at e
   obtain ⟨rfl, rfl, rfl⟩ := e
   exact ⟨k, h, rfl, rfl⟩
 · rintro ⟨k, h, rfl, rfl⟩
   exact ⟨(s, k), List.mem_zipIdx_iff_getElem?.2 h, rfl⟩
theorem rch_one {V : List Int} : ∀ (W : List Int) (i : Nat) (q : Int), i ≤ V.length → (Rch (oneE V) W (i : Int) q ↔ ∃ T, V.drop i = W ++ T ∧ q = ((i + W.length : Nat) : Int))
 | [], i, q, _ => by
  simp only [Rch, List.nil_append, List.length_nil, Nat.add_zero]
  exact ⟨fun h => ⟨V.drop i, rfl, h.symm⟩, fun ⟨_, _, h⟩ => h.symm⟩
 | y :: W, i, q, hi => by
  simp only [Rch]
  constructor
  · rintro ⟨r, hr, hR⟩
    obtain ⟨k, h1, h2, rfl⟩ := mem_oneE.1 hr
    obtain rfl : k = i := by omega
    obtain ⟨hk, h1⟩ := List.getElem?_eq_some_iff.1 h1
    obtain ⟨T, e1, e2⟩ := (rch_one W (k + 1) q hk).1 (by rw [Int.natCast_add]; exact hR)
    refine ⟨T, ?_, ?_⟩
    · rw [List.drop_eq_getElem_cons hk, h1, e1, List.cons_append]
    · rw [e2, List.length_cons]; omega
  · rintro ⟨T, e1, e2⟩
    have hk : i < V.length := by
     by_cases h : i < V.length
     · exact h
     · rw [List.drop_eq_nil_of_le (by omega)] at e1
       cases e1
    rw [List.drop_eq_getElem_cons hk, List.cons_append] at e1
    injection e1 with e3 e4
    refine ⟨(i : Int) + 1, mem_oneE.2 ⟨i, by rw [List.getElem?_eq_getElem hk, e3], rfl, rfl⟩, ?_⟩
    have := (rch_one W (i + 1) q hk).2 ⟨T, e4, by rw [e2, List.length_cons]; omega⟩
    rwa [Int.natCast_add] at this
theorem tk_one {V : List Int} {s : Int} (h0 : (onA V s).er = 0) (W : List Int) : tkA (onA V s) W = true ↔ W = V := by
 unfold onA at h0 ⊢
 by_cases e1 : V.any (badS s) = true
 · rw [if_pos e1] at h0; cases h0
 rw [if_neg e1] at h0 ⊢
 by_cases e2 : symOk s = true
 case neg => rw [if_neg e2] at h0; cases h0
 rw [if_pos e2] at h0 ⊢
 by_cases e3 : V.length < 4096
 case neg => rw [if_neg e3] at h0; cases h0
 rw [if_pos e3]
 have hV := bad_all.1 (Bool.eq_false_iff.2 e1)
 have hs : 0 ≤ s ∧ s ≤ 128 := by unfold symOk at e2; simpa using e2
 unfold tkA
 simp only
 rw [tkF_iff]
 unfold Tak
 constructor
 · rintro ⟨_, _, p, hp, q, hq, hr⟩
   rw [List.mem_singleton] at hp hq
   subst hp hq
   obtain ⟨T, e4, e5⟩ := (rch_one W 0 _ (Nat.zero_le _)).1 hr
   rw [List.drop_zero] at e4
   have : T = [] := by
    apply List.eq_nil_of_length_eq_zero
    have := congrArg List.length e4
    rw [List.length_append] at this
    omega
   rw [e4, this, List.append_nil]
 · rintro rfl
   refine ⟨may_of (by omega) (by omega) (by rw [oneE_len]; omega) (fun x hx => by rw [List.mem_singleton] at hx; omega) (fun x hx => by rw [List.mem_singleton] at hx; omega) (fun e he => ?_), all_rng.2 hV, 0, by simp, (W.length : Int), by simp, (rch_one W 0 _ (Nat.zero_le _)).2 ⟨[], by simp, by simp⟩⟩
   obtain ⟨k, h1, h2, h3⟩ := mem_oneE.1 (show (e.1, e.2.1, e.2.2) ∈ oneE W from he)
   have hk := (List.getElem?_eq_some_iff.1 h1).1
   have := hV _ (List.mem_of_getElem? h1)
   omega
theorem tk_all {s : Int} (h0 : (alA s).er = 0) (W : List Int) (hW : W.all (inB s) = true) : tkA (alA s) W = true := by
 unfold alA at h0 ⊢
 by_cases e2 : symOk s = true
 case neg => rw [if_neg e2] at h0; cases h0
 rw [if_pos e2]
 obtain ⟨k, rfl, hk⟩ := sym_nat e2
 unfold tkA
 simp only
 rw [tkF_iff]
 have hm : ∀ e, e ∈ allE k ↔ ∃ j : Nat, j < k ∧ e = (0, (j : Int), 0) := by
  intro e
  unfold allE
  simp only [List.mem_map, List.mem_range]
  exact exists_congr fun j => and_congr_right fun _ => eq_comm
 rw [Int.toNat_natCast]
 refine ⟨may_of (by omega) (by omega) (by rw [allE_len]; omega) (fun x hx => by rw [List.mem_singleton] at hx; omega) (fun x hx => by rw [List.mem_singleton] at hx; omega) (fun e he => ?_), hW, 0, by simp, 0, by simp, ?_⟩
 · obtain ⟨j, hj, rfl⟩ := (hm e).1 he
   simp only
   omega
 · have hw := all_rng.1 hW
   clear hW
   induction W with
   | nil => rfl
   | cons y W ih =>
    obtain ⟨y0, y1⟩ := hw y (by simp)
    obtain ⟨j, rfl⟩ := Int.eq_ofNat_of_zero_le y0
    exact ⟨0, (hm _).2 ⟨j, by omega, rfl⟩, ih (fun x hx => hw x (by simp [hx]))⟩
theorem tk_non {s : Int} (W : List Int) : tkA (noA s) W = false := by
 rw [Bool.eq_false_iff]
 unfold noA tkA
 intro h
 split at h
 · obtain ⟨_, _, p, hp, _⟩ := tkF_iff.1 h
   simp at hp
 · unfold badA at h
   obtain ⟨_, _, p, hp, _⟩ := tkF_iff.1 h
   simp at hp
end Go.Proofs.YtchoopnjckcohaaGreatDoor
namespace Go.Proofs.YtchoopnjckcohaaGreatDoor
open Go.RowKit Go.Maps Go.Shelf
attribute [local go_sem] Oper.semAt_some
def splB (LA LB : List Int → Bool) (W : List Int) : Bool := (List.range (W.length + 1)).any fun i => LA (W.take i) && LB (W.drop i)
theorem spl_iff {LA LB : List Int → Bool} {W : List Int} : splB LA LB W = true ↔ ∃ U V, W = U ++ V ∧ LA U = true ∧ LB V = true := by
 unfold splB
 rw [List.any_eq_true]
 constructor
 · rintro ⟨i, _, h⟩
   rw [Bool.and_eq_true] at h
   exact ⟨W.take i, W.drop i, (List.take_append_drop i W).symm, h.1, h.2⟩
 · rintro ⟨U, V, rfl, h1, h2⟩
   refine ⟨U.length, List.mem_range.2 (by rw [List.length_append]; omega), ?_⟩
   rw [List.take_left, List.drop_left, h1, h2]
   rfl
theorem spl_no {LA LB : List Int → Bool} {W : List Int} (h : ∀ j, j < W.length + 1 → (LA (W.take j) && LB (W.drop j)) = false) : splB LA LB W = false := by
 unfold splB
 rw [List.any_eq_false]
 intro i hi
 rw [h i (List.mem_range.1 hi)]
 simp
theorem spl_yes {LA LB : List Int → Bool} {W : List Int} {j : Nat} (hj : j < W.length + 1) (h : (LA (W.take j) && LB (W.drop j)) = true) : splB LA LB W = true := by
 unfold splB
 rw [List.any_eq_true]
 exact ⟨j, List.mem_range.2 hj, h⟩
theorem split_any (w : World) (n m n' m' : Int) (a1 a2 a3 b1 b2 b3 : Option Addr) (c1 c2 c3 d1 d2 d3 n1 n2 n3 l1 l2 l3 : Nat) (Sa Fa Sb Fb : List Int) (Ea Eb : List EdT) (en : Hid (Sa.length = n1 ∧ Fa.length = n2 ∧ Ea.length = n3 ∧ Sb.length = l1 ∧ Fb.length = l2 ∧ Eb.length = l3)) (hA : Hid (RdA w a1 a2 a3 Sa Fa Ea)) (hB : Hid (RdA w b1 b2 b3 Sb Fb Eb)) (h1 : n1 ≤ 4194304) (h2 : n2 ≤ 4194304) (h3 : n3 ≤ 4194304) (h4 : l1 ≤ 4194304) (h5 : l2 ≤ 4194304) (h6 : l3 ≤ 4194304) (aw : Option Addr) (nw cw : Nat) (Wd : List Int) (HNW : Hid (Wd.length = nw)) (hU : Hid (RdN w aw Wd)) (hcw : nw ≤ cw) (hnw : nw ≤ 4194304) :
 Calls Tryz.prog 30 #[.agg #[.int .i64 n, .int .i64 m, .slice a1 n1 c1, .slice a2 n2 c2, .slice a3 n3 c3], .agg #[.int .i64 n', .int .i64 m', .slice b1 l1 d1, .slice b2 l2 d2, .slice b3 l3 d3], .slice aw nw cw] w fun e w' => e = .returned (.bool (splB (tkF n m Sa Fa Ea) (tkF n' m' Sb Fb Eb) Wd)) ∧ Below w.heap.size w w' := by
 obtain ⟨W0, hW0⟩ : ∃ W0, (w.alloc (.cells #[.int .i64 n, .int .i64 m, .slice a1 n1 c1, .slice a2 n2 c2, .slice a3 n3 c3] 25)).alloc (.cells #[.int .i64 n', .int .i64 m', .slice b1 l1 d1, .slice b2 l2 d2, .slice b3 l3 d3] 25) = W0 := ⟨_, rfl⟩
 have HD := hide (box2 w #[.int .i64 n, .int .i64 m, .slice a1 n1 c1, .slice a2 n2 c2, .slice a3 n3 c3] #[.int .i64 n', .int .i64 m', .slice b1 l1 d1, .slice b2 l2 d2, .slice b3 l3 d3] 25)
 rw [hW0] at HD
 go_enter Tryz.func30, Tryz.ntmps30
 go_wp2_with fail
 clear hW0
 go_loopw [7] (fun iv wr => ∃ i : Nat, i ≤ nw + 1 ∧ iv = .int .i64 (i : Int) ∧ Hid (Below W0.heap.size W0 wr ∧ ∀ j, j < i → ((tkF n m Sa Fa Ea) (Wd.take j) && (tkF n' m' Sb Fb Eb) (Wd.drop j)) = false)) (fun iv _ => nw + 1 - (intOf iv).toNat)
 case atStart => exact ⟨0, Nat.zero_le _, rfl, hide ⟨Below.refl _ _, fun j hj => by omega⟩⟩
 case round =>
  obtain ⟨i, hi, rfl, HY⟩ := hrel
  by_cases hle : i ≤ nw
  · have i1 : (i : Int) ≤ (nw : Int) := by omega
    have HW := hide HY.out.1
    have TA : Hid (∀ W, Below wr.heap.size wr W → ∀ (ad : Option Addr) (c : Nat), RdN W ad (Wd.take i) → Calls Tryz.prog 11 #[.agg #[.int .i64 n, .int .i64 m, .slice a1 n1 c1, .slice a2 n2 c2, .slice a3 n3 c3], .slice ad i c] W fun e w' => e = .returned (.bool ((tkF n m Sa Fa Ea) (Wd.take i))) ∧ Below W.heap.size W w') := hide (fun W d ad c hr => by
     have q := ltakes_any W n m a1 a2 a3 c1 c2 c3 Sa Fa Ea ad c (Wd.take i) (hide (hA.out.on (HD.out.1.trans ((HW.out.trans (d.mono HW.out.size)).mono HD.out.1.size)))) (hide hr) (by have := en.out; omega) (by have := en.out; omega) (by have := en.out; omega) (by rw [List.length_take]; omega)
     rw [en.out.1, en.out.2.1, en.out.2.2.1, List.length_take, HNW.out, Nat.min_eq_left hle] at q
     exact q)
    have TB : Hid (∀ W, Below wr.heap.size wr W → ∀ (ad : Option Addr) (c : Nat), RdN W ad (Wd.drop i) → Calls Tryz.prog 11 #[.agg #[.int .i64 n', .int .i64 m', .slice b1 l1 d1, .slice b2 l2 d2, .slice b3 l3 d3], .slice ad (nw - i) c] W fun e w' => e = .returned (.bool ((tkF n' m' Sb Fb Eb) (Wd.drop i))) ∧ Below W.heap.size W w') := hide (fun W d ad c hr => by
     have q := ltakes_any W n' m' b1 b2 b3 d1 d2 d3 Sb Fb Eb ad c (Wd.drop i) (hide (hB.out.on (HD.out.1.trans ((HW.out.trans (d.mono HW.out.size)).mono HD.out.1.size)))) (hide hr) (by have := en.out; omega) (by have := en.out; omega) (by have := en.out; omega) (by rw [List.length_drop, HNW.out]; omega)
     rw [en.out.2.2.2.1, en.out.2.2.2.2.1, en.out.2.2.2.2.2, List.length_drop, HNW.out] at q
     exact q)
    obtain ⟨va, hva⟩ : ∃ v, (tkF n m Sa Fa Ea) (Wd.take i) = v := ⟨_, rfl⟩
    obtain ⟨vb, hvb⟩ : ∃ v, (tkF n' m' Sb Fb Eb) (Wd.drop i) = v := ⟨_, rfl⟩
    rw [hva] at TA
    rw [hvb] at TB
    have HV := hide (And.intro hva hvb)
    clear hva hvb
    go_upto_region 4 with fail
    go_cut [25] (fun v W => v = .bool (va && vb) ∧ Hid (Below W0.heap.size W0 W))
    case first =>
     cases va with
     | false =>
      have hmo : MonIL 0 [vI 0 (.agg #[.int .i64 n, .int .i64 m, .slice a1 n1 c1, .slice a2 n2 c2, .slice a3 n3 c3]), vI 1 (.slice aw nw cw), vI 2 (.int .i64 (i : Int)), pI 3 (wdP i (Wd.take i)), vI 4 (.bool false), vI 5 (.bool false), vI 6 (undef), vI 7 (undef), vI 8 (undef), vI 9 (undef), vI 10 (undef), vI 11 (.bool false)] := ⟨vI_mono _ _, vI_mono _ _, vI_mono _ _, pI_mono wdP_mono, vI_mono _ _, vI_mono _ _, vI_mono _ _, vI_mono _ _, vI_mono _ _, vI_mono _ _, vI_mono _ _, vI_mono _ _, trivial⟩
      refine wp_region_sl _ (by kernel_rfl) (by kernel_rfl) (by kernel_rfl) (by kernel_rfl) hmo ⟨?o0, ?o1, ?o2, ?o3, ?o4, ?o5, ?o6, ?o7, ?o8, ?o9, ?o10, ?o11, trivial⟩ ?fin
      case o0 =>
       intro At yy W hy hb d hd K hK
       obtain ⟨s3, s3'⟩ := zsb (hb 3 rfl : _ = .pointer (some ⟨w.heap.size, 0, none⟩))
       clear hd hy hb
       have bx1 := blk_on HD.out.2.1 (HW.out.trans (d.mono HW.out.size))
       have bx2 := blk_on HD.out.2.2.1 (HW.out.trans (d.mono HW.out.size))
       obtain ⟨y0, y1, y2, y3, y4⟩ := zd5 bx1 rfl rfl rfl rfl rfl
       obtain ⟨x0, x1, x2, x3, x4⟩ := zd5 bx2 rfl rfl rfl rfl rfl
       clear bx1 bx2
       go_simp
       exact zkq hK hmo d (if_pos rfl)
      case o1 =>
       intro At yy W hy hb d hd K hK
       obtain ⟨s2, s2'⟩ := zsb (hb 2 rfl : _ = .slice aw nw cw)
       clear hd hy hb
       go_simp
       exact zkq hK hmo d (if_pos rfl)
      case o2 =>
       intro At yy W hy hb d hd K hK
       obtain ⟨s7, s7'⟩ := zsb (hb 7 rfl : _ = .int .i64 (i : Int))
       clear hd hy hb
       go_simp
       exact zkq hK hmo d (if_pos rfl)
      case o3 =>
       intro At yy W hy hb d hd K hK
       have hkc : i ≤ cw := by omega
       obtain ⟨s15, s15'⟩ := zsg 1 15 .data hy hd rfl
       obtain ⟨s16, s16'⟩ := zsg 2 16 .data hy hd rfl
       clear hd hy hb
       go_simp
       exact zkq hK hmo d ⟨aw, cw, if_pos rfl, rd_take (hU.out.on (HD.out.1.trans ((HW.out.trans (d.mono HW.out.size)).mono HD.out.1.size))) i⟩
      case o4 =>
       intro At yy W hy hb d hd K hK
       have f3 := hd ⟨3, .data⟩ (by simp) rfl rfl
       obtain ⟨_, _, _, _, ad, c, e3, h3⟩ := f3
       obtain ⟨s14, s14'⟩ := zsg 0 14 .data hy hd rfl
       obtain ⟨s17, s17'⟩ := zsb ((hy 3 _ 17 rfl rfl).trans e3)
       clear hd hy hb
       go_simp
       go_wp2_with (go_at_call 11; refine (TA.out _ d ad c h3).mono ?_; rintro e wa ⟨rfl, dR⟩)
       exact hK.out _ wa (stp_of hmo d dR) (if_pos rfl)
      case o5 =>
       intro At yy W hy hb d hd K hK
       obtain ⟨s18, s18'⟩ := zsg 4 18 .data hy hd rfl
       clear hd hy hb
       go_simp
       exact zkq hK hmo d (if_pos rfl)
      case o6 | o7 | o8 =>
       intro At yy W hy hb d hd K hK
       have g19 := zgd 5 19 hy hd rfl
       clear hd hy hb
       go_simp
       exact zkq hK hmo d (if_pos rfl)
      case o9 =>
       intro At yy W hy hb d hd K hK
       have e7 := zev (hd ⟨7, .data⟩ (by simp) rfl rfl) rfl
       have e8 := zev (hd ⟨8, .data⟩ (by simp) rfl rfl) rfl
       have g19 := zgd 5 19 hy hd rfl
       clear hd hy hb
       go_simp
       exact zkq hK hmo d (if_pos rfl)
      case o10 =>
       intro At yy W hy hb d hd K hK
       have e6 := zev (hd ⟨6, .data⟩ (by simp) rfl rfl) rfl
       have e9 := zev (hd ⟨9, .data⟩ (by simp) rfl rfl) rfl
       have g19 := zgd 5 19 hy hd rfl
       clear hd hy hb
       go_simp
       exact zkq hK hmo d (if_pos rfl)
      case o11 =>
       intro At yy W hy hb d hd K hK
       obtain ⟨s19, s19'⟩ := zsg 5 19 .data hy hd rfl
       obtain ⟨s24, s24'⟩ := zsg 10 24 .data hy hd rfl
       clear hd hy hb
       go_simp
       exact zkq hK hmo d (if_pos rfl)
      case fin =>
       intro yy lo hi W hM
       show wpList _ _ _ [] _ _
       have e0 := hM.v 0 (by simp) rfl rfl rfl
       have e1 := hM.v 1 (by simp) rfl rfl rfl
       have e2 := hM.v 2 (by simp) rfl rfl rfl
       have e4 := hM.v 4 (by simp) rfl rfl rfl
       have e5 := hM.v 5 (by simp) rfl rfl rfl
       have e6 := hM.v 6 (by simp) rfl rfl rfl
       have e7 := hM.v 7 (by simp) rfl rfl rfl
       have e8 := hM.v 8 (by simp) rfl rfl rfl
       have e9 := hM.v 9 (by simp) rfl rfl rfl
       have e10 := hM.v 10 (by simp) rfl rfl rfl
       have e11 := hM.v 11 (by simp) rfl rfl rfl
       have DW := hide (HW.out.trans (hM.d.mono HW.out.size))
       obtain ⟨_, _, e3, _⟩ := hM.fact 3 (by simp) rfl (notR_all 3 rfl)
       simp only [fills, Act.put, List.take, List.length, List.setIfInBounds_toArray, List.set_cons_zero, List.set_cons_succ, e0, e1, e2, e4, e5, e6, e7, e8, e9, e10, e11, e3]
       clear hM hmo e0 e1 e2 e4 e5 e6 e7 e8 e9 e10 e11
       go_wp2_with fail
       go_meet
       exact ⟨rfl, DW⟩
     | true =>
      have hmo : MonIL 0 [vI 0 (.agg #[.int .i64 n, .int .i64 m, .slice a1 n1 c1, .slice a2 n2 c2, .slice a3 n3 c3]), vI 1 (.slice aw nw cw), vI 2 (.int .i64 (i : Int)), pI 3 (wdP i (Wd.take i)), vI 4 (.bool true), vI 5 (.bool true), vI 6 (.agg #[.int .i64 n', .int .i64 m', .slice b1 l1 d1, .slice b2 l2 d2, .slice b3 l3 d3]), vI 7 (.slice aw nw cw), vI 8 (.int .i64 (i : Int)), pI 9 (wdP (nw - i) (Wd.drop i)), vI 10 (.bool vb), vI 11 (.bool vb)] := ⟨vI_mono _ _, vI_mono _ _, vI_mono _ _, pI_mono wdP_mono, vI_mono _ _, vI_mono _ _, vI_mono _ _, vI_mono _ _, vI_mono _ _, pI_mono wdP_mono, vI_mono _ _, vI_mono _ _, trivial⟩
      refine wp_region_sl _ (by kernel_rfl) (by kernel_rfl) (by kernel_rfl) (by kernel_rfl) hmo ⟨?o0, ?o1, ?o2, ?o3, ?o4, ?o5, ?o6, ?o7, ?o8, ?o9, ?o10, ?o11, trivial⟩ ?fin
      case o0 =>
       intro At yy W hy hb d hd K hK
       obtain ⟨s3, s3'⟩ := zsb (hb 3 rfl : _ = .pointer (some ⟨w.heap.size, 0, none⟩))
       clear hd hy hb
       have bx1 := blk_on HD.out.2.1 (HW.out.trans (d.mono HW.out.size))
       have bx2 := blk_on HD.out.2.2.1 (HW.out.trans (d.mono HW.out.size))
       obtain ⟨y0, y1, y2, y3, y4⟩ := zd5 bx1 rfl rfl rfl rfl rfl
       obtain ⟨x0, x1, x2, x3, x4⟩ := zd5 bx2 rfl rfl rfl rfl rfl
       clear bx1 bx2
       go_simp
       exact zkq hK hmo d (if_pos rfl)
      case o1 =>
       intro At yy W hy hb d hd K hK
       obtain ⟨s2, s2'⟩ := zsb (hb 2 rfl : _ = .slice aw nw cw)
       clear hd hy hb
       go_simp
       exact zkq hK hmo d (if_pos rfl)
      case o2 =>
       intro At yy W hy hb d hd K hK
       obtain ⟨s7, s7'⟩ := zsb (hb 7 rfl : _ = .int .i64 (i : Int))
       clear hd hy hb
       go_simp
       exact zkq hK hmo d (if_pos rfl)
      case o3 =>
       intro At yy W hy hb d hd K hK
       have hkc : i ≤ cw := by omega
       obtain ⟨s15, s15'⟩ := zsg 1 15 .data hy hd rfl
       obtain ⟨s16, s16'⟩ := zsg 2 16 .data hy hd rfl
       clear hd hy hb
       go_simp
       exact zkq hK hmo d ⟨aw, cw, if_pos rfl, rd_take (hU.out.on (HD.out.1.trans ((HW.out.trans (d.mono HW.out.size)).mono HD.out.1.size))) i⟩
      case o4 =>
       intro At yy W hy hb d hd K hK
       have f3 := hd ⟨3, .data⟩ (by simp) rfl rfl
       obtain ⟨_, _, _, _, ad, c, e3, h3⟩ := f3
       obtain ⟨s14, s14'⟩ := zsg 0 14 .data hy hd rfl
       obtain ⟨s17, s17'⟩ := zsb ((hy 3 _ 17 rfl rfl).trans e3)
       clear hd hy hb
       go_simp
       go_wp2_with (go_at_call 11; refine (TA.out _ d ad c h3).mono ?_; rintro e wa ⟨rfl, dR⟩)
       exact hK.out _ wa (stp_of hmo d dR) (if_pos rfl)
      case o5 =>
       intro At yy W hy hb d hd K hK
       obtain ⟨s18, s18'⟩ := zsg 4 18 .data hy hd rfl
       clear hd hy hb
       go_simp
       exact zkq hK hmo d (if_pos rfl)
      case o6 =>
       intro At yy W hy hb d hd K hK
       obtain ⟨s4, s4'⟩ := zsb (hb 4 rfl : _ = .pointer (some ⟨w.heap.size + 1, 0, none⟩))
       have g19 := zgd 5 19 hy hd rfl
       clear hd hy hb
       have bx1 := blk_on HD.out.2.1 (HW.out.trans (d.mono HW.out.size))
       have bx2 := blk_on HD.out.2.2.1 (HW.out.trans (d.mono HW.out.size))
       obtain ⟨y0, y1, y2, y3, y4⟩ := zd5 bx1 rfl rfl rfl rfl rfl
       obtain ⟨x0, x1, x2, x3, x4⟩ := zd5 bx2 rfl rfl rfl rfl rfl
       clear bx1 bx2
       go_simp
       exact zkq hK hmo d (if_pos rfl)
      case o7 =>
       intro At yy W hy hb d hd K hK
       obtain ⟨s2, s2'⟩ := zsb (hb 2 rfl : _ = .slice aw nw cw)
       have g19 := zgd 5 19 hy hd rfl
       clear hd hy hb
       go_simp
       exact zkq hK hmo d (if_pos rfl)
      case o8 =>
       intro At yy W hy hb d hd K hK
       obtain ⟨s7, s7'⟩ := zsb (hb 7 rfl : _ = .int .i64 (i : Int))
       have g19 := zgd 5 19 hy hd rfl
       clear hd hy hb
       go_simp
       exact zkq hK hmo d (if_pos rfl)
      case o9 =>
       intro At yy W hy hb d hd K hK
       obtain ⟨s21, s21'⟩ := zsg 7 21 .data hy hd rfl
       obtain ⟨s22, s22'⟩ := zsg 8 22 .data hy hd rfl
       have g19 := zgd 5 19 hy hd rfl
       clear hd hy hb
       go_simp
       exact zkq hK hmo d ⟨_, _, if_pos rfl, rd_drop (hU.out.on (HD.out.1.trans ((HW.out.trans (d.mono HW.out.size)).mono HD.out.1.size))) (by rw [HNW.out]; exact hcw) (by rw [HNW.out]; exact hle)⟩
      case o10 =>
       intro At yy W hy hb d hd K hK
       have f9 := hd ⟨9, .data⟩ (by simp) rfl rfl
       obtain ⟨_, _, _, _, ad, c, e9, h9⟩ := f9
       obtain ⟨s20, s20'⟩ := zsg 6 20 .data hy hd rfl
       obtain ⟨s23, s23'⟩ := zsb ((hy 9 _ 23 rfl rfl).trans e9)
       have g19 := zgd 5 19 hy hd rfl
       clear hd hy hb
       go_simp
       go_wp2_with (go_at_call 11; refine (TB.out _ d ad c h9).mono ?_; rintro e wa ⟨rfl, dR⟩)
       exact hK.out _ wa (stp_of hmo d dR) (if_pos rfl)
      case o11 =>
       intro At yy W hy hb d hd K hK
       obtain ⟨s19, s19'⟩ := zsg 5 19 .data hy hd rfl
       obtain ⟨s24, s24'⟩ := zsg 10 24 .data hy hd rfl
       clear hd hy hb
       go_simp
       exact zkq hK hmo d (if_pos rfl)
      case fin =>
       intro yy lo hi W hM
       show wpList _ _ _ [] _ _
       have e0 := hM.v 0 (by simp) rfl rfl rfl
       have e1 := hM.v 1 (by simp) rfl rfl rfl
       have e2 := hM.v 2 (by simp) rfl rfl rfl
       have e4 := hM.v 4 (by simp) rfl rfl rfl
       have e5 := hM.v 5 (by simp) rfl rfl rfl
       have e6 := hM.v 6 (by simp) rfl rfl rfl
       have e7 := hM.v 7 (by simp) rfl rfl rfl
       have e8 := hM.v 8 (by simp) rfl rfl rfl
       have e10 := hM.v 10 (by simp) rfl rfl rfl
       have e11 := hM.v 11 (by simp) rfl rfl rfl
       have DW := hide (HW.out.trans (hM.d.mono HW.out.size))
       obtain ⟨_, _, e3, _⟩ := hM.fact 3 (by simp) rfl (notR_all 3 rfl)
       obtain ⟨_, _, e9, _⟩ := hM.fact 9 (by simp) rfl (notR_all 9 rfl)
       simp only [fills, Act.put, List.take, List.length, List.setIfInBounds_toArray, List.set_cons_zero, List.set_cons_succ, e0, e1, e2, e4, e5, e6, e7, e8, e10, e11, e3, e9]
       clear hM hmo e0 e1 e2 e4 e5 e6 e7 e8 e10 e11
       go_wp2_with fail
       go_meet
       exact ⟨rfl, DW⟩
    case rest =>
     rename World => wc
     obtain ⟨rfl, HC⟩ := hcut
     cases hv : (va && vb) with
     | true =>
      go_wp2_with fail
      go_ret
      exact ⟨by rw [spl_yes (j := i) (by rw [HNW.out]; omega) (by rw [HV.out.1, HV.out.2]; exact hv)]; rfl, HD.out.1.trans (HC.out.mono HD.out.1.size)⟩
     | false =>
      go_wp2_with fail
      exact ⟨⟨i + 1, by omega, by go_num, hide ⟨HC.out, fun j hj => by
       by_cases e : j = i
       · subst e; rw [HV.out.1, HV.out.2]; exact hv
       · exact HY.out.2 j (by omega)⟩⟩, by simp [intOf]; omega⟩
  · have i1 : ¬ (i : Int) ≤ (nw : Int) := by omega
    go_wp2_with fail
    go_ret
    exact ⟨by rw [spl_no (fun j hj => HY.out.2 j (by have := HNW.out; omega))]; rfl, HD.out.1.trans (HY.out.1.mono HD.out.1.size)⟩
open Classical in
noncomputable def staB (L : List Int → Bool) (W : List Int) (k : Nat) : Bool := decide (Stk (fun U => L U = true) (W.take k))
open Classical in
noncomputable def stpB (L : List Int → Bool) (W : List Int) (t f : Nat) : Bool := decide (∃ j, j < f ∧ staB L W j = true ∧ L ((W.take t).drop j) = true)
noncomputable def gB (L : List Int → Bool) (W : List Int) (t f c : Nat) : Bool := if c < t then staB L W c else if c = t then stpB L W t f else false
theorem staB_iff {L : List Int → Bool} {W : List Int} {k : Nat} : staB L W k = true ↔ Stk (fun U => L U = true) (W.take k) := by
 unfold staB
 simp only [decide_eq_true_eq]
theorem stpB_iff {L : List Int → Bool} {W : List Int} {t f : Nat} : stpB L W t f = true ↔ ∃ j, j < f ∧ staB L W j = true ∧ L ((W.take t).drop j) = true := by
 unfold stpB
 simp only [decide_eq_true_eq]
theorem stp_zero {L : List Int → Bool} {W : List Int} {t : Nat} : stpB L W t 0 = false := by
 rw [Bool.eq_false_iff, Ne, stpB_iff]
 rintro ⟨j, hj, _⟩
 omega
theorem stp_next {L : List Int → Bool} {W : List Int} {t f : Nat} : stpB L W t (f + 1) = (stpB L W t f || (staB L W f && L ((W.take t).drop f))) := by
 rw [Bool.eq_iff_iff, Bool.or_eq_true, Bool.and_eq_true, stpB_iff, stpB_iff]
 constructor
 · rintro ⟨j, hj, h⟩
   by_cases e : j = f
   · subst e; exact .inr h
   · exact .inl ⟨j, by omega, h⟩
 · rintro (⟨j, hj, h⟩ | h)
   · exact ⟨j, by omega, h⟩
   · exact ⟨f, by omega, h⟩
theorem stp_full {L : List Int → Bool} {W : List Int} {t : Nat} (h0 : 0 < t) (ht : t ≤ W.length) : stpB L W t t = staB L W t := by
 rw [Bool.eq_iff_iff, stpB_iff, staB_iff]
 constructor
 · rintro ⟨j, hj, h1, h2⟩
   have e : W.take j ++ (W.take t).drop j = W.take t := by
    have := List.take_append_drop j (W.take t)
    rw [List.take_take, Nat.min_eq_left (by omega)] at this
    exact this
   rw [← e]
   refine (staB_iff.1 h1).snoc (fun e2 => ?_) h2
   have := congrArg List.length e2
   rw [List.length_drop, List.length_take, List.length_nil] at this
   omega
 · intro h
   rcases h.last with e | ⟨A, U, e, u1, u2, u3⟩
   · have := congrArg List.length e
     rw [List.length_take, List.length_nil] at this
     omega
   · have hl := congrArg List.length e
     rw [List.length_take, List.length_append] at hl
     have hu : 0 < U.length := List.length_pos_iff.2 u1
     refine ⟨A.length, by omega, staB_iff.2 ?_, ?_⟩
     · have : (W.take t).take A.length = A := by rw [e, List.take_left]
       rw [List.take_take, Nat.min_eq_left (by omega)] at this
       rw [this]
       exact u3
     · rw [e, List.drop_left]
       exact u2
theorem gB_start {L : List Int → Bool} {W : List Int} (c : Nat) : gB L W 1 0 c = if c = 0 then true else false := by
 unfold gB
 by_cases e : c = 0
 · subst e
   rw [if_pos (by omega), if_pos rfl, staB_iff]
   exact .nil
 · rw [if_neg (by omega), if_neg e]
   split
   · subst_vars; exact stp_zero
   · rfl
theorem gB_turn {L : List Int → Bool} {W : List Int} {t : Nat} (h0 : 0 < t) (ht : t ≤ W.length) (c : Nat) : gB L W t t c = gB L W (t + 1) 0 c := by
 unfold gB
 by_cases e : c < t
 · rw [if_pos e, if_pos (by omega)]
 · rw [if_neg e]
   by_cases e2 : c = t
   · subst e2
     rw [if_pos rfl, if_pos (by omega), stp_full h0 ht]
   · rw [if_neg e2, if_neg (by omega)]
     split
     · exact stp_zero.symm
     · rfl
theorem gB_same {L : List Int → Bool} {W : List Int} {t f : Nat} (h : (staB L W f && L ((W.take t).drop f)) = false) (c : Nat) : gB L W t f c = gB L W t (f + 1) c := by
 unfold gB
 rw [stp_next, h, Bool.or_false]
theorem gB_set {L : List Int → Bool} {W : List Int} {t f : Nat} (h : (staB L W f && L ((W.take t).drop f)) = true) (c : Nat) : (if c = t then true else gB L W t f c) = gB L W t (f + 1) c := by
 unfold gB
 rw [stp_next, h, Bool.or_true]
 by_cases e : c = t
 · rw [if_pos e, if_neg (by omega), if_pos e]
 · rw [if_neg e, if_neg e, if_neg e]
theorem starred_any (w : World) (n m : Int) (a1 a2 a3 : Option Addr) (c1 c2 c3 n1 n2 n3 : Nat) (Sa Fa : List Int) (Ea : List EdT) (en : Hid (Sa.length = n1 ∧ Fa.length = n2 ∧ Ea.length = n3)) (hA : Hid (RdA w a1 a2 a3 Sa Fa Ea)) (h1 : n1 ≤ 4194304) (h2 : n2 ≤ 4194304) (h3 : n3 ≤ 4194304) (aw : Option Addr) (nw cw : Nat) (Wd : List Int) (HNW : Hid (Wd.length = nw)) (hU : Hid (RdN w aw Wd)) (hcw : nw ≤ cw) (hnw : nw ≤ 4194304) :
 Calls Tryz.prog 27 #[.agg #[.int .i64 n, .int .i64 m, .slice a1 n1 c1, .slice a2 n2 c2, .slice a3 n3 c3], .slice aw nw cw] w fun e w' => e = .returned (.bool (staB (tkF n m Sa Fa Ea) Wd nw)) ∧ Below w.heap.size w w' := by
 obtain ⟨W0, hW0⟩ : ∃ W0, w.alloc (.cells #[.int .i64 n, .int .i64 m, .slice a1 n1 c1, .slice a2 n2 c2, .slice a3 n3 c3] 25) = W0 := ⟨_, rfl⟩
 have HD : Hid (Below w.heap.size w W0 ∧ W0.heap[w.heap.size]? = some (.cells #[.int .i64 n, .int .i64 m, .slice a1 n1 c1, .slice a2 n2 c2, .slice a3 n3 c3] 25 (0, 0))) := hide (by rw [← hW0]; exact ⟨(Below.refl _ _).alloc (Nat.le_refl _) _, World.alloc_heap_new _ _⟩)
 obtain ⟨i4, hi4, hz40, hz41, hz42⟩ := info_parts info4
 go_enter Tryz.func27, Tryz.ntmps27
 go_upto_region 2 with (at_make; refine wpList_make_full _ rfl _ _ 77 rfl W0.heap.size 4 i4 (.bool false) 1 Tryz.underlying77 hi4 hz40 hz41 _ _ _ _ (nw + 1) rfl rfl (by go_num) (by go_num) (by rw [hz42]; omega) (by unfold maxLen; omega) (Nat.le_refl _) ?_; intro w6 ho hg)
 have H6 : Hid (Mrw w6 W0.heap.size 4 (nw + 1) (fun _ => .bool false) (nw + 1) ∧ Below W0.heap.size W0 w6) := hide (by
  have t := ho
  rw [Nat.mul_one] at t
  exact ⟨(mask_made t).2, (Below.refl _ _).grown hg (Nat.le_refl _) (by intro k hk; cases hk)⟩)
 clear ho hg hW0
 have j0 : (0 : Int) < (nw : Int) + 1 := by omega
 have cu := H6.out.1.at 0 (by omega)
 have zu : w6.frozen? ⟨W0.heap.size, 0, none⟩ = false := H6.out.1.fz 0
 have H7 : Hid (Mrw (w6.setCell ⟨W0.heap.size, 0, none⟩ (.bool true)) W0.heap.size 4 (nw + 1) (fun c => .bool (gB (tkF n m Sa Fa Ea) Wd 1 0 c)) (nw + 1) ∧ Below W0.heap.size W0 (w6.setCell ⟨W0.heap.size, 0, none⟩ (.bool true))) := hide ⟨(H6.out.1.upd 0 (.bool true)).congr (fun c _ => by rw [gB_start]; by_cases e : c = 0 <;> simp [e]), H6.out.2.setCell (Nat.le_refl _) _⟩
 go_wp2_with fail
 go_loopw [6] (fun tv wr => ∃ t : Nat, 0 < t ∧ t ≤ nw + 1 ∧ tv = .int .i64 (t : Int) ∧ Hid (Mrw wr W0.heap.size 4 (nw + 1) (fun c => .bool (gB (tkF n m Sa Fa Ea) Wd t 0 c)) (nw + 1) ∧ Below W0.heap.size W0 wr)) (fun tv _ => nw + 1 - (intOf tv).toNat)
 case atStart => exact ⟨1, by omega, by omega, rfl, H7⟩
 case round =>
  rename World => wo
  obtain ⟨t, ht0, ht1, rfl, HY⟩ := hrel
  clear H6 H7 cu zu
  by_cases hle : t ≤ nw
  · have i1 : (t : Int) ≤ (nw : Int) := by omega
    go_wp2_with fail
    go_loopw [7] (fun fv wr => ∃ f : Nat, f ≤ t ∧ fv = .int .i64 (f : Int) ∧ Hid (Mrw wr W0.heap.size 4 (nw + 1) (fun c => .bool (gB (tkF n m Sa Fa Ea) Wd t f c)) (nw + 1) ∧ Below W0.heap.size W0 wr)) (fun fv _ => t - (intOf fv).toNat)
    case atStart => exact ⟨0, Nat.zero_le _, rfl, HY⟩
    case round =>
     obtain ⟨f, hf, rfl, HZ⟩ := hrel
     clear HY
     by_cases hft : f < t
     · have i2 : (f : Int) < (t : Int) := by omega
       have i3 : (0 : Int) ≤ (f : Int) := by omega
       have i4' : (f : Int) < (nw : Int) + 1 := by omega
       have i5 : (0 : Int) ≤ (t : Int) := by omega
       have i6 : (t : Int) < (nw : Int) + 1 := by omega
       have HW := hide HZ.out.2
       have HM0 := hide HZ.out.1
       have TA : Hid (∀ W, Below wr.heap.size wr W → ∀ (ad : Option Addr) (c : Nat), RdN W ad ((Wd.take t).drop f) → Calls Tryz.prog 11 #[.agg #[.int .i64 n, .int .i64 m, .slice a1 n1 c1, .slice a2 n2 c2, .slice a3 n3 c3], .slice ad (t - f) c] W fun e w' => e = .returned (.bool ((tkF n m Sa Fa Ea) ((Wd.take t).drop f))) ∧ Below W.heap.size W w') := hide (fun W d ad c hr => by
        have q := ltakes_any W n m a1 a2 a3 c1 c2 c3 Sa Fa Ea ad c ((Wd.take t).drop f) (hide (hA.out.on (HD.out.1.trans ((HW.out.trans (d.mono HW.out.size)).mono HD.out.1.size)))) (hide hr) (by have := en.out; omega) (by have := en.out; omega) (by have := en.out; omega) (by rw [List.length_drop, List.length_take]; omega)
        rw [en.out.1, en.out.2.1, en.out.2.2, List.length_drop, List.length_take, HNW.out, Nat.min_eq_left hle] at q
        exact q)
       obtain ⟨vb, hvb⟩ : ∃ v, (tkF n m Sa Fa Ea) ((Wd.take t).drop f) = v := ⟨_, rfl⟩
       rw [hvb] at TA
       obtain ⟨va, hva⟩ : ∃ v, staB (tkF n m Sa Fa Ea) Wd f = v := ⟨_, rfl⟩
       have HSF : Hid (gB (tkF n m Sa Fa Ea) Wd t f f = va) := hide (by unfold gB; rw [if_pos hft, hva])
       have HV := hide (And.intro hva hvb)
       clear hva hvb
       go_upto_region 9 with fail
       go_cut [36] (fun v W => v = .bool (va && vb) ∧ Hid (Below wr.heap.size wr W))
       case first =>
        cases va with
        | false =>
         have hmo : MonIL 0 [vI 0 (.slice (some ⟨W0.heap.size, 0, none⟩) (nw + 1) (nw + 1)), vI 1 (.int .i64 (f : Int)), vI 2 (.pointer (some ⟨W0.heap.size, f, none⟩)), vI 3 (.bool false), vI 4 (.bool false), vI 5 (undef), vI 6 (undef), vI 7 (undef), vI 8 (undef), vI 9 (undef), vI 10 (undef), vI 11 (.bool false)] := ⟨vI_mono _ _, vI_mono _ _, vI_mono _ _, vI_mono _ _, vI_mono _ _, vI_mono _ _, vI_mono _ _, vI_mono _ _, vI_mono _ _, vI_mono _ _, vI_mono _ _, vI_mono _ _, trivial⟩
         refine wp_region_sl _ (by kernel_rfl) (by kernel_rfl) (by kernel_rfl) (by kernel_rfl) hmo ⟨?o0, ?o1, ?o2, ?o3, ?o4, ?o5, ?o6, ?o7, ?o8, ?o9, ?o10, ?o11, trivial⟩ ?fin
         case o0 =>
          intro At yy W hy hb d hd K hK
          obtain ⟨s5, s5'⟩ := zsb (hb 5 rfl : _ = .slice (some ⟨W0.heap.size, 0, none⟩) (nw + 1) (nw + 1))
          clear hd hy hb
          go_simp
          exact zkq hK hmo d (if_pos rfl)
         case o1 =>
          intro At yy W hy hb d hd K hK
          obtain ⟨s7, s7'⟩ := zsb (hb 7 rfl : _ = .int .i64 (f : Int))
          clear hd hy hb
          go_simp
          exact zkq hK hmo d (if_pos rfl)
         case o2 =>
          intro At yy W hy hb d hd K hK
          obtain ⟨s25, s25'⟩ := zsg 0 25 .data hy hd rfl
          obtain ⟨s26, s26'⟩ := zsg 1 26 .data hy hd rfl
          clear hd hy hb
          go_simp
          exact zkq hK hmo d (if_pos rfl)
         case o3 =>
          intro At yy W hy hb d hd K hK
          obtain ⟨s27, s27'⟩ := zsg 2 27 .data hy hd rfl
          clear hd hy hb
          have ce : W.cell? ⟨W0.heap.size, f, none⟩ = some (.bool false) := by have := (HM0.out.below d HM0.out.lt).at f (by omega); rw [this, HSF.out]
          go_simp
          exact zkq hK hmo d (if_pos rfl)
         case o4 =>
          intro At yy W hy hb d hd K hK
          obtain ⟨s28, s28'⟩ := zsg 3 28 .data hy hd rfl
          clear hd hy hb
          go_simp
          exact zkq hK hmo d (if_pos rfl)
         case o5 | o6 | o7 | o8 =>
          intro At yy W hy hb d hd K hK
          have g29 := zgd 4 29 hy hd rfl
          clear hd hy hb
          go_simp
          exact zkq hK hmo d (if_pos rfl)
         case o9 =>
          intro At yy W hy hb d hd K hK
          have e6 := zev (hd ⟨6, .data⟩ (by simp) rfl rfl) rfl
          have e7 := zev (hd ⟨7, .data⟩ (by simp) rfl rfl) rfl
          have e8 := zev (hd ⟨8, .data⟩ (by simp) rfl rfl) rfl
          have g29 := zgd 4 29 hy hd rfl
          clear hd hy hb
          go_simp
          exact zkq hK hmo d (if_pos rfl)
         case o10 =>
          intro At yy W hy hb d hd K hK
          have e5 := zev (hd ⟨5, .data⟩ (by simp) rfl rfl) rfl
          have e9 := zev (hd ⟨9, .data⟩ (by simp) rfl rfl) rfl
          have g29 := zgd 4 29 hy hd rfl
          clear hd hy hb
          go_simp
          exact zkq hK hmo d (if_pos rfl)
         case o11 =>
          intro At yy W hy hb d hd K hK
          obtain ⟨s29, s29'⟩ := zsg 4 29 .data hy hd rfl
          obtain ⟨s35, s35'⟩ := zsg 10 35 .data hy hd rfl
          clear hd hy hb
          go_simp
          exact zkq hK hmo d (if_pos rfl)
         case fin =>
          intro yy lo hi W hM
          show wpList _ _ _ [] _ _
          have e0 := hM.v 0 (by simp) rfl rfl rfl
          have e1 := hM.v 1 (by simp) rfl rfl rfl
          have e2 := hM.v 2 (by simp) rfl rfl rfl
          have e3 := hM.v 3 (by simp) rfl rfl rfl
          have e4 := hM.v 4 (by simp) rfl rfl rfl
          have e5 := hM.v 5 (by simp) rfl rfl rfl
          have e6 := hM.v 6 (by simp) rfl rfl rfl
          have e7 := hM.v 7 (by simp) rfl rfl rfl
          have e8 := hM.v 8 (by simp) rfl rfl rfl
          have e9 := hM.v 9 (by simp) rfl rfl rfl
          have e10 := hM.v 10 (by simp) rfl rfl rfl
          have e11 := hM.v 11 (by simp) rfl rfl rfl
          have DW := hide hM.d
          simp only [fills, Act.put, List.take, List.length, List.setIfInBounds_toArray, List.set_cons_zero, List.set_cons_succ, e0, e1, e2, e3, e4, e5, e6, e7, e8, e9, e10, e11]
          clear hM hmo e0 e1 e2 e3 e4 e5 e6 e7 e8 e9 e10 e11
          go_wp2_with fail
          go_meet
          exact ⟨rfl, DW⟩
        | true =>
         have hmo : MonIL 0 [vI 0 (.slice (some ⟨W0.heap.size, 0, none⟩) (nw + 1) (nw + 1)), vI 1 (.int .i64 (f : Int)), vI 2 (.pointer (some ⟨W0.heap.size, f, none⟩)), vI 3 (.bool true), vI 4 (.bool true), vI 5 (.agg #[.int .i64 n, .int .i64 m, .slice a1 n1 c1, .slice a2 n2 c2, .slice a3 n3 c3]), vI 6 (.slice aw nw cw), vI 7 (.int .i64 (f : Int)), vI 8 (.int .i64 (t : Int)), pI 9 (wdP (t - f) ((Wd.take t).drop f)), vI 10 (.bool vb), vI 11 (.bool vb)] := ⟨vI_mono _ _, vI_mono _ _, vI_mono _ _, vI_mono _ _, vI_mono _ _, vI_mono _ _, vI_mono _ _, vI_mono _ _, vI_mono _ _, pI_mono wdP_mono, vI_mono _ _, vI_mono _ _, trivial⟩
         refine wp_region_sl _ (by kernel_rfl) (by kernel_rfl) (by kernel_rfl) (by kernel_rfl) hmo ⟨?o0, ?o1, ?o2, ?o3, ?o4, ?o5, ?o6, ?o7, ?o8, ?o9, ?o10, ?o11, trivial⟩ ?fin
         case o0 =>
          intro At yy W hy hb d hd K hK
          obtain ⟨s5, s5'⟩ := zsb (hb 5 rfl : _ = .slice (some ⟨W0.heap.size, 0, none⟩) (nw + 1) (nw + 1))
          clear hd hy hb
          go_simp
          exact zkq hK hmo d (if_pos rfl)
         case o1 =>
          intro At yy W hy hb d hd K hK
          obtain ⟨s7, s7'⟩ := zsb (hb 7 rfl : _ = .int .i64 (f : Int))
          clear hd hy hb
          go_simp
          exact zkq hK hmo d (if_pos rfl)
         case o2 =>
          intro At yy W hy hb d hd K hK
          obtain ⟨s25, s25'⟩ := zsg 0 25 .data hy hd rfl
          obtain ⟨s26, s26'⟩ := zsg 1 26 .data hy hd rfl
          clear hd hy hb
          go_simp
          exact zkq hK hmo d (if_pos rfl)
         case o3 =>
          intro At yy W hy hb d hd K hK
          obtain ⟨s27, s27'⟩ := zsg 2 27 .data hy hd rfl
          clear hd hy hb
          have ce : W.cell? ⟨W0.heap.size, f, none⟩ = some (.bool true) := by have := (HM0.out.below d HM0.out.lt).at f (by omega); rw [this, HSF.out]
          go_simp
          exact zkq hK hmo d (if_pos rfl)
         case o4 =>
          intro At yy W hy hb d hd K hK
          obtain ⟨s28, s28'⟩ := zsg 3 28 .data hy hd rfl
          clear hd hy hb
          go_simp
          exact zkq hK hmo d (if_pos rfl)
         case o5 =>
          intro At yy W hy hb d hd K hK
          obtain ⟨s2, s2'⟩ := zsb (hb 2 rfl : _ = .pointer (some ⟨w.heap.size, 0, none⟩))
          have g29 := zgd 4 29 hy hd rfl
          clear hd hy hb
          have bx1 := blk_on HD.out.2 (HW.out.trans (d.mono HW.out.size))
          obtain ⟨y0, y1, y2, y3, y4⟩ := zd5 bx1 rfl rfl rfl rfl rfl
          clear bx1
          go_simp
          exact zkq hK hmo d (if_pos rfl)
         case o6 =>
          intro At yy W hy hb d hd K hK
          obtain ⟨s1, s1'⟩ := zsb (hb 1 rfl : _ = .slice aw nw cw)
          have g29 := zgd 4 29 hy hd rfl
          clear hd hy hb
          go_simp
          exact zkq hK hmo d (if_pos rfl)
         case o7 =>
          intro At yy W hy hb d hd K hK
          obtain ⟨s7, s7'⟩ := zsb (hb 7 rfl : _ = .int .i64 (f : Int))
          have g29 := zgd 4 29 hy hd rfl
          clear hd hy hb
          go_simp
          exact zkq hK hmo d (if_pos rfl)
         case o8 =>
          intro At yy W hy hb d hd K hK
          obtain ⟨s6, s6'⟩ := zsb (hb 6 rfl : _ = .int .i64 (t : Int))
          have g29 := zgd 4 29 hy hd rfl
          clear hd hy hb
          go_simp
          exact zkq hK hmo d (if_pos rfl)
         case o9 =>
          intro At yy W hy hb d hd K hK
          have hkc : t ≤ cw := by omega
          obtain ⟨s31, s31'⟩ := zsg 6 31 .data hy hd rfl
          obtain ⟨s32, s32'⟩ := zsg 7 32 .data hy hd rfl
          obtain ⟨s33, s33'⟩ := zsg 8 33 .data hy hd rfl
          have g29 := zgd 4 29 hy hd rfl
          clear hd hy hb
          go_simp
          exact zkq hK hmo d ⟨_, _, if_pos rfl, rd_drop (rd_take (hU.out.on (HD.out.1.trans ((HW.out.trans (d.mono HW.out.size)).mono HD.out.1.size))) t) (by rw [List.length_take]; omega) (by rw [List.length_take, HNW.out]; omega)⟩
         case o10 =>
          intro At yy W hy hb d hd K hK
          have f9 := hd ⟨9, .data⟩ (by simp) rfl rfl
          obtain ⟨_, _, _, _, ad, c, e9, h9⟩ := f9
          obtain ⟨s30, s30'⟩ := zsg 5 30 .data hy hd rfl
          obtain ⟨s34, s34'⟩ := zsb ((hy 9 _ 34 rfl rfl).trans e9)
          have g29 := zgd 4 29 hy hd rfl
          clear hd hy hb
          go_simp
          go_wp2_with (go_at_call 11; refine (TA.out _ d ad c h9).mono ?_; rintro e wa ⟨rfl, dR⟩)
          exact hK.out _ wa (stp_of hmo d dR) (if_pos rfl)
         case o11 =>
          intro At yy W hy hb d hd K hK
          obtain ⟨s29, s29'⟩ := zsg 4 29 .data hy hd rfl
          obtain ⟨s35, s35'⟩ := zsg 10 35 .data hy hd rfl
          clear hd hy hb
          go_simp
          exact zkq hK hmo d (if_pos rfl)
         case fin =>
          intro yy lo hi W hM
          show wpList _ _ _ [] _ _
          have e0 := hM.v 0 (by simp) rfl rfl rfl
          have e1 := hM.v 1 (by simp) rfl rfl rfl
          have e2 := hM.v 2 (by simp) rfl rfl rfl
          have e3 := hM.v 3 (by simp) rfl rfl rfl
          have e4 := hM.v 4 (by simp) rfl rfl rfl
          have e5 := hM.v 5 (by simp) rfl rfl rfl
          have e6 := hM.v 6 (by simp) rfl rfl rfl
          have e7 := hM.v 7 (by simp) rfl rfl rfl
          have e8 := hM.v 8 (by simp) rfl rfl rfl
          have e10 := hM.v 10 (by simp) rfl rfl rfl
          have e11 := hM.v 11 (by simp) rfl rfl rfl
          have DW := hide hM.d
          obtain ⟨_, _, e9, _⟩ := hM.fact 9 (by simp) rfl (notR_all 9 rfl)
          simp only [fills, Act.put, List.take, List.length, List.setIfInBounds_toArray, List.set_cons_zero, List.set_cons_succ, e0, e1, e2, e3, e4, e5, e6, e7, e8, e10, e11, e9]
          clear hM hmo e0 e1 e2 e3 e4 e5 e6 e7 e8 e10 e11
          go_wp2_with fail
          go_meet
          exact ⟨rfl, DW⟩
       case rest =>
        rename World => wc
        obtain ⟨rfl, HC⟩ := hcut
        have HM := hide (HM0.out.below HC.out HM0.out.lt)
        have HBc : Hid (Below W0.heap.size W0 wc) := hide (HW.out.trans (HC.out.mono HW.out.size))
        cases hv : (va && vb) with
        | true =>
         have cu := HM.out.at t (by omega)
         have zu : wc.frozen? ⟨W0.heap.size, t, none⟩ = false := HM.out.fz t
         have J : Hid (Mrw (wc.setCell ⟨W0.heap.size, t, none⟩ (.bool true)) W0.heap.size 4 (nw + 1) (fun c => .bool (gB (tkF n m Sa Fa Ea) Wd t (f + 1) c)) (nw + 1) ∧ Below W0.heap.size W0 (wc.setCell ⟨W0.heap.size, t, none⟩ (.bool true))) := hide ⟨(HM.out.upd t (.bool true)).congr (fun c _ => by rw [← gB_set (by rw [HV.out.1, HV.out.2]; exact hv) c]; by_cases e : c = t <;> simp [e]), HBc.out.setCell (Nat.le_refl _) _⟩
         go_wp2_with fail
         exact ⟨⟨f + 1, by omega, by go_num, J⟩, by simp [intOf]; omega⟩
        | false =>
         have J : Hid (Mrw wc W0.heap.size 4 (nw + 1) (fun c => .bool (gB (tkF n m Sa Fa Ea) Wd t (f + 1) c)) (nw + 1) ∧ Below W0.heap.size W0 wc) := hide ⟨HM.out.congr (fun c _ => by rw [gB_same (by rw [HV.out.1, HV.out.2]; exact hv) c]), HBc.out⟩
         go_wp2_with fail
         exact ⟨⟨f + 1, by omega, by go_num, J⟩, by simp [intOf]; omega⟩
     · have i2 : ¬ (f : Int) < (t : Int) := by omega
       obtain rfl : f = t := by omega
       have J : Hid (Mrw wr W0.heap.size 4 (nw + 1) (fun c => .bool (gB (tkF n m Sa Fa Ea) Wd (f + 1) 0 c)) (nw + 1) ∧ Below W0.heap.size W0 wr) := hide ⟨HZ.out.1.congr (fun c _ => by rw [gB_turn ht0 (by rw [HNW.out]; exact hle) c]), HZ.out.2⟩
       go_wp2_with fail
       exact ⟨⟨f + 1, by omega, by omega, by go_num, J⟩, by simp [intOf]; omega⟩
  · have i1 : ¬ (t : Int) ≤ (nw : Int) := by omega
    obtain rfl : t = nw + 1 := by omega
    have cu := HY.out.1.at nw (by omega)
    have HE : Hid (gB (tkF n m Sa Fa Ea) Wd (nw + 1) 0 nw = staB (tkF n m Sa Fa Ea) Wd nw) := hide (by unfold gB; rw [if_pos (by omega)])
    rw [HE.out] at cu
    have i2 : (0 : Int) ≤ (nw : Int) := by omega
    have i3 : (nw : Int) < (nw : Int) + 1 := by omega
    go_wp2_with fail
    go_ret
    exact ⟨rfl, HD.out.1.trans (HY.out.2.mono HD.out.1.size)⟩
theorem joined_any (w : World) (a1 a2 : Option Addr) (c1 c2 n1 n2 : Nat) (U V : List Int) (en : Hid (U.length = n1 ∧ V.length = n2)) (hU : Hid (RdN w a1 U)) (hV : Hid (RdN w a2 V)) (z1 : Hid (a1 = none → c1 = 0)) (z2 : Hid (a2 = none → c2 = 0)) (h1 : n1 ≤ 4194304) (h2 : n2 ≤ 4194304) :
 Calls Tryz.prog 18 #[.slice a1 n1 c1, .slice a2 n2 c2] w fun e w' => ∃ b c, e = .returned (.slice b (n1 + n2) c) ∧ Hid (RdN w' b (U ++ V)) ∧ Below w.heap.size w w' := by
 obtain ⟨W6, hW6⟩ : ∃ W, w.alloc (.cells #[] 3) = W := ⟨_, rfl⟩
 have H6 : Hid (W6.heap[w.heap.size]? = some (.cells #[] 3 (0, 0)) ∧ Below w.heap.size w W6 ∧ W6.heap.size = w.heap.size + 1) := hide (by rw [← hW6]; exact ⟨World.alloc_heap_new _ _, (Below.refl _ _).alloc (Nat.le_refl _) _, by simp⟩)
 have O6 := hide (own_zero H6.out.1 (Nat.le_refl _))
 have R6 := hide (hU.out.on H6.out.2.1)
 go_enter Tryz.func18, Tryz.ntmps18
 go_wp2_with (first
  | (at_builtin; refine wpList_appL rfl _ _ rfl w.heap.size (.slice (some ⟨w.heap.size, 0, none⟩) 0 0) [] rfl O6.out a1 n1 c1 U en.out.1 z1.out rfl R6.out (by have := en.out; simp; omega) (by have := H6.out.2.2; omega) ?_; intro v7 w7 HO7 HG7; rw [List.nil_append, en.out.1] at HO7; obtain ⟨z7, d7, e7⟩ := own_slice HO7.out; subst e7; have D7 : Hid (Below w.heap.size w w7) := hide (H6.out.2.1.trans (HG7.out.toBelow H6.out.2.1.size (fun k hk => (O6.out.lt k hk).1))))
  | (at_builtin; refine wpList_appL rfl _ _ rfl w.heap.size (.slice z7 n1 d7) U rfl (by rw [en.out.1]; exact HO7.out) a2 n2 c2 V en.out.2 z2.out rfl (hV.out.on D7.out) (by have := en.out; omega) D7.out.size ?_; intro v8 w8 HO8 HG8; obtain ⟨z8, d8, e8⟩ := own_slice HO8.out; subst e8; have D8 : Hid (Below w.heap.size w w8) := hide (D7.out.trans (HG8.out.toBelow D7.out.size (fun k hk => (HO7.out.lt k hk).1))))
  | fail)
 go_ret
 exact ⟨z8, d8, by rw [← en.out.1, ← en.out.2]; rfl, hide (own_rdN HO8.out), D8.out⟩
def LnA (r : Ans) : Prop := r.s.length ≤ 4000000 ∧ r.f.length ≤ 4000000 ∧ r.e.length ≤ 1000000
theorem len_bad (er : Int) : LnA (badA er) := ⟨Nat.zero_le _, Nat.zero_le _, Nat.zero_le _⟩
theorem aft_len {b : Nat} {Ed : List EdT} {S Wd : List Int} (hs : S.length ≤ b) (h3 : Ed.length ≤ b) : (aftL Ed S Wd).length ≤ b := by
 rcases Wd.eq_nil_or_concat with rfl | ⟨l, y, rfl⟩
 · exact hs
 · unfold aftL
   rw [List.concat_eq_append, List.foldl_append]
   exact Nat.le_trans (riseL_len _) (Nat.le_trans (imgL_len _ _ _ _) h3)
theorem rch_len {n m : Int} {bk : Bool} {Sa Fa : List Int} {Ea : List EdT} (h : mayA n m Sa Fa Ea = true) : (rchL bk n m Sa Fa Ea).length ≤ 4096 := by
 unfold rchL
 rw [if_pos h]
 have := maskL_len n.toNat (fun q => @decide (∃ k, Wlk (fun q => (q : Int) ∈ if bk then Fa else Sa) (stepE bk Ea) k q) (Classical.propDecidable _))
 have := (may_parts h).1
 omega
theorem may_e {n m : Int} {Sa Fa : List Int} {Ea : List EdT} (h : mayA n m Sa Fa Ea = true) : (riseE Ea).length ≤ 65536 := Nat.le_trans (riseE_len _) (may_parts h).2.2.1
theorem mkA_len {k : Nat} {n m : Int} {Sa Fa : List Int} {Ea : List EdT} {n' m' : Int} {Sb Fb : List Int} {Eb : List EdT} {Wd : List Int} {s : Int} (h1 : Sa.length ≤ 2000000) (h2 : Fa.length ≤ 2000000) (h3 : Ea.length ≤ 2000000) (h4 : Sb.length ≤ 2000000) (h5 : Fb.length ≤ 2000000) : LnA (mkA k n m Sa Fa Ea n' m' Sb Fb Eb Wd s) := by
 have r1 := riseL_len Sa
 have r2 := riseL_len Fa
 have r4 := riseL_len Sb
 have r5 := riseL_len Fb
 unfold mkA
 split
 · by_cases h : unErr n m n' m' Sa Fa Ea Sb Fb Eb = 0
   · rcases un_cases n m n' m' Sa Fa Ea Sb Fb Eb with ⟨_, h'⟩ | ⟨_, _, h'⟩ | ⟨_, _, _, h'⟩ | ⟨_, _, _, _, h'⟩ | ⟨_, _, _, _, _, h'⟩ | ⟨_, _, _, _, e5, _⟩
     iterate 5 (rw [h] at h'; cases h')
     unfold uniAns
     rw [if_pos h]
     refine ⟨?_, ?_, ?_⟩
     · show (riseL Sa ++ shL n (riseL Sb)).length ≤ _
       simp only [List.length_append, shL, List.length_map]; omega
     · show (riseL Fa ++ shL n (riseL Fb)).length ≤ _
       simp only [List.length_append, shL, List.length_map]; omega
     · show (riseE Ea ++ shEs n (riseE Eb)).length ≤ _
       simp only [List.length_append, shEs, List.length_map]; omega
   · rw [uni_bad rfl h]; exact len_bad _
 split
 · unfold conA
   split
   · unfold behA
     split
     · exact len_bad _
     · refine ⟨?_, ?_, ?_⟩
       · show (if emptB (riseL Sa) (riseL Fa) then _ else _ : List Int).length ≤ _
         split
         · simp only [List.length_append, movN_len]; omega
         · omega
       · show (if emptB (movN (riseL Sb) n) (movN (riseL Fb) n) then _ else _ : List Int).length ≤ _
         split
         · simp only [List.length_append, movN_len]; omega
         · rw [movN_len]; omega
       · show (brL (riseE Ea) (riseL Fa) (movN (riseL Sb) n) m.toNat n.toNat ++ movE (riseE Eb) n).length ≤ _
         rw [List.length_append]; omega
   · exact len_bad _
 split
 · unfold staA
   split
   · split
     · unfold agaA
       split
       · exact len_bad _
       · refine ⟨?_, ?_, ?_⟩
         · show ([0] ++ movN (riseL Sa) 1).length ≤ _
           simp only [List.length_append, movN_len, List.length_singleton]; omega
         · show ([0] ++ movN (riseL Fa) 1).length ≤ _
           simp only [List.length_append, movN_len, List.length_singleton]; omega
         · show (brL (movE (riseE Ea) 1) (movN (riseL Fa) 1) (movN (riseL Sa) 1) m.toNat (n.toNat + 1)).length ≤ _
           omega
     · exact len_bad _
   · exact len_bad _
 split
 · unfold preA
   split
   · rename_i h; have q := rch_len (bk := true) h; have t := may_e h
     refine ⟨?_, ?_, ?_⟩
     · show (riseL Sa).length ≤ _; omega
     · show (rchL true n m Sa Fa Ea).length ≤ _; omega
     · show (riseE Ea).length ≤ _; omega
   · exact len_bad _
 split
 · unfold sufA
   split
   · rename_i h; have q := rch_len (bk := false) h; have t := may_e h
     refine ⟨?_, ?_, ?_⟩
     · show (rchL false n m Sa Fa Ea).length ≤ _; omega
     · show (riseL Fa).length ≤ _; omega
     · show (riseE Ea).length ≤ _; omega
   · exact len_bad _
 split
 · unfold lefA
   split
   · rename_i h; have t := may_e (wordErr_zero h).1
     have q := aft_len (b := 2000000) (Ed := Ea) (S := riseL Sa) (Wd := Wd) (by omega) h3
     refine ⟨?_, ?_, ?_⟩
     · show (aftL Ea (riseL Sa) Wd).length ≤ _; omega
     · show (riseL Fa).length ≤ _; omega
     · show (riseE Ea).length ≤ _; omega
   · exact len_bad _
 split
 · unfold rigA
   split
   · rename_i h; have t := may_e (wordErr_zero h).1
     have q := aft_len (b := 2000000) (Ed := riseE (turnE Ea)) (S := riseL Fa) (Wd := Wd.reverse) (by omega) (Nat.le_trans (riseE_len _) (by rw [turnE_len]; exact h3))
     refine ⟨?_, ?_, ?_⟩
     · show (riseL Sa).length ≤ _; omega
     · show (aftL (riseE (turnE Ea)) (riseL Fa) Wd.reverse).length ≤ _; omega
     · show (riseE Ea).length ≤ _; omega
   · exact len_bad _
 split
 · unfold onA
   split
   · exact len_bad _
   · split
     · split
       · refine ⟨?_, ?_, ?_⟩
         · show ([0] : List Int).length ≤ _; simp
         · show ([(Wd.length : Int)] : List Int).length ≤ _; simp
         · show (oneE Wd).length ≤ _; rw [oneE_len]; omega
       · exact len_bad _
     · exact len_bad _
 split
 · unfold alA
   split
   · rename_i h
     obtain ⟨q, rfl, hq⟩ := sym_nat h
     refine ⟨?_, ?_, ?_⟩
     · show ([0] : List Int).length ≤ _; simp
     · show ([0] : List Int).length ≤ _; simp
     · show (allE (q : Int).toNat).length ≤ _; rw [allE_len, Int.toNat_natCast]; omega
   · exact len_bad _
 · unfold noA
   split
   · exact ⟨Nat.zero_le _, Nat.zero_le _, Nat.zero_le _⟩
   · exact len_bad _
section
variable {w W W' : World} {B D1 D2 : Nat} {A C : Array Value} {g1 k1 g2 k2 g3 k3 p1 j1 p2 j2 p3 j3 gw cw : Nat} {St Fi : List Int} {Ed : List EdT} {St' Fi' : List Int} {Ed' : List EdT} {Wd : List Int}
end
end Go.Proofs.YtchoopnjckcohaaGreatDoor
namespace Go.Proofs.YtchoopnjckcohaaGreatDoor
open Go.RowKit
def dirB (ops : Array Oper) (n : Nat) : Bool := (List.range ops.size).all fun j => decide (j < n) || (List.range n).all fun i => match ops[j]? with
 | none => false
 | some o => o.after.any fun e => Region.binds .any e && e.on == i
theorem phasedB_dir {ops : Array Oper} {n : Nat} (h : dirB ops n = true) : phasedB .any ops n = true := by
 unfold dirB at h
 unfold phasedB
 rw [List.all_eq_true] at h ⊢
 intro j hj
 have q := h j hj
 rw [Bool.or_eq_true] at q ⊢
 rcases q with q | q
 · exact .inl q
 · right
   rw [List.all_eq_true] at q ⊢
   intro i hi
   have r := q i hi
   have hs : 0 < ops.size := by have := List.mem_range.1 hj; omega
   obtain ⟨f, hf⟩ : ∃ f, ops.size = f + 1 := ⟨ops.size - 1, by omega⟩
   rw [hf]
   unfold waitsL
   split at r
   · cases r
   · rename_i o ho
     rw [ho]
     simp only
     rw [Array.any_eq_true'] at r ⊢
     obtain ⟨e, he, hb⟩ := r
     rw [Bool.and_eq_true] at hb
     exact ⟨e, he, by rw [hb.1, hb.2]; rfl⟩
theorem stB_dir {ops : Array Oper} {n : Nat} {rs rd : List (List Nat)} (h : (Nat.ble n ops.size && dirB ops n && depsB ops n && lineB .any ops (ops.size - n) n (Array.ofFn (n := ops.size) fun i => decide (i.1 < n)) && retB ops n rs rd) = true) : stB ops n rs rd = true := by
 simp only [Bool.and_eq_true] at h
 unfold stB makeB
 simp only [Bool.and_eq_true]
 exact ⟨⟨⟨⟨h.1.1.1.1, phasedB_dir h.1.1.1.2⟩, h.1.1.2⟩, h.1.2⟩, h.2⟩
theorem zsh {A a : Act} {t : Nat} {v : Value} (h : A.tmps.getD t undef = a.tmps.getD t undef) (e : a.tmps.toList[t]? = some v) : A.tmps.getD t undef = v ∧ A.tmps[t]?.getD undef = v := zsb (h.trans (by rw [Array.getD_eq_getD_getElem?, ← Array.getElem?_toList, e]; rfl))
end Go.Proofs.YtchoopnjckcohaaGreatDoor
