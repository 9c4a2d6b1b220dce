import Derived.Test.YtchoopnjckcohaaGreatDoorQbf
import Derived.Shelf.Slices.Reverse
set_option maxRecDepth 100000
set_option maxHeartbeats 40000000
namespace Go.Proofs.YtchoopnjckcohaaGreatDoor
open Go.RowKit Go.Maps Go.Shelf
attribute [local go_sem] Oper.semAt_some
def allE (s : Nat) : List EdT := (List.range s).map fun (k : Nat) => (0, (k : Int), 0)
theorem allE_len (s : Nat) : (allE s).length = s := by simp [allE]
theorem allE_next (s : Nat) : allE (s + 1) = allE s ++ [(0, (s : Int), 0)] := by simp [allE, List.range_succ]
theorem union_made (w : World) (n m n' m' : Int) (a1 a2 a3 b1 b2 b3 : Option Addr) (c1 c2 c3 d1 d2 d3 : Nat) (Sa Fa Sb Fb : List Int) (Ea Eb : List EdT) (hA : Hid (RdA w a1 a2 a3 Sa Fa Ea)) (hB : Hid (RdA w b1 b2 b3 Sb Fb Eb)) (h1 : Sa.length ≤ 4194304) (h2 : Fa.length ≤ 4194304) (h3 : Ea.length ≤ 4194304) (h4 : Sb.length ≤ 4194304) (h5 : Fb.length ≤ 4194304) (h6 : Eb.length ≤ 4194304) :
 Calls Tryz.prog 25 #[.agg #[.int .i64 n, .int .i64 m, .slice a1 Sa.length c1, .slice a2 Fa.length c2, .slice a3 Ea.length c3], .agg #[.int .i64 n', .int .i64 m', .slice b1 Sb.length d1, .slice b2 Fb.length d2, .slice b3 Eb.length d3]] w (AnsO w (uniAns n m n' m' Sa Fa Ea Sb Fb Eb)) := by
 obtain ⟨W0, hW0⟩ : ∃ W0, ((w.alloc (.cells #[.int .i64 n, .int .i64 m, .slice a1 Sa.length c1, .slice a2 Fa.length c2, .slice a3 Ea.length c3] 25)).alloc (.cells #[.int .i64 n', .int .i64 m', .slice b1 Sb.length d1, .slice b2 Fb.length d2, .slice b3 Eb.length d3] 25)).alloc (.cells #[.int .i64 0, .int .i64 0, .slice none 0 0, .slice none 0 0, .slice none 0 0] 25) = W0 := ⟨_, rfl⟩
 have HD := hide (box3b w #[.int .i64 n, .int .i64 m, .slice a1 Sa.length c1, .slice a2 Fa.length c2, .slice a3 Ea.length c3] #[.int .i64 n', .int .i64 m', .slice b1 Sb.length d1, .slice b2 Fb.length d2, .slice b3 Eb.length d3] #[.int .i64 0, .int .i64 0, .slice none 0 0, .slice none 0 0, .slice none 0 0] 25)
 rw [hW0] at HD
 have TU := union_ans W0 n m n' m' a1 a2 a3 b1 b2 b3 c1 c2 c3 d1 d2 d3 Sa Fa Ea Sb Fb Eb (hide (hA.out.on HD.out.1)) (hide (hB.out.on HD.out.1)) h1 h2 h3 h4 h5 h6
 generalize uniAns n m n' m' Sa Fa Ea Sb Fb Eb = R at TU ⊢
 obtain ⟨rn, rm, rs, rf, re, rr⟩ := R
 obtain ⟨y0, y1, y2, y3, y4⟩ := zd5 HD.out.2.1 rfl rfl rfl rfl rfl
 obtain ⟨x0, x1, x2, x3, x4⟩ := zd5 HD.out.2.2.1 rfl rfl rfl rfl rfl
 go_enter Tryz.func25, Tryz.ntmps25
 go_wp2_with (go_at_call 59; refine TU.mono ?_; rintro e w1 ⟨x1, y1, x2, y2, x3, y3, rfl, O1, D1⟩; have H1 := hide (And.intro O1.out D1); clear O1 D1; have F4 := blk_on HD.out.2.2.2.1 H1.out.2; obtain ⟨o0, o1, o2, o3, o4⟩ := zd5 F4 rfl rfl rfl rfl rfl; have fz0 : w1.frozen? ⟨w.heap.size + 1 + 1, 0, none⟩ = false := fz_of F4; have fz1 : w1.frozen? ⟨w.heap.size + 1 + 1, 1, none⟩ = false := fz_of F4; have fz2 : w1.frozen? ⟨w.heap.size + 1 + 1, 2, none⟩ = false := fz_of F4; have fz3 : w1.frozen? ⟨w.heap.size + 1 + 1, 3, none⟩ = false := fz_of F4; have fz4 : w1.frozen? ⟨w.heap.size + 1 + 1, 4, none⟩ = false := fz_of F4; have O6 := hide (And.intro (set5 w1 (w.heap.size + 1 + 1) _ _ _ _ _ (.int .i64 rn) (.int .i64 rm) (.slice x1 rs.length y1) (.slice x2 rf.length y2) (.slice x3 re.length y3) 25 F4) (only5 w1 (w.heap.size + 1 + 1) (.int .i64 rn) (.int .i64 rm) (.slice x1 rs.length y1) (.slice x2 rf.length y2) (.slice x3 re.length y3))); have HO := hide (H1.out.1.keep F4 O6.out.2); clear F4)
 refine bodyPost_ret (results_c1 (p := 4) (q := 5) (ty := 25) rfl _ _ (w.heap.size + 1 + 1) 25 _ (0, 0) _ _ rfl rfl O6.out.1 Tryz.underlying25 rfl (by kernel_rfl)) rfl ?_
 have s1 := HD.out.2.2.2.2
 have s2 := H1.out.2.size
 exact ⟨x1, y1, x2, y2, x3, y3, rfl, hide (HO.out.down HD.out.1.size), (HD.out.1.trans (H1.out.2.mono HD.out.1.size)).trans (O6.out.2.toBelow (by omega) (fun k hk => by omega))⟩
theorem none_err (w : World) (s : Int) (hs : symOk s = false) : Calls Tryz.prog 24 #[.int .i64 s] w (AnsO w (badA 1)) := by
 obtain ⟨W0, hW0⟩ : ∃ W0, w.alloc (.cells #[.int .i64 0, .int .i64 0, .slice none 0 0, .slice none 0 0, .slice none 0 0] 25) = W0 := ⟨_, rfl⟩
 have HD : Hid (W0.heap[w.heap.size]? = some (.cells #[.int .i64 0, .int .i64 0, .slice none 0 0, .slice none 0 0, .slice none 0 0] 25 (0, 0)) ∧ Below w.heap.size w W0 ∧ W0.heap.size = w.heap.size + 1) := hide (by rw [← hW0]; exact ⟨World.alloc_heap_new _ _, (Below.refl _ _).alloc (Nat.le_refl _) _, by simp⟩)
 have TM := mayBe_any W0 s
 rw [hs] at TM
 clear hs
 have F4 := HD.out.1
 obtain ⟨o0, o1, o2, o3, o4⟩ := zd5 F4 rfl rfl rfl rfl rfl
 have fz0 : W0.frozen? ⟨w.heap.size, 0, none⟩ = false := fz_of F4
 have fz1 : W0.frozen? ⟨w.heap.size, 1, none⟩ = false := fz_of F4
 have fz2 : W0.frozen? ⟨w.heap.size, 2, none⟩ = false := fz_of F4
 have fz3 : W0.frozen? ⟨w.heap.size, 3, none⟩ = false := fz_of F4
 have fz4 : W0.frozen? ⟨w.heap.size, 4, none⟩ = false := fz_of F4
 have O6 := hide (And.intro (set5 W0 (w.heap.size) _ _ _ _ _ (.int .i64 0) (.int .i64 0) (.slice none 0 0) (.slice none 0 0) (.slice none 0 0) 25 F4) (only5 W0 (w.heap.size) (.int .i64 0) (.int .i64 0) (.slice none 0 0) (.slice none 0 0) (.slice none 0 0)))
 clear F4
 go_enter Tryz.func24, Tryz.ntmps24
 go_wp2_with (go_at_call 54; refine TM.mono ?_; rintro e wq ⟨rfl, hq⟩; subst hq)
 refine bodyPost_ret (results_c1 (p := 2) (q := 3) (ty := 25) rfl _ _ (w.heap.size) 25 _ (0, 0) _ _ rfl rfl O6.out.1 Tryz.underlying25 rfl (by kernel_rfl)) rfl ?_
 have s1 := HD.out.2.2
 exact ansO_bad rfl (HD.out.2.1.trans (O6.out.2.toBelow (by omega) (fun k hk => by omega)))
theorem none_good (w : World) (s : Int) (hs : symOk s = true) : Calls Tryz.prog 24 #[.int .i64 s] w (AnsO w ⟨0, s, [], [], [], 0⟩) := by
 obtain ⟨W0, hW0⟩ : ∃ W0, w.alloc (.cells #[.int .i64 0, .int .i64 0, .slice none 0 0, .slice none 0 0, .slice none 0 0] 25) = W0 := ⟨_, rfl⟩
 have HD : Hid (W0.heap[w.heap.size]? = some (.cells #[.int .i64 0, .int .i64 0, .slice none 0 0, .slice none 0 0, .slice none 0 0] 25 (0, 0)) ∧ Below w.heap.size w W0 ∧ W0.heap.size = w.heap.size + 1) := hide (by rw [← hW0]; exact ⟨World.alloc_heap_new _ _, (Below.refl _ _).alloc (Nat.le_refl _) _, by simp⟩)
 have TM := mayBe_any W0 s
 rw [hs] at TM
 clear hs
 have F4 := HD.out.1
 obtain ⟨o0, o1, o2, o3, o4⟩ := zd5 F4 rfl rfl rfl rfl rfl
 have fz0 : W0.frozen? ⟨w.heap.size, 0, none⟩ = false := fz_of F4
 have fz1 : W0.frozen? ⟨w.heap.size, 1, none⟩ = false := fz_of F4
 have fz2 : W0.frozen? ⟨w.heap.size, 2, none⟩ = false := fz_of F4
 have fz3 : W0.frozen? ⟨w.heap.size, 3, none⟩ = false := fz_of F4
 have fz4 : W0.frozen? ⟨w.heap.size, 4, none⟩ = false := fz_of F4
 have O6 := hide (And.intro (set5 W0 (w.heap.size) _ _ _ _ _ (.int .i64 0) (.int .i64 s) (.slice none 0 0) (.slice none 0 0) (.slice none 0 0) 25 F4) (only5 W0 (w.heap.size) (.int .i64 0) (.int .i64 s) (.slice none 0 0) (.slice none 0 0) (.slice none 0 0)))
 clear F4
 go_enter Tryz.func24, Tryz.ntmps24
 go_wp2_with (go_at_call 54; refine TM.mono ?_; rintro e wq ⟨rfl, hq⟩; subst hq)
 refine bodyPost_ret (results_c1 (p := 2) (q := 3) (ty := 25) rfl _ _ (w.heap.size) 25 _ (0, 0) _ _ rfl rfl O6.out.1 Tryz.underlying25 rfl (by kernel_rfl)) rfl ?_
 have s1 := HD.out.2.2
 exact ⟨none, 0, none, 0, none, 0, rfl, hide ⟨⟨rfl, .inl ⟨rfl, rfl⟩⟩, ⟨rfl, .inl ⟨rfl, rfl⟩⟩, ⟨rfl, .inl ⟨rfl, rfl⟩⟩, fun g q => by cases q⟩, HD.out.2.1.trans (O6.out.2.toBelow (by omega) (fun k hk => by omega))⟩
theorem all_err (w : World) (s : Int) (hs : symOk s = false) : Calls Tryz.prog 22 #[.int .i64 s] w (AnsO w (badA 1)) := by
 obtain ⟨W0, hW0⟩ : ∃ W0, w.alloc (.cells #[.int .i64 0, .int .i64 0, .slice none 0 0, .slice none 0 0, .slice none 0 0] 25) = W0 := ⟨_, rfl⟩
 have HD : Hid (W0.heap[w.heap.size]? = some (.cells #[.int .i64 0, .int .i64 0, .slice none 0 0, .slice none 0 0, .slice none 0 0] 25 (0, 0)) ∧ Below w.heap.size w W0 ∧ W0.heap.size = w.heap.size + 1) := hide (by rw [← hW0]; exact ⟨World.alloc_heap_new _ _, (Below.refl _ _).alloc (Nat.le_refl _) _, by simp⟩)
 have TM := mayBe_any W0 s
 rw [hs] at TM
 clear hs
 have F4 := HD.out.1
 obtain ⟨o0, o1, o2, o3, o4⟩ := zd5 F4 rfl rfl rfl rfl rfl
 have fz0 : W0.frozen? ⟨w.heap.size, 0, none⟩ = false := fz_of F4
 have fz1 : W0.frozen? ⟨w.heap.size, 1, none⟩ = false := fz_of F4
 have fz2 : W0.frozen? ⟨w.heap.size, 2, none⟩ = false := fz_of F4
 have fz3 : W0.frozen? ⟨w.heap.size, 3, none⟩ = false := fz_of F4
 have fz4 : W0.frozen? ⟨w.heap.size, 4, none⟩ = false := fz_of F4
 have O6 := hide (And.intro (set5 W0 (w.heap.size) _ _ _ _ _ (.int .i64 0) (.int .i64 0) (.slice none 0 0) (.slice none 0 0) (.slice none 0 0) 25 F4) (only5 W0 (w.heap.size) (.int .i64 0) (.int .i64 0) (.slice none 0 0) (.slice none 0 0) (.slice none 0 0)))
 clear F4
 go_enter Tryz.func22, Tryz.ntmps22
 go_wp2_with (go_at_call 54; refine TM.mono ?_; rintro e wq ⟨rfl, hq⟩; subst hq)
 refine bodyPost_ret (results_c1 (p := 2) (q := 3) (ty := 25) rfl _ _ (w.heap.size) 25 _ (0, 0) _ _ rfl rfl O6.out.1 Tryz.underlying25 rfl (by kernel_rfl)) rfl ?_
 have s1 := HD.out.2.2
 exact ansO_bad rfl (HD.out.2.1.trans (O6.out.2.toBelow (by omega) (fun k hk => by omega)))
theorem all_good (w : World) (s : Nat) (hs : s ≤ 128) : Calls Tryz.prog 22 #[.int .i64 (s : Int)] w (AnsO w ⟨1, (s : Int), [0], [0], allE s, 0⟩) := by
 obtain ⟨W0, hW0⟩ : ∃ W0, w.alloc (.cells #[.int .i64 0, .int .i64 0, .slice none 0 0, .slice none 0 0, .slice none 0 0] 25) = W0 := ⟨_, rfl⟩
 have HD : Hid (W0.heap[w.heap.size]? = some (.cells #[.int .i64 0, .int .i64 0, .slice none 0 0, .slice none 0 0, .slice none 0 0] 25 (0, 0)) ∧ Below w.heap.size w W0 ∧ W0.heap.size = w.heap.size + 1) := hide (by rw [← hW0]; exact ⟨World.alloc_heap_new _ _, (Below.refl _ _).alloc (Nat.le_refl _) _, by simp⟩)
 have TM := mayBe_any W0 (s : Int)
 rw [show symOk (s : Int) = true by simp [symOk]; omega] at TM
 go_enter Tryz.func22, Tryz.ntmps22
 go_upto_region 4 with (go_at_call 54; refine TM.mono ?_; rintro e wq ⟨rfl, hq⟩; subst hq)
 clear TM hW0
 obtain ⟨W1, hW1⟩ : ∃ W, ((wq.alloc (.cells #[.int .i64 0] 3)).alloc (.cells #[.int .i64 0] 3)).alloc (.cells #[.int .i64 1, .int .i64 (s : Int), .slice (some ⟨wq.heap.size, 0, none⟩) 1 1, .slice (some ⟨wq.heap.size + 1, 0, none⟩) 1 1, .slice none 0 0] 25) = W := ⟨_, rfl⟩
 rw [hW1]
 have HA : Hid (MvA wq W1 (wq.heap.size + 1 + 1) 1 (s : Int) (.slice (some ⟨wq.heap.size, 0, none⟩) 1 1) (.slice (some ⟨wq.heap.size + 1, 0, none⟩) 1 1) (.slice none 0 0) [0] [0] []) := hide (by
  have hb := box33 wq #[.int .i64 0] #[.int .i64 0] #[.int .i64 1, .int .i64 (s : Int), .slice (some ⟨wq.heap.size, 0, none⟩) 1 1, .slice (some ⟨wq.heap.size + 1, 0, none⟩) 1 1, .slice none 0 0] 3 3 25
  rw [hW1] at hb
  exact ⟨hb.2.2.2.1, by omega, ⟨own_one hb.2.1 (by omega), own_one hb.2.2.1 (by omega), World.ownsRow_nil W1 wq.heap.size _ _, fun x hx hy => by
   simp only [Value.ownBlock, Option.some.injEq] at hx hy
   omega⟩, hb.1⟩)
 obtain ⟨g, hg⟩ : ∃ g, wq.heap.size = g := ⟨_, rfl⟩
 clear hW1
 rw [hg] at HA ⊢
 clear hg
 go_wp2_with fail
 go_loopw [15] (fun iv wr => ∃ i : Nat, i ≤ s ∧ iv = .int .i64 (i : Int) ∧ ∃ b3 k3, Hid (MvA wq wr (g + 1 + 1) 1 (s : Int) (.slice (some ⟨g, 0, none⟩) 1 1) (.slice (some ⟨g + 1, 0, none⟩) 1 1) (.slice b3 i k3) [0] [0] (allE i))) (fun iv _ => s - (intOf iv).toNat)
 case atStart => exact ⟨0, Nat.zero_le _, rfl, none, 0, HA⟩
 case round =>
  obtain ⟨i, hi, rfl, b3, k3, HY⟩ := hrel
  clear HA
  by_cases hil : i < s
  · have i0 : (0 : Int) ≤ (i : Int) := by omega
    have i1 : (i : Int) < (s : Int) := by omega
    have HT := hide (allE_next i)
    have HTl : Hid ((allE i).length = i) := hide (allE_len i)
    have HS0 := hide HY.out.be.size
    have z4 : wr.cell? ⟨g + 1 + 1, 4, none⟩ = some (.slice b3 i k3) := cell_of HY.out.bx rfl
    go_wp2_with (at_builtin; refine wpList_appG rfl _ _ rfl wq.heap.size (.slice b3 i k3) (allE i) rfl (own_below HY.out.ow.e ((Below.refl _ _).alloc (Nat.le_refl _) _)) wr.heap.size (0, (i : Int), 0) rfl (World.alloc_heap_new _ _) (by have := HTl.out; omega) (by have := HS0.out; rw [World.size_alloc]; omega) ?_; intro v5 w5 HO5 HG5; obtain ⟨z5, d5, e5⟩ := own_slice HO5.out; have E5 : v5 = .slice z5 (i + 1) d5 := (by rw [e5, List.length_append, HTl.out]; rfl); clear e5; subst E5; have HQ := hide (mvA_put HY.out ((Below.refl _ _).alloc (Nat.le_refl _) _) HO5.out HG5.out); have c5 : w5.cell? ⟨g + 1 + 1, 4, none⟩ = some (.slice b3 i k3) := cell_of HQ.out.1 rfl; have f5 : w5.frozen? ⟨g + 1 + 1, 4, none⟩ = false := fz_of HQ.out.1)
    refine ⟨⟨i + 1, by omega, by go_num, z5, d5, hide (by rw [HT.out]; exact HQ.out.2)⟩, by simp [intOf]; omega⟩
  · obtain rfl : s = i := by omega
    have i1 : ¬ (s : Int) < (s : Int) := by omega
    have F3 := blk_on HD.out.1 HY.out.be
    have F4 := HY.out.bx
    obtain ⟨o0, o1, o2, o3, o4⟩ := zd5 F3 rfl rfl rfl rfl rfl
    have fz0 : wr.frozen? ⟨w.heap.size, 0, none⟩ = false := fz_of F3
    have fz1 : wr.frozen? ⟨w.heap.size, 1, none⟩ = false := fz_of F3
    have fz2 : wr.frozen? ⟨w.heap.size, 2, none⟩ = false := fz_of F3
    have fz3 : wr.frozen? ⟨w.heap.size, 3, none⟩ = false := fz_of F3
    have fz4 : wr.frozen? ⟨w.heap.size, 4, none⟩ = false := fz_of F3
    obtain ⟨v0, v1, v2, v3, v4⟩ := zd5 F4 rfl rfl rfl rfl rfl
    have O6 := hide (And.intro (set5 wr (w.heap.size) _ _ _ _ _ (.int .i64 1) (.int .i64 (s : Int)) (.slice (some ⟨g, 0, none⟩) 1 1) (.slice (some ⟨g + 1, 0, none⟩) 1 1) (.slice b3 s k3) 25 F3) (only5 wr (w.heap.size) (.int .i64 1) (.int .i64 (s : Int)) (.slice (some ⟨g, 0, none⟩) 1 1) (.slice (some ⟨g + 1, 0, none⟩) 1 1) (.slice b3 s k3)))
    have HO2 := hide (HY.out.ow.keep F3 O6.out.2)
    have HEn := hide (allE_len s)
    clear F3 F4
    go_wp2_with fail
    refine bodyPost_ret (results_c1 (p := 2) (q := 3) (ty := 25) rfl _ _ (w.heap.size) 25 _ (0, 0) _ _ rfl rfl O6.out.1 Tryz.underlying25 rfl (by kernel_rfl)) rfl ?_
    have s1 := HD.out.2.2
    have s2 := HY.out.be.size
    refine ⟨some ⟨g, 0, none⟩, 1, some ⟨g + 1, 0, none⟩, 1, b3, k3, ?_, hide ?_, ?_⟩
    · rw [HEn.out]; rfl
    · have q := HO2.out.down (show w.heap.size ≤ wq.heap.size by omega)
      rw [HEn.out]
      exact q
    · exact (HD.out.2.1.trans (HY.out.be.mono (by omega))).trans (O6.out.2.toBelow (by omega) (fun k hk => by omega))
theorem one_word (w : World) (ao : Option Addr) (c : Nat) (L : List Int) (s : Int) (hr : Hid (RdN w ao L)) (hl : L.length ≤ 4194304) (hb : L.any (badS s) = true) :
 Calls Tryz.prog 20 #[.slice ao L.length c, .int .i64 s] w (AnsO w (badA 7)) := by
 obtain ⟨W0, hW0⟩ : ∃ W0, (w.alloc (.cells #[.int .i64 s] 3)).alloc (.cells #[.int .i64 0, .int .i64 0, .slice none 0 0, .slice none 0 0, .slice none 0 0] 25) = W0 := ⟨_, rfl⟩
 have HD : Hid (Below w.heap.size w W0 ∧ W0.heap[w.heap.size]? = some (.cells #[.int .i64 s] 3 (0, 0)) ∧ W0.heap[w.heap.size + 1]? = some (.cells #[.int .i64 0, .int .i64 0, .slice none 0 0, .slice none 0 0, .slice none 0 0] 25 (0, 0)) ∧ W0.heap.size = w.heap.size + 2) := hide (by
  have k1 := (Below.refl w.heap.size w).alloc (Nat.le_refl _) (.cells #[.int .i64 s] 3)
  have z1 := World.alloc_heap_new w (.cells #[.int .i64 s] 3)
  have s1 : (w.alloc (.cells #[.int .i64 s] 3)).heap.size = w.heap.size + 1 := by simp
  generalize w.alloc (.cells #[.int .i64 s] 3) = X at k1 z1 s1 hW0
  have k2 := (Below.refl X.heap.size X).alloc (Nat.le_refl _) (.cells #[.int .i64 0, .int .i64 0, .slice none 0 0, .slice none 0 0, .slice none 0 0] 25)
  have z2 := World.alloc_heap_new X (.cells #[.int .i64 0, .int .i64 0, .slice none 0 0, .slice none 0 0, .slice none 0 0] 25)
  rw [hW0] at k2 z2
  rw [s1] at z2
  exact ⟨k1.trans (k2.mono k1.size), blk_on z1 k2, z2, by rw [← hW0, World.size_alloc, s1]⟩)
 have y0 : W0.cell? ⟨w.heap.size, 0, none⟩ = some (.int .i64 s) := cell_of HD.out.2.1 rfl
 have TC := cont53 W0 ao c L w.heap.size s (hide y0) (hide (hr.out.on HD.out.1)) hl
 rw [hb] at TC
 clear hb
 obtain ⟨n, hn⟩ : ∃ n, L.length = n := ⟨_, rfl⟩
 rw [hn] at TC ⊢
 clear hn
 go_enter Tryz.func20, Tryz.ntmps20
 go_upto_region 2 with (go_at_call 52; refine TC.mono ?_; rintro e w2 ⟨rfl, D2⟩; have H2 := hide D2; clear D2; have yq : w2.cell? ⟨w.heap.size, 0, none⟩ = some (.int .i64 s) := cell_of (blk_on HD.out.2.1 H2.out) rfl)
 have F4 := blk_on HD.out.2.2.1 H2.out
 obtain ⟨o0, o1, o2, o3, o4⟩ := zd5 F4 rfl rfl rfl rfl rfl
 have fz0 : w2.frozen? ⟨w.heap.size + 1, 0, none⟩ = false := fz_of F4
 have fz1 : w2.frozen? ⟨w.heap.size + 1, 1, none⟩ = false := fz_of F4
 have fz2 : w2.frozen? ⟨w.heap.size + 1, 2, none⟩ = false := fz_of F4
 have fz3 : w2.frozen? ⟨w.heap.size + 1, 3, none⟩ = false := fz_of F4
 have fz4 : w2.frozen? ⟨w.heap.size + 1, 4, none⟩ = false := fz_of F4
 have O6 := hide (And.intro (set5 w2 (w.heap.size + 1) _ _ _ _ _ (.int .i64 0) (.int .i64 0) (.slice none 0 0) (.slice none 0 0) (.slice none 0 0) 25 F4) (only5 w2 (w.heap.size + 1) (.int .i64 0) (.int .i64 0) (.slice none 0 0) (.slice none 0 0) (.slice none 0 0)))
 clear F4
 go_wp2_with fail
 refine bodyPost_ret (results_c1 (p := 4) (q := 5) (ty := 25) rfl _ _ (w.heap.size + 1) 25 _ (0, 0) _ _ rfl rfl O6.out.1 Tryz.underlying25 rfl (by kernel_rfl)) rfl ?_
 have s1 := HD.out.2.2.2
 have s2 := H2.out.size
 exact ansO_bad rfl ((HD.out.1.trans (H2.out.mono HD.out.1.size)).trans (O6.out.2.toBelow (by omega) (fun k hk => by omega)))
theorem one_syms (w : World) (ao : Option Addr) (c : Nat) (L : List Int) (s : Int) (hr : Hid (RdN w ao L)) (hl : L.length ≤ 4194304) (hb : L.any (badS s) = false) (h2 : symOk s = false) :
 Calls Tryz.prog 20 #[.slice ao L.length c, .int .i64 s] w (AnsO w (badA 1)) := by
 obtain ⟨W0, hW0⟩ : ∃ W0, (w.alloc (.cells #[.int .i64 s] 3)).alloc (.cells #[.int .i64 0, .int .i64 0, .slice none 0 0, .slice none 0 0, .slice none 0 0] 25) = W0 := ⟨_, rfl⟩
 have HD : Hid (Below w.heap.size w W0 ∧ W0.heap[w.heap.size]? = some (.cells #[.int .i64 s] 3 (0, 0)) ∧ W0.heap[w.heap.size + 1]? = some (.cells #[.int .i64 0, .int .i64 0, .slice none 0 0, .slice none 0 0, .slice none 0 0] 25 (0, 0)) ∧ W0.heap.size = w.heap.size + 2) := hide (by
  have k1 := (Below.refl w.heap.size w).alloc (Nat.le_refl _) (.cells #[.int .i64 s] 3)
  have z1 := World.alloc_heap_new w (.cells #[.int .i64 s] 3)
  have s1 : (w.alloc (.cells #[.int .i64 s] 3)).heap.size = w.heap.size + 1 := by simp
  generalize w.alloc (.cells #[.int .i64 s] 3) = X at k1 z1 s1 hW0
  have k2 := (Below.refl X.heap.size X).alloc (Nat.le_refl _) (.cells #[.int .i64 0, .int .i64 0, .slice none 0 0, .slice none 0 0, .slice none 0 0] 25)
  have z2 := World.alloc_heap_new X (.cells #[.int .i64 0, .int .i64 0, .slice none 0 0, .slice none 0 0, .slice none 0 0] 25)
  rw [hW0] at k2 z2
  rw [s1] at z2
  exact ⟨k1.trans (k2.mono k1.size), blk_on z1 k2, z2, by rw [← hW0, World.size_alloc, s1]⟩)
 have y0 : W0.cell? ⟨w.heap.size, 0, none⟩ = some (.int .i64 s) := cell_of HD.out.2.1 rfl
 have TC := cont53 W0 ao c L w.heap.size s (hide y0) (hide (hr.out.on HD.out.1)) hl
 rw [hb] at TC
 have HM : Hid (∀ W, Calls Tryz.prog 54 #[.int .i64 s] W fun e w' => e = .returned (.bool false) ∧ w' = W) := hide (fun W => by have q := mayBe_any W s; rwa [h2] at q)
 clear hb h2
 obtain ⟨n, hn⟩ : ∃ n, L.length = n := ⟨_, rfl⟩
 rw [hn] at TC ⊢
 clear hn
 go_enter Tryz.func20, Tryz.ntmps20
 go_upto_region 4 with (first | (go_at_call 52; refine TC.mono ?_; rintro e w2 ⟨rfl, D2⟩; have H2 := hide D2; clear D2; have yq : w2.cell? ⟨w.heap.size, 0, none⟩ = some (.int .i64 s) := cell_of (blk_on HD.out.2.1 H2.out) rfl) | (go_at_call 54; refine (HM.out w2).mono ?_; rintro e wq ⟨rfl, hq⟩; subst hq))
 have F4 := blk_on HD.out.2.2.1 H2.out
 obtain ⟨o0, o1, o2, o3, o4⟩ := zd5 F4 rfl rfl rfl rfl rfl
 have fz0 : wq.frozen? ⟨w.heap.size + 1, 0, none⟩ = false := fz_of F4
 have fz1 : wq.frozen? ⟨w.heap.size + 1, 1, none⟩ = false := fz_of F4
 have fz2 : wq.frozen? ⟨w.heap.size + 1, 2, none⟩ = false := fz_of F4
 have fz3 : wq.frozen? ⟨w.heap.size + 1, 3, none⟩ = false := fz_of F4
 have fz4 : wq.frozen? ⟨w.heap.size + 1, 4, none⟩ = false := fz_of F4
 have O6 := hide (And.intro (set5 wq (w.heap.size + 1) _ _ _ _ _ (.int .i64 0) (.int .i64 0) (.slice none 0 0) (.slice none 0 0) (.slice none 0 0) 25 F4) (only5 wq (w.heap.size + 1) (.int .i64 0) (.int .i64 0) (.slice none 0 0) (.slice none 0 0) (.slice none 0 0)))
 clear F4
 go_wp2_with fail
 refine bodyPost_ret (results_c1 (p := 4) (q := 5) (ty := 25) rfl _ _ (w.heap.size + 1) 25 _ (0, 0) _ _ rfl rfl O6.out.1 Tryz.underlying25 rfl (by kernel_rfl)) rfl ?_
 have s1 := HD.out.2.2.2
 have s2 := H2.out.size
 exact ansO_bad rfl ((HD.out.1.trans (H2.out.mono HD.out.1.size)).trans (O6.out.2.toBelow (by omega) (fun k hk => by omega)))
theorem one_size (w : World) (ao : Option Addr) (c : Nat) (L : List Int) (s : Int) (hr : Hid (RdN w ao L)) (hl : L.length ≤ 4194304) (hb : L.any (badS s) = false) (h2 : symOk s = true) (h3 : 4096 ≤ L.length) :
 Calls Tryz.prog 20 #[.slice ao L.length c, .int .i64 s] w (AnsO w (badA 8)) := by
 obtain ⟨W0, hW0⟩ : ∃ W0, (w.alloc (.cells #[.int .i64 s] 3)).alloc (.cells #[.int .i64 0, .int .i64 0, .slice none 0 0, .slice none 0 0, .slice none 0 0] 25) = W0 := ⟨_, rfl⟩
 have HD : Hid (Below w.heap.size w W0 ∧ W0.heap[w.heap.size]? = some (.cells #[.int .i64 s] 3 (0, 0)) ∧ W0.heap[w.heap.size + 1]? = some (.cells #[.int .i64 0, .int .i64 0, .slice none 0 0, .slice none 0 0, .slice none 0 0] 25 (0, 0)) ∧ W0.heap.size = w.heap.size + 2) := hide (by
  have k1 := (Below.refl w.heap.size w).alloc (Nat.le_refl _) (.cells #[.int .i64 s] 3)
  have z1 := World.alloc_heap_new w (.cells #[.int .i64 s] 3)
  have s1 : (w.alloc (.cells #[.int .i64 s] 3)).heap.size = w.heap.size + 1 := by simp
  generalize w.alloc (.cells #[.int .i64 s] 3) = X at k1 z1 s1 hW0
  have k2 := (Below.refl X.heap.size X).alloc (Nat.le_refl _) (.cells #[.int .i64 0, .int .i64 0, .slice none 0 0, .slice none 0 0, .slice none 0 0] 25)
  have z2 := World.alloc_heap_new X (.cells #[.int .i64 0, .int .i64 0, .slice none 0 0, .slice none 0 0, .slice none 0 0] 25)
  rw [hW0] at k2 z2
  rw [s1] at z2
  exact ⟨k1.trans (k2.mono k1.size), blk_on z1 k2, z2, by rw [← hW0, World.size_alloc, s1]⟩)
 have y0 : W0.cell? ⟨w.heap.size, 0, none⟩ = some (.int .i64 s) := cell_of HD.out.2.1 rfl
 have TC := cont53 W0 ao c L w.heap.size s (hide y0) (hide (hr.out.on HD.out.1)) hl
 rw [hb] at TC
 have HM : Hid (∀ W, Calls Tryz.prog 54 #[.int .i64 s] W fun e w' => e = .returned (.bool true) ∧ w' = W) := hide (fun W => by have q := mayBe_any W s; rwa [h2] at q)
 clear hb h2
 obtain ⟨n, hn⟩ : ∃ n, L.length = n := ⟨_, rfl⟩
 rw [hn] at TC ⊢
 rw [hn] at h3
 clear hn
 have jn : (4096 : Int) ≤ (n : Int) := by omega
 go_enter Tryz.func20, Tryz.ntmps20
 go_upto_region 6 with (first | (go_at_call 52; refine TC.mono ?_; rintro e w2 ⟨rfl, D2⟩; have H2 := hide D2; clear D2; have yq : w2.cell? ⟨w.heap.size, 0, none⟩ = some (.int .i64 s) := cell_of (blk_on HD.out.2.1 H2.out) rfl) | (go_at_call 54; refine (HM.out w2).mono ?_; rintro e wq ⟨rfl, hq⟩; subst hq))
 have F4 := blk_on HD.out.2.2.1 H2.out
 obtain ⟨o0, o1, o2, o3, o4⟩ := zd5 F4 rfl rfl rfl rfl rfl
 have fz0 : wq.frozen? ⟨w.heap.size + 1, 0, none⟩ = false := fz_of F4
 have fz1 : wq.frozen? ⟨w.heap.size + 1, 1, none⟩ = false := fz_of F4
 have fz2 : wq.frozen? ⟨w.heap.size + 1, 2, none⟩ = false := fz_of F4
 have fz3 : wq.frozen? ⟨w.heap.size + 1, 3, none⟩ = false := fz_of F4
 have fz4 : wq.frozen? ⟨w.heap.size + 1, 4, none⟩ = false := fz_of F4
 have O6 := hide (And.intro (set5 wq (w.heap.size + 1) _ _ _ _ _ (.int .i64 0) (.int .i64 0) (.slice none 0 0) (.slice none 0 0) (.slice none 0 0) 25 F4) (only5 wq (w.heap.size + 1) (.int .i64 0) (.int .i64 0) (.slice none 0 0) (.slice none 0 0) (.slice none 0 0)))
 clear F4
 go_wp2_with fail
 refine bodyPost_ret (results_c1 (p := 4) (q := 5) (ty := 25) rfl _ _ (w.heap.size + 1) 25 _ (0, 0) _ _ rfl rfl O6.out.1 Tryz.underlying25 rfl (by kernel_rfl)) rfl ?_
 have s1 := HD.out.2.2.2
 have s2 := H2.out.size
 exact ansO_bad rfl ((HD.out.1.trans (H2.out.mono HD.out.1.size)).trans (O6.out.2.toBelow (by omega) (fun k hk => by omega)))
end Go.Proofs.YtchoopnjckcohaaGreatDoor
namespace Go.Proofs
open Go.Shelf Go.RowKit Go.Lib Go.Sort
end Go.Proofs
namespace Go.Proofs.YtchoopnjckcohaaGreatDoor
open Go.RowKit Go.Maps Go.Sort Go.Proofs
theorem reverse_own (W : World) (B n : Nat) (v : Value) (L : List Int) (hn : n = L.length) (hv : W.ownsRow B 3 1 v n (L.map (Value.int .i64))) (hl : n ≤ 4194304) :
 Calls Tryz.prog 63 #[v] W fun e w' => e = .returned (.tuple #[]) ∧ w'.ownsRow B 3 1 v n (L.reverse.map (Value.int .i64)) ∧ W.grownBy w' v.ownBlock := by
 rcases hv.2 with ⟨ev, e0⟩ | ⟨g, cap, cur, rfl, hB, hb, h1, h2, h3, h4⟩
 · subst ev e0
   obtain rfl : L = [] := List.eq_nil_of_length_eq_zero hn.symm
   refine (Any.slices_Reverse_int_empty Tryz.lays112 none 0 W).mono ?_
   rintro e w' ⟨rfl, rfl⟩
   exact ⟨rfl, hv, rfl, rfl, rfl, Nat.le_refl _, fun _ _ _ => rfl⟩
 · subst hn
   rw [Nat.mul_one] at h4
   refine (Any.slices_Reverse_int Tryz.lays112 g 0 cap L W (holds_of_blockI hb h4) (by omega)).mono ?_
   rintro e w' ⟨rfl, k, rfl⟩
   rw [← grow_empty (putRow _ _ _ _ _)]
   exact ⟨rfl, ownsRow_sortedI (ts := L.reverse) (ss := L) (List.length_reverse) hB hb h1 h2 h3, grownBy_sortedI _⟩
end Go.Proofs.YtchoopnjckcohaaGreatDoor
namespace Go.Proofs.YtchoopnjckcohaaGreatDoor
open Go.RowKit Go.Maps Go.Shelf
attribute [local go_sem] Oper.semAt_some
theorem right_good (w : World) (n m : Int) (a1 a2 a3 : Option Addr) (c1 c2 c3 : Nat) (St Fi : List Int) (Ed : List EdT) (hA : Hid (RdA w a1 a2 a3 St Fi Ed)) (h1 : St.length ≤ 4194304) (h2 : Fi.length ≤ 4194304) (h3 : Ed.length ≤ 4194304) (aw : Option Addr) (cw : Nat) (Wd : List Int) (hU : Hid (RdN w aw Wd)) (hw : Wd.length ≤ 4194304) (hT : Hid (TabAt w ∧ 0 < w.heap.size)) (e0 : wordErr n m St Fi Ed Wd = 0) :
 Calls Tryz.prog 29 #[.agg #[.int .i64 n, .int .i64 m, .slice a1 St.length c1, .slice a2 Fi.length c2, .slice a3 Ed.length c3], .slice aw Wd.length cw] w (AnsO w ⟨n, m, riseL St, aftL (riseE (turnE Ed)) (riseL (riseL Fi)) Wd.reverse, riseE Ed, 0⟩) := by
 obtain ⟨W0, hW0⟩ : ∃ W0, (w.alloc (.cells #[.int .i64 n, .int .i64 m, .slice a1 St.length c1, .slice a2 Fi.length c2, .slice a3 Ed.length c3] 25)).alloc (.cells #[.int .i64 0, .int .i64 0, .slice none 0 0, .slice none 0 0, .slice none 0 0] 25) = W0 := ⟨_, rfl⟩
 have HD := hide (box2 w #[.int .i64 n, .int .i64 m, .slice a1 St.length c1, .slice a2 Fi.length c2, .slice a3 Ed.length c3] #[.int .i64 0, .int .i64 0, .slice none 0 0, .slice none 0 0, .slice none 0 0] 25)
 rw [hW0] at HD
 obtain ⟨cy0, cy1, cy2, cy3, cy4⟩ := zd5 HD.out.2.1 rfl rfl rfl rfl rfl
 have em := (wordErr_zero e0).1
 have HT0 : ∀ W, Below w.heap.size w W → TabAt W ∧ 0 < W.heap.size := fun W d => ⟨hT.out.1.below d hT.out.2, Nat.lt_of_lt_of_le hT.out.2 d.size⟩
 have HTT := hide HT0
 clear HT0
 have e1 : wordErr n m (riseL Fi) (riseL St) (riseE (turnE Ed)) Wd.reverse = 0 := wordErr_iff.2 ⟨may_turn em, by rw [List.all_reverse]; exact (wordErr_zero e0).2⟩
 have E1' := hide e1
 obtain ⟨LX, hLX⟩ : ∃ L, aftL (riseE (turnE Ed)) (riseL (riseL Fi)) Wd.reverse = L := ⟨_, rfl⟩
 rw [hLX]
 have HLX := hide hLX
 have TE : Hid (∀ W av cv B, Below w.heap.size w W → B ≤ W.heap.size → W.ownsRow B 3 1 (.slice av LX.length cv) LX.length (LX.map (Value.int .i64)) → Calls Tryz.prog 38 #[.agg #[.int .i64 n, .int .i64 m, .slice a1 St.length c1, .slice a2 Fi.length c2, .slice a3 Ed.length c3], .slice av LX.length cv, .int .i64 0] W fun e w' => ∃ x1 y1 x2 y2 x3 y3, e = .returned (.tuple #[.agg #[.int .i64 n, .int .i64 m, .slice x1 (riseL St).length y1, .slice x2 LX.length y2, .slice x3 (riseE Ed).length y3], .int .i64 0]) ∧ Hid (OwnO B w' (.slice x1 (riseL St).length y1) (.slice x2 LX.length y2) (.slice x3 (riseE Ed).length y3) (riseL St) LX (riseE Ed) ∧ Below W.heap.size W w')) := hide (fun W av cv B d hB ho => ending_own W n m a1 a2 a3 c1 c2 c3 St Fi Ed (hide (hA.out.on d)) h1 h2 h3 em av LX cv B hB (hide ho))
 clear hLX e0 e1
 generalize riseE Ed = E2 at TE ⊢
 have TR : Calls Tryz.prog 61 #[.agg #[.int .i64 n, .int .i64 m, .slice a1 St.length c1, .slice a2 Fi.length c2, .slice a3 Ed.length c3]] W0 (AnsO W0 ⟨n, m, riseL Fi, riseL St, riseE (turnE Ed), 0⟩) := by
  have q := reverse_ans W0 n m a1 a2 a3 c1 c2 c3 St Fi Ed (hide (hA.out.on HD.out.1)) h1 h2 h3
  rwa [show revAns n m St Fi Ed = ⟨n, m, riseL Fi, riseL St, riseE (turnE Ed), 0⟩ from if_pos em] at q
 have HLn : Hid ((riseL Fi).length ≤ 4194304 ∧ (riseL St).length ≤ 4194304 ∧ (riseE (turnE Ed)).length ≤ 4194304) := hide ⟨Nat.le_trans (riseL_len Fi) h2, Nat.le_trans (riseL_len St) h1, Nat.le_trans (riseE_len _) (by rw [show (turnE Ed).length = Ed.length by simp [turnE]]; exact h3)⟩
 clear em
 generalize riseL Fi = F1 at *
 generalize riseL St = S1 at *
 generalize riseE (turnE Ed) = E1 at *
 obtain ⟨nw, hnw⟩ : ∃ k, Wd.length = k := ⟨_, rfl⟩
 rw [hnw] at hw ⊢
 have HNW := hide hnw
 clear hnw
 go_enter Tryz.func29, Tryz.ntmps29
 go_upto_region 4 with (go_at_call 61; refine TR.mono ?_; rintro e w1 ⟨x1, y1, x2, y2, x3, y3, rfl, O1, D1⟩; have H1 := hide (And.intro O1.out D1); clear O1 D1)
 clear TR cy0 cy1 cy2 cy3 cy4
 obtain ⟨W1, hW1⟩ : ∃ W, w1.alloc (.cells #[.int .i64 n, .int .i64 m, .slice x1 F1.length y1, .slice x2 S1.length y2, .slice x3 E1.length y3] 25) = W := ⟨_, rfl⟩
 have HW : Hid (W1.heap[w1.heap.size]? = some (.cells #[.int .i64 n, .int .i64 m, .slice x1 F1.length y1, .slice x2 S1.length y2, .slice x3 E1.length y3] 25 (0, 0)) ∧ RdA W1 x1 x2 x3 F1 S1 E1 ∧ Below W0.heap.size W0 W1) := hide (by
  have k : Below w1.heap.size w1 W1 := by rw [← hW1]; exact (Below.refl _ _).alloc (Nat.le_refl _) _
  have z := World.alloc_heap_new w1 (.cells #[.int .i64 n, .int .i64 m, .slice x1 F1.length y1, .slice x2 S1.length y2, .slice x3 E1.length y3] 25)
  rw [hW1] at z
  exact ⟨z, (OwnO.rd H1.out.1).on k, H1.out.2.trans (k.mono H1.out.2.size)⟩)
 rw [hW1]
 clear hW1 H1
 have DW : Hid (Below w.heap.size w W1) := hide (HD.out.1.trans (HW.out.2.2.mono HD.out.1.size))
 have TC := clone_own W1 aw nw cw Wd HNW.out (hide (hU.out.on DW.out)) (by omega)
 go_upto_region 5 with (go_at_call 62; refine TC.mono ?_; rintro e w2 ⟨v2, rfl, H2⟩)
 clear TC
 have TV := reverse_own w2 W1.heap.size nw v2 Wd HNW.out.symm H2.out.1 (by omega)
 obtain ⟨z2, u2, rfl⟩ := own_slice H2.out.1
 go_upto_region 6 with (go_at_call 63; refine TV.mono ?_; rintro e w3 ⟨rfl, O3, G3⟩; have H3 : Hid (w3.ownsRow W1.heap.size 3 1 (.slice z2 nw u2) nw (Wd.reverse.map (Value.int .i64)) ∧ Below W1.heap.size W1 w3) := hide ⟨O3, H2.out.2.trans ((grown_only G3).toBelow H2.out.2.size (fun k hk => (H2.out.1.lt k hk).1))⟩; clear O3 G3)
 clear TV H2
 have HRW : Hid (RdN w3 z2 Wd.reverse) := hide (own_rdN (by have q := H3.out.1; rw [← HNW.out, ← List.length_reverse] at q; exact q))
 have hrl : Wd.reverse.length = nw := by rw [List.length_reverse]; exact HNW.out
 obtain ⟨r0, r1, r2, r3, r4⟩ := zd5 (blk_on HW.out.1 H3.out.2) rfl rfl rfl rfl rfl
 have TA := after_lans w3 n m x1 x2 x3 z2 y1 y2 y3 u2 F1 S1 E1 Wd.reverse (hide (HW.out.2.1.on H3.out.2)) HRW (hide (HTT.out w3 (DW.out.trans (H3.out.2.mono DW.out.size)))) HLn.out.1 HLn.out.2.1 HLn.out.2.2 (by omega) E1'.out
 rw [HLX.out, hrl] at TA
 go_upto_region 7 with (go_at_call 51; refine TA.mono ?_; rintro e w4 ⟨av, cv, rfl, O4, D4⟩; have H4 := hide (And.intro O4.out D4); clear O4 D4)
 clear TA r0 r1 r2 r3 r4
 have D4 : Hid (Below W0.heap.size W0 w4) := hide (by
  have q := HW.out.2.2.trans (H3.out.2.mono HW.out.2.2.size)
  exact q.trans (H4.out.2.mono q.size))
 have D4w : Hid (Below w.heap.size w w4) := hide (HD.out.1.trans (D4.out.mono HD.out.1.size))
 obtain ⟨cy0, cy1, cy2, cy3, cy4⟩ := zd5 (blk_on HD.out.2.1 D4.out) rfl rfl rfl rfl rfl
 go_wp2_with (go_at_call 38; refine (TE.out w4 av cv w3.heap.size D4w.out H4.out.2.size H4.out.1).mono ?_; rintro e w5 ⟨X1, Y1, X2, Y2, X3, Y3, rfl, H5⟩; have F4 := blk_on (blk_on HD.out.2.2.1 D4.out) H5.out.2; obtain ⟨o0, o1, o2, o3, o4⟩ := zd5 F4 rfl rfl rfl rfl rfl; have fz0 : w5.frozen? ⟨w.heap.size + 1, 0, none⟩ = false := fz_of F4; have fz1 : w5.frozen? ⟨w.heap.size + 1, 1, none⟩ = false := fz_of F4; have fz2 : w5.frozen? ⟨w.heap.size + 1, 2, none⟩ = false := fz_of F4; have fz3 : w5.frozen? ⟨w.heap.size + 1, 3, none⟩ = false := fz_of F4; have fz4 : w5.frozen? ⟨w.heap.size + 1, 4, none⟩ = false := fz_of F4; have O6 := hide (And.intro (set5 w5 (w.heap.size + 1) _ _ _ _ _ (.int .i64 n) (.int .i64 m) (.slice X1 S1.length Y1) (.slice X2 LX.length Y2) (.slice X3 E2.length Y3) 25 F4) (only5 w5 (w.heap.size + 1) (.int .i64 n) (.int .i64 m) (.slice X1 S1.length Y1) (.slice X2 LX.length Y2) (.slice X3 E2.length Y3))); have HO := hide (H5.out.1.keep F4 O6.out.2); clear F4)
 refine bodyPost_ret (results_c1 (p := 4) (q := 5) (ty := 25) rfl _ _ (w.heap.size + 1) 25 _ (0, 0) _ _ rfl rfl O6.out.1 Tryz.underlying25 rfl (by kernel_rfl)) rfl ?_
 have s1 := HD.out.2.2.2
 have d5 := D4w.out.trans (H5.out.2.mono D4w.out.size)
 have s4 := D4w.out.size
 have s5 := H5.out.2.size
 have s0 := D4.out.size
 have s3 := (HW.out.2.2.trans (H3.out.2.mono HW.out.2.2.size)).size
 exact ⟨X1, Y1, X2, Y2, X3, Y3, rfl, hide (HO.out.down (by omega)), d5.trans (O6.out.2.toBelow d5.size (fun k hk => by omega))⟩
end Go.Proofs.YtchoopnjckcohaaGreatDoor
namespace Go.Proofs.YtchoopnjckcohaaGreatDoor
open Go.RowKit Go.Maps
theorem mem_toL {Ed : List EdT} {p s : Nat} {x : Int} : x ∈ toL (fromL Ed p (s : Int)) ↔ ((p : Int), (s : Int), x) ∈ Ed := by
 unfold toL fromL
 simp only [List.mem_map, List.mem_filter, decide_eq_true_eq]
 constructor
 · rintro ⟨e, ⟨he, h⟩, rfl⟩
   have h1 : e.1 = (p : Int) := by omega
   have h2 : e.2.1 = (s : Int) := by omega
   rw [← h1, ← h2]
   exact he
 · intro h
   exact ⟨_, ⟨h, by simp⟩, rfl⟩
def BrE (Ed : List EdT) (Fi Bg : List Int) (e : EdT) : Prop := e ∈ Ed ∨ (∃ q, (e.1, e.2.1, q) ∈ Ed ∧ q ∈ Fi) ∧ e.2.2 ∈ Bg
theorem mem_endL {Ed : List EdT} {Fi Bg : List Int} (hF : ∀ e ∈ Ed, 0 ≤ e.2.2) {p s : Nat} {x : Int} : x ∈ endL Ed Fi Bg p s ↔ BrE Ed Fi Bg ((p : Int), (s : Int), x) := by
 have key : ((toL (fromL Ed p (s : Int))).any (fun x => finB Fi x.toNat)) = true ↔ ∃ q, ((p : Int), (s : Int), q) ∈ Ed ∧ q ∈ Fi := by
  rw [List.any_eq_true]
  constructor
  · rintro ⟨q, hq, h⟩
    have h0 := mem_toL.1 hq
    have h1 := hF _ h0
    unfold finB at h
    rw [decide_eq_true_eq] at h
    simp only at h1
    rw [show ((q.toNat : Nat) : Int) = q by omega] at h
    exact ⟨q, h0, h⟩
  · rintro ⟨q, h0, h⟩
    have h1 := hF _ h0
    simp only at h1
    refine ⟨q, mem_toL.2 h0, ?_⟩
    unfold finB
    rw [decide_eq_true_eq, show ((q.toNat : Nat) : Int) = q by omega]
    exact h
 unfold endL BrE
 by_cases hc : ((toL (fromL Ed p (s : Int))).any (fun x => finB Fi x.toNat)) = true
 · rw [if_pos hc, List.mem_append, mem_toL]
   exact ⟨fun h => h.imp id fun h => ⟨key.1 hc, h⟩, fun h => h.imp id fun h => h.2⟩
 · rw [if_neg hc, mem_toL]
   exact ⟨Or.inl, fun h => h.elim id fun h => absurd (key.2 h.1) hc⟩
theorem mem_brL {N m : Nat} {Ed : List EdT} {Fi Bg : List Int} (hF : ∀ e ∈ Ed, (0 ≤ e.1 ∧ e.1 < (N : Int)) ∧ (0 ≤ e.2.1 ∧ e.2.1 < (m : Int)) ∧ (0 ≤ e.2.2 ∧ e.2.2 < (N : Int))) (e : EdT) : e ∈ brL Ed Fi Bg m N ↔ BrE Ed Fi Bg e := by
 have h0 : ∀ e ∈ Ed, 0 ≤ e.2.2 := fun e he => (hF e he).2.2.1
 unfold brL rowL celL
 simp only [List.mem_flatMap, List.mem_range, List.mem_map]
 constructor
 · rintro ⟨p, _, s, _, x, hx, rfl⟩
   exact (mem_endL h0).1 ((riseL_iff _ x).1 hx)
 · intro h
   have hb : (0 ≤ e.1 ∧ e.1 < (N : Int)) ∧ (0 ≤ e.2.1 ∧ e.2.1 < (m : Int)) := by
    rcases h with h | ⟨⟨q, h, _⟩, _⟩
    · exact ⟨(hF e h).1, (hF e h).2.1⟩
    · exact ⟨(hF _ h).1, (hF _ h).2.1⟩
   have e1 : ((e.1.toNat : Nat) : Int) = e.1 := by omega
   have e2 : ((e.2.1.toNat : Nat) : Int) = e.2.1 := by omega
   refine ⟨e.1.toNat, by omega, e.2.1.toNat, by omega, e.2.2, ?_, by rw [e1, e2]⟩
   rw [riseL_iff]
   refine (mem_endL h0).2 ?_
   rw [e1, e2]
   exact h
open Go.Shelf
theorem mem_mov {L : List Int} {b x : Int} : x ∈ movN L b ↔ x - b ∈ L := by
 unfold movN
 rw [List.mem_map]
 constructor
 · rintro ⟨y, hy, rfl⟩
   rw [show y + b - b = y by omega]
   exact hy
 · intro h
   exact ⟨x - b, h, by omega⟩
theorem rch_shift {E : List EdT} {b : Int} : ∀ (W : List Int) (p q : Int), Rch (movE E b) W p q ↔ Rch E W (p - b) (q - b)
 | [], p, q => by simp only [Rch]; omega
 | y :: W, p, q => by
  simp only [Rch]
  constructor
  · rintro ⟨r, hr, hR⟩
    unfold movE at hr
    obtain ⟨e, he, h⟩ := List.mem_map.1 hr
    simp only [Prod.mk.injEq] at h
    obtain ⟨h1, h2, h3⟩ := h
    refine ⟨r - b, ?_, (rch_shift W r q).1 hR⟩
    rw [show (p - b, y, r - b) = e from Prod.ext (by simp only; omega) (Prod.ext (by simp only; omega) (by simp only; omega))]
    exact he
  · rintro ⟨r, hr, hR⟩
    refine ⟨r + b, ?_, (rch_shift W _ q).2 (by rw [show r + b - b = r by omega]; exact hR)⟩
    unfold movE
    exact List.mem_map.2 ⟨_, hr, Prod.ext (by simp only; omega) rfl⟩
theorem rch_con {n : Int} {E B E2 : List EdT} {F S2 : List Int} (hB : ∀ e, e ∈ B ↔ BrE E F (movN S2 n) e) (hE : ∀ e ∈ E, e.1 < n ∧ e.2.2 < n) (hE2 : ∀ e ∈ E2, 0 ≤ e.1 ∧ 0 ≤ e.2.2) (hS : ∀ x ∈ S2, 0 ≤ x) : ∀ (W : List Int) (p q : Int), p < n → (Rch (B ++ movE E2 n) W p q ↔ Rch E W p q ∨ ∃ U V f x, W = U ++ V ∧ U ≠ [] ∧ Rch E U p f ∧ f ∈ F ∧ x ∈ S2 ∧ Rch E2 V x (q - n))
 | [], p, q, _ => by
  simp only [Rch]
  constructor
  · exact fun h => .inl h
  · rintro (h | ⟨U, V, f, x, h, h2, _⟩)
    · exact h
    · exact absurd (List.append_eq_nil_iff.1 h.symm).1 h2
 | y :: W, p, q, hp => by
  have hB1 : ∀ e ∈ B, e.1 < n := by
   intro e he
   rcases (hB e).1 he with h | ⟨⟨q, h, _⟩, _⟩
   · exact (hE e h).1
   · exact (hE _ h).1
  have hi : ∀ (W : List Int) (p q : Int), n ≤ p → (Rch (B ++ movE E2 n) W p q ↔ Rch E2 W (p - n) (q - n)) := rch_high hB1 (fun e he => (hE2 e he).2)
  simp only [Rch]
  constructor
  · rintro ⟨r, hr, hR⟩
    rcases List.mem_append.1 hr with hr | hr
    · rcases (hB _).1 hr with h | ⟨⟨q0, h, hq⟩, hg⟩
      · rcases (rch_con hB hE hE2 hS W r q (hE _ h).2).1 hR with h2 | ⟨U, V, f, x, rfl, u1, u2, u3, u4, u5⟩
        · exact .inl ⟨r, h, h2⟩
        · exact .inr ⟨y :: U, V, f, x, rfl, by simp, ⟨r, h, u2⟩, u3, u4, u5⟩
      · have hx := mem_mov.1 hg
        simp only at hx
        have := hS _ hx
        exact .inr ⟨[y], W, q0, r - n, rfl, by simp, ⟨q0, h, rfl⟩, hq, hx, (hi W r q (by omega)).1 hR⟩
    · exfalso
      unfold movE at hr
      obtain ⟨e, he, h⟩ := List.mem_map.1 hr
      simp only [Prod.mk.injEq] at h
      have := (hE2 e he).1
      omega
  · rintro (⟨r, h, h2⟩ | ⟨U, V, f, x, hw, u1, u2, u3, u4, u5⟩)
    · exact ⟨r, List.mem_append_left _ ((hB _).2 (.inl h)), (rch_con hB hE hE2 hS W r q (hE _ h).2).2 (.inl h2)⟩
    · cases U with
      | nil => exact absurd rfl u1
      | cons z U =>
       rw [List.cons_append] at hw
       cases hw
       obtain ⟨r, h, h2⟩ := u2
       cases U with
       | nil =>
        cases h2
        refine ⟨x + n, List.mem_append_left _ ((hB _).2 (.inr ⟨⟨_, h, u3⟩, mem_mov.2 (by simp only; rw [show x + n - n = x by omega]; exact u4)⟩)), ?_⟩
        rw [List.nil_append]
        exact (hi V _ q (by have := hS x u4; omega)).2 (by rw [show x + n - n = x by omega]; exact u5)
       | cons z2 U =>
        exact ⟨r, List.mem_append_left _ ((hB _).2 (.inl h)), (rch_con hB hE hE2 hS _ r q (hE _ h).2).2 (.inr ⟨z2 :: U, V, f, x, rfl, by simp, h2, u3, u4, u5⟩)⟩
theorem rch_sta {E B : List EdT} {F S : List Int} (hB : ∀ e, e ∈ B ↔ BrE E F S e) : ∀ (W : List Int) (p q : Int), (Rch B W p q ↔ Rch E W p q ∨ ∃ U V f x, W = U ++ V ∧ U ≠ [] ∧ Rch E U p f ∧ f ∈ F ∧ x ∈ S ∧ Rch B V x q)
 | [], p, q => by
  simp only [Rch]
  constructor
  · exact fun h => .inl h
  · rintro (h | ⟨U, V, f, x, h, h2, _⟩)
    · exact h
    · exact absurd (List.append_eq_nil_iff.1 h.symm).1 h2
 | y :: W, p, q => by
  simp only [Rch]
  constructor
  · rintro ⟨r, hr, hR⟩
    rcases (hB _).1 hr with h | ⟨⟨q0, h, hq⟩, hg⟩
    · rcases (rch_sta hB W r q).1 hR with h2 | ⟨U, V, f, x, rfl, u1, u2, u3, u4, u5⟩
      · exact .inl ⟨r, h, h2⟩
      · exact .inr ⟨y :: U, V, f, x, rfl, by simp, ⟨r, h, u2⟩, u3, u4, u5⟩
    · exact .inr ⟨[y], W, q0, r, rfl, by simp, ⟨q0, h, rfl⟩, hq, hg, hR⟩
  · rintro (⟨r, h, h2⟩ | ⟨U, V, f, x, hw, u1, u2, u3, u4, u5⟩)
    · exact ⟨r, (hB _).2 (.inl h), (rch_sta hB W r q).2 (.inl h2)⟩
    · cases U with
      | nil => exact absurd rfl u1
      | cons z U =>
       rw [List.cons_append] at hw
       cases hw
       obtain ⟨r, h, h2⟩ := u2
       cases U with
       | nil =>
        cases h2
        exact ⟨x, (hB _).2 (.inr ⟨⟨_, h, u3⟩, u4⟩), u5⟩
       | cons z2 U => exact ⟨r, (hB _).2 (.inl h), (rch_sta hB _ r q).2 (.inr ⟨z2 :: U, V, f, x, rfl, by simp, h2, u3, u4, u5⟩)⟩
inductive Stk (L : List Int → Prop) : List Int → Prop
 | nil : Stk L []
 | cons {U V : List Int} : U ≠ [] → L U → Stk L V → Stk L (U ++ V)
theorem Stk.app {L : List Int → Prop} {A B : List Int} (h : Stk L A) (h2 : Stk L B) : Stk L (A ++ B) := by
 induction h with
 | nil => exact h2
 | cons h1 h3 _ ih => rw [List.append_assoc]; exact .cons h1 h3 ih
theorem Stk.snoc {L : List Int → Prop} {A U : List Int} (h : Stk L A) (h1 : U ≠ []) (h2 : L U) : Stk L (A ++ U) := h.app (by have := Stk.cons h1 h2 Stk.nil; rwa [List.append_nil] at this)
theorem Stk.last {L : List Int → Prop} {W : List Int} (h : Stk L W) : W = [] ∨ ∃ A U, W = A ++ U ∧ U ≠ [] ∧ L U ∧ Stk L A := by
 induction h with
 | nil => exact .inl rfl
 | @cons U V h1 h2 h3 ih =>
  rcases ih with rfl | ⟨A, X, rfl, x1, x2, x3⟩
  · exact .inr ⟨[], U, by simp, h1, h2, .nil⟩
  · exact .inr ⟨U ++ A, X, by rw [List.append_assoc], x1, x2, .cons h1 h2 x3⟩
theorem sta_words {E B : List EdT} {F S : List Int} (hB : ∀ e, e ∈ B ↔ BrE E F S e) : ∀ (n : Nat) (W : List Int), W.length ≤ n → ((W = [] ∨ Tak S F B W) ↔ Stk (Tak S F E) W) := by
 intro n
 induction n with
 | zero =>
  intro W hW
  obtain rfl := List.eq_nil_of_length_eq_zero (Nat.le_zero.1 hW)
  exact ⟨fun _ => .nil, fun _ => .inl rfl⟩
 | succ n ih =>
  intro W hW
  constructor
  · rintro (rfl | ⟨p, hp, q, hq, hr⟩)
    · exact .nil
    · rcases (rch_sta hB W p q).1 hr with h | ⟨U, V, f, x, rfl, u1, u2, u3, u4, u5⟩
      · by_cases e : W = []
        · subst e; exact .nil
        · have := Stk.cons e (show Tak S F E W from ⟨p, hp, q, hq, h⟩) Stk.nil
          rwa [List.append_nil] at this
      · refine .cons u1 ⟨p, hp, f, u3, u2⟩ ((ih V ?_).1 (.inr ⟨x, u4, q, hq, u5⟩))
        have : 0 < U.length := List.length_pos_iff.2 u1
        rw [List.length_append] at hW
        omega
  · intro h
    cases h with
    | nil => exact .inl rfl
    | @cons U V h1 h2 h3 =>
     have hV : V.length ≤ n := by
      have : 0 < U.length := List.length_pos_iff.2 h1
      rw [List.length_append] at hW
      omega
     obtain ⟨p, hp, q, hq, hr⟩ := h2
     rcases (ih V hV).2 h3 with rfl | ⟨p2, hp2, q2, hq2, hr2⟩
     · rw [List.append_nil]
       exact .inr ⟨p, hp, q, hq, (rch_sta hB U p q).2 (.inl hr)⟩
     · exact .inr ⟨p, hp, q2, hq2, (rch_sta hB _ p q2).2 (.inr ⟨U, V, q, p2, rfl, h1, hr, hq, hp2, hr2⟩)⟩
theorem nodup_len : ∀ (A B : List EdT), A.Nodup → (∀ x ∈ A, x ∈ B) → A.length ≤ B.length
 | [], _, _, _ => Nat.zero_le _
 | a :: A, B, hn, hs => by
  have hn' := List.nodup_cons.1 hn
  have ha : a ∈ B := hs a (by simp)
  have h := nodup_len A (B.erase a) hn'.2 (fun x hx => (List.mem_erase_of_ne (fun e => by subst e; exact hn'.1 hx)).2 (hs x (by simp [hx])))
  rw [List.length_erase_of_mem ha] at h
  have : 0 < B.length := List.length_pos_of_mem ha
  rw [List.length_cons]
  omega
end Go.Proofs.YtchoopnjckcohaaGreatDoor
