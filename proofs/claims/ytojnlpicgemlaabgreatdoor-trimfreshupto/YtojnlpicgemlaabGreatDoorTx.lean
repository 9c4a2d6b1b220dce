import Derived.Test.YtojnlpicgemlaabGreatDoorTV
namespace Go.Proofs.YtojnlpicgemlaabGreatDoor
open Go.RowKit Go.Maps Go.Shelf
attribute [local go_sem] Oper.semAt_some

/-! ### The small automaton that every statement asks about -/
theorem k_may : mayA 3 2 [0] [1] [(0, 1, 1)] = true := by decide
theorem k_not : mayA (-1) 0 [] [] [] = false := by decide
theorem k_step : stepE true [(0, 1, 1)] 1 0 := ⟨(0, 1, 1), by simp, rfl⟩
theorem k_fwd : stepE false [(0, 1, 1)] 0 1 := ⟨(0, 1, 1), by simp, rfl⟩
theorem k_back {p q : Nat} (h : stepE true [(0, 1, 1)] p q) : p = 1 ∧ q = 0 := by
  obtain ⟨e, he, h⟩ := h
  rw [List.mem_singleton] at he
  subst he
  have h1 : (1 : Int) = (p : Int) := congrArg Prod.fst h
  have h2 : (0 : Int) = (q : Int) := congrArg Prod.snd h
  omega
theorem k_on {p q : Nat} (h : stepE false [(0, 1, 1)] p q) : p = 0 ∧ q = 1 := by
  obtain ⟨e, he, h⟩ := h
  rw [List.mem_singleton] at he
  subst he
  have h1 : (0 : Int) = (p : Int) := congrArg Prod.fst h
  have h2 : (1 : Int) = (q : Int) := congrArg Prod.snd h
  omega
theorem k_len {len : Nat → Int} (hb : Bfs 3 (fun q => (q : Int) ∈ [(1 : Int)]) (stepE true [(0, 1, 1)]) [] len) : len 1 = 0 ∧ len 0 = 1 := by
  have hS : ∀ q : Nat, (q : Int) ∈ [(1 : Int)] → q < 3 := fun q hq => by rw [List.mem_singleton] at hq; omega
  have hE : ∀ p q, stepE true [(0, 1, 1)] p q → q < 3 := fun p q h => by have := k_back h; omega
  have h1 : len 1 = 0 := hb.start 1 (by simp)
  obtain ⟨_, h2, h3⟩ := hb.done hS hE 1 0 ⟨1, by simp [Wlk], k_step⟩
  refine ⟨h1, ?_⟩
  by_cases e : len 0 = 0
  · have := hb.sound 0 (by omega) (by omega)
    rw [e] at this
    have : ((0 : Nat) : Int) ∈ [(1 : Int)] := this
    simp at this
  · omega
theorem k_min {len : Nat → Int} (h : len 0 = 1) : lenMin len [0] = 1 := by simp [lenMin, minF, h]
theorem k_word {len : Nat → Int} (h : len 1 = 0) : (lwS len (rowI false [(0, 1, 1)]) 3 2 1 (setI 3 [0]) 1).1 = [1] := by
  have e1 : elems 3 (setI 3 [0]) = [0] := by decide
  have e2 : rowI false [(0, 1, 1)] 0 = [(0, 1, 1)] := by decide
  simp [lwS, lsR, lsS, e1, e2, h]
theorem k_use : elems 3 (useX 3 [0] [1] [(0, 1, 1)]) = [0, 1] := by
  have r0 : ∃ k, Wlk (fun q => (q : Int) ∈ [(0 : Int)]) (stepE false [(0, 1, 1)]) k 0 := ⟨0, by simp [Wlk]⟩
  have r1 : ∃ k, Wlk (fun q => (q : Int) ∈ [(0 : Int)]) (stepE false [(0, 1, 1)]) k 1 := ⟨1, 0, by simp [Wlk], k_fwd⟩
  have c1 : ∃ k, Wlk (fun q => (q : Int) ∈ [(1 : Int)]) (stepE true [(0, 1, 1)]) k 1 := ⟨0, by simp [Wlk]⟩
  have c0 : ∃ k, Wlk (fun q => (q : Int) ∈ [(1 : Int)]) (stepE true [(0, 1, 1)]) k 0 := ⟨1, 1, by simp [Wlk], k_step⟩
  have t0 : (useX 3 [0] [1] [(0, 1, 1)]).testBit 0 = true := (useX_test _ _ _ _ _).2 ⟨by omega, r0, c0⟩
  have t1 : (useX 3 [0] [1] [(0, 1, 1)]).testBit 1 = true := (useX_test _ _ _ _ _).2 ⟨by omega, r1, c1⟩
  have t2 : (useX 3 [0] [1] [(0, 1, 1)]).testBit 2 = false := by
    rw [Bool.eq_false_iff]
    intro h
    obtain ⟨_, ⟨k, hk⟩, _⟩ := (useX_test _ _ _ _ _).1 h
    cases k with
    | zero => simp [Wlk] at hk
    | succ k =>
      obtain ⟨p, _, hp⟩ := hk
      have := k_on hp
      omega
  have er : List.range 3 = [0, 1, 2] := by decide
  unfold elems
  rw [er, List.filter_cons_of_pos t0, List.filter_cons_of_pos t1, List.filter_cons_of_neg (by rw [t2]; decide)]
  rfl
theorem rd_one {W : World} {b : Nat} {x : Int} {t : TypeId} {fr : Nat × Nat} (h : W.heap[b]? = some (.cells #[.int .i64 x] t fr)) : RdN W (some ⟨b, 0, none⟩) [x] := fun j hj => by
  obtain rfl : j = 0 := by simpa using hj
  exact ⟨b, 0, rfl, cell_of h rfl⟩
theorem rd_two {W : World} {b : Nat} {x y : Int} {t : TypeId} {fr : Nat × Nat} (h : W.heap[b]? = some (.cells #[.int .i64 x, .int .i64 y] t fr)) : RdN W (some ⟨b, 0, none⟩) [x, y] := fun j hj => by
  have hj' : j < 2 := by simpa using hj
  obtain rfl | rfl : j = 0 ∨ j = 1 := by omega
  · exact ⟨b, 0, rfl, cell_of h rfl⟩
  · exact ⟨b, 0, rfl, cell_of h rfl⟩
theorem rdE_one {W : World} {b : Nat} {x : EdT} {t : TypeId} {fr : Nat × Nat} (h : W.heap[b]? = some (.cells #[.int .i64 x.1, .int .i64 x.2.1, .int .i64 x.2.2] t fr)) : RdE W (some ⟨b, 0, none⟩) [x] := fun j hj => by
  obtain rfl : j = 0 := by simpa using hj
  exact ⟨b, 0, rfl, cell_of h rfl, cell_of h rfl, cell_of h rfl⟩
set_option maxRecDepth 100000 in
set_option maxHeartbeats 4000000 in
theorem known_any (w : World) (hT : Hid (TabAt w)) (h0 : 0 < w.heap.size) :
    Calls Tryz.prog 6 #[] w fun e w' => e = .returned (.bool true) ∧ Below w.heap.size w w' := by
  go_enter Tryz.func6, Tryz.ntmps6
  go_upto_region 2 with fail
  obtain ⟨W1, hW1⟩ : ∃ W, (((w.alloc (.cells #[.int .i64 0] 3)).alloc (.cells #[.int .i64 1] 3)).alloc (.cells #[.int .i64 0, .int .i64 1, .int .i64 1] 35)).alloc (.cells #[.int .i64 3, .int .i64 2, .slice (some ⟨w.heap.size, 0, none⟩) 1 1, .slice (some ⟨w.heap.size + 1, 0, none⟩) 1 1, .slice (some ⟨w.heap.size + 1 + 1, 0, none⟩) 1 1] 25) = W := ⟨_, rfl⟩
  rw [hW1]
  have HW : Hid (W1.heap[w.heap.size + 1 + 1 + 1]? = some (.cells #[.int .i64 3, .int .i64 2, .slice (some ⟨w.heap.size, 0, none⟩) 1 1, .slice (some ⟨w.heap.size + 1, 0, none⟩) 1 1, .slice (some ⟨w.heap.size + 1 + 1, 0, none⟩) 1 1] 25 (0, 0)) ∧ RdA W1 (some ⟨w.heap.size, 0, none⟩) (some ⟨w.heap.size + 1, 0, none⟩) (some ⟨w.heap.size + 1 + 1, 0, none⟩) [0] [1] [(0, 1, 1)] ∧ Below w.heap.size w W1) := hide (by
    have hb := box33 w #[.int .i64 0] #[.int .i64 1] #[.int .i64 0, .int .i64 1, .int .i64 1] 3 3 35
    generalize ((w.alloc (.cells #[.int .i64 0] 3)).alloc (.cells #[.int .i64 1] 3)).alloc (.cells #[.int .i64 0, .int .i64 1, .int .i64 1] 35) = X at hb hW1
    have d : Below X.heap.size X W1 := by rw [← hW1]; exact (Below.refl _ _).alloc (Nat.le_refl _) _
    have hn := World.alloc_heap_new X (.cells #[.int .i64 3, .int .i64 2, .slice (some ⟨w.heap.size, 0, none⟩) 1 1, .slice (some ⟨w.heap.size + 1, 0, none⟩) 1 1, .slice (some ⟨w.heap.size + 1 + 1, 0, none⟩) 1 1] 25)
    rw [hb.2.2.2.2, hW1] at hn
    exact ⟨hn, ⟨rd_one (blk_on hb.2.1 d), rd_one (blk_on hb.2.2.1 d), rdE_one (x := (0, 1, 1)) (blk_on hb.2.2.2.1 d)⟩, hb.1.trans (d.mono hb.1.size)⟩)
  clear hW1
  have HT1 := hide (And.intro (hT.out.below HW.out.2.2 h0) (Nat.lt_of_lt_of_le h0 HW.out.2.2.size))
  have TE : Calls Tryz.prog 17 #[.agg #[.int .i64 3, .int .i64 2, .slice (some ⟨w.heap.size, 0, none⟩) 1 1, .slice (some ⟨w.heap.size + 1, 0, none⟩) 1 1, .slice (some ⟨w.heap.size + 1 + 1, 0, none⟩) 1 1]] W1 (fun e w' => EmP W1 w' 3 2 [0] [1] [(0, 1, 1)] e) := empty_ok W1 3 2 (some ⟨w.heap.size, 0, none⟩) (some ⟨w.heap.size + 1, 0, none⟩) (some ⟨w.heap.size + 1 + 1, 0, none⟩) 1 1 1 [0] [1] [(0, 1, 1)] (hide HW.out.2.1) (by decide) (by decide) (by decide) HT1 k_may
  have F0 := HW.out.1
  have q0 : W1.cell? ⟨w.heap.size + 1 + 1 + 1, 0, none⟩ = some (.int .i64 3) := cell_of F0 rfl
  have q1 : W1.cell? ⟨w.heap.size + 1 + 1 + 1, 1, none⟩ = some (.int .i64 2) := cell_of F0 rfl
  have q2 : W1.cell? ⟨w.heap.size + 1 + 1 + 1, 2, none⟩ = some (.slice (some ⟨w.heap.size, 0, none⟩) 1 1) := cell_of F0 rfl
  have q3 : W1.cell? ⟨w.heap.size + 1 + 1 + 1, 3, none⟩ = some (.slice (some ⟨w.heap.size + 1, 0, none⟩) 1 1) := cell_of F0 rfl
  have q4 : W1.cell? ⟨w.heap.size + 1 + 1 + 1, 4, none⟩ = some (.slice (some ⟨w.heap.size + 1 + 1, 0, none⟩) 1 1) := cell_of F0 rfl
  clear F0
  go_wp2_with fail
  refine TE.mono ?_
  rintro e w2 ⟨len, ⟨hb, _⟩, hor, d2⟩
  obtain ⟨g1, g0⟩ := k_len hb
  rw [k_min g0] at hor
  rcases hor with ⟨h, _⟩ | ⟨_, vw, rfl, ho⟩
  · omega
  rw [show ((1 : Int)).toNat = 1 from rfl, k_word g1] at ho
  obtain ⟨yw, zw, rfl⟩ := own_slice ho
  have H2 : Hid (LA w2 (.slice yw [(1 : Int)].length zw) [1] ∧ Below W1.heap.size W1 w2) := hide ⟨la_own ho, d2⟩
  clear hb g1 g0 ho d2 TE
  clear q0 q1 q2 q3 q4
  have HD2 : Hid (Below w.heap.size w w2) := hide (HW.out.2.2.trans (H2.out.2.mono HW.out.2.2.size))
  have TT : Calls Tryz.prog 5 #[.agg #[.int .i64 3, .int .i64 2, .slice (some ⟨w.heap.size, 0, none⟩) 1 1, .slice (some ⟨w.heap.size + 1, 0, none⟩) 1 1, .slice (some ⟨w.heap.size + 1 + 1, 0, none⟩) 1 1]] w2 (fun e w' => TrmP w2 w' 3 2 [0] [1] [(0, 1, 1)] e) := trim_ok w2 3 2 (some ⟨w.heap.size, 0, none⟩) (some ⟨w.heap.size + 1, 0, none⟩) (some ⟨w.heap.size + 1 + 1, 0, none⟩) 1 1 1 [0] [1] [(0, 1, 1)] (hide (HW.out.2.1.on H2.out.2)) (by decide) (by decide) (by decide) (hide (hT.out.below HD2.out h0)) (Nat.lt_of_lt_of_le h0 HD2.out.size) k_may
  unfold TrmP at TT
  rw [k_use, show natL [0, 1] = [(0 : Int), 1] from rfl] at TT
  generalize renL (useX 3 [0] [1] [(0, 1, 1)]) (numT [0, 1]) (riseL [0]) = L1 at TT
  generalize renL (useX 3 [0] [1] [(0, 1, 1)]) (numT [0, 1]) (riseL [1]) = L2 at TT
  generalize renE (useX 3 [0] [1] [(0, 1, 1)]) (numT [0, 1]) (riseE [(0, 1, 1)]) = L3 at TT
  have F0 := blk_on HW.out.1 H2.out.2
  have q0 : w2.cell? ⟨w.heap.size + 1 + 1 + 1, 0, none⟩ = some (.int .i64 3) := cell_of F0 rfl
  have q1 : w2.cell? ⟨w.heap.size + 1 + 1 + 1, 1, none⟩ = some (.int .i64 2) := cell_of F0 rfl
  have q2 : w2.cell? ⟨w.heap.size + 1 + 1 + 1, 2, none⟩ = some (.slice (some ⟨w.heap.size, 0, none⟩) 1 1) := cell_of F0 rfl
  have q3 : w2.cell? ⟨w.heap.size + 1 + 1 + 1, 3, none⟩ = some (.slice (some ⟨w.heap.size + 1, 0, none⟩) 1 1) := cell_of F0 rfl
  have q4 : w2.cell? ⟨w.heap.size + 1 + 1 + 1, 4, none⟩ = some (.slice (some ⟨w.heap.size + 1 + 1, 0, none⟩) 1 1) := cell_of F0 rfl
  clear F0
  go_wp2_with fail
  refine TT.mono ?_
  rintro e w3 ⟨v1, v2, v3, vo, rfl, o1, o2, o3, o4, d3⟩
  obtain ⟨y1, z1, rfl⟩ := own_slice o1
  obtain ⟨y2, z2, rfl⟩ := own_slice o2
  obtain ⟨y3, z3, rfl⟩ := own_slice o3
  obtain ⟨yo, zo, rfl⟩ := own_slice o4
  have H3 : Hid (LA w3 (.slice yo [(0 : Int), 1].length zo) [0, 1] ∧ LA w3 (.slice yw [(1 : Int)].length zw) [1] ∧ Below w.heap.size w w3) := hide ⟨la_own o4, H2.out.1.on d3, HD2.out.trans (d3.mono HD2.out.size)⟩
  clear o1 o2 o3 o4 d3 TT H2 HD2
  clear q0 q1 q2 q3 q4
  go_upto_region 4 with fail
  obtain ⟨b5, hb5⟩ : ∃ k, w3.heap.size = k := ⟨_, rfl⟩
  rw [hb5]
  obtain ⟨w4, hw4⟩ : ∃ W, w3.alloc (.cells #[.int .i64 2, .int .i64 2, .slice y1 L1.length z1, .slice y2 L2.length z2, .slice y3 L3.length z3] 25) = W := ⟨_, rfl⟩
  rw [hw4]
  have H4 : Hid (LA w4 (.slice yo [(0 : Int), 1].length zo) [0, 1] ∧ LA w4 (.slice yw [(1 : Int)].length zw) [1] ∧ Below w.heap.size w w4 ∧ w4.heap[b5]? = some (.cells #[.int .i64 2, .int .i64 2, .slice y1 L1.length z1, .slice y2 L2.length z2, .slice y3 L3.length z3] 25 (0, 0))) := hide (by
    have d : Below w3.heap.size w3 w4 := by rw [← hw4]; exact (Below.refl _ _).alloc (Nat.le_refl _) _
    exact ⟨H3.out.1.on d, H3.out.2.1.on d, H3.out.2.2.trans (d.mono H3.out.2.2.size), by rw [← hw4, ← hb5]; exact World.alloc_heap_new _ _⟩)
  clear hw4 hb5 H3
  have TR : Calls Tryz.prog 18 #[.agg #[.int .i64 (-1), .int .i64 0, .slice none 0 0, .slice none 0 0, .slice none 0 0]] w4 (fun e w' => ∃ v, e = .returned (.tuple #[v, .int .i64 (errN (-1) 0 [] [] [])]) ∧ LA w' v (rchL false (-1) 0 [] [] []) ∧ Below w4.heap.size w4 w') := preach_u w4 (-1) 0 none none none 0 0 0 [] [] [] ⟨fun j hj => absurd hj (Nat.not_lt_zero j), fun j hj => absurd hj (Nat.not_lt_zero j), fun j hj => absurd hj (Nat.not_lt_zero j)⟩ (Nat.zero_le _) (Nat.zero_le _) (Nat.zero_le _) (hT.out.below H4.out.2.2.1 h0) (Nat.lt_of_lt_of_le h0 H4.out.2.2.1.size)
  rw [errN_bad k_not] at TR
  go_wp2_with fail
  refine TR.mono ?_
  rintro e w5 ⟨v5, rfl, ⟨a5, c5, rfl, _⟩, d5⟩
  have H5 : Hid (LA w5 (.slice yo [(0 : Int), 1].length zo) [0, 1] ∧ LA w5 (.slice yw [(1 : Int)].length zw) [1] ∧ Below w.heap.size w w5 ∧ w5.heap[b5]? = some (.cells #[.int .i64 2, .int .i64 2, .slice y1 L1.length z1, .slice y2 L2.length z2, .slice y3 L3.length z3] 25 (0, 0))) := hide ⟨H4.out.1.on d5, H4.out.2.1.on d5, H4.out.2.2.1.trans (d5.mono H4.out.2.2.1.size), blk_on H4.out.2.2.2 d5⟩
  clear d5 TR H4
  go_wp2_with fail
  have T1 : Calls Tryz.prog 10 #[.slice yw 1 zw, .slice (some ⟨w5.heap.size, 0, none⟩) 1 1] (w5.alloc (.cells #[.int .i64 1] 3)) (fun e w' => e = .returned (.bool true) ∧ Below (w5.alloc (.cells #[.int .i64 1] 3)).heap.size (w5.alloc (.cells #[.int .i64 1] 3)) w') := by
    obtain ⟨a, c, e, hr⟩ := H5.out.2.1
    cases e
    refine (same7_any (w5.alloc (.cells #[.int .i64 1] 3)) yw (some ⟨w5.heap.size, 0, none⟩) zw 1 [1] [1] (hr.on ((Below.refl _ _).alloc (Nat.le_refl _) _)) (rd_one (World.alloc_heap_new w5 _)) (by decide)).mono ?_
    rintro e w' ⟨rfl, d⟩
    exact ⟨by rw [decide_eq_true (rfl : [(1 : Int)] = [1])], d⟩
  refine T1.mono ?_
  rintro e w6 ⟨rfl, d6⟩
  have H6 : Hid (LA w6 (.slice yo [(0 : Int), 1].length zo) [0, 1] ∧ Below w.heap.size w w6 ∧ w6.heap[b5]? = some (.cells #[.int .i64 2, .int .i64 2, .slice y1 L1.length z1, .slice y2 L2.length z2, .slice y3 L3.length z3] 25 (0, 0))) := hide (by
    have d : Below w5.heap.size w5 w6 := ((Below.refl w5.heap.size w5).alloc (Nat.le_refl _) _).trans (d6.mono (by rw [World.size_alloc]; omega))
    exact ⟨H5.out.1.on d, H5.out.2.2.1.trans (d.mono H5.out.2.2.1.size), blk_on H5.out.2.2.2 d⟩)
  clear d6 T1 H5
  have k5 : w6.cell? ⟨b5, 0, none⟩ = some (.int .i64 2) := cell_of H6.out.2.2 rfl
  go_wp2_with fail
  have T2 : Calls Tryz.prog 10 #[.slice yo 2 zo, .slice (some ⟨w6.heap.size, 0, none⟩) 2 2] (w6.alloc (.cells #[.int .i64 0, .int .i64 1] 3)) (fun e w' => e = .returned (.bool true) ∧ Below (w6.alloc (.cells #[.int .i64 0, .int .i64 1] 3)).heap.size (w6.alloc (.cells #[.int .i64 0, .int .i64 1] 3)) w') := by
    obtain ⟨a, c, e, hr⟩ := H6.out.1
    cases e
    refine (same7_any (w6.alloc (.cells #[.int .i64 0, .int .i64 1] 3)) yo (some ⟨w6.heap.size, 0, none⟩) zo 2 [0, 1] [0, 1] (hr.on ((Below.refl _ _).alloc (Nat.le_refl _) _)) (rd_two (World.alloc_heap_new w6 _)) (by decide)).mono ?_
    rintro e w' ⟨rfl, d⟩
    exact ⟨by rw [decide_eq_true (rfl : [(0 : Int), 1] = [0, 1])], d⟩
  refine T2.mono ?_
  rintro e w7 ⟨rfl, d7⟩
  have H7 : Hid (Below w.heap.size w w7) := hide (by
    have d : Below w6.heap.size w6 w7 := ((Below.refl w6.heap.size w6).alloc (Nat.le_refl _) _).trans (d7.mono (by rw [World.size_alloc]; omega))
    exact H6.out.2.1.trans (d.mono H6.out.2.1.size))
  clear d7 T2 H6 k5
  go_wp2_with fail
  go_ret
  exact ⟨rfl, H7.out⟩
end Go.Proofs.YtojnlpicgemlaabGreatDoor
