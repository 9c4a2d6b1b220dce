import Derived.Test.YtocoghljmlpdeaaQaa
import Derived.Below
import Derived.Deep.RegionHeld
namespace Go.Proofs.Ytocoghljmlpdeaa
open Go.RowKit Go.Maps
attribute [local go_sem] Oper.semAt_some
/-! ### What tell asks of a pair -/
/-- What tell holds: the table's box, the chains' box. -/
structure ChS (B : Nat) (w : World) (M N gf : Nat) (aN : Option Addr) (lN cN bt bc g : Nat) (rt : Nat → Nat) : Prop where
  ht : w.heap[bt]? = some (.cells #[.int .i64 (M : Int), .slice (some ⟨gf, 0, none⟩) N N, .slice aN lN cN] 60 (0, 0))
  hc : w.heap[bc]? = some (.cells #[.slice (some ⟨g, 0, none⟩) N N] 95 (0, 0))
  ch : ChR w g N rt
  lt : B ≤ bt
  lc : B ≤ bc
  lg : B ≤ g
theorem ChR.blk {w : World} {g N : Nat} {rt : Nat → Nat} (h : ChR w g N rt) : ∃ cs, w.heap[g]? = some (.cells cs 3 (0, 0)) := by
  obtain ⟨ab, d, ⟨cur, e, _⟩, _⟩ := h
  exact ⟨cur, e⟩
theorem ChR.only {w w' : World} {g N : Nat} {rt : Nat → Nat} {R : Nat → Prop} (h : ChR w g N rt) (o : Only w w' R) (hR : ¬ R g) : ChR w' g N rt := by
  obtain ⟨ab, d, hM, hF⟩ := h
  exact ⟨ab, d, hM.only o hR, hF⟩
theorem ChS.only {B : Nat} {w w' : World} {M N gf : Nat} {aN : Option Addr} {lN cN bt bc g : Nat} {rt : Nat → Nat} {R : Nat → Prop} (h : ChS B w M N gf aN lN cN bt bc g rt) (o : Only w w' R) (h1 : ¬ R bt) (h2 : ¬ R bc) (h3 : ¬ R g) : ChS B w' M N gf aN lN cN bt bc g rt :=
  ⟨(o.block _ (Array.getElem?_eq_some_iff.1 h.ht).1 h1).trans h.ht, (o.block _ (Array.getElem?_eq_some_iff.1 h.hc).1 h2).trans h.hc, h.ch.only o h3, h.lt, h.lc, h.lg⟩
theorem ChS.on {B : Nat} {w w' : World} {M N gf : Nat} {aN : Option Addr} {lN cN bt bc g : Nat} {rt : Nat → Nat} (h : ChS B w M N gf aN lN cN bt bc g rt) (d : Below w.heap.size w w') : ChS B w' M N gf aN lN cN bt bc g rt := h.only (Only.ofBelow (R := fun _ => False) d) id id id
theorem jn_same {rt : Nat → Nat} {p q : Nat} (h : rt p = rt q) : jn rt p q = rt := by
  funext c
  unfold jn
  split
  · rename_i e
    rw [e, h]
  · rfl
set_option maxRecDepth 100000 in
set_option maxHeartbeats 400000 in
theorem pairF_any (w : World) (M N gf : Nat) (aN : Option Addr) (lN cN bt p q a : Nat) (fin : Nat → Bool) (Nx : List Int) (hb : w.heap[bt]? = some (.cells #[.int .i64 (M : Int), .slice (some ⟨gf, 0, none⟩) N N, .slice aN lN cN] 60 (0, 0))) (hT : TbR w M N gf aN fin Nx) (hl : lN = N * M) (hp : p < N) (hq : q < N) (ha : a < M) (hNM : N * M ≤ 4194304) (hM : M ≤ 4194304) (hN : N ≤ 4194304) :
    Calls Try.prog 63 #[.agg #[.int .i64 (p : Int), .int .i64 (q : Int)], .int .i64 (a : Int), .pointer (some ⟨bt, 0, none⟩)] w fun e w' => e = .returned (.agg #[.int .i64 ((dl Nx M p a : Nat) : Int), .int .i64 ((dl Nx M q a : Nat) : Int)]) ∧ Below w.heap.size w w' := by
  obtain ⟨W0, hW0⟩ : ∃ W0, (w.alloc (.cells #[.int .i64 (p : Int), .int .i64 (q : Int)] 70)).alloc (.cells #[.int .i64 0, .int .i64 0] 70) = W0 := ⟨_, rfl⟩
  have HD := hide (two_al w #[.int .i64 (p : Int), .int .i64 (q : Int)] #[.int .i64 0, .int .i64 0] 70 70)
  rw [hW0] at HD
  have hb0 := blk_on hb HD.out.1
  have c0 : W0.cell? ⟨bt, 0, none⟩ = some (.int .i64 (M : Int)) := cell_of hb0 rfl
  have c1 : W0.cell? ⟨bt, 1, none⟩ = some (.slice (some ⟨gf, 0, none⟩) N N) := cell_of hb0 rfl
  have c2 : W0.cell? ⟨bt, 2, none⟩ = some (.slice aN lN cN) := cell_of hb0 rfl
  have x0 : W0.cell? ⟨w.heap.size, 0, none⟩ = some (.int .i64 (p : Int)) := cell_of HD.out.2.1 rfl
  have x1 : W0.cell? ⟨w.heap.size, 1, none⟩ = some (.int .i64 (q : Int)) := cell_of HD.out.2.1 rfl
  have g0 := fun d os => gw_cell c0 d os
  have g1 := fun d os => gw_cell c1 d os
  have g2 := fun d os => gw_cell c2 d os
  have g3 := fun d os => gw_cell x0 d os
  have g4 := fun d os => gw_cell x1 d os
  have HT := hide (hT.on HD.out.1)
  have TF : Hid (∀ W s, Below W0.heap.size W0 W → s < N → Calls Try.prog 35 #[.agg #[.int .i64 (M : Int), .slice (some ⟨gf, 0, none⟩) N N, .slice aN lN cN], .int .i64 (s : Int), .int .i64 (a : Int)] W fun e w' => e = .returned (.int .i64 (dl Nx M s a : Int)) ∧ Below W.heap.size W w') := hide (fun W s d hs => follow_rd W M N s a lN cN (some ⟨gf, 0, none⟩) N N aN Nx (HT.out.nx.on d) HT.out.len HT.out.inr hl hs ha hNM hM hN)
  clear hb hb0 hT hl
  go_enter Try.func63, Try.ntmps63
  go_upto_region 1 with fail
  refine wp_region_phg 11 #[true, true, true, true, true, true, true, true, true, true, true, false] (by kernel_rfl) ?_
  simp only [List.take_succ_cons, List.take_zero, List.drop_succ_cons, List.drop_zero]
  repeat (go_big_quiet_step (first | (go_at_call_of 35 p; exact calls_gw (TF.out _ p (gw_below W0 _ _) hp)) | (go_at_call_of 35 q; exact calls_gw (TF.out _ q (gw_below W0 _ _) hq))))
  refine wpQuiet_nil ?_
  intro w2 hw2
  obtain ⟨⟨dq, osq⟩, hw2⟩ := hw2
  have d2 : Below W0.heap.size W0 w2 := by rw [hw2]; exact gw_below _ _ _
  have F3 := blk_on HD.out.2.2.1 d2
  have HD2 := hide d2
  clear hw2 d2 g0 g1 g2 g3 g4
  have o0 : w2.cell? ⟨w.heap.size + 1, 0, none⟩ = some (.int .i64 0) := cell_of F3 rfl
  have o1 : w2.cell? ⟨w.heap.size + 1, 1, none⟩ = some (.int .i64 0) := cell_of F3 rfl
  have f0 : w2.frozen? ⟨w.heap.size + 1, 0, none⟩ = false := fz_of F3
  have f1 : w2.frozen? ⟨w.heap.size + 1, 1, none⟩ = false := fz_of F3
  have O6 := hide (And.intro (set2 w2 (w.heap.size + 1) _ _ (.int .i64 (dl Nx M p a : Int)) (.int .i64 (dl Nx M q a : Int)) 70 F3) ((only_set w2 (w.heap.size + 1) 0 (.int .i64 (dl Nx M p a : Int))).trans (only_set _ (w.heap.size + 1) 1 (.int .i64 (dl Nx M q a : Int)))))
  clear F3
  go_wp2_with fail
  refine bodyPost_ret (results_cell_row (p := 5) (ty := 70) rfl _ _ (w.heap.size + 1) 70 _ (0, 0) _ rfl O6.out.1 Try.underlying70 rfl (by kernel_rfl)) rfl ?_
  exact ⟨rfl, (HD.out.1.trans (HD2.out.mono HD.out.1.size)).trans (O6.out.2.toBelow (by have := HD.out.1.size; have := HD2.out.size; omega) (fun k hk => by omega))⟩
set_option maxRecDepth 100000 in
set_option maxHeartbeats 1000000 in
theorem meetP_any (B : Nat) (w : World) (M N gf : Nat) (aN : Option Addr) (lN cN bt bc g p q : Nat) (m : Int) (rt : Nat → Nat) (fin : Nat → Bool) (h : ChS B w M N gf aN lN cN bt bc g rt) (hT : Mrw w gf 4 N (fun q => .bool (fin q)) N) (hp : p < N) (hq : q < N) (hN : N ≤ 4194304) (_hB : B ≤ w.heap.size) :
    Calls Try.prog 64 #[.agg #[.int .i64 (p : Int), .int .i64 (q : Int)], .int .i64 m, .pointer (some ⟨bt, 0, none⟩), .pointer (some ⟨bc, 0, none⟩)] w fun e w' => e = .returned (.int .i64 (if fin p ≠ fin q then 2 else if rt p ≠ rt q then 1 else 0)) ∧ Hid (ChS B w' M N gf aN lN cN bt bc g (if fin p ≠ fin q then rt else jn rt p q) ∧ Only w w' (fun k => k = g)) := by
  obtain ⟨W0, hW0⟩ : ∃ W0, w.alloc (.cells #[.int .i64 (p : Int), .int .i64 (q : Int)] 70) = W0 := ⟨_, rfl⟩
  have d0 : Below w.heap.size w W0 := by rw [← hW0]; exact (Below.refl _ _).alloc (Nat.le_refl _) _
  have b0 : W0.heap[w.heap.size]? = some (.cells #[.int .i64 (p : Int), .int .i64 (q : Int)] 70 (0, 0)) := by rw [← hW0]; exact World.alloc_heap_new _ _
  have h0 := h.on d0
  have hM := hT.below d0 hT.lt
  have rp := hM.at p hp
  have rq := hM.at q hq
  have c1 : W0.cell? ⟨bt, 1, none⟩ = some (.slice (some ⟨gf, 0, none⟩) N N) := cell_of h0.ht rfl
  have c2 : W0.cell? ⟨bc, 0, none⟩ = some (.slice (some ⟨g, 0, none⟩) N N) := cell_of h0.hc rfl
  have x0 : W0.cell? ⟨w.heap.size, 0, none⟩ = some (.int .i64 (p : Int)) := cell_of b0 rfl
  have x1 : W0.cell? ⟨w.heap.size, 1, none⟩ = some (.int .i64 (q : Int)) := cell_of b0 rfl
  have p0 : (0 : Int) ≤ (p : Int) := by omega
  have p1 : (p : Int) < (N : Int) := by omega
  have q0 : (0 : Int) ≤ (q : Int) := by omega
  have q1 : (q : Int) < (N : Int) := by omega
  have gne : ∀ (V : World), ChS B V M N gf aN lN cN bt bc g rt → bt ≠ g ∧ bc ≠ g := fun V hV => by
    obtain ⟨cs, e⟩ := hV.ch.blk
    refine ⟨fun e2 => ?_, fun e2 => ?_⟩
    · have := hV.ht
      rw [e2, e] at this
      cases this
    · have := hV.hc
      rw [e2, e] at this
      cases this
  obtain ⟨ng1, ng2⟩ := gne W0 h0
  have H := hide (And.intro h0 d0)
  have TJ : Hid (∀ k, Calls Try.prog 65 #[.agg #[.slice (some ⟨g, 0, none⟩) N N], .int .i64 (p : Int), .int .i64 (q : Int)] (W0.drewN k) fun e w' => e = .returned (.bool (decide (rt p ≠ rt q))) ∧ Hid (ChR w' g N (jn rt p q) ∧ Only W0 w' (fun k => k = g))) := hide (fun k => (join_any (W0.drewN k) g N p q rt (h0.ch.below (below_drewN2 (Below.refl _ _) k)) hp hq hN).mono fun e w' hh => ⟨hh.1, hide ⟨hh.2.out.1, (show Only W0 (W0.drewN k) (fun k => k = g) from (Only.ofBelow (below_drewN2 (Below.refl _ _) k))).trans hh.2.out.2⟩⟩)
  clear d0 b0 h0 hM h hT gne
  by_cases e : fin p = fin q
  · have e2 : ¬ (fin p ≠ fin q) := fun h => h e
    simp only [if_neg e2]
    rw [e] at rp
    clear e2 e
    generalize fin q = b at *
    by_cases er : rt p = rt q
    · have HE := hide er
      have e3 : ¬ (rt p ≠ rt q) := fun h => h er
      simp only [if_neg e3]
      have TJ2 : Hid (∀ k, Calls Try.prog 65 #[.agg #[.slice (some ⟨g, 0, none⟩) N N], .int .i64 (p : Int), .int .i64 (q : Int)] (W0.drewN k) fun e w' => e = .returned (.bool false) ∧ Hid (ChR w' g N (jn rt p q) ∧ Only W0 w' (fun k => k = g))) := hide (fun k => (TJ.out k).mono fun e w' hh => ⟨by rw [hh.1, HE.out]; simp, hh.2⟩)
      clear er e3 TJ
      go_enter Try.func64, Try.ntmps64
      go_upto_region 1 with fail
      go_quiet (fail)
      go_wp2_with (go_at_call 65; refine (TJ2.out _).mono ?_; rintro e w2 ⟨rfl, HJ⟩)
      go_ret
      exact ⟨rfl, hide ⟨⟨(HJ.out.2.block _ (Array.getElem?_eq_some_iff.1 H.out.1.ht).1 ng1).trans H.out.1.ht, (HJ.out.2.block _ (Array.getElem?_eq_some_iff.1 H.out.1.hc).1 ng2).trans H.out.1.hc, HJ.out.1, H.out.1.lt, H.out.1.lc, H.out.1.lg⟩, (Only.ofBelow H.out.2).andNew HJ.out.2 (fun _ _ h => h)⟩⟩
    · have HE := hide er
      simp only [if_pos (show rt p ≠ rt q from er)]
      have TJ2 : Hid (∀ k, Calls Try.prog 65 #[.agg #[.slice (some ⟨g, 0, none⟩) N N], .int .i64 (p : Int), .int .i64 (q : Int)] (W0.drewN k) fun e w' => e = .returned (.bool true) ∧ Hid (ChR w' g N (jn rt p q) ∧ Only W0 w' (fun k => k = g))) := hide (fun k => (TJ.out k).mono fun e w' hh => ⟨by rw [hh.1]; simp [HE.out], hh.2⟩)
      clear er TJ
      go_enter Try.func64, Try.ntmps64
      go_upto_region 1 with fail
      go_quiet (fail)
      go_wp2_with (go_at_call 65; refine (TJ2.out _).mono ?_; rintro e w2 ⟨rfl, HJ⟩)
      go_ret
      exact ⟨rfl, hide ⟨⟨(HJ.out.2.block _ (Array.getElem?_eq_some_iff.1 H.out.1.ht).1 ng1).trans H.out.1.ht, (HJ.out.2.block _ (Array.getElem?_eq_some_iff.1 H.out.1.hc).1 ng2).trans H.out.1.hc, HJ.out.1, H.out.1.lt, H.out.1.lc, H.out.1.lg⟩, (Only.ofBelow H.out.2).andNew HJ.out.2 (fun _ _ h => h)⟩⟩
  · simp only [if_pos (show fin p ≠ fin q from e)]
    have e1 : (fin p != fin q) = true := by simp [e]
    clear e TJ
    obtain ⟨b1, hb1⟩ : ∃ b, fin p = b := ⟨_, rfl⟩
    obtain ⟨b2, hb2⟩ : ∃ b, fin q = b := ⟨_, rfl⟩
    rw [hb1] at rp e1
    rw [hb2] at rq e1
    clear hb1 hb2
    cases b1 <;> cases b2
    · cases e1
    · clear e1
      go_enter Try.func64, Try.ntmps64
      go_upto_region 1 with fail
      go_quiet (fail)
      go_wp2_with fail
      go_ret
      exact ⟨rfl, hide ⟨H.out.1.on (below_drewN2 (Below.refl _ _) _), (Only.ofBelow H.out.2).drewN _⟩⟩
    · clear e1
      go_enter Try.func64, Try.ntmps64
      go_upto_region 1 with fail
      go_quiet (fail)
      go_wp2_with fail
      go_ret
      exact ⟨rfl, hide ⟨H.out.1.on (below_drewN2 (Below.refl _ _) _), (Only.ofBelow H.out.2).drewN _⟩⟩
    · cases e1
/-! ### A step of the walk over pairs -/
theorem info70 : (Try.prog.info? 70).map (fun i => (i.zero, i.size, i.bytes)) = some (some (.agg #[.int .i64 0, .int .i64 0]), 2, 16) := by kernel_rfl
def encP (x : Nat × Nat) : List Value := [.int .i64 (x.1 : Int), .int .i64 (x.2 : Int)]
theorem encP_len (x : Nat × Nat) : (encP x).length = 2 := rfl
def OwP (W : World) (B : Nat) (v : Value) (L : List (Nat × Nat)) : Prop := W.ownsRow B 70 2 v L.length (L.flatMap encP)
theorem owP_nil (W : World) (B : Nat) : OwP W B (.slice none 0 0) [] := World.ownsRow_nil _ _ _ _
theorem owP_rd {W : World} {B c : Nat} {b : Option Addr} {n : Nat} {X : List (Nat × Nat)} (h : OwP W B (.slice b n c) X) : n = X.length ∧ ∀ (j : Nat) (hj : j < X.length), ∃ g o, b = some ⟨g, o, none⟩ ∧ W.cell? ⟨g, o + j * 2, none⟩ = some (.int .i64 (X[j].1 : Int)) ∧ W.cell? ⟨g, o + j * 2 + 1, none⟩ = some (.int .i64 (X[j].2 : Int)) := by
  unfold OwP at h
  rcases h.2 with ⟨hv, hn⟩ | ⟨g, cap, cur, hv, hB, hg, h1, h2, h3, h4⟩
  · cases hv
    exact ⟨hn.symm, fun j hj => by omega⟩
  · cases hv
    have key : ∀ i, i < 2 → ∀ j (hj : j < X.length), W.cell? ⟨g, j * 2 + i, none⟩ = (encP X[j])[i]? := fun i hi j hj => by
      have q : (cur.toList.take (X.length * 2))[j * 2 + i]? = (X.flatMap encP)[j * 2 + i]? := by rw [h4]
      rw [List.getElem?_take_of_lt (by omega), flat_get encP 2 encP_len X j i hj hi] at q
      have e : ∃ v, (encP X[j])[i]? = some v := ⟨_, List.getElem?_eq_getElem (by rw [encP_len]; exact hi)⟩
      obtain ⟨v, hv⟩ := e
      rw [hv] at q ⊢
      exact cell_of hg (by simpa using q)
    refine ⟨rfl, fun j hj => ⟨g, 0, rfl, ?_, ?_⟩⟩
    · have := key 0 (by omega) j hj
      simpa [encP] using this
    · have := key 1 (by omega) j hj
      simpa [encP] using this
/-- The walk over pairs while it goes. -/
structure RuP (B : Nat) (w : World) (N M wb mb sb bt bc g gf : Nat) (aN : Option Addr) (lN cN : Nat) (vM vS : Value) (T : List (Nat × Nat)) (St : List (Int × Int)) (rt : Nat → Nat) : Prop where
  ch : ChS B w M N gf aN lN cN bt bc g rt
  bw : w.heap[wb]? = some (.cells #[.int .i64 (M : Int), .func (.func 63) #[] #[.pointer (some ⟨bt, 0, none⟩)], .func (.func 64) #[] #[.pointer (some ⟨bt, 0, none⟩), .pointer (some ⟨bc, 0, none⟩)]] 100 (0, 0))
  bm : w.heap[mb]? = some (.cells #[vM] 112 (0, 0))
  bs : w.heap[sb]? = some (.cells #[vS] 53 (0, 0))
  rM : OwP w B vM T
  rS : OwS w B vS St
  lw : B ≤ wb
  lm : B ≤ mb
  ls : B ≤ sb
  le : St.length = T.length
theorem RuP.on {B : Nat} {w w' : World} {N M wb mb sb bt bc g gf : Nat} {aN : Option Addr} {lN cN : Nat} {vM vS : Value} {T : List (Nat × Nat)} {St : List (Int × Int)} {rt : Nat → Nat} (h : RuP B w N M wb mb sb bt bc g gf aN lN cN vM vS T St rt) (d : Below w.heap.size w w') : RuP B w' N M wb mb sb bt bc g gf aN lN cN vM vS T St rt :=
  ⟨h.ch.on d, blk_on h.bw d, blk_on h.bm d, blk_on h.bs d, own_below h.rM d, own_below h.rS d, h.lw, h.lm, h.ls, h.le⟩
theorem own_tags {W : World} {B B' k n m sz sz' : Nat} {e e' : TypeId} {v u : Value} {xs ys : List Value} (h : W.ownsRow B e sz v n xs) (h' : W.ownsRow B' e' sz' u m ys) (ne : e' ≠ e) (hk : v.ownBlock = some k) (hk' : u.ownBlock = some k) : False := by
  obtain ⟨cs, fr, e2⟩ := own_ty h' hk'
  exact row_tag h e2 ne hk
theorem endsP_fin {B : Nat} {w w3 w4 w5 : World} {N M wb mb sb bt bc g gf : Nat} {aN : Option Addr} {lN cN : Nat} {t0 s0 : Option Addr} {k0 j0 L p q g9 c9 g8 c8 : Nat} {x1 x2 : Int} {T : List (Nat × Nat)} {St : List (Int × Int)} {rt : Nat → Nat}
    (h3 : RuP B w3 N M wb mb sb bt bc g gf aN lN cN (.slice t0 L k0) (.slice s0 L j0) T St rt) (D3 : Below B w w3) (hB : B ≤ w.heap.size) (eT : T.length = L) (eS : St.length = L)
    (O34 : Only w3 w4 (fun k => (Value.slice t0 L k0).ownBlock = some k))
    (ho4 : w4.ownsRow B 70 2 (.slice (some ⟨g9, 0, none⟩) (L + 1) c9) (L + 1) (T.flatMap encP ++ [.int .i64 (p : Int), .int .i64 (q : Int)]))
    (O45 : Only w4 w5 (fun k => (Value.slice s0 L j0).ownBlock = some k)) (ho5 : w5.ownsRow B 88 2 (.slice (some ⟨g8, 0, none⟩) (L + 1) c8) (L + 1) (St.flatMap encS ++ [.int .i64 x1, .int .i64 x2])) :
    RuP B ((w5.setCell ⟨mb, 0, none⟩ (.slice (some ⟨g9, 0, none⟩) (L + 1) c9)).setCell ⟨sb, 0, none⟩ (.slice (some ⟨g8, 0, none⟩) (L + 1) c8)) N M wb mb sb bt bc g gf aN lN cN (.slice (some ⟨g9, 0, none⟩) (L + 1) c9) (.slice (some ⟨g8, 0, none⟩) (L + 1) c8) (T ++ [(p, q)]) (St ++ [(x1, x2)]) rt ∧
      Below B w ((w5.setCell ⟨mb, 0, none⟩ (.slice (some ⟨g9, 0, none⟩) (L + 1) c9)).setCell ⟨sb, 0, none⟩ (.slice (some ⟨g8, 0, none⟩) (L + 1) c8)) := by
  have rM3 := h3.rM
  have hS4 : w4.ownsRow B 88 2 (.slice s0 L j0) St.length (St.flatMap encS) := row_only h3.rS O34 (fun k hk e => own_tags rM3 h3.rS (by decide) e hk)
  have k4 : ∀ {k : Nat} {cs : Array Value} {t : TypeId}, w3.heap[k]? = some (.cells cs t (0, 0)) → t ≠ 70 → t ≠ 88 → w5.heap[k]? = some (.cells cs t (0, 0)) := fun {k cs t} h ha hb => by
    have e4 := (O34.block k (Array.getElem?_eq_some_iff.1 h).1 (fun e => row_tag rM3 h ha e)).trans h
    exact (O45.block k (Array.getElem?_eq_some_iff.1 e4).1 (fun e => row_tag hS4 e4 hb e)).trans e4
  have bm5 := k4 h3.bm (by decide) (by decide)
  have bs5 := k4 h3.bs (by decide) (by decide)
  have bw5 := k4 h3.bw (by decide) (by decide)
  have bt5 := k4 h3.ch.ht (by decide) (by decide)
  have bc5 := k4 h3.ch.hc (by decide) (by decide)
  have ch5 : ChR w5 g N rt := by
    obtain ⟨ab, d, ⟨cur, c1, c2, c3⟩, hf⟩ := h3.ch.ch
    exact ⟨ab, d, ⟨cur, k4 c1 (by decide) (by decide), c2, c3⟩, hf⟩
  have hms : mb ≠ sb := fun e => by have := h3.bm; rw [e, h3.bs] at this; cases this
  have r5 := row_only ho4 O45 (fun k hk e => own_tags ho4 hS4 (by decide) hk e)
  have o1 := only_set w5 mb 0 (.slice (some ⟨g9, 0, none⟩) (L + 1) c9)
  have o2 := only_set (w5.setCell ⟨mb, 0, none⟩ (.slice (some ⟨g9, 0, none⟩) (L + 1) c9)) sb 0 (.slice (some ⟨g8, 0, none⟩) (L + 1) c8)
  have o3 : Only w5 ((w5.setCell ⟨mb, 0, none⟩ (.slice (some ⟨g9, 0, none⟩) (L + 1) c9)).setCell ⟨sb, 0, none⟩ (.slice (some ⟨g8, 0, none⟩) (L + 1) c8)) (fun k => k = mb ∨ k = sb) := (o1.mono fun _ _ e => .inl e).trans (o2.mono fun _ _ e => .inr e)
  have nt : ∀ {v : Value} {n sz : Nat} {e : TypeId} {xs : List Value}, w5.ownsRow B e sz v n xs → 112 ≠ e → 53 ≠ e → ∀ k, v.ownBlock = some k → ¬ (k = mb ∨ k = sb) := fun h ha hb k hk hh => by
    rcases hh with rfl | rfl
    · exact row_tag h bm5 ha hk
    · exact row_tag h bs5 hb hk
  have ng : ∀ {k : Nat} {cs : Array Value} {t : TypeId}, w5.heap[k]? = some (.cells cs t (0, 0)) → t ≠ 112 → t ≠ 53 → ¬ (k = mb ∨ k = sb) := fun h ha hb hh => by
    rcases hh with rfl | rfl
    · rw [bm5] at h; cases h; exact ha rfl
    · rw [bs5] at h; cases h; exact hb rfl
  have hs3 : B ≤ w3.heap.size := Nat.le_trans hB D3.size
  have hs4 : B ≤ w4.heap.size := Nat.le_trans hs3 O34.size
  have ch6 : ChS B w5 M N gf aN lN cN bt bc g rt := ⟨bt5, bc5, ch5, h3.ch.lt, h3.ch.lc, h3.ch.lg⟩
  have gg : ¬ (g = mb ∨ g = sb) := by
    obtain ⟨cs, e⟩ := ch5.blk
    exact ng e (by decide) (by decide)
  refine ⟨⟨ch6.only o3 (ng bt5 (by decide) (by decide)) (ng bc5 (by decide) (by decide)) gg, ?_, ?_, ?_, ?_, ?_, h3.lw, h3.lm, h3.ls, ?_⟩, ?_⟩
  · exact (o3.block wb (Array.getElem?_eq_some_iff.1 bw5).1 (ng bw5 (by decide) (by decide))).trans bw5
  · exact (Below.heap_setCell _ _ _ _ hms).trans (heap_setCell_same _ _ 0 _ 112 _ bm5)
  · exact heap_setCell_same _ _ 0 _ 53 _ ((Below.heap_setCell _ _ _ _ (fun e => hms e.symm)).trans bs5)
  · unfold OwP
    rw [List.flatMap_append, List.length_append, eT]
    exact row_only (by simpa [encP] using r5) o3 (nt r5 (by decide) (by decide))
  · unfold OwS
    rw [List.flatMap_append, List.length_append, eS]
    exact row_only (by simpa [encS] using ho5) o3 (nt ho5 (by decide) (by decide))
  · simp [eT, eS]
  · refine ((D3.trans (O34.toBelow hs3 (fun k hk => (rM3.lt k hk).1))).trans (O45.toBelow hs4 (fun k hk => (hS4.lt k hk).1))).trans (o3.toBelow (Nat.le_trans hs4 O45.size) (fun k hk => ?_))
    rcases hk with rfl | rfl
    · exact h3.lm
    · exact h3.ls
/-! ### A pair met already -/
set_option maxRecDepth 100000 in
set_option maxHeartbeats 1000000 in
theorem endsP_old (B : Nat) (w : World) (N M wb mb sb bt bc g gf : Nat) (aN : Option Addr) (lN cN : Nat) (vM vS : Value) (T : List (Nat × Nat)) (St : List (Int × Int)) (rt : Nat → Nat) (h : RuP B w N M wb mb sb bt bc g gf aN lN cN vM vS T St rt) (p q : Nat) (x1 x2 : Int) (fin : Nat → Bool) (hT : Mrw w gf 4 N (fun q => .bool (fin q)) N) (hp : p < N) (hq : q < N) (he : fin p = fin q) (hr : rt p = rt q) (hN : N ≤ 4194304) (hB : B ≤ w.heap.size) :
    Calls Try.prog 74 #[.agg #[.int .i64 (p : Int), .int .i64 (q : Int)], .agg #[.int .i64 x1, .int .i64 x2], .pointer (some ⟨wb, 0, none⟩), .pointer (some ⟨mb, 0, none⟩), .pointer (some ⟨sb, 0, none⟩)] w fun e w' => e = .returned (.bool false) ∧ ∃ vM' vS', Hid (RuP B w' N M wb mb sb bt bc g gf aN lN cN vM' vS' T St rt ∧ Below B w w') := by
  obtain ⟨W0, hW0⟩ : ∃ W0, (w.alloc (.cells #[.int .i64 (p : Int), .int .i64 (q : Int)] 70)).alloc (.cells #[.int .i64 x1, .int .i64 x2] 88) = W0 := ⟨_, rfl⟩
  have H2 := hide (two_al w #[.int .i64 (p : Int), .int .i64 (q : Int)] #[.int .i64 x1, .int .i64 x2] 70 88)
  rw [hW0] at H2
  have d0 := H2.out.1
  have B0 := H2.out.2.2.1
  have B1 := H2.out.2.1
  have h0 := h.on d0
  have c2 : W0.cell? ⟨wb, 2, none⟩ = some (.func (.func 64) #[] #[.pointer (some ⟨bt, 0, none⟩), .pointer (some ⟨bc, 0, none⟩)]) := cell_of h0.bw rfl
  have p7 : W0.cell? ⟨w.heap.size, 0, none⟩ = some (.int .i64 (p : Int)) := cell_of B1 rfl
  have p8 : W0.cell? ⟨w.heap.size, 1, none⟩ = some (.int .i64 (q : Int)) := cell_of B1 rfl
  obtain ⟨t0, k0, rfl⟩ := own_slice h0.rM
  obtain ⟨s0, j0, rfl⟩ := own_slice h0.rS
  have c3 : W0.cell? ⟨mb, 0, none⟩ = some (.slice t0 T.length k0) := cell_of h0.bm rfl
  have TM := meetP_any B W0 M N gf aN lN cN bt bc g p q (T.length : Int) rt fin h0.ch (hT.below d0 hT.lt) hp hq hN (Nat.le_trans hB d0.size)
  have en : ¬ (fin p ≠ fin q) := fun x => x he
  have rn : ¬ (rt p ≠ rt q) := fun x => x hr
  rw [if_neg en, if_neg rn, if_neg en, jn_same hr] at TM
  have HD := hide (And.intro d0 h0)
  obtain ⟨L, hL⟩ : ∃ L, T.length = L := ⟨_, rfl⟩
  rw [hL] at TM c3
  clear d0 h0 h B0 B1 he hr en rn hT hL
  go_enter Try.func74, Try.ntmps74
  go_wp2_with (go_at_call 64; refine TM.mono ?_; rintro e w2 ⟨rfl, HJ⟩)
  go_ret
  have kp : ∀ {k : Nat} {cs : Array Value} {t : TypeId}, W0.heap[k]? = some (.cells cs t (0, 0)) → t ≠ 3 → w2.heap[k]? = some (.cells cs t (0, 0)) := fun {k cs t} hk ht => (HJ.out.2.block k (Array.getElem?_eq_some_iff.1 hk).1 (fun e => by
    obtain ⟨cs', e2⟩ := HD.out.2.ch.ch.blk
    rw [e, e2] at hk
    cases hk
    exact ht rfl)).trans hk
  obtain ⟨hd, hh⟩ := HD.out
  have ng : ∀ {v : Value} {n sz : Nat} {e : TypeId} {xs : List Value}, W0.ownsRow B e sz v n xs → 3 ≠ e → ∀ k, v.ownBlock = some k → ¬ k = g := fun ho ne k hk e => by
    obtain ⟨cs', e2⟩ := hh.ch.ch.blk
    subst e
    exact row_tag ho e2 ne hk
  refine ⟨rfl, _, _, hide ⟨⟨HJ.out.1, kp hh.bw (by decide), kp hh.bm (by decide), kp hh.bs (by decide), row_only hh.rM HJ.out.2 (ng hh.rM (by decide)), row_only hh.rS HJ.out.2 (ng hh.rS (by decide)), hh.lw, hh.lm, hh.ls, hh.le⟩, (hd.mono hB).trans (HJ.out.2.toBelow (Nat.le_trans hB hd.size) (fun k hk => by rw [hk]; exact hh.ch.lg))⟩⟩
end Go.Proofs.Ytocoghljmlpdeaa
namespace Go.Proofs.Ytocoghljmlpdeaa
open Go.RowKit
/-! ### A region whose first operations make things, in whatever order, and whose others wait for all of them -/
def cntM (f : Nat → Bool) : Nat → Nat
  | 0 => 0
  | n + 1 => cntM f n + (if f n then 1 else 0)
theorem cntM_same {f g : Nat → Bool} {n : Nat} (h : ∀ i, i < n → g i = f i) : cntM g n = cntM f n := by
  induction n with
  | zero => rfl
  | succ n ih => simp only [cntM]; rw [ih (fun i hi => h i (by omega)), h n (by omega)]
theorem cntM_drop {f g : Nat → Bool} {j : Nat} (hj : f j = true) (gj : g j = false) (h : ∀ i, i ≠ j → g i = f i) : ∀ n, j < n → cntM g n + 1 = cntM f n
  | 0, hn => by omega
  | n + 1, hn => by
    simp only [cntM]
    rcases Nat.lt_or_ge j n with h1 | h1
    · have := cntM_drop hj gj h n h1
      rw [h n (by omega)]
      omega
    · have e : j = n := by omega
      subst e
      rw [cntM_same (f := f) (g := g) (fun i hi => h i (by omega)), hj, gj]
      simp
theorem cntM_least {f : Nat → Bool} : ∀ n, 0 < cntM f n → ∃ i, i < n ∧ f i = true ∧ ∀ j, j < i → f j = false
  | 0, h => by simp [cntM] at h
  | n + 1, h => by
    rcases Nat.eq_zero_or_pos (cntM f n) with h0 | h0
    · refine ⟨n, by omega, ?_, ?_⟩
      · simp only [cntM, h0] at h
        cases hf : f n with
        | true => rfl
        | false => rw [hf] at h; simp at h
      · intro j hj
        cases hf : f j with
        | false => rfl
        | true =>
          exfalso
          have : ∀ n, j < n → 0 < cntM f n := by
            intro n
            induction n with
            | zero => intro h; omega
            | succ n ih =>
              intro h
              simp only [cntM]
              rcases Nat.lt_or_ge j n with h1 | h1
              · have := ih h1; omega
              · have e : j = n := by omega
                subst e; rw [hf]; simp
          have := this n hj
          omega
    · obtain ⟨i, h1, h2, h3⟩ := cntM_least n h0
      exact ⟨i, by omega, h2, h3⟩
theorem cntM_zero {f : Nat → Bool} : ∀ n, cntM f n = 0 → ∀ i, i < n → f i = false
  | 0, _, i, h => by omega
  | n + 1, h, i, hi => by
    simp only [cntM] at h
    rcases Nat.lt_or_ge i n with h1 | h1
    · exact cntM_zero n (by omega) i h1
    · have e : i = n := by omega
      subst e
      cases hf : f i with
      | false => rfl
      | true => rw [hf] at h; simp at h
section
variable {P : Program} {ops : Array Oper} {Q : Exit → Act → World → Prop}
def updV (y : Nat → Value) (i : Nat) (x : Value) : Nat → Value := fun j => if j = i then x else y j
/-- What is asked of one of the first operations. -/
def Hop (P : Program) (ops : Array Oper) (Q : Exit → Act → World → Prop) (w : World) (fill : (Nat → Value) → Act) (Φ : Nat → Value → Nat → Nat → World → Prop) (i : Nat) (o : Oper) : Prop :=
  ∀ (y : Nat → Value) (W : World), Below w.heap.size w W → (∀ e ∈ o.after, Region.binds .any e = true → ∃ lo hi, hi ≤ W.heap.size ∧ Φ e.on (y e.on) lo hi W) →
    ∀ K : Act → World → Prop, Shut (∀ x a' W', Below W.heap.size W W' → Φ i x W.heap.size W'.heap.size W' → a' = fill (updV y i x) → K a' W') → if Region.wanted o (yielded ops (fill y).tmps) = true then Oper.wp P o (fill y) W K Q else K ((fill y).put o.dst undef) W
def Hops (P : Program) (ops : Array Oper) (Q : Exit → Act → World → Prop) (w : World) (fill : (Nat → Value) → Act) (Φ : Nat → Value → Nat → Nat → World → Prop) : Nat → List Oper → Prop
  | _, [] => True
  | k, o :: r => Hop P ops Q w fill Φ k o ∧ Hops P ops Q w fill Φ (k + 1) r
theorem Hops.at {w : World} {fill : (Nat → Value) → Act} {Φ : Nat → Value → Nat → Nat → World → Prop} : ∀ (l : List Oper) (k i : Nat) (o : Oper), Hops P ops Q w fill Φ k l → l[i]? = some o → Hop P ops Q w fill Φ (k + i) o
  | [], _, _, _, _, h => by simp at h
  | o' :: r, k, 0, o, H, h => by simp at h; subst h; exact H.1
  | o' :: r, k, i + 1, o, H, h => by
    have := Hops.at r (k + 1) i o H.2 (by simpa using h)
    rwa [show k + 1 + i = k + (i + 1) by omega] at this
/-- What has been made, one thing after the other. -/
structure Made (w : World) (Φ : Nat → Value → Nat → Nat → World → Prop) (ops : Array Oper) (n : Nat) (is : Nat → Bool) (y : Nat → Value) (lo hi : Nat → Nat) (W : World) : Prop where
  d : Below w.heap.size w W
  fact : ∀ i, i < n → is i = true → Φ i (y i) (lo i) (hi i) W
  at' : ∀ i, i < n → is i = true → w.heap.size ≤ lo i ∧ lo i ≤ hi i ∧ hi i ≤ W.heap.size
  apart : ∀ i j, i < n → j < n → is i = true → is j = true → i ≠ j → hi i ≤ lo j ∨ hi j ≤ lo i
  order : ∀ j o e, j < n → is j = true → ops[j]? = some o → e ∈ o.after → Region.binds .any e = true → hi e.on ≤ lo j
def depsB (ops : Array Oper) (n : Nat) : Bool := (List.range n).all fun i => match ops[i]? with
  | none => false
  | some o => o.after.all fun e => !Region.binds .any e || decide (e.on < i)
theorem depsB_at {n : Nat} (h : depsB ops n = true) {i : Nat} (hi : i < n) : ∃ o, ops[i]? = some o ∧ ∀ e ∈ o.after, Region.binds .any e = true → e.on < i := by
  unfold depsB at h
  rw [List.all_eq_true] at h
  have := h i (List.mem_range.2 hi)
  split at this
  · cases this
  · rename_i o ho
    refine ⟨o, ho, fun e he hb => ?_⟩
    rw [Array.all_eq_true_iff_forall_mem] at this
    have := this e he
    rw [hb] at this
    simpa using this
theorem line_more {L : List Oper} : ∀ (x k : Nat) (listed : Array Bool) (a : Act) (w : World), (∀ j o, L[j]? = some o → ops[k + j]? = some o) →
    lineB .any ops L.length k listed = true → wpList P ops Q L a w → wpAny P .any ops Q (L.length + x) listed a w := by
  induction L with
  | nil =>
    intro x k listed a w _ hB h
    have hr : Region.ready .any ops listed = [] := by simpa [lineB] using hB
    cases x with
    | zero => exact ⟨hr, h⟩
    | succ x => exact ⟨fun _ => h, fun i hi => by rw [hr] at hi; cases hi⟩
  | cons o L ih =>
    intro x k listed a w hl hB h
    have h0 : ops[k]? = some o := hl 0 o rfl
    simp only [List.length_cons, lineB, Bool.and_eq_true, decide_eq_true_eq] at hB
    obtain ⟨hr, hB'⟩ := hB
    rw [List.length_cons, show L.length + 1 + x = (L.length + x) + 1 by omega]
    refine ⟨fun h1 => (by rw [hr] at h1; cases h1), fun j hj => ?_⟩
    rw [hr] at hj
    obtain rfl := List.mem_singleton.1 hj
    have NX : ∀ a' w', wpList P ops Q L a' w' → wpAny P .any ops Q (L.length + x) (listed.setIfInBounds j true) a' w' := fun a' w' =>
      ih x (j + 1) _ a' w' (fun i o' ho => by have := hl (i + 1) o' (by simpa using ho); simpa [Nat.add_assoc, Nat.add_comm 1 i] using this) hB'
    unfold wpOp
    simp only [h0]
    unfold wpList at h
    split
    · rename_i hw
      rw [if_pos hw] at h
      exact h.imp (Oper.wp_mono NX) id
    · rename_i hw
      rw [if_neg hw] at h
      exact NX _ _ h
/-- Asked of a region's text. -/
def makeB (ops : Array Oper) (n : Nat) : Bool := Nat.ble n ops.size && phasedB .any ops n && depsB ops n && lineB .any ops (ops.size - n) n (Array.ofFn (n := ops.size) fun i => decide (i.1 < n))
def fills : Nat → List Oper → (Nat → Value) → Act → Act
  | _, [], _, a => a
  | k, o :: r, y, a => fills (k + 1) r y (a.put o.dst (y k))
def firstY (l : List Oper) (a : Act) (i : Nat) : Value := match l[i]? with
  | none => undef
  | some o => match o.dst with
    | none => undef
    | some d => a.tmps.getD d undef
theorem put_self (a : Act) (d : Nat) : a.put (some d) (a.tmps.getD d undef) = a := by
  unfold Act.put
  have : a.tmps.setIfInBounds d (a.tmps.getD d undef) = a.tmps := by
    refine Array.ext (by simp) (fun i h1 h2 => ?_)
    by_cases e : d = i
    · subst e
      simp [h2]
    · rw [Array.getElem_setIfInBounds_ne (by simpa using h1) e]
  simp only [this]
theorem fills_self (l : List Oper) (a : Act) : ∀ (r : List Oper) (k : Nat), (∀ j o, r[j]? = some o → l[k + j]? = some o) → fills k r (firstY l a) a = a
  | [], _, _ => rfl
  | o :: r, k, h => by
    have h0 : l[k]? = some o := h 0 o rfl
    have e : a.put o.dst (firstY l a k) = a := by
      unfold firstY
      rw [h0]
      show a.put o.dst (match o.dst with
        | none => undef
        | some d => a.tmps.getD d undef) = a
      cases o.dst with
      | none => rfl
      | some d => exact put_self a d
    unfold fills
    rw [e]
    exact fills_self l a r (k + 1) (fun j o' ho => by have := h (j + 1) o' (by simpa using ho); rwa [show k + 1 + j = k + (j + 1) by omega])
abbrev MkP := Value → Nat → Nat → World → Prop
def MonoP (p : MkP) : Prop := ∀ x lo hi W W', hi ≤ W.heap.size → Below W.heap.size W W' → p x lo hi W → p x lo hi W'
def MonoL : List MkP → Prop
  | [] => True
  | p :: r => MonoP p ∧ MonoL r
def phiL (L : List MkP) (i : Nat) : MkP := L.getD i (fun _ _ _ _ => True)
theorem MonoL.at : ∀ (L : List MkP) (i : Nat), MonoL L → MonoP (phiL L i)
  | [], _, _ => fun _ _ _ _ _ _ _ h => h
  | _ :: _, 0, h => h.1
  | _ :: r, i + 1, h => MonoL.at r i h.2
end
/-! ### A region whose operations come in whatever order, each with a fact of its own; a fact may be given up -/
section
variable {P : Program} {ops : Array Oper} {Q : Exit → Act → World → Prop}
/-- Is a value handed over? -/
def ndB (e : Edge) : Bool := match e.ground with
  | .data => true
  | .guard => true
  | _ => false
/-- What is known of an operation that has come up; whose values it speaks of besides; whose facts end with it. -/
structure It where
  reads : List Nat
  ret : List Nat
  p : (Nat → Value) → Nat → Nat → World → Prop
def itL (L : List It) (i : Nat) : It := L.getD i ⟨[], [], fun _ _ _ _ => True⟩
/-- What memory that is only added to leaves as it is. -/
def MonI (i : Nat) (t : It) : Prop := ∀ y y' lo hi W W', hi ≤ W.heap.size → Below W.heap.size W W' → (∀ j, j = i ∨ j ∈ t.reads → y' j = y j) → t.p y lo hi W → t.p y' lo hi W'
def MonIL : Nat → List It → Prop
  | _, [] => True
  | k, t :: r => MonI k t ∧ MonIL (k + 1) r
theorem MonIL.at : ∀ (L : List It) (k i : Nat), MonIL k L → MonI (k + i) (itL L i)
  | [], _, _, _ => fun _ _ _ _ _ _ _ _ _ h => h
  | _ :: _, _, 0, h => h.1
  | _ :: r, k, i + 1, h => by
    have := MonIL.at r (k + 1) i h.2
    rwa [show k + 1 + i = k + (i + 1) by omega] at this
/-- What a step leaves as it is. -/
def Stp (w : World) (L : List It) (i : Nat) (y : Nat → Value) (W W' : World) : Prop := Below w.heap.size w W' ∧ W.heap.size ≤ W'.heap.size ∧ ∀ j, j ≠ i → j ∉ (itL L i).ret → ∀ lo hi, hi ≤ W.heap.size → (itL L j).p y lo hi W → (itL L j).p y lo hi W'
theorem stp_of {w : World} {L : List It} {i : Nat} {y : Nat → Value} {W W' : World} (hm : MonIL 0 L) (d : Below w.heap.size w W) (d1 : Below W.heap.size W W') : Stp w L i y W W' :=
  ⟨d.trans (d1.mono d.size), d1.size, fun j _ _ lo hi hs h => by
    have := MonIL.at L 0 j hm y y lo hi W W' hs d1 (fun _ _ => rfl)
    exact this h⟩
def HopI (P : Program) (ops : Array Oper) (Q : Exit → Act → World → Prop) (w : World) (fill : (Nat → Value) → Act) (L : List It) (i : Nat) (o : Oper) : Prop :=
  ∀ (y : Nat → Value) (W : World), Below w.heap.size w W → (∀ e ∈ o.after, Region.binds .any e = true → ndB e = true → ∃ lo hi, w.heap.size ≤ lo ∧ hi ≤ W.heap.size ∧ (itL L e.on).p y lo hi W) →
    ∀ K : Act → World → Prop, Shut (∀ x a' W', Stp w L i y W W' → (itL L i).p (updV y i x) W.heap.size W'.heap.size W' → a' = fill (updV y i x) → K a' W') → if Region.wanted o (yielded ops (fill y).tmps) = true then Oper.wp P o (fill y) W K Q else K ((fill y).put o.dst undef) W
def HopsI (P : Program) (ops : Array Oper) (Q : Exit → Act → World → Prop) (w : World) (fill : (Nat → Value) → Act) (L : List It) : Nat → List Oper → Prop
  | _, [] => True
  | k, o :: r => HopI P ops Q w fill L k o ∧ HopsI P ops Q w fill L (k + 1) r
theorem HopsI.at {w : World} {fill : (Nat → Value) → Act} {L : List It} : ∀ (l : List Oper) (k i : Nat) (o : Oper), HopsI P ops Q w fill L k l → l[i]? = some o → HopI P ops Q w fill L (k + i) o
  | [], _, _, _, _, h => by simp at h
  | o' :: r, k, 0, o, H, h => by simp at h; subst h; exact H.1
  | o' :: r, k, i + 1, o, H, h => by
    have := HopsI.at r (k + 1) i o H.2 (by simpa using h)
    rwa [show k + 1 + i = k + (i + 1) by omega] at this
/-- What has come up. -/
structure MadeI (w : World) (L : List It) (ops : Array Oper) (n : Nat) (is : Nat → Bool) (y : Nat → Value) (lo hi : Nat → Nat) (W : World) : Prop where
  d : Below w.heap.size w W
  fact : ∀ i, i < n → is i = true → (∀ k, k < n → is k = true → i ∉ (itL L k).ret) → (itL L i).p y (lo i) (hi i) W
  at' : ∀ i, i < n → is i = true → w.heap.size ≤ lo i ∧ lo i ≤ hi i ∧ hi i ≤ W.heap.size
  apart : ∀ i j, i < n → j < n → is i = true → is j = true → i ≠ j → hi i ≤ lo j ∨ hi j ≤ lo i
  order : ∀ j o e, j < n → is j = true → ops[j]? = some o → e ∈ o.after → Region.binds .any e = true → hi e.on ≤ lo j
/-- Asked of the region's text: a fact that ends with k is wanted by none that may come behind k; a fact speaks of none that may come behind it. -/
def retB (ops : Array Oper) (n : Nat) (rs rd : List (List Nat)) : Bool :=
  ((List.range n).all fun k => (rs.getD k []).all fun j => (List.range n).all fun i => match ops[i]? with
    | none => false
    | some o => decide (i = k) || o.after.all (fun e => !Region.binds .any e || !ndB e || !(e.on == j)) || waitsL .any ops ops.size k i) &&
  ((List.range n).all fun k => (rd.getD k []).all fun j => waitsL .any ops ops.size k j)
theorem getD_map {α β : Type} (f : α → β) : ∀ (L : List α) (i : Nat) (d : α), (L.map f).getD i (f d) = f (L.getD i d)
  | [], _, _ => rfl
  | _ :: _, 0, _ => rfl
  | _ :: _, _ + 1, _ => by simp
theorem retB_at {n : Nat} {L : List It} (h : retB ops n (L.map It.ret) (L.map It.reads) = true) {k j i : Nat} {o : Oper} {e : Edge} (hk : k < n) (hi : i < n) (hne : i ≠ k) (hj : j ∈ (itL L k).ret) (ho : ops[i]? = some o) (he : e ∈ o.after) (hb : Region.binds .any e = true) (hnd : ndB e = true) (hej : e.on = j) : waitsL .any ops ops.size k i = true := by
  unfold retB at h
  rw [Bool.and_eq_true] at h
  have h := h.1
  rw [List.all_eq_true] at h
  have h1 := h k (List.mem_range.2 hk)
  rw [List.all_eq_true] at h1
  have e1 : (L.map It.ret).getD k [] = (itL L k).ret := getD_map It.ret L k ⟨[], [], fun _ _ _ _ => True⟩
  rw [e1] at h1
  have h2 := h1 j hj
  rw [List.all_eq_true] at h2
  have h3 := h2 i (List.mem_range.2 hi)
  rw [ho] at h3
  simp only [Bool.or_eq_true, decide_eq_true_eq] at h3
  rcases h3 with (h3 | h3) | h3
  · exact absurd h3 hne
  · rw [Array.all_eq_true_iff_forall_mem] at h3
    have := h3 e he
    rw [hb, hnd, hej] at this
    simp at this
  · exact h3
theorem readB_at {n : Nat} {L : List It} (h : retB ops n (L.map It.ret) (L.map It.reads) = true) {k j : Nat} (hk : k < n) (hj : j ∈ (itL L k).reads) : waitsL .any ops ops.size k j = true := by
  unfold retB at h
  rw [Bool.and_eq_true] at h
  have h := h.2
  rw [List.all_eq_true] at h
  have h1 := h k (List.mem_range.2 hk)
  rw [List.all_eq_true] at h1
  have e1 : (L.map It.reads).getD k [] = (itL L k).reads := getD_map It.reads L k ⟨[], [], fun _ _ _ _ => True⟩
  rw [e1] at h1
  exact h1 j hj
theorem waits_listed {listed : Array Bool} (hc : ClosedL .any ops listed) {k j f : Nat} (hw : waitsL .any ops f k j = true) (hk : listed.getD k true = true) : listed.getD j true = true := by
  cases hj : listed.getD j true with
  | true => rfl
  | false =>
    obtain ⟨e, oj, h1, h2, h3, h4⟩ := waits_un hc hj f k hw
    have := hc k oj h1 hk e h2 h3
    rw [this] at h4
    cases h4
theorem st_go {w : World} {fill : (Nat → Value) → Act} {L : List It} {n : Nat} {l2 : List Oper} {l1 : List Oper}
    (hp : phasedB .any ops n = true) (hdep : depsB ops n = true) (hret : retB ops n (L.map It.ret) (L.map It.reads) = true) (hl1 : ∀ j o, l1[j]? = some o ↔ (j < n ∧ ops[j]? = some o)) (hl2 : ∀ j o, l2[j]? = some o → ops[n + j]? = some o)
    (hline : ∀ listed : Array Bool, listed.size = ops.size → (∀ i, listed.getD i true = decide (i < n ∨ ops.size ≤ i)) → lineB .any ops l2.length n listed = true)
    (hmono : MonIL 0 L) (hop : HopsI P ops Q w fill L 0 l1)
    (hfin : ∀ y lo hi W, MadeI w L ops n (fun _ => true) y lo hi W → wpList P ops Q l2 (fill y) W) :
    ∀ (m : Nat) (x : Nat) (listed : Array Bool) (y : Nat → Value) (lo hi : Nat → Nat) (W : World), listed.size = ops.size → (∀ i, n ≤ i → i < ops.size → listed.getD i true = false) → ClosedL .any ops listed → cntM (fun i => !listed.getD i true) n = m →
      MadeI w L ops n (fun i => listed.getD i true) y lo hi W → wpAny P .any ops Q (l2.length + m + x) listed (fill y) W := by
  intro m
  induction m with
  | zero =>
    intro x listed y lo hi W hsz hge hc hcnt hM
    have hall : ∀ i, i < n → listed.getD i true = true := fun i hi => by
      have := cntM_zero n hcnt i hi
      simpa using this
    refine line_more x n listed (fill y) W hl2 (hline listed hsz ?_) (hfin y lo hi W ?_)
    · intro i
      rcases Nat.lt_or_ge i n with h | h
      · rw [hall i h]; simp [h]
      · rcases Nat.lt_or_ge i ops.size with h2 | h2
        · rw [hge i h h2]; symm; simp; omega
        · rw [show listed.getD i true = true by simp [Array.getElem?_eq_none (show listed.size ≤ i by omega)]]; symm; simp; omega
    · exact ⟨hM.d, fun i hi _ hr => hM.fact i hi (hall i hi) (fun k hk _ => hr k hk rfl), fun i hi _ => hM.at' i hi (hall i hi), fun i j hi hj _ _ h => hM.apart i j hi hj (hall i hi) (hall j hj) h, fun j o e hj _ ho he hb => hM.order j o e hj (hall j hj) ho he hb⟩
  | succ m ih =>
    intro x listed y lo hi W hsz hge hc hcnt hM
    obtain ⟨i0, hi0, hf0, hless⟩ := cntM_least (f := fun i => !listed.getD i true) n (by omega)
    have hun : listed.getD i0 true = false := by simpa using hf0
    obtain ⟨o0, ho0, hd0⟩ := depsB_at hdep hi0
    have hin : ∀ i, i < n → i < listed.size := fun i hi => by
      obtain ⟨o, ho, _⟩ := depsB_at hdep hi
      have := (Array.getElem?_eq_some_iff.1 ho).1
      omega
    have hready : i0 ∈ Region.ready .any ops listed := mem_ready.2 ⟨hun, o0, ho0, fun e he hb => by
      have h1 := hd0 e he hb
      have h2 := hless e.on h1
      have h3 : listed.getD e.on true = true := by simpa using h2
      have h4 := hin e.on (by omega)
      simpa [h4] using h3⟩
    rw [show l2.length + (m + 1) + x = (l2.length + m + x) + 1 by omega]
    refine ⟨fun h => (by rw [h] at hready; cases hready), fun j hj => ?_⟩
    have hjn : j < n := phased_lt hp hc hi0 hun hj
    obtain ⟨hjun, oj, hoj, hall⟩ := mem_ready.1 hj
    have H := HopsI.at l1 0 j oj hop ((hl1 j oj).2 ⟨hjn, hoj⟩)
    rw [Nat.zero_add] at H
    refine wpOp_step hoj (fun K' hK => H y W hM.d (fun e he hb hnd => ?_) K' ?_)
    · have h1 := hall e he hb
      obtain ⟨o', ho', hd'⟩ := depsB_at hdep hjn
      rw [hoj] at ho'
      cases ho'
      have h2 := hd' e he hb
      have h3 := getD_to _ _ h1
      refine ⟨lo e.on, hi e.on, (hM.at' e.on (by omega) h3).1, (hM.at' e.on (by omega) h3).2.2, hM.fact e.on (by omega) h3 (fun k hk hlk hmem => ?_)⟩
      have hkj : j ≠ k := fun h => by rw [h] at hjun; rw [hjun] at hlk; cases hlk
      have := waits_listed hc (retB_at hret hk hjn hkj hmem hoj he hb hnd rfl) hlk
      rw [hjun] at this
      cases this
    · rintro v a' W' ⟨hD, hs2, hkeep⟩ hΦ rfl
      have hsj := hin j hjn
      have g1 : (listed.setIfInBounds j true).getD j true = true := by simp [hsj]
      refine hK _ _ ?_
      refine ih x (listed.setIfInBounds j true) (updV y j v) (fun i => if i = j then W.heap.size else lo i) (fun i => if i = j then W'.heap.size else hi i) W' (by simp [hsz]) (fun i h1 h2 => ?_) (hc.set hj) ?_ ?_
      · rw [getD_set_ne true (by omega)]; exact hge i h1 h2
      · have := cntM_drop (f := fun i => !listed.getD i true) (g := fun i => !(listed.setIfInBounds j true).getD i true) (j := j) (by simp only [hjun]; rfl) (by simp only [g1]; rfl) (fun i hi => by simp only [getD_set_ne true (Ne.symm hi)]) n hjn
        omega
      · have old : ∀ i, i ≠ j → (listed.setIfInBounds j true).getD i true = true → listed.getD i true = true := fun i h1 h2 => by rwa [getD_set_ne true (Ne.symm h1)] at h2
        have new : ∀ i, listed.getD i true = true → (listed.setIfInBounds j true).getD i true = true := fun i h => by
          by_cases e : j = i
          · subst e; exact g1
          · rwa [getD_set_ne true e]
        have hs := hM.d.size
        refine ⟨hD, fun i hi h hr => ?_, fun i hi h => ?_, fun i k hi hk h1 h2 hne => ?_, fun k o e hk h1 ho he hb => ?_⟩
        · by_cases e : i = j
          · subst e; simp only [if_pos]; exact hΦ
          · simp only [if_neg e]
            have hli := old i e h
            have h5 := hkeep i e (hr j hjn g1) _ _ (hM.at' i hi hli).2.2 (hM.fact i hi hli (fun k hk hlk => hr k hk (new k hlk)))
            have h6 := MonIL.at L 0 i hmono y (updV y j v) (lo i) _ W' W' (Nat.le_trans (hM.at' i hi hli).2.2 hs2) (Below.refl _ _) (fun q hq => by
              rw [Nat.zero_add] at hq
              have hne : q ≠ j := by
                rcases hq with hq | hq
                · rw [hq]; exact e
                · intro hqj
                  have := waits_listed hc (readB_at hret hi hq) hli
                  rw [hqj, hjun] at this
                  cases this
              simp [updV, hne])
            exact h6 h5
        · by_cases e : i = j
          · subst e; simp only [if_pos]; exact ⟨hs, hs2, Nat.le_refl _⟩
          · simp only [if_neg e]; have := hM.at' i hi (old i e h); exact ⟨this.1, this.2.1, by omega⟩
        · by_cases e : i = j
          · have e2 : k ≠ j := fun h => hne (by rw [e, h])
            simp only [if_pos e, if_neg e2]
            exact Or.inr (hM.at' k hk (old k e2 h2)).2.2
          · by_cases e2 : k = j
            · simp only [if_neg e, if_pos e2]
              exact Or.inl (hM.at' i hi (old i e h1)).2.2
            · simp only [if_neg e, if_neg e2]
              exact hM.apart i k hi hk (old i e h1) (old k e2 h2) hne
        · obtain ⟨o', ho', hd'⟩ := depsB_at hdep hk
          rw [ho] at ho'
          cases ho'
          have hlt := hd' e he hb
          by_cases e1 : k = j
          · subst e1
            rw [hoj] at ho
            cases ho
            have h3 := getD_to _ _ (hall e he hb)
            have e2 : e.on ≠ k := by omega
            simp only [if_pos, if_neg e2]
            exact (hM.at' e.on (by omega) h3).2.2
          · have h4 := old k e1 h1
            have h5 := getD_to _ _ (hc k o ho h4 e he hb)
            have e2 : e.on ≠ j := fun h => by rw [h, hjun] at h5; cases h5
            simp only [if_neg e1, if_neg e2]
            exact hM.order k o e hk h4 ho he hb
/-- Asked of a region's text. -/
def stB (ops : Array Oper) (n : Nat) (rs rd : List (List Nat)) : Bool := makeB ops n && retB ops n rs rd
/-- **A region whose first operations come in whatever order, each with a fact of its own.** -/
theorem wp_region_st {id : Nat} {a : Act} {w : World} {l : List Oper} (L : List It) (hm : P.follows .mixedOrders = true) (hB : stB l.toArray L.length (L.map It.ret) (L.map It.reads) = true) (hmono : MonIL 0 L)
    (h : ∀ F : (Nat → Value) → Act, F = (fun y => fills 0 (l.take L.length) y a) → HopsI P l.toArray Q w F L 0 (l.take L.length) ∧ ∀ y lo hi W, MadeI w L l.toArray L.length (fun _ => true) y lo hi W → wpList P l.toArray Q (l.drop L.length) (F y) W) : (Code.region id l.toArray true).wp P Q a w := by
  unfold stB makeB at hB
  simp only [Bool.and_eq_true] at hB
  obtain ⟨⟨⟨⟨h0, h2⟩, h3⟩, h4⟩, h5⟩ := hB
  have hn : L.length ≤ l.length := by simpa using Nat.le_of_ble_eq_true h0
  refine wp_region_any hm ?_
  have hl2 : (l.drop L.length).length = l.toArray.size - L.length := by simp
  have F := st_go (P := P) (Q := Q) (w := w) (fill := fun y => fills 0 (l.take L.length) y a) (L := L) (n := L.length) (ops := l.toArray) (l1 := l.take L.length) (l2 := l.drop L.length) h2 h3 h5
    (fun j o => by
      rw [List.getElem?_take]
      split
      · rename_i h; simp [h]
      · rename_i h; constructor
        · intro h'; cases h'
        · intro h'; exact absurd h'.1 h)
    (fun j o ho => by rw [List.getElem?_drop] at ho; simpa using ho)
    (fun listed hs hg => by
      rw [hl2]
      have e : listed = Array.ofFn (n := l.toArray.size) fun i => decide (i.1 < L.length) := by
        refine Array.ext (by simp [hs]) (fun i h5 h6 => ?_)
        have := hg i
        simp only [Array.getElem_ofFn]
        have e1 : listed.getD i true = listed[i] := by simp [h5]
        rw [← e1, this]
        have : i < l.toArray.size := by omega
        by_cases h7 : i < L.length
        · simp [h7]
        · simp only [h7, false_or, decide_false, decide_eq_false_iff_not]; omega
      rw [e]; exact h4)
    hmono (h _ rfl).1 (h _ rfl).2 L.length 0 (Array.replicate l.toArray.size false) (firstY l a) (fun _ => 0) (fun _ => 0) (w.drewN 1) (by simp) (fun i h5 h6 => by simp at h6; simp [h6]) (closed_none _ _) ?_ ?_
  · have e : (l.drop L.length).length + L.length + 0 = l.toArray.size := by rw [hl2]; simp; omega
    rw [e, fills_self l a (l.take L.length) 0 (fun j o ho => by
      rw [List.getElem?_take] at ho
      split at ho
      · simpa using ho
      · cases ho)] at F
    exact F
  · have : ∀ k, k ≤ L.length → cntM (fun i => !(Array.replicate l.toArray.size false).getD i true) k = k := by
      intro k
      induction k with
      | zero => intro _; rfl
      | succ k ih =>
        intro hk
        have h5 : k < l.toArray.size := by simp; omega
        simp only [cntM]
        rw [ih (by omega)]
        have : (Array.replicate l.toArray.size false).getD k true = false := by simp at h5; simp [h5]
        simp only [this]; rfl
    exact this L.length (Nat.le_refl _)
  · have none : ∀ i, i < L.length → (Array.replicate l.toArray.size false).getD i true = true → False := fun i hi h => by
      have : i < l.length := by omega
      simp [this] at h
    exact ⟨⟨rfl, rfl, rfl, Nat.le_refl _, fun _ _ => rfl⟩, fun i hi h => (none i hi h).elim, fun i hi h => (none i hi h).elim, fun i j hi _ h _ _ => (none i hi h).elim, fun j o e hj h _ _ _ => (none j hj h).elim⟩
/-- None gives it up. -/
def notR (rs : List (List Nat)) (i : Nat) : Bool := rs.all fun l => !l.contains i
theorem notR_all {L : List It} {n : Nat} {is : Nat → Bool} (i : Nat) (h : notR (L.map It.ret) i = true) : ∀ k, k < n → is k = true → i ∉ (itL L k).ret := fun k _ _ hm => by
  unfold notR at h
  rw [List.all_eq_true] at h
  rcases Nat.lt_or_ge k L.length with hk | hk
  · have e : (itL L k).ret = (L[k]).ret := by unfold itL; simp [hk]
    have := h (L[k]).ret (List.mem_map.2 ⟨L[k], List.getElem_mem hk, rfl⟩)
    rw [e] at hm
    simp [hm] at this
  · have e : (itL L k).ret = [] := by unfold itL; simp [List.getElem?_eq_none hk]
    rw [e] at hm
    cases hm
/-- What a store leaves as it is, place by place. -/
def Keeps (y : Nat → Value) (W W' : World) (rs : List Nat) : Nat → List It → Prop
  | _, [] => True
  | k, t :: r => (k ∈ rs ∨ ∀ lo hi, hi ≤ W.heap.size → t.p y lo hi W → t.p y lo hi W') ∧ Keeps y W W' rs (k + 1) r
theorem Keeps.at {y : Nat → Value} {W W' : World} {rs : List Nat} : ∀ (L : List It) (k j : Nat), Keeps y W W' rs k L → k + j ∉ rs → ∀ lo hi, hi ≤ W.heap.size → (itL L j).p y lo hi W → (itL L j).p y lo hi W'
  | [], _, _, _, _ => fun _ _ _ h => h
  | _ :: _, _, 0, h, hn => h.1.resolve_left hn
  | _ :: r, k, j + 1, h, hn => Keeps.at r (k + 1) j h.2 (by rwa [show k + 1 + j = k + (j + 1) by omega])
/-- One value. -/
def vI (i : Nat) (v : Value) : It := ⟨[], [], fun y _ _ _ => y i = v⟩
theorem vI_mono (i : Nat) (v : Value) : MonI i (vI i v) := fun _ _ _ _ _ _ _ _ hy h => (hy i (Or.inl rfl)).trans h
/-- A fact of the value alone. -/
def pI (i : Nat) (p : MkP) : It := ⟨[], [], fun y lo hi W => p (y i) lo hi W⟩
theorem pI_mono {i : Nat} {p : MkP} (h : MonoP p) : MonI i (pI i p) := fun y y' lo hi W W' hs d hy hp => by
  show p (y' i) lo hi W'
  rw [hy i (Or.inl rfl)]
  exact h _ _ _ _ _ hs d hp
end
/-! ### The same, the state told by its slots alone -/
section
variable {P : Program} {Q : Exit → Act → World → Prop}
theorem put_put (a : Act) (d : Nat) (x v : Value) : (a.put (some d) x).put (some d) v = a.put (some d) v := by
  simp [Act.put]
theorem put_swap (a : Act) {d e : Nat} (x v : Value) (h : d ≠ e) : (a.put (some d) x).put (some e) v = (a.put (some e) v).put (some d) x := by
  simp only [Act.put]
  rw [Array.setIfInBounds_comm _ _ h]
theorem put_size (a : Act) (d : Option Nat) (x : Value) : (a.put d x).tmps.size = a.tmps.size := by
  cases d <;> simp [Act.put]
theorem put_get (a : Act) {d : Nat} (x : Value) (h : d < a.tmps.size) : (a.put (some d) x).tmps.getD d undef = x := by
  simp [Act.put, h]
theorem put_other (a : Act) {d : Nat} {e : Option Nat} (x : Value) (h : e ≠ some d) : (a.put e x).tmps.getD d undef = a.tmps.getD d undef := by
  cases e with
  | none => rfl
  | some e =>
    have h2 : e ≠ d := fun h3 => h (by rw [h3])
    simp [Act.put, Array.getElem?_setIfInBounds_ne h2]
/-- Does one of the operations write a slot? -/
def wrB (d : Nat) (l : List Oper) : Bool := l.any fun o => o.dst == some d
theorem wrB_not {d : Nat} {l : List Oper} (h : wrB d l = false) {o : Oper} (ho : o ∈ l) : o.dst ≠ some d := by
  unfold wrB at h
  rw [List.any_eq_false] at h
  simpa using h o ho
/-- Each slot is written once. -/
def onceB : List Oper → Bool
  | [] => true
  | o :: r => (match o.dst with
    | none => true
    | some d => !wrB d r) && onceB r
theorem fills_other : ∀ (r : List Oper) (k : Nat) (y : Nat → Value) (a : Act) (d : Nat), wrB d r = false → (fills k r y a).tmps.getD d undef = a.tmps.getD d undef
  | [], _, _, _, _, _ => rfl
  | o :: r, k, y, a, d, h => by
    have h1 := wrB_not h (List.mem_cons_self ..)
    have h2 : wrB d r = false := by
      unfold wrB at h ⊢
      rw [List.any_cons, Bool.or_eq_false_iff] at h
      exact h.2
    unfold fills
    rw [fills_other r (k + 1) y _ d h2, put_other _ _ h1]
theorem fills_put : ∀ (r : List Oper) (k : Nat) (y : Nat → Value) (a : Act) (d : Nat) (x : Value), wrB d r = false → (fills k r y a).put (some d) x = fills k r y (a.put (some d) x)
  | [], _, _, _, _, _, _ => rfl
  | o :: r, k, y, a, d, x, h => by
    have h1 := wrB_not h (List.mem_cons_self ..)
    have h2 : wrB d r = false := by
      unfold wrB at h ⊢
      rw [List.any_cons, Bool.or_eq_false_iff] at h
      exact h.2
    unfold fills
    rw [fills_put r (k + 1) y _ d x h2]
    cases hd : o.dst with
    | none => rfl
    | some e => rw [put_swap _ _ _ (fun h3 => h1 (by rw [hd, h3]))]
theorem fills_congr : ∀ (r : List Oper) (k : Nat) (y y' : Nat → Value) (a : Act), (∀ j, k ≤ j → y j = y' j) → fills k r y a = fills k r y' a
  | [], _, _, _, _, _ => rfl
  | o :: r, k, y, y', a, h => by
    unfold fills
    rw [h k (Nat.le_refl _)]
    exact fills_congr r (k + 1) y y' _ (fun j hj => h j (by omega))
theorem fills_at : ∀ (r : List Oper) (k j : Nat) (y : Nat → Value) (a : Act) (o : Oper) (d : Nat), onceB r = true → r[j]? = some o → o.dst = some d → d < a.tmps.size → (fills k r y a).tmps.getD d undef = y (k + j)
  | [], _, _, _, _, _, _, _, h, _, _ => by simp at h
  | o' :: r, k, 0, y, a, o, d, h1, h, hd, hs => by
    simp at h
    subst h
    unfold onceB at h1
    rw [hd, Bool.and_eq_true] at h1
    unfold fills
    rw [fills_other r (k + 1) y _ d (by simpa using h1.1), hd, put_get _ _ hs]
    rfl
  | o' :: r, k, j + 1, y, a, o, d, h1, h, hd, hs => by
    unfold onceB at h1
    rw [Bool.and_eq_true] at h1
    unfold fills
    rw [fills_at r (k + 1) j y _ o d h1.2 (by simpa using h) hd (by rw [put_size]; exact hs)]
    rw [show k + 1 + j = k + (j + 1) by omega]
theorem fills_upd : ∀ (r : List Oper) (k j : Nat) (y : Nat → Value) (a : Act) (o : Oper) (x : Value), onceB r = true → r[j]? = some o → (fills k r y a).put o.dst x = fills k r (updV y (k + j) x) a
  | [], _, _, _, _, _, _, _, h => by simp at h
  | o' :: r, k, 0, y, a, o, x, h1, h => by
    simp at h
    subst h
    unfold onceB at h1
    rw [Bool.and_eq_true] at h1
    have e1 : updV y (k + 0) x k = x := by simp [updV]
    have e2 : ∀ b, fills (k + 1) r (updV y (k + 0) x) b = fills (k + 1) r y b := fun b => fills_congr r (k + 1) _ _ b (fun j hj => by simp only [updV]; rw [if_neg (by omega)])
    unfold fills
    rw [e1, e2]
    cases hd : o'.dst with
    | none => rfl
    | some d =>
      rw [hd] at h1
      rw [fills_put r (k + 1) y _ d x (by simpa using h1.1), put_put]
  | o' :: r, k, j + 1, y, a, o, x, h1, h => by
    unfold onceB at h1
    rw [Bool.and_eq_true] at h1
    unfold fills
    rw [fills_upd r (k + 1) j y _ o x h1.2 (by simpa using h)]
    have e1 : updV y (k + (j + 1)) x k = y k := by simp only [updV]; rw [if_neg (by omega)]
    rw [e1, show k + 1 + j = k + (j + 1) by omega]
/-- What is asked of an operation: A is the state, told by its slots. -/
def HopJ (P : Program) (ops : Array Oper) (Q : Exit → Act → World → Prop) (w : World) (a : Act) (l : List Oper) (L : List It) (i : Nat) (o : Oper) : Prop :=
  ∀ (A : Act) (y : Nat → Value) (W : World), (∀ (j : Nat) (o' : Oper) (d : Nat), l[j]? = some o' → o'.dst = some d → A.tmps.getD d undef = y j) → (∀ d, wrB d l = false → A.tmps.getD d undef = a.tmps.getD d undef) → Below w.heap.size w W → (∀ e ∈ o.after, Region.binds .any e = true → ndB e = true → ∃ lo hi, w.heap.size ≤ lo ∧ hi ≤ W.heap.size ∧ (itL L e.on).p y lo hi W) →
    ∀ K : Act → World → Prop, Shut (∀ x W', Stp w L i y W W' → (itL L i).p (updV y i x) W.heap.size W'.heap.size W' → K (A.put o.dst x) W') → if Region.wanted o (yielded ops A.tmps) = true then Oper.wp P o A W K Q else K (A.put o.dst undef) W
def HopsJ (P : Program) (ops : Array Oper) (Q : Exit → Act → World → Prop) (w : World) (a : Act) (l : List Oper) (L : List It) : Nat → List Oper → Prop
  | _, [] => True
  | k, o :: r => HopJ P ops Q w a l L k o ∧ HopsJ P ops Q w a l L (k + 1) r
/-- The slots that are written are there. -/
def slotsB (n : Nat) (l : List Oper) : Bool := l.all fun o => match o.dst with
  | none => true
  | some d => Nat.blt d n
theorem hops_of {ops : Array Oper} {w : World} {a : Act} {l : List Oper} {L : List It} (hs : slotsB a.tmps.size l = true) (h1 : onceB l = true) : ∀ (r : List Oper) (k : Nat), (∀ j o, r[j]? = some o → l[k + j]? = some o) → HopsJ P ops Q w a l L k r → HopsI P ops Q w (fun y => fills 0 l y a) L k r
  | [], _, _, _ => trivial
  | o :: r, k, hl, H => by
    refine ⟨fun y W d hd K hK => ?_, hops_of hs h1 r (k + 1) (fun j o' ho => by have := hl (j + 1) o' (by simpa using ho); rwa [show k + 1 + j = k + (j + 1) by omega]) H.2⟩
    have hk : l[k]? = some o := hl 0 o rfl
    refine H.1 (fills 0 l y a) y W (fun j o' d' hj hd' => ?_) (fun d' hd' => fills_other l 0 y a d' hd') d hd K (fun x W' hst hp => ?_)
    · have hlt : d' < a.tmps.size := by
        unfold slotsB at hs
        rw [List.all_eq_true] at hs
        have := hs o' (List.mem_of_getElem? hj)
        rw [hd'] at this
        simpa using this
      have := fills_at l 0 j y a o' d' h1 hj hd' hlt
      rwa [Nat.zero_add] at this
    · refine hK x _ W' hst hp ?_
      have := fills_upd l 0 k y a o x h1 hk
      rwa [Nat.zero_add] at this
/-- **A region whose first operations come in whatever order, the state told by its slots.** -/
theorem wp_region_sl {id : Nat} {a : Act} {w : World} {l : List Oper} (L : List It) (hm : P.follows .mixedOrders = true) (hB : stB l.toArray L.length (L.map It.ret) (L.map It.reads) = true) (hO : onceB (l.take L.length) = true) (hS : slotsB a.tmps.size (l.take L.length) = true) (hmono : MonIL 0 L)
    (hop : HopsJ P l.toArray Q w a (l.take L.length) L 0 (l.take L.length))
    (hfin : ∀ y lo hi W, MadeI w L l.toArray L.length (fun _ => true) y lo hi W → wpList P l.toArray Q (l.drop L.length) (fills 0 (l.take L.length) y a) W) : (Code.region id l.toArray true).wp P Q a w :=
  wp_region_st L hm hB hmono (fun F hF => by
    subst hF
    exact ⟨hops_of hS hO _ 0 (fun j o ho => by rwa [Nat.zero_add]) hop, hfin⟩)
end
/-! ### A region whose operations come in whatever order, one of which changes memory that was there -/
section
variable {P : Program} {ops : Array Oper} {Q : Exit → Act → World → Prop}
/-- What a step leaves as it is. -/
def StpJ (J : Bool → World → Prop) (i0 : Nat) (b : Bool) (L : List It) (i : Nat) (y : Nat → Value) (W W' : World) : Prop := J (i == i0 || b) W' ∧ W.heap.size ≤ W'.heap.size ∧ ∀ j, j ≠ i → j ∉ (itL L i).ret → ∀ lo hi, hi ≤ W.heap.size → (itL L j).p y lo hi W → (itL L j).p y lo hi W'
theorem stpj_of {J : Bool → World → Prop} {i0 : Nat} {b : Bool} {L : List It} {i : Nat} {y : Nat → Value} {W W' : World} (hm : MonIL 0 L) (hj : J (i == i0 || b) W') (d1 : Below W.heap.size W W') : StpJ J i0 b L i y W W' :=
  ⟨hj, d1.size, fun j _ _ lo hi hs h => by
    have := MonIL.at L 0 j hm y y lo hi W W' hs d1 (fun _ _ => rfl)
    exact this h⟩
def HopK (P : Program) (ops : Array Oper) (Q : Exit → Act → World → Prop) (w : World) (J : Bool → World → Prop) (i0 : Nat) (fill : (Nat → Value) → Act) (L : List It) (i : Nat) (o : Oper) : Prop :=
  ∀ (y : Nat → Value) (W : World) (b : Bool), ((i == i0) = true → b = false) → J b W → w.heap.size ≤ W.heap.size → (∀ e ∈ o.after, Region.binds .any e = true → ndB e = true → ∃ lo hi, w.heap.size ≤ lo ∧ hi ≤ W.heap.size ∧ (itL L e.on).p y lo hi W) →
    ∀ K : Act → World → Prop, Shut (∀ x a' W', StpJ J i0 b L i y W W' → (itL L i).p (updV y i x) W.heap.size W'.heap.size W' → a' = fill (updV y i x) → K a' W') → if Region.wanted o (yielded ops (fill y).tmps) = true then Oper.wp P o (fill y) W K Q else K ((fill y).put o.dst undef) W
def HopsK (P : Program) (ops : Array Oper) (Q : Exit → Act → World → Prop) (w : World) (J : Bool → World → Prop) (i0 : Nat) (fill : (Nat → Value) → Act) (L : List It) : Nat → List Oper → Prop
  | _, [] => True
  | k, o :: r => HopK P ops Q w J i0 fill L k o ∧ HopsK P ops Q w J i0 fill L (k + 1) r
theorem HopsK.at {w : World} {J : Bool → World → Prop} {i0 : Nat} {fill : (Nat → Value) → Act} {L : List It} : ∀ (l : List Oper) (k i : Nat) (o : Oper), HopsK P ops Q w J i0 fill L k l → l[i]? = some o → HopK P ops Q w J i0 fill L (k + i) o
  | [], _, _, _, _, h => by simp at h
  | o' :: r, k, 0, o, H, h => by simp at h; subst h; exact H.1
  | o' :: r, k, i + 1, o, H, h => by
    have := HopsK.at r (k + 1) i o H.2 (by simpa using h)
    rwa [show k + 1 + i = k + (i + 1) by omega] at this
/-- What has come up. -/
structure MadeJ (w : World) (J : Bool → World → Prop) (i0 : Nat) (L : List It) (ops : Array Oper) (n : Nat) (is : Nat → Bool) (y : Nat → Value) (lo hi : Nat → Nat) (W : World) : Prop where
  d : J (is i0) W
  sz : w.heap.size ≤ W.heap.size
  fact : ∀ i, i < n → is i = true → (∀ k, k < n → is k = true → i ∉ (itL L k).ret) → (itL L i).p y (lo i) (hi i) W
  at' : ∀ i, i < n → is i = true → w.heap.size ≤ lo i ∧ lo i ≤ hi i ∧ hi i ≤ W.heap.size
  apart : ∀ i j, i < n → j < n → is i = true → is j = true → i ≠ j → hi i ≤ lo j ∨ hi j ≤ lo i
  order : ∀ j o e, j < n → is j = true → ops[j]? = some o → e ∈ o.after → Region.binds .any e = true → hi e.on ≤ lo j
theorem stj_go {w : World} {J : Bool → World → Prop} {i0 : Nat} {fill : (Nat → Value) → Act} {L : List It} {n : Nat} {l2 : List Oper} {l1 : List Oper}
    (hi0 : i0 < n) (hp : phasedB .any ops n = true) (hdep : depsB ops n = true) (hret : retB ops n (L.map It.ret) (L.map It.reads) = true) (hl1 : ∀ j o, l1[j]? = some o ↔ (j < n ∧ ops[j]? = some o)) (hl2 : ∀ j o, l2[j]? = some o → ops[n + j]? = some o)
    (hline : ∀ listed : Array Bool, listed.size = ops.size → (∀ i, listed.getD i true = decide (i < n ∨ ops.size ≤ i)) → lineB .any ops l2.length n listed = true)
    (hmono : MonIL 0 L) (hop : HopsK P ops Q w J i0 fill L 0 l1)
    (hfin : ∀ y lo hi W, MadeJ w J i0 L ops n (fun _ => true) y lo hi W → wpList P ops Q l2 (fill y) W) :
    ∀ (m : Nat) (x : Nat) (listed : Array Bool) (y : Nat → Value) (lo hi : Nat → Nat) (W : World), listed.size = ops.size → (∀ i, n ≤ i → i < ops.size → listed.getD i true = false) → ClosedL .any ops listed → cntM (fun i => !listed.getD i true) n = m →
      MadeJ w J i0 L ops n (fun i => listed.getD i true) y lo hi W → wpAny P .any ops Q (l2.length + m + x) listed (fill y) W := by
  intro m
  induction m with
  | zero =>
    intro x listed y lo hi W hsz hge hc hcnt hM
    have hall : ∀ i, i < n → listed.getD i true = true := fun i hi => by
      have := cntM_zero n hcnt i hi
      simpa using this
    refine line_more x n listed (fill y) W hl2 (hline listed hsz ?_) (hfin y lo hi W ?_)
    · intro i
      rcases Nat.lt_or_ge i n with h | h
      · rw [hall i h]; simp [h]
      · rcases Nat.lt_or_ge i ops.size with h2 | h2
        · rw [hge i h h2]; symm; simp; omega
        · rw [show listed.getD i true = true by simp [Array.getElem?_eq_none (show listed.size ≤ i by omega)]]; symm; simp; omega
    · exact ⟨by have q := hM.d; simp only [hall i0 hi0] at q; exact q, hM.sz, fun i hi _ hr => hM.fact i hi (hall i hi) (fun k hk _ => hr k hk rfl), fun i hi _ => hM.at' i hi (hall i hi), fun i j hi hj _ _ h => hM.apart i j hi hj (hall i hi) (hall j hj) h, fun j o e hj _ ho he hb => hM.order j o e hj (hall j hj) ho he hb⟩
  | succ m ih =>
    intro x listed y lo hi W hsz hge hc hcnt hM
    obtain ⟨i9, hi9, hf0, hless⟩ := cntM_least (f := fun i => !listed.getD i true) n (by omega)
    have hun : listed.getD i9 true = false := by simpa using hf0
    obtain ⟨o0, ho0, hd0⟩ := depsB_at hdep hi9
    have hin : ∀ i, i < n → i < listed.size := fun i hi => by
      obtain ⟨o, ho, _⟩ := depsB_at hdep hi
      have := (Array.getElem?_eq_some_iff.1 ho).1
      omega
    have hready : i9 ∈ Region.ready .any ops listed := mem_ready.2 ⟨hun, o0, ho0, fun e he hb => by
      have h1 := hd0 e he hb
      have h2 := hless e.on h1
      have h3 : listed.getD e.on true = true := by simpa using h2
      have h4 := hin e.on (by omega)
      simpa [h4] using h3⟩
    rw [show l2.length + (m + 1) + x = (l2.length + m + x) + 1 by omega]
    refine ⟨fun h => (by rw [h] at hready; cases hready), fun j hj => ?_⟩
    have hjn : j < n := phased_lt hp hc hi9 hun hj
    obtain ⟨hjun, oj, hoj, hall⟩ := mem_ready.1 hj
    have H := HopsK.at l1 0 j oj hop ((hl1 j oj).2 ⟨hjn, hoj⟩)
    rw [Nat.zero_add] at H
    refine wpOp_step hoj (fun K' hK => H y W (listed.getD i0 true) (fun e => (eq_of_beq e) ▸ hjun) hM.d hM.sz (fun e he hb hnd => ?_) K' ?_)
    · have h1 := hall e he hb
      obtain ⟨o', ho', hd'⟩ := depsB_at hdep hjn
      rw [hoj] at ho'
      cases ho'
      have h2 := hd' e he hb
      have h3 := getD_to _ _ h1
      refine ⟨lo e.on, hi e.on, (hM.at' e.on (by omega) h3).1, (hM.at' e.on (by omega) h3).2.2, hM.fact e.on (by omega) h3 (fun k hk hlk hmem => ?_)⟩
      have hkj : j ≠ k := fun h => by rw [h] at hjun; rw [hjun] at hlk; cases hlk
      have := waits_listed hc (retB_at hret hk hjn hkj hmem hoj he hb hnd rfl) hlk
      rw [hjun] at this
      cases this
    · rintro v a' W' ⟨hD, hs2, hkeep⟩ hΦ rfl
      have hsj := hin j hjn
      have g1 : (listed.setIfInBounds j true).getD j true = true := by simp [hsj]
      refine hK _ _ ?_
      refine ih x (listed.setIfInBounds j true) (updV y j v) (fun i => if i = j then W.heap.size else lo i) (fun i => if i = j then W'.heap.size else hi i) W' (by simp [hsz]) (fun i h1 h2 => ?_) (hc.set hj) ?_ ?_
      · rw [getD_set_ne true (by omega)]; exact hge i h1 h2
      · have := cntM_drop (f := fun i => !listed.getD i true) (g := fun i => !(listed.setIfInBounds j true).getD i true) (j := j) (by simp only [hjun]; rfl) (by simp only [g1]; rfl) (fun i hi => by simp only [getD_set_ne true (Ne.symm hi)]) n hjn
        omega
      · have old : ∀ i, i ≠ j → (listed.setIfInBounds j true).getD i true = true → listed.getD i true = true := fun i h1 h2 => by rwa [getD_set_ne true (Ne.symm h1)] at h2
        have new : ∀ i, listed.getD i true = true → (listed.setIfInBounds j true).getD i true = true := fun i h => by
          by_cases e : j = i
          · subst e; exact g1
          · rwa [getD_set_ne true e]
        have hs := hM.sz
        refine ⟨?_, Nat.le_trans hs hs2, fun i hi h hr => ?_, fun i hi h => ?_, fun i k hi hk h1 h2 hne => ?_, fun k o e hk h1 ho he hb => ?_⟩
        · show J ((listed.setIfInBounds j true).getD i0 true) W'
          by_cases e : j = i0
          · subst e; rw [g1]; simpa using hD
          · rw [getD_set_ne true e]; rw [show (j == i0) = false by simpa using e, Bool.false_or] at hD; exact hD
        · by_cases e : i = j
          · subst e; simp only [if_pos]; exact hΦ
          · simp only [if_neg e]
            have hli := old i e h
            have h5 := hkeep i e (hr j hjn g1) _ _ (hM.at' i hi hli).2.2 (hM.fact i hi hli (fun k hk hlk => hr k hk (new k hlk)))
            have h6 := MonIL.at L 0 i hmono y (updV y j v) (lo i) _ W' W' (Nat.le_trans (hM.at' i hi hli).2.2 hs2) (Below.refl _ _) (fun q hq => by
              rw [Nat.zero_add] at hq
              have hne : q ≠ j := by
                rcases hq with hq | hq
                · rw [hq]; exact e
                · intro hqj
                  have := waits_listed hc (readB_at hret hi hq) hli
                  rw [hqj, hjun] at this
                  cases this
              simp [updV, hne])
            exact h6 h5
        · by_cases e : i = j
          · subst e; simp only [if_pos]; exact ⟨hs, hs2, Nat.le_refl _⟩
          · simp only [if_neg e]; have := hM.at' i hi (old i e h); exact ⟨this.1, this.2.1, by omega⟩
        · by_cases e : i = j
          · have e2 : k ≠ j := fun h => hne (by rw [e, h])
            simp only [if_pos e, if_neg e2]
            exact Or.inr (hM.at' k hk (old k e2 h2)).2.2
          · by_cases e2 : k = j
            · simp only [if_neg e, if_pos e2]
              exact Or.inl (hM.at' i hi (old i e h1)).2.2
            · simp only [if_neg e, if_neg e2]
              exact hM.apart i k hi hk (old i e h1) (old k e2 h2) hne
        · obtain ⟨o', ho', hd'⟩ := depsB_at hdep hk
          rw [ho] at ho'
          cases ho'
          have hlt := hd' e he hb
          by_cases e1 : k = j
          · subst e1
            rw [hoj] at ho
            cases ho
            have h3 := getD_to _ _ (hall e he hb)
            have e2 : e.on ≠ k := by omega
            simp only [if_pos, if_neg e2]
            exact (hM.at' e.on (by omega) h3).2.2
          · have h4 := old k e1 h1
            have h5 := getD_to _ _ (hc k o ho h4 e he hb)
            have e2 : e.on ≠ j := fun h => by rw [h, hjun] at h5; cases h5
            simp only [if_neg e1, if_neg e2]
            exact hM.order k o e hk h4 ho he hb
/-- **A region whose first operations come in whatever order, each with a fact of its own.** -/
theorem wp_region_stj {id : Nat} {a : Act} {w : World} {l : List Oper} (J : Bool → World → Prop) (i0 : Nat) (L : List It) (hi0 : Nat.blt i0 L.length = true) (hJ0 : J false (w.drewN 1)) (hm : P.follows .mixedOrders = true) (hB : stB l.toArray L.length (L.map It.ret) (L.map It.reads) = true) (hmono : MonIL 0 L)
    (h : ∀ F : (Nat → Value) → Act, F = (fun y => fills 0 (l.take L.length) y a) → HopsK P l.toArray Q w J i0 F L 0 (l.take L.length) ∧ ∀ y lo hi W, MadeJ w J i0 L l.toArray L.length (fun _ => true) y lo hi W → wpList P l.toArray Q (l.drop L.length) (F y) W) : (Code.region id l.toArray true).wp P Q a w := by
  unfold stB makeB at hB
  simp only [Bool.and_eq_true] at hB
  obtain ⟨⟨⟨⟨h0, h2⟩, h3⟩, h4⟩, h5⟩ := hB
  have hn : L.length ≤ l.length := by simpa using Nat.le_of_ble_eq_true h0
  refine wp_region_any hm ?_
  have hl2 : (l.drop L.length).length = l.toArray.size - L.length := by simp
  have F := stj_go (P := P) (Q := Q) (w := w) (J := J) (i0 := i0) (fill := fun y => fills 0 (l.take L.length) y a) (L := L) (n := L.length) (ops := l.toArray) (l1 := l.take L.length) (l2 := l.drop L.length) (by simpa using hi0) h2 h3 h5
    (fun j o => by
      rw [List.getElem?_take]
      split
      · rename_i h; simp [h]
      · rename_i h; constructor
        · intro h'; cases h'
        · intro h'; exact absurd h'.1 h)
    (fun j o ho => by rw [List.getElem?_drop] at ho; simpa using ho)
    (fun listed hs hg => by
      rw [hl2]
      have e : listed = Array.ofFn (n := l.toArray.size) fun i => decide (i.1 < L.length) := by
        refine Array.ext (by simp [hs]) (fun i h5 h6 => ?_)
        have := hg i
        simp only [Array.getElem_ofFn]
        have e1 : listed.getD i true = listed[i] := by simp [h5]
        rw [← e1, this]
        have : i < l.toArray.size := by omega
        by_cases h7 : i < L.length
        · simp [h7]
        · simp only [h7, false_or, decide_false, decide_eq_false_iff_not]; omega
      rw [e]; exact h4)
    hmono (h _ rfl).1 (h _ rfl).2 L.length 0 (Array.replicate l.toArray.size false) (firstY l a) (fun _ => 0) (fun _ => 0) (w.drewN 1) (by simp) (fun i h5 h6 => by simp at h6; simp [h6]) (closed_none _ _) ?_ ?_
  · have e : (l.drop L.length).length + L.length + 0 = l.toArray.size := by rw [hl2]; simp; omega
    rw [e, fills_self l a (l.take L.length) 0 (fun j o ho => by
      rw [List.getElem?_take] at ho
      split at ho
      · simpa using ho
      · cases ho)] at F
    exact F
  · have : ∀ k, k ≤ L.length → cntM (fun i => !(Array.replicate l.toArray.size false).getD i true) k = k := by
      intro k
      induction k with
      | zero => intro _; rfl
      | succ k ih =>
        intro hk
        have h5 : k < l.toArray.size := by simp; omega
        simp only [cntM]
        rw [ih (by omega)]
        have : (Array.replicate l.toArray.size false).getD k true = false := by simp at h5; simp [h5]
        simp only [this]; rfl
    exact this L.length (Nat.le_refl _)
  · have none : ∀ i, i < L.length → (Array.replicate l.toArray.size false).getD i true = true → False := fun i hi h => by
      have : i < l.length := by omega
      simp [this] at h
    have hi1 : i0 < l.length := by
      have : i0 < L.length := by simpa using hi0
      omega
    exact ⟨by simpa [hi1] using hJ0, Nat.le_refl _, fun i hi h => (none i hi h).elim, fun i hi h => (none i hi h).elim, fun i j hi _ h _ _ => (none i hi h).elim, fun j o e hj h _ _ _ => (none j hj h).elim⟩
theorem stpj_keeps {J : Bool → World → Prop} {i0 : Nat} {b : Bool} {L : List It} {i : Nat} {y : Nat → Value} {W W' : World} (rs : List Nat) (hr : (itL L i).ret = rs) (d : J (i == i0 || b) W') (hs : W.heap.size ≤ W'.heap.size) (h : Keeps y W W' (i :: rs) 0 L) : StpJ J i0 b L i y W W' := ⟨d, hs, fun j hj hn => Keeps.at L 0 j h (by rw [Nat.zero_add]; rw [hr] at hn; simp [hj, hn])⟩
/-- What is asked of an operation: A is the state, told by its slots. -/
def HopL (P : Program) (ops : Array Oper) (Q : Exit → Act → World → Prop) (w : World) (J : Bool → World → Prop) (i0 : Nat) (a : Act) (l : List Oper) (L : List It) (i : Nat) (o : Oper) : Prop :=
  ∀ (A : Act) (y : Nat → Value) (W : World) (b : Bool), (∀ (j : Nat) (o' : Oper) (d : Nat), l[j]? = some o' → o'.dst = some d → A.tmps.getD d undef = y j) → (∀ d, wrB d l = false → A.tmps.getD d undef = a.tmps.getD d undef) → ((i == i0) = true → b = false) → J b W → w.heap.size ≤ W.heap.size → (∀ e ∈ o.after, Region.binds .any e = true → ndB e = true → ∃ lo hi, w.heap.size ≤ lo ∧ hi ≤ W.heap.size ∧ (itL L e.on).p y lo hi W) →
    ∀ K : Act → World → Prop, Shut (∀ x W', StpJ J i0 b L i y W W' → (itL L i).p (updV y i x) W.heap.size W'.heap.size W' → K (A.put o.dst x) W') → if Region.wanted o (yielded ops A.tmps) = true then Oper.wp P o A W K Q else K (A.put o.dst undef) W
def HopsL (P : Program) (ops : Array Oper) (Q : Exit → Act → World → Prop) (w : World) (J : Bool → World → Prop) (i0 : Nat) (a : Act) (l : List Oper) (L : List It) : Nat → List Oper → Prop
  | _, [] => True
  | k, o :: r => HopL P ops Q w J i0 a l L k o ∧ HopsL P ops Q w J i0 a l L (k + 1) r
theorem hopsl_of {ops : Array Oper} {w : World} {J : Bool → World → Prop} {i0 : Nat} {a : Act} {l : List Oper} {L : List It} (hs : slotsB a.tmps.size l = true) (h1 : onceB l = true) : ∀ (r : List Oper) (k : Nat), (∀ j o, r[j]? = some o → l[k + j]? = some o) → HopsL P ops Q w J i0 a l L k r → HopsK P ops Q w J i0 (fun y => fills 0 l y a) L k r
  | [], _, _, _ => trivial
  | o :: r, k, hl, H => by
    refine ⟨fun y W b hb d hz hd K hK => ?_, hopsl_of hs h1 r (k + 1) (fun j o' ho => by have := hl (j + 1) o' (by simpa using ho); rwa [show k + 1 + j = k + (j + 1) by omega]) H.2⟩
    have hk : l[k]? = some o := hl 0 o rfl
    refine H.1 (fills 0 l y a) y W b (fun j o' d' hj hd' => ?_) (fun d' hd' => fills_other l 0 y a d' hd') hb d hz hd K (fun x W' hst hp => ?_)
    · have hlt : d' < a.tmps.size := by
        unfold slotsB at hs
        rw [List.all_eq_true] at hs
        have := hs o' (List.mem_of_getElem? hj)
        rw [hd'] at this
        simpa using this
      have := fills_at l 0 j y a o' d' h1 hj hd' hlt
      rwa [Nat.zero_add] at this
    · refine hK x _ W' hst hp ?_
      have := fills_upd l 0 k y a o x h1 hk
      rwa [Nat.zero_add] at this
/-- **A region whose first operations come in whatever order, the state told by its slots.** -/
theorem wp_region_sj {id : Nat} {a : Act} {w : World} {l : List Oper} (J : Bool → World → Prop) (i0 : Nat) (L : List It) (hi0 : Nat.blt i0 L.length = true) (hJ0 : J false (w.drewN 1)) (hm : P.follows .mixedOrders = true) (hB : stB l.toArray L.length (L.map It.ret) (L.map It.reads) = true) (hO : onceB (l.take L.length) = true) (hS : slotsB a.tmps.size (l.take L.length) = true) (hmono : MonIL 0 L)
    (hop : HopsL P l.toArray Q w J i0 a (l.take L.length) L 0 (l.take L.length))
    (hfin : ∀ y lo hi W, MadeJ w J i0 L l.toArray L.length (fun _ => true) y lo hi W → wpList P l.toArray Q (l.drop L.length) (fills 0 (l.take L.length) y a) W) : (Code.region id l.toArray true).wp P Q a w :=
  wp_region_stj J i0 L hi0 hJ0 hm hB hmono (fun F hF => by
    subst hF
    exact ⟨hopsl_of hS hO _ 0 (fun j o ho => by rwa [Nat.zero_add]) hop, hfin⟩)
end
end Go.Proofs.Ytocoghljmlpdeaa
namespace Go.Proofs.Ytocoghljmlpdeaa
open Go.RowKit Go.Maps
attribute [local go_sem] Oper.semAt_some
/-! ### A pair not met yet -/
/-- What all worlds keep: all but what R tells; all that was there, till the operation has come up. -/
def JO (w : World) (R : Nat → Prop) : Bool → World → Prop := fun b W => (b = false → Below w.heap.size w W) ∧ Only w W R
theorem JO_first {w W : World} {R : Nat → Prop} (d : Below w.heap.size w W) : JO w R false W := ⟨fun _ => d, Only.ofBelow d⟩
theorem JO_on {w W W' : World} {R : Nat → Prop} {b : Bool} (d : JO w R b W) (d1 : Below W.heap.size W W') : JO w R b W' := ⟨fun h => (d.1 h).trans (d1.mono (d.1 h).size), d.2.trans (Only.ofBelow d1)⟩
theorem JO_put {w W W' : World} {R : Nat → Prop} {b : Bool} (d : JO w R b W) (o : Only W W' R) : JO w R true W' := ⟨fun h => (by cases h), d.2.trans o⟩
theorem JO_blk {w W : World} {R : Nat → Prop} {b : Bool} {k : Nat} {ob : Obj} (d : JO w R b W) (h : w.heap[k]? = some ob) (n : ¬ R k) : W.heap[k]? = some ob := (d.2.block k (Array.getElem?_eq_some_iff.1 h).1 n).trans h
/-- A row of one item of two cells, new. -/
def bxP (B : Nat) (t : TypeId) (u v : Value) : MkP := fun x lo hi W => x = .slice (some ⟨lo, 0, none⟩) 1 1 ∧ B ≤ lo ∧ lo < hi ∧ W.heap[lo]? = some (.cells #[u, v] t (0, 0))
theorem bxP_mono {B : Nat} {t : TypeId} {u v : Value} : MonoP (bxP B t u v) := fun _ _ _ _ _ hs d ⟨e, l, l2, z⟩ => ⟨e, l, l2, (d.block _ (by omega)).trans z⟩
theorem bxP_keep {B lo hi : Nat} {t : TypeId} {u v x : Value} {W W' : World} {R : Nat → Prop} (hh : hi ≤ W.heap.size) (h : bxP B t u v x lo hi W) (o : Only W W' R) (hR : ∀ k, R k → k < B) : bxP B t u v x lo hi W' :=
  ⟨h.1, h.2.1, h.2.2.1, (o.block lo (by have := h.2.2.1; omega) (fun q => by have := hR _ q; have := h.2.1; omega)).trans h.2.2.2⟩
/-- A row with what was put behind it. -/
def apP (B : Nat) (t sz n : Nat) (xs : List Value) : MkP := fun x _ _ W => ∃ g c, x = .slice (some ⟨g, 0, none⟩) n c ∧ W.ownsRow B t sz (.slice (some ⟨g, 0, none⟩) n c) n xs
theorem apP_mono {B : Nat} {t sz n : Nat} {xs : List Value} : MonoP (apP B t sz n xs) := fun _ _ _ _ _ _ d ⟨g, c, e, h⟩ => ⟨g, c, e, own_below h d⟩
set_option maxRecDepth 100000 in
set_option maxHeartbeats 16000000 in
theorem endsP_new (B : Nat) (w : World) (N M wb mb sb bt bc g gf : Nat) (aN : Option Addr) (lN cN : Nat) (vM vS : Value) (T : List (Nat × Nat)) (St : List (Int × Int)) (rt : Nat → Nat) (h : RuP B w N M wb mb sb bt bc g gf aN lN cN vM vS T St rt) (p q : Nat) (x1 x2 : Int) (fin : Nat → Bool) (hT : Mrw w gf 4 N (fun q => .bool (fin q)) N) (hp : p < N) (hq : q < N) (hm : fin p ≠ fin q ∨ rt p ≠ rt q) (hN : N ≤ 4194304) (hB : B ≤ w.heap.size) (hTl : T.length ≤ 4194304) :
    Calls Try.prog 74 #[.agg #[.int .i64 (p : Int), .int .i64 (q : Int)], .agg #[.int .i64 x1, .int .i64 x2], .pointer (some ⟨wb, 0, none⟩), .pointer (some ⟨mb, 0, none⟩), .pointer (some ⟨sb, 0, none⟩)] w fun e w' => e = .returned (.bool (decide (fin p ≠ fin q))) ∧ ∃ vM' vS', Hid (RuP B w' N M wb mb sb bt bc g gf aN lN cN vM' vS' (T ++ [(p, q)]) (St ++ [(x1, x2)]) (if fin p ≠ fin q then rt else jn rt p q) ∧ Below B w w') := by
  obtain ⟨i7, hi7, hz70, hz71, hz72⟩ := info_parts info70
  obtain ⟨i8, hi8, hz80, hz81, hz82⟩ := info_parts info88
  obtain ⟨W0, hW0⟩ : ∃ W0, (w.alloc (.cells #[.int .i64 (p : Int), .int .i64 (q : Int)] 70)).alloc (.cells #[.int .i64 x1, .int .i64 x2] 88) = W0 := ⟨_, rfl⟩
  have H2 := hide (two_al w #[.int .i64 (p : Int), .int .i64 (q : Int)] #[.int .i64 x1, .int .i64 x2] 70 88)
  rw [hW0] at H2
  have d0 := H2.out.1
  have B0 := H2.out.2.2.1
  have B1 := H2.out.2.1
  have h0 := h.on d0
  have c2 : W0.cell? ⟨wb, 2, none⟩ = some (.func (.func 64) #[] #[.pointer (some ⟨bt, 0, none⟩), .pointer (some ⟨bc, 0, none⟩)]) := cell_of h0.bw rfl
  have p7 : W0.cell? ⟨w.heap.size, 0, none⟩ = some (.int .i64 (p : Int)) := cell_of B1 rfl
  have p8 : W0.cell? ⟨w.heap.size, 1, none⟩ = some (.int .i64 (q : Int)) := cell_of B1 rfl
  obtain ⟨t0, k0, rfl⟩ := own_slice h0.rM
  obtain ⟨s0, j0, rfl⟩ := own_slice h0.rS
  have c3 : W0.cell? ⟨mb, 0, none⟩ = some (.slice t0 T.length k0) := cell_of h0.bm rfl
  have TM := meetP_any B W0 M N gf aN lN cN bt bc g p q (T.length : Int) rt fin h0.ch (hT.below d0 hT.lt) hp hq hN (Nat.le_trans hB d0.size)
  obtain ⟨rt', hrt'⟩ : ∃ r, (if fin p ≠ fin q then rt else jn rt p q) = r := ⟨_, rfl⟩
  rw [hrt'] at TM
  rw [hrt']
  obtain ⟨m, hmm⟩ : ∃ m : Int, (if fin p ≠ fin q then 2 else if rt p ≠ rt q then 1 else 0) = m := ⟨_, rfl⟩
  rw [hmm] at TM
  have m0 : ¬ m = 0 := by
    rw [← hmm]
    by_cases e1 : fin p ≠ fin q
    · rw [if_pos e1]; omega
    · rw [if_neg e1]
      by_cases e2 : rt p ≠ rt q
      · rw [if_pos e2]; omega
      · exact absurd hm (by simp only [not_or]; exact ⟨e1, e2⟩)
  have m2 : decide (fin p ≠ fin q) = decide (m = 2) := by
    rw [← hmm]
    by_cases e1 : fin p ≠ fin q
    · rw [if_pos e1]; simp [e1]
    · rw [if_neg e1]
      by_cases e2 : rt p ≠ rt q
      · rw [if_pos e2]; simp only [e1]; rfl
      · rw [if_neg e2]; simp only [e1]; rfl
  rw [m2]
  have hle := h.le
  have HLT := hide (fun k hk => (h.rM.lt k hk).2 : ∀ k, (Value.slice t0 T.length k0).ownBlock = some k → k < w.heap.size)
  obtain ⟨L, hL⟩ : ∃ L, T.length = L := ⟨_, rfl⟩
  rw [hL] at TM c3 hle hTl HLT
  have H0 := hide (And.intro h0 (And.intro d0 (And.intro B0 B1)))
  have HL := hide (And.intro hle hL)
  rw [hL, hle] at H0
  clear d0 h0 h B0 B1 hT hmm hm m2 hrt' hL hle
  go_enter Try.func74, Try.ntmps74
  go_upto_region 3 with (go_at_call 64; refine TM.mono ?_; rintro e w3 ⟨rfl, HJ⟩)
  obtain ⟨hR, hd0, hB0, hB1⟩ := H0.out
  obtain ⟨hC1, hO1⟩ := HJ.out
  have kp : ∀ {k : Nat} {cs : Array Value} {t : TypeId}, W0.heap[k]? = some (.cells cs t (0, 0)) → t ≠ 3 → w3.heap[k]? = some (.cells cs t (0, 0)) := fun {k cs t} hk ht => (hO1.block k (Array.getElem?_eq_some_iff.1 hk).1 (fun e => by
    obtain ⟨cs', e2⟩ := hR.ch.ch.blk
    rw [e, e2] at hk
    cases hk
    exact ht rfl)).trans hk
  have ng : ∀ {v : Value} {n sz : Nat} {e : TypeId} {xs : List Value}, W0.ownsRow B e sz v n xs → 3 ≠ e → ∀ k, v.ownBlock = some k → ¬ k = g := fun ho ne k hk e => by
    obtain ⟨cs', e2⟩ := hR.ch.ch.blk
    subst e
    exact row_tag ho e2 ne hk
  have bm3 := kp hR.bm (by decide)
  have bs3 := kp hR.bs (by decide)
  have be3 := kp hB0 (by decide)
  have be1 := kp hB1 (by decide)
  have rM3 : OwP w3 B (.slice t0 L k0) T := row_only hR.rM hO1 (ng hR.rM (by decide))
  have rS3 : OwS w3 B (.slice s0 L j0) St := row_only hR.rS hO1 (ng hR.rS (by decide))
  have D3 : Below B w w3 := (hd0.mono hB).trans (hO1.toBelow (Nat.le_trans hB hd0.size) (fun k hk => by rw [hk]; exact hR.ch.lg))
  have hB3 : B ≤ w3.heap.size := Nat.le_trans hB D3.size
  have HA := hide (And.intro (show RuP B w3 N M wb mb sb bt bc g gf aN lN cN (.slice t0 L k0) (.slice s0 L j0) T St rt' from ⟨hC1, kp hR.bw (by decide), bm3, bs3, rM3, rS3, hR.lw, hR.lm, hR.ls, hR.le⟩) D3)
  obtain ⟨e0, he0⟩ : ∃ e, w.heap.size + 1 = e := ⟨_, rfl⟩
  obtain ⟨e1, he1⟩ : ∃ e, w.heap.size = e := ⟨_, rfl⟩
  rw [he0] at be3
  rw [he1] at be1
  have p1 : w3.cell? ⟨mb, 0, none⟩ = some (.slice t0 L k0) := cell_of bm3 rfl
  have p2 : w3.cell? ⟨sb, 0, none⟩ = some (.slice s0 L j0) := cell_of bs3 rfl
  have p3 : w3.cell? ⟨e0, 0, none⟩ = some (.int .i64 x1) := cell_of be3 rfl
  have p4 : w3.cell? ⟨e0, 1, none⟩ = some (.int .i64 x2) := cell_of be3 rfl
  have p5 : w3.cell? ⟨e1, 0, none⟩ = some (.int .i64 (p : Int)) := cell_of be1 rfl
  have p6 : w3.cell? ⟨e1, 1, none⟩ = some (.int .i64 (q : Int)) := cell_of be1 rfl
  rw [he0, he1]
  have HBE := hide (And.intro be3 (fun e => row_tag rM3 be3 (by decide) e : ¬ (Value.slice t0 L k0).ownBlock = some e0))
  have HB1 := hide (And.intro be1 (fun e => by have := HLT.out _ e; omega : ¬ (Value.slice t0 L k0).ownBlock = some e1))
  have HBM := hide (And.intro bm3 (fun e => row_tag rM3 bm3 (by decide) e : ¬ (Value.slice t0 L k0).ownBlock = some mb))
  have HBS := hide (And.intro bs3 (fun e => row_tag rM3 bs3 (by decide) e : ¬ (Value.slice t0 L k0).ownBlock = some sb))
  have HNS := hide (And.intro (fun e => row_tag rS3 bm3 (by decide) e : (Value.slice s0 L j0).ownBlock ≠ some mb) (fun e => row_tag rS3 bs3 (by decide) e : (Value.slice s0 L j0).ownBlock ≠ some sb))
  have HLL := HL.out
  unfold OwP at rM3
  unfold OwS at rS3
  rw [HLL.2] at rM3
  rw [HLL.1] at rS3
  have HLO := hide (fun k hk => (rM3.lt k hk).2 : ∀ k, (Value.slice t0 L k0).ownBlock = some k → k < w3.heap.size)
  have HOM := hide rM3
  have HOS := hide rS3
  have hsm : sb ≠ mb := fun e => by rw [e, bm3] at bs3; cases bs3
  have hms : mb ≠ sb := fun e => hsm e.symm
  clear he0 he1 bm3 bs3 be3 be1 rM3 rS3 D3 hC1 hO1 hR hd0 hB0 hB1 kp ng c2 c3 p7 p8 TM hW0 p1 p2 p3 p4 p5 p6
  go_cut [17] from 16 to 24 (fun v17 W => ∃ vM' vS', Hid (RuP B W N M wb mb sb bt bc g gf aN lN cN vM' vS' (T ++ [(p, q)]) (St ++ [(x1, x2)]) rt' ∧ Below B w W))
  case first =>
    have hmo : MonIL 0 [vI 0 (.slice t0 L k0), vI 1 (.agg #[.int .i64 (p : Int), .int .i64 (q : Int)]), pI 2 (bxP w3.heap.size 70 (.int .i64 (p : Int)) (.int .i64 (q : Int))), pI 3 (apP B 70 2 (L + 1) (T.flatMap encP ++ [.int .i64 (p : Int), .int .i64 (q : Int)])), vI 4 (.slice s0 L j0), vI 5 (.agg #[.int .i64 x1, .int .i64 x2]), pI 6 (bxP w3.heap.size 88 (.int .i64 x1) (.int .i64 x2))] := ⟨vI_mono _ _, vI_mono _ _, pI_mono bxP_mono, pI_mono apP_mono, vI_mono _ _, vI_mono _ _, pI_mono bxP_mono, trivial⟩
    refine wp_region_sj (JO w3 (fun k => (Value.slice t0 L k0).ownBlock = some k)) 3 [vI 0 (.slice t0 L k0), vI 1 (.agg #[.int .i64 (p : Int), .int .i64 (q : Int)]), pI 2 (bxP w3.heap.size 70 (.int .i64 (p : Int)) (.int .i64 (q : Int))), pI 3 (apP B 70 2 (L + 1) (T.flatMap encP ++ [.int .i64 (p : Int), .int .i64 (q : Int)])), vI 4 (.slice s0 L j0), vI 5 (.agg #[.int .i64 x1, .int .i64 x2]), pI 6 (bxP w3.heap.size 88 (.int .i64 x1) (.int .i64 x2))] (by kernel_rfl) (JO_first ⟨rfl, rfl, rfl, Nat.le_refl _, fun _ _ => rfl⟩) (by kernel_rfl) (by kernel_rfl) (by kernel_rfl) (by kernel_rfl) hmo ⟨?o0, ?o1, ?o2, ?o3, ?o4, ?o5, ?o6, trivial⟩ ?fin
    case o0 =>
      intro At yy W bb hy hb hbb d hz hd K hK
      have s3 : At.tmps.getD 3 undef = .pointer (some ⟨mb, 0, none⟩) := hb 3 rfl
      have s3' := s3
      rw [Array.getD_eq_getD_getElem?] at s3'
      clear hd hy hb
      have y0 : W.cell? ⟨mb, 0, none⟩ = some (.slice t0 L k0) := cell_of (JO_blk d HBM.out.1 HBM.out.2) rfl
      go_simp
      exact hK.out _ W (stpj_of hmo d (Below.refl _ _)) (if_pos rfl)
    case o1 =>
      intro At yy W bb hy hb hbb d hz hd K hK
      have s5 : At.tmps.getD 5 undef = .pointer (some ⟨e1, 0, none⟩) := hb 5 rfl
      have s5' := s5
      rw [Array.getD_eq_getD_getElem?] at s5'
      clear hd hy hb
      have bx := JO_blk d HB1.out.1 HB1.out.2
      have y0 : W.cell? ⟨e1, 0, none⟩ = some (.int .i64 (p : Int)) := cell_of bx rfl
      have y1 : W.cell? ⟨e1, 1, none⟩ = some (.int .i64 (q : Int)) := cell_of bx rfl
      clear bx
      go_simp
      exact hK.out _ W (stpj_of hmo d (Below.refl _ _)) (if_pos rfl)
    case o2 =>
      intro At yy W bb hy hb hbb d hz hd K hK
      have e1 : yy 1 = .agg #[.int .i64 (p : Int), .int .i64 (q : Int)] := by obtain ⟨_, _, _, _, e⟩ := hd ⟨1, .data⟩ (by simp) rfl rfl; exact e
      have s18 := (hy 1 _ 18 rfl rfl).trans e1
      have s18' := s18
      rw [Array.getD_eq_getD_getElem?] at s18'
      clear hd hy hb
      go_simp
      exact hK.out _ _ (stpj_of hmo (JO_on d ((Below.refl _ _).alloc (Nat.le_refl _) _)) ((Below.refl _ _).alloc (Nat.le_refl _) _)) ⟨if_pos rfl, hz, by simp, World.alloc_heap_new _ _⟩
    case o3 =>
      intro At yy W bb hy hb hbb d hz hd K hK
      have e0 : yy 0 = .slice t0 L k0 := by obtain ⟨_, _, _, _, e⟩ := hd ⟨0, .data⟩ (by simp) rfl rfl; exact e
      have f2 := hd ⟨2, .data⟩ (by simp) rfl rfl
      obtain ⟨lo2, hi2, hl2, hh2, e2, b2, l2, z2⟩ := f2
      have s17 := (hy 0 _ 17 rfl rfl).trans e0
      have s17' := s17
      rw [Array.getD_eq_getD_getElem?] at s17'
      have s19 := (hy 2 _ 19 rfl rfl).trans e2
      have s19' := s19
      rw [Array.getD_eq_getD_getElem?] at s19'
      clear hd hb
      have hb0 := hbb rfl
      subst hb0
      refine step_append_lies _ rfl _ _ 112 rfl B 70 i7 _ 2 16 Try.underlying112 hi7 hz70 hz71 hz72 rfl (by omega) (.slice t0 L k0) L (T.flatMap encP) s17 (own_below HOM.out (d.1 rfl)) ⟨lo2, 0, none⟩ 1 1 [.int .i64 (p : Int), .int .i64 (q : Int)] s19 rfl (two_cells z2) (by simp [Value.oneCell']) (by omega) (by unfold maxLen; omega) (by omega) (Nat.le_trans hB3 hz) W.heap.size rfl ?_
      intro g9 c9 w4 ho4 hg4 ha4 hl4
      exact hK.out _ w4 (stpj_keeps [] rfl (JO_put d (grown_only hg4)) (grown_only hg4).size ⟨.inr (fun _ _ _ h => h), .inr (fun _ _ _ h => h), .inr (fun _ _ hh h => bxP_keep hh h (grown_only hg4) HLO.out), .inl (by simp), .inr (fun _ _ _ h => h), .inr (fun _ _ _ h => h), .inr (fun _ _ hh h => bxP_keep hh h (grown_only hg4) HLO.out), trivial⟩) ⟨g9, c9, if_pos rfl, ho4⟩
    case o4 =>
      intro At yy W bb hy hb hbb d hz hd K hK
      have s4 : At.tmps.getD 4 undef = .pointer (some ⟨sb, 0, none⟩) := hb 4 rfl
      have s4' := s4
      rw [Array.getD_eq_getD_getElem?] at s4'
      clear hd hy hb
      have y0 : W.cell? ⟨sb, 0, none⟩ = some (.slice s0 L j0) := cell_of (JO_blk d HBS.out.1 HBS.out.2) rfl
      go_simp
      exact hK.out _ W (stpj_of hmo d (Below.refl _ _)) (if_pos rfl)
    case o5 =>
      intro At yy W bb hy hb hbb d hz hd K hK
      have s6 : At.tmps.getD 6 undef = .pointer (some ⟨e0, 0, none⟩) := hb 6 rfl
      have s6' := s6
      rw [Array.getD_eq_getD_getElem?] at s6'
      clear hd hy hb
      have bx := JO_blk d HBE.out.1 HBE.out.2
      have y0 : W.cell? ⟨e0, 0, none⟩ = some (.int .i64 x1) := cell_of bx rfl
      have y1 : W.cell? ⟨e0, 1, none⟩ = some (.int .i64 x2) := cell_of bx rfl
      clear bx
      go_simp
      exact hK.out _ W (stpj_of hmo d (Below.refl _ _)) (if_pos rfl)
    case o6 =>
      intro At yy W bb hy hb hbb d hz hd K hK
      have e5 : yy 5 = .agg #[.int .i64 x1, .int .i64 x2] := by obtain ⟨_, _, _, _, e⟩ := hd ⟨5, .data⟩ (by simp) rfl rfl; exact e
      have s22 := (hy 5 _ 22 rfl rfl).trans e5
      have s22' := s22
      rw [Array.getD_eq_getD_getElem?] at s22'
      clear hd hy hb
      go_simp
      exact hK.out _ _ (stpj_of hmo (JO_on d ((Below.refl _ _).alloc (Nat.le_refl _) _)) ((Below.refl _ _).alloc (Nat.le_refl _) _)) ⟨if_pos rfl, hz, by simp, World.alloc_heap_new _ _⟩
    case fin =>
      intro yy lo hi W hM
      show wpList _ _ _ [_, _, _] _ _
      have e0 : yy 0 = .slice t0 L k0 := hM.fact 0 (by simp) rfl (notR_all 0 rfl)
      have e1 : yy 1 = .agg #[.int .i64 (p : Int), .int .i64 (q : Int)] := hM.fact 1 (by simp) rfl (notR_all 1 rfl)
      have e4 : yy 4 = .slice s0 L j0 := hM.fact 4 (by simp) rfl (notR_all 4 rfl)
      have e5 : yy 5 = .agg #[.int .i64 x1, .int .i64 x2] := hM.fact 5 (by simp) rfl (notR_all 5 rfl)
      obtain ⟨e2, _, _, _⟩ := hM.fact 2 (by simp) rfl (notR_all 2 rfl)
      obtain ⟨g9, c9, e3, O3⟩ := hM.fact 3 (by simp) rfl (notR_all 3 rfl)
      obtain ⟨e6, b6, l6, z6⟩ := hM.fact 6 (by simp) rfl (notR_all 6 rfl)
      have dd : JO w3 (fun k => (Value.slice t0 L k0).ownBlock = some k) true W := hM.d
      have hs6 := hM.sz
      simp only [fills, Act.put, List.take, List.length, List.setIfInBounds_toArray, List.set_cons_zero, List.set_cons_succ, e0, e1, e4, e5, e2, e3, e6]
      generalize lo 6 = p9 at z6 b6 l6 ⊢
      generalize lo 2 = p8
      clear hM hmo e0 e1 e4 e5 e2 e3 e6
      have OS := row_only HOS.out dd.2 (fun k hk e => own_tags HOM.out HOS.out (by decide) e hk)
      refine wpList_append_lies _ rfl _ _ 53 rfl B 88 i8 _ 2 16 Try.underlying53 hi8 hz80 hz81 hz82 rfl (by omega) (.slice s0 L j0) L (St.flatMap encS) (by rfl) OS ⟨p9, 0, none⟩ 1 1 [.int .i64 x1, .int .i64 x2] (by rfl) rfl (two_cells z6) (by simp [Value.oneCell']) (by omega) (by unfold maxLen; omega) (by omega) (Nat.le_trans hB3 hs6) W.heap.size rfl ?_
      intro g8 c8 w5 ho5 hg5 _ _
      have bm5 := grow_blk hg5 (JO_blk dd HBM.out.1 HBM.out.2) HNS.out.1
      have bs5 := grow_blk hg5 (JO_blk dd HBS.out.1 HBS.out.2) HNS.out.2
      have r1 : w5.cell? ⟨mb, 0, none⟩ = some (.slice t0 L k0) := cell_of bm5 rfl
      have r2 : w5.cell? ⟨sb, 0, none⟩ = some (.slice s0 L j0) := cell_of bs5 rfl
      have y1 : w5.frozen? ⟨mb, 0, none⟩ = false := fz_of bm5
      have y2 : w5.frozen? ⟨sb, 0, none⟩ = false := fz_of bs5
      have HF := hide (endsP_fin HA.out.1 HA.out.2 hB HLL.2 HLL.1 dd.2 O3 (grown_only hg5) ho5)
      clear bm5 bs5 ho5 hg5 OS O3 dd z6
      go_wp2_with fail
      go_meet
      exact ⟨_, _, HF⟩
  case rest =>
    obtain ⟨vM', vS', HF⟩ := hcut
    go_wp2_with fail
    go_ret
    exact ⟨rfl, _, _, HF⟩
/-! ### Breadth first -/
/-- The steps, by their keys: from * M + sym. -/
def stepsOf (M : Nat) (K : List Nat) : List (Int × Int) := (-1, 0) :: K.map fun k => (((k / M : Nat) : Int), ((k % M : Nat) : Int))
theorem stepsOf_snoc (M : Nat) (K : List Nat) (e : Nat) : stepsOf M (K ++ [e]) = stepsOf M K ++ [(((e / M : Nat) : Int), ((e % M : Nat) : Int))] := by simp [stepsOf]
theorem stepsOf_len (M : Nat) (K : List Nat) : (stepsOf M K).length = K.length + 1 := by simp [stepsOf]
/-- What was met breadth first, up to the key c. -/
structure Wk {α : Type} (φ : α → Nat → α) (M : Nat) (first : α) (T : List α) (K : List Nat) (c : Nat) : Prop where
  l : T.length = K.length + 1
  z : T[0]? = some first
  s : ∀ i, i < K.length → K.getD i 0 < c ∧ K.getD i 0 / M ≤ i ∧ ∃ x, T[K.getD i 0 / M]? = some x ∧ T[i + 1]? = some (φ x (K.getD i 0 % M))
  o : ∀ i j, i < j → j < K.length → K.getD i 0 < K.getD j 0
theorem Wk.one {α : Type} (φ : α → Nat → α) (M : Nat) (first : α) : Wk φ M first [first] [] 0 := ⟨rfl, rfl, fun i hi => by simp at hi, fun i j _ hj => by simp at hj⟩
theorem Wk.more {α : Type} {φ : α → Nat → α} {M : Nat} {first : α} {T : List α} {K : List Nat} {c d : Nat} (h : Wk φ M first T K c) (hd : c ≤ d) : Wk φ M first T K d := ⟨h.l, h.z, fun i hi => ⟨Nat.lt_of_lt_of_le (h.s i hi).1 hd, (h.s i hi).2⟩, h.o⟩
theorem getD_snoc_lt {K : List Nat} {e i : Nat} (h : i < K.length) : (K ++ [e]).getD i 0 = K.getD i 0 := by
  simp [List.getD, List.getElem?_append_left h]
theorem getD_snoc_eq (K : List Nat) (e : Nat) : (K ++ [e]).getD K.length 0 = e := by simp [List.getD]
theorem Wk.put {α : Type} {φ : α → Nat → α} {M : Nat} {first x : α} {T : List α} {K : List Nat} {c : Nat} (h : Wk φ M first T K c) (hx : T[c / M]? = some x) : Wk φ M first (T ++ [φ x (c % M)]) (K ++ [c]) (c + 1) := by
  have hl := h.l
  have hcl : c / M < T.length := by
    rcases Nat.lt_or_ge (c / M) T.length with q | q
    · exact q
    · rw [List.getElem?_eq_none q] at hx; cases hx
  refine ⟨by simp [hl], ?_, fun i hi => ?_, fun i j hij hj => ?_⟩
  · rw [List.getElem?_append_left (by omega)]; exact h.z
  · rw [List.length_append, List.length_singleton] at hi
    by_cases e : i < K.length
    · obtain ⟨h1, h2, y, h3, h4⟩ := h.s i e
      rw [getD_snoc_lt e]
      exact ⟨by omega, h2, y, by rw [List.getElem?_append_left (by omega)]; exact h3, by rw [List.getElem?_append_left (by omega)]; exact h4⟩
    · obtain rfl : i = K.length := by omega
      rw [getD_snoc_eq]
      exact ⟨by omega, by omega, x, by rw [List.getElem?_append_left hcl]; exact hx, by rw [List.getElem?_append_right (by omega), hl]; simp⟩
  · rw [List.length_append, List.length_singleton] at hj
    by_cases e : j < K.length
    · rw [getD_snoc_lt e, getD_snoc_lt (by omega)]; exact h.o i j hij e
    · obtain rfl : j = K.length := by omega
      rw [getD_snoc_eq, getD_snoc_lt hij]
      exact (h.s i hij).1
/-- Each follower was met, at the latest when it was looked at. -/
def Cv {α : Type} (φ : α → Nat → α) (M : Nat) (T : List α) (K : List Nat) (c : Nat) : Prop := ∀ e, e < c → ∀ x, T[e / M]? = some x → ∃ i, T[i]? = some (φ x (e % M)) ∧ ∀ j, i = j + 1 → K.getD j 0 ≤ e
theorem Cv.nil {α : Type} (φ : α → Nat → α) (M : Nat) (T : List α) (K : List Nat) : Cv φ M T K 0 := fun e he => by omega
theorem Cv.old {α : Type} {φ : α → Nat → α} {M : Nat} {first x : α} {T : List α} {K : List Nat} {c : Nat} (h : Cv φ M T K c) (hw : Wk φ M first T K c) (hx : T[c / M]? = some x) (hm : φ x (c % M) ∈ T) : Cv φ M T K (c + 1) := fun e he y hy => by
  by_cases q : e < c
  · exact h e q y hy
  · obtain rfl : e = c := by omega
    rw [hx] at hy
    cases hy
    obtain ⟨i, hi, e2⟩ := List.getElem_of_mem hm
    refine ⟨i, by rw [List.getElem?_eq_getElem hi, e2], fun j hj => ?_⟩
    have := hw.l
    exact Nat.le_of_lt (hw.s j (by omega)).1
theorem Cv.put {α : Type} {φ : α → Nat → α} {M : Nat} {first x : α} {T : List α} {K : List Nat} {c : Nat} (h : Cv φ M T K c) (hw : Wk φ M first T K c) (hx : T[c / M]? = some x) : Cv φ M (T ++ [φ x (c % M)]) (K ++ [c]) (c + 1) := fun e he y hy => by
  have hl := hw.l
  have hcl : c / M < T.length := by
    rcases Nat.lt_or_ge (c / M) T.length with q | q
    · exact q
    · rw [List.getElem?_eq_none q] at hx; cases hx
  have hel : e / M ≤ c / M := Nat.div_le_div_right (by omega)
  rw [List.getElem?_append_left (by omega)] at hy
  by_cases q : e < c
  · obtain ⟨i, h1, h2⟩ := h e q y hy
    have hi : i < T.length := (List.getElem?_eq_some_iff.1 h1).1
    refine ⟨i, by rw [List.getElem?_append_left hi]; exact h1, fun j hj => ?_⟩
    rw [getD_snoc_lt (by omega)]
    exact h2 j hj
  · obtain rfl : e = c := by omega
    rw [hx] at hy
    cases hy
    refine ⟨T.length, by rw [List.getElem?_append_right (by omega)]; simp, fun j hj => ?_⟩
    obtain rfl : j = K.length := by omega
    rw [getD_snoc_eq]
    omega
/-! ### The walk -/
theorem three_al (w : World) (A Z Y : Array Value) (t u v : TypeId) : Below w.heap.size w (((w.alloc (.cells A t)).alloc (.cells Z u)).alloc (.cells Y v)) ∧ (((w.alloc (.cells A t)).alloc (.cells Z u)).alloc (.cells Y v)).heap[w.heap.size]? = some (.cells A t (0, 0)) ∧ (((w.alloc (.cells A t)).alloc (.cells Z u)).alloc (.cells Y v)).heap[w.heap.size + 1]? = some (.cells Z u (0, 0)) ∧ (((w.alloc (.cells A t)).alloc (.cells Z u)).alloc (.cells Y v)).heap[w.heap.size + 2]? = some (.cells Y v (0, 0)) := by
  obtain ⟨d, e1, e2, e3⟩ := two_al w A Z t u
  have hs : (w.alloc (.cells A t)).heap.size = w.heap.size + 1 := by simp
  refine ⟨d.alloc (by omega) _, (Below.heap_alloc _ _ _ (by omega)).trans e1, (Below.heap_alloc _ _ _ (by omega)).trans e2, ?_⟩
  have := World.alloc_heap_new ((w.alloc (.cells A t)).alloc (.cells Z u)) (.cells Y v)
  rw [e3] at this
  exact this
set_option maxRecDepth 100000 in
set_option maxHeartbeats 8000000 in
theorem run_flw (B : Nat) (w : World) (N M bn gn q0 : Nat) (vF aN : Option Addr) (lF cF lN cN : Nat) (φ : Nat → Nat → Nat) (hn : NuS B w N bn gn (.slice none 0 0) []) (hq : q0 < N) (hφ : ∀ s a, s < N → a < M → φ s a < N) (hN : N ≤ 4194304) (hM : M ≤ 4194304) (hB : B ≤ w.heap.size)
    (hf : ∀ W, Below B w W → ∀ s a, s < N → a < M → Calls Try.prog 35 #[.agg #[.int .i64 (M : Int), .slice vF lF cF, .slice aN lN cN], .int .i64 (s : Int), .int .i64 (a : Int)] W fun e w' => e = .returned (.int .i64 ((φ s a : Nat) : Int)) ∧ Below W.heap.size W w') :
    Calls Try.prog 56 #[.agg #[.int .i64 (M : Int), .func (.func 35) #[.agg #[.int .i64 (M : Int), .slice vF lF cF, .slice aN lN cN]] #[], .func (.func 55) #[] #[.pointer (some ⟨bn, 0, none⟩)]], .int .i64 (q0 : Int)] w fun e w' => ∃ vS vT T K, e = .returned (.tuple #[vS, .bool false]) ∧ Hid (NuS B w' N bn gn vT T ∧ OwS w' B vS (stepsOf M K) ∧ Wk φ M q0 T K (T.length * M) ∧ Cv φ M T K (T.length * M) ∧ Below B w w') := by
  obtain ⟨W0, hW0⟩ : ∃ W0, ((w.alloc (.cells #[.int .i64 (M : Int), .func (.func 35) #[.agg #[.int .i64 (M : Int), .slice vF lF cF, .slice aN lN cN]] #[], .func (.func 55) #[] #[.pointer (some ⟨bn, 0, none⟩)]] 83)).alloc (.cells #[.slice none 0 0] 22)).alloc (.cells #[.slice none 0 0] 53) = W0 := ⟨_, rfl⟩
  have I0 : RuS B W0 N M w.heap.size (w.heap.size + 1) (w.heap.size + 2) bn gn (.func (.func 35) #[.agg #[.int .i64 (M : Int), .slice vF lF cF, .slice aN lN cN]] #[]) (.slice none 0 0) (.slice none 0 0) (.slice none 0 0) [] [] ∧ Below w.heap.size w W0 := by
    obtain ⟨d, e1, e2, e3⟩ := three_al w #[.int .i64 (M : Int), .func (.func 35) #[.agg #[.int .i64 (M : Int), .slice vF lF cF, .slice aN lN cN]] #[], .func (.func 55) #[] #[.pointer (some ⟨bn, 0, none⟩)]] #[.slice none 0 0] #[.slice none 0 0] 83 22 53
    rw [hW0] at d e1 e2 e3
    exact ⟨⟨hn.on d, e1, e2, e3, owI_nil _ _, owS_nil _ _, (fun k hk => by cases hk), (by intro e; cases e), hB, by omega, by omega, rfl⟩, d⟩
  have HI := hide I0
  have HF := hide hf
  have HP := hide hφ
  clear hn hf I0 hφ
  go_enter Try.func56, Try.ntmps56
  go_upto_region 4 with fail
  obtain ⟨wb, hwb⟩ : ∃ b, w.heap.size = b := ⟨_, rfl⟩
  rw [hwb] at HI
  rw [hwb]
  have hW0B : B ≤ W0.heap.size := by have := HI.out.2.size; omega
  have TE := endsI_new B W0 N M wb (wb + 1) (wb + 2) bn gn _ _ _ _ [] [] HI.out.1 q0 (-1) 0 hq (by simp) hN hW0B
  go_upto_region 6 with (go_at_call 69; refine TE.mono ?_; rintro e w1 ⟨rfl, vM1, vS1, vT1, H1⟩)
  have D0 : Below B w W0 := HI.out.2.mono (by omega)
  have J0 : Hid (RuS B w1 N M wb (wb + 1) (wb + 2) bn gn (.func (.func 35) #[.agg #[.int .i64 (M : Int), .slice vF lF cF, .slice aN lN cN]] #[]) vM1 vS1 vT1 [q0] (stepsOf M []) ∧ Wk φ M q0 [q0] [] (0 * M) ∧ Cv φ M [q0] [] (0 * M) ∧ Below B w w1) := hide ⟨H1.out.1, by rw [Nat.zero_mul]; exact Wk.one _ _ _, by rw [Nat.zero_mul]; exact Cv.nil _ _ _ _, D0.trans H1.out.2⟩
  clear TE H1 HI hW0 D0 hW0B
  go_wp2_with fail
  go_loopw [9] (fun iv wr => ∃ n : Nat, iv = .int .i64 (n : Int) ∧ ∃ vM vS vT T K, n ≤ T.length ∧ Hid (RuS B wr N M wb (wb + 1) (wb + 2) bn gn (.func (.func 35) #[.agg #[.int .i64 (M : Int), .slice vF lF cF, .slice aN lN cN]] #[]) vM vS vT T (stepsOf M K) ∧ Wk φ M q0 T K (n * M) ∧ Cv φ M T K (n * M) ∧ Below B w wr)) (fun iv _ => N - (intOf iv).toNat)
  case atStart => exact ⟨0, rfl, vM1, vS1, vT1, [q0], [], Nat.zero_le _, J0⟩
  case round =>
    obtain ⟨n, rfl, vM, vS, vT, T, K, hn, HY⟩ := hrel
    obtain ⟨t0, k0, rfl⟩ := own_slice HY.out.1.rM
    have c3 : wr.cell? ⟨wb + 1, 0, none⟩ = some (.slice t0 (natI T).length k0) := cell_of HY.out.1.bm rfl
    rw [natI_len] at c3
    have hTN := nodup_le HY.out.1.nu.nd HY.out.1.nu.lt
    by_cases hlt : n < T.length
    · have l0 : (n : Int) < (T.length : Int) := by omega
      have c0 : wr.cell? ⟨wb, 0, none⟩ = some (.int .i64 (M : Int)) := cell_of HY.out.1.bw rfl
      obtain ⟨L, hL⟩ : ∃ L, T.length = L := ⟨_, rfl⟩
      have J1 : Hid (n < T.length ∧ RuS B wr N M wb (wb + 1) (wb + 2) bn gn (.func (.func 35) #[.agg #[.int .i64 (M : Int), .slice vF lF cF, .slice aN lN cN]] #[]) (.slice t0 (natI T).length k0) vS vT T (stepsOf M K) ∧ Wk φ M q0 T K (n * M + 0) ∧ Cv φ M T K (n * M + 0) ∧ Below B w wr) := hide ⟨hlt, HY.out.1, HY.out.2.1, HY.out.2.2.1, HY.out.2.2.2⟩
      have hnN : n < N := by omega
      rw [hL] at c3 l0
      rename World => wo
      clear HY J0 hn hlt
      go_wp2_with fail
      clear c3 c0 hL hTN
      go_loopw [25] (fun iv wx => ∃ a : Nat, a ≤ M ∧ iv = .int .i64 (a : Int) ∧ ∃ vM vS vT T K, Hid (n < T.length ∧ RuS B wx N M wb (wb + 1) (wb + 2) bn gn (.func (.func 35) #[.agg #[.int .i64 (M : Int), .slice vF lF cF, .slice aN lN cN]] #[]) vM vS vT T (stepsOf M K) ∧ Wk φ M q0 T K (n * M + a) ∧ Cv φ M T K (n * M + a) ∧ Below B w wx)) (fun iv _ => M - (intOf iv).toNat)
      case atStart => exact ⟨0, Nat.zero_le _, rfl, _, vS, vT, T, K, J1⟩
      case round =>
        clear J1
        obtain ⟨a, ha, rfl, vM, vS, vT, T, K, HZ⟩ := hrel
        by_cases hla : a < M
        · have l1 : (a : Int) < (M : Int) := by omega
          obtain ⟨hnT, hR, hK, hC, hD⟩ := HZ.out
          obtain ⟨t1, k1, rfl⟩ := own_slice hR.rM
          have hTN := nodup_le hR.nu.nd hR.nu.lt
          obtain ⟨x, hx⟩ : ∃ x, T[n] = x := ⟨_, rfl⟩
          have hxN : x < N := by rw [← hx]; exact hR.nu.lt _ (List.getElem_mem hnT)
          have hnl := natI_len T
          obtain ⟨em, hrd⟩ := owI_rd hR.rM
          obtain ⟨gM, oM, et, r1⟩ := hrd n (by omega)
          subst et
          have ex : (natI T)[n]'(by omega) = (x : Int) := by simp [natI, hx]
          rw [ex] at r1
          have d1 : (n * M + a) / M = n := by rw [Nat.mul_comm, Nat.mul_add_div (by omega), Nat.div_eq_of_lt hla]; omega
          have d2 : (n * M + a) % M = a := by rw [Nat.mul_comm, Nat.mul_add_mod, Nat.mod_eq_of_lt hla]
          have hxx : T[(n * M + a) / M]? = some x := by rw [d1, List.getElem?_eq_getElem hnT, hx]
          have hBx := hD.size
          have c1 : wr.cell? ⟨wb, 1, none⟩ = some (.func (.func 35) #[.agg #[.int .i64 (M : Int), .slice vF lF cF, .slice aN lN cN]] #[]) := cell_of hR.bw rfl
          have c3 : wr.cell? ⟨wb + 1, 0, none⟩ = some (.slice (some ⟨gM, oM, none⟩) (natI T).length k1) := cell_of hR.bm rfl
          rw [hnl] at c3
          obtain ⟨L, hL⟩ : ∃ L, T.length = L := ⟨_, rfl⟩
          have n0 : (0 : Int) ≤ (n : Int) := by omega
          have n1 : (n : Int) < (L : Int) := by omega
          rw [hL] at c3
          have HX := hide (And.intro hnT (And.intro hK (And.intro hC (And.intro hD (And.intro hxx (And.intro d1 d2))))))
          have hy := HP.out x a hxN hla
          have SK : Hid (∀ W, Below wr.heap.size wr W → (W.cell? ⟨wb, 1, none⟩ = some (.func (.func 35) #[.agg #[.int .i64 (M : Int), .slice vF lF cF, .slice aN lN cN]] #[]) ∧ W.cell? ⟨wb + 1, 0, none⟩ = some (.slice (some ⟨gM, oM, none⟩) L k1) ∧ W.cell? ⟨gM, oM + n, none⟩ = some (.int .i64 (x : Int))) ∧ RuS B W N M wb (wb + 1) (wb + 2) bn gn (.func (.func 35) #[.agg #[.int .i64 (M : Int), .slice vF lF cF, .slice aN lN cN]] #[]) (.slice (some ⟨gM, oM, none⟩) (natI T).length k1) vS vT T (stepsOf M K)) := hide (fun W d => ⟨⟨(d.cell (p := ⟨wb, 1, none⟩) (World.block_lt_of_cell? wr _ c1)).trans c1, (d.cell (p := ⟨wb + 1, 0, none⟩) (World.block_lt_of_cell? wr _ c3)).trans c3, (d.cell (p := ⟨gM, oM + n, none⟩) (World.block_lt_of_cell? wr _ r1)).trans r1⟩, hR.on d⟩)
          have T1 : Hid (∀ W, Below B w W → Calls Try.prog 35 #[.agg #[.int .i64 (M : Int), .slice vF lF cF, .slice aN lN cN], .int .i64 (x : Int), .int .i64 (a : Int)] W fun e w' => e = .returned (.int .i64 ((φ x a : Nat) : Int)) ∧ Below W.heap.size W w') := hide (fun W d => HF.out W d x a hxN hla)
          clear hnT hK hC hxx d1 d2 hR HZ hL ex em hnl hrd hx
          obtain ⟨y, hyx⟩ : ∃ y, φ x a = y := ⟨_, rfl⟩
          rw [hyx] at hy T1
          have HYX := hide hyx
          clear hyx
          have hBw : B ≤ wr.heap.size := by omega
          have g1 := fun d os => gw_cell c1 d os
          have g2 := fun d os => gw_cell c3 d os
          have g3 := fun d os => gw_cell r1 d os
          go_upto_region 12 with fail
          go_cut [40] from 27 to 40 (fun p40 W => p40 = .bool false ∧ ∃ vM vS vT T K, Hid (n < T.length ∧ RuS B W N M wb (wb + 1) (wb + 2) bn gn (.func (.func 35) #[.agg #[.int .i64 (M : Int), .slice vF lF cF, .slice aN lN cN]] #[]) vM vS vT T (stepsOf M K) ∧ Wk φ M q0 T K (n * M + (a + 1)) ∧ Cv φ M T K (n * M + (a + 1)) ∧ Below B w W))
          case first =>
            have hnT := HX.out.1
            have hDw := HX.out.2.2.2.1
            by_cases hm : y ∈ T
            · refine wp_region_phg 12 #[true, true, true, true, true, true, true, true, true, true, true, true, false] (by kernel_rfl) ?_
              simp only [List.take_succ_cons, List.take_zero, List.drop_succ_cons, List.drop_zero]
              repeat (go_big_quiet_step ((go_at_call 35; exact calls_gw (T1.out _ (hDw.trans ((gw_below wr _ _).mono hBw))))))
              refine wpQuiet_nil ?_
              intro w2 hw2
              obtain ⟨⟨dq, osq⟩, hw2⟩ := hw2
              have d2' : Below wr.heap.size wr w2 := by rw [hw2]; exact gw_below _ _ _
              have HR2 := hide (And.intro (SK.out w2 d2').2 d2')
              clear d2' hw2
              have TE := endsI_old B w2 N M wb (wb + 1) (wb + 2) bn gn _ _ _ _ _ _ HR2.out.1 y (n : Int) (a : Int) hy hm
              go_wp2_with (go_at_call 69; refine TE.mono ?_; rintro e w3 ⟨rfl, d3⟩; have d3' := HR2.out.2.trans (d3.mono HR2.out.2.size); have HR3 := hide (And.intro (SK.out w3 d3').2 d3'); clear d3 d3')
              all_goals
                go_meet
                refine ⟨rfl, _, vS, vT, T, K, hide ⟨hnT, HR3.out.1, HX.out.2.1.more (by omega), HX.out.2.2.1.old HX.out.2.1 HX.out.2.2.2.2.1 (by rw [HX.out.2.2.2.2.2.2, HYX.out]; exact hm), hDw.trans (HR3.out.2.mono hBw)⟩⟩
            · refine wp_region_phg 12 #[true, true, true, true, true, true, true, true, true, true, true, true, false] (by kernel_rfl) ?_
              simp only [List.take_succ_cons, List.take_zero, List.drop_succ_cons, List.drop_zero]
              repeat (go_big_quiet_step ((go_at_call 35; exact calls_gw (T1.out _ (hDw.trans ((gw_below wr _ _).mono hBw))))))
              refine wpQuiet_nil ?_
              intro w2 hw2
              obtain ⟨⟨dq, osq⟩, hw2⟩ := hw2
              have d2' : Below wr.heap.size wr w2 := by rw [hw2]; exact gw_below _ _ _
              have HR2 := hide (And.intro (SK.out w2 d2').2 d2')
              clear d2' hw2
              have TE := endsI_new B w2 N M wb (wb + 1) (wb + 2) bn gn _ _ _ _ _ _ HR2.out.1 y (n : Int) (a : Int) hy hm hN (Nat.le_trans hBw HR2.out.2.size)
              go_wp2_with (go_at_call 69; refine TE.mono ?_; rintro e w3 ⟨rfl, vM3, vS3, vT3, HR3⟩)
              all_goals
                go_meet
                refine ⟨rfl, vM3, vS3, vT3, T ++ [y], K ++ [n * M + a], hide ⟨by rw [List.length_append]; omega, ?_, ?_, ?_, (hDw.trans (HR2.out.2.mono hBw)).trans HR3.out.2⟩⟩
                · rw [stepsOf_snoc, HX.out.2.2.2.2.2.1, HX.out.2.2.2.2.2.2]
                  exact HR3.out.1
                · have q := HX.out.2.1.put HX.out.2.2.2.2.1
                  rw [HX.out.2.2.2.2.2.2, HYX.out] at q
                  exact q
                · have q := HX.out.2.2.1.put HX.out.2.1 HX.out.2.2.2.2.1
                  rw [HX.out.2.2.2.2.2.2, HYX.out] at q
                  exact q
          case rest =>
            obtain ⟨rfl, vM', vS', vT', T', K', HZ⟩ := hcut
            rename World => wz
            go_wp2_with fail
            go_roundw
            case rel => exact ⟨a + 1, by omega, by go_num, vM', vS', vT', T', K', HZ⟩
            case measure => simp [intOf]; omega
        · have l1 : ¬ (a : Int) < (M : Int) := by omega
          obtain rfl : a = M := by omega
          have hTN := nodup_le HZ.out.2.1.nu.nd HZ.out.2.1.nu.lt
          have hnT := HZ.out.1
          go_wp2_with fail
          go_roundw
          case rel => exact ⟨n + 1, by go_num, vM, vS, vT, T, K, by omega, hide ⟨HZ.out.2.1, by rw [Nat.succ_mul]; exact HZ.out.2.2.1, by rw [Nat.succ_mul]; exact HZ.out.2.2.2.1, HZ.out.2.2.2.2⟩⟩
          case measure => simp [intOf]; omega
    · have l0 : ¬ (n : Int) < (T.length : Int) := by omega
      obtain rfl : n = T.length := by omega
      have c4 : wr.cell? ⟨wb + 2, 0, none⟩ = some vS := cell_of HY.out.1.bs rfl
      clear J0 hn hlt
      go_wp2_with fail
      go_ret2
      exact ⟨vS, rfl, vT, T, K, hide ⟨HY.out.1.nu, HY.out.1.rS, HY.out.2.1, HY.out.2.2.1, HY.out.2.2.2⟩⟩
end Go.Proofs.Ytocoghljmlpdeaa
