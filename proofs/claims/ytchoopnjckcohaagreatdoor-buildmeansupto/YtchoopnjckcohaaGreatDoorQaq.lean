import Derived.Test.YtchoopnjckcohaaGreatDoorQap
set_option maxRecDepth 100000
set_option maxHeartbeats 40000000
namespace Go.Proofs.YtchoopnjckcohaaGreatDoor
open Go.RowKit
def SeqL (n gf : Nat) (lb : Array Value) (E : List Value) (Kp : World → World → Prop) (w : World) : Prop :=
 ∀ (l : Nat) (J : Nat → World → Prop) (Jx : World → Prop) (W : World), Below w.heap.size w W → (∀ k A A', J k A → Below A.heap.size A A' → J k A') → (∀ A A', Jx A → Below A.heap.size A A' → Jx A') →
  (∀ (k : Nat) (W1 : World) (hk : k < E.length), J k W1 → YieldAt Fence.wide (n - 1) Tryz.prog l #[E[k]] W1 fun e W' => (e = .returned (.bool true) ∧ J (k + 1) W' ∧ Kp W1 W') ∨ (e = .returned (.bool false) ∧ Jx W')) →
  J 0 W → CallsIn Fence.wide n Tryz.prog gf (#[.func (.yield l) #[] #[]] ++ lb) W fun e W' => (∃ v, e = .returned v) ∧ (J E.length W' ∨ Jx W')
def mayLeave (L : Nat) (Kp : World → World → Prop) (I : Nat → World → Prop) (Ix : World → Prop) (k : Nat) (W : World) : Exit → Act → World → Prop
 | .normal, _, W' => (W'.heap[L]? = W.heap[L]? ∧ W'.heap[L + 1]? = W.heap[L + 1]?) ∧ Kp W W' ∧ I k W'
 | .ret, _, W' => (W'.heap[L]? = W.heap[L]? ∧ W'.heap[L + 1]? = W.heap[L + 1]?) ∧ Ix W'
 | _, _, _ => False
theorem range_leaves {n : Nat} {g : Operand} {t : Tmp} {assign body : Code} {Q : Exit → Act → World → Prop} {a : Act} {w w0 : World} {gf : Nat} {lb : Array Value} {E : List Value} {Kp : World → World → Prop}
 (h1 : 1 ≤ n) (hg : a.eval g = .func (.func gf) #[] lb) (eg : ∀ args w, (callFunc gf args).run Tryz.prog w = .ok (.enter gf args) w) (hseq : SeqL (n - 1) gf lb E Kp w0)
 (hKt : ∀ {A B C : World}, Kp A B → Kp B C → Kp A C) (hKn : ∀ (A B : World), w.heap.size ≤ A.heap.size → Below A.heap.size A B → Kp A B) (hKb : ∀ (W : World) (r r' : Loop), W.heap[w.heap.size + 1]? = some (.loop r) → Kp W (W.putObj (w.heap.size + 1) (.loop r'))) (hb0 : Below w0.heap.size w0 w)
 (I : Nat → World → Prop) (Ix : World → Prop) (hI : ∀ k A A', I k A → Below A.heap.size A A' → I k A') (hIp : ∀ k (A : World) (r r' : Loop), I k A → A.heap[w.heap.size + 1]? = some (.loop r) → I k (A.putObj (w.heap.size + 1) (.loop r'))) (hX : ∀ A A', Ix A → Below A.heap.size A A' → Ix A') (hXp : ∀ (A : World) (r r' : Loop), Ix A → A.heap[w.heap.size + 1]? = some (.loop r) → Ix (A.putObj (w.heap.size + 1) (.loop r'))) (h0 : I 0 w)
 (Ax : Value → Act → World → Prop) (hAp : ∀ x a' (A : World) (r r' : Loop), Ax x a' A → A.heap[w.heap.size + 1]? = some (.loop r) → Ax x a' (A.putObj (w.heap.size + 1) (.loop r')))
 (hassign : ∀ (l : Nat) (x : Value) (hx : x ∈ E) (W : World) (K : Act → World → Prop), (∀ a' W', Below W.heap.size W W' → Ax x a' W' → K a' W') → assign.wpIn (Fence.wide.inRound l) (n - 1 - 1) Tryz.prog (Exit.then K (fun _ _ _ => False)) { tmps := (#[t].zip #[x]).foldl (fun t (p, v) => t.setIfInBounds p v) a.tmps, defers := [] } W)
 (hbody : ∀ (l k : Nat) (a' : Act) (W : World) (hk : k < E.length), I k W → Ax E[k] a' W → W.heap[w.heap.size]? = some (.deferred (some [])) → (∃ r, W.heap[w.heap.size + 1]? = some (.loop r)) → body.wpIn (Fence.wide.inRound l) (n - 1 - 1) Tryz.prog (mayLeave w.heap.size Kp I Ix (k + 1) W) a' W)
 (hdone : ∀ (D : Nat) (W : World), w.heap.size ≤ D → I E.length W → W.heap[D]? = some (.deferred (some [])) → Q .normal { a with defers := { target := .collected D, args := #[] } :: a.defers } W)
 (hstop : ∀ (D : Nat) (W : World), w.heap.size ≤ D → Ix W → W.heap[D]? = some (.deferred (some [])) → Code.ret.wpIn Fence.wide n Tryz.prog Q { a with defers := { target := .collected D, args := #[] } :: a.defers } W) :
 (Code.rangeFunc g #[t] assign body).wpIn Fence.wide n Tryz.prog Q a w := by
 refine wpIn_rangeFunc fun fn hfn => ?_
 obtain ⟨rec, hrec⟩ : ∃ rec : LoopState → Option Code → Loop, rec = fun st pe => { state := st, pending := pe, fn, tmps := a.tmps, params := #[t], assign, body, defers := w.heap.size } := ⟨_, rfl⟩
 obtain ⟨Wl, hWl⟩ : ∃ Wl, (w.alloc (.deferred (some []))).alloc (.loop (rec .ready none)) = Wl := ⟨_, rfl⟩
 have hLl : Wl.heap[w.heap.size + 1]? = some (.loop (rec .ready none)) := by
  rw [← hWl]; have := World.alloc_heap_new (w.alloc (.deferred (some []))) (.loop (rec .ready none)); rwa [World.size_alloc] at this
 have hDl : Wl.heap[w.heap.size]? = some (.deferred (some [])) := by
  rw [← hWl]; exact (Below.heap_alloc _ _ _ (by simp)).trans (World.alloc_heap_new w _)
 have hIl : I 0 Wl := by rw [← hWl]; exact hI _ _ _ (hI _ _ _ h0 ((Below.refl _ _).alloc (Nat.le_refl _) _)) ((Below.refl _ _).alloc (Nat.le_refl _) _)
 have hbl : Below w0.heap.size w0 Wl := by
  rw [← hWl]; exact hb0.trans ((((Below.refl _ w).alloc (Nat.le_refl _) _).alloc (by simp) _).mono hb0.size)
 refine ⟨w.heap.size + 1, [{ target := .collected w.heap.size, args := #[] }], Wl, { target := .fn (.func gf) lb, args := #[.func (.yield (w.heap.size + 1)) #[] #[]] }, Wl, gf,
  #[.func (.yield (w.heap.size + 1)) #[] #[]] ++ lb, Wl, by rw [← hWl, hrec]; exact run_enterLoop_outer _ _ _ _ _, by simp only [resolve, hg]; simp [go_sem], fun f' hf' => trivial, by simp [invoke, go_sem, eg], fun _ => h1, ?_⟩
 refine (hseq (w.heap.size + 1) (fun k W => I k W ∧ W.heap[w.heap.size + 1]? = some (.loop (rec .ready none)) ∧ W.heap[w.heap.size]? = some (.deferred (some []))) (fun W => Ix W ∧ W.heap[w.heap.size + 1]? = some (.loop (rec .done (some .ret))) ∧ W.heap[w.heap.size]? = some (.deferred (some []))) Wl hbl ?_ ?_ ?_ ⟨hIl, hLl, hDl⟩).mono ?_
 · rintro k A A' ⟨hi, hl, hd⟩ hb
   exact ⟨hI _ _ _ hi hb, (hb.block _ (Array.getElem?_eq_some_iff.1 hl).1).trans hl, (hb.block _ (Array.getElem?_eq_some_iff.1 hd).1).trans hd⟩
 · rintro A A' ⟨hi, hl, hd⟩ hb
   exact ⟨hX _ _ hi hb, (hb.block _ (Array.getElem?_eq_some_iff.1 hl).1).trans hl, (hb.block _ (Array.getElem?_eq_some_iff.1 hd).1).trans hd⟩
 · rintro k W hk ⟨hi, hl, hd⟩
   have hy := run_yield (P := Tryz.prog) (args := #[E[k]]) hl (by rw [hrec]; rfl)
   rw [hrec] at hy
   refine ⟨fn, _, assign, body, hy, roundIn_of_wpIn hfn (hassign _ E[k] (List.getElem_mem hk) W _ ?_)⟩
   intro a' Wa hba hax
   have hla : Wa.heap[w.heap.size + 1]? = some (.loop (rec .ready none)) := (hba.block _ (Array.getElem?_eq_some_iff.1 hl).1).trans hl
   have hda : Wa.heap[w.heap.size]? = some (.deferred (some [])) := (hba.block _ (Array.getElem?_eq_some_iff.1 hd).1).trans hd
   have hkn : Kp W Wa := hKn _ _ (by have := (Array.getElem?_eq_some_iff.1 hl).1; omega) hba
   have hlt : w.heap.size + 1 < Wa.heap.size := (Array.getElem?_eq_some_iff.1 hla).1
   refine ⟨_, run_beginRound hla (by rw [hrec]), ?_⟩
   obtain ⟨busy, hbusy⟩ : ∃ busy : Loop, busy = { rec .ready none with state := .busy } := ⟨_, rfl⟩
   have hl2 : (Wa.putObj (w.heap.size + 1) (.loop busy)).heap[w.heap.size + 1]? = some (.loop busy) := World.putObj_heap_same hlt
   have hd2 : (Wa.putObj (w.heap.size + 1) (.loop busy)).heap[w.heap.size]? = some (.deferred (some [])) := (World.putObj_heap_other (by omega)).trans hda
   have hkp : Kp Wa (Wa.putObj (w.heap.size + 1) (.loop busy)) := hKb _ _ _ hla
   rw [← hbusy]
   refine wpIn_mono (hbody _ k a' _ hk (hIp _ _ _ _ (hI _ _ _ hi hba) hla) (hAp _ _ _ _ _ hax hla) hd2 ⟨_, hl2⟩) ?_
   rintro e a3 W3 hp
   cases e with
   | normal =>
    obtain ⟨hk3, hkp3, hi3⟩ := hp
    have hl3 := hk3.2.trans hl2
    have hr3 := run_endRound (P := Tryz.prog) none hl3
    rw [hbusy, hrec] at hr3
    refine ⟨_, _, hr3, .inl ⟨rfl, ⟨hIp _ _ _ _ hi3 hl3, ?_, (World.putObj_heap_other (by omega)).trans (hk3.1.trans hd2)⟩, hKt hkn (hKt (hKt hkp hkp3) (hKb _ _ _ hl3))⟩⟩
    rw [hrec]
    exact World.putObj_heap_same (Array.getElem?_eq_some_iff.1 hl3).1
   | ret =>
    obtain ⟨hk3, hi3⟩ := hp
    have hl3 := hk3.2.trans hl2
    have hr3 := run_endRound (P := Tryz.prog) (some .ret) hl3
    rw [hbusy, hrec] at hr3
    refine ⟨_, _, hr3, .inr ⟨rfl, hXp _ _ _ hi3 hl3, ?_, (World.putObj_heap_other (by omega)).trans (hk3.1.trans hd2)⟩⟩
    rw [hrec]
    exact World.putObj_heap_same (Array.getElem?_eq_some_iff.1 hl3).1
   | exit id => exact hp.elim
   | goto t => exact hp.elim
   | panic ch => exact hp.elim
   | outgrown => exact hp.elim
 · rintro e W2 ⟨⟨v, rfl⟩, ⟨hi, hl, hd⟩ | ⟨hi, hl, hd⟩⟩
   · exact ⟨none, _, by have := run_endLoop (P := Tryz.prog) hl (by rw [hrec]; simp); rw [hrec] at this; exact this, hdone _ _ (Nat.le_refl _) (hIp _ _ _ _ hi hl) ((World.putObj_heap_other (by omega)).trans hd)⟩
   · exact ⟨some .ret, _, by have := run_endLoop (P := Tryz.prog) hl (by rw [hrec]; simp); rw [hrec] at this; exact this, hstop _ _ (Nat.le_refl _) (hXp _ _ _ hi hl) ((World.putObj_heap_other (by omega)).trans hd)⟩
end Go.Proofs.YtchoopnjckcohaaGreatDoor
namespace Go.Proofs.YtchoopnjckcohaaGreatDoor
open Go.RowKit Go.Maps Go.Shelf
attribute [local go_sem] Oper.semAt_some
theorem of_blk (w : World) (B m R p s n k : Nat) (aE : Option Addr) (cE g : Nat) (Ed : List EdT) (hn : Ed.length = n) (hA : Hid (RwA B w m R Ed aE n cE g)) (hS : Hid (SsE Ed)) (hF : Hid (∀ e ∈ Ed, 0 ≤ e.2.1 ∧ e.2.1 < (m : Int))) (hs : s < m) (hk : p * m + s = k) (hkR : k < R) (hR : R ≤ 524288) (hl : n ≤ 4194304) :
 Calls Tryz.prog 96 #[.agg #[.int .i64 (m : Int), .slice aE n cE, .slice (some ⟨g, 0, none⟩) (R + 1) (R + 1)], .int .i64 (p : Int), .int .i64 (s : Int)] w fun e w' => ∃ a c, e = .returned (.slice a (fromL Ed p (s : Int)).length c) ∧ Hid (RdN w a (toL (fromL Ed p (s : Int))) ∧ (fromL Ed p (s : Int)).length ≤ c ∧ Below w.heap.size w w' ∧ ∀ ga o, a = some ⟨ga, o, none⟩ → ∃ o', aE = some ⟨ga, o', none⟩) := by
 obtain ⟨W0, hW0⟩ : ∃ W0, w.alloc (.cells #[.int .i64 (m : Int), .slice aE n cE, .slice (some ⟨g, 0, none⟩) (R + 1) (R + 1)] 93) = W0 := ⟨_, rfl⟩
 have HD : Hid (Below w.heap.size w W0) := hide (by rw [← hW0]; exact (Below.refl _ _).alloc (Nat.le_refl _) _)
 have b0 : W0.heap[w.heap.size]? = some (.cells #[.int .i64 (m : Int), .slice aE n cE, .slice (some ⟨g, 0, none⟩) (R + 1) (R + 1)] 93 (0, 0)) := by rw [← hW0]; exact World.alloc_heap_new _ _
 obtain ⟨k0, k1, k2⟩ := zd3 b0 rfl rfl rfl
 have HM := hide (hA.out.fi.below HD.out hA.out.fi.lt)
 have r0 := HM.out.at k (by omega)
 have r1 := HM.out.at (k + 1) (by omega)
 have u0 := lessC_le (kE m Ed) k
 have u1 := lessC_le (kE m Ed) (k + 1)
 have u2 : lessC (kE m Ed) k ≤ lessC (kE m Ed) (k + 1) := by rw [lessC_succ]; omega
 rw [kE_len, hn] at u0 u1
 have HL := hide (subL_len (Es := Ed) (lo := lessC (kE m Ed) k) (hi := lessC (kE m Ed) (k + 1)) (by rw [hn]; exact u1))
 have HC := hide (row_cap hA.out.ow)
 have HO : Hid (RdN w aE (toL Ed)) := hide (own_rdN (c := cE) (by rw [toL_len, hn]; exact hA.out.ow))
 have HR : Hid (∀ g', aE = some ⟨g', 0, none⟩ → RdN w (some ⟨g', lessC (kE m Ed) k, none⟩) (toL (subL Ed (lessC (kE m Ed) k) (lessC (kE m Ed) (k + 1))))) := hide (fun g' e => by
  have q := HO.out
  rw [e] at q
  have q2 := toL_rd q (lessC (kE m Ed) k) (lessC (kE m Ed) (k + 1))
  rw [Nat.zero_add] at q2
  exact q2)
 rw [row_eq hS.out hF.out hs hk] at HL HR
 generalize fromL Ed p (s : Int) = F at HL HR ⊢
 generalize lessC (kE m Ed) k = lo at *
 generalize lessC (kE m Ed) (k + 1) = hi at *
 have epm : (p : Int) * (m : Int) = ((p * m : Nat) : Int) := by simp
 have e1 : IntKind.i64.wrap ((p : Int) * (m : Int)) = (p : Int) * (m : Int) := by rw [epm, IntKind.wrap_i64]; omega
 have e2 : IntKind.i64.wrap ((p : Int) * (m : Int) + (s : Int)) = (k : Int) := by rw [epm, IntKind.wrap_i64]; omega
 have e3 : IntKind.i64.wrap ((k : Int) + 1) = (k : Int) + 1 := by rw [IntKind.wrap_i64]; omega
 have v0 : (0 : Int) ≤ (k : Int) := by omega
 have v1 : (k : Int) < (R : Int) + 1 := by omega
 have v2 : (k : Int) + 1 < (R : Int) + 1 := by omega
 have v3 : (lo : Int) ≤ (hi : Int) := by omega
 have v5 : (k : Int) ≤ 524288 := by omega
 have v6 : (0 : Int) ≤ (lo : Int) := by omega
 clear b0 hA hS hF HO HM epm hk hn
 rcases HC.out with ⟨rfl, rfl, rfl⟩ | ⟨gE, rfl, hc, -⟩
 · obtain rfl : lo = 0 := by omega
   obtain rfl : hi = 0 := by omega
   have hn : F = [] := List.eq_nil_of_length_eq_zero (by have := HL.out; omega)
   subst hn
   clear HR HL HC u0 u1 u2
   go_enter Tryz.func96, Tryz.ntmps96
   go_upto_region 2 with fail
   refine wp_region_phase 13 #[true, true, true, true, true, true, true, true, true, true, true, true, true, false, false] (by kernel_rfl) (by kernel_rfl) ?_
   simp only [List.take_succ_cons, List.take_zero, List.drop_succ_cons, List.drop_zero]
   repeat (go_big_quiet_step (fail))
   refine wpQuiet_nil ?_
   intro wz hzz
   obtain ⟨nq, rfl⟩ := hzz
   go_wp2_with fail
   refine bodyPost_ret (results_tmp rfl _ _ _) rfl ?_
   exact ⟨none, 0, rfl, hide ⟨fun j hj => absurd hj (Nat.not_lt_zero _), Nat.le_refl _, below_drewN2 HD.out nq, fun _ _ e => by cases e⟩⟩
 · have v4 : (hi : Int) ≤ (cE : Int) := by omega
   have HR2 := hide (HR.out gE rfl)
   clear HR HC
   go_enter Tryz.func96, Tryz.ntmps96
   go_upto_region 2 with fail
   refine wp_region_phase 13 #[true, true, true, true, true, true, true, true, true, true, true, true, true, false, false] (by kernel_rfl) (by kernel_rfl) ?_
   simp only [List.take_succ_cons, List.take_zero, List.drop_succ_cons, List.drop_zero]
   repeat (go_big_quiet_step (fail))
   refine wpQuiet_nil ?_
   intro wz hzz
   obtain ⟨nq, rfl⟩ := hzz
   go_wp2_with fail
   · rename cE = lo => hkl
     subst hkl
     refine bodyPost_ret (results_tmp rfl _ _ _) rfl ?_
     have hn : F = [] := List.eq_nil_of_length_eq_zero (by have := HL.out; omega)
     refine ⟨some ⟨gE, 0, none⟩, 0, by rw [HL.out]; rfl, hide ⟨by rw [hn]; intro j hj; exact absurd hj (Nat.not_lt_zero _), by rw [hn]; exact Nat.le_refl _, below_drewN2 HD.out nq, fun _ _ e => by cases e; first | rfl | exact ⟨0, rfl⟩⟩⟩
   · refine bodyPost_ret (results_tmp rfl _ _ _) rfl ?_
     exact ⟨some ⟨gE, lo, none⟩, cE - lo, by rw [HL.out]; rfl, hide ⟨HR2.out, by rw [HL.out]; omega, below_drewN2 HD.out nq, fun _ _ e => by cases e; first | rfl | exact ⟨0, rfl⟩⟩⟩
def prsL (X Y : List Int) : List PrT := X.flatMap fun p => Y.map fun q => (p, q)
theorem prsL_len (X Y : List Int) : (prsL X Y).length = X.length * Y.length := by
 unfold prsL
 induction X with
 | nil => simp
 | cons x X ih => rw [List.flatMap_cons, List.length_append, ih, List.length_map, List.length_cons, Nat.add_mul, Nat.one_mul, Nat.add_comm]
theorem prsL_at (X Y : List Int) : ∀ (i j : Nat) (hi : i < X.length) (hj : j < Y.length) (h : i * Y.length + j < (prsL X Y).length), (prsL X Y)[i * Y.length + j] = (X[i], Y[j]) := by
 induction X with
 | nil => intro i j hi; simp at hi
 | cons x X ih =>
  intro i j hi hj h
  have e : prsL (x :: X) Y = Y.map (fun q => (x, q)) ++ prsL X Y := rfl
  cases i with
  | zero =>
   simp only [e, Nat.zero_mul, Nat.zero_add, List.getElem_cons_zero]
   rw [List.getElem_append_left (by simpa using hj)]
   simp
  | succ i =>
   have hi' : i < X.length := by simpa using hi
   have hlt : i * Y.length + j < (prsL X Y).length := by
    rw [prsL_len]
    have := Nat.mul_le_mul_right Y.length (show i + 1 ≤ X.length by omega)
    rw [Nat.add_mul, Nat.one_mul] at this
    omega
   have q := ih i j hi' hj hlt
   have ee : (i + 1) * Y.length + j = Y.length + (i * Y.length + j) := by rw [Nat.add_mul, Nat.one_mul]; omega
   simp only [e, ee, List.getElem_cons_succ]
   rw [List.getElem_append_right (by simp)]
   simpa using q
structure KpT (Sf : Nat → Prop) (A B : World) : Prop where
 size : A.heap.size ≤ B.heap.size
 blk : ∀ k, k < A.heap.size → Sf k → B.heap[k]? = A.heap[k]?
theorem KpT.trans {Sf : Nat → Prop} {A B C : World} (h : KpT Sf A B) (k : KpT Sf B C) : KpT Sf A C :=
 ⟨Nat.le_trans h.size k.size, fun i hi hs => (k.blk i (Nat.lt_of_lt_of_le hi h.size) hs).trans (h.blk i hi hs)⟩
theorem KpT.ofBelow {Sf : Nat → Prop} {A B : World} (d : Below A.heap.size A B) : KpT Sf A B := ⟨d.size, fun k hk _ => d.block k hk⟩
theorem KpT.ofOnly {Sf R : Nat → Prop} {A B : World} (d : Only A B R) (h : ∀ k, Sf k → ¬ R k) : KpT Sf A B := ⟨d.size, fun k hk hs => d.block k hk (h k hs)⟩
theorem KpT.cellK {Sf : Nat → Prop} {A B : World} (h : KpT Sf A B) {k : Nat} {o : Obj} (hk : A.heap[k]? = some o) (hs : Sf k) : B.heap[k]? = some o := (h.blk k (Array.getElem?_eq_some_iff.1 hk).1 hs).trans hk
theorem row_kp {Sf : Nat → Prop} {A A' : World} {B : Nat} {e : TypeId} {sz n : Nat} {v : Value} {xs : List Value} (h : A.ownsRow B e sz v n xs) (k : KpT Sf A A') (hs : ∀ i, v.ownBlock = some i → Sf i) : A'.ownsRow B e sz v n xs := by
 refine ⟨h.1, ?_⟩
 have hlt := h.lt
 rcases h.2 with h2 | ⟨g, cap, cur, rfl, hb, hg, rest⟩
 · exact .inl h2
 · exact .inr ⟨g, cap, cur, rfl, hb, (k.blk g (hlt g rfl).2 (hs g rfl)).trans hg, rest⟩
structure RwT (Sf : Nat → Prop) (W : World) (bx B m R : Nat) (Ed : List EdT) (aE : Option Addr) (cE g : Nat) : Prop where
 hb : W.heap[bx]? = some (.cells #[.int .i64 (m : Int), .slice aE Ed.length cE, .slice (some ⟨g, 0, none⟩) (R + 1) (R + 1)] 93 (0, 0))
 rw : RwA B W m R Ed aE Ed.length cE g
 sx : Sf bx
 sg : Sf g
 se : ∀ i o, aE = some ⟨i, o, none⟩ → Sf i
theorem RwT.kp {Sf : Nat → Prop} {W W' : World} {bx B m R : Nat} {Ed : List EdT} {aE : Option Addr} {cE g : Nat} (h : RwT Sf W bx B m R Ed aE cE g) (k : KpT Sf W W') : RwT Sf W' bx B m R Ed aE cE g := by
 refine ⟨k.cellK h.hb h.sx, ⟨row_kp h.rw.ow k (fun i hi => ?_), ?_, h.rw.ge⟩, h.sx, h.sg, h.se⟩
 · rcases h.rw.ow.2 with ⟨e, _⟩ | ⟨g', cap, cur, e, _⟩
   · rw [e] at hi; cases hi
   · rw [e] at hi
     obtain rfl : g' = i := by simpa [Value.ownBlock] using hi
     cases e
     exact h.se _ _ rfl
 · obtain ⟨cur, q1, q2⟩ := h.rw.fi
   exact ⟨cur, k.cellK q1 h.sg, q2⟩
structure TgA (Sf : Nat → Prop) (W : World) (b1 b2 fb sb B1 B2 m R1 R2 : Nat) (E1 E2 : List EdT) (a1 a2 : Option Addr) (c1 c2 g1 g2 p q s : Nat) : Prop where
 r1 : RwT Sf W b1 B1 m R1 E1 a1 c1 g1
 r2 : RwT Sf W b2 B2 m R2 E2 a2 c2 g2
 fx : W.heap[fb]? = some (.cells #[.int .i64 (p : Int), .int .i64 (q : Int)] 79 (0, 0))
 sx : W.heap[sb]? = some (.cells #[.int .i64 (s : Int)] 3 (0, 0))
 sf : Sf fb
 ss : Sf sb
theorem TgA.kp {Sf : Nat → Prop} {W W' : World} {b1 b2 fb sb B1 B2 m R1 R2 : Nat} {E1 E2 : List EdT} {a1 a2 : Option Addr} {c1 c2 g1 g2 p q s : Nat} (h : TgA Sf W b1 b2 fb sb B1 B2 m R1 R2 E1 E2 a1 a2 c1 c2 g1 g2 p q s) (k : KpT Sf W W') : TgA Sf W' b1 b2 fb sb B1 B2 m R1 R2 E1 E2 a1 a2 c1 c2 g1 g2 p q s :=
 ⟨h.r1.kp k, h.r2.kp k, k.cellK h.fx h.sf, k.cellK h.sx h.ss, h.sf, h.ss⟩
structure RwQ (m R p s : Nat) (Ed : List EdT) : Prop where
 ss : SsE Ed
 ok : ∀ e ∈ Ed, 0 ≤ e.2.1 ∧ e.2.1 < (m : Int)
 hs : s < m
 hk : p * m + s < R
 hR : R ≤ 524288
 hl : Ed.length ≤ 4194304
theorem of_kp {Sf : Nat → Prop} {W : World} {bx B m R p s : Nat} {Ed : List EdT} {aE : Option Addr} {cE g : Nat} (h : RwT Sf W bx B m R Ed aE cE g) (q : RwQ m R p s Ed) :
 Calls Tryz.prog 96 #[.agg #[.int .i64 (m : Int), .slice aE Ed.length cE, .slice (some ⟨g, 0, none⟩) (R + 1) (R + 1)], .int .i64 (p : Int), .int .i64 (s : Int)] W fun e w' => ∃ a c, e = .returned (.slice a (toL (fromL Ed p (s : Int))).length c) ∧ Hid ((∀ W', KpT Sf W W' → RdN W' a (toL (fromL Ed p (s : Int)))) ∧ Below W.heap.size W w') := by
 refine (of_blk W B m R p s Ed.length (p * m + s) aE cE g Ed rfl (hide h.rw) (hide q.ss) (hide q.ok) q.hs rfl q.hk q.hR q.hl).mono ?_
 rintro e w' ⟨a, c, rfl, H⟩
 refine ⟨a, c, by rw [toL_len], hide ⟨fun W' k j hj => ?_, H.out.2.2.1⟩⟩
 obtain ⟨g', o', e', cc⟩ := H.out.1 j hj
 obtain ⟨o2, e2⟩ := H.out.2.2.2 g' o' e'
 exact ⟨g', o', e', (World.cell?_of_block (a := ⟨g', o' + j, none⟩) (k.blk g' (World.block_lt_of_cell? W _ cc) (h.se _ _ e2))).trans cc⟩
theorem tog_seq (n : Nat) (Sf : Nat → Prop) (w : World) (b1 b2 fb sb B1 B2 m R1 R2 : Nat) (E1 E2 : List EdT) (a1 a2 : Option Addr) (c1 c2 g1 g2 p q s : Nat) (h : Hid (TgA Sf w b1 b2 fb sb B1 B2 m R1 R2 E1 E2 a1 a2 c1 c2 g1 g2 p q s)) (q1 : Hid (RwQ m R1 p s E1)) (q2 : Hid (RwQ m R2 q s E2)) :
 SeqL n 95 #[.pointer (some ⟨b1, 0, none⟩), .pointer (some ⟨fb, 0, none⟩), .pointer (some ⟨sb, 0, none⟩), .pointer (some ⟨b2, 0, none⟩)] ((prsL (toL (fromL E1 p (s : Int))) (toL (fromL E2 q (s : Int)))).map prV) (KpT Sf) w := by
 intro l J Jx W hW hJ hJx hY h0
 have HJ := hide hJ
 have HJx := hide hJx
 have HY := hide hY
 have HT := hide (h.out.kp (KpT.ofBelow (Sf := Sf) hW))
 have T1 := of_kp HT.out.r1 q1.out
 generalize hX : toL (fromL E1 p (s : Int)) = X at *
 have T2 := fun (wr : World) (k : KpT Sf W wr) => of_kp (HT.out.r2.kp k) q2.out
 generalize hYl : toL (fromL E2 q (s : Int)) = Y at *
 have HT2 := hide T2
 have hXl : X.length ≤ 4194304 := by
  have := q1.out.hl
  rw [← hX, toL_len]
  exact Nat.le_trans (List.length_filter_le _ _) this
 have hYl2 : Y.length ≤ 4194304 := by
  have := q2.out.hl
  rw [← hYl, toL_len]
  exact Nat.le_trans (List.length_filter_le _ _) this
 have HC := hide (fun (wr : World) (k : KpT Sf W wr) => HT.out.kp k)
 have x1 := HT.out.r1.hb
 obtain ⟨k0, k1, k2⟩ := zd3 HT.out.r1.hb rfl rfl rfl
 have k3 : W.cell? ⟨fb, 0, none⟩ = some (.int .i64 (p : Int)) := cell_of HT.out.fx rfl
 have k5 : W.cell? ⟨sb, 0, none⟩ = some (.int .i64 (s : Int)) := cell_of HT.out.sx rfl
 clear hJ hJx hY hW h hX hYl T2 x1 q1 q2
 refine callsIn_of_wp Tryz.func95 rfl trivial ?_ rfl
 simp only [Tryz.ntmps95, List.size_toArray, List.length_cons, List.length_nil, Nat.reduceAdd, Nat.reduceSub, Array.replicate_succ, Array.replicate_zero, List.push_toArray, List.append_toArray, List.nil_append, List.cons_append]
 gi_wp2
 refine ⟨trivial, (fun h => by cases h), (callsIn_wide.2 T1).mono ?_⟩
 rintro e W1 ⟨ax, cx, rfl, H1⟩
 have HX := hide H1.out.1
 have hK1 : KpT Sf W W1 := KpT.ofBelow H1.out.2
 have hJ1 := HJ.out 0 W W1 h0 H1.out.2
 clear T1 k0 k1 k2 k3 k5 h0 H1
 gi_wp2
 gi_loopw [16] (fun i wr => ∃ (k : Nat), k ≤ X.length ∧ i = .int .i64 k ∧ KpT Sf W wr ∧ J (k * Y.length) wr) (fun i _ => X.length - (intOf i).toNat)
 case atStart => exact ⟨0, Nat.zero_le _, rfl, hK1, by rw [Nat.zero_mul]; exact hJ1⟩
 case round =>
  clear hK1 hJ1
  obtain ⟨k, hk, rfl, hkp, hJk⟩ := hrel
  by_cases hlt : k < X.length
  · obtain ⟨gx, ox, rfl, cx'⟩ := HX.out wr hkp k hlt
    have HT3 := hide (HC.out wr hkp)
    obtain ⟨k0, k1, k2⟩ := zd3 HT3.out.r2.hb rfl rfl rfl
    have k3 : wr.cell? ⟨fb, 1, none⟩ = some (.int .i64 (q : Int)) := cell_of HT3.out.fx rfl
    have k5 : wr.cell? ⟨sb, 0, none⟩ = some (.int .i64 (s : Int)) := cell_of HT3.out.sx rfl
    have T3 := HT2.out wr hkp
    generalize hx : X[k] = x at *
    have hlt' : (k : Int) < (X.length : Int) := by omega
    gi_wp2
    refine ⟨trivial, (fun h => by cases h), (callsIn_wide.2 T3).mono ?_⟩
    rintro e W2 ⟨ay, cy, rfl, H2⟩
    have HYr := hide H2.out.1
    have hK2 : KpT Sf wr W2 := KpT.ofBelow H2.out.2
    have hJ2 := HJ.out _ wr W2 hJk H2.out.2
    clear T3 k0 k1 k2 k3 k5 hJk H2 cx' HT3
    gi_wp2
    gi_loopw [26] (fun i wi => ∃ (j : Nat), j ≤ Y.length ∧ i = .int .i64 j ∧ KpT Sf wr wi ∧ J (k * Y.length + j) wi) (fun i _ => Y.length - (intOf i).toNat)
    case atStart => exact ⟨0, Nat.zero_le _, rfl, hK2, hJ2⟩
    case round =>
     clear hK2 hJ2
     obtain ⟨j, hj, rfl, hkq, hJj⟩ := hrel
     by_cases hlj : j < Y.length
     · obtain ⟨gy, oy, rfl, cy'⟩ := HYr.out _ hkq j hlj
       have hcl : k * Y.length + j < (prsL X Y).length := by
        rw [prsL_len]
        have := Nat.mul_le_mul_right Y.length (show k + 1 ≤ X.length by omega)
        rw [Nat.add_mul, Nat.one_mul] at this
        omega
       have hv : ((prsL X Y).map prV)[k * Y.length + j]'(by rw [List.length_map]; exact hcl) = .agg #[.int .i64 x, .int .i64 Y[j]] := by
        rw [List.getElem_map, prsL_at X Y k j hlt hlj hcl, hx]; rfl
       obtain ⟨fn, tmps, assign, body, hyy, hR⟩ := HY.out (k * Y.length + j) _ (by rw [List.length_map]; exact hcl) hJj
       rw [hv] at hyy
       clear hv
       generalize hy : Y[j] = y at *
       have hlj' : (j : Int) < (Y.length : Int) := by omega
       gi_wp2
       refine ⟨(fun h => by cases h), hR.mono ?_⟩
       rintro e W3 (⟨rfl, hJ3, hk3⟩ | ⟨rfl, hx3⟩)
       · gi_wp2
         go_roundw
         case rel => exact ⟨j + 1, by omega, by go_num, hkq.trans hk3, hJ3⟩
         case measure => simp [intOf]; omega
       · gi_wp2
         refine bodyPost_ret (results_none rfl _ _ _) rfl ?_
         exact ⟨⟨_, rfl⟩, .inr hx3⟩
     · have hlj' : ¬ (j : Int) < (Y.length : Int) := by omega
       obtain rfl : j = Y.length := by omega
       gi_wp2
       go_roundw
       case rel => exact ⟨k + 1, by omega, by go_num, hkp.trans hkq, by rw [Nat.add_mul, Nat.one_mul]; exact hJj⟩
       case measure => simp [intOf]; omega
  · have hlt' : ¬ (k : Int) < (X.length : Int) := by omega
    obtain rfl : k = X.length := by omega
    gi_wp2
    go_end0
    exact ⟨⟨_, rfl⟩, .inl (by simpa [prsL_len] using hJk)⟩
theorem tog1_any (p q s : Int) (b1 b2 : Nat) (w : World) :
 Calls Tryz.prog 94 #[.agg #[.int .i64 p, .int .i64 q], .int .i64 s, .pointer (some ⟨b1, 0, none⟩), .pointer (some ⟨b2, 0, none⟩)] w fun e w' => e = .returned (.func (.func 95) #[] #[.pointer (some ⟨b1, 0, none⟩), .pointer (some ⟨w.heap.size, 0, none⟩), .pointer (some ⟨w.heap.size + 1, 0, none⟩), .pointer (some ⟨b2, 0, none⟩)]) ∧ w' = (w.alloc (.cells #[.int .i64 p, .int .i64 q] 79)).alloc (.cells #[.int .i64 s] 3) := by
 go_enter Tryz.func94, Tryz.ntmps94
 go_wp2
 go_ret
 exact ⟨rfl, rfl⟩
theorem tog_any (x0 x1 x2 y0 y1 y2 : Value) (w : World) :
 Calls Tryz.prog 58 #[.agg #[x0, x1, x2], .agg #[y0, y1, y2]] w fun e w' => e = .returned (.func (.func 94) #[] #[.pointer (some ⟨w.heap.size, 0, none⟩), .pointer (some ⟨w.heap.size + 1, 0, none⟩)]) ∧ w' = (w.alloc (.cells #[x0, x1, x2] 93)).alloc (.cells #[y0, y1, y2] 93) := by
 go_enter Tryz.func58, Tryz.ntmps58
 go_wp2
 go_ret
 exact ⟨rfl, rfl⟩
open Go.Proofs
section
variable {P : Program} {ops : Array Oper} {Q : Exit → Act → World → Prop} {l n : Nat} {md : Region.Mode}
theorem opIn_of_op {o : Oper} {a : Act} {w : World} {K : Act → World → Prop} (hd : ∀ c, o.op ≠ .defer c) (h : o.wp P a w K Q) : o.wpIn (Fence.wide.inRound l) n P a w K Q := by
 refine ⟨fun f _ => trivial, ?_⟩
 rw [Oper.semAt_eq _ _ _ hd]
 unfold Oper.wp at h
 generalize (execOp a.eval o).run P w = r at h ⊢
 cases r with
 | ok x w' =>
  cases x <;> simp only [Oper.upon, Oper.uponIn] at h ⊢ <;>
   first
    | exact h
    | exact h.elim
    | exact ⟨fun e => (by cases e), (CallsIn.inRound l (callsIn_wide.2 h)).mono (fun e w'' he => by cases e <;> exact he)⟩
    | exact ⟨fun e => (by cases e), fun c cs _ => let ⟨v, w'', r, s⟩ := h c cs; ⟨v, w'', r, stepsIn_wide.2 s⟩⟩
 | halt x w' => cases x <;> simp only [Oper.upon, Oper.uponIn] at h ⊢ <;> exact h
theorem anyIn_of_any (hd : ∀ (i : Nat) (o : Oper), ops[i]? = some o → ∀ c, o.op ≠ .defer c) (hQ : ¬ LetsOut Q) : ∀ (fuel : Nat) (listed : Array Bool) (a : Act) (w : World), wpAny P md ops Q fuel listed a w → wpAnyIn (Fence.wide.inRound l) n P md ops Q fuel listed a w := by
 intro fuel
 induction fuel with
 | zero => exact fun _ _ _ h => h
 | succ fuel ih =>
  intro listed a w h
  refine ⟨h.1, fun i hi => ?_⟩
  have h2 := h.2 i hi
  unfold wpOp at h2
  unfold wpOpIn
  cases ho : ops[i]? with
  | none => rw [ho] at h2; exact ih _ _ _ h2
  | some o =>
   rw [ho] at h2
   simp only at h2 ⊢
   by_cases hw : Region.wanted o (yielded ops a.tmps) = true
   · rw [if_pos hw] at h2 ⊢
     rcases h2 with h2 | ⟨_, h2⟩
     · exact Oper.wpIn_mono (fun a w => ih _ a w) (opIn_of_op (hd i o ho) h2)
     · exact absurd h2 hQ
   · rw [if_neg hw] at h2 ⊢
     exact ⟨fun f _ => trivial, ih _ _ _ h2⟩
def onlyN (K : Act → World → Prop) : Exit → Act → World → Prop
 | .normal, a, w => K a w
 | _, _, _ => False
theorem wpIn_region_of_any {id : Nat} {a : Act} {w : World} (hm : P.follows .mixedOrders = true) (hd : ∀ (i : Nat) (o : Oper), ops[i]? = some o → ∀ c, o.op ≠ .defer c) (h : wpAny P .any ops (onlyN (Q .normal)) ops.size (Array.replicate ops.size false) a w.drew) : (Code.region id ops true).wpIn (Fence.wide.inRound l) n P Q a w := by
 refine wpIn_mono (Q := onlyN (Q .normal)) (wpIn_region_any hm (anyIn_of_any hd (fun ⟨_, _, h⟩ => h) _ _ _ _ h)) ?_
 intro e a w h
 cases e with
 | normal => exact h
 | _ => exact h.elim
end
theorem compact_cap (W : World) (B n : Nat) (v : Value) (L : List Int) (hn : n = L.length) (hv : W.ownsRow B 3 1 v n (L.map (Value.int .i64))) (hl : n ≤ 4194304) :
 Calls Tryz.prog 149 #[v] W fun e w' => ∃ v', e = .returned v' ∧ w'.ownsRow B 3 1 v' (Lib.compact L).length ((Lib.compact L).map (Value.int .i64)) ∧ W.grownBy w' v.ownBlock ∧ ((v = .slice none 0 0 ∧ v' = .slice none 0 0) ∨ ∃ g cap k, v = .slice (some ⟨g, 0, none⟩) n cap ∧ v' = .slice (some ⟨g, 0, none⟩) k cap) := by
 rcases hv.2 with ⟨ev, e0⟩ | ⟨g, cap, cur, rfl, _⟩
 · subst ev e0
   obtain rfl : L = [] := List.eq_nil_of_length_eq_zero hn.symm
   refine (Tryz.slices_Compact_int_empty none 0 W).mono ?_
   rintro e w' ⟨rfl, rfl⟩
   have : Lib.compact ([] : List Int) = [] := List.eq_nil_of_length_eq_zero (Nat.le_zero.1 (compact_len _))
   rw [this]
   exact ⟨_, rfl, hv, ⟨rfl, rfl, rfl, Nat.le_refl _, fun _ _ _ => rfl⟩, .inl ⟨rfl, rfl⟩⟩
 · refine (compactI_any W B g cap n L hn hv hl).mono ?_
   rintro e w' ⟨rfl, a, b⟩
   exact ⟨_, rfl, a, b, .inr ⟨g, cap, _, rfl, rfl⟩⟩
theorem led_row {w wr : World} {B n : Nat} {vL vc : Value} {k : Nat} {xs ys : List Value} (h : (vL = .slice none 0 0 ∧ n = 0) ∨ ∃ g cap cur, vL = .slice (some ⟨g, 0, none⟩) n cap ∧ B ≤ g ∧ w.heap[g]? = some (.cells cur 3 (0, 0)) ∧ n ≤ cap ∧ cap ≤ maxLen ∧ cur.size = cap * 1 ∧ cur.toList.take (n * 1) = xs)
 (hb : (vL = .slice none 0 0 ∧ vc = .slice none 0 0) ∨ ∃ g cap k, vL = .slice (some ⟨g, 0, none⟩) n cap ∧ vc = .slice (some ⟨g, 0, none⟩) k cap) (hc : wr.ownsRow B 3 1 vc k ys) : ∃ zs, wr.ownsRow B 3 1 vL n zs := by
 rcases h with ⟨e1, e2⟩ | ⟨g, cap, cur, e1, h1, _, h3, h4, _, _⟩
 · exact ⟨[], by simp [e2], .inl ⟨e1, e2⟩⟩
 · rcases hb with ⟨e, _⟩ | ⟨g', cap', k', e2, e3⟩
   · rw [e1] at e; cases e
   · rw [e1] at e2
     cases e2
     rcases hc.2 with ⟨e4, _⟩ | ⟨g2, cap2, cur2, e4, q1, q2, q3, q4, q5, _⟩
     · rw [e3] at e4; cases e4
     · rw [e3] at e4
       cases e4
       refine ⟨cur2.toList.take (n * 1), ?_, .inr ⟨g, cap, cur2, e1, h1, q2, h3, h4, q5, rfl⟩⟩
       rw [List.length_take, Array.length_toList, q5]
       omega
theorem wpList_appP {ops : Array Oper} {rest : List Oper} {o : Oper} {a : Act} {Q : Exit → Act → World → Prop} {w : World} (hgd : o.guard = none) (s x : Operand)
 (ho : o.op = .call { callee := .builtin .append, args := #[s, x], argTypes := #[23, 23] }) (B : Nat) (v : Value) (X : List EdT) (hs : a.eval s = v) (hown : w.ownsRow B 61 3 v X.length (X.flatMap encE)) (p : Nat) (y : EdT) (hx : a.eval x = .slice (some ⟨p, 0, none⟩) 1 1) (hp : w.heap[p]? = some (.cells #[.int .i64 y.1, .int .i64 y.2.1, .int .i64 y.2.2] 61 (0, 0))) (hl : X.length ≤ 16777216) (hB : B ≤ w.heap.size)
 (h : ∀ v' w', Hid (w'.ownsRow B 61 3 v' (X ++ [y]).length ((X ++ [y]).flatMap encE)) → Hid (Only w w' (fun k => v.ownBlock = some k)) → Hid (v'.ownBlock = v.ownBlock ∨ v'.ownBlock = some w.heap.size) → wpList Tryz.prog ops Q rest (a.put o.dst v') w') : wpList Tryz.prog ops Q (o :: rest) a w := by
 obtain ⟨i5, hi5, hz50, hz51, hz52⟩ := info_parts info59
 refine wpList_append_own_at _ hgd s x 23 ho B 61 i5 _ 3 24 Tryz.underlying23 hi5 hz50 hz51 hz52 rfl (by omega) v X.length (X.flatMap encE) hs hown ⟨p, 0, none⟩ 1 1 (encE y) hx rfl (three_cells hp) (by simp [encE, Value.oneCell']) (by unfold maxLen; omega) (by omega) (by omega) ?_
 intro v2 w2 h2 hgr _ hn
 exact h v2 w2 (hide (by rw [List.flatMap_append, List.length_append]; simpa using h2)) (hide (grown_only hgr)) (hide hn)
structure LedJ (w : World) (B : Nat) (E : List EdT) (p s : Int) (C : List Int) (i : Nat) (vE vL vc v : Value) (wr : World) : Prop where
 ed : wr.ownsRow B 61 3 v (ledL E p s (C.take i)).length ((ledL E p s (C.take i)).flatMap encE)
 en : wr.ownsRow B 3 1 vc C.length (C.map (Value.int .i64))
 on : Only w wr (fun k => vE.ownBlock = some k ∨ vL.ownBlock = some k)
 at' : ∀ k, v.ownBlock = some k → vE.ownBlock = some k ∨ w.heap.size ≤ k
theorem ledJ_next {w wr w5 : World} {B i : Nat} {E : List EdT} {p s : Int} {C : List Int} {vE vL vc v v5 : Value} {cs : Array Value} (h : LedJ w B E p s C i vE vL vc v wr) (hi : i < C.length) (ho : w5.ownsRow B 61 3 v5 (ledL E p s (C.take i) ++ [(p, s, C[i])]).length ((ledL E p s (C.take i) ++ [(p, s, C[i])]).flatMap encE)) (oo : Only (wr.alloc (.cells cs 61)) w5 (fun k => v.ownBlock = some k)) (ha : v5.ownBlock = v.ownBlock ∨ v5.ownBlock = some (wr.alloc (.cells cs 61)).heap.size) : LedJ w B E p s C (i + 1) vE vL vc v5 w5 := by
 have d1 : Below wr.heap.size wr (wr.alloc (.cells cs 61)) := (Below.refl _ _).alloc (Nat.le_refl _) _
 have e1 := own_below h.ed d1
 have c1 := own_below h.en d1
 have hsz := h.on.size
 refine ⟨by rw [ledL_snoc _ _ _ _ _ hi]; exact ho, row_only c1 oo (fun k hk hk2 => rows_differ e1 c1 (by decide) hk2 hk), ?_, ?_⟩
 · refine (h.on.trans (Only.ofBelow d1)).andNew oo (fun k hk e => ?_)
   rcases h.at' k e with q | q
   · exact .inl q
   · omega
 · intro k hk
   rcases ha with q | q
   · exact h.at' k (q ▸ hk)
   · right
     rw [q] at hk
     simp at hk
     omega
theorem lead_own (w : World) (B : Nat) (vE vL : Value) (E : List EdT) (p s : Int) (n : Nat) (L : List Int) (hn : n = L.length) (hE : Hid (w.ownsRow B 61 3 vE E.length (E.flatMap encE))) (hL : Hid (w.ownsRow B 3 1 vL n (L.map (Value.int .i64)))) (hB : B ≤ w.heap.size) (hl : n ≤ 4194304) (hl2 : E.length ≤ 4194304) :
 Calls Tryz.prog 123 #[vE, .int .i64 p, .int .i64 s, vL] w fun e w' => ∃ v', e = .returned v' ∧ Hid (w'.ownsRow B 61 3 v' (ledL E p s (riseL L)).length ((ledL E p s (riseL L)).flatMap encE) ∧ (∃ xs, w'.ownsRow B 3 1 vL n xs) ∧ Only w w' (fun k => vE.ownBlock = some k ∨ vL.ownBlock = some k) ∧ ∀ k, v'.ownBlock = some k → vE.ownBlock = some k ∨ w.heap.size ≤ k) := by
 have TS := sort_own w B n vL L hn hL.out hl
 obtain ⟨C, hC⟩ : ∃ C, riseL L = C := ⟨_, rfl⟩
 have hCl : C.length ≤ 4194304 := by rw [← hC]; have := riseL_len L; omega
 rw [hC]
 have HC := hide hC
 clear hC
 go_enter Tryz.func123, Tryz.ntmps123
 go_wp2_with (go_at_call 148; refine TS.mono ?_; rintro e w1 ⟨rfl, o1, g1⟩)
 have HO := hide (And.intro o1 g1)
 clear TS o1 g1
 have TC := compact_cap w1 B n vL (sortI L) (by rw [sortI_len]; exact hn) HO.out.1 hl
 rw [show Lib.compact (sortI L) = riseL L from rfl, HC.out] at TC
 go_wp2_with (go_at_call 149; refine TC.mono ?_; rintro e w2 ⟨v2, rfl, o2, g2, b2'⟩; have b2 := hide b2'; clear b2'; obtain ⟨ac, cc, rfl⟩ := own_slice o2)
 have H0 : Hid (LedJ w B E p s C 0 vE vL (.slice ac C.length cc) vE w2) := hide (by
  have e1 := row_only hE.out (grown_only HO.out.2) (fun k hk hk2 => rows_differ hE.out hL.out (by decide) hk hk2)
  have e2 := row_only e1 (grown_only g2) (fun k hk hk2 => rows_differ e1 HO.out.1 (by decide) hk hk2)
  have d1 : Only w w1 (fun k => vE.ownBlock = some k ∨ vL.ownBlock = some k) := Only.grown HO.out.2 (fun k hk => .inr hk)
  have d2 : Only w1 w2 (fun k => vE.ownBlock = some k ∨ vL.ownBlock = some k) := Only.grown g2 (fun k hk => .inr hk)
  have z : ledL E p s (C.take 0) = E := by simp [ledL]
  exact ⟨by rw [z]; exact e2, o2, d1.trans d2, fun k hk => .inl hk⟩)
 have HLr := hide (And.intro hL.out.2 hn)
 clear TC HO o2 g2 hL hE hn HC
 go_loopw [0, 16] (fun ev iv wr => ∃ i : Nat, i ≤ C.length ∧ iv = .int .i64 (i : Int) ∧ Hid (LedJ w B E p s C i vE vL (.slice ac C.length cc) ev wr)) (fun _ iv _ => C.length - (intOf iv).toNat)
 case atStart => exact ⟨0, Nat.zero_le _, rfl, H0⟩
 case round =>
  obtain ⟨i, hi, rfl, HY⟩ := hrel
  clear H0
  by_cases hil : i < C.length
  · have i0 : (0 : Int) ≤ (i : Int) := by omega
    have i1 : (i : Int) < (C.length : Int) := by omega
    obtain ⟨g, o, rfl, q⟩ := own_rdN HY.out.en i hil
    have hbw : B ≤ wr.heap.size := Nat.le_trans hB HY.out.on.size
    have hll : (ledL E p s (C.take i)).length ≤ 16777216 := by rw [ledL_len, List.length_take]; omega
    obtain ⟨x, hx⟩ : ∃ x, C[i] = x := ⟨_, rfl⟩
    rw [hx] at q
    have HX := hide hx
    clear hx
    go_wp2_with (at_builtin; refine wpList_appP rfl _ _ rfl B u0 (ledL E p s (C.take i)) rfl (own_below HY.out.ed ((Below.refl _ _).alloc (Nat.le_refl _) _)) wr.heap.size (p, s, x) rfl (World.alloc_heap_new _ _) hll (by rw [World.size_alloc]; omega) ?_; intro v5 w5 HO5 HG5 HA5)
    refine ⟨⟨i + 1, by omega, by go_num, hide (ledJ_next HY.out hil (by rw [HX.out]; exact HO5.out) HG5.out HA5.out)⟩, by simp [intOf]; omega⟩
  · obtain rfl : i = C.length := by omega
    have i1 : ¬ (C.length : Int) < (C.length : Int) := by omega
    go_wp2_with fail
    refine bodyPost_ret (results_tmp rfl _ _ _) rfl ?_
    have z := HY.out.ed
    rw [List.take_length] at z
    exact ⟨_, rfl, hide ⟨z, led_row HLr.out.1 b2.out HY.out.en, HY.out.on, HY.out.at'⟩⟩
def metF (bud : Int) (fl : Bool) : List PrT → List PrT → List Int → Int × List PrT × List Int
 | ps, [], ns => (0, ps, ns)
 | ps, t :: ts, ns => if t ∈ ps then metF bud fl ps ts (if fl then ns else ns ++ [(ps.idxOf t : Int)]) else if bud ≤ (ps.length : Int) then (9, ps, ns) else if 4096 ≤ ps.length then (8, ps, ns) else metF bud fl (ps ++ [t]) ts (if fl then ns else ns ++ [(ps.length : Int)])
end Go.Proofs.YtchoopnjckcohaaGreatDoor
