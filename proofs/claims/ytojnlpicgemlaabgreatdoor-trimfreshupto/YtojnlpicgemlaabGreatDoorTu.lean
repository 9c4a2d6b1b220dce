import Derived.Test.YtojnlpicgemlaabGreatDoorTS
namespace Go.Proofs.YtojnlpicgemlaabGreatDoor
open Go.RowKit Go.Maps Go.Shelf
attribute [local go_sem] Oper.semAt_some

/-! ### leastStep: the least symbol that leads on -/
/-- One edge looked at. -/
def lsS (want : Nat → Bool) (s : Int × Nat) (e : EdT) : Int × Nat := if s.1 < e.2.1 ∨ want e.2.2.toNat = false then s else if e.2.1 < s.1 then (e.2.1, 0 ||| 2 ^ e.2.2.toNat) else (s.1, s.2 ||| 2 ^ e.2.2.toNat)
def lsR (want : Nat → Bool) (row : Nat → List EdT) (s : Int × Nat) (L : List Nat) : Int × Nat := L.foldl (fun s p => (row p).foldl (lsS want) s) s
theorem lsR_snoc (want : Nat → Bool) (row : Nat → List EdT) (s : Int × Nat) (L : List Nat) (p : Nat) : lsR want row s (L ++ [p]) = (row p).foldl (lsS want) (lsR want row s L) := by simp [lsR]
theorem fold_snoc {α β : Type} (f : β → α → β) (s : β) (F : List α) {t : Nat} (h : t < F.length) : (F.take (t + 1)).foldl f s = f ((F.take t).foldl f s) F[t] := by
  rw [List.take_succ_eq_append_getElem h, List.foldl_append]
  rfl
theorem GrAt.on {w w' : World} {H N : Nat} {row : Nat → List EdT} (h : GrAt w H N row) (d : Below w.heap.size w w') : GrAt w' H N row := by
  obtain ⟨F, hM, hF⟩ := h
  refine ⟨F, hM.below d hM.lt, fun q hq => ?_⟩
  obtain ⟨ao, c, e, hr, ht⟩ := hF q hq
  refine ⟨ao, c, e, hr.on d, fun g o e => ?_⟩
  obtain ⟨cs, fr, e2⟩ := ht g o e
  exact ⟨cs, fr, blk_on e2 d⟩
/-- What is held while a set is gone through. -/
structure LsI (w : World) (vE fv : Value) (bb bn b2 g2 k2 N : Nat) (s : Int × Nat) (W : World) : Prop where
  eb : W.heap[w.heap.size + 1]? = some (.cells #[vE] 81 (0, 0))
  fb : W.heap[w.heap.size + 2]? = some (.cells #[fv] 58 (0, 0))
  bx : W.heap[bb]? = some (.cells #[.int .i64 s.1] 3 (0, 0))
  nb : W.heap[bn]? = some (.cells #[.pointer (some ⟨b2, 0, none⟩)] 40 (0, 0))
  st : IsSet W b2 g2 k2 N s.2
  be : Below w.heap.size w W
theorem LsI.on {w : World} {vE fv : Value} {bb bn b2 g2 k2 N : Nat} {s : Int × Nat} {W W' : World} (h : LsI w vE fv bb bn b2 g2 k2 N s W) (d : Below W.heap.size W W') : LsI w vE fv bb bn b2 g2 k2 N s W' :=
  ⟨blk_on h.eb d, blk_on h.fb d, blk_on h.bx d, blk_on h.nb d, h.st.below d, h.be.trans (d.mono h.be.size)⟩
theorem LsI.put {w : World} {vE fv : Value} {bb bn b2 g2 k2 N l : Nat} {s : Int × Nat} {W : World} {r r' : Loop} (h : LsI w vE fv bb bn b2 g2 k2 N s W) (hl : W.heap[l]? = some (.loop r)) (h1 : w.heap.size < l) : LsI w vE fv bb bn b2 g2 k2 N s (W.putObj l (.loop r')) := by
  have ne : ∀ k (o : Obj), W.heap[k]? = some o → o ≠ Obj.loop r → (W.putObj l (.loop r')).heap[k]? = W.heap[k]? := fun k o hk ho => World.putObj_heap_other fun e => by
    rw [e, hl] at hk
    exact ho (by simpa using hk.symm)
  refine ⟨(ne _ _ h.eb (by simp)).trans h.eb, (ne _ _ h.fb (by simp)).trans h.fb, (ne _ _ h.bx (by simp)).trans h.bx, (ne _ _ h.nb (by simp)).trans h.nb, h.st.keep (ne _ _ h.st.blk (by simp)) ?_, ?_⟩
  · rcases h.st.own.2 with ⟨hv, _⟩ | ⟨g', cap', cur, hv, _, hg, _⟩
    · cases hv
    · cases hv
      exact ne _ _ hg (by simp)
  · exact ⟨h.be.os, h.be.tape, h.be.output, by have := h.be.size; simpa [World.putObj] using this, fun j hj => (World.putObj_heap_other (by omega)).trans (h.be.block j hj)⟩
theorem LsI.only {w : World} {vE fv : Value} {bb bn b2 g2 k2 N : Nat} {s s' : Int × Nat} {W W' : World} (h : LsI w vE fv bb bn b2 g2 k2 N s W) (o : Only W W' (fun k => k = g2 ∨ k = bb)) (hs : IsSet W' b2 g2 k2 N s'.2) (hb : W'.heap[bb]? = some (.cells #[.int .i64 s'.1] 3 (0, 0))) (h1 : w.heap.size + 2 < g2) (h2 : w.heap.size + 2 < bb) (h3 : bn ≠ g2) (h4 : bn ≠ bb) : LsI w vE fv bb bn b2 g2 k2 N s' W' :=
  ⟨(o.block _ (Array.getElem?_eq_some_iff.1 h.eb).1 (fun e => by omega)).trans h.eb, (o.block _ (Array.getElem?_eq_some_iff.1 h.fb).1 (fun e => by omega)).trans h.fb, hb, (o.block _ (Array.getElem?_eq_some_iff.1 h.nb).1 (fun e => by omega)).trans h.nb, hs, h.be.trans (o.toBelow h.be.size (fun k hk => by omega))⟩
/-- Three boxes in a row. -/
theorem box33 (w : World) (A B C : Array Value) (t u v : TypeId) : Below w.heap.size w (((w.alloc (.cells A t)).alloc (.cells B u)).alloc (.cells C v)) ∧ (((w.alloc (.cells A t)).alloc (.cells B u)).alloc (.cells C v)).heap[w.heap.size]? = some (.cells A t (0, 0)) ∧ (((w.alloc (.cells A t)).alloc (.cells B u)).alloc (.cells C v)).heap[w.heap.size + 1]? = some (.cells B u (0, 0)) ∧ (((w.alloc (.cells A t)).alloc (.cells B u)).alloc (.cells C v)).heap[w.heap.size + 2]? = some (.cells C v (0, 0)) ∧ (((w.alloc (.cells A t)).alloc (.cells B u)).alloc (.cells C v)).heap.size = w.heap.size + 3 := by
  have z1 : (w.alloc (.cells A t)).heap.size = w.heap.size + 1 := by simp
  have z2 : ((w.alloc (.cells A t)).alloc (.cells B u)).heap.size = w.heap.size + 2 := by simp
  refine ⟨((((Below.refl _ _).alloc (Nat.le_refl _) _).alloc (by omega) _).alloc (by omega) _), ?_, ?_, ?_, by simp⟩
  · exact ((Below.heap_alloc _ _ _ (by omega)).trans (Below.heap_alloc _ _ _ (by omega))).trans (World.alloc_heap_new _ _)
  · have := World.alloc_heap_new (w.alloc (.cells A t)) (.cells B u)
    rw [z1] at this
    exact (Below.heap_alloc _ _ _ (by omega)).trans this
  · have := World.alloc_heap_new ((w.alloc (.cells A t)).alloc (.cells B u)) (.cells C v)
    rw [z2] at this
    exact this
set_option maxRecDepth 100000 in
set_option maxHeartbeats 4000000 in
theorem leastStep_any (w : World) (N : Nat) (mv : Int) (a1 a2 a3 : Option Addr) (n1 n2 n3 c1 c2 c3 : Nat) (row : Nat → List EdT) (H b g cap X b4 b5 gl : Nat) (l : Int) (len : Nat → Int) (hN : N ≤ 8192) (hG : Hid (GrAt w H N row)) (hR : Hid (∀ p, p < N → (row p).length ≤ 4194304 ∧ ∀ e ∈ row p, 0 ≤ e.2.2 ∧ e.2.2 < (N : Int))) (hs : Hid (IsSet w b g cap N X)) (h4 : Hid (w.heap[b4]? = some (.cells #[.slice (some ⟨gl, 0, none⟩) N N] 22 (0, 0)))) (h5 : Hid (w.heap[b5]? = some (.cells #[.int .i64 l] 3 (0, 0)))) (hM : Hid (Mrw w gl 3 N (fun c => .int .i64 (len c)) N)) (hT : Hid (TabAt w ∧ 0 < w.heap.size)) :
    Calls Tryz.prog 64 #[.agg #[.int .i64 (N : Int), .int .i64 mv, .slice a1 n1 c1, .slice a2 n2 c2, .slice a3 n3 c3], .slice (some ⟨H, 0, none⟩) N N, .pointer (some ⟨b, 0, none⟩), .func (.func 65) #[] #[.pointer (some ⟨b4, 0, none⟩), .pointer (some ⟨b5, 0, none⟩)]] w fun e w' => ∃ b' g' cap', e = .returned (.tuple #[.int .i64 (lsR (fun p => decide (len p = l)) row (mv, 0) (elems N X)).1, .pointer (some ⟨b', 0, none⟩)]) ∧ Hid (IsSet w' b' g' cap' N (lsR (fun p => decide (len p = l)) row (mv, 0) (elems N X)).2 ∧ w.heap.size ≤ b' ∧ w.heap.size ≤ g' ∧ b' ≠ g') ∧ Below w.heap.size w w' := by
  obtain ⟨W0, hW0⟩ : ∃ W0, ((w.alloc (.cells #[.int .i64 (N : Int), .int .i64 mv, .slice a1 n1 c1, .slice a2 n2 c2, .slice a3 n3 c3] 25)).alloc (.cells #[.slice (some ⟨H, 0, none⟩) N N] 81)).alloc (.cells #[.func (.func 65) #[] #[.pointer (some ⟨b4, 0, none⟩), .pointer (some ⟨b5, 0, none⟩)]] 58) = W0 := ⟨_, rfl⟩
  have HD := hide (box33 w #[.int .i64 (N : Int), .int .i64 mv, .slice a1 n1 c1, .slice a2 n2 c2, .slice a3 n3 c3] #[.slice (some ⟨H, 0, none⟩) N N] #[.func (.func 65) #[] #[.pointer (some ⟨b4, 0, none⟩), .pointer (some ⟨b5, 0, none⟩)]] 25 81 58)
  rw [hW0] at HD
  have B0 := HD.out.2.1
  have y0 : W0.cell? ⟨w.heap.size, 0, none⟩ = some (.int .i64 (N : Int)) := cell_of B0 rfl
  have y1 : W0.cell? ⟨w.heap.size, 1, none⟩ = some (.int .i64 mv) := cell_of B0 rfl
  clear B0
  obtain ⟨want, hwant⟩ : ∃ want : Nat → Bool, (fun p => decide (len p = l)) = want := ⟨_, rfl⟩
  have HWT := hide (fun p => congrFun hwant p)
  rw [hwant]
  clear hwant
  refine (callsIn_wide (n := 9)).1 (callsIn_of_wp_marks Tryz.func64 rfl trivial ?_ rfl)
  refine wpIn_wide.2 ?_
  simp only [Tryz.ntmps64, List.size_toArray, List.length_cons, List.length_nil, Nat.reduceAdd, Nat.reduceSub, Array.replicate_succ, Array.replicate_zero, List.push_toArray, List.append_toArray, List.nil_append, List.cons_append]
  go_upto_region 2 with fail
  have hz0 := HD.out.2.2.2.2
  rw [hz0]
  obtain ⟨WA, hWA⟩ : ∃ WA, W0.alloc (.cells #[.int .i64 mv] 3) = WA := ⟨_, rfl⟩
  rw [hWA]
  have HA : Hid (WA.heap[w.heap.size + 3]? = some (.cells #[.int .i64 mv] 3 (0, 0)) ∧ Below W0.heap.size W0 WA ∧ WA.heap.size = w.heap.size + 4) := hide (by
    rw [← hWA, ← hz0]
    exact ⟨World.alloc_heap_new _ _, (Below.refl _ _).alloc (Nat.le_refl _) _, by rw [World.size_alloc, hz0]⟩)
  clear hWA hW0 y1 hz0
  have y0 : WA.cell? ⟨w.heap.size, 0, none⟩ = some (.int .i64 (N : Int)) := cell_of (blk_on HD.out.2.1 HA.out.2.1) rfl
  have TNW := new_ok N WA hN
  go_upto_region 3 with (go_at_call 51; refine TNW.mono ?_; rintro e w1 ⟨b2, g2, k2, rfl, hs2, hb2, hg2, hbg2, d1⟩)
  go_wp2_with (go_at_call 74; refine (all_any _ _).mono ?_; rintro e w3 ⟨rfl, hw3⟩; subst hw3)
  obtain ⟨W3, hW3⟩ : ∃ W3, (w1.alloc (.cells #[.pointer (some ⟨b2, 0, none⟩)] 40)).alloc (.cells #[.pointer (some ⟨b, 0, none⟩)] 40) = W3 := ⟨_, rfl⟩
  rw [hW3]
  have q3 := box2 w1 #[.pointer (some ⟨b2, 0, none⟩)] #[.pointer (some ⟨b, 0, none⟩)] 40
  rw [hW3] at q3
  obtain ⟨d13, e4, e5, e6⟩ := q3
  have d01 : Below w.heap.size w w1 := by
    have s0 := HD.out.2.2.2.2
    have s1 := HA.out.2.2
    exact (HD.out.1.trans (HA.out.2.1.mono (by omega))).trans (d1.mono (by omega))
  have d03 := d01.trans (d13.mono d01.size)
  have HI0 : LsI w (.slice (some ⟨H, 0, none⟩) N N) (.func (.func 65) #[] #[.pointer (some ⟨b4, 0, none⟩), .pointer (some ⟨b5, 0, none⟩)]) (w.heap.size + 3) w1.heap.size b2 g2 k2 N (lsR want row (mv, 0) ((elems N X).take 0)) W3 :=
    ⟨blk_on (blk_on (blk_on HD.out.2.2.1 HA.out.2.1) d1) d13, blk_on (blk_on (blk_on HD.out.2.2.2.1 HA.out.2.1) d1) d13, blk_on (blk_on HA.out.1 d1) d13, e4, hs2.below d13, d03⟩
  have hsq := all_seq 8 (w1.heap.size + 1) b g cap N X W3 e5 (hs.out.below d03) (hT.out.1.below d03 hT.out.2)
  have HSEQ := hide hsq
  have HI := hide HI0
  have hsz1 := d1.size
  have hsA := HA.out.2.2
  have hlb := hs2.blt
  have hlg := hs2.glt
  have HDK := hide (And.intro d01 d03)
  clear hsq HI0 d13 hs2 y0 e4 e5 d1 hW3 TNW d01 d03
  refine (wpIn_wide (n := 9)).1 ?_
  refine range_in_order (n := 9) (by omega) rfl (enters_of Tryz.func82 (by kernel_rfl) rfl) HSEQ.out KpU.trans ?kb (Below.refl _ _) (fun k W => LsI w (.slice (some ⟨H, 0, none⟩) N N) (.func (.func 65) #[] #[.pointer (some ⟨b4, 0, none⟩), .pointer (some ⟨b5, 0, none⟩)]) (w.heap.size + 3) w1.heap.size b2 g2 k2 N (lsR want row (mv, 0) ((elems N X).take k)) W) (fun k A A' h d => h.on d) ?ip HI.out (fun x => { tmps := #[.agg #[.int .i64 (N : Int), .int .i64 mv, .slice a1 n1 c1, .slice a2 n2 c2, .slice a3 n3 c3], .slice (some ⟨H, 0, none⟩) N N, .pointer (some ⟨b, 0, none⟩), .func (.func 65) #[] #[.pointer (some ⟨b4, 0, none⟩), .pointer (some ⟨b5, 0, none⟩)], .pointer (some ⟨w.heap.size, 0, none⟩), .pointer (some ⟨w.heap.size + 1, 0, none⟩), undef, .pointer (some ⟨w.heap.size + 1 + 1, 0, none⟩), .int .i64 0, .pointer none, .pointer (some ⟨w.heap.size + 3, 0, none⟩), .pointer (some ⟨w1.heap.size, 0, none⟩), .int .i64 0, x, undef, undef, .pointer (some ⟨w.heap.size, 1, none⟩), .int .i64 mv, .tuple #[.pointer (some ⟨b2, 0, none⟩), .int .i64 0], .pointer (some ⟨w.heap.size, 0, none⟩), .int .i64 (N : Int), .tuple #[.pointer (some ⟨b2, 0, none⟩), .int .i64 0], .pointer (some ⟨b2, 0, none⟩), .int .i64 0, .pointer (some ⟨b, 0, none⟩), .func (.func 82) #[] #[.pointer (some ⟨w1.heap.size + 1, 0, none⟩)], x, undef, undef, undef, undef, undef, undef, undef, undef, undef, undef, undef, undef, undef, undef, undef, undef, undef, undef, undef, undef, undef, undef, undef, undef, undef, undef, undef, undef, undef, undef, undef, undef, undef, undef, undef], defers := [] }) ?assign ?body ?done
  case kb => exact fun W r r' h => KpU.put W _ r r' (by omega) h
  case ip => exact fun k A r r' hI h => hI.put h (by omega)
  case assign =>
    intro l x W K hK
    gi_wp2
    exact hK
  case body =>
    rintro l0 k W hk hI hd ⟨r, hr⟩
    have hk2 : k < (elems N X).length := by simpa [intV] using hk
    have hv : (intV (elems N X))[k] = .int .i64 ((elems N X)[k] : Int) := by simp [intV]
    rw [hv]
    have hpN : (elems N X)[k] < N := by
      have := List.getElem_mem hk2
      unfold elems at this
      exact List.mem_range.1 (List.mem_filter.1 this).1
    have hsn : lsR want row (mv, 0) ((elems N X).take (k + 1)) = (row (elems N X)[k]).foldl (lsS want) (lsR want row (mv, 0) ((elems N X).take k)) := by
      rw [List.take_succ_eq_append_getElem hk2, lsR_snoc]
    have HSN := hide hsn
    obtain ⟨p, hp⟩ : ∃ p, (elems N X)[k] = p := ⟨_, rfl⟩
    simp only [hp] at hpN HSN ⊢
    have HRp := hide (hR.out p hpN)
    obtain ⟨Fr, hMr, hFr⟩ := hG.out.on hI.be
    obtain ⟨ao, co, eF, hrF, htF⟩ := hFr p hpN
    have xF : W.cell? ⟨H, p, none⟩ = some (.slice ao (row p).length co) := by rw [hMr.at p hpN, eF]
    have xE : W.cell? ⟨w.heap.size + 1, 0, none⟩ = some (.slice (some ⟨H, 0, none⟩) N N) := cell_of hI.eb rfl
    have p0 : (0 : Int) ≤ (p : Int) := by omega
    have p1 : (p : Int) < (N : Int) := by omega
    have HL := hide (And.intro (And.intro hd hr) (show W3.heap.size + 1 < W.heap.size from (Array.getElem?_eq_some_iff.1 hr).1))
    have HI2 := hide hI
    have HRF := hide (And.intro hrF htF)
    have hW3s : W3.heap.size = w1.heap.size + 2 := by omega
    generalize row p = F at HRp HRF HSN xF
    generalize lsR want row (mv, 0) ((elems N X).take k) = s0 at HI2 HSN hI
    clear hk hv hp hr hd hsn hI hMr hFr eF hrF htF
    have H4 : Hid (IsSet W b2 g2 k2 N ((F.take 0).foldl (lsS want) s0).2 ∧ W.heap[w.heap.size + 3]? = some (.cells #[.int .i64 ((F.take 0).foldl (lsS want) s0).1] 3 (0, 0)) ∧ Only W W (fun q => q = g2 ∨ q = w.heap.size + 3)) := hide ⟨HI2.out.st, HI2.out.bx, Only.ofBelow (Below.refl _ _)⟩
    gi_wp2
    clear xF xE
    gi_loopw [32] (fun iv wr => ∃ t : Nat, t ≤ F.length ∧ iv = .int .i64 t ∧ Hid (IsSet wr b2 g2 k2 N ((F.take t).foldl (lsS want) s0).2 ∧ wr.heap[w.heap.size + 3]? = some (.cells #[.int .i64 ((F.take t).foldl (lsS want) s0).1] 3 (0, 0)) ∧ Only W wr (fun q => q = g2 ∨ q = w.heap.size + 3))) (fun iv _ => F.length - (intOf iv).toNat)
    case atStart => exact ⟨0, Nat.zero_le _, rfl, H4⟩
    case round =>
      obtain ⟨t, ht, rfl, HY⟩ := hrel
      clear H4
      by_cases hlt : t < F.length
      · have i0 : (0 : Int) ≤ (t : Int) := by omega
        have i1 : (t : Int) < (F.length : Int) := by omega
        have hFl : F.length ≤ 4194304 := HRp.out.1
        obtain ⟨g', o', he, q1, q2, q3⟩ := (rdE_only HRF.out.1 HY.out.2.2 (fun a b hab hR => by
          obtain ⟨cs, fr, hc⟩ := HRF.out.2 a b hab
          have hst := HI2.out.st.own
          rcases hR with rfl | rfl
          · rcases hst.2 with ⟨hv, _⟩ | ⟨g', cap', cur, hv, _, hg, _⟩
            · cases hv
            · cases hv
              rw [hg] at hc
              cases hc
          · rw [HI2.out.bx] at hc
            cases hc)) t hlt
        subst he
        have HN := hide (HRp.out.2 F[t] (List.getElem_mem hlt))
        have HTk := hide (fold_snoc (lsS want) s0 F hlt)
        obtain ⟨x, hx⟩ : ∃ x, F[t] = x := ⟨_, rfl⟩
        rw [hx] at q1 q2 q3 HTk HN
        clear hx
        obtain ⟨x1, x2, x3⟩ := x
        obtain ⟨j3, hj3⟩ := Int.eq_ofNat_of_zero_le HN.out.1
        have hj3 : x3 = (j3 : Int) := hj3
        subst hj3
        have hl3 : j3 < N := by have := HN.out.2; simp only at this; omega
        generalize (F.take t).foldl (lsS want) s0 = s at HY HTk
        obtain ⟨best, R⟩ := s
        simp only at q1 q2 q3 HY HTk
        obtain ⟨eb, heb⟩ : ∃ k, wr.heap.size = k := ⟨_, rfl⟩
        obtain ⟨W5, hW5⟩ : ∃ W5, wr.alloc (.cells #[.int .i64 x1, .int .i64 x2, .int .i64 (j3 : Int)] 35) = W5 := ⟨_, rfl⟩
        have HW5 : Hid (W5.heap[eb]? = some (.cells #[.int .i64 x1, .int .i64 x2, .int .i64 (j3 : Int)] 35 (0, 0)) ∧ Below wr.heap.size wr W5) := hide (by rw [← hW5, ← heb]; exact ⟨World.alloc_heap_new _ _, (Below.refl _ _).alloc (Nat.le_refl _) _⟩)
        have H5 : Hid (IsSet W5 b2 g2 k2 N R ∧ W5.heap[w.heap.size + 3]? = some (.cells #[.int .i64 best] 3 (0, 0)) ∧ Only W W5 (fun q => q = g2 ∨ q = w.heap.size + 3) ∧ W.heap.size ≤ eb) := hide ⟨HY.out.1.below HW5.out.2, blk_on HY.out.2.1 HW5.out.2, HY.out.2.2.trans (Only.ofBelow HW5.out.2), by rw [← heb]; exact HY.out.2.2.size⟩
        have LS5 : Hid (LsI w (.slice (some ⟨H, 0, none⟩) N N) (.func (.func 65) #[] #[.pointer (some ⟨b4, 0, none⟩), .pointer (some ⟨b5, 0, none⟩)]) (w.heap.size + 3) w1.heap.size b2 g2 k2 N (best, R) W5) := hide (HI2.out.only H5.out.2.2.1 H5.out.1 H5.out.2.1 (by omega) (by omega) (by omega) (by omega))
        have y1 : W5.cell? ⟨eb, 1, none⟩ = some (.int .i64 x2) := cell_of HW5.out.1 rfl
        have y2 : W5.cell? ⟨eb, 2, none⟩ = some (.int .i64 (j3 : Int)) := cell_of HW5.out.1 rfl
        have y3 : W5.cell? ⟨w.heap.size + 3, 0, none⟩ = some (.int .i64 best) := cell_of H5.out.2.1 rfl
        have y7 : W5.cell? ⟨w.heap.size + 1 + 1, 0, none⟩ = some (.func (.func 65) #[] #[.pointer (some ⟨b4, 0, none⟩), .pointer (some ⟨b5, 0, none⟩)]) := cell_of LS5.out.fb rfl
        have yn : W5.cell? ⟨w1.heap.size, 0, none⟩ = some (.pointer (some ⟨b2, 0, none⟩)) := cell_of LS5.out.nb rfl
        have TW := wanted_any W5 b4 b5 gl N j3 l len (cell_of (blk_on h4.out LS5.out.be) rfl) (cell_of (blk_on h5.out LS5.out.be) rfl) (hM.out.below LS5.out.be hM.out.lt) hl3
        have hwj := HWT.out j3
        rw [hwj] at TW
        have hsd : IsSet W5 b2 g2 k2 N R := H5.out.1
        have HSD := hide hsd
        clear hwj HY hsd
        by_cases c1 : best < x2
        · have H6 : Hid (IsSet W5 b2 g2 k2 N ((F.take (t + 1)).foldl (lsS want) s0).2 ∧ W5.heap[w.heap.size + 3]? = some (.cells #[.int .i64 ((F.take (t + 1)).foldl (lsS want) s0).1] 3 (0, 0)) ∧ Only W W5 (fun q => q = g2 ∨ q = w.heap.size + 3)) := hide (by
            rw [HTk.out, show lsS want (best, R) (x1, x2, (j3 : Int)) = (best, R) from if_pos (.inl c1)]
            exact ⟨H5.out.1, H5.out.2.1, H5.out.2.2.1⟩)
          gi_wp2
          refine ⟨fun f h => (by cases h), ?_⟩
          gi_wp2
          exact ⟨⟨t + 1, by omega, by go_num, H6⟩, by simp [intOf]; omega⟩
        · cases hw : want j3 with
          | false =>
            rw [hw] at TW
            gi_wp2
            refine ⟨trivial, (CallsIn.inRound l0 (callsIn_wide.2 TW)).mono ?_⟩
            rintro e w6 ⟨rfl, q6, hw6⟩
            have H6 : Hid (IsSet w6 b2 g2 k2 N ((F.take (t + 1)).foldl (lsS want) s0).2 ∧ w6.heap[w.heap.size + 3]? = some (.cells #[.int .i64 ((F.take (t + 1)).foldl (lsS want) s0).1] 3 (0, 0)) ∧ Only W w6 (fun q => q = g2 ∨ q = w.heap.size + 3)) := hide (by
              rw [HTk.out, show lsS want (best, R) (x1, x2, (j3 : Int)) = (best, R) from if_pos (.inr (by simpa using hw)), hw6]
              exact ⟨⟨H5.out.1.hn, H5.out.1.hX, H5.out.1.blk, H5.out.1.own⟩, H5.out.2.1, ⟨H5.out.2.2.1.os, H5.out.2.2.1.tape, H5.out.2.2.1.output, H5.out.2.2.1.size, H5.out.2.2.1.block⟩⟩)
            clear hw6 TW y1 y2 y3 y7 yn q1 q2 q3 hW5
            gi_wp2
            exact ⟨⟨t + 1, by omega, by go_num, H6⟩, by simp [intOf]; omega⟩
          | true =>
            rw [hw] at TW
            have HNT : Hid (¬ (best < x2 ∨ want ((j3 : Int)).toNat = false)) := hide (fun h => h.elim c1 (fun h => by rw [Int.toNat_natCast, hw] at h; cases h))
            gi_wp2
            refine ⟨trivial, (CallsIn.inRound l0 (callsIn_wide.2 TW)).mono ?_⟩
            rintro e w6 ⟨rfl, q6, hw6⟩
            have S6 : Hid (IsSet w6 b2 g2 k2 N R ∧ w6.heap[w.heap.size + 3]? = some (.cells #[.int .i64 best] 3 (0, 0)) ∧ Only W w6 (fun q => q = g2 ∨ q = w.heap.size + 3) ∧ w6.heap[eb]? = some (.cells #[.int .i64 x1, .int .i64 x2, .int .i64 (j3 : Int)] 35 (0, 0)) ∧ w6.heap[w1.heap.size]? = some (.cells #[.pointer (some ⟨b2, 0, none⟩)] 40 (0, 0)) ∧ W.heap.size ≤ eb) := hide (by
              rw [hw6]
              exact ⟨⟨H5.out.1.hn, H5.out.1.hX, H5.out.1.blk, H5.out.1.own⟩, H5.out.2.1, ⟨H5.out.2.2.1.os, H5.out.2.2.1.tape, H5.out.2.2.1.output, H5.out.2.2.1.size, H5.out.2.2.1.block⟩, HW5.out.1, LS5.out.nb, H5.out.2.2.2⟩)
            clear hw6 TW y1 y2 y3 y7 yn q1 q2 q3 hW5 H5 HW5 LS5
            have z1 : w6.cell? ⟨eb, 1, none⟩ = some (.int .i64 x2) := cell_of S6.out.2.2.2.1 rfl
            have z3 : w6.cell? ⟨w.heap.size + 3, 0, none⟩ = some (.int .i64 best) := cell_of S6.out.2.1 rfl
            have f3 : w6.frozen? ⟨w.heap.size + 3, 0, none⟩ = false := fz_of S6.out.2.1
            by_cases c2 : x2 < best
            · have z7 : w6.cell? ⟨w1.heap.size, 0, none⟩ = some (.pointer (some ⟨b2, 0, none⟩)) := cell_of S6.out.2.2.2.2.1 rfl
              have ne1 : w1.heap.size ≠ w.heap.size + 3 := by omega
              obtain ⟨w7, hw7⟩ : ∃ W, w6.setCell ⟨w.heap.size + 3, 0, none⟩ (.int .i64 x2) = W := ⟨_, rfl⟩
              have S7 : Hid (IsSet w7 b2 g2 k2 N R ∧ w7.heap[w.heap.size + 3]? = some (.cells #[.int .i64 x2] 3 (0, 0)) ∧ Only W w7 (fun q => q = g2 ∨ q = w.heap.size + 3) ∧ w7.heap[eb]? = some (.cells #[.int .i64 x1, .int .i64 x2, .int .i64 (j3 : Int)] 35 (0, 0)) ∧ w7.heap[w1.heap.size]? = some (.cells #[.pointer (some ⟨b2, 0, none⟩)] 40 (0, 0)) ∧ W.heap.size ≤ eb) := hide (by
                have o : Only w6 w7 (fun k => k = w.heap.size + 3) := by rw [← hw7]; exact only_set _ _ _ _
                have l1 := S6.out.2.2.2.2.2
                have l2 := HL.out.2
                refine ⟨S6.out.1.keep (o.block _ S6.out.1.blt (by omega)) (o.block _ S6.out.1.glt (by omega)), by rw [← hw7]; exact heap_setCell_same _ _ 0 _ 3 _ S6.out.2.1, S6.out.2.2.1.andNew o (fun i _ q => .inr q), (o.block _ (Array.getElem?_eq_some_iff.1 S6.out.2.2.2.1).1 (by omega)).trans S6.out.2.2.2.1, (o.block _ (Array.getElem?_eq_some_iff.1 S6.out.2.2.2.2.1).1 (by omega)).trans S6.out.2.2.2.2.1, l1⟩)
              have z8 : w7.cell? ⟨w1.heap.size, 0, none⟩ = some (.pointer (some ⟨b2, 0, none⟩)) := cell_of S7.out.2.2.2.2.1 rfl
              have TC := clear_any b2 g2 k2 N R w7 S7.out.1 hbg2
              gi_wp2
              refine ⟨trivial, (CallsIn.inRound l0 (callsIn_wide.2 TC)).mono ?_⟩
              rintro e w8 ⟨rfl, hs8, hg8⟩
              have S8 : Hid (IsSet w8 b2 g2 k2 N 0 ∧ w8.heap[w.heap.size + 3]? = some (.cells #[.int .i64 x2] 3 (0, 0)) ∧ Only W w8 (fun q => q = g2 ∨ q = w.heap.size + 3) ∧ w8.heap[eb]? = some (.cells #[.int .i64 x1, .int .i64 x2, .int .i64 (j3 : Int)] 35 (0, 0)) ∧ w8.heap[w1.heap.size]? = some (.cells #[.pointer (some ⟨b2, 0, none⟩)] 40 (0, 0))) := hide (by
                have l1 := S7.out.2.2.2.2.2
                have l2 := HL.out.2
                have o : Only w7 w8 (fun k => k = g2) := ⟨hg8.os, hg8.tape, hg8.output, hg8.size, fun k hk hn => hg8.block k hk (fun e => hn (by cases e; rfl))⟩
                exact ⟨hs8, (o.block _ (Array.getElem?_eq_some_iff.1 S7.out.2.1).1 (by omega)).trans S7.out.2.1, S7.out.2.2.1.andNew o (fun i _ q => .inl q), (o.block _ (Array.getElem?_eq_some_iff.1 S7.out.2.2.2.1).1 (by omega)).trans S7.out.2.2.2.1, (o.block _ (Array.getElem?_eq_some_iff.1 S7.out.2.2.2.2.1).1 (by omega)).trans S7.out.2.2.2.2.1⟩)
              clear hs8 hg8 TC z1 z3 f3 z7 z8 hw7 S7 S6
              have z9 : w8.cell? ⟨w1.heap.size, 0, none⟩ = some (.pointer (some ⟨b2, 0, none⟩)) := cell_of S8.out.2.2.2.2 rfl
              have z2 : w8.cell? ⟨eb, 2, none⟩ = some (.int .i64 (j3 : Int)) := cell_of S8.out.2.2.2.1 rfl
              have TA := add_only b2 g2 k2 N 0 j3 w8 S8.out.1 hbg2 hl3
              gi_wp2
              refine ⟨trivial, (CallsIn.inRound l0 (callsIn_wide.2 TA)).mono ?_⟩
              rintro e w9 ⟨rfl, hs9, o9⟩
              have H6 : Hid (IsSet w9 b2 g2 k2 N ((F.take (t + 1)).foldl (lsS want) s0).2 ∧ w9.heap[w.heap.size + 3]? = some (.cells #[.int .i64 ((F.take (t + 1)).foldl (lsS want) s0).1] 3 (0, 0)) ∧ Only W w9 (fun q => q = g2 ∨ q = w.heap.size + 3)) := hide (by
                rw [HTk.out, show lsS want (best, R) (x1, x2, (j3 : Int)) = (x2, 0 ||| 2 ^ j3) from (if_neg HNT.out).trans (if_pos c2)]
                exact ⟨hs9, (o9.block _ (Array.getElem?_eq_some_iff.1 S8.out.2.1).1 (by omega)).trans S8.out.2.1, S8.out.2.2.1.andNew o9 (fun i _ q => .inl q)⟩)
              clear hs9 o9 TA z9 z2 S8
              gi_wp2
              exact ⟨⟨t + 1, by omega, by go_num, H6⟩, by simp [intOf]; omega⟩
            · have HC2 : Hid (¬ x2 < best) := hide c2
              have z9 : w6.cell? ⟨w1.heap.size, 0, none⟩ = some (.pointer (some ⟨b2, 0, none⟩)) := cell_of S6.out.2.2.2.2.1 rfl
              have z2 : w6.cell? ⟨eb, 2, none⟩ = some (.int .i64 (j3 : Int)) := cell_of S6.out.2.2.2.1 rfl
              have TA := add_only b2 g2 k2 N R j3 w6 S6.out.1 hbg2 hl3
              gi_wp2
              refine ⟨trivial, (CallsIn.inRound l0 (callsIn_wide.2 TA)).mono ?_⟩
              rintro e w9 ⟨rfl, hs9, o9⟩
              have H6 : Hid (IsSet w9 b2 g2 k2 N ((F.take (t + 1)).foldl (lsS want) s0).2 ∧ w9.heap[w.heap.size + 3]? = some (.cells #[.int .i64 ((F.take (t + 1)).foldl (lsS want) s0).1] 3 (0, 0)) ∧ Only W w9 (fun q => q = g2 ∨ q = w.heap.size + 3)) := hide (by
                rw [HTk.out, show lsS want (best, R) (x1, x2, (j3 : Int)) = (best, R ||| 2 ^ j3) from (if_neg HNT.out).trans (if_neg (show ¬ x2 < best by have := HC2.out; omega))]
                exact ⟨hs9, (o9.block _ (Array.getElem?_eq_some_iff.1 S6.out.2.1).1 (by omega)).trans S6.out.2.1, S6.out.2.2.1.andNew o9 (fun i _ q => .inl q)⟩)
              clear hs9 o9 TA z9 z2 S6 z1 z3 f3
              gi_wp2
              exact ⟨⟨t + 1, by omega, by go_num, H6⟩, by simp [intOf]; omega⟩
      · obtain rfl : F.length = t := by omega
        have i1 : ¬ (F.length : Int) < (F.length : Int) := by omega
        gi_wp2
        have hw0 := hT.out.2
        have hL2 := HL.out.2
        have hst := HY.out
        rw [List.take_length] at hst
        refine ⟨⟨HY.out.2.2.block _ (by omega) (by omega), HY.out.2.2.block _ (by omega) (by omega)⟩, KpU.ofOnly (by omega) HY.out.2.2 (fun k hk => by omega), ?_⟩
        show LsI _ _ _ _ _ _ _ _ _ _ _
        rw [HSN.out]
        exact HI2.out.only hst.2.2 hst.1 hst.2.1 (by omega) (by omega) (by omega) (by omega)
  case done =>
    intro Dq W hD hI hq
    have c0 : W.cell? ⟨w.heap.size + 3, 0, none⟩ = some (.int .i64 (lsR want row (mv, 0) ((elems N X).take (intV (elems N X)).length)).1) := cell_of hI.bx rfl
    have c1 : W.cell? ⟨w1.heap.size, 0, none⟩ = some (.pointer (some ⟨b2, 0, none⟩)) := cell_of hI.nb rfl
    have hst := hI.st
    have hlen : (intV (elems N X)).length = (elems N X).length := by simp [intV]
    rw [hlen, List.take_length] at hst c0
    have hbl := hI.be
    have HST := hide hst
    clear hst hI hlen
    go_wp2_with fail
    go_quiet (fail)
    go_wp2_with fail
    refine ⟨by simp, .inl ⟨_, _, rfl, run_takeDeferred hq, ?_⟩⟩
    refine ⟨_, results_tmp2 rfl _ _ _, ?_⟩
    refine ⟨b2, g2, k2, rfl, hide ⟨IsSet.keep (w := W) HST.out (World.putObj_heap_other (w := W.drewN nq) (by omega)) (World.putObj_heap_other (w := W.drewN nq) (by omega)), by omega, by omega, hbg2⟩, ?_⟩
    exact ⟨hbl.os, hbl.tape, hbl.output, by have := hbl.size; simpa [World.putObj] using this, fun j hj => (World.putObj_heap_other (w := W.drewN nq) (by omega)).trans (hbl.block j hj)⟩
end Go.Proofs.YtojnlpicgemlaabGreatDoor
