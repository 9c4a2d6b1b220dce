import Derived.Test.YtojnlpicgemlaabGreatDoorTu
namespace Go.Proofs.YtojnlpicgemlaabGreatDoor
open Go.RowKit Go.Maps Go.Shelf
attribute [local go_sem] Oper.semAt_some

/-! ### leastWord, Empty -/
theorem min_cases (len : Nat → Int) : ∀ (Fr : List Int) (acc : Int), Fr.foldl (minF len) acc = acc ∨ ∃ x ∈ Fr, Fr.foldl (minF len) acc = len x.toNat ∧ len x.toNat ≠ -1
  | [], _ => .inl rfl
  | x :: Fr, acc => by
    rw [List.foldl_cons]
    rcases min_cases len Fr (minF len acc x) with h | ⟨y, hy, h⟩
    · rw [h]
      unfold minF
      split
      · rename_i hc
        exact .inr ⟨x, by simp, rfl, hc.1⟩
      · exact .inl rfl
    · exact .inr ⟨y, by simp [hy], h⟩
theorem lenMin_cases (len : Nat → Int) (Fr : List Int) : lenMin len Fr = -1 ∨ ∃ x ∈ Fr, lenMin len Fr = len x.toNat ∧ len x.toNat ≠ -1 := min_cases len Fr (-1)
/-- The word so far, and the states that it leads to, after so many steps of d. -/
def lwS (len : Nat → Int) (row : Nat → List EdT) (N : Nat) (mv : Int) (d X : Nat) : Nat → List Int × Nat
  | 0 => ([], X)
  | i + 1 => ((lwS len row N mv d X i).1 ++ [(lsR (fun p => decide (len p = ((d - (i + 1) : Nat) : Int))) row (mv, 0) (elems N (lwS len row N mv d X i).2)).1], (lsR (fun p => decide (len p = ((d - (i + 1) : Nat) : Int))) row (mv, 0) (elems N (lwS len row N mv d X i).2)).2)
theorem lwS_len (len : Nat → Int) (row : Nat → List EdT) (N : Nat) (mv : Int) (d X : Nat) : ∀ i, (lwS len row N mv d X i).1.length = i
  | 0 => rfl
  | i + 1 => by
    have := lwS_len len row N mv d X i
    simp [lwS, this]
def sliceLen : Value → Nat
  | .slice _ n _ => n
  | _ => 0
structure LwI (w5 wr : World) (b4 b' g' c' N d i : Nat) (y : Option Addr) (z : Nat) (s : List Int × Nat) : Prop where
  bx : wr.heap[b4 + 1]? = some (.cells #[.int .i64 ((d - i : Nat) : Int)] 3 (0, 0))
  st : IsSet wr b' g' c' N s.2
  wd : wr.ownsRow w5.heap.size 3 1 (.slice y i z) i (s.1.map (Value.int .i64))
  only : Only w5 wr (fun k => k = b4 + 1)
theorem set_only {w w' : World} {b g c N X bb : Nat} {cs : Array Value} (h : IsSet w b g c N X) (o : Only w w' (fun k => k = bb)) (hb : w.heap[bb]? = some (.cells cs 3 (0, 0))) : IsSet w' b g c N X := by
  refine h.keep (o.block _ h.blt (fun e => ?_)) (o.block _ h.glt (fun e => ?_))
  · have := h.blk
    rw [e, hb] at this
    cases this
  · rcases h.own.2 with ⟨hv, _⟩ | ⟨g', cap', cur, hv, _, hg, _⟩
    · cases hv
    · cases hv
      rw [e, hb] at hg
      cases hg
theorem set_own {w w' : World} {b g c N X B n : Nat} {v : Value} {xs : List Value} (h : IsSet w b g c N X) (ow : w.ownsRow B 3 1 v n xs) (o : Only w w' (fun k => v.ownBlock = some k)) : IsSet w' b g c N X := by
  have ty : ∀ k, v.ownBlock = some k → ∃ cs, w.heap[k]? = some (.cells cs 3 (0, 0)) := fun k hk => by
    rcases ow.2 with ⟨hv, _⟩ | ⟨g', cap', cur, hv, _, hg, _⟩
    · rw [hv] at hk; cases hk
    · rw [hv] at hk
      cases hk
      exact ⟨_, hg⟩
  refine h.keep (o.block _ h.blt (fun e => ?_)) (o.block _ h.glt (fun e => ?_))
  · obtain ⟨cs, hc⟩ := ty _ e
    have := h.blk
    rw [hc] at this
    cases this
  · obtain ⟨cs, hc⟩ := ty _ e
    rcases h.own.2 with ⟨hv, _⟩ | ⟨g', cap', cur, hv, _, hg, _⟩
    · cases hv
    · cases hv
      rw [hc] at hg
      cases hg
theorem gr_only {w w' : World} {H N bb : Nat} {row : Nat → List EdT} {cs : Array Value} (h : GrAt w H N row) (o : Only w w' (fun k => k = bb)) (hb : w.heap[bb]? = some (.cells cs 3 (0, 0))) : GrAt w' H N row := by
  obtain ⟨F, hM, hF⟩ := h
  refine ⟨F, hM.only o (fun e => ?_), fun q hq => ?_⟩
  · obtain ⟨cur, h1, _⟩ := hM
    rw [e, hb] at h1
    cases h1
  · obtain ⟨ao, c, e, hr, ht⟩ := hF q hq
    have hk : ∀ g o', ao = some ⟨g, o', none⟩ → g ≠ bb := fun g o' e' e2 => by
      obtain ⟨cs', fr, e3⟩ := ht g o' e'
      rw [e2, hb] at e3
      cases e3
    refine ⟨ao, c, e, rdE_only hr o hk, fun g o' e' => ?_⟩
    obtain ⟨cs', fr, e3⟩ := ht g o' e'
    exact ⟨cs', fr, (o.block g (Array.getElem?_eq_some_iff.1 e3).1 (hk g o' e')).trans e3⟩
/-- What leastWord answers. -/
def LwP (w w' : World) (N : Nat) (mv : Int) (St Fi : List Int) (Ed : List EdT) (e : Ending) : Prop := ∃ len, (Bfs N (fun q => (q : Int) ∈ Fi) (stepE true Ed) [] len ∧ (∀ q, q < N → len q < N)) ∧ ((lenMin len St = -1 ∧ e = .returned (.tuple #[.slice none 0 0, .bool false])) ∨ (0 ≤ lenMin len St ∧ ∃ vw, e = .returned (.tuple #[vw, .bool true]) ∧ OwnL w.heap.size w' vw (lwS len (rowI false Ed) N mv (lenMin len St).toNat (setI N St) (lenMin len St).toNat).1)) ∧ Below w.heap.size w w'
set_option maxRecDepth 100000 in
set_option maxHeartbeats 4000000 in
theorem leastWord_any (w : World) (N : Nat) (mv : Int) (a1 a2 a3 : Option Addr) (c1 c2 c3 : Nat) (St Fi : List Int) (Ed : List EdT) (hA : Hid (ArgA w N mv a1 a2 a3 St Fi Ed)) (hT : Hid (TabAt w ∧ 0 < w.heap.size)) :
    Calls Tryz.prog 38 #[.agg #[.int .i64 (N : Int), .int .i64 mv, .slice a1 St.length c1, .slice a2 Fi.length c2, .slice a3 Ed.length c3]] w fun e w' => LwP w w' N mv St Fi Ed e := by
  obtain ⟨i3, hi3, hz30, hz31, hz32⟩ := info_parts info3
  obtain ⟨n1, e1⟩ : ∃ n, St.length = n := ⟨_, rfl⟩
  obtain ⟨n2, e2⟩ : ∃ n, Fi.length = n := ⟨_, rfl⟩
  obtain ⟨n3, e3⟩ : ∃ n, Ed.length = n := ⟨_, rfl⟩
  have hN := hA.out.hN
  rw [e1, e2, e3]
  have HE := hide (And.intro e1 (And.intro e2 e3))
  obtain ⟨W0, hW0⟩ : ∃ W0, w.alloc (.cells #[.int .i64 (N : Int), .int .i64 mv, .slice a1 n1 c1, .slice a2 n2 c2, .slice a3 n3 c3] 25) = W0 := ⟨_, rfl⟩
  have HB : Hid (Below w.heap.size w W0 ∧ W0.heap[w.heap.size]? = some (.cells #[.int .i64 (N : Int), .int .i64 mv, .slice a1 n1 c1, .slice a2 n2 c2, .slice a3 n3 c3] 25 (0, 0)) ∧ W0.heap.size = w.heap.size + 1) := hide (by rw [← hW0]; exact ⟨(Below.refl _ _).alloc (Nat.le_refl _) _, World.alloc_heap_new _ _, by simp⟩)
  have TL := lengths_bwd W0 N mv a1 a2 a3 a2 n1 n2 c1 c2 c3 c2 Ed Fi (by omega) (hA.out.re.on HB.out.1) (hA.out.rf.on HB.out.1) (by have := hA.out.le; omega) hA.out.lf (hA.out.ends true) hA.out.inf
  rw [e2, e3] at TL
  clear e1 e2 e3
  obtain ⟨Q, hQ⟩ : ∃ Q : Ending → World → Prop, (fun e w' => LwP w w' N mv St Fi Ed e) = Q := ⟨_, rfl⟩
  have HP : Hid (∀ (e : Ending) (w' : World), (∃ len, (Bfs N (fun q => (q : Int) ∈ Fi) (stepE true Ed) [] len ∧ (∀ q, q < N → len q < N)) ∧ ((lenMin len St = -1 ∧ e = .returned (.tuple #[.slice none 0 0, .bool false])) ∨ (0 ≤ lenMin len St ∧ ∃ vw, e = .returned (.tuple #[vw, .bool true]) ∧ OwnL w.heap.size w' vw (lwS len (rowI false Ed) N mv (lenMin len St).toNat (setI N St) (lenMin len St).toNat).1)) ∧ Below w.heap.size w w') → Q e w') := hide (fun e w' h => by rw [← hQ]; exact h)
  rw [hQ]
  clear hQ
  have B0 := HB.out.2.1
  have q0 : W0.cell? ⟨w.heap.size, 0, none⟩ = some (.int .i64 (N : Int)) := cell_of B0 rfl
  have q1 : W0.cell? ⟨w.heap.size, 1, none⟩ = some (.int .i64 mv) := cell_of B0 rfl
  have q2 : W0.cell? ⟨w.heap.size, 2, none⟩ = some (.slice a1 n1 c1) := cell_of B0 rfl
  have q3 : W0.cell? ⟨w.heap.size, 3, none⟩ = some (.slice a2 n2 c2) := cell_of B0 rfl
  have q4 : W0.cell? ⟨w.heap.size, 4, none⟩ = some (.slice a3 n3 c3) := cell_of B0 rfl
  clear B0
  go_enter Tryz.func38, Tryz.ntmps38
  go_upto_region 2 with (go_at_call 30; refine TL.mono ?_; rintro e w1 ⟨gl, rfl, hgl, ⟨len, hMl, hbf, hlt⟩, d1⟩)
  obtain ⟨b4, hb4⟩ : ∃ k, w1.heap.size = k := ⟨_, rfl⟩
  rw [hb4]
  obtain ⟨w2, hw2⟩ : ∃ X, w1.alloc (.cells #[.slice (some ⟨gl, 0, none⟩) N N] 22) = X := ⟨_, rfl⟩
  rw [hw2]
  have HF : Hid ((Bfs N (fun q => (q : Int) ∈ Fi) (stepE true Ed) [] len ∧ (∀ q, q < N → len q < N)) ∧ ∀ q, -1 ≤ len q) := hide ⟨⟨hbf, hlt⟩, hbf.ge⟩
  have H2 : Hid (w2.heap[b4]? = some (.cells #[.slice (some ⟨gl, 0, none⟩) N N] 22 (0, 0)) ∧ Below W0.heap.size W0 w2 ∧ Mrw w2 gl 3 N (fun c => .int .i64 (len c)) N ∧ w2.heap.size = b4 + 1 ∧ W0.heap.size ≤ b4 ∧ W0.heap.size ≤ gl) := hide (by
    have d : Below w1.heap.size w1 w2 := by rw [← hw2]; exact (Below.refl _ _).alloc (Nat.le_refl _) _
    exact ⟨by rw [← hw2, ← hb4]; exact World.alloc_heap_new _ _, d1.trans (d.mono d1.size), hMl.below d hMl.lt, by rw [← hw2, ← hb4]; simp, by rw [← hb4]; exact d1.size, hgl⟩)
  clear hw2 hb4 hMl hbf hlt d1 hgl TL hW0
  clear q0 q1 q2 q3 q4
  have TM := least_any w2 a1 c1 gl N St len ((hA.out.rs.on HB.out.1).on H2.out.2.1) H2.out.2.2.1 hA.out.ins hA.out.ls
  rw [HE.out.1] at TM
  have B0 := blk_on HB.out.2.1 H2.out.2.1
  have q0 : w2.cell? ⟨w.heap.size, 0, none⟩ = some (.int .i64 (N : Int)) := cell_of B0 rfl
  have q1 : w2.cell? ⟨w.heap.size, 1, none⟩ = some (.int .i64 mv) := cell_of B0 rfl
  have q2 : w2.cell? ⟨w.heap.size, 2, none⟩ = some (.slice a1 n1 c1) := cell_of B0 rfl
  have q3 : w2.cell? ⟨w.heap.size, 3, none⟩ = some (.slice a2 n2 c2) := cell_of B0 rfl
  have q4 : w2.cell? ⟨w.heap.size, 4, none⟩ = some (.slice a3 n3 c3) := cell_of B0 rfl
  have q5 : w2.cell? ⟨b4, 0, none⟩ = some (.slice (some ⟨gl, 0, none⟩) N N) := cell_of H2.out.1 rfl
  clear B0
  go_upto_region 3 with (go_at_call 62; refine TM.mono ?_; rintro e w2' ⟨rfl, hw⟩; obtain rfl := hw.symm; clear hw)
  rw [H2.out.2.2.2.1]
  obtain ⟨w3, hw3⟩ : ∃ X, w2.alloc (.cells #[.int .i64 (lenMin len St)] 3) = X := ⟨_, rfl⟩
  rw [hw3]
  have H3 : Hid (w3.heap[b4 + 1]? = some (.cells #[.int .i64 (lenMin len St)] 3 (0, 0)) ∧ w3.heap[b4]? = some (.cells #[.slice (some ⟨gl, 0, none⟩) N N] 22 (0, 0)) ∧ w3.heap[w.heap.size]? = some (.cells #[.int .i64 (N : Int), .int .i64 mv, .slice a1 n1 c1, .slice a2 n2 c2, .slice a3 n3 c3] 25 (0, 0)) ∧ Below w.heap.size w w3 ∧ Mrw w3 gl 3 N (fun c => .int .i64 (len c)) N ∧ w3.heap.size = b4 + 2 ∧ w.heap.size < b4 ∧ w.heap.size < gl ∧ gl < b4 + 1) := hide (by
    have d : Below w2.heap.size w2 w3 := by rw [← hw3]; exact (Below.refl _ _).alloc (Nat.le_refl _) _
    have s0 := HB.out.2.2
    have s1 := H2.out.2.2.2
    have s2 := H2.out.2.2.1.lt
    refine ⟨by rw [← hw3, ← s1.1]; exact World.alloc_heap_new _ _, blk_on H2.out.1 d, blk_on (blk_on HB.out.2.1 H2.out.2.1) d, (HB.out.1.trans (H2.out.2.1.mono (by omega))).trans (d.mono (by omega)), H2.out.2.2.1.below d H2.out.2.2.1.lt, by rw [← hw3]; simp [s1.1], by omega, by omega, by omega⟩)
  clear hw3 TM q5 H2 HB
  clear q0 q1 q2 q3 q4
  have k5 : w3.cell? ⟨b4 + 1, 0, none⟩ = some (.int .i64 (lenMin len St)) := cell_of H3.out.1 rfl
  by_cases hno : lenMin len St = -1
  · have HNO := hide hno
    rw [hno] at k5
    clear hno
    go_wp2_with fail
    exact HP.out _ _ ⟨len, HF.out.1, .inl ⟨HNO.out, rfl⟩, H3.out.2.2.2.1⟩
  · obtain ⟨d, hd⟩ : ∃ d : Nat, lenMin len St = (d : Int) := by
      rcases lenMin_cases len St with h | ⟨x, hx, h, h'⟩
      · exact absurd h hno
      · exact Int.eq_ofNat_of_zero_le (by rw [h]; have := HF.out.2 x.toNat; omega)
    have hdN : d ≤ 4096 := by
      rcases lenMin_cases len St with h | ⟨x, hx, h, h'⟩
      · exact absurd h hno
      · obtain ⟨q, hq, rfl⟩ := hA.out.ins x hx
        have := HF.out.1.2 q hq
        rw [Int.toNat_natCast] at h
        omega
    have HP2 : Hid (∀ (e : Ending) (w' : World), (∃ vw, e = .returned (.tuple #[vw, .bool true]) ∧ OwnL w.heap.size w' vw (lwS len (rowI false Ed) N mv d (setI N St) d).1 ∧ Below w.heap.size w w') → Q e w') := hide (fun e w' h => by
      obtain ⟨vw, he, ho, hb⟩ := h
      exact HP.out e w' ⟨len, HF.out.1, .inr ⟨by omega, vw, he, by rw [hd, Int.toNat_natCast]; exact ho⟩, hb⟩)
    have hd1 : ((d : Int) == -1) = false := by simp
    have hd2 : ¬ (d : Int) = -1 := by omega
    have HB5 : Hid (w3.heap[b4 + 1]? = some (.cells #[.int .i64 (d : Int)] 3 (0, 0))) := hide (by rw [← hd]; exact H3.out.1)
    rw [hd] at k5
    clear hd hno HP HF
    have TG := grouped_fwd w3 N mv a1 a2 a3 n1 n2 c1 c2 c3 Ed (by omega) (hA.out.re.on H3.out.2.2.2.1) (by have := hA.out.le; omega) (fun e he => by obtain ⟨p, r, h1, h2, h3⟩ := hA.out.ends false e he; exact ⟨p, h1, by rw [h3]⟩)
    rw [HE.out.2.2] at TG
    have B0 := H3.out.2.2.1
    have q0 : w3.cell? ⟨w.heap.size, 0, none⟩ = some (.int .i64 (N : Int)) := cell_of B0 rfl
    have q1 : w3.cell? ⟨w.heap.size, 1, none⟩ = some (.int .i64 mv) := cell_of B0 rfl
    have q2 : w3.cell? ⟨w.heap.size, 2, none⟩ = some (.slice a1 n1 c1) := cell_of B0 rfl
    have q3 : w3.cell? ⟨w.heap.size, 3, none⟩ = some (.slice a2 n2 c2) := cell_of B0 rfl
    have q4 : w3.cell? ⟨w.heap.size, 4, none⟩ = some (.slice a3 n3 c3) := cell_of B0 rfl
    clear B0
    go_upto_region 6 with (go_at_call 55; refine TG.mono ?_; rintro e w4 ⟨H, rfl, ⟨FG, hGI⟩, d4⟩)
    have H4 : Hid (GrAt w4 H N (rowI false Ed) ∧ Below w3.heap.size w3 w4) := hide ⟨hGI.at, d4⟩
    clear hGI d4 TG k5
    clear q0 q1 q2 q3 q4
    have TO := of81_any a1 c1 N St w4 (by omega) (fun k hk => by
      obtain ⟨g, o, e, h⟩ := (((hA.out.rs.on H3.out.2.2.2.1).on H4.out.2)) k hk
      exact ⟨g, o, e, by simpa [hk] using h⟩) (by have := hA.out.ls; omega)
    rw [okI_of (may_parts hA.out.may).2.2.2.1] at TO
    rw [HE.out.1] at TO
    have B0 := blk_on H3.out.2.2.1 H4.out.2
    have q0 : w4.cell? ⟨w.heap.size, 0, none⟩ = some (.int .i64 (N : Int)) := cell_of B0 rfl
    have q1 : w4.cell? ⟨w.heap.size, 1, none⟩ = some (.int .i64 mv) := cell_of B0 rfl
    have q2 : w4.cell? ⟨w.heap.size, 2, none⟩ = some (.slice a1 n1 c1) := cell_of B0 rfl
    have q3 : w4.cell? ⟨w.heap.size, 3, none⟩ = some (.slice a2 n2 c2) := cell_of B0 rfl
    have q4 : w4.cell? ⟨w.heap.size, 4, none⟩ = some (.slice a3 n3 c3) := cell_of B0 rfl
    clear B0
    go_upto_region 7 with (go_at_call 63; refine TO.mono ?_; rintro e w5 (⟨_, bs, gs, cs, rfl, hs5, hbs, hgs, hne, d5⟩ | ⟨h, _⟩); rotate_left; cases h)
    have H5 : Hid (w5.heap[b4 + 1]? = some (.cells #[.int .i64 (d : Int)] 3 (0, 0)) ∧ w5.heap[b4]? = some (.cells #[.slice (some ⟨gl, 0, none⟩) N N] 22 (0, 0)) ∧ w5.heap[w.heap.size]? = some (.cells #[.int .i64 (N : Int), .int .i64 mv, .slice a1 n1 c1, .slice a2 n2 c2, .slice a3 n3 c3] 25 (0, 0)) ∧ Below w.heap.size w w5 ∧ Mrw w5 gl 3 N (fun c => .int .i64 (len c)) N ∧ GrAt w5 H N (rowI false Ed) ∧ IsSet w5 bs gs cs N (setI N St) ∧ b4 + 2 ≤ w5.heap.size ∧ w.heap.size < b4 ∧ gl < b4 + 1) := hide (by
      have s0 := H3.out.2.2.2.2.2
      have s1 := H4.out.2.size
      have s2 := d5.size
      exact ⟨blk_on (blk_on HB5.out H4.out.2) d5, blk_on (blk_on H3.out.2.1 H4.out.2) d5, blk_on (blk_on H3.out.2.2.1 H4.out.2) d5, (H3.out.2.2.2.1.trans (H4.out.2.mono (by omega))).trans (d5.mono (by omega)), (H3.out.2.2.2.2.1.below H4.out.2 H3.out.2.2.2.2.1.lt).below d5 (H3.out.2.2.2.2.1.below H4.out.2 H3.out.2.2.2.2.1.lt).lt, H4.out.1.on d5, hs5, by omega, by omega, by omega⟩)
    clear hs5 hbs hgs hne d5 TO H4 H3 HB5
    clear q0 q1 q2 q3 q4
    have k5 : w5.cell? ⟨b4 + 1, 0, none⟩ = some (.int .i64 (d : Int)) := cell_of H5.out.1 rfl
    have HR : Hid (∀ p, p < N → (rowI false Ed p).length ≤ 4194304 ∧ ∀ e ∈ rowI false Ed p, 0 ≤ e.2.2 ∧ e.2.2 < (N : Int)) := hide (fun p _ => ⟨Nat.le_trans (List.length_filter_le _ _) (by have := hA.out.le; omega), fun e he => by
      have h := ((may_parts hA.out.may).2.2.2.2.2 e (List.mem_filter.1 he).1).2.2
      exact h⟩)
    go_wp2_with (at_make; refine wpList_make_own _ rfl _ _ 22 rfl w5.heap.size 3 i3 (.int .i64 0) 1 Tryz.underlying22 hi3 hz30 hz31 _ _ _ d rfl rfl rfl (by rw [hz32]; omega) (by unfold maxLen; omega) (Nat.le_refl _) ?_; intro w6 ho hg)
    have H6 : Hid (LwI w5 w6 b4 bs gs cs N d 0 (some ⟨w5.heap.size, 0, none⟩) d (lwS len (rowI false Ed) N mv d (setI N St) 0)) := hide (by
      have dd : Below w5.heap.size w5 w6 := (Below.refl _ _).grown hg (Nat.le_refl _) (by intro k hk; cases hk)
      exact ⟨blk_on H5.out.1 dd, H5.out.2.2.2.2.2.2.1.below dd, ho, Only.ofBelow dd⟩)
    clear ho hg k5
    go_loopw [7, 9] (fun sv wv wr => ∃ i b' g' c' y z, i ≤ d ∧ sv = .pointer (some ⟨b', 0, none⟩) ∧ wv = .slice y i z ∧ Hid (LwI w5 wr b4 b' g' c' N d i y z (lwS len (rowI false Ed) N mv d (setI N St) i))) (fun _ wv _ => d - sliceLen wv)
    case atStart => exact ⟨0, bs, gs, cs, _, _, Nat.zero_le _, rfl, rfl, H6⟩
    case round =>
      obtain ⟨i, b', g', c', y, z, hi, rfl, rfl, HY⟩ := hrel
      clear H6
      obtain ⟨m1, hm1⟩ : ∃ m, d - i = m := ⟨_, rfl⟩
      have bx := HY.out.bx
      rw [hm1] at bx
      have HBX := hide bx
      have k5 : wr.cell? ⟨b4 + 1, 0, none⟩ = some (.int .i64 (m1 : Int)) := cell_of bx rfl
      have f5 : wr.frozen? ⟨b4 + 1, 0, none⟩ = false := fz_of bx
      clear bx
      by_cases hlt : i < d
      · have l0 : (0 : Int) < (m1 : Int) := by omega
        obtain ⟨m, hm⟩ : ∃ m, m1 = m + 1 := ⟨m1 - 1, by omega⟩
        have hmd : d - (i + 1) = m := by omega
        have em : (m1 : Int) - 1 = (m : Int) := by omega
        have ew : IntKind.i64.wrap ((m1 : Int) - 1) = (m : Int) := by rw [em, IntKind.wrap_i64]; omega
        obtain ⟨w7, hw7⟩ : ∃ X, wr.setCell ⟨b4 + 1, 0, none⟩ (.int .i64 (m : Int)) = X := ⟨_, rfl⟩
        have H7 : Hid (w7.heap[b4 + 1]? = some (.cells #[.int .i64 (m : Int)] 3 (0, 0)) ∧ Only w5 w7 (fun k => k = b4 + 1) ∧ IsSet w7 b' g' c' N (lwS len (rowI false Ed) N mv d (setI N St) i).2 ∧ w7.ownsRow w5.heap.size 3 1 (.slice y i z) i ((lwS len (rowI false Ed) N mv d (setI N St) i).1.map (Value.int .i64))) := hide (by
          have o : Only wr w7 (fun k => k = b4 + 1) := by rw [← hw7]; exact only_set _ _ _ _
          refine ⟨by rw [← hw7]; exact heap_setCell_same _ _ 0 _ 3 _ HBX.out, HY.out.only.trans o, set_only HY.out.st o HBX.out, ?_⟩
          have hr := HY.out.wd
          exact row_only hr o (fun k hk e => by have := (hr.lt k hk).1; have := H5.out.2.2.2.2.2.2.2; omega))
        have HD7 : Hid (Below w.heap.size w w7) := hide (H5.out.2.2.2.1.trans (H7.out.2.1.toBelow H5.out.2.2.2.1.size (fun k hk => by have := H5.out.2.2.2.2.2.2.2; omega)))
        have TS := leastStep_any w7 N mv a1 a2 a3 n1 n2 n3 c1 c2 c3 (rowI false Ed) H b' g' c' (lwS len (rowI false Ed) N mv d (setI N St) i).2 b4 (b4 + 1) gl (m : Int) len (by omega) (hide (gr_only H5.out.2.2.2.2.2.1 H7.out.2.1 H5.out.1)) HR (hide H7.out.2.2.1) (hide ((H7.out.2.1.block _ (by have := H5.out.2.2.2.2.2.2.2; omega) (by omega)).trans H5.out.2.1)) (hide H7.out.1) (hide (H5.out.2.2.2.2.1.only H7.out.2.1 (by have := H5.out.2.2.2.2.2.2.2; omega))) (hide ⟨hT.out.1.below HD7.out hT.out.2, Nat.lt_of_lt_of_le hT.out.2 HD7.out.size⟩)
        have HSX : Hid ((lwS len (rowI false Ed) N mv d (setI N St) (i + 1)) = ((lwS len (rowI false Ed) N mv d (setI N St) i).1 ++ [(lsR (fun p => decide (len p = (m : Int))) (rowI false Ed) (mv, 0) (elems N (lwS len (rowI false Ed) N mv d (setI N St) i).2)).1], (lsR (fun p => decide (len p = (m : Int))) (rowI false Ed) (mv, 0) (elems N (lwS len (rowI false Ed) N mv d (setI N St) i).2)).2)) := hide (by rw [lwS, hmd])
        have HLL : Hid ((lwS len (rowI false Ed) N mv d (setI N St) i).1.length = i) := hide (lwS_len _ _ _ _ _ _ _)
        have B0 : w7.heap[w.heap.size]? = some (.cells #[.int .i64 (N : Int), .int .i64 mv, .slice a1 n1 c1, .slice a2 n2 c2, .slice a3 n3 c3] 25 (0, 0)) := (H7.out.2.1.block _ (Array.getElem?_eq_some_iff.1 H5.out.2.2.1).1 (by have := H5.out.2.2.2.2.2.2.2; omega)).trans H5.out.2.2.1
        have q0 : w7.cell? ⟨w.heap.size, 0, none⟩ = some (.int .i64 (N : Int)) := cell_of B0 rfl
        have q1 : w7.cell? ⟨w.heap.size, 1, none⟩ = some (.int .i64 mv) := cell_of B0 rfl
        have q2 : w7.cell? ⟨w.heap.size, 2, none⟩ = some (.slice a1 n1 c1) := cell_of B0 rfl
        have q3 : w7.cell? ⟨w.heap.size, 3, none⟩ = some (.slice a2 n2 c2) := cell_of B0 rfl
        have q4 : w7.cell? ⟨w.heap.size, 4, none⟩ = some (.slice a3 n3 c3) := cell_of B0 rfl
        clear B0 HY hm hm1
        generalize (lwS len (rowI false Ed) N mv d (setI N St) i) = s at TS HSX H7 HLL
        generalize lsR (fun p => decide (len p = (m : Int))) (rowI false Ed) (mv, 0) (elems N s.2) = s' at TS HSX
        go_upto_region 12 with (go_at_call 64; refine TS.mono ?_; rintro e w8 ⟨b8, g8, c8, rfl, hs8, d8⟩)
        have H8 : Hid (w8.heap[b4 + 1]? = some (.cells #[.int .i64 (m : Int)] 3 (0, 0)) ∧ Only w5 w8 (fun k => k = b4 + 1) ∧ IsSet w8 b8 g8 c8 N s'.2 ∧ w8.ownsRow w5.heap.size 3 1 (.slice y i z) i (s.1.map (Value.int .i64))) := hide ⟨blk_on H7.out.1 d8, only_below1 H7.out.2.1 d8, hs8.out.1, own_below H7.out.2.2.2 d8⟩
        clear hs8 d8 TS H7 hw7
        clear q0 q1 q2 q3 q4
        have hs5 := H8.out.2.1.size
        go_wp2_with ((at_builtin; refine wpList_append_lies _ rfl _ _ _ rfl w5.heap.size 3 i3 _ 1 8 Tryz.underlying22 hi3 hz30 hz31 hz32 rfl (by omega) (.slice y i z) i (s.1.map (Value.int .i64)) rfl (H8.out.2.2.2.alloc _) ⟨w8.heap.size, 0, none⟩ 1 1 [.int .i64 s'.1] rfl rfl (World.news_of_block (cs := #[.int .i64 s'.1]) (t := 3) (fr := (0, 0)) (heap_alloc_new w8 _)) (by simp [Value.oneCell']) (by omega) (by unfold maxLen; omega) (by omega) (by simp; omega) (w8.heap.size + 1) (by simp) ?_; intro g9 c9 w9 ho9 hg9 ha9 hl9))
        have J : Hid (LwI w5 w9 b4 b8 g8 c8 N d (i + 1) (some ⟨g9, 0, none⟩) c9 (lwS len (rowI false Ed) N mv d (setI N St) (i + 1))) := hide (by
          have o9 : Only w8 w9 (fun k => (Value.slice y i z).ownBlock = some k) := ⟨hg9.os, hg9.tape, hg9.output, by have := hg9.size; rw [World.size_alloc] at this; omega, fun k hk hn => (hg9.block k (by rw [World.size_alloc]; omega) (fun e => hn e.symm)).trans (Below.heap_alloc _ _ _ hk)⟩
          have hlt := H8.out.2.2.2.lt
          rw [HSX.out]
          refine ⟨by rw [hmd]; exact (o9.block _ (Array.getElem?_eq_some_iff.1 H8.out.1).1 (fun e => by have := (hlt _ e).1; have := H5.out.2.2.2.2.2.2.2; omega)).trans H8.out.1, set_own H8.out.2.2.1 H8.out.2.2.2 o9, by rw [List.map_append]; exact ho9, H8.out.2.1.andNew o9 (fun k hk e => by have := (hlt k e).1; omega)⟩)
        clear ho9 hg9 ha9 hl9 H8
        go_roundw
        case rel => exact ⟨i + 1, b8, g8, c8, some ⟨g9, 0, none⟩, c9, by omega, rfl, rfl, J⟩
        case measure => simp [sliceLen]; omega
      · have l0 : ¬ (0 : Int) < (m1 : Int) := by omega
        obtain rfl : i = d := by omega
        have hL := lwS_len len (rowI false Ed) N mv i (setI N St) i
        have J : Hid (OwnL w.heap.size wr (.slice y i z) (lwS len (rowI false Ed) N mv i (setI N St) i).1 ∧ Below w.heap.size w wr) := hide (by
          have s1 := H5.out.2.2.2.2.2.2.2
          refine ⟨?_, H5.out.2.2.2.1.trans (HY.out.only.toBelow H5.out.2.2.2.1.size (fun k hk => by omega))⟩
          unfold OwnL
          rw [hL]
          exact owns_down HY.out.wd (by omega))
        clear hL f5 hm1
        go_wp2_with fail
        exact HP2.out _ _ ⟨_, rfl, J.out.1, J.out.2⟩
end Go.Proofs.YtojnlpicgemlaabGreatDoor
namespace Go.Proofs.YtojnlpicgemlaabGreatDoor
open Go.RowKit Go.Maps Go.Shelf
attribute [local go_sem] Oper.semAt_some

/-! ### Empty -/
/-- What Empty answers. -/
def EmP (w w' : World) (N : Nat) (mv : Int) (St Fi : List Int) (Ed : List EdT) (e : Ending) : Prop := ∃ len, (Bfs N (fun q => (q : Int) ∈ Fi) (stepE true Ed) [] len ∧ (∀ q, q < N → len q < N)) ∧ ((lenMin len St = -1 ∧ e = .returned (.tuple #[.bool true, .slice none 0 0, .int .i64 0])) ∨ (0 ≤ lenMin len St ∧ ∃ vw, e = .returned (.tuple #[.bool false, vw, .int .i64 0]) ∧ OwnL w.heap.size w' vw (lwS len (rowI false Ed) N mv (lenMin len St).toNat (setI N St) (lenMin len St).toNat).1)) ∧ Below w.heap.size w w'
set_option maxRecDepth 100000 in
set_option maxHeartbeats 1000000 in
theorem empty_ok (w : World) (N : Nat) (mv : Int) (a1 a2 a3 : Option Addr) (c1 c2 c3 : Nat) (St Fi : List Int) (Ed : List EdT) (hA : Hid (RdA w a1 a2 a3 St Fi Ed)) (h1 : St.length ≤ 4194304) (h2 : Fi.length ≤ 4194304) (h3 : Ed.length ≤ 4194304) (hT : Hid (TabAt w ∧ 0 < w.heap.size)) (em : mayA (N : Int) mv St Fi Ed = true) :
    Calls Tryz.prog 17 #[.agg #[.int .i64 (N : Int), .int .i64 mv, .slice a1 St.length c1, .slice a2 Fi.length c2, .slice a3 Ed.length c3]] w fun e w' => EmP w w' N mv St Fi Ed e := by
  obtain ⟨n1, e1⟩ : ∃ n, St.length = n := ⟨_, rfl⟩
  obtain ⟨n2, e2⟩ : ∃ n, Fi.length = n := ⟨_, rfl⟩
  obtain ⟨n3, e3⟩ : ∃ n, Ed.length = n := ⟨_, rfl⟩
  rw [e1, e2, e3]
  obtain ⟨W0, hW0⟩ : ∃ W0, w.alloc (.cells #[.int .i64 (N : Int), .int .i64 mv, .slice a1 n1 c1, .slice a2 n2 c2, .slice a3 n3 c3] 25) = W0 := ⟨_, rfl⟩
  have HB : Hid (Below w.heap.size w W0 ∧ W0.heap[w.heap.size]? = some (.cells #[.int .i64 (N : Int), .int .i64 mv, .slice a1 n1 c1, .slice a2 n2 c2, .slice a3 n3 c3] 25 (0, 0))) := hide (by rw [← hW0]; exact ⟨(Below.refl _ _).alloc (Nat.le_refl _) _, World.alloc_heap_new _ _⟩)
  have TV := valid_any W0 (N : Int) mv a1 a2 a3 c1 c2 c3 St Fi Ed (hide (hA.out.on HB.out.1)) h1 h2 h3
  rw [em, e1, e2, e3] at TV
  have B0 := HB.out.2
  have q0 : W0.cell? ⟨w.heap.size, 0, none⟩ = some (.int .i64 (N : Int)) := cell_of B0 rfl
  have q1 : W0.cell? ⟨w.heap.size, 1, none⟩ = some (.int .i64 mv) := cell_of B0 rfl
  have q2 : W0.cell? ⟨w.heap.size, 2, none⟩ = some (.slice a1 n1 c1) := cell_of B0 rfl
  have q3 : W0.cell? ⟨w.heap.size, 3, none⟩ = some (.slice a2 n2 c2) := cell_of B0 rfl
  have q4 : W0.cell? ⟨w.heap.size, 4, none⟩ = some (.slice a3 n3 c3) := cell_of B0 rfl
  clear B0
  have HM := hide (And.intro em (And.intro h1 h2))
  have HE := hide (And.intro e1 (And.intro e2 e3))
  clear e1 e2 e3 em
  obtain ⟨Q, hQ⟩ : ∃ Q : Ending → World → Prop, (fun e w' => EmP w w' N mv St Fi Ed e) = Q := ⟨_, rfl⟩
  have HP : Hid (∀ (e : Ending) (w' : World), (∃ len, (Bfs N (fun q => (q : Int) ∈ Fi) (stepE true Ed) [] len ∧ (∀ q, q < N → len q < N)) ∧ ((lenMin len St = -1 ∧ e = .returned (.tuple #[.bool true, .slice none 0 0, .int .i64 0])) ∨ (0 ≤ lenMin len St ∧ ∃ vw, e = .returned (.tuple #[.bool false, vw, .int .i64 0]) ∧ OwnL w.heap.size w' vw (lwS len (rowI false Ed) N mv (lenMin len St).toNat (setI N St) (lenMin len St).toNat).1)) ∧ Below w.heap.size w w') → Q e w') := hide (fun e w' h => by rw [← hQ]; exact h)
  rw [hQ]
  clear hQ
  go_enter Tryz.func17, Tryz.ntmps17
  go_wp2_with (go_at_call 27; refine TV.mono ?_; rintro e w5 ⟨rfl, d5⟩; have B5 := blk_on HB.out.2 d5; have p0 : w5.cell? ⟨w.heap.size, 0, none⟩ = some (.int .i64 (N : Int)) := cell_of B5 rfl; have p1 : w5.cell? ⟨w.heap.size, 1, none⟩ = some (.int .i64 mv) := cell_of B5 rfl; have p2 : w5.cell? ⟨w.heap.size, 2, none⟩ = some (.slice a1 n1 c1) := cell_of B5 rfl; have p3 : w5.cell? ⟨w.heap.size, 3, none⟩ = some (.slice a2 n2 c2) := cell_of B5 rfl; have p4 : w5.cell? ⟨w.heap.size, 4, none⟩ = some (.slice a3 n3 c3) := cell_of B5 rfl; have H5 := hide (And.intro (HB.out.1.trans (d5.mono HB.out.1.size)) B5); clear d5 B5)
  clear TV HB hW0
  clear q0 q1 q2 q3 q4
  have TW := leastWord_any w5 N mv a1 a2 a3 c1 c2 c3 St Fi Ed (hide ⟨HM.out.1, hA.out.s.on H5.out.1, hA.out.f.on H5.out.1, hA.out.e.on H5.out.1, HM.out.2.1, HM.out.2.2⟩) (hide ⟨hT.out.1.below H5.out.1 hT.out.2, Nat.lt_of_lt_of_le hT.out.2 H5.out.1.size⟩)
  rw [HE.out.1, HE.out.2.1, HE.out.2.2] at TW
  refine TW.mono ?_
  rintro e w6 ⟨len, hb, hor, d6⟩
  have HD6 := hide (H5.out.1.trans (d6.mono H5.out.1.size))
  have HBF := hide hb
  have hs := H5.out.1.size
  clear d6 hb TW
  rcases hor with ⟨h, rfl⟩ | ⟨h, vw, rfl, ho⟩
  · have HH := hide h
    clear h
    go_wp2_with fail
    refine bodyPost_ret (results_tmp3 rfl _ _ _) rfl ?_
    exact HP.out _ _ ⟨len, HBF.out, .inl ⟨HH.out, rfl⟩, HD6.out⟩
  · have HH := hide (And.intro h (owns_down ho hs))
    clear h ho
    go_wp2_with fail
    refine bodyPost_ret (results_tmp3 rfl _ _ _) rfl ?_
    exact HP.out _ _ ⟨len, HBF.out, .inr ⟨HH.out.1, vw, rfl, HH.out.2⟩, HD6.out⟩
end Go.Proofs.YtojnlpicgemlaabGreatDoor
