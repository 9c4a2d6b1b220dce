import Derived.Test.YtojnlpicgemlaaaGreatDoorWA
namespace Go.Proofs.YtojnlpicgemlaaaGreatDoor
open Go.RowKit Go.Maps Go.Shelf
attribute [local go_sem] Oper.semAt_some

/-! ### The document's Trim -/
/-- The useful numbers below i; a number's new name. -/
def uL (U : Nat → Bool) (i : Nat) : List Nat := (List.range i).filter U
def uN (U : Nat → Bool) (q : Nat) : Int := if U q = true then ((uL U q).length : Int) else -1
theorem uL_yes {U : Nat → Bool} {i : Nat} (h : U i = true) : uL U (i + 1) = uL U i ++ [i] := by
  unfold uL
  rw [List.range_succ, List.filter_append, List.filter_cons_of_pos h]
  rfl
theorem uL_no {U : Nat → Bool} {i : Nat} (h : U i = false) : uL U (i + 1) = uL U i := by
  unfold uL
  rw [List.range_succ, List.filter_append, List.filter_cons_of_neg (by rw [h]; decide)]
  simp
theorem uL_len (U : Nat → Bool) (i : Nat) : (uL U i).length ≤ i := by
  unfold uL
  exact Nat.le_trans (List.length_filter_le _ _) (by simp)
theorem num_put {U : Nat → Bool} {i : Nat} {v : Int} (h : uN U i = v) (c : Nat) : (if c = i then Value.int .i64 v else .int .i64 (if c < i then uN U c else 0)) = .int .i64 (if c < i + 1 then uN U c else 0) := by
  by_cases e : c = i
  · subst e
    rw [if_pos rfl, if_pos (by omega), h]
  · rw [if_neg e]
    by_cases l : c < i
    · rw [if_pos l, if_pos (by omega)]
    · rw [if_neg l, if_neg (by omega)]
theorem one_cells {W : World} {v : Value} {t : TypeId} {p : Nat} (z : W.heap[p]? = some (.cells #[v] t (0, 0))) : ∀ (j : Nat) (u : Value), [v][j]? = some u → W.cell? ((⟨p, 0, none⟩ : Addr).add j) = some u := fun j u hu => by
  cases j with
  | zero =>
    obtain rfl : v = u := by simpa using hu
    rw [Addr.add_lit]
    exact cell_of z rfl
  | succ j => simp at hu
theorem wpList_appI {ops : Array Oper} {rest : List Oper} {o : Oper} {a : Act} {Q : Exit → Act → World → Prop} {w : World} (hgd : o.guard = none) (s x : Operand)
    (ho : o.op = .call { callee := .builtin .append, args := #[s, x], argTypes := #[22, 22] }) (B : Nat) (v : Value) (X : List Int) (hs : a.eval s = v) (hown : w.ownsRow B 3 1 v X.length (X.map (Value.int .i64))) (p : Nat) (y : Int) (hx : a.eval x = .slice (some ⟨p, 0, none⟩) 1 1) (hp : w.heap[p]? = some (.cells #[.int .i64 y] 3 (0, 0))) (hl : X.length ≤ 16777216) (w0 : World) (D : Below B w0 w) (hB : B ≤ w0.heap.size)
    (h : ∀ v' w', Hid (w'.ownsRow B 3 1 v' (X ++ [y]).length ((X ++ [y]).map (Value.int .i64))) → Hid (Below B w0 w') → wpList Tryz.prog ops Q rest (a.put o.dst v') w') : wpList Tryz.prog ops Q (o :: rest) a w := by
  obtain ⟨i3, hi3, hz30, hz31, hz32⟩ := info_parts info3
  have hs0 := D.size
  refine wpList_append_own_at _ hgd s x 22 ho B 3 i3 _ 1 8 Tryz.underlying22 hi3 hz30 hz31 hz32 rfl (by omega) v X.length (X.map (Value.int .i64)) hs hown ⟨p, 0, none⟩ 1 1 [.int .i64 y] hx rfl (one_cells hp) (by simp [Value.oneCell']) (by unfold maxLen; omega) (by omega) (by omega) ?_
  intro v2 w2 h2 hgr _ _
  have hb := hown.lt
  exact h v2 w2 (hide (by rw [List.map_append, List.length_append]; exact h2)) (hide (D.grown hgr (by omega) (fun k hk => (hb k hk).1)))
/-- A row of one number, made anew. -/
def oneP (x : Int) : MkP := fun v lo hi W => v = .slice (some ⟨lo, 0, none⟩) 1 1 ∧ lo < hi ∧ W.heap[lo]? = some (.cells #[.int .i64 x] 3 (0, 0))
theorem oneP_mono {x : Int} : MonoP (oneP x) := fun _ _ _ _ _ hs d ⟨e, l, z⟩ => ⟨e, l, (d.block _ (by omega)).trans z⟩
/-- States renamed, edges renamed. -/
def dL (U : Nat → Bool) (Fr : List Int) : List Int := (Fr.filter fun x => U x.toNat).map fun x => uN U x.toNat
def dE (U : Nat → Bool) (Ed : List EdT) : List EdT := (Ed.filter fun e => U e.1.toNat && U e.2.2.toNat).map fun e => (uN U e.1.toNat, e.2.1, uN U e.2.2.toNat)
theorem dL_len (U : Nat → Bool) (Fr : List Int) : (dL U Fr).length ≤ Fr.length := by
  unfold dL
  rw [List.length_map]
  exact List.length_filter_le _ _
theorem dE_len (U : Nat → Bool) (Ed : List EdT) : (dE U Ed).length ≤ Ed.length := by
  unfold dE
  rw [List.length_map]
  exact List.length_filter_le _ _
theorem dL_take (U : Nat → Bool) (Fr : List Int) {i : Nat} (h : i < Fr.length) : dL U (Fr.take (i + 1)) = if U Fr[i].toNat then dL U (Fr.take i) ++ [uN U Fr[i].toNat] else dL U (Fr.take i) := by
  unfold dL
  rw [List.take_succ_eq_append_getElem h, List.filter_append, List.map_append]
  by_cases k : U Fr[i].toNat = true
  · rw [if_pos k, List.filter_cons_of_pos (by simpa using k)]; rfl
  · rw [if_neg k, List.filter_cons_of_neg (by simpa using k)]; simp
theorem dE_take (U : Nat → Bool) (Ed : List EdT) {i : Nat} (h : i < Ed.length) : dE U (Ed.take (i + 1)) = if U Ed[i].1.toNat && U Ed[i].2.2.toNat then dE U (Ed.take i) ++ [(uN U Ed[i].1.toNat, Ed[i].2.1, uN U Ed[i].2.2.toNat)] else dE U (Ed.take i) := by
  unfold dE
  rw [List.take_succ_eq_append_getElem h, List.filter_append, List.map_append]
  by_cases k : (U Ed[i].1.toNat && U Ed[i].2.2.toNat) = true
  · rw [if_pos k, List.filter_cons_of_pos (by simpa using k)]; rfl
  · rw [if_neg k, List.filter_cons_of_neg (by simpa using k)]; simp
theorem own_bq {W : World} {bq B n : Nat} {v : Value} {xs : List Value} {cs : Array Value} (hb : W.heap[bq]? = some (.cells cs 25 (0, 0))) (h : W.ownsRow B 3 1 v n xs) (hx : v.ownBlock = some bq) : False := by
  rcases h.2 with ⟨hv, _⟩ | ⟨g', cap', cur, hv, _, hg, _⟩
  · rw [hv] at hx; cases hx
  · rw [hv] at hx
    cases hx
    rw [hb] at hg
    cases hg
structure PrS (wz wr : World) (bq k : Nat) (mv : Int) (v : Value) (L : List Int) : Prop where
  box : wr.heap[bq]? = some (.cells #[.int .i64 (k : Int), .int .i64 mv, v, .slice none 0 0, .slice none 0 0] 25 (0, 0))
  row : wr.ownsRow wz.heap.size 3 1 v L.length (L.map (Value.int .i64))
  only : Only wz wr (fun x => x = bq)
structure PrF (wz wr : World) (bq k : Nat) (mv : Int) (v1 v : Value) (L : List Int) : Prop where
  box : wr.heap[bq]? = some (.cells #[.int .i64 (k : Int), .int .i64 mv, v1, v, .slice none 0 0] 25 (0, 0))
  row : wr.ownsRow wz.heap.size 3 1 v L.length (L.map (Value.int .i64))
  only : Only wz wr (fun x => x = bq)
theorem prS_put {wz w7 w4 : World} {bq k : Nat} {mv : Int} {v3 v4 : Value} {L : List Int} (hb : w7.heap[bq]? = some (.cells #[.int .i64 (k : Int), .int .i64 mv, v3, .slice none 0 0, .slice none 0 0] 25 (0, 0))) (hz : bq < wz.heap.size) (ho : Only wz w7 (fun k => k = bq)) (hr : w4.ownsRow wz.heap.size 3 1 v4 L.length (L.map (Value.int .i64))) (hd : Below wz.heap.size w7 w4) : PrS wz (w4.setCell ⟨bq, 2, none⟩ v4) bq k mv v4 L := by
  have o1 := only_set w4 bq 2 v4
  exact ⟨heap_setCell_same _ _ 2 _ 25 _ ((hd.block _ hz).trans hb), row_only hr o1 (fun k hk e => by have := (hr.lt k hk).1; omega), only_below2 ho hd o1⟩
theorem prF_put {wz w7 w4 : World} {bq k : Nat} {mv : Int} {v1 v3 v4 : Value} {L : List Int} (hb : w7.heap[bq]? = some (.cells #[.int .i64 (k : Int), .int .i64 mv, v1, v3, .slice none 0 0] 25 (0, 0))) (hz : bq < wz.heap.size) (ho : Only wz w7 (fun k => k = bq)) (hr : w4.ownsRow wz.heap.size 3 1 v4 L.length (L.map (Value.int .i64))) (hd : Below wz.heap.size w7 w4) : PrF wz (w4.setCell ⟨bq, 3, none⟩ v4) bq k mv v1 v4 L := by
  have o1 := only_set w4 bq 3 v4
  exact ⟨heap_setCell_same _ _ 3 _ 25 _ ((hd.block _ hz).trans hb), row_only hr o1 (fun k hk e => by have := (hr.lt k hk).1; omega), only_below2 ho hd o1⟩
/-- What the document's Trim answers. -/
def RtP (w w' : World) (N : Nat) (mv : Int) (St Fi : List Int) (Ed : List EdT) (e : Ending) : Prop := ∃ U : Nat → Bool, (∀ q, q < N → (U q = true ↔ useP St Fi Ed q)) ∧ ∃ v1 v2 v3 vo, e = .returned (.tuple #[.agg #[.int .i64 ((uL U N).length : Int), .int .i64 mv, v1, v2, v3], vo, .int .i64 0]) ∧ OwnL w.heap.size w' v1 (riseL (dL U St)) ∧ OwnL w.heap.size w' v2 (riseL (dL U Fi)) ∧ w'.ownsRow w.heap.size 42 3 v3 (riseE (dE U Ed)).length ((riseE (dE U Ed)).flatMap encE) ∧ OwnL w.heap.size w' vo (natL (uL U N)) ∧ Below w.heap.size w w'
theorem uL_mono (U : Nat → Bool) {i : Nat} : ∀ {j : Nat}, i ≤ j → (uL U i).length ≤ (uL U j).length
  | 0, h => by
    obtain rfl : i = 0 := by omega
    exact Nat.le_refl _
  | j + 1, h => by
    by_cases e : i = j + 1
    · subst e; exact Nat.le_refl _
    · have := uL_mono U (i := i) (j := j) (by omega)
      cases hu : U j
      · rw [uL_no hu]; exact this
      · rw [uL_yes hu, List.length_append]; omega
theorem uN_lt {U : Nat → Bool} {q N : Nat} (hu : U q = true) (hq : q < N) : 0 ≤ uN U q ∧ uN U q < ((uL U N).length : Int) := by
  unfold uN
  rw [if_pos hu]
  have h1 := uL_mono U (i := q + 1) (j := N) (by omega)
  rw [uL_yes hu, List.length_append, List.length_singleton] at h1
  omega
theorem dL_in {U : Nat → Bool} {N : Nat} {L : List Int} (h : ∀ x ∈ L, ∃ q : Nat, q < N ∧ x = (q : Int)) : ∀ z ∈ dL U L, 0 ≤ z ∧ z < ((uL U N).length : Int) := fun z hz => by
  obtain ⟨x, hx, rfl⟩ := List.mem_map.1 hz
  have h1 := List.mem_filter.1 hx
  obtain ⟨q, hq, rfl⟩ := h x h1.1
  rw [Int.toNat_natCast]
  exact uN_lt (by simpa using h1.2) hq
set_option maxRecDepth 100000 in
set_option maxHeartbeats 1000000 in
theorem rtrim_bad (w : World) (n mv : Int) (a1 a2 a3 : Option Addr) (c1 c2 c3 : Nat) (St Fi : List Int) (Ed : List EdT) (hA : Hid (RdA w a1 a2 a3 St Fi Ed)) (h1 : St.length ≤ 4194304) (h2 : Fi.length ≤ 4194304) (h3 : Ed.length ≤ 4194304) (em : mayA n mv St Fi Ed = false) :
    Calls Tryz.prog 40 #[.agg #[.int .i64 n, .int .i64 mv, .slice a1 St.length c1, .slice a2 Fi.length c2, .slice a3 Ed.length c3]] w fun e w' => e = .returned (.tuple #[.agg #[.int .i64 0, .int .i64 0, .slice none 0 0, .slice none 0 0, .slice none 0 0], .slice none 0 0, .int .i64 2]) ∧ Below w.heap.size w w' := by
  obtain ⟨n1, e1⟩ : ∃ n, St.length = n := ⟨_, rfl⟩
  obtain ⟨n2, e2⟩ : ∃ n, Fi.length = n := ⟨_, rfl⟩
  obtain ⟨n3, e3⟩ : ∃ n, Ed.length = n := ⟨_, rfl⟩
  rw [e1, e2, e3]
  obtain ⟨W0, hW0⟩ : ∃ W0, (w.alloc (.cells #[.int .i64 n, .int .i64 mv, .slice a1 n1 c1, .slice a2 n2 c2, .slice a3 n3 c3] 25)).alloc (.cells #[.int .i64 0, .int .i64 0, .slice none 0 0, .slice none 0 0, .slice none 0 0] 25) = W0 := ⟨_, rfl⟩
  have HB := hide (box2 w #[.int .i64 n, .int .i64 mv, .slice a1 n1 c1, .slice a2 n2 c2, .slice a3 n3 c3] #[.int .i64 0, .int .i64 0, .slice none 0 0, .slice none 0 0, .slice none 0 0] 25)
  rw [hW0] at HB
  have hA0 := hA.out.on HB.out.1
  have TV := rmay_any W0 n mv St Fi Ed a1 a2 a3 c1 c2 c3 (hide ⟨hA0.s, hA0.f, hA0.e⟩) h1 h2 h3
  rw [mayF_is, em, e1, e2, e3] at TV
  have B0 := HB.out.2.1
  have q0 : W0.cell? ⟨w.heap.size, 0, none⟩ = some (.int .i64 n) := cell_of B0 rfl
  have q1 : W0.cell? ⟨w.heap.size, 1, none⟩ = some (.int .i64 mv) := cell_of B0 rfl
  have q2 : W0.cell? ⟨w.heap.size, 2, none⟩ = some (.slice a1 n1 c1) := cell_of B0 rfl
  have q3 : W0.cell? ⟨w.heap.size, 3, none⟩ = some (.slice a2 n2 c2) := cell_of B0 rfl
  have q4 : W0.cell? ⟨w.heap.size, 4, none⟩ = some (.slice a3 n3 c3) := cell_of B0 rfl
  clear B0 hA0
  clear e1 e2 e3 em
  go_enter Tryz.func40, Tryz.ntmps40
  go_upto_region 2 with (go_at_call 13; refine TV.mono ?_; rintro e w5 ⟨rfl, d5⟩)
  have HX := hide d5
  clear d5 TV hW0 q0 q1 q2 q3 q4
  have F3 := blk_on HB.out.2.2.1 HX.out
  have zc0 : w5.cell? ⟨w.heap.size + 1, 0, none⟩ = some (.int .i64 0) := cell_of F3 rfl
  have fz0 : w5.frozen? ⟨w.heap.size + 1, 0, none⟩ = false := fz_of F3
  have zc1 : w5.cell? ⟨w.heap.size + 1, 1, none⟩ = some (.int .i64 0) := cell_of F3 rfl
  have fz1 : w5.frozen? ⟨w.heap.size + 1, 1, none⟩ = false := fz_of F3
  have zc2 : w5.cell? ⟨w.heap.size + 1, 2, none⟩ = some (.slice none 0 0) := cell_of F3 rfl
  have fz2 : w5.frozen? ⟨w.heap.size + 1, 2, none⟩ = false := fz_of F3
  have zc3 : w5.cell? ⟨w.heap.size + 1, 3, none⟩ = some (.slice none 0 0) := cell_of F3 rfl
  have fz3 : w5.frozen? ⟨w.heap.size + 1, 3, none⟩ = false := fz_of F3
  have zc4 : w5.cell? ⟨w.heap.size + 1, 4, none⟩ = some (.slice none 0 0) := cell_of F3 rfl
  have fz4 : w5.frozen? ⟨w.heap.size + 1, 4, none⟩ = false := fz_of F3
  have O6 := hide (And.intro (set5 w5 (w.heap.size + 1) _ _ _ _ _ (.int .i64 0) (.int .i64 0) (.slice none 0 0) (.slice none 0 0) (.slice none 0 0) 25 F3) (only5 w5 (w.heap.size + 1) (.int .i64 0) (.int .i64 0) (.slice none 0 0) (.slice none 0 0) (.slice none 0 0)))
  clear F3
  go_wp2_with fail
  refine bodyPost_ret (results_c2 (p := 2) (q := 3) (r := 4) (ty := 25) rfl _ _ (w.heap.size + 1) 25 _ (0, 0) _ _ _ rfl rfl rfl O6.out.1 Tryz.underlying25 rfl (by kernel_rfl)) rfl ?_
  have s1 := HB.out.2.2.2
  have s2 := HX.out.size
  exact ⟨rfl, (HB.out.1.trans (HX.out.mono (by omega))).trans (O6.out.2.toBelow (by omega) (fun k hk => by omega))⟩
set_option maxRecDepth 100000 in
set_option maxHeartbeats 4000000 in
theorem rtrim_ok (w : World) (N : Nat) (mv : Int) (a1 a2 a3 : Option Addr) (c1 c2 c3 : Nat) (St Fi : List Int) (Ed : List EdT) (hA : Hid (RdA w a1 a2 a3 St Fi Ed)) (h1 : St.length ≤ 4194304) (h2 : Fi.length ≤ 4194304) (h3 : Ed.length ≤ 4194304) (em : mayA (N : Int) mv St Fi Ed = true) :
    Calls Tryz.prog 40 #[.agg #[.int .i64 (N : Int), .int .i64 mv, .slice a1 St.length c1, .slice a2 Fi.length c2, .slice a3 Ed.length c3]] w fun e w' => RtP w w' N mv St Fi Ed e := by
  obtain ⟨Q, hQ⟩ : ∃ Q : Ending → World → Prop, (fun e w' => RtP w w' N mv St Fi Ed e) = Q := ⟨_, rfl⟩
  have HP : Hid (∀ (e : Ending) (w' : World), RtP w w' N mv St Fi Ed e → Q e w') := hide (fun e w' h => by rw [← hQ]; exact h)
  rw [hQ]
  clear hQ
  obtain ⟨i3, hi3, hz30, hz31, hz32⟩ := info_parts info3
  have HG : Hid (∀ W, Below w.heap.size w W → ArgA W N mv a1 a2 a3 St Fi Ed) := hide (fun W d => ⟨em, hA.out.s.on d, hA.out.f.on d, hA.out.e.on d, h1, h2⟩)
  have hN : N ≤ 4096 := (HG.out w (Below.refl _ _)).hN
  have hle := (HG.out w (Below.refl _ _)).le
  obtain ⟨n1, e1⟩ : ∃ n, St.length = n := ⟨_, rfl⟩
  obtain ⟨n2, e2⟩ : ∃ n, Fi.length = n := ⟨_, rfl⟩
  obtain ⟨n3, e3⟩ : ∃ n, Ed.length = n := ⟨_, rfl⟩
  rw [e1, e2, e3]
  obtain ⟨W0, hW0⟩ : ∃ W0, (w.alloc (.cells #[.int .i64 (N : Int), .int .i64 mv, .slice a1 n1 c1, .slice a2 n2 c2, .slice a3 n3 c3] 25)).alloc (.cells #[.int .i64 0, .int .i64 0, .slice none 0 0, .slice none 0 0, .slice none 0 0] 25) = W0 := ⟨_, rfl⟩
  have HB := hide (box2 w #[.int .i64 (N : Int), .int .i64 mv, .slice a1 n1 c1, .slice a2 n2 c2, .slice a3 n3 c3] #[.int .i64 0, .int .i64 0, .slice none 0 0, .slice none 0 0, .slice none 0 0] 25)
  rw [hW0] at HB
  have hA0 := hA.out.on HB.out.1
  have TV := rmay_any W0 (N : Int) mv St Fi Ed a1 a2 a3 c1 c2 c3 (hide ⟨hA0.s, hA0.f, hA0.e⟩) h1 h2 h3
  rw [mayF_is, em, e1, e2, e3] at TV
  have B0 := HB.out.2.1
  have q0 : W0.cell? ⟨w.heap.size, 0, none⟩ = some (.int .i64 (N : Int)) := cell_of B0 rfl
  have q1 : W0.cell? ⟨w.heap.size, 1, none⟩ = some (.int .i64 mv) := cell_of B0 rfl
  have q2 : W0.cell? ⟨w.heap.size, 2, none⟩ = some (.slice a1 n1 c1) := cell_of B0 rfl
  have q3 : W0.cell? ⟨w.heap.size, 3, none⟩ = some (.slice a2 n2 c2) := cell_of B0 rfl
  have q4 : W0.cell? ⟨w.heap.size, 4, none⟩ = some (.slice a3 n3 c3) := cell_of B0 rfl
  clear B0 hA0
  have HE := hide (And.intro e1 (And.intro e2 e3))
  have HN3 : Hid (n1 ≤ 4194304 ∧ n2 ≤ 4194304 ∧ n3 ≤ 65536) := hide ⟨by omega, by omega, by omega⟩
  clear e1 e2 e3 em
  go_enter Tryz.func40, Tryz.ntmps40
  go_upto_region 4 with (go_at_call 13; refine TV.mono ?_; rintro e w5 ⟨rfl, d5⟩)
  have H5 : Hid (Below w.heap.size w w5 ∧ w5.heap[w.heap.size]? = some (.cells #[.int .i64 (N : Int), .int .i64 mv, .slice a1 n1 c1, .slice a2 n2 c2, .slice a3 n3 c3] 25 (0, 0)) ∧ w5.heap[w.heap.size + 1]? = some (.cells #[.int .i64 0, .int .i64 0, .slice none 0 0, .slice none 0 0, .slice none 0 0] 25 (0, 0)) ∧ w.heap.size + 2 ≤ w5.heap.size) := hide ⟨HB.out.1.trans (d5.mono HB.out.1.size), blk_on HB.out.2.1 d5, blk_on HB.out.2.2.1 d5, by have := HB.out.2.2.2; have := d5.size; omega⟩
  clear d5 TV HB hW0
  clear q0 q1 q2 q3 q4
  have TC := grow_fwd w5 N mv a1 a2 a3 a1 n1 n2 c1 c2 c3 c1 Ed St (by omega) (HG.out w5 H5.out.1).re (HG.out w5 H5.out.1).rs (by omega) (HG.out w5 H5.out.1).ls (HG.out w5 H5.out.1).prs (HG.out w5 H5.out.1).ins
  rw [HE.out.1, HE.out.2.2] at TC
  have B0 := H5.out.2.1
  have q0 : w5.cell? ⟨w.heap.size, 0, none⟩ = some (.int .i64 (N : Int)) := cell_of B0 rfl
  have q1 : w5.cell? ⟨w.heap.size, 1, none⟩ = some (.int .i64 mv) := cell_of B0 rfl
  have q2 : w5.cell? ⟨w.heap.size, 2, none⟩ = some (.slice a1 n1 c1) := cell_of B0 rfl
  have q3 : w5.cell? ⟨w.heap.size, 3, none⟩ = some (.slice a2 n2 c2) := cell_of B0 rfl
  have q4 : w5.cell? ⟨w.heap.size, 4, none⟩ = some (.slice a3 n3 c3) := cell_of B0 rfl
  clear B0
  go_upto_region 5 with (go_at_call 63; refine TC.mono ?_; rintro e w6 ⟨gm, rfl, ⟨M, hM6, hmi⟩, d6⟩)
  have H6 : Hid (Below w.heap.size w w6 ∧ w6.heap[w.heap.size]? = some (.cells #[.int .i64 (N : Int), .int .i64 mv, .slice a1 n1 c1, .slice a2 n2 c2, .slice a3 n3 c3] 25 (0, 0)) ∧ w6.heap[w.heap.size + 1]? = some (.cells #[.int .i64 0, .int .i64 0, .slice none 0 0, .slice none 0 0, .slice none 0 0] 25 (0, 0)) ∧ w.heap.size + 2 ≤ w6.heap.size ∧ MaskG (w.heap.size + 2) w6 gm N M ∧ ∀ q, q < N → (M q = true ↔ ∃ k, Wlk (fun q => (q : Int) ∈ St) (stepE false Ed) k q)) := hide ⟨H5.out.1.trans (d6.mono H5.out.1.size), blk_on H5.out.2.1 d6, blk_on H5.out.2.2.1 d6, Nat.le_trans H5.out.2.2.2 d6.size, hM6.lower H5.out.2.2.2, hmi⟩
  clear d6 TC H5 hM6 hmi
  clear q0 q1 q2 q3 q4
  have TC := grow_bwd w6 N mv a1 a2 a3 a2 n1 n2 c1 c2 c3 c2 Ed Fi (by omega) (HG.out w6 H6.out.1).re (HG.out w6 H6.out.1).rf (by omega) (HG.out w6 H6.out.1).lf (HG.out w6 H6.out.1).prs (HG.out w6 H6.out.1).inf
  rw [HE.out.2.1, HE.out.2.2] at TC
  have B0 := H6.out.2.1
  have q0 : w6.cell? ⟨w.heap.size, 0, none⟩ = some (.int .i64 (N : Int)) := cell_of B0 rfl
  have q1 : w6.cell? ⟨w.heap.size, 1, none⟩ = some (.int .i64 mv) := cell_of B0 rfl
  have q2 : w6.cell? ⟨w.heap.size, 2, none⟩ = some (.slice a1 n1 c1) := cell_of B0 rfl
  have q3 : w6.cell? ⟨w.heap.size, 3, none⟩ = some (.slice a2 n2 c2) := cell_of B0 rfl
  have q4 : w6.cell? ⟨w.heap.size, 4, none⟩ = some (.slice a3 n3 c3) := cell_of B0 rfl
  clear B0
  go_upto_region 6 with (go_at_call 63; refine TC.mono ?_; rintro e w7 ⟨gb, rfl, ⟨M', hM7, hbi⟩, d7⟩)
  have H7 : Hid (Below w.heap.size w w7 ∧ w7.heap[w.heap.size]? = some (.cells #[.int .i64 (N : Int), .int .i64 mv, .slice a1 n1 c1, .slice a2 n2 c2, .slice a3 n3 c3] 25 (0, 0)) ∧ w7.heap[w.heap.size + 1]? = some (.cells #[.int .i64 0, .int .i64 0, .slice none 0 0, .slice none 0 0, .slice none 0 0] 25 (0, 0)) ∧ w.heap.size + 2 ≤ w7.heap.size ∧ MaskG (w.heap.size + 2) w7 gm N M ∧ MaskG (w.heap.size + 2) w7 gb N M') := hide ⟨H6.out.1.trans (d7.mono H6.out.1.size), blk_on H6.out.2.1 d7, blk_on H6.out.2.2.1 d7, Nat.le_trans H6.out.2.2.2.1 d7.size, H6.out.2.2.2.2.1.below d7, hM7.lower H6.out.2.2.2.1⟩
  have HU : Hid (∀ q, q < N → ((M q && M' q) = true ↔ useP St Fi Ed q)) := hide (fun q hq => by rw [Bool.and_eq_true, H6.out.2.2.2.2.2 q hq, hbi q hq]; exact Iff.rfl)
  clear d7 TC H6 hM7 hbi
  clear q0 q1 q2 q3 q4
  have k0 : w7.cell? ⟨w.heap.size, 0, none⟩ = some (.int .i64 (N : Int)) := cell_of H7.out.2.1 rfl
  obtain ⟨U, hU⟩ : ∃ U : Nat → Bool, (fun q => M q && M' q) = U := ⟨_, rfl⟩
  have HUM : Hid (∀ q, U q = (M q && M' q)) := hide (fun q => by rw [← hU])
  clear hU
  go_upto_region 7 with (at_make; refine wpList_make_full _ rfl _ _ 22 rfl w7.heap.size 3 i3 (.int .i64 0) 1 Tryz.underlying22 hi3 hz30 hz31 _ _ _ _ N rfl rfl (by go_num) (by go_num) (by rw [hz32]; omega) (by unfold maxLen; omega) (Nat.le_refl _) ?_; intro w8 ho hg)
  obtain ⟨H, hH⟩ : ∃ H, w7.heap.size = H := ⟨_, rfl⟩
  have H8 : Hid (Mrw w8 H 3 N (fun c => .int .i64 (if c < 0 then uN U c else 0)) N ∧ Below w.heap.size w w8 ∧ w8.heap[w.heap.size]? = some (.cells #[.int .i64 (N : Int), .int .i64 mv, .slice a1 n1 c1, .slice a2 n2 c2, .slice a3 n3 c3] 25 (0, 0)) ∧ w8.heap[w.heap.size + 1]? = some (.cells #[.int .i64 0, .int .i64 0, .slice none 0 0, .slice none 0 0, .slice none 0 0] 25 (0, 0)) ∧ w.heap.size + 2 ≤ H ∧ MaskG (w.heap.size + 2) w8 gm N M ∧ MaskG (w.heap.size + 2) w8 gb N M' ∧ gm < H ∧ gb < H) := hide (by
    have d : Below w7.heap.size w7 w8 := (Below.refl _ _).grown hg (Nat.le_refl _) (by intro k hk; cases hk)
    exact ⟨by rw [← hH]; exact (mrw_made (x := 0) ho).congr (fun c _ => by simp), H7.out.1.trans (d.mono H7.out.1.size), blk_on H7.out.2.1 d, blk_on H7.out.2.2.1 d, by rw [← hH]; exact H7.out.2.2.2.1, H7.out.2.2.2.2.1.below d, H7.out.2.2.2.2.2.below d, by rw [← hH]; exact H7.out.2.2.2.2.1.2.lt, by rw [← hH]; exact H7.out.2.2.2.2.2.2.lt⟩)
  rw [hH]
  clear ho hg k0 hH H7
  go_wp2_with fail
  go_loopw [9, 10] (fun ov iv wr => ∃ i y z, i ≤ N ∧ ov = .slice y (uL U i).length z ∧ iv = .int .i64 (i : Int) ∧ Hid (Mrw wr H 3 N (fun c => .int .i64 (if c < i then uN U c else 0)) N ∧ wr.ownsRow w8.heap.size 3 1 (.slice y (uL U i).length z) (uL U i).length ((natL (uL U i)).map (Value.int .i64)) ∧ Only w8 wr (fun k => k = H))) (fun _ iv _ => N - (intOf iv).toNat)
  case atStart => exact ⟨0, none, 0, Nat.zero_le _, rfl, rfl, hide ⟨H8.out.1, World.ownsRow_nil _ _ _ _, Only.ofBelow (Below.refl _ _)⟩⟩
  case round =>
    obtain ⟨i, y, z, hi, rfl, rfl, HY⟩ := hrel
    have s0 := H8.out.2.2.2.2
    have F0 : wr.heap[w.heap.size]? = some (.cells #[.int .i64 (N : Int), .int .i64 mv, .slice a1 n1 c1, .slice a2 n2 c2, .slice a3 n3 c3] 25 (0, 0)) := (HY.out.2.2.block _ (Array.getElem?_eq_some_iff.1 H8.out.2.2.1).1 (by omega)).trans H8.out.2.2.1
    have k0 : wr.cell? ⟨w.heap.size, 0, none⟩ = some (.int .i64 (N : Int)) := cell_of F0 rfl
    have HF0 := hide F0
    clear F0
    have HS0 := hide s0
    have hlen := uL_len U i
    by_cases hlt : i < N
    · have l0 : (i : Int) < (N : Int) := by omega
      have i0 : (0 : Int) ≤ (i : Int) := by omega
      obtain ⟨u0, cu⟩ := HY.out.1.cell i hlt
      have zu := HY.out.1.fz i
      obtain ⟨wa, hwa⟩ : ∃ W, wr.setCell ⟨H, i, none⟩ (.int .i64 (-1)) = W := ⟨_, rfl⟩
      have HW : Hid (Mrw wa H 3 N (fun c => if c = i then .int .i64 (-1) else .int .i64 (if c < i then uN U c else 0)) N ∧ Only wr wa (fun k => k = H)) := hide (by rw [← hwa]; exact ⟨HY.out.1.upd i _, only_set _ _ _ _⟩)
      have OA : Hid (Only w8 wa (fun k => k = H)) := hide (HY.out.2.2.trans HW.out.2)
      have m1 : wa.cell? ⟨gm, i, none⟩ = some (.bool (M i)) := (H8.out.2.2.2.2.2.1.2.only OA.out (by omega)).at i hlt
      have m2 : wa.cell? ⟨gb, i, none⟩ = some (.bool (M' i)) := (H8.out.2.2.2.2.2.2.1.2.only OA.out (by omega)).at i hlt
      have ea : wa.cell? ⟨H, i, none⟩ = some (.int .i64 (-1)) := by rw [HW.out.1.at i hlt, if_pos rfl]
      have za := HW.out.1.fz i
      have hUi := HUM.out i
      clear s0
      by_cases hu : U i = true
      · obtain ⟨b1, b2⟩ : M i = true ∧ M' i = true := by rw [hu] at hUi; simpa using hUi.symm
        rw [b1] at m1
        rw [b2] at m2
        obtain ⟨wb, hwb⟩ : ∃ W, wa.setCell ⟨H, i, none⟩ (.int .i64 ((uL U i).length : Int)) = W := ⟨_, rfl⟩
        have HWb : Hid (Mrw wb H 3 N (fun c => .int .i64 (if c < i + 1 then uN U c else 0)) N ∧ Only w8 wb (fun k => k = H) ∧ wb.ownsRow w8.heap.size 3 1 (.slice y (uL U i).length z) (uL U i).length ((natL (uL U i)).map (Value.int .i64))) := hide (by
          have o : Only wa wb (fun k => k = H) := by rw [← hwb]; exact only_set _ _ _ _
          refine ⟨?_, OA.out.trans o, row_only (row_only HY.out.2.1 HW.out.2 (fun k hk e => by have := (HY.out.2.1.lt k hk).1; have := H8.out.1.lt; omega)) o (fun k hk e => by have := (HY.out.2.1.lt k hk).1; have := H8.out.1.lt; omega)⟩
          rw [← hwb]
          refine (HW.out.1.upd i _).congr (fun c _ => ?_)
          rw [← num_put (U := U) (i := i) (v := ((uL U i).length : Int)) (by unfold uN; rw [if_pos hu]) c]
          by_cases e : c = i
          · rw [if_pos e, if_pos e]
          · rw [if_neg e, if_neg e, if_neg e])
        have HT := hide (uL_yes hu)
        have HS := hide (HWb.out.2.1.size)
        clear hUi b1 b2 hu
        go_wp2_with (at_builtin; refine wpList_append_lies _ rfl _ _ _ rfl w8.heap.size 3 i3 _ 1 8 Tryz.underlying22 hi3 hz30 hz31 hz32 rfl (by omega) (.slice y (uL U i).length z) (uL U i).length ((natL (uL U i)).map (Value.int .i64)) rfl (HWb.out.2.2.alloc _) ⟨wb.heap.size, 0, none⟩ 1 1 [.int .i64 (i : Int)] rfl rfl (World.news_of_block (cs := #[.int .i64 (i : Int)]) (t := 3) (fr := (0, 0)) (heap_alloc_new wb _)) (by simp [Value.oneCell']) (by omega) (by unfold maxLen; omega) (by omega) (by have := HS.out; simp; omega) (wb.heap.size + 1) (by simp) ?_; intro ga ca wc ho hg ha hl)
        have J : Hid (Mrw wc H 3 N (fun c => .int .i64 (if c < i + 1 then uN U c else 0)) N ∧ wc.ownsRow w8.heap.size 3 1 (.slice (some ⟨ga, 0, none⟩) (uL U (i + 1)).length ca) (uL U (i + 1)).length ((natL (uL U (i + 1))).map (Value.int .i64)) ∧ Only w8 wc (fun k => k = H)) := hide (by
          have o9 : Only wb wc (fun k => (Value.slice y (uL U i).length z).ownBlock = some k) := ⟨hg.os, hg.tape, hg.output, by have := hg.size; rw [World.size_alloc] at this; omega, fun k hk hn => (hg.block k (by rw [World.size_alloc]; omega) (fun e => hn e.symm)).trans (Below.heap_alloc _ _ _ hk)⟩
          have hlt2 := HWb.out.2.2.lt
          refine ⟨HWb.out.1.only o9 (fun e => by have := (hlt2 _ e).1; have := H8.out.1.lt; omega), ?_, HWb.out.2.1.andNew o9 (fun k hk e => by have := (hlt2 k e).1; omega)⟩
          rw [HT.out, natL_snoc, List.map_append, List.length_append]
          exact ho)
        have HL1 : Hid ((uL U (i + 1)).length = (uL U i).length + 1) := hide (by rw [HT.out, List.length_append]; rfl)
        clear ho hg ha hl HWb HW OA
        rw [HL1.out] at J
        go_roundw
        case rel => exact ⟨i + 1, some ⟨ga, 0, none⟩, ca, by omega, by rw [HL1.out], by go_num, by rw [HL1.out]; exact J⟩
        case measure => simp [intOf]; omega
      · have hf : U i = false := by simpa using hu
        have J : Hid (Mrw wa H 3 N (fun c => .int .i64 (if c < i + 1 then uN U c else 0)) N ∧ wa.ownsRow w8.heap.size 3 1 (.slice y (uL U (i + 1)).length z) (uL U (i + 1)).length ((natL (uL U (i + 1))).map (Value.int .i64)) ∧ Only w8 wa (fun k => k = H)) := hide (by
          refine ⟨HW.out.1.congr (fun c _ => ?_), ?_, OA.out⟩
          · exact num_put (U := U) (i := i) (v := -1) (by unfold uN; rw [if_neg hu]) c
          · rw [uL_no hf]
            exact row_only HY.out.2.1 HW.out.2 (fun k hk e => by have := (HY.out.2.1.lt k hk).1; have := H8.out.1.lt; omega))
        have HL1 : Hid ((uL U (i + 1)).length = (uL U i).length) := hide (by rw [uL_no hf])
        rw [HL1.out] at J
        rw [hf] at hUi
        clear hu hf
        cases hq : M i with
        | false =>
          rw [hq] at m1
          clear hUi
          go_wp2_with fail
          go_roundw
          case rel => exact ⟨i + 1, y, z, by omega, by rw [HL1.out], by go_num, by rw [HL1.out]; exact J⟩
          case measure => simp [intOf]; omega
        | true =>
          rw [hq] at m1 hUi
          rw [show M' i = false by simpa using hUi.symm] at m2
          clear hUi
          go_wp2_with fail
          go_roundw
          case rel => exact ⟨i + 1, y, z, by omega, by rw [HL1.out], by go_num, by rw [HL1.out]; exact J⟩
          case measure => simp [intOf]; omega
    · have l0 : ¬ (i : Int) < (N : Int) := by omega
      obtain rfl : N = i := by omega
      clear hi hlt
      obtain ⟨k, hk⟩ : ∃ k, (uL U N).length = k := ⟨_, rfl⟩
      rw [hk] at HY
      rw [hk]
      have HKL := hide hk
      have HR : Hid (Mrw wr H 3 N (fun c => .int .i64 (uN U c)) N ∧ wr.ownsRow w8.heap.size 3 1 (.slice y k z) k ((natL (uL U N)).map (Value.int .i64)) ∧ Below w.heap.size w wr ∧ wr.heap[w.heap.size + 1]? = some (.cells #[.int .i64 0, .int .i64 0, .slice none 0 0, .slice none 0 0, .slice none 0 0] 25 (0, 0)) ∧ H < wr.heap.size ∧ w8.heap.size ≤ wr.heap.size) := hide (by
        exact ⟨HY.out.1.congr (fun c hc => by rw [if_pos hc]), HY.out.2.1, H8.out.2.1.trans (HY.out.2.2.toBelow H8.out.2.1.size (fun x hx => by omega)), (HY.out.2.2.block _ (Array.getElem?_eq_some_iff.1 H8.out.2.2.2.1).1 (by omega)).trans H8.out.2.2.2.1, HY.out.1.lt, HY.out.2.2.size⟩)
      have k1 : wr.cell? ⟨w.heap.size, 1, none⟩ = some (.int .i64 mv) := cell_of HF0.out rfl
      have hkb : k ≤ 4096 := by omega
      clear HY hk hlen s0
      go_upto_region 16 with fail
      obtain ⟨bq, hbq⟩ : ∃ x, wr.heap.size = x := ⟨_, rfl⟩
      rw [hbq]
      obtain ⟨wz, hwz⟩ : ∃ W, wr.alloc (.cells #[.int .i64 (k : Int), .int .i64 mv, .slice none 0 0, .slice none 0 0, .slice none 0 0] 25) = W := ⟨_, rfl⟩
      rw [hwz]
      have HZwz : Hid (wz.heap[bq]? = some (.cells #[.int .i64 (k : Int), .int .i64 mv, .slice none 0 0, .slice none 0 0, .slice none 0 0] 25 (0, 0)) ∧ Below w.heap.size w wz ∧ wz.heap[w.heap.size]? = some (.cells #[.int .i64 (N : Int), .int .i64 mv, .slice a1 n1 c1, .slice a2 n2 c2, .slice a3 n3 c3] 25 (0, 0)) ∧ wz.heap[w.heap.size + 1]? = some (.cells #[.int .i64 0, .int .i64 0, .slice none 0 0, .slice none 0 0, .slice none 0 0] 25 (0, 0)) ∧ Mrw wz H 3 N (fun c => .int .i64 (uN U c)) N ∧ wz.ownsRow w8.heap.size 3 1 (.slice y k z) k ((natL (uL U N)).map (Value.int .i64)) ∧ bq < wz.heap.size ∧ H < bq ∧ w.heap.size + 2 ≤ H ∧ w8.heap.size ≤ bq) := hide (by
        have d : Below wr.heap.size wr wz := by rw [← hwz]; exact (Below.refl _ _).alloc (Nat.le_refl _) _
        have s1 := HS0.out
        have s2 := HR.out.2.2.2.2
        exact ⟨by rw [← hwz, ← hbq]; exact World.alloc_heap_new _ _, HR.out.2.2.1.trans (d.mono HR.out.2.2.1.size), blk_on HF0.out d, blk_on HR.out.2.2.2.1 d, HR.out.1.below d HR.out.1.lt, own_below HR.out.2.1 d, by rw [← hwz, ← hbq]; simp, by omega, s1.1, by omega⟩)
      clear hwz hbq HR HF0 k0 k1
      go_wp2_with fail
      obtain ⟨wo, rfl⟩ : ∃ z, z = wr := ⟨_, rfl⟩
      go_loopw [12] (fun iv wr => ∃ j ya za, j ≤ n1 ∧ iv = .int .i64 (j : Int) ∧ Hid (PrS wz wr bq k mv (.slice ya (dL U (St.take j)).length za) (dL U (St.take j)))) (fun iv _ => n1 - (intOf iv).toNat)
      case atStart => exact ⟨0, none, 0, Nat.zero_le _, rfl, hide ⟨HZwz.out.1, World.ownsRow_nil _ _ _ _, Only.ofBelow (Below.refl _ _)⟩⟩
      case round =>
        obtain ⟨j, ya, za, hj, rfl, HY⟩ := hrel
        have s1 := HZwz.out.2.2.2.2.2.2
        have HDr : Hid (Below w.heap.size w wr) := hide (HZwz.out.2.1.trans (HY.out.only.toBelow HZwz.out.2.1.size (fun x hx => by omega)))
        have HF : Hid (wr.heap[w.heap.size]? = some (.cells #[.int .i64 (N : Int), .int .i64 mv, .slice a1 n1 c1, .slice a2 n2 c2, .slice a3 n3 c3] 25 (0, 0)) ∧ Mrw wr H 3 N (fun c => .int .i64 (uN U c)) N) := hide ⟨(HY.out.only.block _ (Array.getElem?_eq_some_iff.1 HZwz.out.2.2.1).1 (by omega)).trans HZwz.out.2.2.1, HZwz.out.2.2.2.2.1.only HY.out.only (by omega)⟩
        have HS1 := hide s1
        clear s1
        have k2 : wr.cell? ⟨w.heap.size, 2, none⟩ = some (.slice a1 n1 c1) := cell_of HF.out.1 rfl
        by_cases hlt : j < n1
        · have l1 : (j : Int) < (n1 : Int) := by omega
          have i1 : (0 : Int) ≤ (j : Int) := by omega
          have hjl : j < St.length := by have := HE.out; omega
          obtain ⟨g', o, rfl, r1⟩ := (HG.out wr HDr.out).rs j hjl
          obtain ⟨p, hp, ep⟩ := (HG.out wr HDr.out).ins St[j] (List.getElem_mem hjl)
          have HS := hide (dL_take U St hjl)
          have hq : (dL U (St.take j)).length ≤ 16777216 := Nat.le_trans (dL_len U (St.take j)) (by rw [List.length_take]; have := HN3.out; omega)
          have hjb : j ≤ 4194304 := by have := HN3.out; omega
          rw [ep] at r1 HS
          rw [Int.toNat_natCast] at HS
          clear ep
          generalize dL U (St.take j) = R at HS HY hq
          have cp : wr.cell? ⟨H, p, none⟩ = some (.int .i64 (uN U p)) := HF.out.2.at p hp
          have p0 : (0 : Int) ≤ (p : Int) := by omega
          have p1 : (p : Int) < (N : Int) := by omega
          have HK : Hid (wr.heap[bq]? = some (.cells #[.int .i64 (k : Int), .int .i64 mv, .slice ya R.length za, .slice none 0 0, .slice none 0 0] 25 (0, 0)) ∧ wr.heap[w.heap.size]? = some (.cells #[.int .i64 (N : Int), .int .i64 mv, .slice (some ⟨g', o, none⟩) n1 c1, .slice a2 n2 c2, .slice a3 n3 c3] 25 (0, 0)) ∧ Mrw wr H 3 N (fun c => .int .i64 (uN U c)) N ∧ wr.ownsRow wz.heap.size 3 1 (.slice ya R.length za) R.length (R.map (Value.int .i64)) ∧ bq < wz.heap.size ∧ wr.cell? ⟨g', o + j, none⟩ = some (.int .i64 (p : Int))) := hide ⟨HY.out.box, HF.out.1, HF.out.2, HY.out.row, HZwz.out.2.2.2.2.2.2.1, r1⟩
          by_cases hu : U p = true
          · have HT : Hid (dL U (St.take (j + 1)) = R ++ [uN U p]) := hide (by rw [HS.out, if_pos hu])
            have hge : (0 : Int) ≤ uN U p := by unfold uN; rw [if_pos hu]; omega
            clear HS
            go_upto_region 20 with fail
            clear k2 cp r1 hge
            have hmo : MonIL 0 [vI 0 (.pointer (some ⟨bq, 2, none⟩)), vI 1 (.slice ya R.length za), vI 2 (.slice (some ⟨H, 0, none⟩) N N), vI 3 (.pointer (some ⟨w.heap.size, 2, none⟩)), vI 4 (.slice (some ⟨g', o, none⟩) n1 c1), vI 5 (.int .i64 (j : Int)), vI 6 (.pointer (some ⟨g', o + j, none⟩)), vI 7 (.int .i64 (p : Int)), vI 8 (.pointer (some ⟨H, p, none⟩)), vI 9 (.int .i64 (uN U p)), pI 10 (oneP (uN U p))] := ⟨vI_mono _ _, vI_mono _ _, vI_mono _ _, vI_mono _ _, vI_mono _ _, vI_mono _ _, vI_mono _ _, vI_mono _ _, vI_mono _ _, vI_mono _ _, pI_mono oneP_mono, trivial⟩
            refine wp_region_sl [vI 0 (.pointer (some ⟨bq, 2, none⟩)), vI 1 (.slice ya R.length za), vI 2 (.slice (some ⟨H, 0, none⟩) N N), vI 3 (.pointer (some ⟨w.heap.size, 2, none⟩)), vI 4 (.slice (some ⟨g', o, none⟩) n1 c1), vI 5 (.int .i64 (j : Int)), vI 6 (.pointer (some ⟨g', o + j, none⟩)), vI 7 (.int .i64 (p : Int)), vI 8 (.pointer (some ⟨H, p, none⟩)), vI 9 (.int .i64 (uN U p)), pI 10 (oneP (uN U p))] (by kernel_rfl) (by kernel_rfl) (by kernel_rfl) (by kernel_rfl) hmo ⟨?o0, ?o1, ?o2, ?o3, ?o4, ?o5, ?o6, ?o7, ?o8, ?o9, ?o10, trivial⟩ ?fin
            case o0 =>
              intro At yy W hy hb d hd K hK
              have s11 : At.tmps.getD 11 undef = .pointer (some ⟨bq, 0, none⟩) := hb 11 rfl
              have s11' := s11
              rw [Array.getD_eq_getD_getElem?] at s11'
              clear hd hy hb
              go_simp
              exact hK.out _ W (stp_of hmo d (Below.refl _ _)) (if_pos rfl)
            case o1 =>
              intro At yy W hy hb d hd K hK
              have e0 : yy 0 = .pointer (some ⟨bq, 2, none⟩) := by obtain ⟨_, _, _, _, e⟩ := hd ⟨0, .data⟩ (by simp) rfl rfl; exact e
              have s81 := (hy 0 _ 81 rfl rfl).trans e0
              have s81' := s81
              rw [Array.getD_eq_getD_getElem?] at s81'
              clear hd hy hb
              have qq : W.cell? ⟨bq, 2, none⟩ = some (.slice ya R.length za) := cell_of (blk_on HK.out.1 d) rfl
              go_simp
              exact hK.out _ W (stp_of hmo d (Below.refl _ _)) (if_pos rfl)
            case o2 =>
              intro At yy W hy hb d hd K hK
              have s8 : At.tmps.getD 8 undef = .slice (some ⟨H, 0, none⟩) N N := hb 8 rfl
              have s8' := s8
              rw [Array.getD_eq_getD_getElem?] at s8'
              clear hd hy hb
              go_simp
              exact hK.out _ W (stp_of hmo d (Below.refl _ _)) (if_pos rfl)
            case o3 =>
              intro At yy W hy hb d hd K hK
              have s1 : At.tmps.getD 1 undef = .pointer (some ⟨w.heap.size, 0, none⟩) := hb 1 rfl
              have s1' := s1
              rw [Array.getD_eq_getD_getElem?] at s1'
              clear hd hy hb
              go_simp
              exact hK.out _ W (stp_of hmo d (Below.refl _ _)) (if_pos rfl)
            case o4 =>
              intro At yy W hy hb d hd K hK
              have e3 : yy 3 = .pointer (some ⟨w.heap.size, 2, none⟩) := by obtain ⟨_, _, _, _, e⟩ := hd ⟨3, .data⟩ (by simp) rfl rfl; exact e
              have s84 := (hy 3 _ 84 rfl rfl).trans e3
              have s84' := s84
              rw [Array.getD_eq_getD_getElem?] at s84'
              clear hd hy hb
              have qq : W.cell? ⟨w.heap.size, 2, none⟩ = some (.slice (some ⟨g', o, none⟩) n1 c1) := cell_of (blk_on HK.out.2.1 d) rfl
              go_simp
              exact hK.out _ W (stp_of hmo d (Below.refl _ _)) (if_pos rfl)
            case o5 =>
              intro At yy W hy hb d hd K hK
              have s12 : At.tmps.getD 12 undef = .int .i64 (j : Int) := hb 12 rfl
              have s12' := s12
              rw [Array.getD_eq_getD_getElem?] at s12'
              clear hd hy hb
              go_simp
              exact hK.out _ W (stp_of hmo d (Below.refl _ _)) (if_pos rfl)
            case o6 =>
              intro At yy W hy hb d hd K hK
              have e4 : yy 4 = .slice (some ⟨g', o, none⟩) n1 c1 := by obtain ⟨_, _, _, _, e⟩ := hd ⟨4, .data⟩ (by simp) rfl rfl; exact e
              have e5 : yy 5 = .int .i64 (j : Int) := by obtain ⟨_, _, _, _, e⟩ := hd ⟨5, .data⟩ (by simp) rfl rfl; exact e
              have s85 := (hy 4 _ 85 rfl rfl).trans e4
              have s85' := s85
              rw [Array.getD_eq_getD_getElem?] at s85'
              have s86 := (hy 5 _ 86 rfl rfl).trans e5
              have s86' := s86
              rw [Array.getD_eq_getD_getElem?] at s86'
              clear hd hy hb
              go_simp
              exact hK.out _ W (stp_of hmo d (Below.refl _ _)) (if_pos rfl)
            case o7 =>
              intro At yy W hy hb d hd K hK
              have e6 : yy 6 = .pointer (some ⟨g', o + j, none⟩) := by obtain ⟨_, _, _, _, e⟩ := hd ⟨6, .data⟩ (by simp) rfl rfl; exact e
              have s87 := (hy 6 _ 87 rfl rfl).trans e6
              have s87' := s87
              rw [Array.getD_eq_getD_getElem?] at s87'
              clear hd hy hb
              have qq : W.cell? ⟨g', o + j, none⟩ = some (.int .i64 (p : Int)) := (d.cell (p := ⟨g', o + j, none⟩) (World.block_lt_of_cell? wr _ HK.out.2.2.2.2.2)).trans HK.out.2.2.2.2.2
              go_simp
              exact hK.out _ W (stp_of hmo d (Below.refl _ _)) (if_pos rfl)
            case o8 =>
              intro At yy W hy hb d hd K hK
              have e2 : yy 2 = .slice (some ⟨H, 0, none⟩) N N := by obtain ⟨_, _, _, _, e⟩ := hd ⟨2, .data⟩ (by simp) rfl rfl; exact e
              have e7 : yy 7 = .int .i64 (p : Int) := by obtain ⟨_, _, _, _, e⟩ := hd ⟨7, .data⟩ (by simp) rfl rfl; exact e
              have p0 : (0 : Int) ≤ (p : Int) := by omega
              have p1 : (p : Int) < (N : Int) := by omega
              have s83 := (hy 2 _ 83 rfl rfl).trans e2
              have s83' := s83
              rw [Array.getD_eq_getD_getElem?] at s83'
              have s88 := (hy 7 _ 88 rfl rfl).trans e7
              have s88' := s88
              rw [Array.getD_eq_getD_getElem?] at s88'
              clear hd hy hb
              go_simp
              exact hK.out _ W (stp_of hmo d (Below.refl _ _)) (if_pos rfl)
            case o9 =>
              intro At yy W hy hb d hd K hK
              have e8 : yy 8 = .pointer (some ⟨H, p, none⟩) := by obtain ⟨_, _, _, _, e⟩ := hd ⟨8, .data⟩ (by simp) rfl rfl; exact e
              have s89 := (hy 8 _ 89 rfl rfl).trans e8
              have s89' := s89
              rw [Array.getD_eq_getD_getElem?] at s89'
              clear hd hy hb
              have qq : W.cell? ⟨H, p, none⟩ = some (.int .i64 (uN U p)) := (HK.out.2.2.1.below d HK.out.2.2.1.lt).at p hp
              go_simp
              exact hK.out _ W (stp_of hmo d (Below.refl _ _)) (if_pos rfl)
            case o10 =>
              intro At yy W hy hb d hd K hK
              have e9 : yy 9 = .int .i64 (uN U p) := by obtain ⟨_, _, _, _, e⟩ := hd ⟨9, .data⟩ (by simp) rfl rfl; exact e
              have s90 := (hy 9 _ 90 rfl rfl).trans e9
              have s90' := s90
              rw [Array.getD_eq_getD_getElem?] at s90'
              clear hd hy hb
              go_simp
              exact hK.out _ _ (stp_of hmo d ((Below.refl _ _).alloc (Nat.le_refl _) _)) ⟨if_pos rfl, by simp, World.alloc_heap_new _ _⟩
            case fin =>
              intro yy lo hi W hM
              show wpList _ _ _ [_, _, _] _ _
              have e0 : yy 0 = .pointer (some ⟨bq, 2, none⟩) := hM.fact 0 (by simp) rfl (notR_all 0 rfl)
              have e1 : yy 1 = .slice ya R.length za := hM.fact 1 (by simp) rfl (notR_all 1 rfl)
              have e2 : yy 2 = .slice (some ⟨H, 0, none⟩) N N := hM.fact 2 (by simp) rfl (notR_all 2 rfl)
              have e3 : yy 3 = .pointer (some ⟨w.heap.size, 2, none⟩) := hM.fact 3 (by simp) rfl (notR_all 3 rfl)
              have e4 : yy 4 = .slice (some ⟨g', o, none⟩) n1 c1 := hM.fact 4 (by simp) rfl (notR_all 4 rfl)
              have e5 : yy 5 = .int .i64 (j : Int) := hM.fact 5 (by simp) rfl (notR_all 5 rfl)
              have e6 : yy 6 = .pointer (some ⟨g', o + j, none⟩) := hM.fact 6 (by simp) rfl (notR_all 6 rfl)
              have e7 : yy 7 = .int .i64 (p : Int) := hM.fact 7 (by simp) rfl (notR_all 7 rfl)
              have e8 : yy 8 = .pointer (some ⟨H, p, none⟩) := hM.fact 8 (by simp) rfl (notR_all 8 rfl)
              have e9 : yy 9 = .int .i64 (uN U p) := hM.fact 9 (by simp) rfl (notR_all 9 rfl)
              have DW := hide hM.d
              have OW := hide (own_below HK.out.2.2.2.1 hM.d)
              obtain ⟨e10, l10, za0⟩ := hM.fact 10 (by simp) rfl (notR_all 10 rfl)
              have HN := hide za0
              simp only [fills, Act.put, List.take, List.length, List.setIfInBounds_toArray, List.set_cons_zero, List.set_cons_succ, e0, e1, e2, e3, e4, e5, e6, e7, e8, e9, e10]
              clear hM hmo e0 e1 e2 e3 e4 e5 e6 e7 e8 e9 e10 za0 l10
              generalize lo 10 = pn at HN
              have zb := HK.out.2.2.2.2.1
              go_wp2_with (at_builtin; refine wpList_appI rfl _ _ rfl wz.heap.size (.slice ya R.length za) R rfl OW.out pn (uN U p) rfl HN.out hq wr (DW.out.mono HY.out.only.size) HY.out.only.size ?_; intro v4 w4 HO4 HD4; obtain ⟨y4, z4, hv4⟩ := own_slice HO4.out; rw [List.length_append, List.length_singleton] at hv4; subst hv4; have k4 : w4.cell? ⟨bq, 2, none⟩ = some (.slice ya R.length za) := cell_of ((HD4.out.block _ zb).trans HK.out.1) rfl; have f4 : w4.frozen? ⟨bq, 2, none⟩ = false := fz_of ((HD4.out.block _ zb).trans HK.out.1))
              have J : Hid (PrS wz (w4.setCell ⟨bq, 2, none⟩ (.slice y4 (R.length + 1) z4)) bq k mv (.slice y4 (R.length + 1) z4) (R ++ [uN U p])) := hide (prS_put HK.out.1 zb HY.out.only HO4.out HD4.out)
              clear HO4 HD4 k4 f4 zb
              go_roundw
              case rel => exact ⟨j + 1, y4, z4, by omega, by go_num, by rw [HT.out, List.length_append, List.length_singleton]; exact J⟩
              case measure => simp [intOf]; omega
          · have HT : Hid (dL U (St.take (j + 1)) = R) := hide (by rw [HS.out, if_neg hu])
            have en : uN U p = -1 := by unfold uN; rw [if_neg hu]
            rw [en] at cp
            clear HS HK en
            go_wp2_with fail
            go_roundw
            case rel => exact ⟨j + 1, ya, za, by omega, by go_num, by rw [HT.out]; exact HY⟩
            case measure => simp [intOf]; omega
        · have l1 : ¬ (j : Int) < (n1 : Int) := by omega
          have et : St.take j = St := List.take_of_length_le (by have := HE.out; omega)
          rw [et] at HY
          clear et
          have HZwy : Hid (wr.heap[bq]? = some (.cells #[.int .i64 (k : Int), .int .i64 mv, .slice ya (dL U St).length za, .slice none 0 0, .slice none 0 0] 25 (0, 0)) ∧ Below w.heap.size w wr ∧ wr.heap[w.heap.size]? = some (.cells #[.int .i64 (N : Int), .int .i64 mv, .slice a1 n1 c1, .slice a2 n2 c2, .slice a3 n3 c3] 25 (0, 0)) ∧ wr.heap[w.heap.size + 1]? = some (.cells #[.int .i64 0, .int .i64 0, .slice none 0 0, .slice none 0 0, .slice none 0 0] 25 (0, 0)) ∧ Mrw wr H 3 N (fun c => .int .i64 (uN U c)) N ∧ wr.ownsRow w8.heap.size 3 1 (.slice y k z) k ((natL (uL U N)).map (Value.int .i64)) ∧ bq < wr.heap.size ∧ H < bq ∧ w.heap.size + 2 ≤ H ∧ w8.heap.size ≤ bq ∧ wr.ownsRow wz.heap.size 3 1 (.slice ya (dL U St).length za) (dL U St).length ((dL U St).map (Value.int .i64)) ∧ bq < wz.heap.size) := hide (by
            have s1 := HS1.out
            exact ⟨HY.out.box, HDr.out, HF.out.1, (HY.out.only.block _ (Array.getElem?_eq_some_iff.1 HZwz.out.2.2.2.1).1 (by omega)).trans HZwz.out.2.2.2.1, HF.out.2, row_only HZwz.out.2.2.2.2.2.1 HY.out.only (fun x hx e => by have := (HZwz.out.2.2.2.2.2.1.lt x hx).2; have := (HZwz.out.2.2.2.2.2.1.lt x hx).1; subst e; exact own_bq HZwz.out.1 HZwz.out.2.2.2.2.2.1 hx), Nat.lt_of_lt_of_le s1.1 HY.out.only.size, s1.2.1, s1.2.2.1, s1.2.2.2, HY.out.row, s1.1⟩)
          have HWY := hide HY.out.only.size
          clear HY HF HDr HS1
          go_wp2_with fail
          clear k2
          obtain ⟨wy, rfl⟩ : ∃ z, z = wr := ⟨_, rfl⟩
          go_loopw [13] (fun iv wr => ∃ j yv zv, j ≤ n2 ∧ iv = .int .i64 (j : Int) ∧ Hid (PrF wy wr bq k mv (.slice ya (dL U St).length za) (.slice yv (dL U (Fi.take j)).length zv) (dL U (Fi.take j)))) (fun iv _ => n2 - (intOf iv).toNat)
          case atStart => exact ⟨0, none, 0, Nat.zero_le _, rfl, hide ⟨HZwy.out.1, World.ownsRow_nil _ _ _ _, Only.ofBelow (Below.refl _ _)⟩⟩
          case round =>
            obtain ⟨j, yv, zv, hj, rfl, HY⟩ := hrel
            have s1 := HZwy.out.2.2.2.2.2.2
            have HDr : Hid (Below w.heap.size w wr) := hide (HZwy.out.2.1.trans (HY.out.only.toBelow HZwy.out.2.1.size (fun x hx => by omega)))
            have HF : Hid (wr.heap[w.heap.size]? = some (.cells #[.int .i64 (N : Int), .int .i64 mv, .slice a1 n1 c1, .slice a2 n2 c2, .slice a3 n3 c3] 25 (0, 0)) ∧ Mrw wr H 3 N (fun c => .int .i64 (uN U c)) N) := hide ⟨(HY.out.only.block _ (Array.getElem?_eq_some_iff.1 HZwy.out.2.2.1).1 (by omega)).trans HZwy.out.2.2.1, HZwy.out.2.2.2.2.1.only HY.out.only (by omega)⟩
            have HS1 := hide s1
            clear s1
            have k2 : wr.cell? ⟨w.heap.size, 3, none⟩ = some (.slice a2 n2 c2) := cell_of HF.out.1 rfl
            by_cases hlt : j < n2
            · have l1 : (j : Int) < (n2 : Int) := by omega
              have i1 : (0 : Int) ≤ (j : Int) := by omega
              have hjl : j < Fi.length := by have := HE.out; omega
              obtain ⟨g', o, rfl, r1⟩ := (HG.out wr HDr.out).rf j hjl
              obtain ⟨p, hp, ep⟩ := (HG.out wr HDr.out).inf Fi[j] (List.getElem_mem hjl)
              have HS := hide (dL_take U Fi hjl)
              have hq : (dL U (Fi.take j)).length ≤ 16777216 := Nat.le_trans (dL_len U (Fi.take j)) (by rw [List.length_take]; have := HN3.out; omega)
              have hjb : j ≤ 4194304 := by have := HN3.out; omega
              rw [ep] at r1 HS
              rw [Int.toNat_natCast] at HS
              clear ep
              generalize dL U (Fi.take j) = R at HS HY hq
              have cp : wr.cell? ⟨H, p, none⟩ = some (.int .i64 (uN U p)) := HF.out.2.at p hp
              have p0 : (0 : Int) ≤ (p : Int) := by omega
              have p1 : (p : Int) < (N : Int) := by omega
              have HK : Hid (wr.heap[bq]? = some (.cells #[.int .i64 (k : Int), .int .i64 mv, (.slice ya (dL U St).length za), .slice yv R.length zv, .slice none 0 0] 25 (0, 0)) ∧ wr.heap[w.heap.size]? = some (.cells #[.int .i64 (N : Int), .int .i64 mv, .slice a1 n1 c1, .slice (some ⟨g', o, none⟩) n2 c2, .slice a3 n3 c3] 25 (0, 0)) ∧ Mrw wr H 3 N (fun c => .int .i64 (uN U c)) N ∧ wr.ownsRow wy.heap.size 3 1 (.slice yv R.length zv) R.length (R.map (Value.int .i64)) ∧ bq < wy.heap.size ∧ wr.cell? ⟨g', o + j, none⟩ = some (.int .i64 (p : Int))) := hide ⟨HY.out.box, HF.out.1, HF.out.2, HY.out.row, HZwy.out.2.2.2.2.2.2.1, r1⟩
              by_cases hu : U p = true
              · have HT : Hid (dL U (Fi.take (j + 1)) = R ++ [uN U p]) := hide (by rw [HS.out, if_pos hu])
                have hge : (0 : Int) ≤ uN U p := by unfold uN; rw [if_pos hu]; omega
                clear HS
                go_upto_region 25 with fail
                clear k2 cp r1 hge
                have hmo : MonIL 0 [vI 0 (.pointer (some ⟨bq, 3, none⟩)), vI 1 (.slice yv R.length zv), vI 2 (.slice (some ⟨H, 0, none⟩) N N), vI 3 (.pointer (some ⟨w.heap.size, 3, none⟩)), vI 4 (.slice (some ⟨g', o, none⟩) n2 c2), vI 5 (.int .i64 (j : Int)), vI 6 (.pointer (some ⟨g', o + j, none⟩)), vI 7 (.int .i64 (p : Int)), vI 8 (.pointer (some ⟨H, p, none⟩)), vI 9 (.int .i64 (uN U p)), pI 10 (oneP (uN U p))] := ⟨vI_mono _ _, vI_mono _ _, vI_mono _ _, vI_mono _ _, vI_mono _ _, vI_mono _ _, vI_mono _ _, vI_mono _ _, vI_mono _ _, vI_mono _ _, pI_mono oneP_mono, trivial⟩
                refine wp_region_sl [vI 0 (.pointer (some ⟨bq, 3, none⟩)), vI 1 (.slice yv R.length zv), vI 2 (.slice (some ⟨H, 0, none⟩) N N), vI 3 (.pointer (some ⟨w.heap.size, 3, none⟩)), vI 4 (.slice (some ⟨g', o, none⟩) n2 c2), vI 5 (.int .i64 (j : Int)), vI 6 (.pointer (some ⟨g', o + j, none⟩)), vI 7 (.int .i64 (p : Int)), vI 8 (.pointer (some ⟨H, p, none⟩)), vI 9 (.int .i64 (uN U p)), pI 10 (oneP (uN U p))] (by kernel_rfl) (by kernel_rfl) (by kernel_rfl) (by kernel_rfl) hmo ⟨?o0, ?o1, ?o2, ?o3, ?o4, ?o5, ?o6, ?o7, ?o8, ?o9, ?o10, trivial⟩ ?fin
                case o0 =>
                  intro At yy W hy hb d hd K hK
                  have s11 : At.tmps.getD 11 undef = .pointer (some ⟨bq, 0, none⟩) := hb 11 rfl
                  have s11' := s11
                  rw [Array.getD_eq_getD_getElem?] at s11'
                  clear hd hy hb
                  go_simp
                  exact hK.out _ W (stp_of hmo d (Below.refl _ _)) (if_pos rfl)
                case o1 =>
                  intro At yy W hy hb d hd K hK
                  have e0 : yy 0 = .pointer (some ⟨bq, 3, none⟩) := by obtain ⟨_, _, _, _, e⟩ := hd ⟨0, .data⟩ (by simp) rfl rfl; exact e
                  have s110 := (hy 0 _ 110 rfl rfl).trans e0
                  have s110' := s110
                  rw [Array.getD_eq_getD_getElem?] at s110'
                  clear hd hy hb
                  have qq : W.cell? ⟨bq, 3, none⟩ = some (.slice yv R.length zv) := cell_of (blk_on HK.out.1 d) rfl
                  go_simp
                  exact hK.out _ W (stp_of hmo d (Below.refl _ _)) (if_pos rfl)
                case o2 =>
                  intro At yy W hy hb d hd K hK
                  have s8 : At.tmps.getD 8 undef = .slice (some ⟨H, 0, none⟩) N N := hb 8 rfl
                  have s8' := s8
                  rw [Array.getD_eq_getD_getElem?] at s8'
                  clear hd hy hb
                  go_simp
                  exact hK.out _ W (stp_of hmo d (Below.refl _ _)) (if_pos rfl)
                case o3 =>
                  intro At yy W hy hb d hd K hK
                  have s1 : At.tmps.getD 1 undef = .pointer (some ⟨w.heap.size, 0, none⟩) := hb 1 rfl
                  have s1' := s1
                  rw [Array.getD_eq_getD_getElem?] at s1'
                  clear hd hy hb
                  go_simp
                  exact hK.out _ W (stp_of hmo d (Below.refl _ _)) (if_pos rfl)
                case o4 =>
                  intro At yy W hy hb d hd K hK
                  have e3 : yy 3 = .pointer (some ⟨w.heap.size, 3, none⟩) := by obtain ⟨_, _, _, _, e⟩ := hd ⟨3, .data⟩ (by simp) rfl rfl; exact e
                  have s113 := (hy 3 _ 113 rfl rfl).trans e3
                  have s113' := s113
                  rw [Array.getD_eq_getD_getElem?] at s113'
                  clear hd hy hb
                  have qq : W.cell? ⟨w.heap.size, 3, none⟩ = some (.slice (some ⟨g', o, none⟩) n2 c2) := cell_of (blk_on HK.out.2.1 d) rfl
                  go_simp
                  exact hK.out _ W (stp_of hmo d (Below.refl _ _)) (if_pos rfl)
                case o5 =>
                  intro At yy W hy hb d hd K hK
                  have s13 : At.tmps.getD 13 undef = .int .i64 (j : Int) := hb 13 rfl
                  have s13' := s13
                  rw [Array.getD_eq_getD_getElem?] at s13'
                  clear hd hy hb
                  go_simp
                  exact hK.out _ W (stp_of hmo d (Below.refl _ _)) (if_pos rfl)
                case o6 =>
                  intro At yy W hy hb d hd K hK
                  have e4 : yy 4 = .slice (some ⟨g', o, none⟩) n2 c2 := by obtain ⟨_, _, _, _, e⟩ := hd ⟨4, .data⟩ (by simp) rfl rfl; exact e
                  have e5 : yy 5 = .int .i64 (j : Int) := by obtain ⟨_, _, _, _, e⟩ := hd ⟨5, .data⟩ (by simp) rfl rfl; exact e
                  have s114 := (hy 4 _ 114 rfl rfl).trans e4
                  have s114' := s114
                  rw [Array.getD_eq_getD_getElem?] at s114'
                  have s115 := (hy 5 _ 115 rfl rfl).trans e5
                  have s115' := s115
                  rw [Array.getD_eq_getD_getElem?] at s115'
                  clear hd hy hb
                  go_simp
                  exact hK.out _ W (stp_of hmo d (Below.refl _ _)) (if_pos rfl)
                case o7 =>
                  intro At yy W hy hb d hd K hK
                  have e6 : yy 6 = .pointer (some ⟨g', o + j, none⟩) := by obtain ⟨_, _, _, _, e⟩ := hd ⟨6, .data⟩ (by simp) rfl rfl; exact e
                  have s116 := (hy 6 _ 116 rfl rfl).trans e6
                  have s116' := s116
                  rw [Array.getD_eq_getD_getElem?] at s116'
                  clear hd hy hb
                  have qq : W.cell? ⟨g', o + j, none⟩ = some (.int .i64 (p : Int)) := (d.cell (p := ⟨g', o + j, none⟩) (World.block_lt_of_cell? wr _ HK.out.2.2.2.2.2)).trans HK.out.2.2.2.2.2
                  go_simp
                  exact hK.out _ W (stp_of hmo d (Below.refl _ _)) (if_pos rfl)
                case o8 =>
                  intro At yy W hy hb d hd K hK
                  have e2 : yy 2 = .slice (some ⟨H, 0, none⟩) N N := by obtain ⟨_, _, _, _, e⟩ := hd ⟨2, .data⟩ (by simp) rfl rfl; exact e
                  have e7 : yy 7 = .int .i64 (p : Int) := by obtain ⟨_, _, _, _, e⟩ := hd ⟨7, .data⟩ (by simp) rfl rfl; exact e
                  have p0 : (0 : Int) ≤ (p : Int) := by omega
                  have p1 : (p : Int) < (N : Int) := by omega
                  have s112 := (hy 2 _ 112 rfl rfl).trans e2
                  have s112' := s112
                  rw [Array.getD_eq_getD_getElem?] at s112'
                  have s117 := (hy 7 _ 117 rfl rfl).trans e7
                  have s117' := s117
                  rw [Array.getD_eq_getD_getElem?] at s117'
                  clear hd hy hb
                  go_simp
                  exact hK.out _ W (stp_of hmo d (Below.refl _ _)) (if_pos rfl)
                case o9 =>
                  intro At yy W hy hb d hd K hK
                  have e8 : yy 8 = .pointer (some ⟨H, p, none⟩) := by obtain ⟨_, _, _, _, e⟩ := hd ⟨8, .data⟩ (by simp) rfl rfl; exact e
                  have s118 := (hy 8 _ 118 rfl rfl).trans e8
                  have s118' := s118
                  rw [Array.getD_eq_getD_getElem?] at s118'
                  clear hd hy hb
                  have qq : W.cell? ⟨H, p, none⟩ = some (.int .i64 (uN U p)) := (HK.out.2.2.1.below d HK.out.2.2.1.lt).at p hp
                  go_simp
                  exact hK.out _ W (stp_of hmo d (Below.refl _ _)) (if_pos rfl)
                case o10 =>
                  intro At yy W hy hb d hd K hK
                  have e9 : yy 9 = .int .i64 (uN U p) := by obtain ⟨_, _, _, _, e⟩ := hd ⟨9, .data⟩ (by simp) rfl rfl; exact e
                  have s119 := (hy 9 _ 119 rfl rfl).trans e9
                  have s119' := s119
                  rw [Array.getD_eq_getD_getElem?] at s119'
                  clear hd hy hb
                  go_simp
                  exact hK.out _ _ (stp_of hmo d ((Below.refl _ _).alloc (Nat.le_refl _) _)) ⟨if_pos rfl, by simp, World.alloc_heap_new _ _⟩
                case fin =>
                  intro yy lo hi W hM
                  show wpList _ _ _ [_, _, _] _ _
                  have e0 : yy 0 = .pointer (some ⟨bq, 3, none⟩) := hM.fact 0 (by simp) rfl (notR_all 0 rfl)
                  have e1 : yy 1 = .slice yv R.length zv := hM.fact 1 (by simp) rfl (notR_all 1 rfl)
                  have e2 : yy 2 = .slice (some ⟨H, 0, none⟩) N N := hM.fact 2 (by simp) rfl (notR_all 2 rfl)
                  have e3 : yy 3 = .pointer (some ⟨w.heap.size, 3, none⟩) := hM.fact 3 (by simp) rfl (notR_all 3 rfl)
                  have e4 : yy 4 = .slice (some ⟨g', o, none⟩) n2 c2 := hM.fact 4 (by simp) rfl (notR_all 4 rfl)
                  have e5 : yy 5 = .int .i64 (j : Int) := hM.fact 5 (by simp) rfl (notR_all 5 rfl)
                  have e6 : yy 6 = .pointer (some ⟨g', o + j, none⟩) := hM.fact 6 (by simp) rfl (notR_all 6 rfl)
                  have e7 : yy 7 = .int .i64 (p : Int) := hM.fact 7 (by simp) rfl (notR_all 7 rfl)
                  have e8 : yy 8 = .pointer (some ⟨H, p, none⟩) := hM.fact 8 (by simp) rfl (notR_all 8 rfl)
                  have e9 : yy 9 = .int .i64 (uN U p) := hM.fact 9 (by simp) rfl (notR_all 9 rfl)
                  have DW := hide hM.d
                  have OW := hide (own_below HK.out.2.2.2.1 hM.d)
                  obtain ⟨e10, l10, zv0⟩ := hM.fact 10 (by simp) rfl (notR_all 10 rfl)
                  have HN := hide zv0
                  simp only [fills, Act.put, List.take, List.length, List.setIfInBounds_toArray, List.set_cons_zero, List.set_cons_succ, e0, e1, e2, e3, e4, e5, e6, e7, e8, e9, e10]
                  clear hM hmo e0 e1 e2 e3 e4 e5 e6 e7 e8 e9 e10 zv0 l10
                  generalize lo 10 = pn at HN
                  have zb := HK.out.2.2.2.2.1
                  go_wp2_with (at_builtin; refine wpList_appI rfl _ _ rfl wy.heap.size (.slice yv R.length zv) R rfl OW.out pn (uN U p) rfl HN.out hq wr (DW.out.mono HY.out.only.size) HY.out.only.size ?_; intro v4 w4 HO4 HD4; obtain ⟨y4, z4, hv4⟩ := own_slice HO4.out; rw [List.length_append, List.length_singleton] at hv4; subst hv4; have k4 : w4.cell? ⟨bq, 3, none⟩ = some (.slice yv R.length zv) := cell_of ((HD4.out.block _ zb).trans HK.out.1) rfl; have f4 : w4.frozen? ⟨bq, 3, none⟩ = false := fz_of ((HD4.out.block _ zb).trans HK.out.1))
                  have J : Hid (PrF wy (w4.setCell ⟨bq, 3, none⟩ (.slice y4 (R.length + 1) z4)) bq k mv (.slice ya (dL U St).length za) (.slice y4 (R.length + 1) z4) (R ++ [uN U p])) := hide (prF_put HK.out.1 zb HY.out.only HO4.out HD4.out)
                  clear HO4 HD4 k4 f4 zb
                  go_roundw
                  case rel => exact ⟨j + 1, y4, z4, by omega, by go_num, by rw [HT.out, List.length_append, List.length_singleton]; exact J⟩
                  case measure => simp [intOf]; omega
              · have HT : Hid (dL U (Fi.take (j + 1)) = R) := hide (by rw [HS.out, if_neg hu])
                have en : uN U p = -1 := by unfold uN; rw [if_neg hu]
                rw [en] at cp
                clear HS HK en
                go_wp2_with fail
                go_roundw
                case rel => exact ⟨j + 1, yv, zv, by omega, by go_num, by rw [HT.out]; exact HY⟩
                case measure => simp [intOf]; omega
            · have l1 : ¬ (j : Int) < (n2 : Int) := by omega
              have et : Fi.take j = Fi := List.take_of_length_le (by have := HE.out; omega)
              rw [et] at HY
              clear et
              have HZwx : Hid (wr.heap[bq]? = some (.cells #[.int .i64 (k : Int), .int .i64 mv, .slice ya (dL U St).length za, .slice yv (dL U Fi).length zv, .slice none 0 0] 25 (0, 0)) ∧ Below w.heap.size w wr ∧ wr.heap[w.heap.size]? = some (.cells #[.int .i64 (N : Int), .int .i64 mv, .slice a1 n1 c1, .slice a2 n2 c2, .slice a3 n3 c3] 25 (0, 0)) ∧ wr.heap[w.heap.size + 1]? = some (.cells #[.int .i64 0, .int .i64 0, .slice none 0 0, .slice none 0 0, .slice none 0 0] 25 (0, 0)) ∧ Mrw wr H 3 N (fun c => .int .i64 (uN U c)) N ∧ wr.ownsRow w8.heap.size 3 1 (.slice y k z) k ((natL (uL U N)).map (Value.int .i64)) ∧ bq < wr.heap.size ∧ H < bq ∧ w.heap.size + 2 ≤ H ∧ w8.heap.size ≤ bq ∧ wr.ownsRow wz.heap.size 3 1 (.slice ya (dL U St).length za) (dL U St).length ((dL U St).map (Value.int .i64)) ∧ wr.ownsRow wz.heap.size 3 1 (.slice yv (dL U Fi).length zv) (dL U Fi).length ((dL U Fi).map (Value.int .i64)) ∧ bq < wz.heap.size) := hide (by
                have s1 := HS1.out
                have s2 := HZwy.out.2.2.2.2.2.2
                exact ⟨HY.out.box, HDr.out, HF.out.1, (HY.out.only.block _ (Array.getElem?_eq_some_iff.1 HZwy.out.2.2.2.1).1 (by omega)).trans HZwy.out.2.2.2.1, HF.out.2, row_only HZwy.out.2.2.2.2.2.1 HY.out.only (fun x hx e => by subst e; exact own_bq HZwy.out.1 HZwy.out.2.2.2.2.2.1 hx), Nat.lt_of_lt_of_le s1.1 HY.out.only.size, s1.2.1, s1.2.2.1, s1.2.2.2.1, row_only s1.2.2.2.2.1 HY.out.only (fun x hx e => by subst e; exact own_bq HZwy.out.1 s1.2.2.2.2.1 hx), owns_down HY.out.row HWY.out, s1.2.2.2.2.2⟩)
              clear HY HF HDr HS1
              go_wp2_with fail
              clear k2
              obtain ⟨wx, rfl⟩ : ∃ z, z = wr := ⟨_, rfl⟩
              go_loopw [14] (fun iv wr => ∃ j y3 z3, j ≤ n3 ∧ iv = .int .i64 (j : Int) ∧ Hid (PrI wx wr bq k mv (.slice ya (dL U St).length za) (.slice yv (dL U Fi).length zv) (.slice y3 (dE U (Ed.take j)).length z3) (dE U (Ed.take j)))) (fun iv _ => n3 - (intOf iv).toNat)
              case atStart => exact ⟨0, none, 0, Nat.zero_le _, rfl, hide ⟨HZwx.out.1, World.ownsRow_nil _ _ _ _, Only.ofBelow (Below.refl _ _)⟩⟩
              case round =>
                obtain ⟨j, y3, z3, hj, rfl, HY⟩ := hrel
                have s1 := HZwx.out.2.2.2.2.2.2
                have HDr : Hid (Below w.heap.size w wr) := hide (HZwx.out.2.1.trans (HY.out.only.toBelow HZwx.out.2.1.size (fun x hx => by omega)))
                have HF : Hid (wr.heap[w.heap.size]? = some (.cells #[.int .i64 (N : Int), .int .i64 mv, .slice a1 n1 c1, .slice a2 n2 c2, .slice a3 n3 c3] 25 (0, 0)) ∧ Mrw wr H 3 N (fun c => .int .i64 (uN U c)) N) := hide ⟨(HY.out.only.block _ (Array.getElem?_eq_some_iff.1 HZwx.out.2.2.1).1 (by omega)).trans HZwx.out.2.2.1, HZwx.out.2.2.2.2.1.only HY.out.only (by omega)⟩
                have HS1 := hide s1
                clear s1
                have k2 : wr.cell? ⟨w.heap.size, 4, none⟩ = some (.slice a3 n3 c3) := cell_of HF.out.1 rfl
                by_cases hlt : j < n3
                · have l1 : (j : Int) < (n3 : Int) := by omega
                  have i1 : (0 : Int) ≤ (j : Int) := by omega
                  have hjb : j ≤ 65536 := by have := HN3.out; omega
                  have hjl : j < Ed.length := by have := HE.out; omega
                  obtain ⟨g', o, rfl, r1, r2, r3⟩ := (HG.out wr HDr.out).re j hjl
                  obtain ⟨p, r, hp, hr, ep, er⟩ := (HG.out wr HDr.out).prs Ed[j] (List.getElem_mem hjl)
                  have HS := hide (dE_take U Ed hjl)
                  have hq : (dE U (Ed.take j)).length ≤ 16777216 := Nat.le_trans (dE_len U (Ed.take j)) (by rw [List.length_take]; have := HN3.out; omega)
                  rw [ep] at r1 HS
                  rw [er] at r3 HS
                  rw [Int.toNat_natCast, Int.toNat_natCast] at HS
                  generalize Ed[j].2.1 = x2 at r2 HS
                  clear ep er
                  generalize dE U (Ed.take j) = R at HS HY hq
                  go_upto_region 30 with fail
                  obtain ⟨eb, heb⟩ : ∃ x, wr.heap.size = x := ⟨_, rfl⟩
                  rw [heb]
                  obtain ⟨we, hwe⟩ : ∃ W, wr.alloc (.cells #[.int .i64 (p : Int), .int .i64 x2, .int .i64 (r : Int)] 42) = W := ⟨_, rfl⟩
                  rw [hwe]
                  have HK : Hid (we.heap[bq]? = some (.cells #[.int .i64 (k : Int), .int .i64 mv, .slice ya (dL U St).length za, .slice yv (dL U Fi).length zv, .slice y3 R.length z3] 25 (0, 0)) ∧ we.heap[eb]? = some (.cells #[.int .i64 (p : Int), .int .i64 x2, .int .i64 (r : Int)] 42 (0, 0)) ∧ Mrw we H 3 N (fun q => .int .i64 (uN U q)) N ∧ we.ownsRow wx.heap.size 42 3 (.slice y3 R.length z3) R.length (R.flatMap encE) ∧ bq < wx.heap.size ∧ Only wx we (fun k => k = bq)) := hide (by
                    have d : Below wr.heap.size wr we := by rw [← hwe]; exact (Below.refl _ _).alloc (Nat.le_refl _) _
                    exact ⟨blk_on HY.out.box d, by rw [← hwe, ← heb]; exact World.alloc_heap_new _ _, HF.out.2.below d HF.out.2.lt, own_below HY.out.row d, HZwx.out.2.2.2.2.2.2.1, only_below1 HY.out.only d⟩)
                  clear HY HDr hwe r1 r2 r3 heb HF k2
                  have k0 : we.cell? ⟨eb, 0, none⟩ = some (.int .i64 (p : Int)) := cell_of HK.out.2.1 rfl
                  have kb : we.cell? ⟨eb, 2, none⟩ = some (.int .i64 (r : Int)) := cell_of HK.out.2.1 rfl
                  have cp : we.cell? ⟨H, p, none⟩ = some (.int .i64 (uN U p)) := HK.out.2.2.1.at p hp
                  have cr : we.cell? ⟨H, r, none⟩ = some (.int .i64 (uN U r)) := HK.out.2.2.1.at r hr
                  have p0 : (0 : Int) ≤ (p : Int) := by omega
                  have p1 : (p : Int) < (N : Int) := by omega
                  have r0 : (0 : Int) ≤ (r : Int) := by omega
                  have r1 : (r : Int) < (N : Int) := by omega
                  by_cases hu : U p = true
                  · have hge : (0 : Int) ≤ uN U p := by unfold uN; rw [if_pos hu]; omega
                    by_cases hv : U r = true
                    · have hge2 : (0 : Int) ≤ uN U r := by unfold uN; rw [if_pos hv]; omega
                      have HT : Hid (dE U (Ed.take (j + 1)) = R ++ [(uN U p, x2, uN U r)]) := hide (by rw [HS.out, hu, hv]; rfl)
                      clear HS
                      go_upto_region 31 with fail
                      clear k0 kb cp cr hge hge2
                      have hmo : MonIL 0 [vI 0 (.pointer (some ⟨bq, 4, none⟩)), vI 1 (.slice y3 R.length z3), vI 2 (.slice (some ⟨H, 0, none⟩) N N), vI 3 (.pointer (some ⟨eb, 0, none⟩)), vI 4 (.int .i64 (p : Int)), vI 5 (.pointer (some ⟨H, p, none⟩)), vI 6 (.int .i64 (uN U p)), vI 7 (.pointer (some ⟨eb, 1, none⟩)), vI 8 (.int .i64 x2), vI 9 (.slice (some ⟨H, 0, none⟩) N N), vI 10 (.pointer (some ⟨eb, 2, none⟩)), vI 11 (.int .i64 (r : Int)), vI 12 (.pointer (some ⟨H, r, none⟩)), vI 13 (.int .i64 (uN U r)), vI 14 (.agg #[.int .i64 (uN U p), .int .i64 x2, .int .i64 (uN U r)]), pI 15 (threeP (uN U p, x2, uN U r))] := ⟨vI_mono _ _, vI_mono _ _, vI_mono _ _, vI_mono _ _, vI_mono _ _, vI_mono _ _, vI_mono _ _, vI_mono _ _, vI_mono _ _, vI_mono _ _, vI_mono _ _, vI_mono _ _, vI_mono _ _, vI_mono _ _, vI_mono _ _, pI_mono threeP_mono, trivial⟩
                      refine wp_region_sl [vI 0 (.pointer (some ⟨bq, 4, none⟩)), vI 1 (.slice y3 R.length z3), vI 2 (.slice (some ⟨H, 0, none⟩) N N), vI 3 (.pointer (some ⟨eb, 0, none⟩)), vI 4 (.int .i64 (p : Int)), vI 5 (.pointer (some ⟨H, p, none⟩)), vI 6 (.int .i64 (uN U p)), vI 7 (.pointer (some ⟨eb, 1, none⟩)), vI 8 (.int .i64 x2), vI 9 (.slice (some ⟨H, 0, none⟩) N N), vI 10 (.pointer (some ⟨eb, 2, none⟩)), vI 11 (.int .i64 (r : Int)), vI 12 (.pointer (some ⟨H, r, none⟩)), vI 13 (.int .i64 (uN U r)), vI 14 (.agg #[.int .i64 (uN U p), .int .i64 x2, .int .i64 (uN U r)]), pI 15 (threeP (uN U p, x2, uN U r))] (by kernel_rfl) (by kernel_rfl) (by kernel_rfl) (by kernel_rfl) hmo ⟨?o0, ?o1, ?o2, ?o3, ?o4, ?o5, ?o6, ?o7, ?o8, ?o9, ?o10, ?o11, ?o12, ?o13, ?o14, ?o15, trivial⟩ ?fin
                      case o0 =>
                        intro At yy W hy hb d hd K hK
                        have s11 : At.tmps.getD 11 undef = .pointer (some ⟨bq, 0, none⟩) := hb 11 rfl
                        have s11' := s11
                        rw [Array.getD_eq_getD_getElem?] at s11'
                        clear hd hy hb
                        go_simp
                        exact hK.out _ W (stp_of hmo d (Below.refl _ _)) (if_pos rfl)
                      case o1 =>
                        intro At yy W hy hb d hd K hK
                        have e0 : yy 0 = .pointer (some ⟨bq, 4, none⟩) := by obtain ⟨_, _, _, _, e⟩ := hd ⟨0, .data⟩ (by simp) rfl rfl; exact e
                        have s149 := (hy 0 _ 149 rfl rfl).trans e0
                        have s149' := s149
                        rw [Array.getD_eq_getD_getElem?] at s149'
                        clear hd hy hb
                        have qq : W.cell? ⟨bq, 4, none⟩ = some (.slice y3 R.length z3) := cell_of (blk_on HK.out.1 d) rfl
                        go_simp
                        exact hK.out _ W (stp_of hmo d (Below.refl _ _)) (if_pos rfl)
                      case o2 =>
                        intro At yy W hy hb d hd K hK
                        have s8 : At.tmps.getD 8 undef = .slice (some ⟨H, 0, none⟩) N N := hb 8 rfl
                        have s8' := s8
                        rw [Array.getD_eq_getD_getElem?] at s8'
                        clear hd hy hb
                        go_simp
                        exact hK.out _ W (stp_of hmo d (Below.refl _ _)) (if_pos rfl)
                      case o3 =>
                        intro At yy W hy hb d hd K hK
                        have s15 : At.tmps.getD 15 undef = .pointer (some ⟨eb, 0, none⟩) := hb 15 rfl
                        have s15' := s15
                        rw [Array.getD_eq_getD_getElem?] at s15'
                        clear hd hy hb
                        go_simp
                        exact hK.out _ W (stp_of hmo d (Below.refl _ _)) (if_pos rfl)
                      case o4 =>
                        intro At yy W hy hb d hd K hK
                        have e3 : yy 3 = .pointer (some ⟨eb, 0, none⟩) := by obtain ⟨_, _, _, _, e⟩ := hd ⟨3, .data⟩ (by simp) rfl rfl; exact e
                        have s152 := (hy 3 _ 152 rfl rfl).trans e3
                        have s152' := s152
                        rw [Array.getD_eq_getD_getElem?] at s152'
                        clear hd hy hb
                        have qq : W.cell? ⟨eb, 0, none⟩ = some (.int .i64 (p : Int)) := cell_of (blk_on HK.out.2.1 d) rfl
                        go_simp
                        exact hK.out _ W (stp_of hmo d (Below.refl _ _)) (if_pos rfl)
                      case o5 =>
                        intro At yy W hy hb d hd K hK
                        have e2 : yy 2 = .slice (some ⟨H, 0, none⟩) N N := by obtain ⟨_, _, _, _, e⟩ := hd ⟨2, .data⟩ (by simp) rfl rfl; exact e
                        have e4 : yy 4 = .int .i64 (p : Int) := by obtain ⟨_, _, _, _, e⟩ := hd ⟨4, .data⟩ (by simp) rfl rfl; exact e
                        have p0 : (0 : Int) ≤ (p : Int) := by omega
                        have p1 : (p : Int) < (N : Int) := by omega
                        have s151 := (hy 2 _ 151 rfl rfl).trans e2
                        have s151' := s151
                        rw [Array.getD_eq_getD_getElem?] at s151'
                        have s153 := (hy 4 _ 153 rfl rfl).trans e4
                        have s153' := s153
                        rw [Array.getD_eq_getD_getElem?] at s153'
                        clear hd hy hb
                        go_simp
                        exact hK.out _ W (stp_of hmo d (Below.refl _ _)) (if_pos rfl)
                      case o6 =>
                        intro At yy W hy hb d hd K hK
                        have e5 : yy 5 = .pointer (some ⟨H, p, none⟩) := by obtain ⟨_, _, _, _, e⟩ := hd ⟨5, .data⟩ (by simp) rfl rfl; exact e
                        have s154 := (hy 5 _ 154 rfl rfl).trans e5
                        have s154' := s154
                        rw [Array.getD_eq_getD_getElem?] at s154'
                        clear hd hy hb
                        have qq : W.cell? ⟨H, p, none⟩ = some (.int .i64 (uN U p)) := (HK.out.2.2.1.below d HK.out.2.2.1.lt).at p hp
                        go_simp
                        exact hK.out _ W (stp_of hmo d (Below.refl _ _)) (if_pos rfl)
                      case o7 =>
                        intro At yy W hy hb d hd K hK
                        have s15 : At.tmps.getD 15 undef = .pointer (some ⟨eb, 0, none⟩) := hb 15 rfl
                        have s15' := s15
                        rw [Array.getD_eq_getD_getElem?] at s15'
                        clear hd hy hb
                        go_simp
                        exact hK.out _ W (stp_of hmo d (Below.refl _ _)) (if_pos rfl)
                      case o8 =>
                        intro At yy W hy hb d hd K hK
                        have e7 : yy 7 = .pointer (some ⟨eb, 1, none⟩) := by obtain ⟨_, _, _, _, e⟩ := hd ⟨7, .data⟩ (by simp) rfl rfl; exact e
                        have s156 := (hy 7 _ 156 rfl rfl).trans e7
                        have s156' := s156
                        rw [Array.getD_eq_getD_getElem?] at s156'
                        clear hd hy hb
                        have qq : W.cell? ⟨eb, 1, none⟩ = some (.int .i64 x2) := cell_of (blk_on HK.out.2.1 d) rfl
                        go_simp
                        exact hK.out _ W (stp_of hmo d (Below.refl _ _)) (if_pos rfl)
                      case o9 =>
                        intro At yy W hy hb d hd K hK
                        have s8 : At.tmps.getD 8 undef = .slice (some ⟨H, 0, none⟩) N N := hb 8 rfl
                        have s8' := s8
                        rw [Array.getD_eq_getD_getElem?] at s8'
                        clear hd hy hb
                        go_simp
                        exact hK.out _ W (stp_of hmo d (Below.refl _ _)) (if_pos rfl)
                      case o10 =>
                        intro At yy W hy hb d hd K hK
                        have s15 : At.tmps.getD 15 undef = .pointer (some ⟨eb, 0, none⟩) := hb 15 rfl
                        have s15' := s15
                        rw [Array.getD_eq_getD_getElem?] at s15'
                        clear hd hy hb
                        go_simp
                        exact hK.out _ W (stp_of hmo d (Below.refl _ _)) (if_pos rfl)
                      case o11 =>
                        intro At yy W hy hb d hd K hK
                        have e10 : yy 10 = .pointer (some ⟨eb, 2, none⟩) := by obtain ⟨_, _, _, _, e⟩ := hd ⟨10, .data⟩ (by simp) rfl rfl; exact e
                        have s159 := (hy 10 _ 159 rfl rfl).trans e10
                        have s159' := s159
                        rw [Array.getD_eq_getD_getElem?] at s159'
                        clear hd hy hb
                        have qq : W.cell? ⟨eb, 2, none⟩ = some (.int .i64 (r : Int)) := cell_of (blk_on HK.out.2.1 d) rfl
                        go_simp
                        exact hK.out _ W (stp_of hmo d (Below.refl _ _)) (if_pos rfl)
                      case o12 =>
                        intro At yy W hy hb d hd K hK
                        have e9 : yy 9 = .slice (some ⟨H, 0, none⟩) N N := by obtain ⟨_, _, _, _, e⟩ := hd ⟨9, .data⟩ (by simp) rfl rfl; exact e
                        have e11 : yy 11 = .int .i64 (r : Int) := by obtain ⟨_, _, _, _, e⟩ := hd ⟨11, .data⟩ (by simp) rfl rfl; exact e
                        have p0 : (0 : Int) ≤ (r : Int) := by omega
                        have p1 : (r : Int) < (N : Int) := by omega
                        have s158 := (hy 9 _ 158 rfl rfl).trans e9
                        have s158' := s158
                        rw [Array.getD_eq_getD_getElem?] at s158'
                        have s160 := (hy 11 _ 160 rfl rfl).trans e11
                        have s160' := s160
                        rw [Array.getD_eq_getD_getElem?] at s160'
                        clear hd hy hb
                        go_simp
                        exact hK.out _ W (stp_of hmo d (Below.refl _ _)) (if_pos rfl)
                      case o13 =>
                        intro At yy W hy hb d hd K hK
                        have e12 : yy 12 = .pointer (some ⟨H, r, none⟩) := by obtain ⟨_, _, _, _, e⟩ := hd ⟨12, .data⟩ (by simp) rfl rfl; exact e
                        have s161 := (hy 12 _ 161 rfl rfl).trans e12
                        have s161' := s161
                        rw [Array.getD_eq_getD_getElem?] at s161'
                        clear hd hy hb
                        have qq : W.cell? ⟨H, r, none⟩ = some (.int .i64 (uN U r)) := (HK.out.2.2.1.below d HK.out.2.2.1.lt).at r hr
                        go_simp
                        exact hK.out _ W (stp_of hmo d (Below.refl _ _)) (if_pos rfl)
                      case o14 =>
                        intro At yy W hy hb d hd K hK
                        have e6 : yy 6 = .int .i64 (uN U p) := by obtain ⟨_, _, _, _, e⟩ := hd ⟨6, .data⟩ (by simp) rfl rfl; exact e
                        have e8 : yy 8 = .int .i64 x2 := by obtain ⟨_, _, _, _, e⟩ := hd ⟨8, .data⟩ (by simp) rfl rfl; exact e
                        have e13 : yy 13 = .int .i64 (uN U r) := by obtain ⟨_, _, _, _, e⟩ := hd ⟨13, .data⟩ (by simp) rfl rfl; exact e
                        have s155 := (hy 6 _ 155 rfl rfl).trans e6
                        have s155' := s155
                        rw [Array.getD_eq_getD_getElem?] at s155'
                        have s157 := (hy 8 _ 157 rfl rfl).trans e8
                        have s157' := s157
                        rw [Array.getD_eq_getD_getElem?] at s157'
                        have s162 := (hy 13 _ 162 rfl rfl).trans e13
                        have s162' := s162
                        rw [Array.getD_eq_getD_getElem?] at s162'
                        clear hd hy hb
                        go_simp
                        exact hK.out _ W (stp_of hmo d (Below.refl _ _)) (if_pos rfl)
                      case o15 =>
                        intro At yy W hy hb d hd K hK
                        have e14 : yy 14 = .agg #[.int .i64 (uN U p), .int .i64 x2, .int .i64 (uN U r)] := by obtain ⟨_, _, _, _, e⟩ := hd ⟨14, .data⟩ (by simp) rfl rfl; exact e
                        have s163 := (hy 14 _ 163 rfl rfl).trans e14
                        have s163' := s163
                        rw [Array.getD_eq_getD_getElem?] at s163'
                        clear hd hy hb
                        go_simp
                        exact hK.out _ _ (stp_of hmo d ((Below.refl _ _).alloc (Nat.le_refl _) _)) ⟨if_pos rfl, by simp, World.alloc_heap_new _ _⟩
                      case fin =>
                        intro yy lo hi W hM
                        show wpList _ _ _ [_, _, _] _ _
                        have e0 : yy 0 = .pointer (some ⟨bq, 4, none⟩) := hM.fact 0 (by simp) rfl (notR_all 0 rfl)
                        have e1 : yy 1 = .slice y3 R.length z3 := hM.fact 1 (by simp) rfl (notR_all 1 rfl)
                        have e2 : yy 2 = .slice (some ⟨H, 0, none⟩) N N := hM.fact 2 (by simp) rfl (notR_all 2 rfl)
                        have e3 : yy 3 = .pointer (some ⟨eb, 0, none⟩) := hM.fact 3 (by simp) rfl (notR_all 3 rfl)
                        have e4 : yy 4 = .int .i64 (p : Int) := hM.fact 4 (by simp) rfl (notR_all 4 rfl)
                        have e5 : yy 5 = .pointer (some ⟨H, p, none⟩) := hM.fact 5 (by simp) rfl (notR_all 5 rfl)
                        have e6 : yy 6 = .int .i64 (uN U p) := hM.fact 6 (by simp) rfl (notR_all 6 rfl)
                        have e7 : yy 7 = .pointer (some ⟨eb, 1, none⟩) := hM.fact 7 (by simp) rfl (notR_all 7 rfl)
                        have e8 : yy 8 = .int .i64 x2 := hM.fact 8 (by simp) rfl (notR_all 8 rfl)
                        have e9 : yy 9 = .slice (some ⟨H, 0, none⟩) N N := hM.fact 9 (by simp) rfl (notR_all 9 rfl)
                        have e10 : yy 10 = .pointer (some ⟨eb, 2, none⟩) := hM.fact 10 (by simp) rfl (notR_all 10 rfl)
                        have e11 : yy 11 = .int .i64 (r : Int) := hM.fact 11 (by simp) rfl (notR_all 11 rfl)
                        have e12 : yy 12 = .pointer (some ⟨H, r, none⟩) := hM.fact 12 (by simp) rfl (notR_all 12 rfl)
                        have e13 : yy 13 = .int .i64 (uN U r) := hM.fact 13 (by simp) rfl (notR_all 13 rfl)
                        have e14 : yy 14 = .agg #[.int .i64 (uN U p), .int .i64 x2, .int .i64 (uN U r)] := hM.fact 14 (by simp) rfl (notR_all 14 rfl)
                        have DW := hide hM.d
                        have OW := hide (own_below HK.out.2.2.2.1 hM.d)
                        obtain ⟨e15, l15, z15⟩ := hM.fact 15 (by simp) rfl (notR_all 15 rfl)
                        have HN := hide z15
                        simp only [fills, Act.put, List.take, List.length, List.setIfInBounds_toArray, List.set_cons_zero, List.set_cons_succ, e0, e1, e2, e3, e4, e5, e6, e7, e8, e9, e10, e11, e12, e13, e14, e15]
                        clear hM hmo e0 e1 e2 e3 e4 e5 e6 e7 e8 e9 e10 e11 e12 e13 e14 e15 z15 l15
                        generalize lo 15 = pn at HN
                        have zb := HK.out.2.2.2.2.1
                        go_wp2_with (at_builtin; refine wpList_appE rfl _ _ rfl wx.heap.size (.slice y3 R.length z3) R rfl OW.out pn (uN U p, x2, uN U r) rfl HN.out hq we (DW.out.mono HK.out.2.2.2.2.2.size) HK.out.2.2.2.2.2.size ?_; intro v4 w4 HO4 HD4; obtain ⟨y4, z4, hv4⟩ := own_slice HO4.out; rw [List.length_append, List.length_singleton] at hv4; subst hv4; have k4 : w4.cell? ⟨bq, 4, none⟩ = some (.slice y3 R.length z3) := cell_of ((HD4.out.block _ zb).trans HK.out.1) rfl; have f4 : w4.frozen? ⟨bq, 4, none⟩ = false := fz_of ((HD4.out.block _ zb).trans HK.out.1))
                        have J : Hid (PrI wx (w4.setCell ⟨bq, 4, none⟩ (.slice y4 (R.length + 1) z4)) bq k mv (.slice ya (dL U St).length za) (.slice yv (dL U Fi).length zv) (.slice y4 (R.length + 1) z4) (R ++ [(uN U p, x2, uN U r)])) := hide (prI_put HK.out.1 zb HK.out.2.2.2.2.2 HO4.out HD4.out)
                        clear HO4 HD4 k4 f4 zb
                        go_roundw
                        case rel => exact ⟨j + 1, y4, z4, by omega, by go_num, by rw [HT.out, List.length_append, List.length_singleton]; exact J⟩
                        case measure => simp [intOf]; omega
                    · have HT : Hid (dE U (Ed.take (j + 1)) = R) := hide (by rw [HS.out, show U r = false by simpa using hv, Bool.and_false]; rfl)
                      have en : uN U r = -1 := by unfold uN; rw [if_neg hv]
                      have J : Hid (PrI wx we bq k mv (.slice ya (dL U St).length za) (.slice yv (dL U Fi).length zv) (.slice y3 R.length z3) R) := hide ⟨HK.out.1, HK.out.2.2.2.1, HK.out.2.2.2.2.2⟩
                      rw [en] at cr
                      clear HS HK en
                      go_wp2_with fail
                      go_roundw
                      case rel => exact ⟨j + 1, y3, z3, by omega, by go_num, by rw [HT.out]; exact J⟩
                      case measure => simp [intOf]; omega
                  · have HT : Hid (dE U (Ed.take (j + 1)) = R) := hide (by rw [HS.out, show U p = false by simpa using hu, Bool.false_and]; rfl)
                    have en : uN U p = -1 := by unfold uN; rw [if_neg hu]
                    have J : Hid (PrI wx we bq k mv (.slice ya (dL U St).length za) (.slice yv (dL U Fi).length zv) (.slice y3 R.length z3) R) := hide ⟨HK.out.1, HK.out.2.2.2.1, HK.out.2.2.2.2.2⟩
                    rw [en] at cp
                    clear HS HK en
                    go_wp2_with fail
                    go_roundw
                    case rel => exact ⟨j + 1, y3, z3, by omega, by go_num, by rw [HT.out]; exact J⟩
                    case measure => simp [intOf]; omega
                · have l1 : ¬ (j : Int) < (n3 : Int) := by omega
                  have et : Ed.take j = Ed := List.take_of_length_le (by have := HE.out; omega)
                  rw [et] at HY
                  clear et
                  have HX : Hid (wr.heap[bq]? = some (.cells #[.int .i64 (k : Int), .int .i64 mv, .slice ya (dL U St).length za, .slice yv (dL U Fi).length zv, .slice y3 (dE U Ed).length z3] 25 (0, 0)) ∧ OwnL w8.heap.size wr (.slice ya (dL U St).length za) (dL U St) ∧ OwnL w8.heap.size wr (.slice yv (dL U Fi).length zv) (dL U Fi) ∧ wr.ownsRow wx.heap.size 42 3 (.slice y3 (dE U Ed).length z3) (dE U Ed).length ((dE U Ed).flatMap encE) ∧ wr.ownsRow w8.heap.size 3 1 (.slice y k z) k ((natL (uL U N)).map (Value.int .i64)) ∧ Below w.heap.size w wr ∧ wr.heap[w.heap.size + 1]? = some (.cells #[.int .i64 0, .int .i64 0, .slice none 0 0, .slice none 0 0, .slice none 0 0] 25 (0, 0)) ∧ w.heap.size + 2 ≤ w8.heap.size ∧ w8.heap.size ≤ wr.heap.size) := hide (by
                    have s1 := HS1.out
                    have s3 := H8.out.1.lt
                    have s4 := H8.out.2.2.2.2.1
                    have s5 := HY.out.only.size
                    refine ⟨HY.out.box, owns_down (row_only s1.2.2.2.2.1 HY.out.only (fun x hx e => by subst e; exact own_bq HZwx.out.1 s1.2.2.2.2.1 hx)) (by omega), owns_down (row_only s1.2.2.2.2.2.1 HY.out.only (fun x hx e => by subst e; exact own_bq HZwx.out.1 s1.2.2.2.2.2.1 hx)) (by omega), HY.out.row, row_only HZwx.out.2.2.2.2.2.1 HY.out.only (fun x hx e => by subst e; exact own_bq HZwx.out.1 HZwx.out.2.2.2.2.2.1 hx), HDr.out, (HY.out.only.block _ (Array.getElem?_eq_some_iff.1 HZwx.out.2.2.2.1).1 (by omega)).trans HZwx.out.2.2.2.1, by omega, by omega⟩)
                  have hG := HG.out wr HDr.out
                  have TI := inorder_any wr k mv (dL U St) (dL U Fi) (dE U Ed) ya yv y3 za zv z3 (hide (by
                    obtain ⟨_, _, e1, b1⟩ := la_own HX.out.2.1
                    cases e1
                    obtain ⟨_, _, e2, b2⟩ := la_own HX.out.2.2.1
                    cases e2
                    exact ⟨b1, b2, own_rdE HX.out.2.2.2.1⟩)) (hide (by
                    have q1 := dL_in (U := U) hG.ins
                    have q2 := dL_in (U := U) hG.inf
                    rw [HKL.out] at q1 q2
                    exact ⟨q1, q2⟩)) (by omega) (Nat.le_trans (dL_len U St) hG.ls) (Nat.le_trans (dL_len U Fi) hG.lf) (Nat.le_trans (dE_len U Ed) (by have := hG.le; omega))
                  have B0 := HX.out.1
                  have q0 : wr.cell? ⟨bq, 0, none⟩ = some (.int .i64 (k : Int)) := cell_of B0 rfl
                  have q1 : wr.cell? ⟨bq, 1, none⟩ = some (.int .i64 mv) := cell_of B0 rfl
                  have q2 : wr.cell? ⟨bq, 2, none⟩ = some (.slice ya (dL U St).length za) := cell_of B0 rfl
                  have q3 : wr.cell? ⟨bq, 3, none⟩ = some (.slice yv (dL U Fi).length zv) := cell_of B0 rfl
                  have q4 : wr.cell? ⟨bq, 4, none⟩ = some (.slice y3 (dE U Ed).length z3) := cell_of B0 rfl
                  clear B0 hG HY HF HS1 HDr
                  go_wp2_with fail
                  refine TI.mono ?_
                  rintro e w9 ⟨p1, p2, p3, t1, t2, t3, rfl, R1, R2, R3, d9⟩
                  have H9 : Hid (OwnL wr.heap.size w9 (.slice p1 (riseL (dL U St)).length t1) (riseL (dL U St)) ∧ OwnL wr.heap.size w9 (.slice p2 (riseL (dL U Fi)).length t2) (riseL (dL U Fi)) ∧ w9.ownsRow wr.heap.size 42 3 (.slice p3 (riseE (dE U Ed)).length t3) (riseE (dE U Ed)).length ((riseE (dE U Ed)).flatMap encE) ∧ w9.ownsRow w8.heap.size 3 1 (.slice y k z) k ((natL (uL U N)).map (Value.int .i64)) ∧ Below w.heap.size w w9 ∧ w9.heap[w.heap.size + 1]? = some (.cells #[.int .i64 0, .int .i64 0, .slice none 0 0, .slice none 0 0, .slice none 0 0] 25 (0, 0))) := hide ⟨R1, R2, R3, own_below HX.out.2.2.2.2.1 d9, HX.out.2.2.2.2.2.1.trans (d9.mono HX.out.2.2.2.2.2.1.size), blk_on HX.out.2.2.2.2.2.2.1 d9⟩
                  clear R1 R2 R3 d9 TI q0 q1 q2 q3 q4
                  have F3 := H9.out.2.2.2.2.2
                  have zc0 : w9.cell? ⟨w.heap.size + 1, 0, none⟩ = some (.int .i64 0) := cell_of F3 rfl
                  have fz0 : w9.frozen? ⟨w.heap.size + 1, 0, none⟩ = false := fz_of F3
                  have zc1 : w9.cell? ⟨w.heap.size + 1, 1, none⟩ = some (.int .i64 0) := cell_of F3 rfl
                  have fz1 : w9.frozen? ⟨w.heap.size + 1, 1, none⟩ = false := fz_of F3
                  have zc2 : w9.cell? ⟨w.heap.size + 1, 2, none⟩ = some (.slice none 0 0) := cell_of F3 rfl
                  have fz2 : w9.frozen? ⟨w.heap.size + 1, 2, none⟩ = false := fz_of F3
                  have zc3 : w9.cell? ⟨w.heap.size + 1, 3, none⟩ = some (.slice none 0 0) := cell_of F3 rfl
                  have fz3 : w9.frozen? ⟨w.heap.size + 1, 3, none⟩ = false := fz_of F3
                  have zc4 : w9.cell? ⟨w.heap.size + 1, 4, none⟩ = some (.slice none 0 0) := cell_of F3 rfl
                  have fz4 : w9.frozen? ⟨w.heap.size + 1, 4, none⟩ = false := fz_of F3
                  have O6 := hide (And.intro (set5 w9 (w.heap.size + 1) _ _ _ _ _ (.int .i64 (k : Int)) (.int .i64 mv) (.slice p1 (riseL (dL U St)).length t1) (.slice p2 (riseL (dL U Fi)).length t2) (.slice p3 (riseE (dE U Ed)).length t3) 25 F3) (only5 w9 (w.heap.size + 1) (.int .i64 (k : Int)) (.int .i64 mv) (.slice p1 (riseL (dL U St)).length t1) (.slice p2 (riseL (dL U Fi)).length t2) (.slice p3 (riseE (dE U Ed)).length t3)))
                  clear F3
                  go_wp2_with fail
                  refine bodyPost_ret (results_c2 (p := 2) (q := 3) (r := 4) (ty := 25) rfl _ _ (w.heap.size + 1) 25 _ (0, 0) _ _ _ rfl rfl rfl O6.out.1 Tryz.underlying25 rfl (by kernel_rfl)) rfl ?_
                  have oo := O6.out.2
                  have s6 := HX.out.2.2.2.2.2.2.2
                  obtain ⟨o1, o2, o3, o4, dd, _⟩ := H9.out
                  have hkl : (natL (uL U N)).length = k := by rw [natL_len, HKL.out]
                  refine HP.out _ _ ⟨U, fun q hq => by rw [HUM.out q]; exact HU.out q hq, (.slice p1 (riseL (dL U St)).length t1), (.slice p2 (riseL (dL U Fi)).length t2), (.slice p3 (riseE (dE U Ed)).length t3), .slice y k z, by rw [HKL.out]; rfl, owns_down (row_only o1 oo (fun x hx e => by have := (o1.lt x hx).1; omega)) (by omega), owns_down (row_only o2 oo (fun x hx e => by have := (o2.lt x hx).1; omega)) (by omega), owns_down (row_only o3 oo (fun x hx e => by have := (o3.lt x hx).1; omega)) (by omega), ?_, dd.trans (oo.toBelow dd.size (fun x hx => by omega))⟩
                  unfold OwnL
                  rw [hkl]
                  exact owns_down (row_only o4 oo (fun x hx e => by have := (o4.lt x hx).1; omega)) (by omega)
end Go.Proofs.YtojnlpicgemlaaaGreatDoor
