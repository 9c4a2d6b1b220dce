import Derived.Test.YtmagchclmmphaabGreatDoorPP
namespace Go.Proofs.YtmagchclmmphaabGreatDoor
open Go.RowKit Go.Maps

/-! ### Rows that are owned, read -/
theorem flat_get {α : Type} (cs : α → List Value) (sz : Nat) (hl : ∀ a, (cs a).length = sz) : ∀ (l : List α) (j i : Nat) (hj : j < l.length), i < sz → (l.flatMap cs)[j * sz + i]? = (cs l[j])[i]?
  | a :: l, 0, i, _, hi => by
    rw [Nat.zero_mul, Nat.zero_add, List.flatMap_cons, List.getElem?_append_left (by rw [hl]; exact hi)]; rfl
  | a :: l, j + 1, i, hj, hi => by
    rw [List.flatMap_cons, List.getElem?_append_right (by rw [hl, Nat.succ_mul]; omega), hl, show (j + 1) * sz + i - sz = j * sz + i by rw [Nat.succ_mul]; omega]
    exact flat_get cs sz hl l j i (by simpa using hj) hi
theorem row_len {w : World} {B e sz n : Nat} {v : Value} {xs : List Value} (h : w.ownsRow B e sz v n xs) : ∃ ao cap, v = .slice ao n cap ∧ ∀ i u, xs[i]? = some u → ∃ g, ao = some ⟨g, 0, none⟩ ∧ w.cell? ⟨g, i, none⟩ = some u := by
  have hl := h.1
  rcases h.2 with ⟨e1, e2⟩ | ⟨g, cap, cur, e1, _⟩
  · subst e2
    refine ⟨none, 0, e1, fun i u hu => ?_⟩
    rw [Nat.zero_mul] at hl
    rw [List.eq_nil_of_length_eq_zero hl] at hu
    simp at hu
  · subst e1
    refine ⟨_, cap, rfl, fun i u hu => ⟨g, rfl, ?_⟩⟩
    have hi : i < xs.length := by
      rcases Nat.lt_or_ge i xs.length with q | q
      · exact q
      · rw [List.getElem?_eq_none q] at hu; cases hu
    rw [h.cellAt i (by rw [hl] at hi; exact hi), hu]
def opOI (x : OpT) : OpI := (x.1, (x.2 : Nat))
theorem rdO_of {w : World} {B : Nat} {v : Value} {O : List OpT} (h : w.ownsRow B 66 2 v O.length (O.flatMap kOps.cs)) : ∃ ao cap, v = .slice ao O.length cap ∧ RdO w ao (O.map opOI) := by
  obtain ⟨ao, cap, e, k⟩ := row_len h
  refine ⟨ao, cap, e, fun j hj => ?_⟩
  have hj' : j < O.length := by simpa using hj
  have q0 := flat_get kOps.cs 2 (fun _ => rfl) O j 0 hj' (by omega)
  have q1 := flat_get kOps.cs 2 (fun _ => rfl) O j 1 hj' (by omega)
  obtain ⟨g, e0, c0⟩ := k _ (.string O[j].1) (by rw [q0]; rfl)
  obtain ⟨g', e1, c1⟩ := k _ (.int .i64 (O[j].2 : Nat)) (by rw [q1]; rfl)
  rw [e0] at e1; cases e1
  refine ⟨g, 0, e0, ?_, ?_⟩
  · rw [Nat.zero_add]; simpa [opOI] using c0
  · rw [Nat.zero_add]; simpa [opOI] using c1
theorem rdR_of {w : World} {B : Nat} {v : Value} {R : List RuT} (h : w.ownsRow B 68 3 v R.length (R.flatMap kRules.cs)) : ∃ ao cap, v = .slice ao R.length cap ∧ RdRu w ao R := by
  obtain ⟨ao, cap, e, k⟩ := row_len h
  refine ⟨ao, cap, e, fun j hj => ?_⟩
  have q0 := flat_get kRules.cs 3 (fun _ => rfl) R j 0 hj (by omega)
  have q1 := flat_get kRules.cs 3 (fun _ => rfl) R j 1 hj (by omega)
  have q2 := flat_get kRules.cs 3 (fun _ => rfl) R j 2 hj (by omega)
  obtain ⟨g, e0, c0⟩ := k _ (.string R[j].1) (by rw [q0]; rfl)
  obtain ⟨g', e1, c1⟩ := k _ (.string R[j].2.1) (by rw [q1]; rfl)
  obtain ⟨g'', e2, c2⟩ := k _ (.string R[j].2.2) (by rw [q2]; rfl)
  rw [e0] at e1 e2; cases e1; cases e2
  exact ⟨g, 0, e0, by rw [Nat.zero_add]; simpa using c0, by rw [Nat.zero_add]; exact c1, by rw [Nat.zero_add]; exact c2⟩
theorem rdS_of {w : World} {B : Nat} {v : Value} {S : List ByteArray} (h : w.ownsRow B 9 1 v S.length (strV S)) : ∃ ao cap, v = .slice ao S.length cap ∧ ReadsS w ao S := by
  obtain ⟨ao, cap, e, k⟩ := row_len h
  refine ⟨ao, cap, e, fun j hj => ?_⟩
  obtain ⟨g, e0, c0⟩ := k j (.string S[j]) (by simp [strV, hj])
  exact ⟨g, 0, e0, by rw [Nat.zero_add]; exact c0⟩

/-! ### The shortest file -/
def leastB : ByteArray := ⟨#[79, 112, 115, 32, 97, 58, 49, 10, 65, 117, 116, 111, 109, 97, 116, 111, 110, 32, 65, 10, 83, 116, 97, 116, 101, 115, 32, 113, 10, 70, 105, 110, 97, 108, 32, 83, 116, 97, 116, 101, 115, 32, 113, 10, 84, 114, 97, 110, 115, 105, 116, 105, 111, 110, 115, 10, 97, 40, 113, 41, 32, 45, 62, 32, 113]⟩
def twoB : ByteArray := ⟨#[79, 112, 115, 32, 97, 58, 50]⟩
theorem least_err : errF leastB = 0 := by decide +kernel
theorem two_err : errF twoB = 30 ∧ lenF twoB = 6 := by decide +kernel
theorem least_lines : lines leastB = [⟨#[79, 112, 115, 32, 97, 58, 49]⟩, ⟨#[65, 117, 116, 111, 109, 97, 116, 111, 110, 32, 65]⟩, ⟨#[83, 116, 97, 116, 101, 115, 32, 113]⟩, ⟨#[70, 105, 110, 97, 108, 32, 83, 116, 97, 116, 101, 115, 32, 113]⟩, ⟨#[84, 114, 97, 110, 115, 105, 116, 105, 111, 110, 115]⟩, ⟨#[97, 40, 113, 41, 32, 45, 62, 32, 113]⟩] := by decide +kernel
theorem least_cont : (contF leastB).ti = ⟨#[65]⟩ ∧ (contF leastB).O = [(⟨#[97]⟩, 1)] ∧ (contF leastB).S = [⟨#[113]⟩] ∧ (contF leastB).N = [0] ∧ (contF leastB).R = [(⟨#[97]⟩, ⟨#[113]⟩, ⟨#[113]⟩)] := by decide +kernel
theorem least_fin : namesAt (finN (contF leastB)) (contF leastB).S = [⟨#[113]⟩] := by
  have h : finN (contF leastB) = [0] := by
    unfold finN riseL
    rw [least_cont.2.2.2.1]
    show List.map Int.toNat (Lib.compact (List.mergeSort [(0 : Int)] _)) = [0]
    rw [List.mergeSort_singleton]
    decide
  rw [h, least_cont.2.2.1]
  rfl
theorem least_val : valF ⟨#[65]⟩ [(⟨#[97]⟩, 1)] [⟨#[113]⟩] [⟨#[113]⟩] [(⟨#[97]⟩, ⟨#[113]⟩, ⟨#[113]⟩)] = true := by decide +kernel
def leastL : ByteArray := leastB ++ ⟨#[10]⟩
theorem leastL_list : leastL.toList = leastB.data.toList ++ [10] := by
  rw [ByteArray.toList_eq]
  decide +kernel
theorem least_text : writeT ⟨#[65]⟩ [(⟨#[97]⟩, 1)] [⟨#[113]⟩] [⟨#[113]⟩] [(⟨#[97]⟩, ⟨#[113]⟩, ⟨#[113]⟩)] = leastL := by decide +kernel

theorem least_parse (w : World) (hT : Hid (RowsAt w ∧ BytesAt w ∧ 1 < w.heap.size)) :
    Calls Tryz.prog 13 #[.string leastB] w fun e w' => ∃ ao co asx cs an cn ar cr, e = .returned (.tuple #[.agg #[.string ⟨#[65]⟩, .slice ao 1 co, .slice asx 1 cs, .slice an 1 cn, .slice ar 1 cr], .agg #[.int .i64 0, .int .i64 0]]) ∧ RdO w' ao [(⟨#[97]⟩, 1)] ∧ ReadsS w' asx [⟨#[113]⟩] ∧ ReadsS w' an [⟨#[113]⟩] ∧ RdRu w' ar [(⟨#[97]⟩, ⟨#[113]⟩, ⟨#[113]⟩)] ∧ Below w.heap.size w w' := by
  refine (parse_ok leastB w hT (by decide) least_err).mono ?_
  rintro e w1 ⟨vo, vs, vn, vr, rfl, ro, rs, rn, rr, rd, d1⟩
  have hf : (finN (contF leastB)).length = (namesAt (finN (contF leastB)) (contF leastB).S).length := by simp [namesAt]
  rw [hf, least_fin] at rn
  rw [least_cont.2.1] at ro
  rw [text_cells, least_cont.2.2.1] at rs
  rw [least_cont.2.2.2.2] at rr
  obtain ⟨ao, co, rfl, qo⟩ := rdO_of ro
  obtain ⟨asx, cs, rfl, qs⟩ := rdS_of rs
  obtain ⟨an, cn, rfl, qn⟩ := rdS_of rn
  obtain ⟨ar, cr, rfl, qr⟩ := rdR_of rr
  rw [least_cont.1]
  exact ⟨ao, co, asx, cs, an, cn, ar, cr, rfl, qo, qs, qn, qr, d1⟩

/-! ### Two new cells, a file's and a problem's -/
def two31 (w : World) : World := (w.alloc (.cells #[.string ⟨#[]⟩, .slice none 0 0, .slice none 0 0, .slice none 0 0, .slice none 0 0] 32)).alloc (.cells #[.int .i64 0, .int .i64 0] 43)
theorem two31_rows (w : World) : (two31 w).heap[w.heap.size]? = some (.cells #[.string ⟨#[]⟩, .slice none 0 0, .slice none 0 0, .slice none 0 0, .slice none 0 0] 32 (0, 0)) ∧ (two31 w).heap[w.heap.size + 1]? = some (.cells #[.int .i64 0, .int .i64 0] 43 (0, 0)) ∧ Below w.heap.size w (two31 w) ∧ (two31 w).heap.size = w.heap.size + 2 := by
  exact ⟨(Below.heap_alloc _ _ _ (by simp)).trans (World.alloc_heap_new _ _), heap_alloc2_new w _ _, ((Below.refl _ _).alloc (Nat.le_refl _) _).alloc (by simp) _, by simp [two31]⟩
theorem fz_of {W : World} {b j : Nat} {c : Array Value} {t : TypeId} (h : W.heap[b]? = some (.cells c t (0, 0))) : W.frozen? ⟨b, j, none⟩ = false := by simp [World.frozen?, h]
theorem two31_cells (w : World) : ((two31 w).cell? ⟨w.heap.size, 0, none⟩ = some (.string ⟨#[]⟩) ∧ (two31 w).cell? ⟨w.heap.size, 1, none⟩ = some (.slice none 0 0) ∧ (two31 w).cell? ⟨w.heap.size, 2, none⟩ = some (.slice none 0 0) ∧ (two31 w).cell? ⟨w.heap.size, 3, none⟩ = some (.slice none 0 0) ∧ (two31 w).cell? ⟨w.heap.size, 4, none⟩ = some (.slice none 0 0)) ∧
    ((two31 w).cell? ⟨w.heap.size + 1, 0, none⟩ = some (.int .i64 0) ∧ (two31 w).cell? ⟨w.heap.size + 1, 1, none⟩ = some (.int .i64 0)) ∧
    ((two31 w).frozen? ⟨w.heap.size, 0, none⟩ = false ∧ (two31 w).frozen? ⟨w.heap.size, 1, none⟩ = false ∧ (two31 w).frozen? ⟨w.heap.size, 2, none⟩ = false ∧ (two31 w).frozen? ⟨w.heap.size, 3, none⟩ = false ∧ (two31 w).frozen? ⟨w.heap.size, 4, none⟩ = false) ∧
    ((two31 w).frozen? ⟨w.heap.size + 1, 0, none⟩ = false ∧ (two31 w).frozen? ⟨w.heap.size + 1, 1, none⟩ = false) := by
  obtain ⟨h0, h1, _, _⟩ := two31_rows w
  exact ⟨⟨cell_of h0 rfl, cell_of h0 rfl, cell_of h0 rfl, cell_of h0 rfl, cell_of h0 rfl⟩, ⟨cell_of h1 rfl, cell_of h1 rfl⟩, ⟨fz_of h0, fz_of h0, fz_of h0, fz_of h0, fz_of h0⟩, fz_of h1, fz_of h1⟩
theorem two31_set (w : World) (v0 v1 v2 v3 v4 u0 u1 : Value) :
    let W := (((((((two31 w).setCell ⟨w.heap.size, 0, none⟩ v0).setCell ⟨w.heap.size, 1, none⟩ v1).setCell ⟨w.heap.size, 2, none⟩ v2).setCell ⟨w.heap.size, 3, none⟩ v3).setCell ⟨w.heap.size, 4, none⟩ v4).setCell ⟨w.heap.size + 1, 0, none⟩ u0).setCell ⟨w.heap.size + 1, 1, none⟩ u1
    W.heap[w.heap.size]? = some (.cells #[v0, v1, v2, v3, v4] 32 (0, 0)) ∧ W.heap[w.heap.size + 1]? = some (.cells #[u0, u1] 43 (0, 0)) ∧ Below w.heap.size w W ∧ w.heap.size + 2 ≤ W.heap.size := by
  obtain ⟨h0, h1, d, z⟩ := two31_rows w
  have q := set57 (two31 w) w.heap.size v0 v1 v2 v3 v4 u0 u1 _ _ _ _ _ _ _ h0 h1
  exact ⟨q.1, q.2.1, d.trans (q.2.2.toBelow (by omega) (fun k hk => by omega)), by have := q.2.2.size; omega⟩

attribute [local go_sem] Oper.semAt_some
set_option maxRecDepth 100000 in
set_option maxHeartbeats 4000000 in
theorem least_any (w : World) (hT : Hid (RowsAt w ∧ BytesAt w ∧ 1 < w.heap.size)) :
    Calls Tryz.prog 11 #[] w fun e w' => e = .returned (.bool true) ∧ Below w.heap.size w w' := by
  go_enter Tryz.func11, Tryz.ntmps11
  go_wp2_with fail
  refine (show Calls Tryz.prog 13 #[.string leastB] w _ from least_parse w hT).mono ?_
  rintro e w1 ⟨ao, co, asx, cs, an, cn, ar, cr, rfl, qo, qs, qn, qr, d1⟩
  have hz : (w1.alloc (.cells #[.string ⟨#[]⟩, .slice none 0 0, .slice none 0 0, .slice none 0 0, .slice none 0 0] 32)).alloc (.cells #[.int .i64 0, .int .i64 0] 43) = two31 w1 := rfl
  obtain ⟨⟨o0, o1, o2, o3, o4⟩, ⟨p0, p1⟩, ⟨f0, f1, f2, f3, f4⟩, g0, g1⟩ := two31_cells w1
  have HS := hide (two31_set w1 (.string ⟨#[65]⟩) (.slice ao 1 co) (.slice asx 1 cs) (.slice an 1 cn) (.slice ar 1 cr) (.int .i64 0) (.int .i64 0))
  have HD1 := hide d1
  have HQ := hide (And.intro qo (And.intro qs (And.intro qn qr)))
  clear qo qs qn qr d1
  go_wp2_with fail
  obtain ⟨W3, hW3⟩ : ∃ W3, (((((((two31 w1).setCell ⟨w1.heap.size, 0, none⟩ (.string ⟨#[65]⟩)).setCell ⟨w1.heap.size, 1, none⟩ (.slice ao 1 co)).setCell ⟨w1.heap.size, 2, none⟩ (.slice asx 1 cs)).setCell ⟨w1.heap.size, 3, none⟩ (.slice an 1 cn)).setCell ⟨w1.heap.size, 4, none⟩ (.slice ar 1 cr)).setCell ⟨w1.heap.size + 1, 0, none⟩ (.int .i64 0)).setCell ⟨w1.heap.size + 1, 1, none⟩ (.int .i64 0) = W3 := ⟨_, rfl⟩
  rw [hW3]
  have HS3 : Hid (W3.heap[w1.heap.size]? = some (.cells #[.string ⟨#[65]⟩, .slice ao 1 co, .slice asx 1 cs, .slice an 1 cn, .slice ar 1 cr] 32 (0, 0)) ∧ W3.heap[w1.heap.size + 1]? = some (.cells #[.int .i64 0, .int .i64 0] 43 (0, 0)) ∧ Below w1.heap.size w1 W3 ∧ w1.heap.size + 2 ≤ W3.heap.size) := hide (by rw [← hW3]; exact HS.out)
  have HD3 := hide (HD1.out.trans (HS3.out.2.2.1.mono HD1.out.size))
  clear HS hW3 hz o0 o1 o2 o3 o4 p0 p1 f0 f1 f2 f3 f4 g0 g1
  have P2 := parse_bad twoB W3 (hide ⟨hT.out.1.below HD3.out (by have := hT.out.2.2; omega), Nat.lt_of_lt_of_le (by have := hT.out.2.2; omega) HD3.out.size⟩) (by decide) two_err.1
  rw [two_err.2] at P2
  refine (show Calls Tryz.prog 13 #[.string twoB] W3 _ from P2).mono ?_
  rintro e w4 ⟨rfl, d4⟩
  have HD4 := hide d4
  clear d4 P2
  have hz : (w4.alloc (.cells #[.string ⟨#[]⟩, .slice none 0 0, .slice none 0 0, .slice none 0 0, .slice none 0 0] 32)).alloc (.cells #[.int .i64 0, .int .i64 0] 43) = two31 w4 := rfl
  obtain ⟨⟨o0, o1, o2, o3, o4⟩, ⟨p0, p1⟩, ⟨f0, f1, f2, f3, f4⟩, g0, g1⟩ := two31_cells w4
  have HS := hide (two31_set w4 (.string ⟨#[]⟩) (.slice none 0 0) (.slice none 0 0) (.slice none 0 0) (.slice none 0 0) (.int .i64 30) (.int .i64 6))
  have k0 : ∀ (j : Nat) (v : Value), #[Value.string ⟨#[65]⟩, .slice ao 1 co, .slice asx 1 cs, .slice an 1 cn, .slice ar 1 cr][j]? = some v → ∀ W, Below w4.heap.size w4 W → W.cell? ⟨w1.heap.size, j, none⟩ = some v := fun j v hv W d =>
    cell_of ((d.block _ (by have := HS3.out.2.2.2; have := HD4.out.size; omega)).trans ((HD4.out.block _ (by have := HS3.out.2.2.2; omega)).trans HS3.out.1)) hv
  have k1 : ∀ W, Below w4.heap.size w4 W → W.cell? ⟨w1.heap.size + 1, 0, none⟩ = some (.int .i64 0) := fun W d =>
    cell_of ((d.block _ (by have := HS3.out.2.2.2; have := HD4.out.size; omega)).trans ((HD4.out.block _ (by have := HS3.out.2.2.2; omega)).trans HS3.out.2.1)) rfl
  have HK := hide (And.intro k0 k1)
  have d2 := (two31_rows w4).2.2.1
  have c0 := k0 0 _ rfl _ d2
  have c1 := k0 1 _ rfl _ d2
  have c2 := k0 2 _ rfl _ d2
  have c3 := k0 3 _ rfl _ d2
  have c4 := k0 4 _ rfl _ d2
  have n1 : w1.heap.size ≠ w4.heap.size := by have := HS3.out.2.2.2; have := HD4.out.size; omega
  have n2 : w1.heap.size ≠ w4.heap.size + 1 := by have := HS3.out.2.2.2; have := HD4.out.size; omega
  clear k0 k1 d2
  go_wp2_with (fail)
  obtain ⟨W5, hW5⟩ : ∃ W5, (((((((two31 w4).setCell ⟨w4.heap.size, 0, none⟩ (.string ⟨#[]⟩)).setCell ⟨w4.heap.size, 1, none⟩ (.slice none 0 0)).setCell ⟨w4.heap.size, 2, none⟩ (.slice none 0 0)).setCell ⟨w4.heap.size, 3, none⟩ (.slice none 0 0)).setCell ⟨w4.heap.size, 4, none⟩ (.slice none 0 0)).setCell ⟨w4.heap.size + 1, 0, none⟩ (.int .i64 30)).setCell ⟨w4.heap.size + 1, 1, none⟩ (.int .i64 6) = W5 := ⟨_, rfl⟩
  rw [hW5]
  have HS5 : Hid (W5.heap[w4.heap.size + 1]? = some (.cells #[.int .i64 30, .int .i64 6] 43 (0, 0)) ∧ Below w4.heap.size w4 W5 ∧ w4.heap.size + 2 ≤ W5.heap.size) := hide (by rw [← hW5]; exact HS.out.2)
  clear HS hW5 hz o0 o1 o2 o3 o4 p0 p1 f0 f1 f2 f3 f4 g0 g1 c0 c1 c2 c3 c4 n1 n2
  have D15 := hide ((HS3.out.2.2.1.trans (HD4.out.mono (by have := HS3.out.2.2.2; omega))).trans (HS5.out.2.1.mono (by have := HS3.out.2.2.2; have := HD4.out.size; omega)))
  have DW5 := hide (HD1.out.trans (D15.out.mono HD1.out.size))
  have P3 := print_any W5 ⟨#[65]⟩ ao asx an ar co cs cn cr [(⟨#[97]⟩, 1)] [⟨#[113]⟩] [⟨#[113]⟩] [(⟨#[97]⟩, ⟨#[113]⟩, ⟨#[113]⟩)] (hide ⟨hT.out.2.1.below DW5.out hT.out.2.2, Nat.lt_of_lt_of_le hT.out.2.2 DW5.out.size⟩) (hide (HQ.out.1.on D15.out)) (hide (HQ.out.2.1.below D15.out)) (hide (HQ.out.2.2.1.below D15.out)) (hide (HQ.out.2.2.2.on D15.out))
    (hide ⟨fun x hx => by obtain rfl := List.mem_singleton.1 hx; exact (by decide : (⟨#[113]⟩ : ByteArray).size ≤ 1048576), fun x hx => by obtain rfl := List.mem_singleton.1 hx; exact ⟨by decide, by decide, by decide⟩⟩) (by decide) (by decide) (by decide) (by decide)
  simp only [least_val, if_true, show List.map opN [((⟨#[97]⟩ : ByteArray), (1 : Int))] = [((⟨#[97]⟩ : ByteArray), 1)] from rfl, least_text] at P3
  refine P3.mono ?_
  rintro e w6 ⟨rfl, d6⟩
  have D46 := hide (HS5.out.2.1.trans (d6.mono (by have := HS5.out.2.2; omega)))
  have c4 := HK.out.1 4 _ rfl w6 D46.out
  have p0 := HK.out.2 w6 D46.out
  have q0 : w6.cell? ⟨w4.heap.size + 1, 0, none⟩ = some (.int .i64 30) := cell_of ((d6.block _ (by have := HS5.out.2.2; omega)).trans HS5.out.1) rfl
  have q1 : w6.cell? ⟨w4.heap.size + 1, 1, none⟩ = some (.int .i64 6) := cell_of ((d6.block _ (by have := HS5.out.2.2; omega)).trans HS5.out.1) rfl
  have HE := hide (DW5.out.trans (d6.mono DW5.out.size))
  clear P3 d6
  go_wp2_with (fail)
  go_ret
  exact ⟨congrArg (fun b => Ending.returned (Value.bool b)) (by rw [leastL_list]; decide +kernel), HE.out⟩
end Go.Proofs.YtmagchclmmphaabGreatDoor
