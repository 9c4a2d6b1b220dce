import Derived.Test.YtmagchclmmphaabGreatDoorPP
namespace Go.Proofs.YtmagchclmmphaabGreatDoor
open Go.RowKit Go.Maps

/-! ### Rows that are owned, read -/
theorem flat_get {α : Type} (cs : α → List Value) (sz : Nat) (hl : ∀ a, (cs a).length = sz) : ∀ (l : List α) (j i : Nat) (hj : j < l.length), i < sz → (l.flatMap cs)[j * sz + i]? = (cs l[j])[i]?
  | a :: l, 0, i, _, hi => by
    rw [Nat.zero_mul, Nat.zero_add, List.flatMap_cons, List.getElem?_append_left (by rw [hl]; exact hi)]; rfl
  | a :: l, j + 1, i, hj, hi => by
    rw [List.flatMap_cons, List.getElem?_append_right (by rw [hl, Nat.succ_mul]; omega), hl, show (j + 1) * sz + i - sz = j * sz + i by rw [Nat.succ_mul]; omega]
    exact flat_get cs sz hl l j i (by simpa using hj) hi
theorem row_len {w : World} {B e sz n : Nat} {v : Value} {xs : List Value} (h : w.ownsRow B e sz v n xs) : ∃ ao cap, v = .slice ao n cap ∧ ∀ i u, xs[i]? = some u → ∃ g, ao = some ⟨g, 0, none⟩ ∧ w.cell? ⟨g, i, none⟩ = some u := by
  have hl := h.1
  rcases h.2 with ⟨e1, e2⟩ | ⟨g, cap, cur, e1, _⟩
  · subst e2
    refine ⟨none, 0, e1, fun i u hu => ?_⟩
    rw [Nat.zero_mul] at hl
    rw [List.eq_nil_of_length_eq_zero hl] at hu
    simp at hu
  · subst e1
    refine ⟨_, cap, rfl, fun i u hu => ⟨g, rfl, ?_⟩⟩
    have hi : i < xs.length := by
      rcases Nat.lt_or_ge i xs.length with q | q
      · exact q
      · rw [List.getElem?_eq_none q] at hu; cases hu
    rw [h.cellAt i (by rw [hl] at hi; exact hi), hu]
def opOI (x : OpT) : OpI := (x.1, (x.2 : Nat))
theorem rdO_of {w : World} {B : Nat} {v : Value} {O : List OpT} (h : w.ownsRow B 66 2 v O.length (O.flatMap kOps.cs)) : ∃ ao cap, v = .slice ao O.length cap ∧ RdO w ao (O.map opOI) := by
  obtain ⟨ao, cap, e, k⟩ := row_len h
  refine ⟨ao, cap, e, fun j hj => ?_⟩
  have hj' : j < O.length := by simpa using hj
  have q0 := flat_get kOps.cs 2 (fun _ => rfl) O j 0 hj' (by omega)
  have q1 := flat_get kOps.cs 2 (fun _ => rfl) O j 1 hj' (by omega)
  obtain ⟨g, e0, c0⟩ := k _ (.string O[j].1) (by rw [q0]; rfl)
  obtain ⟨g', e1, c1⟩ := k _ (.int .i64 (O[j].2 : Nat)) (by rw [q1]; rfl)
  rw [e0] at e1; cases e1
  refine ⟨g, 0, e0, ?_, ?_⟩
  · rw [Nat.zero_add]; simpa [opOI] using c0
  · rw [Nat.zero_add]; simpa [opOI] using c1
theorem rdR_of {w : World} {B : Nat} {v : Value} {R : List RuT} (h : w.ownsRow B 68 3 v R.length (R.flatMap kRules.cs)) : ∃ ao cap, v = .slice ao R.length cap ∧ RdRu w ao R := by
  obtain ⟨ao, cap, e, k⟩ := row_len h
  refine ⟨ao, cap, e, fun j hj => ?_⟩
  have q0 := flat_get kRules.cs 3 (fun _ => rfl) R j 0 hj (by omega)
  have q1 := flat_get kRules.cs 3 (fun _ => rfl) R j 1 hj (by omega)
  have q2 := flat_get kRules.cs 3 (fun _ => rfl) R j 2 hj (by omega)
  obtain ⟨g, e0, c0⟩ := k _ (.string R[j].1) (by rw [q0]; rfl)
  obtain ⟨g', e1, c1⟩ := k _ (.string R[j].2.1) (by rw [q1]; rfl)
  obtain ⟨g'', e2, c2⟩ := k _ (.string R[j].2.2) (by rw [q2]; rfl)
  rw [e0] at e1 e2; cases e1; cases e2
  exact ⟨g, 0, e0, by rw [Nat.zero_add]; simpa using c0, by rw [Nat.zero_add]; exact c1, by rw [Nat.zero_add]; exact c2⟩
theorem rdS_of {w : World} {B : Nat} {v : Value} {S : List ByteArray} (h : w.ownsRow B 9 1 v S.length (strV S)) : ∃ ao cap, v = .slice ao S.length cap ∧ ReadsS w ao S := by
  obtain ⟨ao, cap, e, k⟩ := row_len h
  refine ⟨ao, cap, e, fun j hj => ?_⟩
  obtain ⟨g, e0, c0⟩ := k j (.string S[j]) (by simp [strV, hj])
  exact ⟨g, 0, e0, by rw [Nat.zero_add]; exact c0⟩

/-! ### The shortest file -/
def leastB : ByteArray := ⟨#[79, 112, 115, 32, 97, 58, 49, 10, 65, 117, 116, 111, 109, 97, 116, 111, 110, 32, 65, 10, 83, 116, 97, 116, 101, 115, 32, 113, 10, 70, 105, 110, 97, 108, 32, 83, 116, 97, 116, 101, 115, 32, 113, 10, 84, 114, 97, 110, 115, 105, 116, 105, 111, 110, 115, 10, 97, 40, 113, 41, 32, 45, 62, 32, 113]⟩
def twoB : ByteArray := ⟨#[79, 112, 115, 32, 97, 58, 50]⟩
theorem least_err : errF leastB = 0 := by decide +kernel
theorem two_err : errF twoB = 30 ∧ lenF twoB = 6 := by decide +kernel
theorem least_lines : lines leastB = [⟨#[79, 112, 115, 32, 97, 58, 49]⟩, ⟨#[65, 117, 116, 111, 109, 97, 116, 111, 110, 32, 65]⟩, ⟨#[83, 116, 97, 116, 101, 115, 32, 113]⟩, ⟨#[70, 105, 110, 97, 108, 32, 83, 116, 97, 116, 101, 115, 32, 113]⟩, ⟨#[84, 114, 97, 110, 115, 105, 116, 105, 111, 110, 115]⟩, ⟨#[97, 40, 113, 41, 32, 45, 62, 32, 113]⟩] := by decide +kernel
theorem least_cont : (contF leastB).ti = ⟨#[65]⟩ ∧ (contF leastB).O = [(⟨#[97]⟩, 1)] ∧ (contF leastB).S = [⟨#[113]⟩] ∧ (contF leastB).N = [0] ∧ (contF leastB).R = [(⟨#[97]⟩, ⟨#[113]⟩, ⟨#[113]⟩)] := by decide +kernel
theorem least_fin : namesAt (finN (contF leastB)) (contF leastB).S = [⟨#[113]⟩] := by
  have h : finN (contF leastB) = [0] := by
    unfold finN riseL
    rw [least_cont.2.2.2.1]
    show List.map Int.toNat (Lib.compact (List.mergeSort [(0 : Int)] _)) = [0]
    rw [List.mergeSort_singleton]
    decide
  rw [h, least_cont.2.2.1]
  rfl
theorem least_val : valF ⟨#[65]⟩ [(⟨#[97]⟩, 1)] [⟨#[113]⟩] [⟨#[113]⟩] [(⟨#[97]⟩, ⟨#[113]⟩, ⟨#[113]⟩)] = true := by decide +kernel
def leastL : ByteArray := leastB ++ ⟨#[10]⟩
theorem leastL_list : leastL.toList = leastB.data.toList ++ [10] := by
  rw [ByteArray.toList_eq]
  decide +kernel
theorem least_text : writeT ⟨#[65]⟩ [(⟨#[97]⟩, 1)] [⟨#[113]⟩] [⟨#[113]⟩] [(⟨#[97]⟩, ⟨#[113]⟩, ⟨#[113]⟩)] = leastL := by decide +kernel

theorem least_parse (w : World) (hT : Hid (RowsAt w ∧ BytesAt w ∧ 1 < w.heap.size)) :
    Calls Tryz.prog 13 #[.string leastB] w fun e w' => ∃ ao co asx cs an cn ar cr, e = .returned (.tuple #[.agg #[.string ⟨#[65]⟩, .slice ao 1 co, .slice asx 1 cs, .slice an 1 cn, .slice ar 1 cr], .agg #[.int .i64 0, .int .i64 0]]) ∧ RdO w' ao [(⟨#[97]⟩, 1)] ∧ ReadsS w' asx [⟨#[113]⟩] ∧ ReadsS w' an [⟨#[113]⟩] ∧ RdRu w' ar [(⟨#[97]⟩, ⟨#[113]⟩, ⟨#[113]⟩)] ∧ Below w.heap.size w w' := by
  refine (parse_ok leastB w hT (by decide) least_err).mono ?_
  rintro e w1 ⟨vo, vs, vn, vr, rfl, ro, rs, rn, rr, rd, d1⟩
  have hf : (finN (contF leastB)).length = (namesAt (finN (contF leastB)) (contF leastB).S).length := by simp [namesAt]
  rw [hf, least_fin] at rn
  rw [least_cont.2.1] at ro
  rw [text_cells, least_cont.2.2.1] at rs
  rw [least_cont.2.2.2.2] at rr
  obtain ⟨ao, co, rfl, qo⟩ := rdO_of ro
  obtain ⟨asx, cs, rfl, qs⟩ := rdS_of rs
  obtain ⟨an, cn, rfl, qn⟩ := rdS_of rn
  obtain ⟨ar, cr, rfl, qr⟩ := rdR_of rr
  rw [least_cont.1]
  exact ⟨ao, co, asx, cs, an, cn, ar, cr, rfl, qo, qs, qn, qr, d1⟩

/-! ### Two new cells, a file's and a problem's -/
def two31 (w : World) : World := (w.alloc (.cells #[.string ⟨#[]⟩, .slice none 0 0, .slice none 0 0, .slice none 0 0, .slice none 0 0] 32)).alloc (.cells #[.int .i64 0, .int .i64 0] 43)
theorem two31_rows (w : World) : (two31 w).heap[w.heap.size]? = some (.cells #[.string ⟨#[]⟩, .slice none 0 0, .slice none 0 0, .slice none 0 0, .slice none 0 0] 32 (0, 0)) ∧ (two31 w).heap[w.heap.size + 1]? = some (.cells #[.int .i64 0, .int .i64 0] 43 (0, 0)) ∧ Below w.heap.size w (two31 w) ∧ (two31 w).heap.size = w.heap.size + 2 := by
  exact ⟨(Below.heap_alloc _ _ _ (by simp)).trans (World.alloc_heap_new _ _), heap_alloc2_new w _ _, ((Below.refl _ _).alloc (Nat.le_refl _) _).alloc (by simp) _, by simp [two31]⟩
theorem fz_of {W : World} {b j : Nat} {c : Array Value} {t : TypeId} (h : W.heap[b]? = some (.cells c t (0, 0))) : W.frozen? ⟨b, j, none⟩ = false := by simp [World.frozen?, h]
theorem two31_cells (w : World) : ((two31 w).cell? ⟨w.heap.size, 0, none⟩ = some (.string ⟨#[]⟩) ∧ (two31 w).cell? ⟨w.heap.size, 1, none⟩ = some (.slice none 0 0) ∧ (two31 w).cell? ⟨w.heap.size, 2, none⟩ = some (.slice none 0 0) ∧ (two31 w).cell? ⟨w.heap.size, 3, none⟩ = some (.slice none 0 0) ∧ (two31 w).cell? ⟨w.heap.size, 4, none⟩ = some (.slice none 0 0)) ∧
    ((two31 w).cell? ⟨w.heap.size + 1, 0, none⟩ = some (.int .i64 0) ∧ (two31 w).cell? ⟨w.heap.size + 1, 1, none⟩ = some (.int .i64 0)) ∧
    ((two31 w).frozen? ⟨w.heap.size, 0, none⟩ = false ∧ (two31 w).frozen? ⟨w.heap.size, 1, none⟩ = false ∧ (two31 w).frozen? ⟨w.heap.size, 2, none⟩ = false ∧ (two31 w).frozen? ⟨w.heap.size, 3, none⟩ = false ∧ (two31 w).frozen? ⟨w.heap.size, 4, none⟩ = false) ∧
    ((two31 w).frozen? ⟨w.heap.size + 1, 0, none⟩ = false ∧ (two31 w).frozen? ⟨w.heap.size + 1, 1, none⟩ = false) := by
  obtain ⟨h0, h1, _, _⟩ := two31_rows w
  exact ⟨⟨cell_of h0 rfl, cell_of h0 rfl, cell_of h0 rfl, cell_of h0 rfl, cell_of h0 rfl⟩, ⟨cell_of h1 rfl, cell_of h1 rfl⟩, ⟨fz_of h0, fz_of h0, fz_of h0, fz_of h0, fz_of h0⟩, fz_of h1, fz_of h1⟩
theorem two31_set (w : World) (v0 v1 v2 v3 v4 u0 u1 : Value) :
    let W := (((((((two31 w).setCell ⟨w.heap.size, 0, none⟩ v0).setCell ⟨w.heap.size, 1, none⟩ v1).setCell ⟨w.heap.size, 2, none⟩ v2).setCell ⟨w.heap.size, 3, none⟩ v3).setCell ⟨w.heap.size, 4, none⟩ v4).setCell ⟨w.heap.size + 1, 0, none⟩ u0).setCell ⟨w.heap.size + 1, 1, none⟩ u1
    W.heap[w.heap.size]? = some (.cells #[v0, v1, v2, v3, v4] 32 (0, 0)) ∧ W.heap[w.heap.size + 1]? = some (.cells #[u0, u1] 43 (0, 0)) ∧ Below w.heap.size w W ∧ w.heap.size + 2 ≤ W.heap.size := by
  obtain ⟨h0, h1, d, z⟩ := two31_rows w
  have q := set57 (two31 w) w.heap.size v0 v1 v2 v3 v4 u0 u1 _ _ _ _ _ _ _ h0 h1
  exact ⟨q.1, q.2.1, d.trans (q.2.2.toBelow (by omega) (fun k hk => by omega)), by have := q.2.2.size; omega⟩

attribute [local go_sem] Oper.semAt_some
set_option maxRecDepth 100000 in
set_option maxHeartbeats 4000000 in
theorem least_any (w : World) (hT : Hid (RowsAt w ∧ BytesAt w ∧ 1 < w.heap.size)) :
    Calls Tryz.prog 11 #[] w fun e w' => e = .returned (.bool true) ∧ Below w.heap.size w w' := by
  go_enter Tryz.func11, Tryz.ntmps11
  go_wp2_with fail
  refine (show Calls Tryz.prog 13 #[.string leastB] w _ from least_parse w hT).mono ?_
  rintro e w1 ⟨ao, co, asx, cs, an, cn, ar, cr, rfl, qo, qs, qn, qr, d1⟩
  have hz : (w1.alloc (.cells #[.string ⟨#[]⟩, .slice none 0 0, .slice none 0 0, .slice none 0 0, .slice none 0 0] 32)).alloc (.cells #[.int .i64 0, .int .i64 0] 43) = two31 w1 := rfl
  obtain ⟨⟨o0, o1, o2, o3, o4⟩, ⟨p0, p1⟩, ⟨f0, f1, f2, f3, f4⟩, g0, g1⟩ := two31_cells w1
  have HS := hide (two31_set w1 (.string ⟨#[65]⟩) (.slice ao 1 co) (.slice asx 1 cs) (.slice an 1 cn) (.slice ar 1 cr) (.int .i64 0) (.int .i64 0))
  have HD1 := hide d1
  have HQ := hide (And.intro qo (And.intro qs (And.intro qn qr)))
  clear qo qs qn qr d1
  go_wp2_with fail
  obtain ⟨W3, hW3⟩ : ∃ W3, (((((((two31 w1).setCell ⟨w1.heap.size, 0, none⟩ (.string ⟨#[65]⟩)).setCell ⟨w1.heap.size, 1, none⟩ (.slice ao 1 co)).setCell ⟨w1.heap.size, 2, none⟩ (.slice asx 1 cs)).setCell ⟨w1.heap.size, 3, none⟩ (.slice an 1 cn)).setCell ⟨w1.heap.size, 4, none⟩ (.slice ar 1 cr)).setCell ⟨w1.heap.size + 1, 0, none⟩ (.int .i64 0)).setCell ⟨w1.heap.size + 1, 1, none⟩ (.int .i64 0) = W3 := ⟨_, rfl⟩
  rw [hW3]
  have HS3 : Hid (W3.heap[w1.heap.size]? = some (.cells #[.string ⟨#[65]⟩, .slice ao 1 co, .slice asx 1 cs, .slice an 1 cn, .slice ar 1 cr] 32 (0, 0)) ∧ W3.heap[w1.heap.size + 1]? = some (.cells #[.int .i64 0, .int .i64 0] 43 (0, 0)) ∧ Below w1.heap.size w1 W3 ∧ w1.heap.size + 2 ≤ W3.heap.size) := hide (by rw [← hW3]; exact HS.out)
  have HD3 := hide (HD1.out.trans (HS3.out.2.2.1.mono HD1.out.size))
  clear HS hW3 hz o0 o1 o2 o3 o4 p0 p1 f0 f1 f2 f3 f4 g0 g1
  have P2 := parse_bad twoB W3 (hide ⟨hT.out.1.below HD3.out (by have := hT.out.2.2; omega), Nat.lt_of_lt_of_le (by have := hT.out.2.2; omega) HD3.out.size⟩) (by decide) two_err.1
  rw [two_err.2] at P2
  refine (show Calls Tryz.prog 13 #[.string twoB] W3 _ from P2).mono ?_
  rintro e w4 ⟨rfl, d4⟩
  have HD4 := hide d4
  clear d4 P2
  have hz : (w4.alloc (.cells #[.string ⟨#[]⟩, .slice none 0 0, .slice none 0 0, .slice none 0 0, .slice none 0 0] 32)).alloc (.cells #[.int .i64 0, .int .i64 0] 43) = two31 w4 := rfl
  obtain ⟨⟨o0, o1, o2, o3, o4⟩, ⟨p0, p1⟩, ⟨f0, f1, f2, f3, f4⟩, g0, g1⟩ := two31_cells w4
  have HS := hide (two31_set w4 (.string ⟨#[]⟩) (.slice none 0 0) (.slice none 0 0) (.slice none 0 0) (.slice none 0 0) (.int .i64 30) (.int .i64 6))
  have k0 : ∀ (j : Nat) (v : Value), #[Value.string ⟨#[65]⟩, .slice ao 1 co, .slice asx 1 cs, .slice an 1 cn, .slice ar 1 cr][j]? = some v → ∀ W, Below w4.heap.size w4 W → W.cell? ⟨w1.heap.size, j, none⟩ = some v := fun j v hv W d =>
    cell_of ((d.block _ (by have := HS3.out.2.2.2; have := HD4.out.size; omega)).trans ((HD4.out.block _ (by have := HS3.out.2.2.2; omega)).trans HS3.out.1)) hv
  have k1 : ∀ W, Below w4.heap.size w4 W → W.cell? ⟨w1.heap.size + 1, 0, none⟩ = some (.int .i64 0) := fun W d =>
    cell_of ((d.block _ (by have := HS3.out.2.2.2; have := HD4.out.size; omega)).trans ((HD4.out.block _ (by have := HS3.out.2.2.2; omega)).trans HS3.out.2.1)) rfl
  have HK := hide (And.intro k0 k1)
  have d2 := (two31_rows w4).2.2.1
  have c0 := k0 0 _ rfl _ d2
  have c1 := k0 1 _ rfl _ d2
  have c2 := k0 2 _ rfl _ d2
  have c3 := k0 3 _ rfl _ d2
  have c4 := k0 4 _ rfl _ d2
  have n1 : w1.heap.size ≠ w4.heap.size := by have := HS3.out.2.2.2; have := HD4.out.size; omega
  have n2 : w1.heap.size ≠ w4.heap.size + 1 := by have := HS3.out.2.2.2; have := HD4.out.size; omega
  clear k0 k1 d2
  go_wp2_with (fail)
  obtain ⟨W5, hW5⟩ : ∃ W5, (((((((two31 w4).setCell ⟨w4.heap.size, 0, none⟩ (.string ⟨#[]⟩)).setCell ⟨w4.heap.size, 1, none⟩ (.slice none 0 0)).setCell ⟨w4.heap.size, 2, none⟩ (.slice none 0 0)).setCell ⟨w4.heap.size, 3, none⟩ (.slice none 0 0)).setCell ⟨w4.heap.size, 4, none⟩ (.slice none 0 0)).setCell ⟨w4.heap.size + 1, 0, none⟩ (.int .i64 30)).setCell ⟨w4.heap.size + 1, 1, none⟩ (.int .i64 6) = W5 := ⟨_, rfl⟩
  rw [hW5]
  have HS5 : Hid (W5.heap[w4.heap.size + 1]? = some (.cells #[.int .i64 30, .int .i64 6] 43 (0, 0)) ∧ Below w4.heap.size w4 W5 ∧ w4.heap.size + 2 ≤ W5.heap.size) := hide (by rw [← hW5]; exact HS.out.2)
  clear HS hW5 hz o0 o1 o2 o3 o4 p0 p1 f0 f1 f2 f3 f4 g0 g1 c0 c1 c2 c3 c4 n1 n2
  have D15 := hide ((HS3.out.2.2.1.trans (HD4.out.mono (by have := HS3.out.2.2.2; omega))).trans (HS5.out.2.1.mono (by have := HS3.out.2.2.2; have := HD4.out.size; omega)))
  have DW5 := hide (HD1.out.trans (D15.out.mono HD1.out.size))
  have P3 := print_any W5 ⟨#[65]⟩ ao asx an ar co cs cn cr [(⟨#[97]⟩, 1)] [⟨#[113]⟩] [⟨#[113]⟩] [(⟨#[97]⟩, ⟨#[113]⟩, ⟨#[113]⟩)] (hide ⟨hT.out.2.1.below DW5.out hT.out.2.2, Nat.lt_of_lt_of_le hT.out.2.2 DW5.out.size⟩) (hide (HQ.out.1.on D15.out)) (hide (HQ.out.2.1.below D15.out)) (hide (HQ.out.2.2.1.below D15.out)) (hide (HQ.out.2.2.2.on D15.out))
    (hide ⟨fun x hx => by obtain rfl := List.mem_singleton.1 hx; exact (by decide : (⟨#[113]⟩ : ByteArray).size ≤ 1048576), fun x hx => by obtain rfl := List.mem_singleton.1 hx; exact ⟨by decide, by decide, by decide⟩⟩) (by decide) (by decide) (by decide) (by decide)
  simp only [least_val, if_true, show List.map opN [((⟨#[97]⟩ : ByteArray), (1 : Int))] = [((⟨#[97]⟩ : ByteArray), 1)] from rfl, least_text] at P3
  refine P3.mono ?_
  rintro e w6 ⟨rfl, d6⟩
  have D46 := hide (HS5.out.2.1.trans (d6.mono (by have := HS5.out.2.2; omega)))
  have c4 := HK.out.1 4 _ rfl w6 D46.out
  have p0 := HK.out.2 w6 D46.out
  have q0 : w6.cell? ⟨w4.heap.size + 1, 0, none⟩ = some (.int .i64 30) := cell_of ((d6.block _ (by have := HS5.out.2.2; omega)).trans HS5.out.1) rfl
  have q1 : w6.cell? ⟨w4.heap.size + 1, 1, none⟩ = some (.int .i64 6) := cell_of ((d6.block _ (by have := HS5.out.2.2; omega)).trans HS5.out.1) rfl
  have HE := hide (DW5.out.trans (d6.mono DW5.out.size))
  clear P3 d6
  go_wp2_with (fail)
  go_ret
  exact ⟨congrArg (fun b => Ending.returned (Value.bool b)) (by rw [leastL_list]; decide +kernel), HE.out⟩
end Go.Proofs.YtmagchclmmphaabGreatDoor
namespace Go.Proofs.YtmagchclmmphaabGreatDoor
open Go.RowKit Go.Maps
attribute [local go_sem] Oper.semAt_some

/-- A made row being filled: its cells below k are known. -/
def Mrw (W : World) (H : Nat) (t : TypeId) (N : Nat) (val : Nat → Value) (k : Nat) : Prop :=
  ∃ cur : Array Value, W.heap[H]? = some (.cells cur t (0, 0)) ∧ cur.size = N ∧ ∀ j, j < k → cur[j]? = some (val j)
theorem Mrw.cell {W : World} {H : Nat} {t : TypeId} {N : Nat} {val : Nat → Value} {k : Nat} (h : Mrw W H t N val k) (j : Nat) (hj : j < N) : ∃ u, W.cell? ⟨H, j, none⟩ = some u := by
  obtain ⟨cur, h1, h2, _⟩ := h
  exact ⟨cur[j]'(by omega), cell_of h1 (Array.getElem?_eq_getElem (by omega))⟩
theorem Mrw.fz {W : World} {H : Nat} {t : TypeId} {N : Nat} {val : Nat → Value} {k : Nat} (h : Mrw W H t N val k) (j : Nat) : W.frozen? ⟨H, j, none⟩ = false := by
  obtain ⟨cur, h1, _⟩ := h
  exact fz_of h1
theorem Mrw.set {W : World} {H : Nat} {t : TypeId} {N : Nat} {val : Nat → Value} {k : Nat} (h : Mrw W H t N val k) (j : Nat) (hj : k ≤ j) (u : Value) : Mrw (W.setCell ⟨H, j, none⟩ u) H t N val k := by
  obtain ⟨cur, h1, h2, h3⟩ := h
  refine ⟨_, heap_setCell_same W H j cur t u h1, by simpa using h2, fun i hi => ?_⟩
  rw [Array.getElem?_setIfInBounds_ne (by omega)]
  exact h3 i hi
theorem Mrw.put {W : World} {H : Nat} {t : TypeId} {N : Nat} {val : Nat → Value} {k : Nat} (h : Mrw W H t N val k) (hk : k < N) (u : Value) (hu : val k = u) : Mrw (W.setCell ⟨H, k, none⟩ u) H t N val (k + 1) := by
  obtain ⟨cur, h1, h2, h3⟩ := h
  refine ⟨_, heap_setCell_same W H k cur t u h1, by simpa using h2, fun i hi => ?_⟩
  by_cases e : i = k
  · subst e
    rw [Array.getElem?_setIfInBounds_self_of_lt (by omega), hu]
  · rw [Array.getElem?_setIfInBounds_ne (by omega)]
    exact h3 i (by omega)
theorem Mrw.at {W : World} {H : Nat} {t : TypeId} {N : Nat} {val : Nat → Value} {k : Nat} (h : Mrw W H t N val k) (j : Nat) (hj : j < k) : W.cell? ⟨H, j, none⟩ = some (val j) := by
  obtain ⟨cur, h1, h2, h3⟩ := h
  exact cell_of h1 (h3 j hj)
theorem Mrw.below {W W' : World} {H : Nat} {t : TypeId} {N : Nat} {val : Nat → Value} {k B : Nat} (h : Mrw W H t N val k) (d : Below B W W') (hB : H < B) : Mrw W' H t N val k := by
  obtain ⟨cur, h1, h2, h3⟩ := h
  exact ⟨cur, (d.block _ hB).trans h1, h2, h3⟩
theorem Mrw.lt {W : World} {H : Nat} {t : TypeId} {N : Nat} {val : Nat → Value} {k : Nat} (h : Mrw W H t N val k) : H < W.heap.size := by
  obtain ⟨cur, h1, _⟩ := h
  exact (Array.getElem?_eq_some_iff.1 h1).1
theorem Mrw.ofRow {W : World} {b H : Nat} {t : TypeId} {sz n : Nat} {xs : List Value} (val : Nat → Value) (h : W.ownsRow b t sz (.slice (some ⟨H, 0, none⟩) n n) n xs) : Mrw W H t (n * sz) val 0 := by
  obtain ⟨h0, h1⟩ := h
  rcases h1 with ⟨e, _⟩ | ⟨g, cap, cur, e, h2, h3, h4, h5, h6, h7⟩
  · cases e
  · cases e
    exact ⟨cur, h3, h6, fun j hj => by omega⟩

/-- The mark behind a list that is handed in. -/
def spareB : ByteArray := ⟨#[115, 112, 97, 114, 101]⟩
def padV (l : List ByteArray) (j : Nat) : Value := if h : j < l.length then .string l[j] else .string spareB

set_option maxRecDepth 100000 in
set_option maxHeartbeats 1000000 in
theorem texts_any (ao : Option Addr) (cap : Nat) (l : List ByteArray) (w : World) (hr : Hid (ReadsS w ao l)) (hs : l.length ≤ 4194304) :
    Calls Tryz.prog 9 #[.slice ao l.length cap] w fun e w' => e = .returned (.slice (some ⟨w.heap.size, 0, none⟩) l.length (l.length + 64)) ∧ Mrw w' w.heap.size 9 (l.length + 64) (padV l) (l.length + 64) ∧ Below w.heap.size w w' := by
  obtain ⟨i9, hi9, hz90, hz91, hz92⟩ := info_parts info9
  obtain ⟨m, hm⟩ : ∃ m, m = l.length := ⟨_, rfl⟩
  have HL := hide hm
  rw [← hm]
  rw [← hm] at hs
  clear hm
  go_enter Tryz.func9, Tryz.ntmps9
  go_wp2_with (at_make; refine wpList_make_full _ rfl _ _ 26 rfl w.heap.size 9 i9 (.string ⟨#[]⟩) 1 Tryz.underlying26 hi9 hz90 hz91 _ _ _ _ (m + 64) rfl rfl (by go_num) (by go_num) (by rw [hz92]; omega) (by unfold maxLen; omega) (Nat.le_refl _) ?_)
  intro w1 ho hg
  have D1 : Below w.heap.size w w1 := (Below.refl _ _).grown hg (Nat.le_refl _) (by intro k hk; cases hk)
  have HM := hide (And.intro (Mrw.ofRow (padV l) ho) D1)
  rw [Nat.mul_one] at HM
  clear ho hg D1
  go_wp2
  go_loopw [4] (fun i wr => ∃ k : Nat, k ≤ m + 64 ∧ i = .int .i64 k ∧ Hid (Mrw wr w.heap.size 9 (m + 64) (padV l) k ∧ Below w.heap.size w wr)) (fun i _ => m + 64 - (intOf i).toNat)
  case atStart => exact ⟨0, Nat.zero_le _, rfl, HM⟩
  case round =>
    obtain ⟨k, hk, rfl, HX⟩ := hrel
    clear HM
    by_cases hlt : k < m + 64
    · obtain ⟨u, c0⟩ := HX.out.1.cell k hlt
      have f0 := HX.out.1.fz k
      have i0 : (0 : Int) ≤ (k : Int) := by omega
      have i2 : (k : Int) < ((m + 64 : Nat) : Int) := by omega
      by_cases hkl : k < m
      · have i3 : (k : Int) < (m : Int) := by omega
        obtain ⟨g, o, rfl, q1⟩ := hr.out.below HX.out.2 k (HL.out ▸ hkl)
        obtain ⟨g', o', e', q2⟩ := hr.out k (HL.out ▸ hkl)
        cases e'
        have hg : g < w.heap.size := World.block_lt_of_cell? w ⟨g, o + k, none⟩ q2
        have n1 : g ≠ w.heap.size := by omega
        clear q2
        go_wp2
        go_roundw
        case rel =>
          refine ⟨k + 1, by omega, by go_num, hide ⟨?_, (HX.out.2.setCell (Nat.le_refl _) _).setCell (Nat.le_refl _) _⟩⟩
          exact (HX.out.1.set k (Nat.le_refl _) _).put hlt _ (by simp [padV, HL.out ▸ hkl])
        case measure => simp [intOf]; omega
      · have i3 : ¬ (k : Int) < (m : Int) := by omega
        go_wp2
        go_roundw
        case rel =>
          refine ⟨k + 1, by omega, by go_num, hide ⟨?_, HX.out.2.setCell (Nat.le_refl _) _⟩⟩
          exact HX.out.1.put hlt _ (by simp [padV, HL.out ▸ hkl, spareB])
        case measure => simp [intOf]; omega
    · obtain rfl : k = m + 64 := by omega
      have i2 : ¬ ((m + 64 : Nat) : Int) < ((m + 64 : Nat) : Int) := by omega
      have i4 : (0 : Int) ≤ (m : Int) := by omega
      have i5 : (m : Int) ≤ ((m + 64 : Nat) : Int) := by omega
      go_wp2
      go_ret
      exact ⟨rfl, HX.out.1, HX.out.2⟩
theorem padV_reads {W : World} {H : Nat} {l : List ByteArray} (h : Mrw W H 9 (l.length + 64) (padV l) (l.length + 64)) : ReadsS W (some ⟨H, 0, none⟩) l := fun k hk => ⟨H, 0, rfl, by
  rw [Nat.zero_add, h.at k (by omega)]
  simp [padV, hk]⟩
end Go.Proofs.YtmagchclmmphaabGreatDoor
namespace Go.Proofs.YtmagchclmmphaabGreatDoor
open Go.RowKit Go.Maps
attribute [local go_sem] Oper.semAt_some

def opPad (O : List OpI) (j : Nat) : Value := if h : j / 2 < O.length then (if j % 2 = 0 then .string O[j / 2].1 else .int .i64 O[j / 2].2) else (if j % 2 = 0 then .string spareB else .int .i64 7)
def ruPad (R : List RuT) (j : Nat) : Value := if h : j / 3 < R.length then (if j % 3 = 0 then .string R[j / 3].1 else if j % 3 = 1 then .string R[j / 3].2.1 else .string R[j / 3].2.2) else (if j % 3 = 0 then .string spareB else .string ⟨#[]⟩)
theorem opPad_at (O : List OpI) (k : Nat) (h : k < O.length) : opPad O (k * 2) = .string O[k].1 ∧ opPad O (k * 2 + 1) = .int .i64 O[k].2 := by
  have e0 : k * 2 / 2 = k := by omega
  have e1 : (k * 2 + 1) / 2 = k := by omega
  constructor
  · simp [opPad, e0, h]
  · simp [opPad, e1, h, Nat.add_mod]
theorem opPad_out (O : List OpI) (k : Nat) (h : ¬ k < O.length) : opPad O (k * 2) = .string spareB ∧ opPad O (k * 2 + 1) = .int .i64 7 := by
  have e0 : k * 2 / 2 = k := by omega
  have e1 : (k * 2 + 1) / 2 = k := by omega
  constructor
  · simp [opPad, e0, h]
  · simp [opPad, e1, h, Nat.add_mod]
theorem ruPad_at (R : List RuT) (k : Nat) (h : k < R.length) : ruPad R (k * 3) = .string R[k].1 ∧ ruPad R (k * 3 + 1) = .string R[k].2.1 ∧ ruPad R (k * 3 + 2) = .string R[k].2.2 := by
  have e0 : k * 3 / 3 = k := by omega
  have e1 : (k * 3 + 1) / 3 = k := by omega
  have e2 : (k * 3 + 2) / 3 = k := by omega
  refine ⟨?_, ?_, ?_⟩
  · simp [ruPad, e0, h]
  · simp [ruPad, e1, h, Nat.add_mod]
  · simp [ruPad, e2, h, Nat.add_mod]
theorem ruPad_out (R : List RuT) (k : Nat) (h : ¬ k < R.length) : ruPad R (k * 3) = .string spareB ∧ ruPad R (k * 3 + 1) = .string ⟨#[]⟩ ∧ ruPad R (k * 3 + 2) = .string ⟨#[]⟩ := by
  have e0 : k * 3 / 3 = k := by omega
  have e1 : (k * 3 + 1) / 3 = k := by omega
  have e2 : (k * 3 + 2) / 3 = k := by omega
  refine ⟨?_, ?_, ?_⟩
  · simp [ruPad, e0, h]
  · simp [ruPad, e1, h, Nat.add_mod]
  · simp [ruPad, e2, h, Nat.add_mod]
theorem opPad_reads {W : World} {H : Nat} {O : List OpI} (h : Mrw W H 66 ((O.length + 64) * 2) (opPad O) ((O.length + 64) * 2)) : RdO W (some ⟨H, 0, none⟩) O := fun k hk => ⟨H, 0, rfl, by
  rw [Nat.zero_add, h.at _ (by omega), (opPad_at O k hk).1], by
  rw [Nat.zero_add, h.at _ (by omega), (opPad_at O k hk).2]⟩
theorem ruPad_reads {W : World} {H : Nat} {R : List RuT} (h : Mrw W H 68 ((R.length + 64) * 3) (ruPad R) ((R.length + 64) * 3)) : RdRu W (some ⟨H, 0, none⟩) R := fun k hk => ⟨H, 0, rfl, by
  rw [Nat.zero_add, h.at _ (by omega), (ruPad_at R k hk).1], by
  rw [Nat.zero_add, h.at _ (by omega), (ruPad_at R k hk).2.1], by
  rw [Nat.zero_add, h.at _ (by omega), (ruPad_at R k hk).2.2]⟩

set_option maxRecDepth 100000 in
set_option maxHeartbeats 4000000 in
theorem twin2_any (w : World) (ti : ByteArray) (ao asx af ar : Option Addr) (co cs cf cr : Nat) (O : List OpI) (S F : List ByteArray) (R : List RuT) (hO : Hid (RdO w ao O)) (hS : Hid (ReadsS w asx S)) (hF : Hid (ReadsS w af F)) (hR : Hid (RdRu w ar R))
    (hlo : O.length ≤ 4194304) (hls : S.length ≤ 4194304) (hlf : F.length ≤ 4194304) (hlr : R.length ≤ 4194304) :
    Calls Tryz.prog 18 #[.agg #[.string ti, .slice ao O.length co, .slice asx S.length cs, .slice af F.length cf, .slice ar R.length cr]] w fun e w' =>
      ∃ bo bs bf br, e = .returned (.agg #[.string ti, .slice (some ⟨bo, 0, none⟩) O.length (O.length + 64), .slice (some ⟨bs, 0, none⟩) S.length (S.length + 64), .slice (some ⟨bf, 0, none⟩) F.length (F.length + 64), .slice (some ⟨br, 0, none⟩) R.length (R.length + 64)]) ∧ Mrw w' bo 66 ((O.length + 64) * 2) (opPad O) ((O.length + 64) * 2) ∧ Mrw w' bs 9 (S.length + 64) (padV S) (S.length + 64) ∧ Mrw w' bf 9 (F.length + 64) (padV F) (F.length + 64) ∧ Mrw w' br 68 ((R.length + 64) * 3) (ruPad R) ((R.length + 64) * 3) ∧ Below w.heap.size w w' ∧ (bs ≠ bf ∧ w.heap.size ≤ bo ∧ w.heap.size ≤ bs ∧ w.heap.size ≤ bf ∧ w.heap.size ≤ br) := by
  obtain ⟨i4, hi4, hz40, hz41, hz42⟩ := info_parts info51
  obtain ⟨i5, hi5, hz50, hz51, hz52⟩ := info_parts info53
  obtain ⟨W0, hW0⟩ : ∃ W0, (w.alloc (.cells #[.string ti, .slice ao O.length co, .slice asx S.length cs, .slice af F.length cf, .slice ar R.length cr] 32)).alloc (.cells #[.string ⟨#[]⟩, .slice none 0 0, .slice none 0 0, .slice none 0 0, .slice none 0 0] 32) = W0 := ⟨_, rfl⟩
  have d0 : Below w.heap.size w W0 := by rw [← hW0]; exact ((Below.refl _ _).alloc (Nat.le_refl _) _).alloc (by simp) _
  have b0 : W0.heap[w.heap.size]? = some (.cells #[.string ti, .slice ao O.length co, .slice asx S.length cs, .slice af F.length cf, .slice ar R.length cr] 32 (0, 0)) := by rw [← hW0]; exact (Below.heap_alloc _ _ _ (by simp)).trans (World.alloc_heap_new _ _)
  have b1 : W0.heap[w.heap.size + 1]? = some (.cells #[.string ⟨#[]⟩, .slice none 0 0, .slice none 0 0, .slice none 0 0, .slice none 0 0] 32 (0, 0)) := by rw [← hW0]; exact heap_alloc2_new w _ _
  have z0 : W0.heap.size = w.heap.size + 2 := by rw [← hW0]; simp
  have HBX : Hid (Bx5 W0 w.heap.size (.string ti) (.slice ao O.length co) (.slice asx S.length cs) (.slice af F.length cf) (.slice ar R.length cr)) := hide ⟨cell_of b0 rfl, cell_of b0 rfl, cell_of b0 rfl, cell_of b0 rfl, cell_of b0 rfl⟩
  obtain ⟨c0, c1, c2, c3, c4⟩ := HBX.out
  have HD := hide (And.intro d0 (And.intro b1 z0))
  have HO := hide (hO.out.on d0)
  have HS := hide (hS.out.below d0)
  have HF := hide (hF.out.below d0)
  have HR := hide (hR.out.on d0)
  clear hO hS hF hR d0 b0 b1 z0
  obtain ⟨m, hm⟩ : ∃ m, m = O.length := ⟨_, rfl⟩
  have HL := hide hm
  rw [← hm]
  rw [← hm] at hlo c1 hW0 HBX
  clear hm
  obtain ⟨r, hrr⟩ : ∃ r, r = R.length := ⟨_, rfl⟩
  have HLR := hide hrr
  rw [← hrr]
  rw [← hrr] at hlr c4 hW0 HBX
  clear hrr
  go_enter Tryz.func18, Tryz.ntmps18
  go_wp2_with (at_make; refine wpList_make_full _ rfl _ _ 29 rfl W0.heap.size 66 i4 (.agg #[.string ⟨#[]⟩, .int .i64 0]) 2 Tryz.underlying29 hi4 hz40 hz41 _ _ _ _ (m + 64) rfl rfl (by go_num) (by go_num) (by rw [hz42]; omega) (by unfold maxLen; omega) (Nat.le_refl _) ?_)
  intro w1 ho hg
  have D1 : Below W0.heap.size W0 w1 := (Below.refl _ _).grown hg (Nat.le_refl _) (by intro k hk; cases hk)
  have HM := hide (And.intro (Mrw.ofRow (opPad O) ho) D1)
  clear ho hg D1 c0 c1 c2 c3 c4
  go_wp2
  go_loopw [4] (fun i wr => ∃ k : Nat, k ≤ m + 64 ∧ i = .int .i64 k ∧ Hid (Mrw wr W0.heap.size 66 ((m + 64) * 2) (opPad O) (k * 2) ∧ Below W0.heap.size W0 wr)) (fun i _ => m + 64 - (intOf i).toNat)
  case atStart => exact ⟨0, Nat.zero_le _, rfl, HM⟩
  case round =>
    obtain ⟨k, hk, rfl, HX⟩ := hrel
    clear HM
    obtain ⟨c0, c1, c2, c3, c4⟩ := HBX.out.on HX.out.2
    by_cases hlt : k < m + 64
    · clear c0 c2 c3 c4
      obtain ⟨u0, q0⟩ := HX.out.1.cell (k * 2) (by omega)
      obtain ⟨u1, q1⟩ := HX.out.1.cell (k * 2 + 1) (by omega)
      have f0 := HX.out.1.fz (k * 2)
      have f1 := HX.out.1.fz (k * 2 + 1)
      have i0 : (0 : Int) ≤ (k : Int) := by omega
      have i2 : (k : Int) < ((m + 64 : Nat) : Int) := by omega
      have n2 : w.heap.size ≠ W0.heap.size := by have := HD.out.2.2; omega
      by_cases hkl : k < m
      · have i3 : (k : Int) < (m : Int) := by omega
        obtain ⟨g, o, rfl, p0, p1⟩ := HO.out.on HX.out.2 k (HL.out ▸ hkl)
        obtain ⟨g', o', e', p2, _⟩ := HO.out k (HL.out ▸ hkl)
        cases e'
        have hg : g < W0.heap.size := World.block_lt_of_cell? W0 ⟨g, o + k * 2, none⟩ p2
        have n1 : g ≠ W0.heap.size := by omega
        clear p2 hg
        go_wp2
        go_roundw
        case rel =>
          refine ⟨k + 1, by omega, by go_num, hide ⟨?_, (((HX.out.2.setCell (Nat.le_refl _) _).setCell (Nat.le_refl _) _).setCell (Nat.le_refl _) _).setCell (Nat.le_refl _) _⟩⟩
          have e := opPad_at O k (HL.out ▸ hkl)
          rw [show (k + 1) * 2 = k * 2 + 1 + 1 by omega]
          exact (((HX.out.1.set (k * 2) (Nat.le_refl _) _).set (k * 2 + 1) (by omega) _).put (by omega) _ e.1).put (by omega) _ e.2
        case measure => simp [intOf]; omega
      · have i3 : ¬ (k : Int) < (m : Int) := by omega
        go_wp2
        go_roundw
        case rel =>
          refine ⟨k + 1, by omega, by go_num, hide ⟨?_, (HX.out.2.setCell (Nat.le_refl _) _).setCell (Nat.le_refl _) _⟩⟩
          have e := opPad_out O k (HL.out ▸ hkl)
          rw [show (k + 1) * 2 = k * 2 + 1 + 1 by omega]
          exact (HX.out.1.put (by omega) _ e.1).put (by omega) _ e.2
        case measure => simp [intOf]; omega
    · obtain rfl : k = m + 64 := by omega
      have i2 : ¬ ((m + 64 : Nat) : Int) < ((m + 64 : Nat) : Int) := by omega
      obtain ⟨w5, h5⟩ : ∃ X, X = wr := ⟨_, rfl⟩
      subst h5
      have hz : W0.heap.size < w5.heap.size := HX.out.1.lt
      go_wp2_with (at_make; refine wpList_make_full _ rfl _ _ 30 rfl w5.heap.size 68 i5 (.agg #[.string ⟨#[]⟩, .string ⟨#[]⟩, .string ⟨#[]⟩]) 3 Tryz.underlying30 hi5 hz50 hz51 _ _ _ _ (r + 64) rfl rfl (by go_num) (by go_num) (by rw [hz52]; omega) (by unfold maxLen; omega) (Nat.le_refl _) ?_)
      intro w2 ho hg
      have D2 : Below w5.heap.size w5 w2 := (Below.refl _ _).grown hg (Nat.le_refl _) (by intro k hk; cases hk)
      have HM := hide (And.intro (Mrw.ofRow (ruPad R) ho) D2)
      clear ho hg D2 c0 c1 c2 c3 c4 i2
      have HBY := hide (HBX.out.on HX.out.2)
      have HRr := hide (HR.out.on HX.out.2)
      go_wp2
      go_loopw [6] (fun i wr => ∃ k : Nat, k ≤ r + 64 ∧ i = .int .i64 k ∧ Hid (Mrw wr w5.heap.size 68 ((r + 64) * 3) (ruPad R) (k * 3) ∧ Below w5.heap.size w5 wr)) (fun i _ => r + 64 - (intOf i).toNat)
      case atStart => exact ⟨0, Nat.zero_le _, rfl, HM⟩
      case round =>
        obtain ⟨k, hk, rfl, HY⟩ := hrel
        clear HM
        obtain ⟨c0, c1, c2, c3, c4⟩ := HBY.out.on HY.out.2
        by_cases hlt : k < r + 64
        · clear c0 c1 c2 c3
          obtain ⟨u0, q0⟩ := HY.out.1.cell (k * 3) (by omega)
          obtain ⟨u1, q1⟩ := HY.out.1.cell (k * 3 + 1) (by omega)
          obtain ⟨u2, q2⟩ := HY.out.1.cell (k * 3 + 2) (by omega)
          have f0 := HY.out.1.fz (k * 3)
          have f1 := HY.out.1.fz (k * 3 + 1)
          have f2 := HY.out.1.fz (k * 3 + 2)
          have i0 : (0 : Int) ≤ (k : Int) := by omega
          have i2 : (k : Int) < ((r + 64 : Nat) : Int) := by omega
          have n2 : w.heap.size ≠ w5.heap.size := by have := HD.out.2.2; omega
          by_cases hkl : k < r
          · have i3 : (k : Int) < (r : Int) := by omega
            obtain ⟨g, o, rfl, p0, p1, p3⟩ := HRr.out.on HY.out.2 k (HLR.out ▸ hkl)
            obtain ⟨g', o', e', p2, _⟩ := HRr.out k (HLR.out ▸ hkl)
            cases e'
            have hg : g < w5.heap.size := World.block_lt_of_cell? w5 ⟨g, o + k * 3, none⟩ p2
            have n1 : g ≠ w5.heap.size := by omega
            clear p2 hg
            go_wp2
            go_roundw
            case rel =>
              refine ⟨k + 1, by omega, by go_num, hide ⟨?_, (((((HY.out.2.setCell (Nat.le_refl _) _).setCell (Nat.le_refl _) _).setCell (Nat.le_refl _) _).setCell (Nat.le_refl _) _).setCell (Nat.le_refl _) _).setCell (Nat.le_refl _) _⟩⟩
              have e := ruPad_at R k (HLR.out ▸ hkl)
              rw [show (k + 1) * 3 = k * 3 + 1 + 1 + 1 by omega]
              exact (((((HY.out.1.set (k * 3) (Nat.le_refl _) _).set (k * 3 + 1) (by omega) _).set (k * 3 + 2) (by omega) _).put (by omega) _ e.1).put (by omega) _ e.2.1).put (by omega) _ e.2.2
            case measure => simp [intOf]; omega
          · have i3 : ¬ (k : Int) < (r : Int) := by omega
            go_wp2
            go_roundw
            case rel =>
              refine ⟨k + 1, by omega, by go_num, hide ⟨?_, ((HY.out.2.setCell (Nat.le_refl _) _).setCell (Nat.le_refl _) _).setCell (Nat.le_refl _) _⟩⟩
              have e := ruPad_out R k (HLR.out ▸ hkl)
              rw [show (k + 1) * 3 = k * 3 + 1 + 1 + 1 by omega]
              exact ((HY.out.1.put (by omega) _ e.1).put (by omega) _ e.2.1).put (by omega) _ e.2.2
            case measure => simp [intOf]; omega
        · obtain rfl : k = r + 64 := by omega
          have i2 : ¬ ((r + 64 : Nat) : Int) < ((r + 64 : Nat) : Int) := by omega
          have hz2 : w5.heap.size < wr.heap.size := HY.out.1.lt
          have HBZ := hide (HBY.out.on HY.out.2)
          have DQ := hide (HX.out.2.trans (HY.out.2.mono HX.out.2.size))
          have HSr := hide (fun (W2 : World) (d : Below wr.heap.size wr W2) => show ReadsS W2 asx S from (HS.out.below DQ.out).below d)
          have HFr := hide (fun (W2 : World) (d : Below wr.heap.size wr W2) => show ReadsS W2 af F from (HF.out.below DQ.out).below d)
          have FK := hide (fun (W2 : World) (d : Below wr.heap.size wr W2) => show W2.heap[w.heap.size + 1]? = some (.cells #[.string ⟨#[]⟩, .slice none 0 0, .slice none 0 0, .slice none 0 0, .slice none 0 0] 32 (0, 0)) from (d.block _ (by have := HD.out.2.2; omega)).trans ((DQ.out.block _ (by have := HD.out.2.2; omega)).trans HD.out.2.1))
          go_wp2_with fail
          obtain ⟨M, hM⟩ : ∃ M, M = m + 64 := ⟨_, rfl⟩
          obtain ⟨N, hN⟩ : ∃ N, N = r + 64 := ⟨_, rfl⟩
          rw [← hM, ← hN]
          have i4 : (0 : Int) ≤ (m : Int) := by omega
          have i5 : (m : Int) ≤ (M : Int) := by omega
          have i6 : (0 : Int) ≤ (r : Int) := by omega
          have i7 : (r : Int) ≤ (N : Int) := by omega
          have HMN := hide (And.intro hM hN)
          clear hM hN
          go_region_held3 (fun W2 => W2.cell? ⟨w.heap.size, 0, none⟩ = some (.string ti) ∧ W2.cell? ⟨w.heap.size, 1, none⟩ = some (.slice ao m co) ∧ W2.cell? ⟨w.heap.size, 2, none⟩ = some (.slice asx S.length cs) ∧ W2.cell? ⟨w.heap.size, 3, none⟩ = some (.slice af F.length cf) ∧ W2.cell? ⟨w.heap.size, 4, none⟩ = some (.slice ar r cr))
            (first | go_keep | assumption)
            ((first
              | (go_at_call_of 9 asx; refine (texts_any asx cs S _ (hide (by exact HSr.out _ (Below.refl _ wr).drew)) hls).mono ?_; rintro e wa ⟨rfl, ha, da⟩; have da2 : Below wr.heap.size wr wa := ⟨da.os, da.tape, da.output, da.size, da.block⟩; have S2 := HBZ.out.on da2; have HA := hide (And.intro ha da2); clear ha da da2; unfold Bx5 at S2)
              | (go_at_call_of 9 af; refine (texts_any af cf F _ (hide (HFr.out _ HA.out.2)) hlf).mono ?_; rintro e wb ⟨rfl, hb, db⟩; have db2 : Below wr.heap.size wr wb := HA.out.2.trans (db.mono HA.out.2.size); have S3 := HBZ.out.on db2; unfold Bx5 at S3; have F3 := FK.out wb db2; have o0 : wb.cell? ⟨w.heap.size + 1, 0, none⟩ = some (.string ⟨#[]⟩) := cell_of F3 rfl; have g0 : wb.frozen? ⟨w.heap.size + 1, 0, none⟩ = false := fz_of F3; have o1 : wb.cell? ⟨w.heap.size + 1, 1, none⟩ = some (.slice none 0 0) := cell_of F3 rfl; have g1 : wb.frozen? ⟨w.heap.size + 1, 1, none⟩ = false := fz_of F3; have o2 : wb.cell? ⟨w.heap.size + 1, 2, none⟩ = some (.slice none 0 0) := cell_of F3 rfl; have g2 : wb.frozen? ⟨w.heap.size + 1, 2, none⟩ = false := fz_of F3; have o3 : wb.cell? ⟨w.heap.size + 1, 3, none⟩ = some (.slice none 0 0) := cell_of F3 rfl; have g3 : wb.frozen? ⟨w.heap.size + 1, 3, none⟩ = false := fz_of F3; have o4 : wb.cell? ⟨w.heap.size + 1, 4, none⟩ = some (.slice none 0 0) := cell_of F3 rfl; have g4 : wb.frozen? ⟨w.heap.size + 1, 4, none⟩ = false := fz_of F3; have HBk := hide (And.intro hb (And.intro db db2)); clear hb db db2)))
          obtain ⟨W6, hW6⟩ : ∃ W6, (((((wb.setCell ⟨w.heap.size + 1, 0, none⟩ (.string ti)).setCell ⟨w.heap.size + 1, 1, none⟩ (.slice (some ⟨W0.heap.size, 0, none⟩) m M)).setCell ⟨w.heap.size + 1, 2, none⟩ (.slice (some ⟨wr.heap.size, 0, none⟩) S.length (S.length + 64))).setCell ⟨w.heap.size + 1, 3, none⟩ (.slice (some ⟨wa.heap.size, 0, none⟩) F.length (F.length + 64))).setCell ⟨w.heap.size + 1, 4, none⟩ (.slice (some ⟨w5.heap.size, 0, none⟩) r N)) = W6 := ⟨_, rfl⟩
          rw [hW6]
          have e6 : W6.heap[w.heap.size + 1]? = some (.cells #[.string ti, .slice (some ⟨W0.heap.size, 0, none⟩) m M, .slice (some ⟨wr.heap.size, 0, none⟩) S.length (S.length + 64), .slice (some ⟨wa.heap.size, 0, none⟩) F.length (F.length + 64), .slice (some ⟨w5.heap.size, 0, none⟩) r N] 32 (0, 0)) := by
            rw [← hW6]
            exact heap_setCell_same _ _ 4 _ 32 _ (heap_setCell_same _ _ 3 _ 32 _ (heap_setCell_same _ _ 2 _ 32 _ (heap_setCell_same _ _ 1 _ 32 _ (heap_setCell_same _ _ 0 _ 32 _ F3))))
          have O6 : Only wb W6 (fun k => k = w.heap.size + 1) := by
            rw [← hW6]
            exact ((((only_set wb _ 0 _).trans (only_set _ _ 1 _)).trans (only_set _ _ 2 _)).trans (only_set _ _ 3 _)).trans (only_set _ _ 4 _)
          have HZ := hide (And.intro e6 O6)
          clear o0 o1 o2 o3 o4 g0 g1 g2 g3 g4 F3 S2 S3 hW6 e6 O6
          go_wp2_with fail
          refine bodyPost_ret (results_cell_row (p := 2) (ty := 32) rfl _ _ (w.heap.size + 1) 32 _ (0, 0) _ rfl HZ.out.1 Tryz.underlying32 rfl (by kernel_rfl)) rfl ?_
          obtain ⟨hb, db, db2⟩ := HBk.out
          obtain ⟨rfl, rfl⟩ := HMN.out
          have O6 := HZ.out.2
          have z0 := HD.out.2.2
          have kp : ∀ {X t K : Nat} {val : Nat → Value} {k : Nat}, Mrw wb X t K val k → w.heap.size + 1 < X → Mrw W6 X t K val k := fun h hx => by
            obtain ⟨cur, h1, h2, h3⟩ := h
            exact ⟨cur, (O6.block _ (Array.getElem?_eq_some_iff.1 h1).1 (by omega)).trans h1, h2, h3⟩
          have zdr : wr.drew.heap.size = wr.heap.size := rfl
          have zw := HX.out.2.size
          have zr := HA.out.2.size
          have hxl := HX.out.1.lt
          have hyl := HY.out.1.lt
          have hal := HA.out.1.lt
          refine ⟨_, _, _, _, rfl, ?_, ?_, ?_, ?_, ?_, ⟨by omega, by omega, by omega, by omega, by omega⟩⟩
          · exact kp ((HX.out.1.below HY.out.2 hxl).below db2 (by omega)) (by omega)
          · exact kp (HA.out.1.below db (by omega)) (by omega)
          · exact kp hb (by omega)
          · exact kp (HY.out.1.below db2 hyl) (by omega)
          · exact (HD.out.1.trans ((DQ.out.trans (db2.mono DQ.out.size)).mono (by omega))).trans (O6.toBelow (by have := db2.size; omega) (fun k hk => by omega))
theorem twin_any (w : World) (ti : ByteArray) (ao asx af ar : Option Addr) (co cs cf cr : Nat) (O : List OpI) (S F : List ByteArray) (R : List RuT) (hO : Hid (RdO w ao O)) (hS : Hid (ReadsS w asx S)) (hF : Hid (ReadsS w af F)) (hR : Hid (RdRu w ar R))
    (hlo : O.length ≤ 4194304) (hls : S.length ≤ 4194304) (hlf : F.length ≤ 4194304) (hlr : R.length ≤ 4194304) :
    Calls Tryz.prog 18 #[.agg #[.string ti, .slice ao O.length co, .slice asx S.length cs, .slice af F.length cf, .slice ar R.length cr]] w fun e w' =>
      ∃ bo bs bf br, e = .returned (.agg #[.string ti, .slice (some ⟨bo, 0, none⟩) O.length (O.length + 64), .slice (some ⟨bs, 0, none⟩) S.length (S.length + 64), .slice (some ⟨bf, 0, none⟩) F.length (F.length + 64), .slice (some ⟨br, 0, none⟩) R.length (R.length + 64)]) ∧ Mrw w' bo 66 ((O.length + 64) * 2) (opPad O) ((O.length + 64) * 2) ∧ Mrw w' bs 9 (S.length + 64) (padV S) (S.length + 64) ∧ Mrw w' bf 9 (F.length + 64) (padV F) (F.length + 64) ∧ Mrw w' br 68 ((R.length + 64) * 3) (ruPad R) ((R.length + 64) * 3) ∧ Below w.heap.size w w' := by
  refine (twin2_any w ti ao asx af ar co cs cf cr O S F R hO hS hF hR hlo hls hlf hlr).mono ?_
  rintro e w' ⟨bo, bs, bf, br, h0, h1, h2, h3, h4, h5, _⟩
  exact ⟨bo, bs, bf, br, h0, h1, h2, h3, h4, h5⟩
end Go.Proofs.YtmagchclmmphaabGreatDoor
