import Derived.Test.YtmagchclmmphaaaGreatDoorWr
import Derived.Test.YtmagchclmmphaaaGreatDoorLx
namespace Go.Proofs.YtmagchclmmphaaaGreatDoor
open Go.RowKit Go.Maps
attribute [local go_sem] Oper.semAt_some

theorem results_cell2 {P : Program} {fn : Func} {p q : Tmp} {ty uy : TypeId} (h : fn.results = #[.cell p ty, .cell q uy]) (tmps : Array Value) (w : World) (g k : Nat) (t u : TypeId) (cs ds : Array Value) (fr fs : Nat × Nat) (d e : TypeDesc)
    (hp : tmps.getD p undef = .pointer (some ⟨g, 0, none⟩)) (hq : tmps.getD q undef = .pointer (some ⟨k, 0, none⟩)) (hg : w.heap[g]? = some (.cells cs t fr)) (hk : w.heap[k]? = some (.cells ds u fs))
    (hu : P.underlying ty = some d) (hd : (match d with | .struct _ | .array _ _ => true | _ => false) = true) (hi : (P.info? ty).map (·.size) = some cs.size)
    (hv : P.underlying uy = some e) (he : (match e with | .struct _ | .array _ _ => true | _ => false) = true) (hj : (P.info? uy).map (·.size) = some ds.size) :
    (results fn tmps).run P w = .ok (.tuple #[.agg cs, .agg ds]) w := by
  have hp' : tmps[p]?.getD undef = .pointer (some ⟨g, 0, none⟩) := by simpa using hp
  have hq' : tmps[q]?.getD undef = .pointer (some ⟨k, 0, none⟩) := by simpa using hq
  simp [results, h, hp', hq', asAddr, run_loadVar_row w g t ty cs fr d hg hu hd hi, run_loadVar_row w k u uy ds fs e hk hv he hj]
theorem set57 (w : World) (X : Nat) (v0 v1 v2 v3 v4 u0 u1 a0 a1 a2 a3 a4 b0 b1 : Value) (h0 : w.heap[X]? = some (.cells #[a0, a1, a2, a3, a4] 26 (0, 0))) (h1 : w.heap[X + 1]? = some (.cells #[b0, b1] 29 (0, 0))) :
    let W := ((((((w.setCell ⟨X, 0, none⟩ v0).setCell ⟨X, 1, none⟩ v1).setCell ⟨X, 2, none⟩ v2).setCell ⟨X, 3, none⟩ v3).setCell ⟨X, 4, none⟩ v4).setCell ⟨X + 1, 0, none⟩ u0).setCell ⟨X + 1, 1, none⟩ u1
    W.heap[X]? = some (.cells #[v0, v1, v2, v3, v4] 26 (0, 0)) ∧ W.heap[X + 1]? = some (.cells #[u0, u1] 29 (0, 0)) ∧ Only w W (fun k => k = X ∨ k = X + 1) := by
  intro W
  have q0 := heap_setCell_same _ _ 4 _ 26 v4 (heap_setCell_same _ _ 3 _ 26 v3 (heap_setCell_same _ _ 2 _ 26 v2 (heap_setCell_same _ _ 1 _ 26 v1 (heap_setCell_same _ _ 0 _ 26 v0 h0))))
  obtain ⟨W5, hW5⟩ : ∃ W5, ((((w.setCell ⟨X, 0, none⟩ v0).setCell ⟨X, 1, none⟩ v1).setCell ⟨X, 2, none⟩ v2).setCell ⟨X, 3, none⟩ v3).setCell ⟨X, 4, none⟩ v4 = W5 := ⟨_, rfl⟩
  rw [hW5] at q0
  have eW : W = (W5.setCell ⟨X + 1, 0, none⟩ u0).setCell ⟨X + 1, 1, none⟩ u1 := by rw [← hW5]
  have o5 : Only w W5 (fun k => k = X) := by
    rw [← hW5]
    exact ((((only_set w _ 0 _).trans (only_set _ _ 1 _)).trans (only_set _ _ 2 _)).trans (only_set _ _ 3 _)).trans (only_set _ _ 4 _)
  have h15 : W5.heap[X + 1]? = some (.cells #[b0, b1] 29 (0, 0)) := (o5.block _ (Array.getElem?_eq_some_iff.1 h1).1 (by omega)).trans h1
  have q1 := heap_setCell_same _ _ 1 _ 29 u1 (heap_setCell_same _ _ 0 _ 29 u0 h15)
  rw [eW]
  refine ⟨?_, q1, ?_⟩
  · exact (Below.heap_setCell _ _ _ _ (show X ≠ X + 1 by omega)).trans ((Below.heap_setCell _ _ _ _ (show X ≠ X + 1 by omega)).trans q0)
  · have o6 : Only W5 ((W5.setCell ⟨X + 1, 0, none⟩ u0).setCell ⟨X + 1, 1, none⟩ u1) (fun k => k = X ∨ k = X + 1) := ((only_set W5 _ 0 _).trans (only_set _ _ 1 _)).mono (fun k _ h => .inr h)
    exact (o5.mono (fun k _ h => .inl h)).trans o6
theorem err_two (s : ByteArray) : errF s = 0 ∨ errF s = 30 := by unfold errF; split <;> simp

set_option maxRecDepth 100000 in
set_option maxHeartbeats 2000000 in
/-- A text that is no file. -/
theorem parse_bad (s : ByteArray) (w : World) (hT : Hid (RowsAt w ∧ 0 < w.heap.size)) (hsz : s.size ≤ 134217728) (he : errF s = 30) :
    Calls Tryz.prog 7 #[.string s] w fun e w' => e = .returned (.tuple #[.agg #[.string ⟨#[]⟩, .slice none 0 0, .slice none 0 0, .slice none 0 0, .slice none 0 0], .agg #[.int .i64 30, .int .i64 (lenF s : Nat)]]) ∧ Below w.heap.size w w' := by
  obtain ⟨W0, hW0⟩ : ∃ W0, (w.alloc (.cells #[.string ⟨#[]⟩, .slice none 0 0, .slice none 0 0, .slice none 0 0, .slice none 0 0] 26)).alloc (.cells #[.int .i64 0, .int .i64 0] 29) = W0 := ⟨_, rfl⟩
  have d0 : Below w.heap.size w W0 := by rw [← hW0]; exact ((Below.refl _ _).alloc (Nat.le_refl _) _).alloc (by simp) _
  have b0 : W0.heap[w.heap.size]? = some (.cells #[.string ⟨#[]⟩, .slice none 0 0, .slice none 0 0, .slice none 0 0, .slice none 0 0] 26 (0, 0)) := by
    rw [← hW0]; exact (Below.heap_alloc _ _ _ (by simp)).trans (World.alloc_heap_new _ _)
  have b1 : W0.heap[w.heap.size + 1]? = some (.cells #[.int .i64 0, .int .i64 0] 29 (0, 0)) := by
    rw [← hW0]
    have := World.alloc_heap_new (w.alloc (.cells #[.string ⟨#[]⟩, .slice none 0 0, .slice none 0 0, .slice none 0 0, .slice none 0 0] 26)) (.cells #[.int .i64 0, .int .i64 0] 29)
    simpa using this
  have z0 : w.heap.size + 2 = W0.heap.size := by rw [← hW0]; simp
  have HC := check_any s W0 (hT.out.1.below d0 hT.out.2) (by omega) hsz
  rw [he] at HC
  have HD := hide (And.intro d0 (And.intro b0 (And.intro b1 z0)))
  clear d0 b0 b1 z0
  go_enter Tryz.func7, Tryz.ntmps7
  go_wp2_with fail
  refine HC.mono ?_
  rintro e w1 ⟨rfl, d1⟩
  have e0 : w1.heap[w.heap.size]? = some (.cells #[.string ⟨#[]⟩, .slice none 0 0, .slice none 0 0, .slice none 0 0, .slice none 0 0] 26 (0, 0)) := (d1.block _ (by have := HD.out.2.2.2; omega)).trans HD.out.2.1
  have e1 : w1.heap[w.heap.size + 1]? = some (.cells #[.int .i64 0, .int .i64 0] 29 (0, 0)) := (d1.block _ (by have := HD.out.2.2.2; omega)).trans HD.out.2.2.1
  have HB := hide (HD.out.1.trans (d1.mono HD.out.1.size))
  clear d1 HC
  have o0 : w1.cell? ⟨w.heap.size, 0, none⟩ = some (.string ⟨#[]⟩) := cell_of e0 rfl
  have o1 : w1.cell? ⟨w.heap.size, 1, none⟩ = some (.slice none 0 0) := cell_of e0 rfl
  have o2 : w1.cell? ⟨w.heap.size, 2, none⟩ = some (.slice none 0 0) := cell_of e0 rfl
  have o3 : w1.cell? ⟨w.heap.size, 3, none⟩ = some (.slice none 0 0) := cell_of e0 rfl
  have o4 : w1.cell? ⟨w.heap.size, 4, none⟩ = some (.slice none 0 0) := cell_of e0 rfl
  have f0 : w1.frozen? ⟨w.heap.size, 0, none⟩ = false := by simp [World.frozen?, e0]
  have f1 : w1.frozen? ⟨w.heap.size, 1, none⟩ = false := by simp [World.frozen?, e0]
  have f2 : w1.frozen? ⟨w.heap.size, 2, none⟩ = false := by simp [World.frozen?, e0]
  have f3 : w1.frozen? ⟨w.heap.size, 3, none⟩ = false := by simp [World.frozen?, e0]
  have f4 : w1.frozen? ⟨w.heap.size, 4, none⟩ = false := by simp [World.frozen?, e0]
  have p0 : w1.cell? ⟨w.heap.size + 1, 0, none⟩ = some (.int .i64 0) := cell_of e1 rfl
  have p1 : w1.cell? ⟨w.heap.size + 1, 1, none⟩ = some (.int .i64 0) := cell_of e1 rfl
  have g0 : w1.frozen? ⟨w.heap.size + 1, 0, none⟩ = false := by simp [World.frozen?, e1]
  have g1 : w1.frozen? ⟨w.heap.size + 1, 1, none⟩ = false := by simp [World.frozen?, e1]
  have HE := hide (And.intro e0 e1)
  clear e0 e1
  have HS := hide (set57 w1 w.heap.size (.string ⟨#[]⟩) (.slice none 0 0) (.slice none 0 0) (.slice none 0 0) (.slice none 0 0) (.int .i64 30) (.int .i64 (lenF s : Nat)) _ _ _ _ _ _ _ HE.out.1 HE.out.2)
  go_wp2
  obtain ⟨r0, r1, ro⟩ := HS.out
  refine bodyPost_ret (results_cell2 (p := 2) (q := 3) (ty := 26) (uy := 29) rfl _ _ w.heap.size (w.heap.size + 1) 26 29 _ _ (0, 0) (0, 0) _ _ rfl rfl r0 r1 Tryz.underlying26 rfl (by kernel_rfl) Tryz.underlying29 rfl (by kernel_rfl)) rfl ?_
  exact ⟨rfl, HB.out.trans (ro.toBelow HB.out.size (fun k hk => by omega))⟩

set_option maxRecDepth 100000 in
set_option maxHeartbeats 2000000 in
/-- A file. -/
theorem parse_ok (s : ByteArray) (w : World) (hT : Hid (RowsAt w ∧ BytesAt w ∧ 1 < w.heap.size)) (hsz : s.size ≤ 129999999) (he : errF s = 0) :
    Calls Tryz.prog 7 #[.string s] w fun e w' => ∃ vo vs vn vr, e = .returned (.tuple #[.agg #[.string (contF s).ti, vo, vs, vn, vr], .agg #[.int .i64 0, .int .i64 0]]) ∧ w'.ownsRow w.heap.size 41 2 vo (contF s).O.length ((contF s).O.flatMap kOps.cs) ∧ w'.ownsRow w.heap.size 9 1 vs (contF s).S.length ((contF s).S.flatMap kText.cs) ∧ w'.ownsRow w.heap.size 9 1 vn (finN (contF s)).length (strV (namesAt (finN (contF s)) (contF s).S)) ∧ w'.ownsRow w.heap.size 50 3 vr (contF s).R.length ((contF s).R.flatMap kRules.cs) ∧ vs.ownBlock ≠ vn.ownBlock ∧ Below w.heap.size w w' := by
  obtain ⟨W0, hW0⟩ : ∃ W0, (w.alloc (.cells #[.string ⟨#[]⟩, .slice none 0 0, .slice none 0 0, .slice none 0 0, .slice none 0 0] 26)).alloc (.cells #[.int .i64 0, .int .i64 0] 29) = W0 := ⟨_, rfl⟩
  have d0 : Below w.heap.size w W0 := by rw [← hW0]; exact ((Below.refl _ _).alloc (Nat.le_refl _) _).alloc (by simp) _
  have b0 : W0.heap[w.heap.size]? = some (.cells #[.string ⟨#[]⟩, .slice none 0 0, .slice none 0 0, .slice none 0 0, .slice none 0 0] 26 (0, 0)) := by
    rw [← hW0]; exact (Below.heap_alloc _ _ _ (by simp)).trans (World.alloc_heap_new _ _)
  have b1 : W0.heap[w.heap.size + 1]? = some (.cells #[.int .i64 0, .int .i64 0] 29 (0, 0)) := by
    rw [← hW0]
    have := World.alloc_heap_new (w.alloc (.cells #[.string ⟨#[]⟩, .slice none 0 0, .slice none 0 0, .slice none 0 0, .slice none 0 0] 26)) (.cells #[.int .i64 0, .int .i64 0] 29)
    simpa using this
  have z0 : w.heap.size + 2 = W0.heap.size := by rw [← hW0]; simp
  have HC := check_any s W0 (hT.out.1.below d0 (by have := hT.out.2.2; omega)) (by omega) (by omega)
  rw [he] at HC
  have HD := hide (And.intro d0 (And.intro b0 (And.intro b1 z0)))
  have HTB := hide (And.intro (hT.out.2.1.below d0 hT.out.2.2) (show 1 < W0.heap.size by have := hT.out.2.2; omega))
  have HL := hide (chain_of s hsz he)
  clear d0 b0 b1 z0
  go_enter Tryz.func7, Tryz.ntmps7
  go_wp2_with fail
  refine HC.mono ?_
  rintro e w1 ⟨rfl, d1⟩
  have HD1 := hide d1
  clear d1 HC
  go_wp2_with fail
  refine (read_any s _ w1 (by omega) (hide HL.out.1) (HTB.out.1.below HD1.out HTB.out.2) (Nat.lt_of_lt_of_le HTB.out.2 HD1.out.size) (contF s) (hide (by simp only [List.take_length]; rfl)) (hide (by rw [HL.out.2.1]; omega)) (hide ⟨HL.out.2.2.below, by have := HL.out.2.2.f; omega, by have := HL.out.2.2.s; omega⟩)).mono ?_
  rintro e w2 ⟨vo, vs, vn, vr, rfl, ro, rs, rn, rr, rd, d2⟩
  have DD := hide (HD1.out.trans (d2.mono HD1.out.size))
  have e0 : w2.heap[w.heap.size]? = some (.cells #[.string ⟨#[]⟩, .slice none 0 0, .slice none 0 0, .slice none 0 0, .slice none 0 0] 26 (0, 0)) := (DD.out.block _ (by have := HD.out.2.2.2; omega)).trans HD.out.2.1
  have e1 : w2.heap[w.heap.size + 1]? = some (.cells #[.int .i64 0, .int .i64 0] 29 (0, 0)) := (DD.out.block _ (by have := HD.out.2.2.2; omega)).trans HD.out.2.2.1
  have o0 : w2.cell? ⟨w.heap.size, 0, none⟩ = some (.string ⟨#[]⟩) := cell_of e0 rfl
  have o1 : w2.cell? ⟨w.heap.size, 1, none⟩ = some (.slice none 0 0) := cell_of e0 rfl
  have o2 : w2.cell? ⟨w.heap.size, 2, none⟩ = some (.slice none 0 0) := cell_of e0 rfl
  have o3 : w2.cell? ⟨w.heap.size, 3, none⟩ = some (.slice none 0 0) := cell_of e0 rfl
  have o4 : w2.cell? ⟨w.heap.size, 4, none⟩ = some (.slice none 0 0) := cell_of e0 rfl
  have f0 : w2.frozen? ⟨w.heap.size, 0, none⟩ = false := by simp [World.frozen?, e0]
  have f1 : w2.frozen? ⟨w.heap.size, 1, none⟩ = false := by simp [World.frozen?, e0]
  have f2 : w2.frozen? ⟨w.heap.size, 2, none⟩ = false := by simp [World.frozen?, e0]
  have f3 : w2.frozen? ⟨w.heap.size, 3, none⟩ = false := by simp [World.frozen?, e0]
  have f4 : w2.frozen? ⟨w.heap.size, 4, none⟩ = false := by simp [World.frozen?, e0]
  have p0 : w2.cell? ⟨w.heap.size + 1, 0, none⟩ = some (.int .i64 0) := cell_of e1 rfl
  have p1 : w2.cell? ⟨w.heap.size + 1, 1, none⟩ = some (.int .i64 0) := cell_of e1 rfl
  have g0 : w2.frozen? ⟨w.heap.size + 1, 0, none⟩ = false := by simp [World.frozen?, e1]
  have g1 : w2.frozen? ⟨w.heap.size + 1, 1, none⟩ = false := by simp [World.frozen?, e1]
  obtain ⟨ao, no, co, rfl⟩ := row_form ro
  obtain ⟨asx, ns, cs, rfl⟩ := row_form rs
  obtain ⟨an, nn, cn, rfl⟩ := row_form rn
  obtain ⟨ar, nr, cr, rfl⟩ := row_form rr
  have HRS := hide (And.intro ro (And.intro rs (And.intro rn (And.intro rr rd))))
  have HS := hide (set57 w2 w.heap.size (.string (contF s).ti) (.slice ao no co) (.slice asx ns cs) (.slice an nn cn) (.slice ar nr cr) (.int .i64 0) (.int .i64 0) _ _ _ _ _ _ _ e0 e1)
  clear e0 e1 ro rs rn rr rd d2
  go_wp2
  obtain ⟨r0, r1, rw1⟩ := HS.out
  obtain ⟨ro, rs, rn, rr, rd⟩ := HRS.out
  have zz : w.heap.size + 2 ≤ w1.heap.size := by have := HD.out.2.2.2; have := HD1.out.size; omega
  refine bodyPost_ret (results_cell2 (p := 2) (q := 3) (ty := 26) (uy := 29) rfl _ _ w.heap.size (w.heap.size + 1) 26 29 _ _ (0, 0) (0, 0) _ _ rfl rfl r0 r1 Tryz.underlying26 rfl (by kernel_rfl) Tryz.underlying29 rfl (by kernel_rfl)) rfl ?_
  have nb : ∀ {v : Value} {B e sz n : Nat} {xs : List Value}, w1.heap.size ≤ B → w2.ownsRow B e sz v n xs → ∀ k, v.ownBlock = some k → ¬ (k = w.heap.size ∨ k = w.heap.size + 1) := fun hB h k hk e => by have := (h.lt k hk).1; omega
  refine ⟨_, _, _, _, rfl, owns_mono (row_only ro rw1 (nb (Nat.le_refl _) ro)) (by omega), owns_mono (row_only rs rw1 (nb (Nat.le_refl _) rs)) (by omega), owns_mono (row_only rn rw1 (nb (Nat.le_refl _) rn)) (by omega), owns_mono (row_only rr rw1 (nb (Nat.le_refl _) rr)) (by omega), rd, ?_⟩
  exact (HD.out.1.trans (DD.out.mono HD.out.1.size)).trans (rw1.toBelow (by have := HD.out.1.size; have := DD.out.size; omega) (fun k hk => by omega))
end Go.Proofs.YtmagchclmmphaaaGreatDoor
