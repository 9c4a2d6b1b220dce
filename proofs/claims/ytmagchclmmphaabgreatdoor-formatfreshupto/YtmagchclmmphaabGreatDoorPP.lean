import Derived.Test.YtmagchclmmphaabGreatDoorWN
import Derived.Test.YtmagchclmmphaabGreatDoorLx
namespace Go.Proofs.YtmagchclmmphaabGreatDoor
open Go.RowKit Go.Maps
attribute [local go_sem] Oper.semAt_some

theorem results_cell2 {P : Program} {fn : Func} {p q : Tmp} {ty uy : TypeId} (h : fn.results = #[.cell p ty, .cell q uy]) (tmps : Array Value) (w : World) (g k : Nat) (t u : TypeId) (cs ds : Array Value) (fr fs : Nat × Nat) (d e : TypeDesc)
    (hp : tmps.getD p undef = .pointer (some ⟨g, 0, none⟩)) (hq : tmps.getD q undef = .pointer (some ⟨k, 0, none⟩)) (hg : w.heap[g]? = some (.cells cs t fr)) (hk : w.heap[k]? = some (.cells ds u fs))
    (hu : P.underlying ty = some d) (hd : (match d with | .struct _ | .array _ _ => true | _ => false) = true) (hi : (P.info? ty).map (·.size) = some cs.size)
    (hv : P.underlying uy = some e) (he : (match e with | .struct _ | .array _ _ => true | _ => false) = true) (hj : (P.info? uy).map (·.size) = some ds.size) :
    (results fn tmps).run P w = .ok (.tuple #[.agg cs, .agg ds]) w := by
  have hp' : tmps[p]?.getD undef = .pointer (some ⟨g, 0, none⟩) := by simpa using hp
  have hq' : tmps[q]?.getD undef = .pointer (some ⟨k, 0, none⟩) := by simpa using hq
  simp [results, h, hp', hq', asAddr, run_loadVar_row w g t ty cs fr d hg hu hd hi, run_loadVar_row w k u uy ds fs e hk hv he hj]
theorem set57 (w : World) (X : Nat) (v0 v1 v2 v3 v4 u0 u1 a0 a1 a2 a3 a4 b0 b1 : Value) (h0 : w.heap[X]? = some (.cells #[a0, a1, a2, a3, a4] 32 (0, 0))) (h1 : w.heap[X + 1]? = some (.cells #[b0, b1] 43 (0, 0))) :
    let W := ((((((w.setCell ⟨X, 0, none⟩ v0).setCell ⟨X, 1, none⟩ v1).setCell ⟨X, 2, none⟩ v2).setCell ⟨X, 3, none⟩ v3).setCell ⟨X, 4, none⟩ v4).setCell ⟨X + 1, 0, none⟩ u0).setCell ⟨X + 1, 1, none⟩ u1
    W.heap[X]? = some (.cells #[v0, v1, v2, v3, v4] 32 (0, 0)) ∧ W.heap[X + 1]? = some (.cells #[u0, u1] 43 (0, 0)) ∧ Only w W (fun k => k = X ∨ k = X + 1) := by
  intro W
  have q0 := heap_setCell_same _ _ 4 _ 32 v4 (heap_setCell_same _ _ 3 _ 32 v3 (heap_setCell_same _ _ 2 _ 32 v2 (heap_setCell_same _ _ 1 _ 32 v1 (heap_setCell_same _ _ 0 _ 32 v0 h0))))
  obtain ⟨W5, hW5⟩ : ∃ W5, ((((w.setCell ⟨X, 0, none⟩ v0).setCell ⟨X, 1, none⟩ v1).setCell ⟨X, 2, none⟩ v2).setCell ⟨X, 3, none⟩ v3).setCell ⟨X, 4, none⟩ v4 = W5 := ⟨_, rfl⟩
  rw [hW5] at q0
  have eW : W = (W5.setCell ⟨X + 1, 0, none⟩ u0).setCell ⟨X + 1, 1, none⟩ u1 := by rw [← hW5]
  have o5 : Only w W5 (fun k => k = X) := by
    rw [← hW5]
    exact ((((only_set w _ 0 _).trans (only_set _ _ 1 _)).trans (only_set _ _ 2 _)).trans (only_set _ _ 3 _)).trans (only_set _ _ 4 _)
  have h15 : W5.heap[X + 1]? = some (.cells #[b0, b1] 43 (0, 0)) := (o5.block _ (Array.getElem?_eq_some_iff.1 h1).1 (by omega)).trans h1
  have q1 := heap_setCell_same _ _ 1 _ 43 u1 (heap_setCell_same _ _ 0 _ 43 u0 h15)
  rw [eW]
  refine ⟨?_, q1, ?_⟩
  · exact (Below.heap_setCell _ _ _ _ (show X ≠ X + 1 by omega)).trans ((Below.heap_setCell _ _ _ _ (show X ≠ X + 1 by omega)).trans q0)
  · have o6 : Only W5 ((W5.setCell ⟨X + 1, 0, none⟩ u0).setCell ⟨X + 1, 1, none⟩ u1) (fun k => k = X ∨ k = X + 1) := ((only_set W5 _ 0 _).trans (only_set _ _ 1 _)).mono (fun k _ h => .inr h)
    exact (o5.mono (fun k _ h => .inl h)).trans o6
theorem err_two (s : ByteArray) : errF s = 0 ∨ errF s = 30 := by unfold errF; split <;> simp

set_option maxRecDepth 100000 in
set_option maxHeartbeats 2000000 in
/-- A text that is no file. -/
theorem parse_bad (s : ByteArray) (w : World) (hT : Hid (RowsAt w ∧ 1 < w.heap.size)) (hsz : s.size ≤ 134217728) (he : errF s = 30) :
    Calls Tryz.prog 13 #[.string s] w fun e w' => e = .returned (.tuple #[.agg #[.string ⟨#[]⟩, .slice none 0 0, .slice none 0 0, .slice none 0 0, .slice none 0 0], .agg #[.int .i64 30, .int .i64 (lenF s : Nat)]]) ∧ Below w.heap.size w w' := by
  obtain ⟨W0, hW0⟩ : ∃ W0, (w.alloc (.cells #[.string ⟨#[]⟩, .slice none 0 0, .slice none 0 0, .slice none 0 0, .slice none 0 0] 32)).alloc (.cells #[.int .i64 0, .int .i64 0] 43) = W0 := ⟨_, rfl⟩
  have d0 : Below w.heap.size w W0 := by rw [← hW0]; exact ((Below.refl _ _).alloc (Nat.le_refl _) _).alloc (by simp) _
  have b0 : W0.heap[w.heap.size]? = some (.cells #[.string ⟨#[]⟩, .slice none 0 0, .slice none 0 0, .slice none 0 0, .slice none 0 0] 32 (0, 0)) := by
    rw [← hW0]; exact (Below.heap_alloc _ _ _ (by simp)).trans (World.alloc_heap_new _ _)
  have b1 : W0.heap[w.heap.size + 1]? = some (.cells #[.int .i64 0, .int .i64 0] 43 (0, 0)) := by
    rw [← hW0]
    have := World.alloc_heap_new (w.alloc (.cells #[.string ⟨#[]⟩, .slice none 0 0, .slice none 0 0, .slice none 0 0, .slice none 0 0] 32)) (.cells #[.int .i64 0, .int .i64 0] 43)
    simpa using this
  have z0 : w.heap.size + 2 = W0.heap.size := by rw [← hW0]; simp
  have HC := check_any s W0 (hT.out.1.below d0 hT.out.2) (by omega) hsz
  rw [he] at HC
  have HD := hide (And.intro d0 (And.intro b0 (And.intro b1 z0)))
  clear d0 b0 b1 z0
  go_enter Tryz.func13, Tryz.ntmps13
  go_wp2_with fail
  refine HC.mono ?_
  rintro e w1 ⟨rfl, d1⟩
  have e0 : w1.heap[w.heap.size]? = some (.cells #[.string ⟨#[]⟩, .slice none 0 0, .slice none 0 0, .slice none 0 0, .slice none 0 0] 32 (0, 0)) := (d1.block _ (by have := HD.out.2.2.2; omega)).trans HD.out.2.1
  have e1 : w1.heap[w.heap.size + 1]? = some (.cells #[.int .i64 0, .int .i64 0] 43 (0, 0)) := (d1.block _ (by have := HD.out.2.2.2; omega)).trans HD.out.2.2.1
  have HB := hide (HD.out.1.trans (d1.mono HD.out.1.size))
  clear d1 HC
  have o0 : w1.cell? ⟨w.heap.size, 0, none⟩ = some (.string ⟨#[]⟩) := cell_of e0 rfl
  have o1 : w1.cell? ⟨w.heap.size, 1, none⟩ = some (.slice none 0 0) := cell_of e0 rfl
  have o2 : w1.cell? ⟨w.heap.size, 2, none⟩ = some (.slice none 0 0) := cell_of e0 rfl
  have o3 : w1.cell? ⟨w.heap.size, 3, none⟩ = some (.slice none 0 0) := cell_of e0 rfl
  have o4 : w1.cell? ⟨w.heap.size, 4, none⟩ = some (.slice none 0 0) := cell_of e0 rfl
  have f0 : w1.frozen? ⟨w.heap.size, 0, none⟩ = false := by simp [World.frozen?, e0]
  have f1 : w1.frozen? ⟨w.heap.size, 1, none⟩ = false := by simp [World.frozen?, e0]
  have f2 : w1.frozen? ⟨w.heap.size, 2, none⟩ = false := by simp [World.frozen?, e0]
  have f3 : w1.frozen? ⟨w.heap.size, 3, none⟩ = false := by simp [World.frozen?, e0]
  have f4 : w1.frozen? ⟨w.heap.size, 4, none⟩ = false := by simp [World.frozen?, e0]
  have p0 : w1.cell? ⟨w.heap.size + 1, 0, none⟩ = some (.int .i64 0) := cell_of e1 rfl
  have p1 : w1.cell? ⟨w.heap.size + 1, 1, none⟩ = some (.int .i64 0) := cell_of e1 rfl
  have g0 : w1.frozen? ⟨w.heap.size + 1, 0, none⟩ = false := by simp [World.frozen?, e1]
  have g1 : w1.frozen? ⟨w.heap.size + 1, 1, none⟩ = false := by simp [World.frozen?, e1]
  have HE := hide (And.intro e0 e1)
  clear e0 e1
  have HS := hide (set57 w1 w.heap.size (.string ⟨#[]⟩) (.slice none 0 0) (.slice none 0 0) (.slice none 0 0) (.slice none 0 0) (.int .i64 30) (.int .i64 (lenF s : Nat)) _ _ _ _ _ _ _ HE.out.1 HE.out.2)
  go_wp2
  obtain ⟨r0, r1, ro⟩ := HS.out
  refine bodyPost_ret (results_cell2 (p := 2) (q := 3) (ty := 32) (uy := 43) rfl _ _ w.heap.size (w.heap.size + 1) 32 43 _ _ (0, 0) (0, 0) _ _ rfl rfl r0 r1 Tryz.underlying32 rfl (by kernel_rfl) Tryz.underlying43 rfl (by kernel_rfl)) rfl ?_
  exact ⟨rfl, HB.out.trans (ro.toBelow HB.out.size (fun k hk => by omega))⟩

set_option maxRecDepth 100000 in
set_option maxHeartbeats 2000000 in
/-- A file. -/
theorem parse_ok (s : ByteArray) (w : World) (hT : Hid (RowsAt w ∧ BytesAt w ∧ 1 < w.heap.size)) (hsz : s.size ≤ 129999999) (he : errF s = 0) :
    Calls Tryz.prog 13 #[.string s] w fun e w' => ∃ vo vs vn vr, e = .returned (.tuple #[.agg #[.string (contF s).ti, vo, vs, vn, vr], .agg #[.int .i64 0, .int .i64 0]]) ∧ w'.ownsRow w.heap.size 66 2 vo (contF s).O.length ((contF s).O.flatMap kOps.cs) ∧ w'.ownsRow w.heap.size 9 1 vs (contF s).S.length ((contF s).S.flatMap kText.cs) ∧ w'.ownsRow w.heap.size 9 1 vn (finN (contF s)).length (strV (namesAt (finN (contF s)) (contF s).S)) ∧ w'.ownsRow w.heap.size 68 3 vr (contF s).R.length ((contF s).R.flatMap kRules.cs) ∧ vs.ownBlock ≠ vn.ownBlock ∧ Below w.heap.size w w' := by
  obtain ⟨W0, hW0⟩ : ∃ W0, (w.alloc (.cells #[.string ⟨#[]⟩, .slice none 0 0, .slice none 0 0, .slice none 0 0, .slice none 0 0] 32)).alloc (.cells #[.int .i64 0, .int .i64 0] 43) = W0 := ⟨_, rfl⟩
  have d0 : Below w.heap.size w W0 := by rw [← hW0]; exact ((Below.refl _ _).alloc (Nat.le_refl _) _).alloc (by simp) _
  have b0 : W0.heap[w.heap.size]? = some (.cells #[.string ⟨#[]⟩, .slice none 0 0, .slice none 0 0, .slice none 0 0, .slice none 0 0] 32 (0, 0)) := by
    rw [← hW0]; exact (Below.heap_alloc _ _ _ (by simp)).trans (World.alloc_heap_new _ _)
  have b1 : W0.heap[w.heap.size + 1]? = some (.cells #[.int .i64 0, .int .i64 0] 43 (0, 0)) := by
    rw [← hW0]
    have := World.alloc_heap_new (w.alloc (.cells #[.string ⟨#[]⟩, .slice none 0 0, .slice none 0 0, .slice none 0 0, .slice none 0 0] 32)) (.cells #[.int .i64 0, .int .i64 0] 43)
    simpa using this
  have z0 : w.heap.size + 2 = W0.heap.size := by rw [← hW0]; simp
  have HC := check_any s W0 (hT.out.1.below d0 (by have := hT.out.2.2; omega)) (by omega) (by omega)
  rw [he] at HC
  have HD := hide (And.intro d0 (And.intro b0 (And.intro b1 z0)))
  have HTB := hide (And.intro (hT.out.2.1.below d0 hT.out.2.2) (show 1 < W0.heap.size by have := hT.out.2.2; omega))
  have HL := hide (chain_of s hsz he)
  clear d0 b0 b1 z0
  go_enter Tryz.func13, Tryz.ntmps13
  go_wp2_with fail
  refine HC.mono ?_
  rintro e w1 ⟨rfl, d1⟩
  have HD1 := hide d1
  clear d1 HC
  go_wp2_with fail
  refine (read_any s _ w1 (by omega) (hide HL.out.1) (HTB.out.1.below HD1.out HTB.out.2) (Nat.lt_of_lt_of_le HTB.out.2 HD1.out.size) (contF s) (hide (by simp only [List.take_length]; rfl)) (hide (by rw [HL.out.2.1]; omega)) (hide ⟨HL.out.2.2.below, by have := HL.out.2.2.f; omega, by have := HL.out.2.2.s; omega⟩)).mono ?_
  rintro e w2 ⟨vo, vs, vn, vr, rfl, ro, rs, rn, rr, rd, d2⟩
  have DD := hide (HD1.out.trans (d2.mono HD1.out.size))
  have e0 : w2.heap[w.heap.size]? = some (.cells #[.string ⟨#[]⟩, .slice none 0 0, .slice none 0 0, .slice none 0 0, .slice none 0 0] 32 (0, 0)) := (DD.out.block _ (by have := HD.out.2.2.2; omega)).trans HD.out.2.1
  have e1 : w2.heap[w.heap.size + 1]? = some (.cells #[.int .i64 0, .int .i64 0] 43 (0, 0)) := (DD.out.block _ (by have := HD.out.2.2.2; omega)).trans HD.out.2.2.1
  have o0 : w2.cell? ⟨w.heap.size, 0, none⟩ = some (.string ⟨#[]⟩) := cell_of e0 rfl
  have o1 : w2.cell? ⟨w.heap.size, 1, none⟩ = some (.slice none 0 0) := cell_of e0 rfl
  have o2 : w2.cell? ⟨w.heap.size, 2, none⟩ = some (.slice none 0 0) := cell_of e0 rfl
  have o3 : w2.cell? ⟨w.heap.size, 3, none⟩ = some (.slice none 0 0) := cell_of e0 rfl
  have o4 : w2.cell? ⟨w.heap.size, 4, none⟩ = some (.slice none 0 0) := cell_of e0 rfl
  have f0 : w2.frozen? ⟨w.heap.size, 0, none⟩ = false := by simp [World.frozen?, e0]
  have f1 : w2.frozen? ⟨w.heap.size, 1, none⟩ = false := by simp [World.frozen?, e0]
  have f2 : w2.frozen? ⟨w.heap.size, 2, none⟩ = false := by simp [World.frozen?, e0]
  have f3 : w2.frozen? ⟨w.heap.size, 3, none⟩ = false := by simp [World.frozen?, e0]
  have f4 : w2.frozen? ⟨w.heap.size, 4, none⟩ = false := by simp [World.frozen?, e0]
  have p0 : w2.cell? ⟨w.heap.size + 1, 0, none⟩ = some (.int .i64 0) := cell_of e1 rfl
  have p1 : w2.cell? ⟨w.heap.size + 1, 1, none⟩ = some (.int .i64 0) := cell_of e1 rfl
  have g0 : w2.frozen? ⟨w.heap.size + 1, 0, none⟩ = false := by simp [World.frozen?, e1]
  have g1 : w2.frozen? ⟨w.heap.size + 1, 1, none⟩ = false := by simp [World.frozen?, e1]
  obtain ⟨ao, no, co, rfl⟩ := row_form ro
  obtain ⟨asx, ns, cs, rfl⟩ := row_form rs
  obtain ⟨an, nn, cn, rfl⟩ := row_form rn
  obtain ⟨ar, nr, cr, rfl⟩ := row_form rr
  have HRS := hide (And.intro ro (And.intro rs (And.intro rn (And.intro rr rd))))
  have HS := hide (set57 w2 w.heap.size (.string (contF s).ti) (.slice ao no co) (.slice asx ns cs) (.slice an nn cn) (.slice ar nr cr) (.int .i64 0) (.int .i64 0) _ _ _ _ _ _ _ e0 e1)
  clear e0 e1 ro rs rn rr rd d2
  go_wp2
  obtain ⟨r0, r1, rw1⟩ := HS.out
  obtain ⟨ro, rs, rn, rr, rd⟩ := HRS.out
  have zz : w.heap.size + 2 ≤ w1.heap.size := by have := HD.out.2.2.2; have := HD1.out.size; omega
  refine bodyPost_ret (results_cell2 (p := 2) (q := 3) (ty := 32) (uy := 43) rfl _ _ w.heap.size (w.heap.size + 1) 32 43 _ _ (0, 0) (0, 0) _ _ rfl rfl r0 r1 Tryz.underlying32 rfl (by kernel_rfl) Tryz.underlying43 rfl (by kernel_rfl)) rfl ?_
  have nb : ∀ {v : Value} {B e sz n : Nat} {xs : List Value}, w1.heap.size ≤ B → w2.ownsRow B e sz v n xs → ∀ k, v.ownBlock = some k → ¬ (k = w.heap.size ∨ k = w.heap.size + 1) := fun hB h k hk e => by have := (h.lt k hk).1; omega
  refine ⟨_, _, _, _, rfl, owns_mono (row_only ro rw1 (nb (Nat.le_refl _) ro)) (by omega), owns_mono (row_only rs rw1 (nb (Nat.le_refl _) rs)) (by omega), owns_mono (row_only rn rw1 (nb (Nat.le_refl _) rn)) (by omega), owns_mono (row_only rr rw1 (nb (Nat.le_refl _) rr)) (by omega), rd, ?_⟩
  exact (HD.out.1.trans (DD.out.mono HD.out.1.size)).trans (rw1.toBelow (by have := HD.out.1.size; have := DD.out.size; omega) (fun k hk => by omega))
end Go.Proofs.YtmagchclmmphaabGreatDoor
namespace Go.Proofs.YtmagchclmmphaabGreatDoor
open Go.RowKit Go.Maps
attribute [local go_sem] Oper.semAt_some

theorem rise_in {S : List ByteArray} : ∀ {F : List ByteArray} {z : Int}, riseOk S z F = true → ∀ x ∈ F, x ∈ S
  | [], _, _, x, hx => by cases hx
  | y :: t, z, h, x, hx => by
    unfold riseOk at h
    simp only [Bool.and_eq_true, decide_eq_true_eq] at h
    rcases List.mem_cons.1 hx with rfl | hx
    · have := List.findIdx_getElem (p := fun y => decide (y = x)) (w := h.1.1)
      have e := of_decide_eq_true this
      rw [← e]; exact List.getElem_mem _
    · exact rise_in h.2 x hx
theorem wok_of {ti : ByteArray} {O : List OpI} {S F : List ByteArray} {R : List RuT} (h : valF ti O S F R = true) (hlo : O.length ≤ 4194304) (hls : S.length ≤ 4194304) (hlf : F.length ≤ 4194304) (hlr : R.length ≤ 4194304) : WOk ti (O.map opN) S F R := by
  unfold valF namesOk at h
  simp only [Bool.and_eq_true, decide_eq_true_eq] at h
  obtain ⟨⟨⟨⟨⟨⟨⟨h1, h2⟩, h3⟩, h4⟩, h5⟩, h6⟩, h7⟩, h8⟩ := h
  have hs : ∀ x ∈ S, x.size ≤ 16 := fun x hx => vld_size (List.all_eq_true.1 h2 x hx)
  have ho : ∀ x ∈ O.map opN, x.1.size ≤ 16 ∧ x.2 ≤ 1 := by
    intro x hx
    obtain ⟨y, hy, rfl⟩ := List.mem_map.1 hx
    have q := List.all_eq_true.1 h1 _ hy
    simp only [opOk, Bool.and_eq_true, decide_eq_true_eq] at q
    exact ⟨vld_size q.1.1, show y.2.toNat ≤ 1 by omega⟩
  refine ⟨vld_size h3, ho, hs, fun x hx => hs x (rise_in h7 x hx), fun x hx => ?_, by rw [List.length_map]; exact hlo, hls, hlf, hlr⟩
  have q := List.all_eq_true.1 h8 x hx
  unfold ruleOk at q
  simp only [Bool.and_eq_true, Bool.or_eq_true, decide_eq_true_eq] at q
  refine ⟨(ho _ (memO_iff.1 q.1.1)).1, ?_, hs _ (memS_iff.1 q.1.2)⟩
  rcases q.2 with e | e
  · rw [e]; exact Nat.zero_le _
  · exact hs _ (memS_iff.1 e)

set_option maxRecDepth 100000 in
set_option maxHeartbeats 2000000 in
theorem print_any (w : World) (ti : ByteArray) (ao asx af ar : Option Addr) (co cs cf cr : Nat) (O : List OpI) (S F : List ByteArray) (R : List RuT) (hT : Hid (BytesAt w ∧ 1 < w.heap.size)) (hO : Hid (RdO w ao O)) (hS : Hid (ReadsS w asx S)) (hF : Hid (ReadsS w af F)) (hR : Hid (RdRu w ar R))
    (hok : Hid ((∀ x ∈ F, kText.ok x) ∧ ∀ x ∈ R, kRules.ok x)) (hlo : O.length ≤ 4194304) (hls : S.length ≤ 4194304) (hlf : F.length ≤ 4194304) (hlr : R.length ≤ 4194304) :
    Calls Tryz.prog 12 #[.agg #[.string ti, .slice ao O.length co, .slice asx S.length cs, .slice af F.length cf, .slice ar R.length cr]] w fun e w' => e = .returned (.tuple #[.string (if valF ti O S F R then writeT ti (O.map opN) S F R else ⟨#[]⟩), .int .i64 (if valF ti O S F R then 0 else 5)]) ∧ Below w.heap.size w w' := by
  obtain ⟨W0, hW0⟩ : ∃ W0, w.alloc (.cells #[.string ti, .slice ao O.length co, .slice asx S.length cs, .slice af F.length cf, .slice ar R.length cr] 32) = W0 := ⟨_, rfl⟩
  have d0 : Below w.heap.size w W0 := by rw [← hW0]; exact (Below.refl _ _).alloc (Nat.le_refl _) _
  have b0 : W0.heap[w.heap.size]? = some (.cells #[.string ti, .slice ao O.length co, .slice asx S.length cs, .slice af F.length cf, .slice ar R.length cr] 32 (0, 0)) := by rw [← hW0]; exact World.alloc_heap_new _ _
  have HBX : Hid (Bx5 W0 w.heap.size (.string ti) (.slice ao O.length co) (.slice asx S.length cs) (.slice af F.length cf) (.slice ar R.length cr)) := hide ⟨cell_of b0 rfl, cell_of b0 rfl, cell_of b0 rfl, cell_of b0 rfl, cell_of b0 rfl⟩
  obtain ⟨c0, c1, c2, c3, c4⟩ := HBX.out
  have T1 := valid_file W0 ti ao asx af ar co cs cf cr O S F R (hide ⟨hT.out.1.below d0 hT.out.2, Nat.lt_of_lt_of_le hT.out.2 d0.size⟩) (hide (hO.out.on d0)) (hide (hS.out.below d0)) (hide (hF.out.below d0)) (hide (hR.out.on d0)) hok hlo hls hlf hlr
  have HD := hide d0
  have HO := hide (hO.out.on d0)
  have HS := hide (hS.out.below d0)
  have HF := hide (hF.out.below d0)
  have HR := hide (hR.out.on d0)
  clear hT hO hS hF hR d0 b0
  cases hv : valF ti O S F R with
  | false =>
    rw [hv] at T1
    go_enter Tryz.func12, Tryz.ntmps12
    go_wp2_with (go_at_call 40; refine T1.mono ?_; rintro e w1 ⟨rfl, d1⟩)
    go_ret2
    exact ⟨rfl, HD.out.trans (d1.mono HD.out.size)⟩
  | true =>
    rw [hv] at T1
    have hw := wok_of hv hlo hls hlf hlr
    have hn : O.all opOk = true := by
      unfold valF namesOk at hv
      simp only [Bool.and_eq_true] at hv
      exact hv.1.1.1.1.1.1.1
    have T2 : Hid (∀ W, Below W0.heap.size W0 W → Calls Tryz.prog 41 #[.agg #[.string ti, .slice ao O.length co, .slice asx S.length cs, .slice af F.length cf, .slice ar R.length cr]] W fun e w' => e = .returned (.string (writeT ti (O.map opN) S F R)) ∧ Below W.heap.size W w') := hide fun W d => by
      have q := write_any W ti ao asx af ar co cs cf cr (O.map opN) S F R (hide (ops_nat hn (HO.out.on d))) (hide (HS.out.below d)) (hide (HF.out.below d)) (hide (HR.out.on d)) (hide hw)
      rwa [List.length_map] at q
    clear hw hn
    go_enter Tryz.func12, Tryz.ntmps12
    go_wp2_with (first
      | (go_at_call 40; refine T1.mono ?_; rintro e w1 ⟨rfl, d1⟩; have D1 := hide d1; clear c0 c1 c2 c3 c4 d1; obtain ⟨c0, c1, c2, c3, c4⟩ := HBX.out.on D1.out)
      | (go_at_call 41; refine (T2.out w1 D1.out).mono ?_; rintro e w2 ⟨rfl, d2⟩))
    go_ret2
    exact ⟨rfl, HD.out.trans ((D1.out.trans (d2.mono D1.out.size)).mono HD.out.size)⟩
end Go.Proofs.YtmagchclmmphaabGreatDoor
