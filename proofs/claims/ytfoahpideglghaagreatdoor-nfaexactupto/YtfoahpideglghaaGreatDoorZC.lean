import Derived.Test.YtfoahpideglghaaGreatDoorZB
namespace Go.Proofs.YtfoahpideglghaaGreatDoor
open Go.RowKit Go.Maps Go.Shelf
attribute [local go_sem] Oper.semAt_some

/-! ### The document's Edges -/
/-- A list of edges that can be read. -/
def rdEP (X : List EdT) : MkP := fun x _ _ W => ∃ b c, x = .slice b X.length c ∧ RdE W b X
theorem rdEP_mono {X : List EdT} : MonoP (rdEP X) := fun _ _ _ _ _ _ d ⟨b, c, e, o⟩ => ⟨b, c, e, o.on d⟩
/-- Rows of one's own. -/
def ownE (B : Nat) (X : List EdT) : MkP := fun x _ _ W => W.ownsRow B 59 3 x X.length (X.flatMap encE)
theorem ownE_mono {B : Nat} {X : List EdT} : MonoP (ownE B X) := fun _ _ _ _ _ _ d h => own_below h d
theorem own_rdE {W : World} {B c : Nat} {b : Option Addr} {X : List EdT} (h : W.ownsRow B 59 3 (.slice b X.length c) X.length (X.flatMap encE)) : RdE W b X := by
  rcases h.2 with ⟨hv, hn⟩ | ⟨g, cap, cur, hv, _⟩
  · intro j hj; omega
  · cases hv
    exact rdE_own h
theorem mrg_mem : ∀ (A B : List EdT) (x : EdT), x ∈ mrgE A B ↔ x ∈ A ∨ x ∈ B
  | [], B, x => by simp [mrgE]
  | a :: A, [], x => by simp [mrgE]
  | a :: A, b :: B, x => by
    rw [mrgE]
    split
    · rw [List.mem_cons, mrg_mem A (b :: B), List.mem_cons (a := x) (l := A)]; exact or_assoc.symm
    · split
      · rename_i h; subst h
        rw [List.mem_cons, mrg_mem A B, List.mem_cons, List.mem_cons]
        constructor
        · rintro (h | h | h)
          · exact Or.inl (Or.inl h)
          · exact Or.inl (Or.inr h)
          · exact Or.inr (Or.inr h)
        · rintro ((h | h) | (h | h))
          · exact Or.inl h
          · exact Or.inr (Or.inl h)
          · exact Or.inl h
          · exact Or.inr (Or.inr h)
      · rw [List.mem_cons, mrg_mem (a :: A) B, List.mem_cons (a := x) (l := B)]
        constructor
        · rintro (h | h | h)
          · exact Or.inr (Or.inl h)
          · exact Or.inl h
          · exact Or.inr (Or.inr h)
        · rintro (h | h | h)
          · exact Or.inr (Or.inl h)
          · exact Or.inl h
          · exact Or.inr (Or.inr h)
termination_by A B => A.length + B.length
theorem mrg_ss : ∀ (A B : List EdT), SsE A → SsE B → SsE (mrgE A B)
  | [], B, _, hB => by simpa [mrgE] using hB
  | a :: A, [], hA, _ => by simpa [mrgE] using hA
  | a :: A, b :: B, hA, hB => by
    have hA' := List.pairwise_cons.1 hA
    have hB' := List.pairwise_cons.1 hB
    have tr : ∀ {x y z : EdT}, ltE x y = true → ltE y z = true → ltE x z = true := fun h1 h2 => by rw [ltE_iff] at h1 h2 ⊢; omega
    rw [mrgE]
    split
    · rename_i hab
      refine List.pairwise_cons.2 ⟨fun y hy => ?_, mrg_ss A (b :: B) hA'.2 hB⟩
      rcases (mrg_mem A (b :: B) y).1 hy with h | h
      · exact hA'.1 y h
      · rcases List.mem_cons.1 h with rfl | h
        · exact hab
        · exact tr hab (hB'.1 y h)
    · rename_i hab
      split
      · rename_i h; subst h
        refine List.pairwise_cons.2 ⟨fun y hy => ?_, mrg_ss A B hA'.2 hB'.2⟩
        rcases (mrg_mem A B y).1 hy with h | h
        · exact hA'.1 y h
        · exact hB'.1 y h
      · rename_i hne
        have hba : ltE b a = true := by
          cases h : ltE b a with
          | true => rfl
          | false => exact absurd (totE a b (by simpa using hab) h) hne
        refine List.pairwise_cons.2 ⟨fun y hy => ?_, mrg_ss (a :: A) B hA hB'.2⟩
        rcases (mrg_mem (a :: A) B y).1 hy with h | h
        · rcases List.mem_cons.1 h with rfl | h
          · exact hba
          · exact tr hba (hA'.1 y h)
        · exact hB'.1 y h
termination_by A B => A.length + B.length
theorem mrg_rise (A B : List EdT) : mrgE (riseE A) (riseE B) = riseE (A ++ B) :=
  ss_eq _ _ (mrg_ss _ _ (riseE_ss A) (riseE_ss B)) (riseE_ss _) fun x => by rw [mrg_mem, riseE_iff, riseE_iff, riseE_iff, List.mem_append]
theorem riseE_one {L : List EdT} (h : L.length < 2) : riseE L = L :=
  ss_eq _ _ (riseE_ss _) (by
    match L, h with
    | [], _ => exact List.Pairwise.nil
    | [x], _ => exact List.pairwise_singleton _ _) fun x => riseE_iff L x
theorem RdE.take {W : World} {ao : Option Addr} {L : List EdT} (h : RdE W ao L) (k : Nat) : RdE W ao (L.take k) := fun j hj => by
  have hj2 : j < L.length := by rw [List.length_take] at hj; omega
  obtain ⟨g, o, e, q⟩ := h j hj2
  exact ⟨g, o, e, by simpa using q⟩
theorem RdE.drop {W : World} {g o : Nat} {L : List EdT} (h : RdE W (some ⟨g, o, none⟩) L) (k : Nat) : RdE W (some ⟨g, o + k * 3, none⟩) (L.drop k) := fun j hj => by
  have hj2 : k + j < L.length := by rw [List.length_drop] at hj; omega
  obtain ⟨g', o', e, q1, q2, q3⟩ := h (k + j) hj2
  cases e
  refine ⟨g, o + k * 3, rfl, ?_⟩
  have e1 : o + k * 3 + j * 3 = o + (k + j) * 3 := by omega
  rw [e1]
  simpa using And.intro q1 (And.intro q2 q3)
set_option maxRecDepth 100000 in
set_option maxHeartbeats 4000000 in
theorem edgesR_any : ∀ (n : Nat) (w : World) (ao : Option Addr) (L : List EdT) (cp : Nat), L.length ≤ n → Hid (RdE w ao L) → L.length ≤ cp → L.length ≤ 4194304 →
    Calls Tryz.prog 73 #[.slice ao L.length cp] w fun e w' => ∃ b c, e = .returned (.slice b (riseE L).length c) ∧ Hid (w'.ownsRow w.heap.size 59 3 (.slice b (riseE L).length c) (riseE L).length ((riseE L).flatMap encE)) ∧ Below w.heap.size w w' := by
  intro n
  induction n with
  | zero =>
    intro w ao L cp hn hr hc hl
    have T := merge_any w ao none L [] cp 0 hr (hide fun j hj => by simp at hj) hl (by simp)
    rw [mrg_nil] at T
    have l0 : ((L.length : Nat) : Int) < 2 := by omega
    have HE : Hid (riseE L = L) := hide (riseE_one (by omega))
    go_enter Tryz.func73, Tryz.ntmps73
    go_wp2_with (go_at_call 104; refine T.mono ?_; rintro e w2 ⟨b, c, rfl, HR, d2⟩; have HD := hide d2; clear d2)
    refine bodyPost_ret (results_tmp rfl _ _ _) rfl ?_
    exact ⟨b, c, by rw [HE.out]; rfl, by rw [HE.out]; exact HR, HD.out⟩
  | succ n ih =>
    intro w ao L cp hn hr hc hl
    by_cases h2 : L.length < 2
    · have T := merge_any w ao none L [] cp 0 hr (hide fun j hj => by simp at hj) hl (by simp)
      rw [mrg_nil] at T
      have l0 : ((L.length : Nat) : Int) < 2 := by omega
      have HE : Hid (riseE L = L) := hide (riseE_one h2)
      clear ih
      go_enter Tryz.func73, Tryz.ntmps73
      go_wp2_with (go_at_call 104; refine T.mono ?_; rintro e w2 ⟨b, c, rfl, HR, d2⟩; have HD := hide d2; clear d2)
      refine bodyPost_ret (results_tmp rfl _ _ _) rfl ?_
      exact ⟨b, c, by rw [HE.out]; rfl, by rw [HE.out]; exact HR, HD.out⟩
    · obtain ⟨h, hh⟩ : ∃ h, L.length / 2 = h := ⟨_, rfl⟩
      have hpos : 0 < L.length := by omega
      obtain ⟨g, o, hao, hq0⟩ := hr.out 0 hpos
      subst hao
      clear hq0
      have h1 : h ≤ L.length := by omega
      have h3 : 1 ≤ h ∧ h + 1 ≤ L.length := by omega
      have T1 : Hid (∀ W, Below w.heap.size w W → Calls Tryz.prog 73 #[.slice (some ⟨g, o, none⟩) h cp] W fun e w' => ∃ b c, e = .returned (.slice b (riseE (L.take h)).length c) ∧ Hid (RdE w' b (riseE (L.take h))) ∧ Below W.heap.size W w') := hide (fun W d => by
        have t := ih W (some ⟨g, o, none⟩) (L.take h) cp (by rw [List.length_take]; omega) (hide ((hr.out.on d).take h)) (by rw [List.length_take]; omega) (by rw [List.length_take]; omega)
        rw [show (L.take h).length = h by rw [List.length_take]; omega] at t
        exact t.mono fun e w' ⟨b, c, he, ho, dd⟩ => ⟨b, c, he, hide (own_rdE ho.out), dd⟩)
      have T2 : Hid (∀ W, Below w.heap.size w W → Calls Tryz.prog 73 #[.slice (some ⟨g, o + h * 3, none⟩) (L.length - h) (cp - h)] W fun e w' => ∃ b c, e = .returned (.slice b (riseE (L.drop h)).length c) ∧ Hid (RdE w' b (riseE (L.drop h))) ∧ Below W.heap.size W w') := hide (fun W d => by
        have t := ih W (some ⟨g, o + h * 3, none⟩) (L.drop h) (cp - h) (by rw [List.length_drop]; omega) (hide ((hr.out.on d).drop h)) (by rw [List.length_drop]; omega) (by rw [List.length_drop]; omega)
        rw [show (L.drop h).length = L.length - h by rw [List.length_drop]] at t
        exact t.mono fun e w' ⟨b, c, he, ho, dd⟩ => ⟨b, c, he, hide (own_rdE ho.out), dd⟩)
      have T3 : Hid (∀ W b1 c1 b2 c2, Below w.heap.size w W → RdE W b1 (riseE (L.take h)) → RdE W b2 (riseE (L.drop h)) → Calls Tryz.prog 104 #[.slice b1 (riseE (L.take h)).length c1, .slice b2 (riseE (L.drop h)).length c2] W fun e w' => ∃ b c, e = .returned (.slice b (riseE L).length c) ∧ Hid (w'.ownsRow w.heap.size 59 3 (.slice b (riseE L).length c) (riseE L).length ((riseE L).flatMap encE)) ∧ Below W.heap.size W w') := hide (fun W b1 c1 b2 c2 d r1 r2 => by
        have t := merge_any W b1 b2 (riseE (L.take h)) (riseE (L.drop h)) c1 c2 (hide r1) (hide r2) (Nat.le_trans (riseE_len _) (by rw [List.length_take]; omega)) (Nat.le_trans (riseE_len _) (by rw [List.length_drop]; omega))
        rw [mrg_rise, List.take_append_drop] at t
        refine t.mono ?_
        rintro e w' ⟨b, c, he, ho, dd⟩
        exact ⟨b, c, he, hide (owns_down ho.out d.size), dd⟩)
      have l0 : ¬ ((L.length : Nat) : Int) < 2 := by omega
      have iw : IntKind.i64.wrap ((L.length : Int) / 2) = (h : Int) := by rw [IntKind.wrap_i64]; omega
      have iw2 : (L.length : Int) / 2 = (h : Int) := by omega
      have iw3 : IntKind.i64.wrap ((h : Int)) = (h : Int) := by rw [IntKind.wrap_i64]; omega
      have iw4 : (L.length : Int).tdiv 2 = (h : Int) := by rw [Int.tdiv_eq_ediv_of_nonneg (by omega)]; omega
      have c0 : (h : Int) ≤ (cp : Int) := by omega
      have c1 : (h : Int) ≤ (L.length : Int) := by omega
      have c2 : (0 : Int) ≤ (h : Int) := by omega
      have c3 : (L.length : Int) ≤ (cp : Int) := by omega
      have c4 : ¬ cp = h := by omega
      clear ih hh hpos
      go_enter Tryz.func73, Tryz.ntmps73
      go_upto_region 3 with fail
      have hmo : MonIL 0 [vI 0 (.slice (some ⟨g, o, none⟩) L.length cp), vI 1 (.slice (some ⟨g, o, none⟩) L.length cp), vI 2 (.int .i64 (L.length : Int)), vI 3 (.int .i64 (h : Int)), vI 4 (.slice (some ⟨g, o, none⟩) h cp), pI 5 (rdEP (riseE (L.take h))), vI 6 (.slice (some ⟨g, o, none⟩) L.length cp), vI 7 (.slice (some ⟨g, o, none⟩) L.length cp), vI 8 (.int .i64 (L.length : Int)), vI 9 (.int .i64 (h : Int)), vI 10 (.slice (some ⟨g, o + h * 3, none⟩) (L.length - h) (cp - h)), pI 11 (rdEP (riseE (L.drop h))), pI 12 (ownE w.heap.size (riseE L))] := ⟨vI_mono _ _, vI_mono _ _, vI_mono _ _, vI_mono _ _, vI_mono _ _, pI_mono rdEP_mono, vI_mono _ _, vI_mono _ _, vI_mono _ _, vI_mono _ _, vI_mono _ _, pI_mono rdEP_mono, pI_mono ownE_mono, trivial⟩
      refine wp_region_sl [vI 0 (.slice (some ⟨g, o, none⟩) L.length cp), vI 1 (.slice (some ⟨g, o, none⟩) L.length cp), vI 2 (.int .i64 (L.length : Int)), vI 3 (.int .i64 (h : Int)), vI 4 (.slice (some ⟨g, o, none⟩) h cp), pI 5 (rdEP (riseE (L.take h))), vI 6 (.slice (some ⟨g, o, none⟩) L.length cp), vI 7 (.slice (some ⟨g, o, none⟩) L.length cp), vI 8 (.int .i64 (L.length : Int)), vI 9 (.int .i64 (h : Int)), vI 10 (.slice (some ⟨g, o + h * 3, none⟩) (L.length - h) (cp - h)), pI 11 (rdEP (riseE (L.drop h))), pI 12 (ownE w.heap.size (riseE L))] (by kernel_rfl) (by kernel_rfl) (by kernel_rfl) (by kernel_rfl) hmo ⟨?o0, ?o1, ?o2, ?o3, ?o4, ?o5, ?o6, ?o7, ?o8, ?o9, ?o10, ?o11, ?o12, trivial⟩ ?fin
      case o0 =>
        intro At yy W hy hb d hd K hK
        have s0 : At.tmps.getD 0 undef = .slice (some ⟨g, o, none⟩) L.length cp := hb 0 rfl
        have s0' := s0
        rw [Array.getD_eq_getD_getElem?] at s0'
        clear hd hy hb
        go_simp
        exact hK.out _ W (stp_of hmo d (Below.refl _ _)) (if_pos rfl)
      case o1 =>
        intro At yy W hy hb d hd K hK
        have s0 : At.tmps.getD 0 undef = .slice (some ⟨g, o, none⟩) L.length cp := hb 0 rfl
        have s0' := s0
        rw [Array.getD_eq_getD_getElem?] at s0'
        clear hd hy hb
        go_simp
        exact hK.out _ W (stp_of hmo d (Below.refl _ _)) (if_pos rfl)
      case o2 =>
        intro At yy W hy hb d hd K hK
        have e1 : yy 1 = .slice (some ⟨g, o, none⟩) L.length cp := by obtain ⟨_, _, _, _, e⟩ := hd ⟨1, .data⟩ (by simp) rfl rfl; exact e
        have s9 := (hy 1 _ 9 rfl rfl).trans e1
        have s9' := s9
        rw [Array.getD_eq_getD_getElem?] at s9'
        clear hd hy hb
        go_simp
        exact hK.out _ W (stp_of hmo d (Below.refl _ _)) (if_pos rfl)
      case o3 =>
        intro At yy W hy hb d hd K hK
        have e2 : yy 2 = .int .i64 (L.length : Int) := by obtain ⟨_, _, _, _, e⟩ := hd ⟨2, .data⟩ (by simp) rfl rfl; exact e
        have s10 := (hy 2 _ 10 rfl rfl).trans e2
        have s10' := s10
        rw [Array.getD_eq_getD_getElem?] at s10'
        clear hd hy hb
        go_simp
        exact hK.out _ W (stp_of hmo d (Below.refl _ _)) (if_pos rfl)
      case o4 =>
        intro At yy W hy hb d hd K hK
        have e0 : yy 0 = .slice (some ⟨g, o, none⟩) L.length cp := by obtain ⟨_, _, _, _, e⟩ := hd ⟨0, .data⟩ (by simp) rfl rfl; exact e
        have e3 : yy 3 = .int .i64 (h : Int) := by obtain ⟨_, _, _, _, e⟩ := hd ⟨3, .data⟩ (by simp) rfl rfl; exact e
        have s8 := (hy 0 _ 8 rfl rfl).trans e0
        have s8' := s8
        rw [Array.getD_eq_getD_getElem?] at s8'
        have s11 := (hy 3 _ 11 rfl rfl).trans e3
        have s11' := s11
        rw [Array.getD_eq_getD_getElem?] at s11'
        clear hd hy hb
        go_simp
        exact hK.out _ W (stp_of hmo d (Below.refl _ _)) (if_pos rfl)
      case o5 =>
        intro At yy W hy hb d hd K hK
        have e4 : yy 4 = .slice (some ⟨g, o, none⟩) h cp := by obtain ⟨_, _, _, _, e⟩ := hd ⟨4, .data⟩ (by simp) rfl rfl; exact e
        have s12 := (hy 4 _ 12 rfl rfl).trans e4
        have s12' := s12
        rw [Array.getD_eq_getD_getElem?] at s12'
        clear hd hy hb
        go_simp
        go_wp2_with (go_at_call 73; refine (T1.out _ d).mono ?_; rintro e wa ⟨b, c, rfl, hR, da⟩)
        exact hK.out _ wa (stp_of hmo d da) ⟨b, c, if_pos rfl, hR.out⟩
      case o6 =>
        intro At yy W hy hb d hd K hK
        have s0 : At.tmps.getD 0 undef = .slice (some ⟨g, o, none⟩) L.length cp := hb 0 rfl
        have s0' := s0
        rw [Array.getD_eq_getD_getElem?] at s0'
        clear hd hy hb
        go_simp
        exact hK.out _ W (stp_of hmo d (Below.refl _ _)) (if_pos rfl)
      case o7 =>
        intro At yy W hy hb d hd K hK
        have s0 : At.tmps.getD 0 undef = .slice (some ⟨g, o, none⟩) L.length cp := hb 0 rfl
        have s0' := s0
        rw [Array.getD_eq_getD_getElem?] at s0'
        clear hd hy hb
        go_simp
        exact hK.out _ W (stp_of hmo d (Below.refl _ _)) (if_pos rfl)
      case o8 =>
        intro At yy W hy hb d hd K hK
        have e7 : yy 7 = .slice (some ⟨g, o, none⟩) L.length cp := by obtain ⟨_, _, _, _, e⟩ := hd ⟨7, .data⟩ (by simp) rfl rfl; exact e
        have s15 := (hy 7 _ 15 rfl rfl).trans e7
        have s15' := s15
        rw [Array.getD_eq_getD_getElem?] at s15'
        clear hd hy hb
        go_simp
        exact hK.out _ W (stp_of hmo d (Below.refl _ _)) (if_pos rfl)
      case o9 =>
        intro At yy W hy hb d hd K hK
        have e8 : yy 8 = .int .i64 (L.length : Int) := by obtain ⟨_, _, _, _, e⟩ := hd ⟨8, .data⟩ (by simp) rfl rfl; exact e
        have s16 := (hy 8 _ 16 rfl rfl).trans e8
        have s16' := s16
        rw [Array.getD_eq_getD_getElem?] at s16'
        clear hd hy hb
        go_simp
        exact hK.out _ W (stp_of hmo d (Below.refl _ _)) (if_pos rfl)
      case o10 =>
        intro At yy W hy hb d hd K hK
        have e6 : yy 6 = .slice (some ⟨g, o, none⟩) L.length cp := by obtain ⟨_, _, _, _, e⟩ := hd ⟨6, .data⟩ (by simp) rfl rfl; exact e
        have e9 : yy 9 = .int .i64 (h : Int) := by obtain ⟨_, _, _, _, e⟩ := hd ⟨9, .data⟩ (by simp) rfl rfl; exact e
        have s14 := (hy 6 _ 14 rfl rfl).trans e6
        have s14' := s14
        rw [Array.getD_eq_getD_getElem?] at s14'
        have s17 := (hy 9 _ 17 rfl rfl).trans e9
        have s17' := s17
        rw [Array.getD_eq_getD_getElem?] at s17'
        clear hd hy hb
        go_simp
        exact hK.out _ W (stp_of hmo d (Below.refl _ _)) (if_pos rfl)
      case o11 =>
        intro At yy W hy hb d hd K hK
        have e10 : yy 10 = .slice (some ⟨g, o + h * 3, none⟩) (L.length - h) (cp - h) := by obtain ⟨_, _, _, _, e⟩ := hd ⟨10, .data⟩ (by simp) rfl rfl; exact e
        have s18 := (hy 10 _ 18 rfl rfl).trans e10
        have s18' := s18
        rw [Array.getD_eq_getD_getElem?] at s18'
        clear hd hy hb
        go_simp
        go_wp2_with (go_at_call 73; refine (T2.out _ d).mono ?_; rintro e wa ⟨b, c, rfl, hR, da⟩)
        exact hK.out _ wa (stp_of hmo d da) ⟨b, c, if_pos rfl, hR.out⟩
      case o12 =>
        intro At yy W hy hb d hd K hK
        have f5 := hd ⟨5, .data⟩ (by simp) rfl rfl
        have f11 := hd ⟨11, .data⟩ (by simp) rfl rfl
        obtain ⟨_, _, _, _, b1, c1, e5, r5⟩ := f5
        obtain ⟨_, _, _, _, b2, c2, e11, r11⟩ := f11
        have s13 := (hy 5 _ 13 rfl rfl).trans e5
        have s13' := s13
        rw [Array.getD_eq_getD_getElem?] at s13'
        have s19 := (hy 11 _ 19 rfl rfl).trans e11
        have s19' := s19
        rw [Array.getD_eq_getD_getElem?] at s19'
        clear hd hy hb
        go_simp
        go_wp2_with (go_at_call 104; refine (T3.out _ _ _ _ _ d r5 r11).mono ?_; rintro e wa ⟨b, c, rfl, hR, da⟩)
        exact hK.out _ wa (stp_of hmo d da) (by show World.ownsRow _ _ _ _ (updV yy 12 _ 12) _ _; rw [show updV yy 12 (.slice b (riseE L).length c) 12 = .slice b (riseE L).length c from if_pos rfl]; exact hR.out)
      case fin =>
        intro yy lo hi W hM
        show wpList _ _ _ [_] _ _
        have e0 : yy 0 = .slice (some ⟨g, o, none⟩) L.length cp := hM.fact 0 (by simp) rfl (notR_all 0 rfl)
        have e1 : yy 1 = .slice (some ⟨g, o, none⟩) L.length cp := hM.fact 1 (by simp) rfl (notR_all 1 rfl)
        have e2 : yy 2 = .int .i64 (L.length : Int) := hM.fact 2 (by simp) rfl (notR_all 2 rfl)
        have e3 : yy 3 = .int .i64 (h : Int) := hM.fact 3 (by simp) rfl (notR_all 3 rfl)
        have e4 : yy 4 = .slice (some ⟨g, o, none⟩) h cp := hM.fact 4 (by simp) rfl (notR_all 4 rfl)
        have e6 : yy 6 = .slice (some ⟨g, o, none⟩) L.length cp := hM.fact 6 (by simp) rfl (notR_all 6 rfl)
        have e7 : yy 7 = .slice (some ⟨g, o, none⟩) L.length cp := hM.fact 7 (by simp) rfl (notR_all 7 rfl)
        have e8 : yy 8 = .int .i64 (L.length : Int) := hM.fact 8 (by simp) rfl (notR_all 8 rfl)
        have e9 : yy 9 = .int .i64 (h : Int) := hM.fact 9 (by simp) rfl (notR_all 9 rfl)
        have e10 : yy 10 = .slice (some ⟨g, o + h * 3, none⟩) (L.length - h) (cp - h) := hM.fact 10 (by simp) rfl (notR_all 10 rfl)
        have DW := hide hM.d
        have r12 : W.ownsRow w.heap.size 59 3 (yy 12) (riseE L).length ((riseE L).flatMap encE) := hM.fact 12 (by simp) rfl (notR_all 12 rfl)
        obtain ⟨b, c, e12⟩ := own_slice r12
        rw [e12] at r12
        have HR := hide r12
        simp only [fills, Act.put, List.take, List.length, List.setIfInBounds_toArray, List.set_cons_zero, List.set_cons_succ, e0, e1, e2, e3, e4, e6, e7, e8, e9, e10, e12]
        clear hM hmo e0 e1 e2 e3 e4 e6 e7 e8 e9 e10 e12 r12
        go_wp2_with fail
        refine bodyPost_ret (results_tmp rfl _ _ _) rfl ?_
        exact ⟨b, c, rfl, HR, DW.out⟩

end Go.Proofs.YtfoahpideglghaaGreatDoor
namespace Go.Proofs.YtfoahpideglghaaGreatDoor
open Go.RowKit Go.Maps Go.Shelf
attribute [local go_sem] Oper.semAt_some

/-! ### The document's below, Valid, Normal -/
theorem may_not {n m : Int} {St Fi : List Int} {Ed : List EdT} (h : mayA n m St Fi Ed = true → False) : mayA n m St Fi Ed = false := by
  cases q : mayA n m St Fi Ed with
  | false => rfl
  | true => exact (h q).elim
set_option maxRecDepth 100000 in
theorem below_any (w : World) (ao : Option Addr) (L : List Int) (c : Nat) (n : Int) (hr : Hid (RdN w ao L)) (hl : L.length ≤ 4194304) :
    Calls Tryz.prog 74 #[.slice ao L.length c, .int .i64 n] w fun e w' => e = .returned (.bool (L.all (inB n))) ∧ w' = w := by
  go_enter Tryz.func74, Tryz.ntmps74
  go_wp2
  go_loopw [5] (fun iv wr => ∃ i : Nat, i ≤ L.length ∧ iv = .int .i64 i ∧ Hid ((L.take i).all (inB n) = true) ∧ wr = w) (fun iv _ => L.length - (intOf iv).toNat)
  case atStart => exact ⟨0, Nat.zero_le _, rfl, hide (by simp), rfl⟩
  case round =>
    obtain ⟨i, hi, rfl, HY, hw⟩ := hrel
    obtain rfl := hw.symm
    clear hw
    by_cases hlt : i < L.length
    · have l0 : (i : Int) < (L.length : Int) := by omega
      have l1 : (0 : Int) ≤ (i : Int) := by omega
      have iw : IntKind.i64.wrap ((i : Int) + 1) = (i : Int) + 1 := by rw [IntKind.wrap_i64]; omega
      obtain ⟨g, o, rfl, q⟩ := hr.out i hlt
      by_cases hb : inB n L[i] = true
      · have HN : Hid ((L.take (i + 1)).all (inB n) = true) := hide (by rw [List.take_succ_eq_append_getElem hlt, List.all_append, HY.out]; simp [hb])
        have h2 := inB_iff.1 hb
        clear hb
        generalize L[i] = x at q h2
        have x0 : ¬ x < 0 := by omega
        have x1 : ¬ x ≥ n := by omega
        clear h2
        go_wp2
        go_roundw
        case rel => exact ⟨i + 1, by omega, by go_num, HN, by simp⟩
        case measure => simp [intOf]; omega
      · have HD : Hid (L.all (inB n) = false) := hide (by
          rw [List.all_eq_false]
          exact ⟨L[i], List.getElem_mem hlt, hb⟩)
        have h2 : ¬ (0 ≤ L[i] ∧ L[i] < n) := fun h => hb (inB_iff.2 h)
        clear hb
        generalize L[i] = x at q h2
        by_cases x0 : x < 0
        · clear h2
          go_wp2
          refine bodyPost_ret (results_tmp rfl _ _ _) rfl ?_
          exact ⟨by rw [HD.out]; rfl, rfl⟩
        · have x1 : x ≥ n := by omega
          clear h2
          go_wp2
          refine bodyPost_ret (results_tmp rfl _ _ _) rfl ?_
          exact ⟨by rw [HD.out]; rfl, rfl⟩
    · have l0 : ¬ (i : Int) < (L.length : Int) := by omega
      have HD : Hid (L.all (inB n) = true) := hide (by have := HY.out; rwa [List.take_of_length_le (by omega)] at this)
      go_wp2
      refine bodyPost_ret (results_tmp rfl _ _ _) rfl ?_
      exact ⟨by rw [HD.out]; rfl, rfl⟩
set_option maxRecDepth 100000 in
set_option maxHeartbeats 4000000 in
theorem rvalid_any (w : World) (n m : Int) (a1 a2 a3 : Option Addr) (c1 c2 c3 : Nat) (St Fi : List Int) (Ed : List EdT) (hA : Hid (RdA w a1 a2 a3 St Fi Ed)) (h1 : St.length ≤ 4194304) (h2 : Fi.length ≤ 4194304) (h3 : Ed.length ≤ 4194304) :
    Calls Tryz.prog 39 #[.agg #[.int .i64 n, .int .i64 m, .slice a1 St.length c1, .slice a2 Fi.length c2, .slice a3 Ed.length c3]] w fun e w' => e = .returned (.int .i64 (if mayA n m St Fi Ed then 0 else 2)) ∧ Below w.heap.size w w' := by
  obtain ⟨r, hr⟩ : ∃ r : Int, (if mayA n m St Fi Ed then (0 : Int) else 2) = r := ⟨_, rfl⟩
  rw [hr]
  have HRr := hide hr
  clear hr
  obtain ⟨W0, hW0⟩ : ∃ W0, w.alloc (.cells #[.int .i64 n, .int .i64 m, .slice a1 St.length c1, .slice a2 Fi.length c2, .slice a3 Ed.length c3] 25) = W0 := ⟨_, rfl⟩
  have D0 : Hid (Below w.heap.size w W0) := hide (by rw [← hW0]; exact (Below.refl _ _).alloc (Nat.le_refl _) _)
  have B0 : Hid (W0.heap[w.heap.size]? = some (.cells #[.int .i64 n, .int .i64 m, .slice a1 St.length c1, .slice a2 Fi.length c2, .slice a3 Ed.length c3] 25 (0, 0))) := hide (by rw [← hW0]; exact World.alloc_heap_new _ _)
  have y0 : W0.cell? ⟨w.heap.size, 0, none⟩ = some (.int .i64 n) := cell_of B0.out rfl
  have y1 : W0.cell? ⟨w.heap.size, 1, none⟩ = some (.int .i64 m) := cell_of B0.out rfl
  have y2 : W0.cell? ⟨w.heap.size, 2, none⟩ = some (.slice a1 St.length c1) := cell_of B0.out rfl
  have y3 : W0.cell? ⟨w.heap.size, 3, none⟩ = some (.slice a2 Fi.length c2) := cell_of B0.out rfl
  have y4 : W0.cell? ⟨w.heap.size, 4, none⟩ = some (.slice a3 Ed.length c3) := cell_of B0.out rfl
  have T1 := below_any W0 a1 St c1 n (hide (hA.out.s.on D0.out)) h1
  have T2 := below_any W0 a2 Fi c2 n (hide (hA.out.f.on D0.out)) h2
  go_enter Tryz.func39, Tryz.ntmps39
  by_cases x0 : n < 0
  · have HM : Hid (mayA n m St Fi Ed = false) := hide (may_not fun h => by
      have := may_parts h
      omega)
    go_wp2_with fail
    refine bodyPost_ret (results_tmp rfl _ _ _) rfl ?_
    exact ⟨by rw [← HRr.out, HM.out]; rfl, D0.out⟩
  · by_cases x1 : n > 4096
    · have HM : Hid (mayA n m St Fi Ed = false) := hide (may_not fun h => by
        have := may_parts h
        omega)
      go_wp2_with fail
      refine bodyPost_ret (results_tmp rfl _ _ _) rfl ?_
      exact ⟨by rw [← HRr.out, HM.out]; rfl, D0.out⟩
    · by_cases x2 : m < 0
      · have HM : Hid (mayA n m St Fi Ed = false) := hide (may_not fun h => by
          have := may_parts h
          omega)
        go_wp2_with fail
        refine bodyPost_ret (results_tmp rfl _ _ _) rfl ?_
        exact ⟨by rw [← HRr.out, HM.out]; rfl, D0.out⟩
      · by_cases x3 : m > 128
        · have HM : Hid (mayA n m St Fi Ed = false) := hide (may_not fun h => by
            have := may_parts h
            omega)
          go_wp2_with fail
          refine bodyPost_ret (results_tmp rfl _ _ _) rfl ?_
          exact ⟨by rw [← HRr.out, HM.out]; rfl, D0.out⟩
        · by_cases x4 : (Ed.length : Int) > 65536
          · have HM : Hid (mayA n m St Fi Ed = false) := hide (may_not fun h => by
              have := may_parts h
              omega)
            go_wp2_with fail
            refine bodyPost_ret (results_tmp rfl _ _ _) rfl ?_
            exact ⟨by rw [← HRr.out, HM.out]; rfl, D0.out⟩
          · cases hs : St.all (inB n) with
            | false =>
              rw [hs] at T1
              have HM : Hid (mayA n m St Fi Ed = false) := hide (may_not fun h => by
                have := (may_parts h).2.2.2.1
                rw [hs] at this
                cases this)
              clear hs T2
              go_wp2_with (go_at_call 74; refine T1.mono ?_; rintro e wa ⟨rfl, hw⟩; obtain rfl := hw.symm; clear hw)
              refine bodyPost_ret (results_tmp rfl _ _ _) rfl ?_
              exact ⟨by rw [← HRr.out, HM.out]; rfl, D0.out⟩
            | true =>
              rw [hs] at T1
              cases hf : Fi.all (inB n) with
              | false =>
                rw [hf] at T2
                have HM : Hid (mayA n m St Fi Ed = false) := hide (may_not fun h => by
                  have := (may_parts h).2.2.2.2.1
                  rw [hf] at this
                  cases this)
                clear hf hs
                go_wp2_with (first
                  | (go_at_call 74; refine T1.mono ?_; rintro e wa ⟨rfl, hw⟩; obtain rfl := hw.symm; clear hw T1)
                  | (go_at_call 74; refine T2.mono ?_; rintro e wa ⟨rfl, hw⟩; obtain rfl := hw.symm; clear hw))
                refine bodyPost_ret (results_tmp rfl _ _ _) rfl ?_
                exact ⟨by rw [← HRr.out, HM.out]; rfl, D0.out⟩
              | true =>
                rw [hf] at T2
                have HSF := hide (And.intro hs hf)
                clear hf hs
                have HNM : Hid ((0 ≤ n ∧ n ≤ 4096) ∧ (0 ≤ m ∧ m ≤ 128) ∧ Ed.length ≤ 65536) := hide (by omega)
                go_wp2_with (first
                  | (go_at_call 74; refine T1.mono ?_; rintro e wa ⟨rfl, hw⟩; obtain rfl := hw.symm; clear hw T1)
                  | (go_at_call 74; refine T2.mono ?_; rintro e wa ⟨rfl, hw⟩; obtain rfl := hw.symm; clear hw T2))
                go_loopw [3] (fun iv wr => ∃ i : Nat, i ≤ Ed.length ∧ iv = .int .i64 i ∧ Hid ((∀ e ∈ Ed.take i, edOk n m e = true) ∧ Below W0.heap.size W0 wr)) (fun iv _ => Ed.length - (intOf iv).toNat)
                case atStart => exact ⟨0, Nat.zero_le _, rfl, hide ⟨by simp, Below.refl _ _⟩⟩
                case round =>
                  obtain ⟨i, hi, rfl, HY⟩ := hrel
                  clear y0 y1 y2 y3 y4
                  have KE := hide (D0.out.trans (HY.out.2.mono D0.out.size))
                  by_cases hlt : i < Ed.length
                  · have l0 : (i : Int) < (Ed.length : Int) := by omega
                    have l1 : (0 : Int) ≤ (i : Int) := by omega
                    have iw : IntKind.i64.wrap ((i : Int) + 1) = (i : Int) + 1 := by rw [IntKind.wrap_i64]; omega
                    obtain ⟨g, o, haa, q1, q2, q3⟩ := (hA.out.e.on KE.out) i hlt
                    subst haa
                    have HIN := hide (List.getElem_mem hlt)
                    have HTK := hide (List.take_succ_eq_append_getElem hlt)
                    generalize Ed[i] = x at q1 q2 q3 HIN HTK
                    obtain ⟨X1, hX1⟩ : ∃ X1, wr.alloc (.cells #[.int .i64 x.1, .int .i64 x.2.1, .int .i64 x.2.2] 59) = X1 := ⟨_, rfl⟩
                    have HX : Hid (X1.heap[wr.heap.size]? = some (.cells #[.int .i64 x.1, .int .i64 x.2.1, .int .i64 x.2.2] 59 (0, 0)) ∧ Below wr.heap.size wr X1) := hide (by rw [← hX1]; exact ⟨World.alloc_heap_new _ _, (Below.refl _ _).alloc (Nat.le_refl _) _⟩)
                    have HD := hide (HY.out.2.trans (HX.out.2.mono HY.out.2.size))
                    have KX := hide (D0.out.trans (HD.out.mono D0.out.size))
                    have z0 : X1.cell? ⟨wr.heap.size, 0, none⟩ = some (.int .i64 x.1) := cell_of HX.out.1 rfl
                    have z1 : X1.cell? ⟨wr.heap.size, 1, none⟩ = some (.int .i64 x.2.1) := cell_of HX.out.1 rfl
                    have z2 : X1.cell? ⟨wr.heap.size, 2, none⟩ = some (.int .i64 x.2.2) := cell_of HX.out.1 rfl
                    have B1 := blk_on B0.out HY.out.2
                    have B2 := blk_on B0.out HD.out
                    have y4 : wr.cell? ⟨w.heap.size, 4, none⟩ = some (.slice (some ⟨g, o, none⟩) Ed.length c3) := cell_of B1 rfl
                    have y0 : X1.cell? ⟨w.heap.size, 0, none⟩ = some (.int .i64 n) := cell_of B2 rfl
                    have y1 : X1.cell? ⟨w.heap.size, 1, none⟩ = some (.int .i64 m) := cell_of B2 rfl
                    clear B1 B2
                    have NO : Hid (edOk n m x = false → mayA n m St Fi Ed = false) := hide (fun hx => may_not fun h => by
                      have := (may_parts h).2.2.2.2.2 x HIN.out
                      rw [show edOk n m x = true by unfold edOk; simp only [Bool.and_eq_true, inB_iff]; omega] at hx
                      cases hx)
                    cases hx : edOk n m x with
                    | true =>
                      have hxx := hx
                      unfold edOk at hxx
                      simp only [Bool.and_eq_true, inB_iff] at hxx
                      have p0 : ¬ x.1 < 0 := by omega
                      have p1 : ¬ x.1 ≥ n := by omega
                      have p2 : ¬ x.2.2 < 0 := by omega
                      have p3 : ¬ x.2.2 ≥ n := by omega
                      have p4 : ¬ x.2.1 < 0 := by omega
                      have p5 : ¬ x.2.1 ≥ m := by omega
                      have HX2 : Hid (∀ e ∈ Ed.take (i + 1), edOk n m e = true) := hide (fun e he => by
                        rw [HTK.out, List.mem_append] at he
                        rcases he with he | he
                        · exact HY.out.1 e he
                        · rw [List.mem_singleton] at he
                          rw [he]
                          exact hx)
                      clear hxx hx NO
                      go_wp2_with fail
                      go_roundw
                      case rel => exact ⟨i + 1, by omega, by go_num, hide ⟨HX2.out, HD.out⟩⟩
                      case measure => simp [intOf]; omega
                    | false =>
                      have HM := hide (NO.out hx)
                      have hxx : ¬ (((0 ≤ x.1 ∧ x.1 < n) ∧ 0 ≤ x.2.1 ∧ x.2.1 < m) ∧ 0 ≤ x.2.2 ∧ x.2.2 < n) := fun h => by
                        rw [show edOk n m x = true by unfold edOk; simp only [Bool.and_eq_true, inB_iff]; exact h] at hx
                        cases hx
                      clear hx NO
                      by_cases p0 : x.1 < 0
                      · clear hxx
                        go_wp2_with fail
                        refine bodyPost_ret (results_tmp rfl _ _ _) rfl ?_
                        exact ⟨by rw [← HRr.out, HM.out]; rfl, KX.out⟩
                      · by_cases p1 : x.1 ≥ n
                        · clear hxx
                          go_wp2_with fail
                          refine bodyPost_ret (results_tmp rfl _ _ _) rfl ?_
                          exact ⟨by rw [← HRr.out, HM.out]; rfl, KX.out⟩
                        · by_cases p2 : x.2.2 < 0
                          · clear hxx
                            go_wp2_with fail
                            refine bodyPost_ret (results_tmp rfl _ _ _) rfl ?_
                            exact ⟨by rw [← HRr.out, HM.out]; rfl, KX.out⟩
                          · by_cases p3 : x.2.2 ≥ n
                            · clear hxx
                              go_wp2_with fail
                              refine bodyPost_ret (results_tmp rfl _ _ _) rfl ?_
                              exact ⟨by rw [← HRr.out, HM.out]; rfl, KX.out⟩
                            · by_cases p4 : x.2.1 < 0
                              · clear hxx
                                go_wp2_with fail
                                refine bodyPost_ret (results_tmp rfl _ _ _) rfl ?_
                                exact ⟨by rw [← HRr.out, HM.out]; rfl, KX.out⟩
                              · have p5 : x.2.1 ≥ m := by omega
                                clear hxx
                                go_wp2_with fail
                                refine bodyPost_ret (results_tmp rfl _ _ _) rfl ?_
                                exact ⟨by rw [← HRr.out, HM.out]; rfl, KX.out⟩
                  · have l0 : ¬ (i : Int) < (Ed.length : Int) := by omega
                    have y4 : wr.cell? ⟨w.heap.size, 4, none⟩ = some (.slice a3 Ed.length c3) := cell_of (blk_on B0.out HY.out.2) rfl
                    have HM : Hid (mayA n m St Fi Ed = true) := hide (by
                      have h5 := HY.out.1
                      rw [List.take_of_length_le (by omega)] at h5
                      have h6 := HNM.out
                      unfold mayA
                      simp only [Bool.and_eq_true, decide_eq_true_eq, inB_iff]
                      exact ⟨⟨⟨⟨⟨by omega, by omega⟩, by omega⟩, HSF.out.1⟩, HSF.out.2⟩, List.all_eq_true.2 h5⟩)
                    go_wp2_with fail
                    refine bodyPost_ret (results_tmp rfl _ _ _) rfl ?_
                    exact ⟨by rw [← HRr.out, HM.out]; rfl, KE.out⟩
end Go.Proofs.YtfoahpideglghaaGreatDoor
