import Derived.Test.YtgnpdhgphkocoaaGreatDoorQae
namespace Go.Proofs.YtgnpdhgphkocoaaGreatDoor
open Go.RowKit Go.Maps
attribute [local go_sem] Oper.semAt_some
/-! ### newSteps -/
theorem info128 : (Tryz.prog.info? 128).map (fun i => (i.zero, i.size, i.bytes)) = some (some (.agg #[.pointer none, .slice none 0 0]), 2, 32) := by kernel_rfl
theorem info22' : (Tryz.prog.info? 22).map (fun i => (i.zero, i.size, i.bytes)) = some (some (.slice none 0 0), 1, 24) := by kernel_rfl
theorem mrw_make2 {W : World} {g t n : Nat} {a b : Value} (h : W.heap[g]? = some (.cells (madeCells #[a, b] (n * 2)) t (0, 0))) : Mrw W g t (n * 2) (fun c => if c % 2 = 0 then a else b) (n * 2) := by
  refine ⟨_, h, size_madeCells _ _, fun j hj => ?_⟩
  unfold madeCells
  rw [Array.getElem?_map, Array.getElem?_range, if_pos hj]
  show some (#[a, b][j % 2]!) = some (if j % 2 = 0 then a else b)
  by_cases q : j % 2 = 0
  · rw [q]; rfl
  · have q1 : j % 2 = 1 := by omega
    rw [q1]; rfl
/-- The same, of no list. -/
theorem setNil_any (w : World) (n : Nat) (hn : n ≤ 4096) : Calls Tryz.prog 47 #[.int .i64 (n : Int), .slice none 0 0] w fun e w' => ∃ b g cap, e = .returned (.pointer (some ⟨b, 0, none⟩)) ∧ SetN w w' b g cap n 0 :=
  setOf_any w n none 0 [] (fun j hj => by simp at hj) (by simp) hn rfl
def mkP2 (B : Nat) (t : TypeId) (n : Nat) (C : Array Value) : MkP := fun x lo hi W => x = .slice (some ⟨lo, 0, none⟩) n n ∧ B ≤ lo ∧ lo < hi ∧ W.heap[lo]? = some (.cells C t (0, 0))
theorem mkP2_mono {B : Nat} {t : TypeId} {n : Nat} {C : Array Value} : MonoP (mkP2 B t n C) := fun _ _ _ _ _ hs d ⟨e, l, l2, z⟩ => ⟨e, l, l2, (d.block _ (by omega)).trans z⟩
def bxP85 (B : Nat) : MkP := fun x lo hi W => x = .pointer (some ⟨lo, 0, none⟩) ∧ B ≤ lo ∧ lo < hi ∧ W.heap[lo]? = some (.cells #[.int .i64 0, .slice none 0 0] 85 (0, 0))
theorem bxP85_mono {B : Nat} : MonoP (bxP85 B) := fun _ _ _ _ _ hs d ⟨e, l, l2, z⟩ => ⟨e, l, l2, (d.block _ (by omega)).trans z⟩
def setP (B N : Nat) : MkP := fun x _ _ W => ∃ b g c, x = .pointer (some ⟨b, 0, none⟩) ∧ IsSet W b g c N 0 ∧ B ≤ b ∧ B ≤ g ∧ b ≠ g
theorem setP_mono {B N : Nat} : MonoP (setP B N) := fun _ _ _ _ _ _ d ⟨b, g, c, e, h, k⟩ => ⟨b, g, c, e, h.below d, k⟩
/-- From which states a symbol leads anywhere; where to. -/
def leaF (Ed : List EdT) (s : Nat) : Nat := Ed.foldl (fun X e => if e.2.1.toNat = s then X ||| 2 ^ e.1.toNat else X) 0
def tosF (N : Nat) (Ed : List EdT) (i : Nat) : List Nat := (Ed.filter fun e => decide (e.2.1.toNat * N + e.1.toNat = i)).map fun e => e.2.2.toNat
theorem leaF_snoc (Ed : List EdT) (f a t : Nat) : leaF (Ed ++ [((f : Int), (a : Int), (t : Int))]) = updF (leaF Ed) a (leaF Ed a ||| 2 ^ f) := by
  funext s
  unfold leaF
  rw [List.foldl_append]
  by_cases e : s = a
  · subst e; rw [updF_same]; simp
  · rw [updF_ne _ _ e]
    have : ¬ a = s := fun q => e q.symm
    simp [this]
theorem tosF_snoc (N : Nat) (Ed : List EdT) (f a t : Nat) : tosF N (Ed ++ [((f : Int), (a : Int), (t : Int))]) = updF (tosF N Ed) (a * N + f) (tosF N Ed (a * N + f) ++ [t]) := by
  funext s
  unfold tosF
  rw [List.filter_append, List.map_append]
  by_cases e : s = a * N + f
  · subst e; rw [updF_same]; simp
  · rw [updF_ne _ _ e]
    have : ¬ a * N + f = s := fun q => e q.symm
    simp [this]
/-- The steps, in new memory. -/
def StA (w0 w : World) (gb M N : Nat) (Ed : List EdT) : Prop := ∃ (bs gs cs hs : Nat → Nat) (nl : Nat → Bool) (V : Nat → Value), StP w0.heap.size w gb M N bs gs cs hs (leaF Ed) nl V (tosF N Ed) ∧ Below w0.heap.size w0 w
theorem tosF_len (N : Nat) (Ed : List EdT) (i : Nat) : (tosF N Ed i).length ≤ Ed.length := by
  unfold tosF
  rw [List.length_map]
  exact List.length_filter_le _ _
set_option maxRecDepth 100000 in
set_option maxHeartbeats 8000000 in
theorem newSteps_any (w : World) (N M : Nat) (a1 a2 a3 : Option Addr) (n1 n2 c1 c2 lE c3 : Nat) (Ed : List EdT) (hE : RdE w a3 Ed) (hlE : Ed.length = lE) (hin : ∀ e ∈ Ed, (0 ≤ e.1 ∧ e.1 < (N : Int)) ∧ (0 ≤ e.2.1 ∧ e.2.1 < (M : Int)) ∧ 0 ≤ e.2.2 ∧ e.2.2 < (N : Int)) (hN : N ≤ 4096) (hM : M ≤ 128) (hl : lE ≤ 65536) :
    Calls Tryz.prog 49 #[.agg #[.int .i64 (N : Int), .int .i64 (M : Int), .slice a1 n1 c1, .slice a2 n2 c2, .slice a3 lE c3]] w fun e w' => ∃ gb, e = .returned (.agg #[.int .i64 (N : Int), .slice (some ⟨gb, 0, none⟩) M M]) ∧ StA w w' gb M N Ed := by
  obtain ⟨i8, hi8, hz80, hz81, hz82⟩ := info_parts info128
  obtain ⟨C1, hC1⟩ : ∃ C, madeCells #[.pointer none, .slice none 0 0] (M * 2) = C := ⟨_, rfl⟩
  have hmk1 : ∀ W : World, (Instr.makeSlice 83 (.int .i64 (M : Int)) (.int .i64 (M : Int))).run Tryz.prog W = .ok (.slice (some ⟨W.heap.size, 0, none⟩) M M) (W.alloc (.cells C1 128)) := fun W => by
    have h := run_make (P := Tryz.prog) W 83 128 i8 (.agg #[.pointer none, .slice none 0 0]) Tryz.underlying83 hi8 hz80 .i64 .i64 (M : Int) (M : Int) (by omega) (by omega) (by rw [hz82]; omega) (by omega)
    rw [hz81, Int.toNat_natCast] at h
    rw [← hC1]
    exact h
  obtain ⟨W0, hW0⟩ : ∃ W0, (w.alloc (.cells #[.int .i64 (N : Int), .int .i64 (M : Int), .slice a1 n1 c1, .slice a2 n2 c2, .slice a3 lE c3] 25)).alloc (.cells #[.int .i64 0, .slice none 0 0] 85) = W0 := ⟨_, rfl⟩
  have HD := hide (two_al w #[.int .i64 (N : Int), .int .i64 (M : Int), .slice a1 n1 c1, .slice a2 n2 c2, .slice a3 lE c3] #[.int .i64 0, .slice none 0 0] 25 85)
  rw [hW0] at HD
  have HB0 := hide HD.out.2.1
  have HNM := hide (And.intro hN (And.intro hM (And.intro hl (And.intro hlE (And.intro hE hin)))))
  have HC := hide hC1
  clear hC1 hN hM hl hlE hE hin hi8 hz80 hz81 hz82
  go_enter Tryz.func49, Tryz.ntmps49
  go_upto_region 1 with fail
  have hmo : MonIL 0 [vI 0 (.pointer (some ⟨w.heap.size, 0, none⟩)), vI 1 (.int .i64 (N : Int)), vI 2 (.pointer (some ⟨w.heap.size, 1, none⟩)), vI 3 (.int .i64 (M : Int)), pI 4 (mkP2 W0.heap.size 128 M C1), ⟨[4], [], fun y _ _ _ => y 5 = .agg #[.int .i64 (N : Int), y 4]⟩, pI 6 (bxP85 W0.heap.size)] := ⟨vI_mono _ _, vI_mono _ _, vI_mono _ _, vI_mono _ _, pI_mono mkP2_mono, (fun _ _ _ _ _ _ _ _ hy h => by dsimp only at hy h ⊢; rw [hy 5 (Or.inl rfl), hy 4 (Or.inr (by simp))]; exact h), pI_mono bxP85_mono, trivial⟩
  refine wp_region_sl [vI 0 (.pointer (some ⟨w.heap.size, 0, none⟩)), vI 1 (.int .i64 (N : Int)), vI 2 (.pointer (some ⟨w.heap.size, 1, none⟩)), vI 3 (.int .i64 (M : Int)), pI 4 (mkP2 W0.heap.size 128 M C1), ⟨[4], [], fun y _ _ _ => y 5 = .agg #[.int .i64 (N : Int), y 4]⟩, pI 6 (bxP85 W0.heap.size)] (by kernel_rfl) (by kernel_rfl) (by kernel_rfl) (by kernel_rfl) hmo ⟨?o0, ?o1, ?o2, ?o3, ?o4, ?o5, ?o6, trivial⟩ ?fin
  case o0 =>
    intro At yy W hy hb d hd K hK
    have s1 : At.tmps.getD 1 undef = .pointer (some ⟨w.heap.size, 0, none⟩) := hb 1 rfl
    have s1' := s1
    rw [Array.getD_eq_getD_getElem?] at s1'
    clear hd hy hb
    go_simp
    exact hK.out _ W (stp_of hmo d (Below.refl _ _)) (if_pos rfl)
  case o1 =>
    intro At yy W hy hb d hd K hK
    have e0 : yy 0 = .pointer (some ⟨w.heap.size, 0, none⟩) := by obtain ⟨_, _, _, _, e⟩ := hd ⟨0, .data⟩ (by simp) rfl rfl; exact e
    have s8 := (hy 0 _ 8 rfl rfl).trans e0
    have s8' := s8
    rw [Array.getD_eq_getD_getElem?] at s8'
    clear hd hy hb
    have y0 : W.cell? ⟨w.heap.size, 0, none⟩ = some (.int .i64 (N : Int)) := cell_of (blk_on HB0.out d) rfl
    go_simp
    exact hK.out _ W (stp_of hmo d (Below.refl _ _)) (if_pos rfl)
  case o2 =>
    intro At yy W hy hb d hd K hK
    have s1 : At.tmps.getD 1 undef = .pointer (some ⟨w.heap.size, 0, none⟩) := hb 1 rfl
    have s1' := s1
    rw [Array.getD_eq_getD_getElem?] at s1'
    clear hd hy hb
    go_simp
    exact hK.out _ W (stp_of hmo d (Below.refl _ _)) (if_pos rfl)
  case o3 =>
    intro At yy W hy hb d hd K hK
    have e2 : yy 2 = .pointer (some ⟨w.heap.size, 1, none⟩) := by obtain ⟨_, _, _, _, e⟩ := hd ⟨2, .data⟩ (by simp) rfl rfl; exact e
    have s10 := (hy 2 _ 10 rfl rfl).trans e2
    have s10' := s10
    rw [Array.getD_eq_getD_getElem?] at s10'
    clear hd hy hb
    have y1 : W.cell? ⟨w.heap.size, 1, none⟩ = some (.int .i64 (M : Int)) := cell_of (blk_on HB0.out d) rfl
    go_simp
    exact hK.out _ W (stp_of hmo d (Below.refl _ _)) (if_pos rfl)
  case o4 =>
    intro At yy W hy hb d hd K hK
    have e3 : yy 3 = .int .i64 (M : Int) := by obtain ⟨_, _, _, _, e⟩ := hd ⟨3, .data⟩ (by simp) rfl rfl; exact e
    have s11 := (hy 3 _ 11 rfl rfl).trans e3
    have s11' := s11
    rw [Array.getD_eq_getD_getElem?] at s11'
    clear hd hy hb
    go_simp
    exact hK.out _ _ (stp_of hmo d ((Below.refl _ _).alloc (Nat.le_refl _) _)) ⟨if_pos rfl, d.size, by simp, World.alloc_heap_new _ _⟩
  case o5 =>
    intro At yy W hy hb d hd K hK
    have e1 : yy 1 = .int .i64 (N : Int) := by obtain ⟨_, _, _, _, e⟩ := hd ⟨1, .data⟩ (by simp) rfl rfl; exact e
    have f4 := hd ⟨4, .data⟩ (by simp) rfl rfl
    obtain ⟨lo4, hi4, _, _, e4, _⟩ := f4
    have s9 := (hy 1 _ 9 rfl rfl).trans e1
    have s9' := s9
    rw [Array.getD_eq_getD_getElem?] at s9'
    have s12 := (hy 4 _ 12 rfl rfl).trans e4
    have s12' := s12
    rw [Array.getD_eq_getD_getElem?] at s12'
    clear hd hy hb
    go_simp
    exact hK.out _ W (stp_of hmo d (Below.refl _ _)) (by show updV yy 5 _ 5 = .agg #[_, updV yy 5 _ 4]; rw [show ∀ x, updV yy 5 x 5 = x from fun x => if_pos rfl, show ∀ x, updV yy 5 x 4 = yy 4 from fun x => if_neg (by decide), e4])
  case o6 =>
    intro At yy W hy hb d hd K hK
    clear hd hy hb
    go_simp
    exact hK.out _ _ (stp_of hmo d ((Below.refl _ _).alloc (Nat.le_refl _) _)) ⟨if_pos rfl, d.size, by simp, World.alloc_heap_new _ _⟩
  case fin =>
    intro yy lo hi W hM
    show wpList _ _ _ [_] _ _
    have e0 : yy 0 = .pointer (some ⟨w.heap.size, 0, none⟩) := hM.fact 0 (by simp) rfl (notR_all 0 rfl)
    have e1 : yy 1 = .int .i64 (N : Int) := hM.fact 1 (by simp) rfl (notR_all 1 rfl)
    have e2 : yy 2 = .pointer (some ⟨w.heap.size, 1, none⟩) := hM.fact 2 (by simp) rfl (notR_all 2 rfl)
    have e3 : yy 3 = .int .i64 (M : Int) := hM.fact 3 (by simp) rfl (notR_all 3 rfl)
    obtain ⟨e4, b4, l4, z4⟩ := hM.fact 4 (by simp) rfl (notR_all 4 rfl)
    have e5 : yy 5 = .agg #[.int .i64 (N : Int), yy 4] := hM.fact 5 (by simp) rfl (notR_all 5 rfl)
    obtain ⟨e6, b6, l6, z6⟩ := hM.fact 6 (by simp) rfl (notR_all 6 rfl)
    have dd := hM.d
    have q46 := hM.apart 4 6 (by simp) (by simp) rfl rfl (by decide)
    rw [e4] at e5
    simp only [fills, Act.put, List.take, List.length, List.setIfInBounds_toArray, List.set_cons_zero, List.set_cons_succ, e0, e1, e2, e3, e4, e5, e6]
    have ne : lo 4 ≠ lo 6 := by omega
    clear q46
    generalize lo 4 = gb at z4 b4 l4 ne ⊢
    generalize lo 6 = p3 at z6 b6 l6 ne ⊢
    clear hM hmo e0 e1 e2 e3 e4 e5 e6
    have m0 := mrw_make2 (a := .pointer none) (b := .slice none 0 0) (n := M) (by rw [HC.out]; exact z4)
    have f0 : W.frozen? ⟨p3, 0, none⟩ = false := fz_of z6
    have f1 : W.frozen? ⟨p3, 1, none⟩ = false := fz_of z6
    have y0 : W.cell? ⟨p3, 0, none⟩ = some (.int .i64 0) := cell_of z6 rfl
    have y1 : W.cell? ⟨p3, 1, none⟩ = some (.slice none 0 0) := cell_of z6 rfl
    have o2 := (only_set W p3 0 (.int .i64 (N : Int))).trans (only_set _ p3 1 (.slice (some ⟨gb, 0, none⟩) M M))
    have z62 := set2 W p3 _ _ (.int .i64 (N : Int)) (.slice (some ⟨gb, 0, none⟩) M M) 85 z6
    have HD0 := hide (And.intro dd (And.intro b4 (And.intro b6 ne)))
    clear dd b4 b6 l4 l6
    go_upto_region 2 with fail
    obtain ⟨w3, hw3⟩ : ∃ w3, (W.setCell ⟨p3, 0, none⟩ (.int .i64 (N : Int))).setCell ⟨p3, 1, none⟩ (.slice (some ⟨gb, 0, none⟩) M M) = w3 := ⟨_, rfl⟩
    rw [hw3] at o2 z62 ⊢
    clear hw3 f0 f1 y0 y1 z6 z4
    have D3 : Below W0.heap.size W0 w3 := HD0.out.1.trans (o2.toBelow HD0.out.1.size (fun k hk => by have := HD0.out.2.2.1; rcases hk with rfl | rfl <;> omega))
    have Q3 : StQ W0.heap.size w3 gb M N 0 (fun _ => 0) (fun _ => 0) (fun _ => 0) := ⟨(m0.only o2 (fun e => by have := HD0.out.2.2.2; rcases e with e | e <;> omega)).congr (fun c hc => by unfold stW; rw [if_neg (show ¬ c / 2 < 0 by omega)]), (fun s hs => by omega), (fun s s' hs => by omega), HD0.out.2.1⟩
    have HB03 := hide (blk_on HB0.out D3)
    have HZ3 := hide z62
    have y1 : w3.cell? ⟨p3, 1, none⟩ = some (.slice (some ⟨gb, 0, none⟩) M M) := cell_of z62 rfl
    have HQ3 := hide Q3
    have HD3 := hide D3
    have HNE := hide HD0.out.2.2.2
    have HGE := hide (And.intro HD0.out.2.1 HD0.out.2.2.1)
    clear HD0 m0 o2 z62 Q3 D3
    go_wp2_with fail
    clear y1
    go_loopw [17] (fun iv wr => ∃ k : Nat, k ≤ M ∧ iv = .int .i64 (k : Int) ∧ ∃ bs gs cs : Nat → Nat, Hid (StQ W0.heap.size wr gb M N k bs gs cs ∧ Only w3 wr (fun q => q = gb))) (fun iv _ => M - (intOf iv).toNat)
    case atStart => exact ⟨0, Nat.zero_le _, rfl, _, _, _, hide ⟨HQ3.out, Only.ofBelow (Below.refl _ _)⟩⟩
    case round =>
      obtain ⟨k, hk, rfl, bs, gs, cs, HR⟩ := hrel
      have hM1 : M ≤ 128 := HNM.out.2.1
      by_cases hkM : k < M
      · have HB0r : Hid (wr.heap[w.heap.size]? = some (.cells #[.int .i64 (N : Int), .int .i64 (M : Int), .slice a1 n1 c1, .slice a2 n2 c2, .slice a3 lE c3] 25 (0, 0))) := hide ((HR.out.2.block _ (Array.getElem?_eq_some_iff.1 HB03.out).1 (fun e => by have := HGE.out.1; have := HD.out.2.2.2; omega)).trans HB03.out)
        have HB3 : Hid (wr.heap[p3]? = some (.cells #[.int .i64 (N : Int), .slice (some ⟨gb, 0, none⟩) M M] 85 (0, 0))) := hide ((HR.out.2.block _ (Array.getElem?_eq_some_iff.1 HZ3.out).1 (fun e => HNE.out e.symm)).trans HZ3.out)
        go_upto_region 5 with fail
        have hmo : MonIL 0 [vI 0 (.pointer (some ⟨p3, 1, none⟩)), vI 1 (.slice (some ⟨gb, 0, none⟩) M M), vI 2 (.int .i64 (k : Int)), vI 3 (.pointer (some ⟨w.heap.size, 0, none⟩)), vI 4 (.int .i64 (N : Int)), pI 5 (setP wr.heap.size N), ⟨[5], [], fun y _ _ _ => y 6 = .agg #[y 5, .slice none 0 0]⟩] := ⟨vI_mono _ _, vI_mono _ _, vI_mono _ _, vI_mono _ _, vI_mono _ _, pI_mono setP_mono, (fun _ _ _ _ _ _ _ _ hy h => by dsimp only at hy h ⊢; rw [hy 6 (Or.inl rfl), hy 5 (Or.inr (by simp))]; exact h), trivial⟩
        refine wp_region_sl [vI 0 (.pointer (some ⟨p3, 1, none⟩)), vI 1 (.slice (some ⟨gb, 0, none⟩) M M), vI 2 (.int .i64 (k : Int)), vI 3 (.pointer (some ⟨w.heap.size, 0, none⟩)), vI 4 (.int .i64 (N : Int)), pI 5 (setP wr.heap.size N), ⟨[5], [], fun y _ _ _ => y 6 = .agg #[y 5, .slice none 0 0]⟩] (by kernel_rfl) (by kernel_rfl) (by kernel_rfl) (by kernel_rfl) hmo ⟨?o0, ?o1, ?o2, ?o3, ?o4, ?o5, ?o6, trivial⟩ ?fin
        case o0 =>
          intro At yy W hy hb d hd K hK
          have s3 : At.tmps.getD 3 undef = .pointer (some ⟨p3, 0, none⟩) := hb 3 rfl
          have s3' := s3
          rw [Array.getD_eq_getD_getElem?] at s3'
          clear hd hy hb
          go_simp
          exact hK.out _ W (stp_of hmo d (Below.refl _ _)) (if_pos rfl)
        case o1 =>
          intro At yy W hy hb d hd K hK
          have e0 : yy 0 = .pointer (some ⟨p3, 1, none⟩) := by obtain ⟨_, _, _, _, e⟩ := hd ⟨0, .data⟩ (by simp) rfl rfl; exact e
          have s20 := (hy 0 _ 20 rfl rfl).trans e0
          have s20' := s20
          rw [Array.getD_eq_getD_getElem?] at s20'
          clear hd hy hb
          have y : W.cell? ⟨p3, 1, none⟩ = some (.slice (some ⟨gb, 0, none⟩) M M) := cell_of (blk_on HB3.out d) rfl
          go_simp
          exact hK.out _ W (stp_of hmo d (Below.refl _ _)) (if_pos rfl)
        case o2 =>
          intro At yy W hy hb d hd K hK
          have s4 : At.tmps.getD 4 undef = .int .i64 (k : Int) := hb 4 rfl
          have s4' := s4
          rw [Array.getD_eq_getD_getElem?] at s4'
          clear hd hy hb
          go_simp
          exact hK.out _ W (stp_of hmo d (Below.refl _ _)) (if_pos rfl)
        case o3 =>
          intro At yy W hy hb d hd K hK
          have s1 : At.tmps.getD 1 undef = .pointer (some ⟨w.heap.size, 0, none⟩) := hb 1 rfl
          have s1' := s1
          rw [Array.getD_eq_getD_getElem?] at s1'
          clear hd hy hb
          go_simp
          exact hK.out _ W (stp_of hmo d (Below.refl _ _)) (if_pos rfl)
        case o4 =>
          intro At yy W hy hb d hd K hK
          have e3 : yy 3 = .pointer (some ⟨w.heap.size, 0, none⟩) := by obtain ⟨_, _, _, _, e⟩ := hd ⟨3, .data⟩ (by simp) rfl rfl; exact e
          have s23 := (hy 3 _ 23 rfl rfl).trans e3
          have s23' := s23
          rw [Array.getD_eq_getD_getElem?] at s23'
          clear hd hy hb
          have y0 : W.cell? ⟨w.heap.size, 0, none⟩ = some (.int .i64 (N : Int)) := cell_of (blk_on HB0r.out d) rfl
          go_simp
          exact hK.out _ W (stp_of hmo d (Below.refl _ _)) (if_pos rfl)
        case o5 =>
          intro At yy W hy hb d hd K hK
          have e4 : yy 4 = .int .i64 (N : Int) := by obtain ⟨_, _, _, _, e⟩ := hd ⟨4, .data⟩ (by simp) rfl rfl; exact e
          have s24 := (hy 4 _ 24 rfl rfl).trans e4
          have s24' := s24
          rw [Array.getD_eq_getD_getElem?] at s24'
          clear hd hy hb
          go_simp
          go_wp2_with (go_at_call 47; refine (setNil_any W N HNM.out.1).mono ?_; rintro e wa ⟨b, g, c, rfl, hq⟩)
          exact hK.out _ wa (stp_of hmo d hq.2.2.2.2) ⟨b, g, c, if_pos rfl, hq.1, Nat.le_trans d.size hq.2.1, Nat.le_trans d.size hq.2.2.1, hq.2.2.2.1⟩
        case o6 =>
          intro At yy W hy hb d hd K hK
          have f5 := hd ⟨5, .data⟩ (by simp) rfl rfl
          obtain ⟨lo5, hi5, _, _, b, g, c, e5, _⟩ := f5
          have s25 := (hy 5 _ 25 rfl rfl).trans e5
          have s25' := s25
          rw [Array.getD_eq_getD_getElem?] at s25'
          clear hd hy hb
          go_simp
          exact hK.out _ W (stp_of hmo d (Below.refl _ _)) (by show updV yy 6 _ 6 = .agg #[updV yy 6 _ 5, _]; rw [show ∀ x, updV yy 6 x 6 = x from fun x => if_pos rfl, show ∀ x, updV yy 6 x 5 = yy 5 from fun x => if_neg (by decide), e5])
        case fin =>
          intro yy lo hi W hM
          show wpList _ _ _ [_, _] _ _
          have e0 : yy 0 = .pointer (some ⟨p3, 1, none⟩) := hM.fact 0 (by simp) rfl (notR_all 0 rfl)
          have e1 : yy 1 = .slice (some ⟨gb, 0, none⟩) M M := hM.fact 1 (by simp) rfl (notR_all 1 rfl)
          have e2 : yy 2 = .int .i64 (k : Int) := hM.fact 2 (by simp) rfl (notR_all 2 rfl)
          have e3 : yy 3 = .pointer (some ⟨w.heap.size, 0, none⟩) := hM.fact 3 (by simp) rfl (notR_all 3 rfl)
          have e4 : yy 4 = .int .i64 (N : Int) := hM.fact 4 (by simp) rfl (notR_all 4 rfl)
          obtain ⟨b, g, c, e5, s1, s2, s3, s4⟩ := hM.fact 5 (by simp) rfl (notR_all 5 rfl)
          have e6 : yy 6 = .agg #[yy 5, .slice none 0 0] := hM.fact 6 (by simp) rfl (notR_all 6 rfl)
          have dd := hM.d
          rw [e5] at e6
          simp only [fills, Act.put, List.take, List.length, List.setIfInBounds_toArray, List.set_cons_zero, List.set_cons_succ, e0, e1, e2, e3, e4, e5, e6]
          clear hM hmo e0 e1 e2 e3 e4 e5 e6
          have HQ := hide (HR.out.1.on dd)
          have gr := HQ.out.gr
          have yk0 := gr.at (k * 2) (by omega)
          have yk1 := gr.at (k * 2 + 1) (by omega)
          unfold stW at yk0 yk1
          rw [if_pos (by omega), if_neg (by omega)] at yk0
          rw [if_neg (by omega)] at yk1
          have fk0 := gr.fz (k * 2)
          have fk1 := gr.fz (k * 2 + 1)
          have HS := hide (HR.out.1.put hkM ⟨s1, s2, s3, s4, dd⟩ (Nat.le_trans HD3.out.size HR.out.2.size)).1
          have HO := hide (HR.out.2.trans ((Only.ofBelow dd).trans ((only_set W gb (k * 2) (.pointer (some ⟨b, 0, none⟩))).trans (only_set _ gb (k * 2 + 1) (.slice none 0 0)))))
          clear gr dd s1 s2 s3 s4
          go_wp2_with fail
          go_roundw
          case rel => exact ⟨k + 1, by omega, by go_num, _, _, _, hide ⟨HS.out.nil, HO.out⟩⟩
          case measure => simp [intOf]; omega
      · have hkk : k = M := by omega
        rw [hkk] at HR
        have HB1 : Hid (wr.heap[w.heap.size]? = some (.cells #[.int .i64 (N : Int), .int .i64 (M : Int), .slice a1 n1 c1, .slice a2 n2 c2, .slice a3 lE c3] 25 (0, 0))) := hide ((HR.out.2.block _ (Array.getElem?_eq_some_iff.1 HB03.out).1 (fun e => by have := HGE.out.1; have := HD.out.2.2.2; omega)).trans HB03.out)
        have HB3 : Hid (wr.heap[p3]? = some (.cells #[.int .i64 (N : Int), .slice (some ⟨gb, 0, none⟩) M M] 85 (0, 0))) := hide ((HR.out.2.block _ (Array.getElem?_eq_some_iff.1 HZ3.out).1 (fun e => HNE.out e.symm)).trans HZ3.out)
        have HDr : Hid (Below W0.heap.size W0 wr) := hide (HD3.out.trans (HR.out.2.toBelow HD3.out.size (fun k hk => by have := HGE.out.1; omega)))
        have HQ : Hid (StP W0.heap.size wr gb M N bs gs cs (fun _ => 0) (leaF (Ed.take 0)) (fun _ => true) (fun _ => .slice none 0 0) (tosF N (Ed.take 0))) := hide (HR.out.1.full _)
        have y4 : wr.cell? ⟨w.heap.size, 4, none⟩ = some (.slice a3 lE c3) := cell_of HB1.out rfl
        clear HR
        go_wp2_with fail
        clear y4
        obtain ⟨wx, hwx⟩ : ∃ X, X = wr := ⟨_, rfl⟩
        rw [← hwx]
        rw [← hwx] at HB1 HB3 HDr HQ
        clear hwx
        go_loopw [32] (fun iv wr => ∃ i : Nat, i ≤ lE ∧ iv = .int .i64 (i : Int) ∧ ∃ (gs cs hs : Nat → Nat) (nl : Nat → Bool) (V : Nat → Value), Hid (StP W0.heap.size wr gb M N bs gs cs hs (leaF (Ed.take i)) nl V (tosF N (Ed.take i)) ∧ wr.heap[p3]? = some (.cells #[.int .i64 (N : Int), .slice (some ⟨gb, 0, none⟩) M M] 85 (0, 0)) ∧ Below W0.heap.size W0 wr)) (fun iv _ => lE - (intOf iv).toNat)
        case atStart => exact ⟨0, Nat.zero_le _, rfl, _, _, _, _, _, hide ⟨HQ.out, HB3.out, HDr.out⟩⟩
        case round =>
          obtain ⟨i, hi, rfl, gs, cs, hs, nl, V, HP⟩ := hrel
          have hE1 : lE ≤ 65536 := HNM.out.2.2.1
          by_cases hil : i < lE
          · have hr := (HNM.out.2.2.2.2.1.on (HD.out.1.trans (HP.out.2.2.mono HD.out.1.size))) i (by rw [HNM.out.2.2.2.1]; exact hil)
            obtain ⟨ga, oa, ea, hr0, hr1, hr2⟩ := hr
            have hm := HNM.out.2.2.2.2.2 _ (List.getElem_mem (show i < Ed.length by rw [HNM.out.2.2.2.1]; exact hil))
            obtain ⟨x, hx⟩ : ∃ x, Ed[i]'(by rw [HNM.out.2.2.2.1]; exact hil) = x := ⟨_, rfl⟩
            rw [hx] at hr0 hr1 hr2 hm
            obtain ⟨x1, x2, x3⟩ := x
            obtain ⟨⟨m1, m2⟩, ⟨m3, m4⟩, m5, m6⟩ := hm
            obtain ⟨f, rfl⟩ := Int.eq_ofNat_of_zero_le m1
            obtain ⟨sy, rfl⟩ := Int.eq_ofNat_of_zero_le m3
            obtain ⟨te, rfl⟩ := Int.eq_ofNat_of_zero_le m5
            replace m2 : (f : Int) < (N : Int) := m2
            replace m4 : (sy : Int) < (M : Int) := m4
            replace m6 : (te : Int) < (N : Int) := m6
            have HFS : Hid (f < N ∧ sy < M ∧ te < N) := hide ⟨by omega, by omega, by omega⟩
            have HTK : Hid (Ed.take (i + 1) = Ed.take i ++ [((f : Int), (sy : Int), (te : Int))]) := hide (by rw [← hx, List.take_add_one, List.getElem?_eq_getElem]; rfl)
            clear hx m1 m3 m5 m6
            subst ea
            obtain ⟨p6, hp6⟩ : ∃ p, wr.heap.size = p := ⟨_, rfl⟩
            obtain ⟨w6, hw6⟩ : ∃ W, wr.alloc (.cells #[.int .i64 (f : Int), .int .i64 (sy : Int), .int .i64 (te : Int)] 62) = W := ⟨_, rfl⟩
            have d6 : Below wr.heap.size wr w6 := by rw [← hw6]; exact (Below.refl _ _).alloc (Nat.le_refl _) _
            have H66 : Hid (w6.heap[p6]? = some (.cells #[.int .i64 (f : Int), .int .i64 (sy : Int), .int .i64 (te : Int)] 62 (0, 0))) := hide (by rw [← hw6, ← hp6]; exact World.alloc_heap_new _ _)
            have HP6 : Hid (StP W0.heap.size w6 gb M N bs gs cs hs (leaF (Ed.take i)) nl V (tosF N (Ed.take i))) := hide (HP.out.1.on d6)
            have H36 := hide (blk_on HP.out.2.1 d6)
            have HD6 := hide (HP.out.2.2.trans (d6.mono HP.out.2.2.size))
            have HS6 : Hid (W0.heap.size ≤ w6.heap.size ∧ W0.heap.size ≤ p6) := hide ⟨HD6.out.size, by rw [← hp6]; exact HP.out.2.2.size⟩
            clear d6 HP
            go_upto_region 10 with fail
            clear hr0 hr1 hr2
            clear hw6 hp6
            have y3 : w6.cell? ⟨p3, 1, none⟩ = some (.slice (some ⟨gb, 0, none⟩) M M) := cell_of H36.out rfl
            have y6 : w6.cell? ⟨p6, 1, none⟩ = some (.int .i64 (sy : Int)) := cell_of H66.out rfl
            go_upto_region 11 with fail
            clear y3 y6
            have yg := HP6.out.gr.at (sy * 2 + 1) (by have := HFS.out.2.1; omega)
            unfold stV at yg
            rw [if_neg (by omega), show (sy * 2 + 1) / 2 = sy from by omega] at yg
            cases hn : nl sy with
            | true =>
              rw [hn] at yg
              have yg' : w6.cell? ⟨gb, sy * 2 + 1, none⟩ = some (.slice none 0 0) := yg
              have fg' : w6.frozen? ⟨gb, sy * 2 + 1, none⟩ = false := HP6.out.gr.fz _
              have heq : ∀ W : World, (binOp .eql 31 (.slice none 0 0) (.slice none 0 0)).run Tryz.prog W = .ok (.bool true) W := fun W => by
                have := Lib.run_eql_slice_nil (P := Tryz.prog) W 31 22 none 0 0 0 0 Tryz.underlying31
                simpa using this
              have y0 : w6.cell? ⟨w.heap.size, 0, none⟩ = some (.int .i64 (N : Int)) := cell_of (blk_on HB0.out HD6.out) rfl
              obtain ⟨C22, hC22⟩ : ∃ C, madeCells (Value.slice none 0 0).cells (N * 1) = C := ⟨_, rfl⟩
              have HC22 := hide hC22
              clear hC22
              have hmk2 : ∀ W : World, (Instr.makeSlice 31 (.int .i64 (N : Int)) (.int .i64 (N : Int))).run Tryz.prog W = .ok (.slice (some ⟨W.heap.size, 0, none⟩) N N) (W.alloc (.cells C22 22)) := fun W => by
                obtain ⟨i22, hi22, hz220, hz221, hz222⟩ := info_parts info22'
                have hN1 := HNM.out.1
                have h := run_make (P := Tryz.prog) W 31 22 i22 (.slice none 0 0) Tryz.underlying31 hi22 hz220 .i64 .i64 (N : Int) (N : Int) (by omega) (by omega) (by rw [hz222]; omega) (by omega)
                rw [hz221, Int.toNat_natCast] at h
                rw [← HC22.out]
                exact h
              have hgl : gb < w6.heap.size := HP6.out.gr.lt
              have yg2 : (w6.alloc (.cells C22 22)).cell? ⟨gb, sy * 2 + 1, none⟩ = some (.slice none 0 0) := (((Below.refl w6.heap.size w6).alloc (Nat.le_refl _) (.cells C22 22)).cell (p := ⟨gb, sy * 2 + 1, none⟩) hgl).trans yg'
              have fg2 : (w6.alloc (.cells C22 22)).frozen? ⟨gb, sy * 2 + 1, none⟩ = false := (HP6.out.on ((Below.refl w6.heap.size w6).alloc (Nat.le_refl _) (.cells C22 22))).gr.fz _
              clear yg
              go_upto_region 13 with fail
              clear heq yg' fg' y0 hmk2 yg2 fg2
              obtain ⟨w5, hw5⟩ : ∃ W, w6.alloc (.cells C22 22) = W := ⟨_, rfl⟩
              have d5 : Below w6.heap.size w6 w5 := by rw [← hw5]; exact (Below.refl w6.heap.size w6).alloc (Nat.le_refl _) _
              have m5 : Mrw w5 w6.heap.size 22 N (fun _ => .slice none 0 0) N := mrw_make rfl (by rw [HC22.out, ← hw5]; exact World.alloc_heap_new _ _)
              obtain ⟨w7, hw7⟩ : ∃ W, (w6.setCell ⟨gb, sy * 2 + 1, none⟩ (.slice (some ⟨w6.heap.size, 0, none⟩) N N)).alloc (.cells C22 22) = W := ⟨_, rfl⟩
              rw [hw7]
              have h57 : w5.setCell ⟨gb, sy * 2 + 1, none⟩ (.slice (some ⟨w6.heap.size, 0, none⟩) N N) = w7 := by rw [← hw5, ← hw7]; exact World.setCell_alloc_past _ _ _ _ hgl
              have o57 := only_set w5 gb (sy * 2 + 1) (.slice (some ⟨w6.heap.size, 0, none⟩) N N)
              rw [h57] at o57
              have HPx := HP6.out.new HFS.out.2.1 hn d5 (Nat.le_refl _) m5 HS6.out.1
              rw [h57] at HPx
              have kk : ∀ {q t : Nat} {c : Array Value}, w5.heap[q]? = some (.cells c t (0, 0)) → t ≠ 128 → ¬ q = gb := fun z ne e => by
                obtain ⟨c1, e1⟩ := (HP6.out.on d5).kind
                rw [e, e1] at z; injection z with z; injection z with _ z _; exact ne z.symm
              have H67 := hide ((o57.block _ (Array.getElem?_eq_some_iff.1 (blk_on H66.out d5)).1 (kk (blk_on H66.out d5) (by decide))).trans (blk_on H66.out d5))
              have H37 := hide ((o57.block _ (Array.getElem?_eq_some_iff.1 (blk_on H36.out d5)).1 (kk (blk_on H36.out d5) (by decide))).trans (blk_on H36.out d5))
              have HD7 := hide (HD6.out.trans ((d5.mono HD6.out.size).trans (o57.toBelow (Nat.le_trans HD6.out.size d5.size) (fun k hk => by rw [hk]; exact HP6.out.ge))))
              obtain ⟨nl2, hnl2⟩ : ∃ x, updF nl sy false = x := ⟨_, rfl⟩
              have HN : Hid (nl2 sy = false) := hide (by rw [← hnl2, updF_same])
              rw [hnl2] at HPx
              obtain ⟨hs2, hhs2⟩ : ∃ x, updF hs sy w6.heap.size = x := ⟨_, rfl⟩
              rw [hhs2] at HPx
              have HP7 := hide HPx
              clear HPx hhs2 hnl2 o57 h57 hw7 m5 hw5 d5 kk hn H66 H36 HD6 HP6 hgl
              have HK : Hid (gb < w7.heap.size ∧ ¬ gb = gs sy ∧ w7.cell? ⟨gb, sy * 2, none⟩ = some (.pointer (some ⟨bs sy, 0, none⟩))) := hide (by
                have z := (HP7.out.st sy HFS.out.2.1).1
                obtain ⟨c, e1⟩ := HP7.out.kind
                obtain ⟨-, c2, f2, e2⟩ := set_types z
                refine ⟨HP7.out.gr.lt, fun e => by rw [e, e2] at e1; injection e1 with e1; injection e1 with _ e1 _; exact absurd e1 (by decide), ?_⟩
                have y := HP7.out.gr.at (sy * 2) (by have := HFS.out.2.1; omega)
                unfold stV at y
                rw [if_pos (by omega), show sy * 2 / 2 = sy from by omega] at y
                exact y)
              have nk : ∀ {q t : Nat} {c : Array Value}, w7.heap[q]? = some (.cells c t (0, 0)) → t ≠ 126 → ¬ q = gs sy := fun z ne e => by
                obtain ⟨-, c2, f2, e2⟩ := set_types (HP7.out.st sy HFS.out.2.1).1
                rw [e, e2] at z; injection z with z; injection z with _ z _; exact ne z.symm
              have HP6 := hide (And.intro H67.out (nk H67.out (by decide)))
              have HB37 := hide (And.intro H37.out (nk H37.out (by decide)))
              have HSE := hide (And.intro (HP7.out.st sy HFS.out.2.1).1 (HP7.out.st sy HFS.out.2.1).2.1)
              have HSE2 := hide (HP7.out.st sy HFS.out.2.1).2.2.2
              clear nk H67 H37
              have hmo : MonIL 0 [vI 0 (.pointer (some ⟨gb, sy * 2, none⟩)), vI 1 (.pointer (some ⟨gb, sy * 2, none⟩)), vI 2 (.pointer (some ⟨gb, sy * 2, none⟩)), vI 3 (.pointer (some ⟨bs sy, 0, none⟩)), vI 4 (.pointer (some ⟨p6, 0, none⟩)), vI 5 (.int .i64 (f : Int)), ⟨[], [], fun _ _ _ W => IsSet W (bs sy) (gs sy) (cs sy) N (leaF (Ed.take i) sy ||| 2 ^ f)⟩] := ⟨vI_mono _ _, vI_mono _ _, vI_mono _ _, vI_mono _ _, vI_mono _ _, vI_mono _ _, (fun _ _ _ _ _ _ _ d _ h => h.below d), trivial⟩
              refine wp_region_sj (JO w7 (fun k => k = gs sy)) 6 [vI 0 (.pointer (some ⟨gb, sy * 2, none⟩)), vI 1 (.pointer (some ⟨gb, sy * 2, none⟩)), vI 2 (.pointer (some ⟨gb, sy * 2, none⟩)), vI 3 (.pointer (some ⟨bs sy, 0, none⟩)), vI 4 (.pointer (some ⟨p6, 0, none⟩)), vI 5 (.int .i64 (f : Int)), ⟨[], [], fun _ _ _ W => IsSet W (bs sy) (gs sy) (cs sy) N (leaF (Ed.take i) sy ||| 2 ^ f)⟩] (by kernel_rfl) (JO_first ⟨rfl, rfl, rfl, Nat.le_refl _, fun _ _ => rfl⟩) (by kernel_rfl) (by kernel_rfl) (by kernel_rfl) (by kernel_rfl) hmo ⟨?o0, ?o1, ?o2, ?o3, ?o4, ?o5, ?o6, trivial⟩ ?fin
              case o0 =>
                intro At yy W bb hy hb hbb d hz hd K hK
                have s7 : At.tmps.getD 7 undef = .pointer (some ⟨gb, sy * 2, none⟩) := hb 7 rfl
                have s7' := s7
                rw [Array.getD_eq_getD_getElem?] at s7'
                clear hd hy hb
                go_simp
                exact hK.out _ W (stpj_of hmo d (Below.refl _ _)) (if_pos rfl)
              case o1 =>
                intro At yy W bb hy hb hbb d hz hd K hK
                have e0 : yy 0 = .pointer (some ⟨gb, sy * 2, none⟩) := by obtain ⟨_, _, _, _, e⟩ := hd ⟨0, .data⟩ (by simp) rfl rfl; exact e
                have s52 := (hy 0 _ 52 rfl rfl).trans e0
                have s52' := s52
                rw [Array.getD_eq_getD_getElem?] at s52'
                clear hd hy hb
                go_simp
                exact hK.out _ W (stpj_of hmo d (Below.refl _ _)) (if_pos rfl)
              case o2 =>
                intro At yy W bb hy hb hbb d hz hd K hK
                have e1 : yy 1 = .pointer (some ⟨gb, sy * 2, none⟩) := by obtain ⟨_, _, _, _, e⟩ := hd ⟨1, .data⟩ (by simp) rfl rfl; exact e
                have s53 := (hy 1 _ 53 rfl rfl).trans e1
                have s53' := s53
                rw [Array.getD_eq_getD_getElem?] at s53'
                clear hd hy hb
                go_simp
                exact hK.out _ W (stpj_of hmo d (Below.refl _ _)) (if_pos rfl)
              case o3 =>
                intro At yy W bb hy hb hbb d hz hd K hK
                have e2 : yy 2 = .pointer (some ⟨gb, sy * 2, none⟩) := by obtain ⟨_, _, _, _, e⟩ := hd ⟨2, .data⟩ (by simp) rfl rfl; exact e
                have s54 := (hy 2 _ 54 rfl rfl).trans e2
                have s54' := s54
                rw [Array.getD_eq_getD_getElem?] at s54'
                clear hd hy hb
                have y : W.cell? ⟨gb, sy * 2, none⟩ = some (.pointer (some ⟨bs sy, 0, none⟩)) := (cell_only d.2 HK.out.1 HK.out.2.1).trans HK.out.2.2
                go_simp
                exact hK.out _ W (stpj_of hmo d (Below.refl _ _)) (if_pos rfl)
              case o4 =>
                intro At yy W bb hy hb hbb d hz hd K hK
                have s6 : At.tmps.getD 6 undef = .pointer (some ⟨p6, 0, none⟩) := hb 6 rfl
                have s6' := s6
                rw [Array.getD_eq_getD_getElem?] at s6'
                clear hd hy hb
                go_simp
                exact hK.out _ W (stpj_of hmo d (Below.refl _ _)) (if_pos rfl)
              case o5 =>
                intro At yy W bb hy hb hbb d hz hd K hK
                have e4 : yy 4 = .pointer (some ⟨p6, 0, none⟩) := by obtain ⟨_, _, _, _, e⟩ := hd ⟨4, .data⟩ (by simp) rfl rfl; exact e
                have s56 := (hy 4 _ 56 rfl rfl).trans e4
                have s56' := s56
                rw [Array.getD_eq_getD_getElem?] at s56'
                clear hd hy hb
                have y6 : W.cell? ⟨p6, 0, none⟩ = some (.int .i64 (f : Int)) := cell_of (JO_blk d HP6.out.1 HP6.out.2) rfl
                go_simp
                exact hK.out _ W (stpj_of hmo d (Below.refl _ _)) (if_pos rfl)
              case o6 =>
                intro At yy W bb hy hb hbb d hz hd K hK
                have e3 : yy 3 = .pointer (some ⟨bs sy, 0, none⟩) := by obtain ⟨_, _, _, _, e⟩ := hd ⟨3, .data⟩ (by simp) rfl rfl; exact e
                have e5 : yy 5 = .int .i64 (f : Int) := by obtain ⟨_, _, _, _, e⟩ := hd ⟨5, .data⟩ (by simp) rfl rfl; exact e
                have s55 := (hy 3 _ 55 rfl rfl).trans e3
                have s55' := s55
                rw [Array.getD_eq_getD_getElem?] at s55'
                have s57 := (hy 5 _ 57 rfl rfl).trans e5
                have s57' := s57
                rw [Array.getD_eq_getD_getElem?] at s57'
                clear hd hb
                have hb0 := hbb rfl
                subst hb0
                go_simp
                go_wp2_with (go_at_call 93; refine (add_only (bs sy) (gs sy) (cs sy) N _ f W (HSE.out.1.below (d.1 rfl)) HSE.out.2 HFS.out.1).mono ?_; rintro e w8 ⟨rfl, hs8, o8⟩)
                exact hK.out _ w8 (stpj_keeps [] rfl (JO_put d o8) o8.size ⟨.inr (fun _ _ _ h => h), .inr (fun _ _ _ h => h), .inr (fun _ _ _ h => h), .inr (fun _ _ _ h => h), .inr (fun _ _ _ h => h), .inr (fun _ _ _ h => h), .inl (by simp), trivial⟩) hs8
              case fin =>
                intro yy lo hi W hM
                show wpList _ _ _ [] _ _
                have e0 : yy 0 = .pointer (some ⟨gb, sy * 2, none⟩) := hM.fact 0 (by simp) rfl (notR_all 0 rfl)
                have e1 : yy 1 = .pointer (some ⟨gb, sy * 2, none⟩) := hM.fact 1 (by simp) rfl (notR_all 1 rfl)
                have e2 : yy 2 = .pointer (some ⟨gb, sy * 2, none⟩) := hM.fact 2 (by simp) rfl (notR_all 2 rfl)
                have e3 : yy 3 = .pointer (some ⟨bs sy, 0, none⟩) := hM.fact 3 (by simp) rfl (notR_all 3 rfl)
                have e4 : yy 4 = .pointer (some ⟨p6, 0, none⟩) := hM.fact 4 (by simp) rfl (notR_all 4 rfl)
                have e5 : yy 5 = .int .i64 (f : Int) := hM.fact 5 (by simp) rfl (notR_all 5 rfl)
                have hs8 : IsSet W (bs sy) (gs sy) (cs sy) N (leaF (Ed.take i) sy ||| 2 ^ f) := hM.fact 6 (by simp) rfl (notR_all 6 rfl)
                have dd : JO w7 (fun k => k = gs sy) true W := hM.d
                simp only [fills, Act.put, List.take, List.length, List.setIfInBounds_toArray, List.set_cons_zero, List.set_cons_succ, e0, e1, e2, e3, e4, e5]
                clear hM hmo e0 e1 e2 e3 e4 e5
                have HP8 := hide (HP7.out.add HFS.out.2.1 dd.2 hs8)
                have H38 := hide (JO_blk dd HB37.out.1 HB37.out.2)
                have H68 := hide (JO_blk dd HP6.out.1 HP6.out.2)
                have HD8 := hide (HD7.out.trans (dd.2.toBelow HD7.out.size (fun k hk => by rw [hk]; exact HSE2.out)))
                clear dd hs8 HP7 HB37 HP6 HK HSE HSE2 HD7
                go_upto_region 14 with fail
                rename World => w8
                obtain ⟨X, hX⟩ : ∃ X, tosF N (Ed.take i) (sy * N + f) = X := ⟨_, rfl⟩
                have hi8 := idx_lt HFS.out.2.1 HFS.out.1
                have hO := HP8.out.fm (sy * N + f) hi8
                rw [hX] at hO
                have HXl : Hid (X.length ≤ 16777216) := hide (by rw [← hX]; have := tosF_len N (Ed.take i) (sy * N + f); have := List.length_take_le i Ed; omega)
                obtain ⟨t1, k1, hv⟩ := own_slice hO
                obtain ⟨nX, hnX⟩ : ∃ l, (natI X).length = l := ⟨_, rfl⟩
                rw [hnX] at hv
                obtain ⟨hm8, hge8⟩ := HP8.out.rw sy HFS.out.2.1 HN.out
                have HGWc : w8.cell? ⟨hs2 sy, f, none⟩ = some (.slice t1 nX k1) := by have := hm8.at f HFS.out.1; rw [hv] at this; exact this
                obtain ⟨ch, hch⟩ : ∃ cs, w8.heap[hs2 sy]? = some (.cells cs 22 (0, 0)) := by obtain ⟨c, e1, _⟩ := hm8; exact ⟨c, e1⟩
                have hO2 := hO
                rw [hv] at hO2
                have nb : ∀ {q t : Nat} {c : Array Value}, w8.heap[q]? = some (.cells c t (0, 0)) → t ≠ 3 → ¬ (Value.slice t1 nX k1).ownBlock = some q := fun z ne e => row_tag hO2 z ne e
                have HGW : Hid (∀ W bb, JO w8 (fun k => (Value.slice t1 nX k1).ownBlock = some k) bb W → W.cell? ⟨hs2 sy, f, none⟩ = some (.slice t1 nX k1)) := hide (fun W bb d => by
                  have e := JO_blk d hch (nb hch (by decide))
                  rw [World.cell?_of_block (e.trans hch.symm)]
                  exact HGWc)
                have HGF : Hid (∀ W bb, JO w8 (fun k => (Value.slice t1 nX k1).ownBlock = some k) bb W → W.frozen? ⟨hs2 sy, f, none⟩ = false) := hide (fun W bb d => fz_of (JO_blk d hch (nb hch (by decide))))
                have HEN : Hid (∀ W bb, JO w8 (fun k => (Value.slice t1 nX k1).ownBlock = some k) bb W → W.cell? ⟨gb, sy * 2 + 1, none⟩ = some (.slice (some ⟨hs2 sy, 0, none⟩) N N)) := hide (fun W bb d => by
                  obtain ⟨cg, hcg⟩ := HP8.out.kind
                  have e := JO_blk d hcg (nb hcg (by decide))
                  rw [World.cell?_of_block (e.trans hcg.symm)]
                  have y := HP8.out.gr.at (sy * 2 + 1) (by have := HFS.out.2.1; omega)
                  unfold stV at y
                  rw [if_neg (by omega), show (sy * 2 + 1) / 2 = sy from by omega, HN.out] at y
                  exact y)
                have HBX6 := hide (And.intro H68.out (nb H68.out (by decide)))
                have HLO := hide (fun k hk => (hO2.lt k hk).2 : ∀ k, (Value.slice t1 nX k1).ownBlock = some k → k < w8.heap.size)
                have HOX := hide hO2
                have HB8 : Hid (W0.heap.size ≤ w8.heap.size) := hide HD8.out.size
                have HPW : Hid (∀ W v, Only w8 W (fun k => (Value.slice t1 nX k1).ownBlock = some k) → OwI W W0.heap.size v (natI (X ++ [te])) → (∀ k, v.ownBlock = some k → (Value.slice t1 nX k1).ownBlock = some k ∨ w8.heap.size ≤ k) → StP W0.heap.size (W.setCell ⟨hs2 sy, f, none⟩ v) gb M N bs gs cs hs2 (leaF (Ed.take (i + 1))) nl2 (updF V (sy * N + f) v) (tosF N (Ed.take (i + 1))) ∧ (W.setCell ⟨hs2 sy, f, none⟩ v).heap[p3]? = some (.cells #[.int .i64 (N : Int), .slice (some ⟨gb, 0, none⟩) M M] 85 (0, 0)) ∧ Below W0.heap.size W0 (W.setCell ⟨hs2 sy, f, none⟩ v)) := hide (fun W v o ho hb => by
                  have q := HP8.out.app HFS.out.2.1 HFS.out.1 HN.out (v := v) (T := X ++ [te]) (by rw [hv]; exact o) ho (by rw [hv]; exact hb)
                  have o2 := only_set W (hs2 sy) f v
                  have hpc : W.heap[p3]? = _ := (o.block _ (Array.getElem?_eq_some_iff.1 H38.out).1 (nb H38.out (by decide))).trans H38.out
                  have hch2 : W.heap[hs2 sy]? = _ := (o.block _ (Array.getElem?_eq_some_iff.1 hch).1 (nb hch (by decide))).trans hch
                  refine ⟨?_, ?_, ?_⟩
                  · rw [HTK.out, leaF_snoc, tosF_snoc, hX]
                    exact q
                  · refine (o2.block _ (Array.getElem?_eq_some_iff.1 hpc).1 (fun e => ?_)).trans hpc
                    rw [e, hch2] at hpc
                    injection hpc with hpc
                    injection hpc with _ hpc
                    exact absurd hpc (by decide)
                  · exact (HD8.out.trans (o.toBelow HB8.out (fun k hk => (hO2.lt k hk).1))).trans (o2.toBelow (Nat.le_trans HB8.out o.size) (fun k hk => by rw [hk]; exact hge8)))
                clear hO hO2 hv hm8 hge8 HGWc hch nb hX hi8 hnX
                have hmo : MonIL 0 [vI 0 (.pointer (some ⟨gb, sy * 2, none⟩)), vI 1 (.pointer (some ⟨gb, sy * 2, none⟩)), vI 2 (.pointer (some ⟨gb, sy * 2 + 1, none⟩)), vI 3 (.slice (some ⟨hs2 sy, 0, none⟩) N N), vI 4 (.pointer (some ⟨p6, 0, none⟩)), vI 5 (.int .i64 (f : Int)), vI 6 (.pointer (some ⟨gb, sy * 2, none⟩)), vI 7 (.pointer (some ⟨gb, sy * 2, none⟩)), vI 8 (.pointer (some ⟨gb, sy * 2 + 1, none⟩)), vI 9 (.slice (some ⟨hs2 sy, 0, none⟩) N N), vI 10 (.pointer (some ⟨p6, 0, none⟩)), vI 11 (.int .i64 (f : Int)), vI 12 (.pointer (some ⟨hs2 sy, f, none⟩)), vI 13 (.slice t1 nX k1), vI 14 (.pointer (some ⟨p6, 2, none⟩)), vI 15 (.int .i64 (te : Int)), pI 16 (ox1P w8.heap.size (.int .i64 (te : Int))), pI 17 (apI W0.heap.size (X ++ [te]) (Value.slice t1 nX k1).ownBlock w8.heap.size)] := ⟨vI_mono _ _, vI_mono _ _, vI_mono _ _, vI_mono _ _, vI_mono _ _, vI_mono _ _, vI_mono _ _, vI_mono _ _, vI_mono _ _, vI_mono _ _, vI_mono _ _, vI_mono _ _, vI_mono _ _, vI_mono _ _, vI_mono _ _, vI_mono _ _, pI_mono ox1P_mono, pI_mono apI_mono, trivial⟩
                refine wp_region_sj (JO w8 (fun k => (Value.slice t1 nX k1).ownBlock = some k)) 17 [vI 0 (.pointer (some ⟨gb, sy * 2, none⟩)), vI 1 (.pointer (some ⟨gb, sy * 2, none⟩)), vI 2 (.pointer (some ⟨gb, sy * 2 + 1, none⟩)), vI 3 (.slice (some ⟨hs2 sy, 0, none⟩) N N), vI 4 (.pointer (some ⟨p6, 0, none⟩)), vI 5 (.int .i64 (f : Int)), vI 6 (.pointer (some ⟨gb, sy * 2, none⟩)), vI 7 (.pointer (some ⟨gb, sy * 2, none⟩)), vI 8 (.pointer (some ⟨gb, sy * 2 + 1, none⟩)), vI 9 (.slice (some ⟨hs2 sy, 0, none⟩) N N), vI 10 (.pointer (some ⟨p6, 0, none⟩)), vI 11 (.int .i64 (f : Int)), vI 12 (.pointer (some ⟨hs2 sy, f, none⟩)), vI 13 (.slice t1 nX k1), vI 14 (.pointer (some ⟨p6, 2, none⟩)), vI 15 (.int .i64 (te : Int)), pI 16 (ox1P w8.heap.size (.int .i64 (te : Int))), pI 17 (apI W0.heap.size (X ++ [te]) (Value.slice t1 nX k1).ownBlock w8.heap.size)] (by kernel_rfl) (JO_first ⟨rfl, rfl, rfl, Nat.le_refl _, fun _ _ => rfl⟩) (by kernel_rfl) (by kernel_rfl) (by kernel_rfl) (by kernel_rfl) hmo ⟨?o0, ?o1, ?o2, ?o3, ?o4, ?o5, ?o6, ?o7, ?o8, ?o9, ?o10, ?o11, ?o12, ?o13, ?o14, ?o15, ?o16, ?o17, trivial⟩ ?fin
                case o0 =>
                  intro At yy W bb hy hb hbb d hz hd K hK
                  have s7 : At.tmps.getD 7 undef = .pointer (some ⟨gb, sy * 2, none⟩) := hb 7 rfl
                  have s7' := s7
                  rw [Array.getD_eq_getD_getElem?] at s7'
                  clear hd hy hb
                  go_simp
                  exact hK.out _ W (stpj_of hmo d (Below.refl _ _)) (if_pos rfl)
                case o1 =>
                  intro At yy W bb hy hb hbb d hz hd K hK
                  have e0 : yy 0 = .pointer (some ⟨gb, sy * 2, none⟩) := by obtain ⟨_, _, _, _, e⟩ := hd ⟨0, .data⟩ (by simp) rfl rfl; exact e
                  have s59 := (hy 0 _ 59 rfl rfl).trans e0
                  have s59' := s59
                  rw [Array.getD_eq_getD_getElem?] at s59'
                  clear hd hy hb
                  go_simp
                  exact hK.out _ W (stpj_of hmo d (Below.refl _ _)) (if_pos rfl)
                case o2 =>
                  intro At yy W bb hy hb hbb d hz hd K hK
                  have e1 : yy 1 = .pointer (some ⟨gb, sy * 2, none⟩) := by obtain ⟨_, _, _, _, e⟩ := hd ⟨1, .data⟩ (by simp) rfl rfl; exact e
                  have s60 := (hy 1 _ 60 rfl rfl).trans e1
                  have s60' := s60
                  rw [Array.getD_eq_getD_getElem?] at s60'
                  clear hd hy hb
                  go_simp
                  exact hK.out _ W (stpj_of hmo d (Below.refl _ _)) (if_pos rfl)
                case o3 =>
                  intro At yy W bb hy hb hbb d hz hd K hK
                  have e2 : yy 2 = .pointer (some ⟨gb, sy * 2 + 1, none⟩) := by obtain ⟨_, _, _, _, e⟩ := hd ⟨2, .data⟩ (by simp) rfl rfl; exact e
                  have s61 := (hy 2 _ 61 rfl rfl).trans e2
                  have s61' := s61
                  rw [Array.getD_eq_getD_getElem?] at s61'
                  clear hd hy hb
                  have y : W.cell? ⟨gb, sy * 2 + 1, none⟩ = some (.slice (some ⟨hs2 sy, 0, none⟩) N N) := HEN.out W _ d
                  go_simp
                  exact hK.out _ W (stpj_of hmo d (Below.refl _ _)) (if_pos rfl)
                case o4 =>
                  intro At yy W bb hy hb hbb d hz hd K hK
                  have s6 : At.tmps.getD 6 undef = .pointer (some ⟨p6, 0, none⟩) := hb 6 rfl
                  have s6' := s6
                  rw [Array.getD_eq_getD_getElem?] at s6'
                  clear hd hy hb
                  go_simp
                  exact hK.out _ W (stpj_of hmo d (Below.refl _ _)) (if_pos rfl)
                case o5 =>
                  intro At yy W bb hy hb hbb d hz hd K hK
                  have e4 : yy 4 = .pointer (some ⟨p6, 0, none⟩) := by obtain ⟨_, _, _, _, e⟩ := hd ⟨4, .data⟩ (by simp) rfl rfl; exact e
                  have s63 := (hy 4 _ 63 rfl rfl).trans e4
                  have s63' := s63
                  rw [Array.getD_eq_getD_getElem?] at s63'
                  clear hd hy hb
                  have y0 : W.cell? ⟨p6, 0, none⟩ = some (.int .i64 (f : Int)) := cell_of (JO_blk d HBX6.out.1 HBX6.out.2) rfl
                  go_simp
                  exact hK.out _ W (stpj_of hmo d (Below.refl _ _)) (if_pos rfl)
                case o6 =>
                  intro At yy W bb hy hb hbb d hz hd K hK
                  have s7 : At.tmps.getD 7 undef = .pointer (some ⟨gb, sy * 2, none⟩) := hb 7 rfl
                  have s7' := s7
                  rw [Array.getD_eq_getD_getElem?] at s7'
                  clear hd hy hb
                  go_simp
                  exact hK.out _ W (stpj_of hmo d (Below.refl _ _)) (if_pos rfl)
                case o7 =>
                  intro At yy W bb hy hb hbb d hz hd K hK
                  have e6 : yy 6 = .pointer (some ⟨gb, sy * 2, none⟩) := by obtain ⟨_, _, _, _, e⟩ := hd ⟨6, .data⟩ (by simp) rfl rfl; exact e
                  have s65 := (hy 6 _ 65 rfl rfl).trans e6
                  have s65' := s65
                  rw [Array.getD_eq_getD_getElem?] at s65'
                  clear hd hy hb
                  go_simp
                  exact hK.out _ W (stpj_of hmo d (Below.refl _ _)) (if_pos rfl)
                case o8 =>
                  intro At yy W bb hy hb hbb d hz hd K hK
                  have e7 : yy 7 = .pointer (some ⟨gb, sy * 2, none⟩) := by obtain ⟨_, _, _, _, e⟩ := hd ⟨7, .data⟩ (by simp) rfl rfl; exact e
                  have s66 := (hy 7 _ 66 rfl rfl).trans e7
                  have s66' := s66
                  rw [Array.getD_eq_getD_getElem?] at s66'
                  clear hd hy hb
                  go_simp
                  exact hK.out _ W (stpj_of hmo d (Below.refl _ _)) (if_pos rfl)
                case o9 =>
                  intro At yy W bb hy hb hbb d hz hd K hK
                  have e8 : yy 8 = .pointer (some ⟨gb, sy * 2 + 1, none⟩) := by obtain ⟨_, _, _, _, e⟩ := hd ⟨8, .data⟩ (by simp) rfl rfl; exact e
                  have s67 := (hy 8 _ 67 rfl rfl).trans e8
                  have s67' := s67
                  rw [Array.getD_eq_getD_getElem?] at s67'
                  clear hd hy hb
                  have y : W.cell? ⟨gb, sy * 2 + 1, none⟩ = some (.slice (some ⟨hs2 sy, 0, none⟩) N N) := HEN.out W _ d
                  go_simp
                  exact hK.out _ W (stpj_of hmo d (Below.refl _ _)) (if_pos rfl)
                case o10 =>
                  intro At yy W bb hy hb hbb d hz hd K hK
                  have s6 : At.tmps.getD 6 undef = .pointer (some ⟨p6, 0, none⟩) := hb 6 rfl
                  have s6' := s6
                  rw [Array.getD_eq_getD_getElem?] at s6'
                  clear hd hy hb
                  go_simp
                  exact hK.out _ W (stpj_of hmo d (Below.refl _ _)) (if_pos rfl)
                case o11 =>
                  intro At yy W bb hy hb hbb d hz hd K hK
                  have e10 : yy 10 = .pointer (some ⟨p6, 0, none⟩) := by obtain ⟨_, _, _, _, e⟩ := hd ⟨10, .data⟩ (by simp) rfl rfl; exact e
                  have s69 := (hy 10 _ 69 rfl rfl).trans e10
                  have s69' := s69
                  rw [Array.getD_eq_getD_getElem?] at s69'
                  clear hd hy hb
                  have y0 : W.cell? ⟨p6, 0, none⟩ = some (.int .i64 (f : Int)) := cell_of (JO_blk d HBX6.out.1 HBX6.out.2) rfl
                  go_simp
                  exact hK.out _ W (stpj_of hmo d (Below.refl _ _)) (if_pos rfl)
                case o12 =>
                  intro At yy W bb hy hb hbb d hz hd K hK
                  have e9 : yy 9 = .slice (some ⟨hs2 sy, 0, none⟩) N N := by obtain ⟨_, _, _, _, e⟩ := hd ⟨9, .data⟩ (by simp) rfl rfl; exact e
                  have e11 : yy 11 = .int .i64 (f : Int) := by obtain ⟨_, _, _, _, e⟩ := hd ⟨11, .data⟩ (by simp) rfl rfl; exact e
                  have s68 := (hy 9 _ 68 rfl rfl).trans e9
                  have s68' := s68
                  rw [Array.getD_eq_getD_getElem?] at s68'
                  have s70 := (hy 11 _ 70 rfl rfl).trans e11
                  have s70' := s70
                  rw [Array.getD_eq_getD_getElem?] at s70'
                  clear hd hy hb
                  go_simp
                  exact hK.out _ W (stpj_of hmo d (Below.refl _ _)) (if_pos rfl)
                case o13 =>
                  intro At yy W bb hy hb hbb d hz hd K hK
                  have e12 : yy 12 = .pointer (some ⟨hs2 sy, f, none⟩) := by obtain ⟨_, _, _, _, e⟩ := hd ⟨12, .data⟩ (by simp) rfl rfl; exact e
                  have s71 := (hy 12 _ 71 rfl rfl).trans e12
                  have s71' := s71
                  rw [Array.getD_eq_getD_getElem?] at s71'
                  clear hd hy hb
                  have y : W.cell? ⟨hs2 sy, f, none⟩ = some (.slice t1 nX k1) := HGW.out W _ d
                  go_simp
                  exact hK.out _ W (stpj_of hmo d (Below.refl _ _)) (if_pos rfl)
                case o14 =>
                  intro At yy W bb hy hb hbb d hz hd K hK
                  have s6 : At.tmps.getD 6 undef = .pointer (some ⟨p6, 0, none⟩) := hb 6 rfl
                  have s6' := s6
                  rw [Array.getD_eq_getD_getElem?] at s6'
                  clear hd hy hb
                  go_simp
                  exact hK.out _ W (stpj_of hmo d (Below.refl _ _)) (if_pos rfl)
                case o15 =>
                  intro At yy W bb hy hb hbb d hz hd K hK
                  have e14 : yy 14 = .pointer (some ⟨p6, 2, none⟩) := by obtain ⟨_, _, _, _, e⟩ := hd ⟨14, .data⟩ (by simp) rfl rfl; exact e
                  have s73 := (hy 14 _ 73 rfl rfl).trans e14
                  have s73' := s73
                  rw [Array.getD_eq_getD_getElem?] at s73'
                  clear hd hy hb
                  have y2 : W.cell? ⟨p6, 2, none⟩ = some (.int .i64 (te : Int)) := cell_of (JO_blk d HBX6.out.1 HBX6.out.2) rfl
                  go_simp
                  exact hK.out _ W (stpj_of hmo d (Below.refl _ _)) (if_pos rfl)
                case o16 =>
                  intro At yy W bb hy hb hbb d hz hd K hK
                  have e15 : yy 15 = .int .i64 (te : Int) := by obtain ⟨_, _, _, _, e⟩ := hd ⟨15, .data⟩ (by simp) rfl rfl; exact e
                  have s74 := (hy 15 _ 74 rfl rfl).trans e15
                  have s74' := s74
                  rw [Array.getD_eq_getD_getElem?] at s74'
                  clear hd hy hb
                  go_simp
                  exact hK.out _ _ (stpj_of hmo (JO_on d ((Below.refl _ _).alloc (Nat.le_refl _) _)) ((Below.refl _ _).alloc (Nat.le_refl _) _)) ⟨if_pos rfl, hz, by simp, World.alloc_heap_new _ _⟩
                case o17 =>
                  intro At yy W bb hy hb hbb d hz hd K hK
                  have e13 : yy 13 = .slice t1 nX k1 := by obtain ⟨_, _, _, _, e⟩ := hd ⟨13, .data⟩ (by simp) rfl rfl; exact e
                  have f16 := hd ⟨16, .data⟩ (by simp) rfl rfl
                  obtain ⟨lo2, hi2, hl2, hh2, e16, b2, l2, z2⟩ := f16
                  have s72 := (hy 13 _ 72 rfl rfl).trans e13
                  have s72' := s72
                  rw [Array.getD_eq_getD_getElem?] at s72'
                  have s75 := (hy 16 _ 75 rfl rfl).trans e16
                  have s75' := s75
                  rw [Array.getD_eq_getD_getElem?] at s75'
                  clear hd hb
                  have hb0 := hbb rfl
                  subst hb0
                  refine step_appI rfl _ _ rfl W0.heap.size (.slice t1 nX k1) X s72 (own_below HOX.out (d.1 rfl)) lo2 te s75 z2 HXl.out (Nat.le_trans HB8.out hz) ?_
                  intro v4 w4 ho4 hg4 hv4
                  exact hK.out _ w4 (stpj_keeps [] rfl (JO_put d hg4.out) hg4.out.size ⟨.inr (fun _ _ _ h => h), .inr (fun _ _ _ h => h), .inr (fun _ _ _ h => h), .inr (fun _ _ _ h => h), .inr (fun _ _ _ h => h), .inr (fun _ _ _ h => h), .inr (fun _ _ _ h => h), .inr (fun _ _ _ h => h), .inr (fun _ _ _ h => h), .inr (fun _ _ _ h => h), .inr (fun _ _ _ h => h), .inr (fun _ _ _ h => h), .inr (fun _ _ _ h => h), .inr (fun _ _ _ h => h), .inr (fun _ _ _ h => h), .inr (fun _ _ _ h => h), .inr (fun _ _ hh h => ox1P_keep hh h hg4.out HLO.out), .inl (by simp), trivial⟩) ⟨v4, if_pos rfl, ho4, fun k hk => (hv4 k hk).imp id (Nat.le_trans hz)⟩
                case fin =>
                  intro yy lo hi W hM
                  show wpList _ _ _ [_, _] _ _
                  have e0 : yy 0 = .pointer (some ⟨gb, sy * 2, none⟩) := hM.fact 0 (by simp) rfl (notR_all 0 rfl)
                  have e1 : yy 1 = .pointer (some ⟨gb, sy * 2, none⟩) := hM.fact 1 (by simp) rfl (notR_all 1 rfl)
                  have e2 : yy 2 = .pointer (some ⟨gb, sy * 2 + 1, none⟩) := hM.fact 2 (by simp) rfl (notR_all 2 rfl)
                  have e3 : yy 3 = .slice (some ⟨hs2 sy, 0, none⟩) N N := hM.fact 3 (by simp) rfl (notR_all 3 rfl)
                  have e4 : yy 4 = .pointer (some ⟨p6, 0, none⟩) := hM.fact 4 (by simp) rfl (notR_all 4 rfl)
                  have e5 : yy 5 = .int .i64 (f : Int) := hM.fact 5 (by simp) rfl (notR_all 5 rfl)
                  have e6 : yy 6 = .pointer (some ⟨gb, sy * 2, none⟩) := hM.fact 6 (by simp) rfl (notR_all 6 rfl)
                  have e7 : yy 7 = .pointer (some ⟨gb, sy * 2, none⟩) := hM.fact 7 (by simp) rfl (notR_all 7 rfl)
                  have e8 : yy 8 = .pointer (some ⟨gb, sy * 2 + 1, none⟩) := hM.fact 8 (by simp) rfl (notR_all 8 rfl)
                  have e9 : yy 9 = .slice (some ⟨hs2 sy, 0, none⟩) N N := hM.fact 9 (by simp) rfl (notR_all 9 rfl)
                  have e10 : yy 10 = .pointer (some ⟨p6, 0, none⟩) := hM.fact 10 (by simp) rfl (notR_all 10 rfl)
                  have e11 : yy 11 = .int .i64 (f : Int) := hM.fact 11 (by simp) rfl (notR_all 11 rfl)
                  have e12 : yy 12 = .pointer (some ⟨hs2 sy, f, none⟩) := hM.fact 12 (by simp) rfl (notR_all 12 rfl)
                  have e13 : yy 13 = .slice t1 nX k1 := hM.fact 13 (by simp) rfl (notR_all 13 rfl)
                  have e14 : yy 14 = .pointer (some ⟨p6, 2, none⟩) := hM.fact 14 (by simp) rfl (notR_all 14 rfl)
                  have e15 : yy 15 = .int .i64 (te : Int) := hM.fact 15 (by simp) rfl (notR_all 15 rfl)
                  obtain ⟨v4, e17, O17, B17⟩ := hM.fact 17 (by simp) rfl (notR_all 17 rfl)
                  obtain ⟨e16, _, _, _⟩ := hM.fact 16 (by simp) rfl (notR_all 16 rfl)
                  have dd : JO w8 (fun k => (Value.slice t1 nX k1).ownBlock = some k) true W := hM.d
                  simp only [fills, Act.put, List.take, List.length, List.setIfInBounds_toArray, List.set_cons_zero, List.set_cons_succ, e0, e1, e2, e3, e4, e5, e6, e7, e8, e9, e10, e11, e12, e13, e14, e15, e16, e17]
                  generalize lo 16 = p8
                  obtain ⟨b4, k4, e4⟩ := own_slice O17
                  subst e4
                  clear hM hmo e0 e1 e2 e3 e4 e5 e6 e7 e8 e9 e10 e11 e12 e13 e14 e15 e16 e17
                  have HF := hide (HPW.out W (.slice b4 (natI (X ++ [te])).length k4) dd.2 O17 B17)
                  have y6 : W.cell? ⟨hs2 sy, f, none⟩ = some (.slice t1 nX k1) := HGW.out W _ dd
                  have g6 : W.frozen? ⟨hs2 sy, f, none⟩ = false := HGF.out W _ dd
                  clear O17 B17 dd
                  go_wp2_with fail
                  go_roundw
                  case rel => exact ⟨i + 1, by omega, by go_num, _, _, _, _, _, HF⟩
                  case measure => simp [intOf]; omega
            | false =>
              rw [hn] at yg
              have yg' : w6.cell? ⟨gb, sy * 2 + 1, none⟩ = some (.slice (some ⟨hs sy, 0, none⟩) N N) := yg
              have heq : ∀ W : World, (binOp .eql 31 (.slice (some ⟨hs sy, 0, none⟩) N N) (.slice none 0 0)).run Tryz.prog W = .ok (.bool false) W := fun W => by
                have := Lib.run_eql_slice_nil (P := Tryz.prog) W 31 22 (some ⟨hs sy, 0, none⟩) N N 0 0 Tryz.underlying31
                simpa using this
              clear yg
              go_upto_region 13 with fail
              clear heq yg'
              obtain ⟨w7, hw7⟩ : ∃ W, W = w6 := ⟨_, rfl⟩
              rw [← hw7]
              have HP7 := HP6
              have H67 := H66
              have H37 := H36
              have HD7 := HD6
              rw [← hw7] at HP7 H67 H37 HD7
              clear HP6 H66 H36 HD6 hw7
              have HN := hide hn
              clear hn
              have HK : Hid (gb < w7.heap.size ∧ ¬ gb = gs sy ∧ w7.cell? ⟨gb, sy * 2, none⟩ = some (.pointer (some ⟨bs sy, 0, none⟩))) := hide (by
                have z := (HP7.out.st sy HFS.out.2.1).1
                obtain ⟨c, e1⟩ := HP7.out.kind
                obtain ⟨-, c2, f2, e2⟩ := set_types z
                refine ⟨HP7.out.gr.lt, fun e => by rw [e, e2] at e1; injection e1 with e1; injection e1 with _ e1 _; exact absurd e1 (by decide), ?_⟩
                have y := HP7.out.gr.at (sy * 2) (by have := HFS.out.2.1; omega)
                unfold stV at y
                rw [if_pos (by omega), show sy * 2 / 2 = sy from by omega] at y
                exact y)
              have nk : ∀ {q t : Nat} {c : Array Value}, w7.heap[q]? = some (.cells c t (0, 0)) → t ≠ 126 → ¬ q = gs sy := fun z ne e => by
                obtain ⟨-, c2, f2, e2⟩ := set_types (HP7.out.st sy HFS.out.2.1).1
                rw [e, e2] at z; injection z with z; injection z with _ z _; exact ne z.symm
              have HP6 := hide (And.intro H67.out (nk H67.out (by decide)))
              have HB37 := hide (And.intro H37.out (nk H37.out (by decide)))
              have HSE := hide (And.intro (HP7.out.st sy HFS.out.2.1).1 (HP7.out.st sy HFS.out.2.1).2.1)
              have HSE2 := hide (HP7.out.st sy HFS.out.2.1).2.2.2
              clear nk H67 H37
              have hmo : MonIL 0 [vI 0 (.pointer (some ⟨gb, sy * 2, none⟩)), vI 1 (.pointer (some ⟨gb, sy * 2, none⟩)), vI 2 (.pointer (some ⟨gb, sy * 2, none⟩)), vI 3 (.pointer (some ⟨bs sy, 0, none⟩)), vI 4 (.pointer (some ⟨p6, 0, none⟩)), vI 5 (.int .i64 (f : Int)), ⟨[], [], fun _ _ _ W => IsSet W (bs sy) (gs sy) (cs sy) N (leaF (Ed.take i) sy ||| 2 ^ f)⟩] := ⟨vI_mono _ _, vI_mono _ _, vI_mono _ _, vI_mono _ _, vI_mono _ _, vI_mono _ _, (fun _ _ _ _ _ _ _ d _ h => h.below d), trivial⟩
              refine wp_region_sj (JO w7 (fun k => k = gs sy)) 6 [vI 0 (.pointer (some ⟨gb, sy * 2, none⟩)), vI 1 (.pointer (some ⟨gb, sy * 2, none⟩)), vI 2 (.pointer (some ⟨gb, sy * 2, none⟩)), vI 3 (.pointer (some ⟨bs sy, 0, none⟩)), vI 4 (.pointer (some ⟨p6, 0, none⟩)), vI 5 (.int .i64 (f : Int)), ⟨[], [], fun _ _ _ W => IsSet W (bs sy) (gs sy) (cs sy) N (leaF (Ed.take i) sy ||| 2 ^ f)⟩] (by kernel_rfl) (JO_first ⟨rfl, rfl, rfl, Nat.le_refl _, fun _ _ => rfl⟩) (by kernel_rfl) (by kernel_rfl) (by kernel_rfl) (by kernel_rfl) hmo ⟨?o0, ?o1, ?o2, ?o3, ?o4, ?o5, ?o6, trivial⟩ ?fin
              case o0 =>
                intro At yy W bb hy hb hbb d hz hd K hK
                have s7 : At.tmps.getD 7 undef = .pointer (some ⟨gb, sy * 2, none⟩) := hb 7 rfl
                have s7' := s7
                rw [Array.getD_eq_getD_getElem?] at s7'
                clear hd hy hb
                go_simp
                exact hK.out _ W (stpj_of hmo d (Below.refl _ _)) (if_pos rfl)
              case o1 =>
                intro At yy W bb hy hb hbb d hz hd K hK
                have e0 : yy 0 = .pointer (some ⟨gb, sy * 2, none⟩) := by obtain ⟨_, _, _, _, e⟩ := hd ⟨0, .data⟩ (by simp) rfl rfl; exact e
                have s52 := (hy 0 _ 52 rfl rfl).trans e0
                have s52' := s52
                rw [Array.getD_eq_getD_getElem?] at s52'
                clear hd hy hb
                go_simp
                exact hK.out _ W (stpj_of hmo d (Below.refl _ _)) (if_pos rfl)
              case o2 =>
                intro At yy W bb hy hb hbb d hz hd K hK
                have e1 : yy 1 = .pointer (some ⟨gb, sy * 2, none⟩) := by obtain ⟨_, _, _, _, e⟩ := hd ⟨1, .data⟩ (by simp) rfl rfl; exact e
                have s53 := (hy 1 _ 53 rfl rfl).trans e1
                have s53' := s53
                rw [Array.getD_eq_getD_getElem?] at s53'
                clear hd hy hb
                go_simp
                exact hK.out _ W (stpj_of hmo d (Below.refl _ _)) (if_pos rfl)
              case o3 =>
                intro At yy W bb hy hb hbb d hz hd K hK
                have e2 : yy 2 = .pointer (some ⟨gb, sy * 2, none⟩) := by obtain ⟨_, _, _, _, e⟩ := hd ⟨2, .data⟩ (by simp) rfl rfl; exact e
                have s54 := (hy 2 _ 54 rfl rfl).trans e2
                have s54' := s54
                rw [Array.getD_eq_getD_getElem?] at s54'
                clear hd hy hb
                have y : W.cell? ⟨gb, sy * 2, none⟩ = some (.pointer (some ⟨bs sy, 0, none⟩)) := (cell_only d.2 HK.out.1 HK.out.2.1).trans HK.out.2.2
                go_simp
                exact hK.out _ W (stpj_of hmo d (Below.refl _ _)) (if_pos rfl)
              case o4 =>
                intro At yy W bb hy hb hbb d hz hd K hK
                have s6 : At.tmps.getD 6 undef = .pointer (some ⟨p6, 0, none⟩) := hb 6 rfl
                have s6' := s6
                rw [Array.getD_eq_getD_getElem?] at s6'
                clear hd hy hb
                go_simp
                exact hK.out _ W (stpj_of hmo d (Below.refl _ _)) (if_pos rfl)
              case o5 =>
                intro At yy W bb hy hb hbb d hz hd K hK
                have e4 : yy 4 = .pointer (some ⟨p6, 0, none⟩) := by obtain ⟨_, _, _, _, e⟩ := hd ⟨4, .data⟩ (by simp) rfl rfl; exact e
                have s56 := (hy 4 _ 56 rfl rfl).trans e4
                have s56' := s56
                rw [Array.getD_eq_getD_getElem?] at s56'
                clear hd hy hb
                have y6 : W.cell? ⟨p6, 0, none⟩ = some (.int .i64 (f : Int)) := cell_of (JO_blk d HP6.out.1 HP6.out.2) rfl
                go_simp
                exact hK.out _ W (stpj_of hmo d (Below.refl _ _)) (if_pos rfl)
              case o6 =>
                intro At yy W bb hy hb hbb d hz hd K hK
                have e3 : yy 3 = .pointer (some ⟨bs sy, 0, none⟩) := by obtain ⟨_, _, _, _, e⟩ := hd ⟨3, .data⟩ (by simp) rfl rfl; exact e
                have e5 : yy 5 = .int .i64 (f : Int) := by obtain ⟨_, _, _, _, e⟩ := hd ⟨5, .data⟩ (by simp) rfl rfl; exact e
                have s55 := (hy 3 _ 55 rfl rfl).trans e3
                have s55' := s55
                rw [Array.getD_eq_getD_getElem?] at s55'
                have s57 := (hy 5 _ 57 rfl rfl).trans e5
                have s57' := s57
                rw [Array.getD_eq_getD_getElem?] at s57'
                clear hd hb
                have hb0 := hbb rfl
                subst hb0
                go_simp
                go_wp2_with (go_at_call 93; refine (add_only (bs sy) (gs sy) (cs sy) N _ f W (HSE.out.1.below (d.1 rfl)) HSE.out.2 HFS.out.1).mono ?_; rintro e w8 ⟨rfl, hs8, o8⟩)
                exact hK.out _ w8 (stpj_keeps [] rfl (JO_put d o8) o8.size ⟨.inr (fun _ _ _ h => h), .inr (fun _ _ _ h => h), .inr (fun _ _ _ h => h), .inr (fun _ _ _ h => h), .inr (fun _ _ _ h => h), .inr (fun _ _ _ h => h), .inl (by simp), trivial⟩) hs8
              case fin =>
                intro yy lo hi W hM
                show wpList _ _ _ [] _ _
                have e0 : yy 0 = .pointer (some ⟨gb, sy * 2, none⟩) := hM.fact 0 (by simp) rfl (notR_all 0 rfl)
                have e1 : yy 1 = .pointer (some ⟨gb, sy * 2, none⟩) := hM.fact 1 (by simp) rfl (notR_all 1 rfl)
                have e2 : yy 2 = .pointer (some ⟨gb, sy * 2, none⟩) := hM.fact 2 (by simp) rfl (notR_all 2 rfl)
                have e3 : yy 3 = .pointer (some ⟨bs sy, 0, none⟩) := hM.fact 3 (by simp) rfl (notR_all 3 rfl)
                have e4 : yy 4 = .pointer (some ⟨p6, 0, none⟩) := hM.fact 4 (by simp) rfl (notR_all 4 rfl)
                have e5 : yy 5 = .int .i64 (f : Int) := hM.fact 5 (by simp) rfl (notR_all 5 rfl)
                have hs8 : IsSet W (bs sy) (gs sy) (cs sy) N (leaF (Ed.take i) sy ||| 2 ^ f) := hM.fact 6 (by simp) rfl (notR_all 6 rfl)
                have dd : JO w7 (fun k => k = gs sy) true W := hM.d
                simp only [fills, Act.put, List.take, List.length, List.setIfInBounds_toArray, List.set_cons_zero, List.set_cons_succ, e0, e1, e2, e3, e4, e5]
                clear hM hmo e0 e1 e2 e3 e4 e5
                have HP8 := hide (HP7.out.add HFS.out.2.1 dd.2 hs8)
                have H38 := hide (JO_blk dd HB37.out.1 HB37.out.2)
                have H68 := hide (JO_blk dd HP6.out.1 HP6.out.2)
                have HD8 := hide (HD7.out.trans (dd.2.toBelow HD7.out.size (fun k hk => by rw [hk]; exact HSE2.out)))
                clear dd hs8 HP7 HB37 HP6 HK HSE HSE2 HD7
                go_upto_region 14 with fail
                rename World => w8
                obtain ⟨X, hX⟩ : ∃ X, tosF N (Ed.take i) (sy * N + f) = X := ⟨_, rfl⟩
                have hi8 := idx_lt HFS.out.2.1 HFS.out.1
                have hO := HP8.out.fm (sy * N + f) hi8
                rw [hX] at hO
                have HXl : Hid (X.length ≤ 16777216) := hide (by rw [← hX]; have := tosF_len N (Ed.take i) (sy * N + f); have := List.length_take_le i Ed; omega)
                obtain ⟨t1, k1, hv⟩ := own_slice hO
                obtain ⟨nX, hnX⟩ : ∃ l, (natI X).length = l := ⟨_, rfl⟩
                rw [hnX] at hv
                obtain ⟨hm8, hge8⟩ := HP8.out.rw sy HFS.out.2.1 HN.out
                have HGWc : w8.cell? ⟨hs sy, f, none⟩ = some (.slice t1 nX k1) := by have := hm8.at f HFS.out.1; rw [hv] at this; exact this
                obtain ⟨ch, hch⟩ : ∃ cs, w8.heap[hs sy]? = some (.cells cs 22 (0, 0)) := by obtain ⟨c, e1, _⟩ := hm8; exact ⟨c, e1⟩
                have hO2 := hO
                rw [hv] at hO2
                have nb : ∀ {q t : Nat} {c : Array Value}, w8.heap[q]? = some (.cells c t (0, 0)) → t ≠ 3 → ¬ (Value.slice t1 nX k1).ownBlock = some q := fun z ne e => row_tag hO2 z ne e
                have HGW : Hid (∀ W bb, JO w8 (fun k => (Value.slice t1 nX k1).ownBlock = some k) bb W → W.cell? ⟨hs sy, f, none⟩ = some (.slice t1 nX k1)) := hide (fun W bb d => by
                  have e := JO_blk d hch (nb hch (by decide))
                  rw [World.cell?_of_block (e.trans hch.symm)]
                  exact HGWc)
                have HGF : Hid (∀ W bb, JO w8 (fun k => (Value.slice t1 nX k1).ownBlock = some k) bb W → W.frozen? ⟨hs sy, f, none⟩ = false) := hide (fun W bb d => fz_of (JO_blk d hch (nb hch (by decide))))
                have HEN : Hid (∀ W bb, JO w8 (fun k => (Value.slice t1 nX k1).ownBlock = some k) bb W → W.cell? ⟨gb, sy * 2 + 1, none⟩ = some (.slice (some ⟨hs sy, 0, none⟩) N N)) := hide (fun W bb d => by
                  obtain ⟨cg, hcg⟩ := HP8.out.kind
                  have e := JO_blk d hcg (nb hcg (by decide))
                  rw [World.cell?_of_block (e.trans hcg.symm)]
                  have y := HP8.out.gr.at (sy * 2 + 1) (by have := HFS.out.2.1; omega)
                  unfold stV at y
                  rw [if_neg (by omega), show (sy * 2 + 1) / 2 = sy from by omega, HN.out] at y
                  exact y)
                have HBX6 := hide (And.intro H68.out (nb H68.out (by decide)))
                have HLO := hide (fun k hk => (hO2.lt k hk).2 : ∀ k, (Value.slice t1 nX k1).ownBlock = some k → k < w8.heap.size)
                have HOX := hide hO2
                have HB8 : Hid (W0.heap.size ≤ w8.heap.size) := hide HD8.out.size
                have HPW : Hid (∀ W v, Only w8 W (fun k => (Value.slice t1 nX k1).ownBlock = some k) → OwI W W0.heap.size v (natI (X ++ [te])) → (∀ k, v.ownBlock = some k → (Value.slice t1 nX k1).ownBlock = some k ∨ w8.heap.size ≤ k) → StP W0.heap.size (W.setCell ⟨hs sy, f, none⟩ v) gb M N bs gs cs hs (leaF (Ed.take (i + 1))) nl (updF V (sy * N + f) v) (tosF N (Ed.take (i + 1))) ∧ (W.setCell ⟨hs sy, f, none⟩ v).heap[p3]? = some (.cells #[.int .i64 (N : Int), .slice (some ⟨gb, 0, none⟩) M M] 85 (0, 0)) ∧ Below W0.heap.size W0 (W.setCell ⟨hs sy, f, none⟩ v)) := hide (fun W v o ho hb => by
                  have q := HP8.out.app HFS.out.2.1 HFS.out.1 HN.out (v := v) (T := X ++ [te]) (by rw [hv]; exact o) ho (by rw [hv]; exact hb)
                  have o2 := only_set W (hs sy) f v
                  have hpc : W.heap[p3]? = _ := (o.block _ (Array.getElem?_eq_some_iff.1 H38.out).1 (nb H38.out (by decide))).trans H38.out
                  have hch2 : W.heap[hs sy]? = _ := (o.block _ (Array.getElem?_eq_some_iff.1 hch).1 (nb hch (by decide))).trans hch
                  refine ⟨?_, ?_, ?_⟩
                  · rw [HTK.out, leaF_snoc, tosF_snoc, hX]
                    exact q
                  · refine (o2.block _ (Array.getElem?_eq_some_iff.1 hpc).1 (fun e => ?_)).trans hpc
                    rw [e, hch2] at hpc
                    injection hpc with hpc
                    injection hpc with _ hpc
                    exact absurd hpc (by decide)
                  · exact (HD8.out.trans (o.toBelow HB8.out (fun k hk => (hO2.lt k hk).1))).trans (o2.toBelow (Nat.le_trans HB8.out o.size) (fun k hk => by rw [hk]; exact hge8)))
                clear hO hO2 hv hm8 hge8 HGWc hch nb hX hi8 hnX
                have hmo : MonIL 0 [vI 0 (.pointer (some ⟨gb, sy * 2, none⟩)), vI 1 (.pointer (some ⟨gb, sy * 2, none⟩)), vI 2 (.pointer (some ⟨gb, sy * 2 + 1, none⟩)), vI 3 (.slice (some ⟨hs sy, 0, none⟩) N N), vI 4 (.pointer (some ⟨p6, 0, none⟩)), vI 5 (.int .i64 (f : Int)), vI 6 (.pointer (some ⟨gb, sy * 2, none⟩)), vI 7 (.pointer (some ⟨gb, sy * 2, none⟩)), vI 8 (.pointer (some ⟨gb, sy * 2 + 1, none⟩)), vI 9 (.slice (some ⟨hs sy, 0, none⟩) N N), vI 10 (.pointer (some ⟨p6, 0, none⟩)), vI 11 (.int .i64 (f : Int)), vI 12 (.pointer (some ⟨hs sy, f, none⟩)), vI 13 (.slice t1 nX k1), vI 14 (.pointer (some ⟨p6, 2, none⟩)), vI 15 (.int .i64 (te : Int)), pI 16 (ox1P w8.heap.size (.int .i64 (te : Int))), pI 17 (apI W0.heap.size (X ++ [te]) (Value.slice t1 nX k1).ownBlock w8.heap.size)] := ⟨vI_mono _ _, vI_mono _ _, vI_mono _ _, vI_mono _ _, vI_mono _ _, vI_mono _ _, vI_mono _ _, vI_mono _ _, vI_mono _ _, vI_mono _ _, vI_mono _ _, vI_mono _ _, vI_mono _ _, vI_mono _ _, vI_mono _ _, vI_mono _ _, pI_mono ox1P_mono, pI_mono apI_mono, trivial⟩
                refine wp_region_sj (JO w8 (fun k => (Value.slice t1 nX k1).ownBlock = some k)) 17 [vI 0 (.pointer (some ⟨gb, sy * 2, none⟩)), vI 1 (.pointer (some ⟨gb, sy * 2, none⟩)), vI 2 (.pointer (some ⟨gb, sy * 2 + 1, none⟩)), vI 3 (.slice (some ⟨hs sy, 0, none⟩) N N), vI 4 (.pointer (some ⟨p6, 0, none⟩)), vI 5 (.int .i64 (f : Int)), vI 6 (.pointer (some ⟨gb, sy * 2, none⟩)), vI 7 (.pointer (some ⟨gb, sy * 2, none⟩)), vI 8 (.pointer (some ⟨gb, sy * 2 + 1, none⟩)), vI 9 (.slice (some ⟨hs sy, 0, none⟩) N N), vI 10 (.pointer (some ⟨p6, 0, none⟩)), vI 11 (.int .i64 (f : Int)), vI 12 (.pointer (some ⟨hs sy, f, none⟩)), vI 13 (.slice t1 nX k1), vI 14 (.pointer (some ⟨p6, 2, none⟩)), vI 15 (.int .i64 (te : Int)), pI 16 (ox1P w8.heap.size (.int .i64 (te : Int))), pI 17 (apI W0.heap.size (X ++ [te]) (Value.slice t1 nX k1).ownBlock w8.heap.size)] (by kernel_rfl) (JO_first ⟨rfl, rfl, rfl, Nat.le_refl _, fun _ _ => rfl⟩) (by kernel_rfl) (by kernel_rfl) (by kernel_rfl) (by kernel_rfl) hmo ⟨?o0, ?o1, ?o2, ?o3, ?o4, ?o5, ?o6, ?o7, ?o8, ?o9, ?o10, ?o11, ?o12, ?o13, ?o14, ?o15, ?o16, ?o17, trivial⟩ ?fin
                case o0 =>
                  intro At yy W bb hy hb hbb d hz hd K hK
                  have s7 : At.tmps.getD 7 undef = .pointer (some ⟨gb, sy * 2, none⟩) := hb 7 rfl
                  have s7' := s7
                  rw [Array.getD_eq_getD_getElem?] at s7'
                  clear hd hy hb
                  go_simp
                  exact hK.out _ W (stpj_of hmo d (Below.refl _ _)) (if_pos rfl)
                case o1 =>
                  intro At yy W bb hy hb hbb d hz hd K hK
                  have e0 : yy 0 = .pointer (some ⟨gb, sy * 2, none⟩) := by obtain ⟨_, _, _, _, e⟩ := hd ⟨0, .data⟩ (by simp) rfl rfl; exact e
                  have s59 := (hy 0 _ 59 rfl rfl).trans e0
                  have s59' := s59
                  rw [Array.getD_eq_getD_getElem?] at s59'
                  clear hd hy hb
                  go_simp
                  exact hK.out _ W (stpj_of hmo d (Below.refl _ _)) (if_pos rfl)
                case o2 =>
                  intro At yy W bb hy hb hbb d hz hd K hK
                  have e1 : yy 1 = .pointer (some ⟨gb, sy * 2, none⟩) := by obtain ⟨_, _, _, _, e⟩ := hd ⟨1, .data⟩ (by simp) rfl rfl; exact e
                  have s60 := (hy 1 _ 60 rfl rfl).trans e1
                  have s60' := s60
                  rw [Array.getD_eq_getD_getElem?] at s60'
                  clear hd hy hb
                  go_simp
                  exact hK.out _ W (stpj_of hmo d (Below.refl _ _)) (if_pos rfl)
                case o3 =>
                  intro At yy W bb hy hb hbb d hz hd K hK
                  have e2 : yy 2 = .pointer (some ⟨gb, sy * 2 + 1, none⟩) := by obtain ⟨_, _, _, _, e⟩ := hd ⟨2, .data⟩ (by simp) rfl rfl; exact e
                  have s61 := (hy 2 _ 61 rfl rfl).trans e2
                  have s61' := s61
                  rw [Array.getD_eq_getD_getElem?] at s61'
                  clear hd hy hb
                  have y : W.cell? ⟨gb, sy * 2 + 1, none⟩ = some (.slice (some ⟨hs sy, 0, none⟩) N N) := HEN.out W _ d
                  go_simp
                  exact hK.out _ W (stpj_of hmo d (Below.refl _ _)) (if_pos rfl)
                case o4 =>
                  intro At yy W bb hy hb hbb d hz hd K hK
                  have s6 : At.tmps.getD 6 undef = .pointer (some ⟨p6, 0, none⟩) := hb 6 rfl
                  have s6' := s6
                  rw [Array.getD_eq_getD_getElem?] at s6'
                  clear hd hy hb
                  go_simp
                  exact hK.out _ W (stpj_of hmo d (Below.refl _ _)) (if_pos rfl)
                case o5 =>
                  intro At yy W bb hy hb hbb d hz hd K hK
                  have e4 : yy 4 = .pointer (some ⟨p6, 0, none⟩) := by obtain ⟨_, _, _, _, e⟩ := hd ⟨4, .data⟩ (by simp) rfl rfl; exact e
                  have s63 := (hy 4 _ 63 rfl rfl).trans e4
                  have s63' := s63
                  rw [Array.getD_eq_getD_getElem?] at s63'
                  clear hd hy hb
                  have y0 : W.cell? ⟨p6, 0, none⟩ = some (.int .i64 (f : Int)) := cell_of (JO_blk d HBX6.out.1 HBX6.out.2) rfl
                  go_simp
                  exact hK.out _ W (stpj_of hmo d (Below.refl _ _)) (if_pos rfl)
                case o6 =>
                  intro At yy W bb hy hb hbb d hz hd K hK
                  have s7 : At.tmps.getD 7 undef = .pointer (some ⟨gb, sy * 2, none⟩) := hb 7 rfl
                  have s7' := s7
                  rw [Array.getD_eq_getD_getElem?] at s7'
                  clear hd hy hb
                  go_simp
                  exact hK.out _ W (stpj_of hmo d (Below.refl _ _)) (if_pos rfl)
                case o7 =>
                  intro At yy W bb hy hb hbb d hz hd K hK
                  have e6 : yy 6 = .pointer (some ⟨gb, sy * 2, none⟩) := by obtain ⟨_, _, _, _, e⟩ := hd ⟨6, .data⟩ (by simp) rfl rfl; exact e
                  have s65 := (hy 6 _ 65 rfl rfl).trans e6
                  have s65' := s65
                  rw [Array.getD_eq_getD_getElem?] at s65'
                  clear hd hy hb
                  go_simp
                  exact hK.out _ W (stpj_of hmo d (Below.refl _ _)) (if_pos rfl)
                case o8 =>
                  intro At yy W bb hy hb hbb d hz hd K hK
                  have e7 : yy 7 = .pointer (some ⟨gb, sy * 2, none⟩) := by obtain ⟨_, _, _, _, e⟩ := hd ⟨7, .data⟩ (by simp) rfl rfl; exact e
                  have s66 := (hy 7 _ 66 rfl rfl).trans e7
                  have s66' := s66
                  rw [Array.getD_eq_getD_getElem?] at s66'
                  clear hd hy hb
                  go_simp
                  exact hK.out _ W (stpj_of hmo d (Below.refl _ _)) (if_pos rfl)
                case o9 =>
                  intro At yy W bb hy hb hbb d hz hd K hK
                  have e8 : yy 8 = .pointer (some ⟨gb, sy * 2 + 1, none⟩) := by obtain ⟨_, _, _, _, e⟩ := hd ⟨8, .data⟩ (by simp) rfl rfl; exact e
                  have s67 := (hy 8 _ 67 rfl rfl).trans e8
                  have s67' := s67
                  rw [Array.getD_eq_getD_getElem?] at s67'
                  clear hd hy hb
                  have y : W.cell? ⟨gb, sy * 2 + 1, none⟩ = some (.slice (some ⟨hs sy, 0, none⟩) N N) := HEN.out W _ d
                  go_simp
                  exact hK.out _ W (stpj_of hmo d (Below.refl _ _)) (if_pos rfl)
                case o10 =>
                  intro At yy W bb hy hb hbb d hz hd K hK
                  have s6 : At.tmps.getD 6 undef = .pointer (some ⟨p6, 0, none⟩) := hb 6 rfl
                  have s6' := s6
                  rw [Array.getD_eq_getD_getElem?] at s6'
                  clear hd hy hb
                  go_simp
                  exact hK.out _ W (stpj_of hmo d (Below.refl _ _)) (if_pos rfl)
                case o11 =>
                  intro At yy W bb hy hb hbb d hz hd K hK
                  have e10 : yy 10 = .pointer (some ⟨p6, 0, none⟩) := by obtain ⟨_, _, _, _, e⟩ := hd ⟨10, .data⟩ (by simp) rfl rfl; exact e
                  have s69 := (hy 10 _ 69 rfl rfl).trans e10
                  have s69' := s69
                  rw [Array.getD_eq_getD_getElem?] at s69'
                  clear hd hy hb
                  have y0 : W.cell? ⟨p6, 0, none⟩ = some (.int .i64 (f : Int)) := cell_of (JO_blk d HBX6.out.1 HBX6.out.2) rfl
                  go_simp
                  exact hK.out _ W (stpj_of hmo d (Below.refl _ _)) (if_pos rfl)
                case o12 =>
                  intro At yy W bb hy hb hbb d hz hd K hK
                  have e9 : yy 9 = .slice (some ⟨hs sy, 0, none⟩) N N := by obtain ⟨_, _, _, _, e⟩ := hd ⟨9, .data⟩ (by simp) rfl rfl; exact e
                  have e11 : yy 11 = .int .i64 (f : Int) := by obtain ⟨_, _, _, _, e⟩ := hd ⟨11, .data⟩ (by simp) rfl rfl; exact e
                  have s68 := (hy 9 _ 68 rfl rfl).trans e9
                  have s68' := s68
                  rw [Array.getD_eq_getD_getElem?] at s68'
                  have s70 := (hy 11 _ 70 rfl rfl).trans e11
                  have s70' := s70
                  rw [Array.getD_eq_getD_getElem?] at s70'
                  clear hd hy hb
                  go_simp
                  exact hK.out _ W (stpj_of hmo d (Below.refl _ _)) (if_pos rfl)
                case o13 =>
                  intro At yy W bb hy hb hbb d hz hd K hK
                  have e12 : yy 12 = .pointer (some ⟨hs sy, f, none⟩) := by obtain ⟨_, _, _, _, e⟩ := hd ⟨12, .data⟩ (by simp) rfl rfl; exact e
                  have s71 := (hy 12 _ 71 rfl rfl).trans e12
                  have s71' := s71
                  rw [Array.getD_eq_getD_getElem?] at s71'
                  clear hd hy hb
                  have y : W.cell? ⟨hs sy, f, none⟩ = some (.slice t1 nX k1) := HGW.out W _ d
                  go_simp
                  exact hK.out _ W (stpj_of hmo d (Below.refl _ _)) (if_pos rfl)
                case o14 =>
                  intro At yy W bb hy hb hbb d hz hd K hK
                  have s6 : At.tmps.getD 6 undef = .pointer (some ⟨p6, 0, none⟩) := hb 6 rfl
                  have s6' := s6
                  rw [Array.getD_eq_getD_getElem?] at s6'
                  clear hd hy hb
                  go_simp
                  exact hK.out _ W (stpj_of hmo d (Below.refl _ _)) (if_pos rfl)
                case o15 =>
                  intro At yy W bb hy hb hbb d hz hd K hK
                  have e14 : yy 14 = .pointer (some ⟨p6, 2, none⟩) := by obtain ⟨_, _, _, _, e⟩ := hd ⟨14, .data⟩ (by simp) rfl rfl; exact e
                  have s73 := (hy 14 _ 73 rfl rfl).trans e14
                  have s73' := s73
                  rw [Array.getD_eq_getD_getElem?] at s73'
                  clear hd hy hb
                  have y2 : W.cell? ⟨p6, 2, none⟩ = some (.int .i64 (te : Int)) := cell_of (JO_blk d HBX6.out.1 HBX6.out.2) rfl
                  go_simp
                  exact hK.out _ W (stpj_of hmo d (Below.refl _ _)) (if_pos rfl)
                case o16 =>
                  intro At yy W bb hy hb hbb d hz hd K hK
                  have e15 : yy 15 = .int .i64 (te : Int) := by obtain ⟨_, _, _, _, e⟩ := hd ⟨15, .data⟩ (by simp) rfl rfl; exact e
                  have s74 := (hy 15 _ 74 rfl rfl).trans e15
                  have s74' := s74
                  rw [Array.getD_eq_getD_getElem?] at s74'
                  clear hd hy hb
                  go_simp
                  exact hK.out _ _ (stpj_of hmo (JO_on d ((Below.refl _ _).alloc (Nat.le_refl _) _)) ((Below.refl _ _).alloc (Nat.le_refl _) _)) ⟨if_pos rfl, hz, by simp, World.alloc_heap_new _ _⟩
                case o17 =>
                  intro At yy W bb hy hb hbb d hz hd K hK
                  have e13 : yy 13 = .slice t1 nX k1 := by obtain ⟨_, _, _, _, e⟩ := hd ⟨13, .data⟩ (by simp) rfl rfl; exact e
                  have f16 := hd ⟨16, .data⟩ (by simp) rfl rfl
                  obtain ⟨lo2, hi2, hl2, hh2, e16, b2, l2, z2⟩ := f16
                  have s72 := (hy 13 _ 72 rfl rfl).trans e13
                  have s72' := s72
                  rw [Array.getD_eq_getD_getElem?] at s72'
                  have s75 := (hy 16 _ 75 rfl rfl).trans e16
                  have s75' := s75
                  rw [Array.getD_eq_getD_getElem?] at s75'
                  clear hd hb
                  have hb0 := hbb rfl
                  subst hb0
                  refine step_appI rfl _ _ rfl W0.heap.size (.slice t1 nX k1) X s72 (own_below HOX.out (d.1 rfl)) lo2 te s75 z2 HXl.out (Nat.le_trans HB8.out hz) ?_
                  intro v4 w4 ho4 hg4 hv4
                  exact hK.out _ w4 (stpj_keeps [] rfl (JO_put d hg4.out) hg4.out.size ⟨.inr (fun _ _ _ h => h), .inr (fun _ _ _ h => h), .inr (fun _ _ _ h => h), .inr (fun _ _ _ h => h), .inr (fun _ _ _ h => h), .inr (fun _ _ _ h => h), .inr (fun _ _ _ h => h), .inr (fun _ _ _ h => h), .inr (fun _ _ _ h => h), .inr (fun _ _ _ h => h), .inr (fun _ _ _ h => h), .inr (fun _ _ _ h => h), .inr (fun _ _ _ h => h), .inr (fun _ _ _ h => h), .inr (fun _ _ _ h => h), .inr (fun _ _ _ h => h), .inr (fun _ _ hh h => ox1P_keep hh h hg4.out HLO.out), .inl (by simp), trivial⟩) ⟨v4, if_pos rfl, ho4, fun k hk => (hv4 k hk).imp id (Nat.le_trans hz)⟩
                case fin =>
                  intro yy lo hi W hM
                  show wpList _ _ _ [_, _] _ _
                  have e0 : yy 0 = .pointer (some ⟨gb, sy * 2, none⟩) := hM.fact 0 (by simp) rfl (notR_all 0 rfl)
                  have e1 : yy 1 = .pointer (some ⟨gb, sy * 2, none⟩) := hM.fact 1 (by simp) rfl (notR_all 1 rfl)
                  have e2 : yy 2 = .pointer (some ⟨gb, sy * 2 + 1, none⟩) := hM.fact 2 (by simp) rfl (notR_all 2 rfl)
                  have e3 : yy 3 = .slice (some ⟨hs sy, 0, none⟩) N N := hM.fact 3 (by simp) rfl (notR_all 3 rfl)
                  have e4 : yy 4 = .pointer (some ⟨p6, 0, none⟩) := hM.fact 4 (by simp) rfl (notR_all 4 rfl)
                  have e5 : yy 5 = .int .i64 (f : Int) := hM.fact 5 (by simp) rfl (notR_all 5 rfl)
                  have e6 : yy 6 = .pointer (some ⟨gb, sy * 2, none⟩) := hM.fact 6 (by simp) rfl (notR_all 6 rfl)
                  have e7 : yy 7 = .pointer (some ⟨gb, sy * 2, none⟩) := hM.fact 7 (by simp) rfl (notR_all 7 rfl)
                  have e8 : yy 8 = .pointer (some ⟨gb, sy * 2 + 1, none⟩) := hM.fact 8 (by simp) rfl (notR_all 8 rfl)
                  have e9 : yy 9 = .slice (some ⟨hs sy, 0, none⟩) N N := hM.fact 9 (by simp) rfl (notR_all 9 rfl)
                  have e10 : yy 10 = .pointer (some ⟨p6, 0, none⟩) := hM.fact 10 (by simp) rfl (notR_all 10 rfl)
                  have e11 : yy 11 = .int .i64 (f : Int) := hM.fact 11 (by simp) rfl (notR_all 11 rfl)
                  have e12 : yy 12 = .pointer (some ⟨hs sy, f, none⟩) := hM.fact 12 (by simp) rfl (notR_all 12 rfl)
                  have e13 : yy 13 = .slice t1 nX k1 := hM.fact 13 (by simp) rfl (notR_all 13 rfl)
                  have e14 : yy 14 = .pointer (some ⟨p6, 2, none⟩) := hM.fact 14 (by simp) rfl (notR_all 14 rfl)
                  have e15 : yy 15 = .int .i64 (te : Int) := hM.fact 15 (by simp) rfl (notR_all 15 rfl)
                  obtain ⟨v4, e17, O17, B17⟩ := hM.fact 17 (by simp) rfl (notR_all 17 rfl)
                  obtain ⟨e16, _, _, _⟩ := hM.fact 16 (by simp) rfl (notR_all 16 rfl)
                  have dd : JO w8 (fun k => (Value.slice t1 nX k1).ownBlock = some k) true W := hM.d
                  simp only [fills, Act.put, List.take, List.length, List.setIfInBounds_toArray, List.set_cons_zero, List.set_cons_succ, e0, e1, e2, e3, e4, e5, e6, e7, e8, e9, e10, e11, e12, e13, e14, e15, e16, e17]
                  generalize lo 16 = p8
                  obtain ⟨b4, k4, e4⟩ := own_slice O17
                  subst e4
                  clear hM hmo e0 e1 e2 e3 e4 e5 e6 e7 e8 e9 e10 e11 e12 e13 e14 e15 e16 e17
                  have HF := hide (HPW.out W (.slice b4 (natI (X ++ [te])).length k4) dd.2 O17 B17)
                  have y6 : W.cell? ⟨hs sy, f, none⟩ = some (.slice t1 nX k1) := HGW.out W _ dd
                  have g6 : W.frozen? ⟨hs sy, f, none⟩ = false := HGF.out W _ dd
                  clear O17 B17 dd
                  go_wp2_with fail
                  go_roundw
                  case rel => exact ⟨i + 1, by omega, by go_num, _, _, _, _, _, HF⟩
                  case measure => simp [intOf]; omega
          · have hii : i = lE := by omega
            have htk : Ed.take i = Ed := by rw [hii, ← HNM.out.2.2.2.1, List.take_length]
            rw [htk] at HP
            have y0 : wr.cell? ⟨p3, 0, none⟩ = some (.int .i64 (N : Int)) := cell_of HP.out.2.1 rfl
            have y1 : wr.cell? ⟨p3, 1, none⟩ = some (.slice (some ⟨gb, 0, none⟩) M M) := cell_of HP.out.2.1 rfl
            have F3 := blk_on HD.out.2.2.1 HP.out.2.2
            have o0 : wr.cell? ⟨w.heap.size + 1, 0, none⟩ = some (.int .i64 0) := cell_of F3 rfl
            have o1 : wr.cell? ⟨w.heap.size + 1, 1, none⟩ = some (.slice none 0 0) := cell_of F3 rfl
            have f0 : wr.frozen? ⟨w.heap.size + 1, 0, none⟩ = false := fz_of F3
            have f1 : wr.frozen? ⟨w.heap.size + 1, 1, none⟩ = false := fz_of F3
            have O6 := hide (And.intro (set2 wr (w.heap.size + 1) _ _ (.int .i64 (N : Int)) (.slice (some ⟨gb, 0, none⟩) M M) 85 F3) ((only_set wr (w.heap.size + 1) 0 (.int .i64 (N : Int))).trans (only_set _ (w.heap.size + 1) 1 (.slice (some ⟨gb, 0, none⟩) M M))))
            have hsz := HD.out.2.2.2
            have kk : ∀ {q t : Nat} {c : Array Value}, wr.heap[q]? = some (.cells c t (0, 0)) → t ≠ 85 → ¬ q = w.heap.size + 1 := fun z ne e => by
              rw [e, F3] at z; injection z with z; injection z with _ z _; exact ne z.symm
            have HF := hide (HP.out.1.other O6.out.2 (fun q hq => ⟨#[.int .i64 0, .slice none 0 0], (0, 0), (congrArg (fun x => wr.heap[x]?) hq).trans F3⟩))
            have HB9 := hide ((HD.out.1.trans (HP.out.2.2.mono HD.out.1.size)).trans (O6.out.2.toBelow (by have := HP.out.2.2.size; omega) (fun k hk => by omega)))
            clear F3 HP kk
            go_wp2_with fail
            refine bodyPost_ret (results_cell_row (p := 2) (ty := 85) rfl _ _ (w.heap.size + 1) 85 _ (0, 0) _ rfl O6.out.1 Tryz.underlying85 rfl (by kernel_rfl)) rfl ?_
            exact ⟨gb, rfl, bs, gs, cs, hs, nl, V, HF.out.low (by omega), HB9.out⟩
end Go.Proofs.YtgnpdhgphkocoaaGreatDoor
namespace Go.Proofs.YtgnpdhgphkocoaaGreatDoor
open Go.RowKit
theorem testBit_lt {n X i : Nat} (hX : X < 2 ^ n) (h : X.testBit i = true) : i < n := by
  apply Nat.lt_of_not_le
  intro hle
  have : X < 2 ^ i := Nat.lt_of_lt_of_le hX (Nat.pow_le_pow_right (by decide) hle)
  rw [Nat.testBit_lt_two_pow this] at h
  cases h
def nextL : List Nat → Int → Int
  | [], _ => -1
  | e :: l, i => if i ≤ (e : Int) then e else nextL l i
theorem nextL_none (l : List Nat) (i : Int) (h : ∀ e ∈ l, ¬ i ≤ (e : Int)) : nextL l i = -1 := by
  induction l with
  | nil => rfl
  | cons a l ih =>
    unfold nextL
    rw [if_neg (h a (by simp))]
    exact ih fun e he => h e (by simp [he])
theorem nextL_some (l : List Nat) (i : Int) (e : Nat) (hs : l.Pairwise (· < ·)) (he : e ∈ l) (hi : i ≤ (e : Int)) (hm : ∀ e' ∈ l, i ≤ (e' : Int) → e ≤ e') : nextL l i = e := by
  induction l with
  | nil => cases he
  | cons a l ih =>
    unfold nextL
    by_cases h : i ≤ (a : Int)
    · rw [if_pos h]
      have h1 := hm a (by simp) h
      rcases List.mem_cons.1 he with rfl | h2
      · rfl
      · have := (List.pairwise_cons.1 hs).1 e h2
        omega
    · rw [if_neg h]
      rcases List.mem_cons.1 he with rfl | h2
      · exact absurd hi h
      · exact ih (List.pairwise_cons.1 hs).2 h2 fun e' he' => hm e' (by simp [he'])
theorem elems_sorted (n X : Nat) : (elems n X).Pairwise (· < ·) := List.Pairwise.filter _ List.pairwise_lt_range
/-- What Next's loop knows: y holds the bits of word k from j on; below word k nothing from j on. -/
def NInv (X j k y : Nat) : Prop := (∀ t, y.testBit t = (decide (t < 64) && (X.testBit (64 * k + t) && decide (j ≤ 64 * k + t)))) ∧ ∀ e, j ≤ e → e < 64 * k → X.testBit e = false
theorem ninv_next (X j k y : Nat) (h : NInv X j k y) (hy : y = 0) (hj : j < 64 * (k + 1)) : NInv X j (k + 1) (wordAt X (k + 1)) := by
  subst hy
  refine ⟨fun t => ?_, fun e h1 h2 => ?_⟩
  · rw [wordAt_testBit]
    have : j ≤ 64 * (k + 1) + t := by omega
    simp [this]
  · by_cases h3 : e < 64 * k
    · exact h.2 e h1 h3
    · have := h.1 (e - 64 * k)
      have e1 : 64 * k + (e - 64 * k) = e := by omega
      have e2 : e - 64 * k < 64 := by omega
      rw [e1] at this
      simpa [h1, e2] using this.symm
theorem ninv_end (n X j k y : Nat) (_hX : X < 2 ^ n) (h : NInv X j k y) (hy : y = 0) (hk : n ≤ 64 * (k + 1)) (i : Int) (hi : (j : Int) = max i 0) : nextL (elems n X) i = -1 := by
  subst hy
  apply nextL_none
  intro e he hc
  obtain ⟨h1, h2⟩ := mem_elems.1 he
  have hj : j ≤ e := by omega
  by_cases h3 : e < 64 * k
  · rw [h.2 e hj h3] at h2; cases h2
  · have := h.1 (e - 64 * k)
    have e1 : 64 * k + (e - 64 * k) = e := by omega
    have e2 : e - 64 * k < 64 := by omega
    rw [e1] at this
    simp [hj, e2, h2] at this
theorem ninv_found (n X j k y : Nat) (hX : X < 2 ^ n) (h : NInv X j k y) (hy : y ≠ 0) (hlt : y < 18446744073709551616) (i : Int) (hi : (j : Int) = max i 0) : nextL (elems n X) i = ((64 * k + Lib.ctz 64 y : Nat) : Int) := by
  obtain ⟨m, hm, hc⟩ := ctz_spec y hy hlt
  have ht := h.1 (Lib.ctz 64 y)
  have hb : y.testBit (Lib.ctz 64 y) = true := by
    generalize Lib.ctz 64 y = c at *
    rw [hm, testBit_odd]; simp
  have hlow : ∀ t, t < Lib.ctz 64 y → y.testBit t = false := by
    intro t htc
    generalize Lib.ctz 64 y = c at *
    rw [hm, testBit_odd]
    have h1 : ¬ t = c := by omega
    have h2 : ¬ c < t := by omega
    simp [h1, h2]
  generalize Lib.ctz 64 y = c at *
  rw [hb] at ht
  simp [hc] at ht
  apply nextL_some _ _ _ (elems_sorted n X) (mem_elems.2 ⟨testBit_lt hX ht.1, ht.1⟩) (by omega)
  intro e he hie
  obtain ⟨h1, h2⟩ := mem_elems.1 he
  have hj : j ≤ e := by omega
  apply Nat.le_of_not_lt
  intro hlt2
  by_cases h3 : e < 64 * k
  · rw [h.2 e hj h3] at h2; cases h2
  · have q := h.1 (e - 64 * k)
    have e1 : 64 * k + (e - 64 * k) = e := by omega
    have e2 : e - 64 * k < 64 := by omega
    rw [e1, hlow _ (by omega)] at q
    simp [hj, e2, h2] at q
def lowCut (x r : Nat) : Nat := x / 2 ^ r * 2 ^ r
theorem lowCut_testBit (x r t : Nat) : (lowCut x r).testBit t = (decide (r ≤ t) && x.testBit t) := by
  unfold lowCut
  rw [Nat.testBit_mul_two_pow, Nat.testBit_div_two_pow]
  by_cases h : r ≤ t
  · rw [show t - r + r = t by omega]
  · simp [h]
theorem lowCut_le (x r : Nat) : lowCut x r ≤ x := Nat.div_mul_le_self x _
theorem ninv_start (X j : Nat) : NInv X j (j / 64) (lowCut (wordAt X (j / 64)) (j % 64)) := by
  refine ⟨fun t => ?_, fun e h1 h2 => by omega⟩
  rw [lowCut_testBit, wordAt_testBit]
  by_cases h : t < 64
  · by_cases h2 : j % 64 ≤ t
    · have : j ≤ 64 * (j / 64) + t := by omega
      simp [h2, this]
    · have : ¬ j ≤ 64 * (j / 64) + t := by omega
      simp [h2, this]
  · simp [h]
set_option maxHeartbeats 400000 in
theorem next_out (b g cap n X : Nat) (i : Int) (w : World) (hs : IsSet w b g cap n X) (hi : (n : Int) ≤ i ∨ n = 0) :
    Calls Tryz.prog 95 #[.pointer (some ⟨b, 0, none⟩), .int .i64 i] w fun e w' => e = .returned (.int .i64 (-1)) ∧ w' = w := by
  have h0 := hs.c0
  clear hs
  by_cases hneg : i < 0
  · have hn : n = 0 := by omega
    subst hn
    clear hi
    go_enter Tryz.func95, Tryz.ntmps95
    go_wp2
    go_ret
    exact ⟨rfl, rfl⟩
  · have hle : (n : Int) ≤ i := by omega
    clear hi
    go_enter Tryz.func95, Tryz.ntmps95
    go_wp2
    go_ret
    exact ⟨rfl, rfl⟩
theorem andNot_low (x r : Nat) (hx : x < 18446744073709551616) (hr : r < 64) : bits BinOp.andNot IntKind.u64 (x : Int) (IntKind.u64.wrap ((2 : Int) ^ r - 1)) = (lowCut x r : Int) := by
  have hp : (2:Nat) ^ r < 2 ^ 64 := Nat.pow_lt_pow_right (by decide) hr
  have hp0 : 0 < (2:Nat) ^ r := Nat.two_pow_pos r
  have e1 : IntKind.u64.wrap ((2 : Int) ^ r - 1) = ((2 ^ r - 1 : Nat) : Int) := by
    rw [IntKind.wrap_u64, show ((2 : Int) ^ r) = ((2 ^ r : Nat) : Int) by simp]
    generalize (2:Nat) ^ r = z at *
    omega
  have h1 : (BitVec.ofInt 64 (x : Int)).toNat = x := by
    rw [BitVec.ofInt_natCast, BitVec.toNat_ofNat]; exact Nat.mod_eq_of_lt hx
  have h2 : (BitVec.ofInt 64 ((2 ^ r - 1 : Nat) : Int)).toNat = 2 ^ r - 1 := by
    rw [BitVec.ofInt_natCast, BitVec.toNat_ofNat]; exact Nat.mod_eq_of_lt (by omega)
  have h3 : (BitVec.ofInt 64 (x : Int) &&& ~~~ BitVec.ofInt 64 ((2 ^ r - 1 : Nat) : Int)).toNat = lowCut x r := by
    apply Nat.eq_of_testBit_eq
    intro t
    rw [← BitVec.getLsbD, BitVec.getLsbD_and, BitVec.getLsbD_not, BitVec.getLsbD, BitVec.getLsbD, h1, h2, lowCut_testBit, Nat.testBit_two_pow_sub_one]
    by_cases ht : t < 64
    · by_cases h : r ≤ t
      · have : ¬ t < r := by omega
        simp [h, ht, this]
      · have : t < r := by omega
        simp [h, this]
    · have : x.testBit t = false := Nat.testBit_lt_two_pow (Nat.lt_of_lt_of_le hx (show 2 ^ 64 ≤ 2 ^ t from Nat.pow_le_pow_right (by decide) (by omega)))
      simp [this]
  rw [e1]
  show IntKind.u64.wrap ((BitVec.ofInt 64 (x : Int) &&& ~~~ BitVec.ofInt 64 ((2 ^ r - 1 : Nat) : Int)).toNat : Int) = _
  rw [h3, IntKind.wrap_u64]
  have := lowCut_le x r
  omega
set_option maxHeartbeats 400000 in
theorem next_in (b g cap n X j : Nat) (i : Int) (hij : Hid ((j : Int) = max i 0)) (hmax : (if i < 0 then 0 else i) = (j : Int)) (w : World) (hs : IsSet w b g cap n X) (hi : j < n) (hT : TabAt w) :
    Calls Tryz.prog 95 #[.pointer (some ⟨b, 0, none⟩), .int .i64 i] w fun e w' => e = .returned (.int .i64 (nextL (elems n X) i)) ∧ ∃ q, w' = w.drewN q := by
  have h0 := hs.c0
  have h1 := hs.c1
  have hn := hs.hn
  have hw := hs.word (j / 64) (by unfold nw; omega)
  have hnw : j / 64 < nw n := by unfold nw; omega
  have hnw2 := nw_le hs.hn
  have hnw3 : n ≤ 64 * nw n := by unfold nw; omega
  have hword := hs.word
  have hX : Hid (X < 2 ^ n) := hs.hX
  have hcut : bits BinOp.andNot IntKind.u64 (wordAt X (j / 64) : Int) (IntKind.u64.wrap ((2 : Int) ^ (j % 64) - 1)) = (lowCut (wordAt X (j / 64)) (j % 64) : Int) := andNot_low _ _ (wordAt_lt _ _) (Nat.mod_lt _ (by decide))
  have hl1 := lowCut_le (wordAt X (j / 64)) (j % 64)
  have hl2 := wordAt_lt X (j / 64)
  clear hs
  go_enter Tryz.func95, Tryz.ntmps95
  go_wp2_with fail
  go_quiet ((go_at_call 116; exact Calls.quiet_of_same (bit_any j _ (by omega) (by omega))))
  go_wp2
  go_loop [5, 6] (fun kk yy => ∃ k y : Nat, k < nw n ∧ y < 18446744073709551616 ∧ j < 64 * (k + 1) ∧ kk = .int .i64 k ∧ yy = .int .u64 y ∧ NInv X j k y) (fun kk _ => nw n - (intOf kk).toNat)
  case atStart => exact ⟨j / 64, _, hnw, by omega, by omega, by go_num, rfl, ninv_start X j⟩
  case round =>
    obtain ⟨k, y, hk, hy, hjk, rfl, rfl, hinv⟩ := hrel
    have HI : Hid (NInv X j k y) := hinv
    clear hinv hw hcut hl1 hl2
    by_cases h0y : y = 0
    · have hyb : ((y : Int) == 0) = true := by simp [h0y]
      have HY : Hid (y = 0) := h0y
      clear h0y
      by_cases hlast : k + 1 = nw n
      · have hlb : (((k : Int) + 1) == (nw n : Int)) = true := by simp; omega
        have HL : Hid (k + 1 = nw n) := hlast
        clear hlast hword
        go_wp2
        go_ret
        exact ⟨ret_int (ninv_end n X j k y hX.out HI.out HY.out (by have := HL.out; omega) i hij.out).symm, _, rfl⟩
      · have hlb : (((k : Int) + 1) == (nw n : Int)) = false := by simp; omega
        have hwk := hword (k + 1) (by omega)
        clear hword
        go_wp2
        go_round
        case rel => exact ⟨k + 1, _, by omega, wordAt_lt _ _, by omega, by go_num, rfl, ninv_next X j k y HI.out HY.out hjk⟩
        case measure => simp [intOf]; omega
    · have hyb : ((y : Int) == 0) = false := by simp [h0y]
      clear hword
      have hc : Lib.ctz 64 y < 64 := by obtain ⟨_, _, h⟩ := ctz_spec y h0y hy; exact h
      go_wp2_with (go_at_call 118; refine (tz_any y hy h0y _ (hT.drewN _)).mono ?_; rintro e w' ⟨rfl, rfl⟩)
      go_ret
      exact ⟨ret_int (by rw [ninv_found n X j k y hX.out HI.out h0y hy i hij.out]; omega), _, rfl⟩
theorem next_any (b g cap n X : Nat) (i : Int) (w : World) (hs : IsSet w b g cap n X) (hT : TabAt w) :
    Calls Tryz.prog 95 #[.pointer (some ⟨b, 0, none⟩), .int .i64 i] w fun e w' => e = .returned (.int .i64 (nextL (elems n X) i)) ∧ ∃ q, w' = w.drewN q := by
  by_cases h : (n : Int) ≤ i ∨ n = 0
  · have e : nextL (elems n X) i = -1 := nextL_none _ _ fun e he => by have := (mem_elems.1 he).1; omega
    rw [e]
    refine (next_out b g cap n X i w hs h).mono ?_
    rintro e w' ⟨rfl, rfl⟩
    exact ⟨rfl, 0, rfl⟩
  · exact next_in b g cap n X (max i 0).toNat i (show (((max i 0).toNat : Nat) : Int) = max i 0 by omega) (by split <;> omega) w hs (by omega) hT
theorem next_miss (i : Nat) : ∀ l : List Nat, i ∉ l → nextL l (i : Int) = nextL l ((i : Int) + 1)
  | [], _ => rfl
  | e :: l, h => by
    have h1 : e ≠ i := fun k => h (by simp [k])
    have h2 : i ∉ l := fun k => h (by simp [k])
    unfold nextL
    by_cases hc : (i : Int) ≤ (e : Int)
    · rw [if_pos hc, if_pos (by omega)]
    · rw [if_neg hc, if_neg (by omega), next_miss i l h2]
theorem next_hit (i : Nat) : ∀ l : List Nat, l.Pairwise (· < ·) → i ∈ l → nextL l (i : Int) = i
  | [], _, h => by cases h
  | e :: l, hs, h => by
    unfold nextL
    rcases List.mem_cons.1 h with rfl | h2
    · rw [if_pos (Int.le_refl _)]
    · have := (List.pairwise_cons.1 hs).1 i h2
      rw [if_neg (by omega)]
      exact next_hit i l (List.pairwise_cons.1 hs).2 h2
end Go.Proofs.YtgnpdhgphkocoaaGreatDoor
namespace Go.Proofs.YtgnpdhgphkocoaaGreatDoor
open Go.RowKit Go.Maps
attribute [local go_sem] Oper.semAt_some
/-! ### follow -/
def addL (X : Nat) (l : List Nat) : Nat := l.foldl (fun R t => R ||| 2 ^ t) X
theorem addL_snoc (X : Nat) (l : List Nat) (t : Nat) : addL X (l ++ [t]) = addL X l ||| 2 ^ t := by unfold addL; rw [List.foldl_append]; rfl
/-- What follows a set by a symbol: over its states that the symbol leads on from. -/
def folR (N : Nat) (Ed : List EdT) (sym : Nat) (E : List Nat) : Nat := E.foldl (fun R p => addL R (tosF N Ed (sym * N + p))) 0
def folF (N : Nat) (Ed : List EdT) (X sym : Nat) : Nat := folR N Ed sym (elems N (X &&& leaF Ed sym))
theorem folR_take {N : Nat} {Ed : List EdT} {sym j : Nat} {E : List Nat} (h : j < E.length) : folR N Ed sym (E.take (j + 1)) = addL (folR N Ed sym (E.take j)) (tosF N Ed (sym * N + E[j])) := by
  unfold folR
  rw [List.take_add_one, List.getElem?_eq_getElem h, Option.toList_some, List.foldl_append]
  rfl
def eAt (E : List Nat) (j : Nat) : Int := match E[j]? with
  | some e => (e : Int)
  | none => -1
theorem eAt_in {E : List Nat} {j : Nat} (h : j < E.length) : eAt E j = (E[j] : Int) := by unfold eAt; rw [List.getElem?_eq_getElem h]
theorem eAt_out {E : List Nat} {j : Nat} (h : E.length ≤ j) : eAt E j = -1 := by unfold eAt; rw [List.getElem?_eq_none h]
theorem nextL_zero (E : List Nat) : nextL E 0 = eAt E 0 := by
  cases E with
  | nil => rfl
  | cons e l => show (if (0 : Int) ≤ (e : Int) then (e : Int) else nextL l 0) = _; rw [if_pos (by omega)]; rfl
theorem nextL_up {E : List Nat} (hs : E.Pairwise (· < ·)) {j : Nat} (h : j < E.length) : nextL E ((E[j] : Int) + 1) = eAt E (j + 1) := by
  by_cases h2 : j + 1 < E.length
  · rw [eAt_in h2]
    refine nextL_some E _ _ hs (List.getElem_mem h2) (by have := List.pairwise_iff_getElem.1 hs j (j + 1) h h2 (by omega); omega) (fun e he hi => ?_)
    obtain ⟨i, hi2, rfl⟩ := List.getElem_of_mem he
    rcases Nat.lt_trichotomy i (j + 1) with q | q | q
    · rcases Nat.lt_or_eq_of_le (Nat.le_of_lt_succ q) with q | q
      · have := List.pairwise_iff_getElem.1 hs i j hi2 h q; omega
      · subst q; omega
    · subst q; exact Nat.le_refl _
    · exact Nat.le_of_lt (List.pairwise_iff_getElem.1 hs (j + 1) i h2 hi2 q)
  · rw [eAt_out (by omega)]
    refine nextL_none E _ (fun e he hi => ?_)
    obtain ⟨i, hi2, rfl⟩ := List.getElem_of_mem he
    rcases Nat.lt_or_eq_of_le (show i ≤ j by omega) with q | q
    · have := List.pairwise_iff_getElem.1 hs i j hi2 h q; omega
    · subst q; omega
theorem lea_iff (Ed : List EdT) (s p : Nat) : (leaF Ed s).testBit p = true ↔ ∃ e ∈ Ed, e.2.1.toNat = s ∧ e.1.toNat = p := by
  unfold leaF
  suffices h : ∀ (L : List EdT) (X : Nat), (L.foldl (fun X e => if e.2.1.toNat = s then X ||| 2 ^ e.1.toNat else X) X).testBit p = true ↔ X.testBit p = true ∨ ∃ e ∈ L, e.2.1.toNat = s ∧ e.1.toNat = p by
    have := h Ed 0
    simpa using this
  intro L
  induction L with
  | nil => intro X; simp
  | cons e L ih =>
    intro X
    rw [List.foldl_cons, ih]
    by_cases h : e.2.1.toNat = s
    · rw [if_pos h, Nat.testBit_or, Nat.testBit_two_pow]
      simp [h, or_assoc]
    · rw [if_neg h]
      simp [h]
theorem tos_mem {N : Nat} {Ed : List EdT} {i t : Nat} : t ∈ tosF N Ed i ↔ ∃ e ∈ Ed, e.2.1.toNat * N + e.1.toNat = i ∧ e.2.2.toNat = t := by
  unfold tosF
  simp [and_assoc]
theorem only_drewN {w w' : World} {R : Nat → Prop} (h : Only w w' R) (q : Nat) : Only w (w'.drewN q) R := ⟨h.os, h.tape, h.output, h.size, h.block⟩
theorem elems_iff {n X e : Nat} : e ∈ elems n X ↔ e < n ∧ X.testBit e = true := by unfold elems; simp
set_option maxRecDepth 100000 in
set_option maxHeartbeats 8000000 in
theorem follow_any (B : Nat) (w : World) (gb M N b g c X sym : Nat) (bs gs cs hs : Nat → Nat) (nl : Nat → Bool) (V : Nat → Value) (Ed : List EdT) (hS : Hid (StP B w gb M N bs gs cs hs (leaF Ed) nl V (tosF N Ed))) (hX : IsSet w b g c N X) (hsy : sym < M) (hT : TabAt w) (h0 : 0 < w.heap.size) (hN : N ≤ 4096) (_hM : M ≤ 128) (hlE : Ed.length ≤ 65536) (hin : ∀ e ∈ Ed, e.2.2.toNat < N) :
    Calls Tryz.prog 50 #[.agg #[.int .i64 (N : Int), .slice (some ⟨gb, 0, none⟩) M M], .pointer (some ⟨b, 0, none⟩), .int .i64 (sym : Int)] w fun e w' => ∃ b' g' c', e = .returned (.pointer (some ⟨b', 0, none⟩)) ∧ SetN w w' b' g' c' N (folF N Ed X sym) := by
  obtain ⟨hL, hbg, -, -⟩ := hS.out.st sym hsy
  obtain ⟨ta, na, ka, hve⟩ : ∃ ta na ka, stV N bs hs nl (sym * 2 + 1) = .slice ta na ka := by
    unfold stV
    rw [if_neg (by omega)]
    cases nl ((sym * 2 + 1) / 2) with
    | true => exact ⟨_, _, _, rfl⟩
    | false => exact ⟨_, _, _, rfl⟩
  have hc0 : w.cell? ⟨gb, sym * 2, none⟩ = some (.pointer (some ⟨bs sym, 0, none⟩)) := by
    have y := hS.out.gr.at (sym * 2) (by omega)
    unfold stV at y
    rw [if_pos (by omega), show sym * 2 / 2 = sym from by omega] at y
    exact y
  have hc1 : w.cell? ⟨gb, sym * 2 + 1, none⟩ = some (.slice ta na ka) := by rw [← hve]; exact hS.out.gr.at (sym * 2 + 1) (by omega)
  have hgl : gb < w.heap.size := hS.out.gr.lt
  obtain ⟨E, hE⟩ : ∃ E, elems N (X &&& leaF Ed sym) = E := ⟨_, rfl⟩
  have HFo : Hid (folF N Ed X sym = folR N Ed sym E) := hide (by rw [← hE]; rfl)
  rw [HFo.out]
  have hEs : E.Pairwise (· < ·) := by rw [← hE]; exact elems_sorted _ _
  have HE : Hid (E.Pairwise (· < ·) ∧ (∀ p ∈ E, p < N ∧ nl sym = false)) := hide ⟨hEs, fun p hp => by
    rw [← hE] at hp
    obtain ⟨p1, p2⟩ := elems_iff.1 hp
    rw [Nat.testBit_and, Bool.and_eq_true] at p2
    refine ⟨p1, ?_⟩
    cases hn : nl sym with
    | false => rfl
    | true =>
      obtain ⟨e, he, e1, e2⟩ := (lea_iff Ed sym p).1 p2.2
      have z := (hS.out.un sym p hsy p1 hn).2
      have : e.2.2.toNat ∈ tosF N Ed (sym * N + p) := tos_mem.2 ⟨e, he, by rw [e1, e2], rfl⟩
      rw [z] at this
      cases this⟩
  obtain ⟨W0, hW0⟩ : ∃ W0, w.alloc (.cells #[.int .i64 (N : Int), .slice (some ⟨gb, 0, none⟩) M M] 85) = W0 := ⟨_, rfl⟩
  have d0 : Below w.heap.size w W0 := by rw [← hW0]; exact (Below.refl _ _).alloc (Nat.le_refl _) _
  have B0 : W0.heap[w.heap.size]? = some (.cells #[.int .i64 (N : Int), .slice (some ⟨gb, 0, none⟩) M M] 85 (0, 0)) := by rw [← hW0]; exact World.alloc_heap_new _ _
  have y0 : W0.cell? ⟨w.heap.size, 1, none⟩ = some (.slice (some ⟨gb, 0, none⟩) M M) := cell_of B0 rfl
  have yc0 := (d0.cell (p := ⟨gb, sym * 2, none⟩) hgl).trans hc0
  have yc1 := (d0.cell (p := ⟨gb, sym * 2 + 1, none⟩) hgl).trans hc1
  obtain ⟨p7, hp7⟩ : ∃ p, W0.heap.size = p := ⟨_, rfl⟩
  obtain ⟨W1, hW1⟩ : ∃ W1, W0.alloc (.cells #[.pointer (some ⟨bs sym, 0, none⟩), .slice ta na ka] 128) = W1 := ⟨_, rfl⟩
  have d1 : Below W0.heap.size W0 W1 := by rw [← hW1]; exact (Below.refl _ _).alloc (Nat.le_refl _) _
  have B7 : W1.heap[p7]? = some (.cells #[.pointer (some ⟨bs sym, 0, none⟩), .slice ta na ka] 128 (0, 0)) := by rw [← hW1, ← hp7]; exact World.alloc_heap_new _ _
  have y7 : W1.cell? ⟨p7, 0, none⟩ = some (.pointer (some ⟨bs sym, 0, none⟩)) := cell_of B7 rfl
  have dw := d0.trans (d1.mono d0.size)
  have HW := hide (And.intro (blk_on B0 d1) (And.intro B7 (And.intro dw (show p7 < W1.heap.size ∧ w.heap.size < p7 from ⟨(Array.getElem?_eq_some_iff.1 B7).1, by rw [← hp7, ← hW0]; simp⟩))))
  have TM := meet_any b g c N X (bs sym) (gs sym) (cs sym) (leaF Ed sym) W1 (hX.below dw) (hL.below dw)
  have HQ := hide (And.intro hsy (And.intro hT (And.intro h0 (And.intro hlE hin))))
  have HV := hide hve
  clear d0 d1 B0 B7 dw hX hL hbg hEs hve hc0 hc1 hgl hT h0 hlE hin
  go_enter Tryz.func50, Tryz.ntmps50
  go_upto_region 2 with fail
  clear y0 yc0 yc1
  go_upto_region 3 with (go_at_call 94; refine TM.mono ?_; rintro e w2 ⟨b1, g1, c1, rfl, hn, hb1, hg1, hbg1, d2⟩; have HN := hide (And.intro hn d2); clear hn hb1 hg1 hbg1 d2)
  have y8 : w2.cell? ⟨w.heap.size, 0, none⟩ = some (.int .i64 (N : Int)) := cell_of (blk_on HW.out.1 HN.out.2) rfl
  have hE' := hE
  clear hE y7
  go_upto_region 4 with (go_at_call 47; refine (setNil_any w2 N hN).mono ?_; rintro e w3 ⟨b2, g2, c2, rfl, h3⟩; have H3 := hide h3; clear h3)
  clear y8
  have HT3 : Hid (TabAt w3 ∧ IsSet w3 b1 g1 c1 N (X &&& leaF Ed sym) ∧ Below w.heap.size w w3) := hide ⟨HQ.out.2.1.below (HW.out.2.2.1.trans ((HN.out.2.trans (H3.out.2.2.2.2.mono HN.out.2.size)).mono HW.out.2.2.1.size)) HQ.out.2.2.1, HN.out.1.below H3.out.2.2.2.2, HW.out.2.2.1.trans ((HN.out.2.trans (H3.out.2.2.2.2.mono HN.out.2.size)).mono HW.out.2.2.1.size)⟩
  have HG : Hid (b1 ≠ g2 ∧ g1 ≠ g2 ∧ p7 ≠ g2 ∧ w.heap.size ≤ g2 ∧ b2 ≠ g2) := hide ⟨by have := HN.out.1.blt; have := H3.out.2.2.1; omega, by have := HN.out.1.glt; have := H3.out.2.2.1; omega, by have := HW.out.2.2.2.1; have := HN.out.2.size; have := H3.out.2.2.1; omega, by have := HW.out.2.2.1.size; have := HN.out.2.size; have := H3.out.2.2.1; omega, H3.out.2.2.2.1⟩
  have TX := next_any b1 g1 c1 N (X &&& leaF Ed sym) 0 w3 HT3.out.2.1 HT3.out.1
  rw [hE', nextL_zero] at TX
  go_wp2_with (go_at_call 95; refine TX.mono ?_; rintro e w4 ⟨rfl, q0, rfl⟩)
  clear TX
  go_loopw [11] (fun iv wr => ∃ j : Nat, j ≤ E.length ∧ iv = .int .i64 (eAt E j) ∧ Hid (IsSet wr b2 g2 c2 N (folR N Ed sym (E.take j)) ∧ Only w3 wr (fun k => k = g2))) (fun iv _ => if intOf iv < 0 then 0 else N + 1 - (intOf iv).toNat)
  case atStart => exact ⟨0, Nat.zero_le _, rfl, hide ⟨H3.out.1.keep rfl rfl, only_drewN (Only.ofBelow (Below.refl _ _)) q0⟩⟩
  case round =>
    obtain ⟨j, hj, rfl, HR⟩ := hrel
    by_cases hjE : j < E.length
    · obtain ⟨p, hp⟩ : ∃ p, E[j] = p := ⟨_, rfl⟩
      have HPE := HE.out.2 E[j] (List.getElem_mem hjE)
      rw [hp] at HPE
      have HP := hide HPE
      clear HPE
      have hpN : p < N := HP.out.1
      rw [eAt_in hjE, hp]
      have p0 : (0 : Int) ≤ (p : Int) := by omega
      have p1 : (p : Int) < (N : Int) := by omega
      have HS2 : Hid ((.slice ta na ka : Value) = .slice (some ⟨hs sym, 0, none⟩) N N) := hide (by
        rw [← HV.out]
        unfold stV
        rw [if_neg (by omega), show (sym * 2 + 1) / 2 = sym from by omega, HP.out.2]
        rfl)
      obtain ⟨X1, hX1⟩ : ∃ X, tosF N Ed (sym * N + p) = X := ⟨_, rfl⟩
      have hO := hS.out.fm (sym * N + p) (idx_lt HQ.out.1 hpN)
      rw [hX1] at hO
      obtain ⟨t1, k1, hv⟩ := own_slice hO
      obtain ⟨nX, hnX⟩ : ∃ l, (natI X1).length = l := ⟨_, rfl⟩
      have hnX2 : nX = X1.length := by rw [← hnX, natI_len]
      have hX1l : nX ≤ 65536 := by rw [hnX2, ← hX1]; exact Nat.le_trans (tosF_len N Ed _) HQ.out.2.2.2.1
      have HDr : Hid (Below w.heap.size w wr) := hide (HT3.out.2.2.trans (HR.out.2.toBelow HT3.out.2.2.size (fun k hk => by rw [hk]; exact HG.out.2.2.2.1)))
      have yp : wr.cell? ⟨p7, 1, none⟩ = some (.slice (some ⟨hs sym, 0, none⟩) N N) := by
        rw [cell_only HR.out.2 (by have := HW.out.2.2.2.1; have := HN.out.2.size; have := H3.out.2.2.2.2.size; omega) HG.out.2.2.1, ← HS2.out]
        exact cell_of (blk_on (blk_on HW.out.2.1 HN.out.2) H3.out.2.2.2.2) rfl
      have hrow := (hS.out.rw sym HQ.out.1 HP.out.2).1
      have yr : wr.cell? ⟨hs sym, p, none⟩ = some (.slice t1 nX k1) := (HDr.out.cell (p := ⟨hs sym, p, none⟩) hrow.lt).trans (by have := hrow.at p hpN; rw [hv, hnX] at this; exact this)
      rw [hv] at hO
      have HO := hide (And.intro hnX2 (And.intro hX1 (And.intro (own_rdN hO) hp)))
      clear hO hv hrow hnX hX1 hnX2 hp
      go_wp2_with fail
      clear yp yr
      obtain ⟨wx, hwx⟩ : ∃ X, X = wr := ⟨_, rfl⟩
      rw [← hwx]
      rw [← hwx] at HR HDr
      clear hwx
      go_loopw [43] (fun iv wr => ∃ k : Nat, k ≤ nX ∧ iv = .int .i64 (k : Int) ∧ Hid (IsSet wr b2 g2 c2 N (addL (folR N Ed sym (E.take j)) (X1.take k)) ∧ Only w3 wr (fun q => q = g2))) (fun iv _ => nX - (intOf iv).toNat)
      case atStart => exact ⟨0, Nat.zero_le _, rfl, hide ⟨HR.out.1, HR.out.2⟩⟩
      case round =>
        obtain ⟨k, hk, rfl, HK⟩ := hrel
        by_cases hkn : k < nX
        · have hkX : k < X1.length := by rw [← HO.out.1]; exact hkn
          obtain ⟨x, hx⟩ : ∃ x, X1[k] = x := ⟨_, rfl⟩
          obtain ⟨ga, oa, ea, hr0⟩ := HO.out.2.2.1 k (by rw [natI_len]; exact hkX)
          have hxi : (natI X1)[k]'(by rw [natI_len]; exact hkX) = (x : Int) := by rw [← hx]; simp [natI]
          rw [hxi] at hr0
          have hxN : x < N := by
            have z : x ∈ tosF N Ed (sym * N + p) := by rw [HO.out.2.1, ← hx]; exact List.getElem_mem _
            obtain ⟨e, he, -, e2⟩ := tos_mem.1 z
            rw [← e2]
            exact HQ.out.2.2.2.2 e he
          have yx : wr.cell? ⟨ga, oa + k, none⟩ = some (.int .i64 (x : Int)) := ((HT3.out.2.2.trans (HK.out.2.toBelow HT3.out.2.2.size (fun q hq => by rw [hq]; exact HG.out.2.2.2.1))).cell (p := ⟨ga, oa + k, none⟩) (World.block_lt_of_cell? w ⟨ga, oa + k, none⟩ hr0)).trans hr0
          have HX : Hid (X1.take (k + 1) = X1.take k ++ [x]) := hide (by rw [← hx, List.take_add_one, List.getElem?_eq_getElem hkX]; rfl)
          have TA := add_only b2 g2 c2 N (addL (folR N Ed sym (E.take j)) (X1.take k)) x wr HK.out.1 HG.out.2.2.2.2 hxN
          subst ea
          clear hr0 hxi hx hkX
          go_wp2_with (go_at_call 93; refine TA.mono ?_; rintro e w5 ⟨rfl, hs5, o5⟩; have H5 := hide (And.intro hs5 (HK.out.2.trans o5)); clear hs5 o5)
          go_roundw
          case rel => exact ⟨k + 1, by omega, by go_num, hide ⟨by rw [HX.out, addL_snoc]; exact H5.out.1, H5.out.2⟩⟩
          case measure => simp [intOf]; omega
        · have hkk : k = nX := by omega
          have HK2 : Hid (IsSet wr b2 g2 c2 N (folR N Ed sym (E.take (j + 1))) ∧ Only w3 wr (fun q => q = g2)) := hide ⟨by
            rw [folR_take hjE, HO.out.2.2.2, HO.out.2.1]
            have z := HK.out.1
            rwa [hkk, HO.out.1, List.take_length] at z, HK.out.2⟩
          have HNr : Hid (IsSet wr b1 g1 c1 N (X &&& leaF Ed sym) ∧ TabAt wr) := hide ⟨HT3.out.2.1.keep (HK.out.2.block _ HT3.out.2.1.blt HG.out.1) (HK.out.2.block _ HT3.out.2.1.glt HG.out.2.1), HQ.out.2.1.below (HT3.out.2.2.trans (HK.out.2.toBelow HT3.out.2.2.size (fun q hq => by rw [hq]; exact HG.out.2.2.2.1))) HQ.out.2.2.1⟩
          have TX := next_any b1 g1 c1 N (X &&& leaF Ed sym) ((p : Int) + 1) wr HNr.out.1 HNr.out.2
          have hnu := nextL_up HE.out.1 hjE
          rw [HO.out.2.2.2] at hnu
          rw [hE', hnu] at TX
          clear HK hnu
          go_wp2_with (go_at_call 95; refine TX.mono ?_; rintro e w5 ⟨rfl, q5, rfl⟩)
          go_roundw
          case rel => exact ⟨j + 1, by omega, rfl, hide ⟨HK2.out.1.keep rfl rfl, only_drewN HK2.out.2 _⟩⟩
          case measure =>
            have q1 : ¬ (p : Int) < 0 := by omega
            simp only [intOf, q1, if_false]
            by_cases h1 : j + 1 < E.length
            · have z := List.pairwise_iff_getElem.1 HE.out.1 j (j + 1) hjE h1 (by omega)
              rw [HO.out.2.2.2] at z
              rw [eAt_in h1]
              have q2 : ¬ (E[j + 1] : Int) < 0 := by omega
              simp only [q2, if_false]
              omega
            · rw [eAt_out (show E.length ≤ j + 1 by omega)]
              simp
              omega
    · have hjj : j = E.length := by omega
      rw [eAt_out (show E.length ≤ j by omega)]
      have HR2 : Hid (SetN w wr b2 g2 c2 N (folR N Ed sym E)) := hide ⟨by have z := HR.out.1; rwa [hjj, List.take_length] at z, by have := H3.out.2.1; have := HT3.out.2.2.size; have := HW.out.2.2.1.size; have := HN.out.2.size; omega, HG.out.2.2.2.1, HG.out.2.2.2.2, HT3.out.2.2.trans (HR.out.2.toBelow HT3.out.2.2.size (fun q hq => by rw [hq]; exact HG.out.2.2.2.1))⟩
      clear HR
      go_wp2_with fail
      go_ret
      exact ⟨b2, g2, c2, rfl, HR2.out⟩
end Go.Proofs.YtgnpdhgphkocoaaGreatDoor
