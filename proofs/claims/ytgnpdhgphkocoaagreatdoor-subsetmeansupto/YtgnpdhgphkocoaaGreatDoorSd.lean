import Derived.Test.YtgnpdhgphkocoaaGreatDoorQae
namespace Go.Proofs.YtgnpdhgphkocoaaGreatDoor
open Go.RowKit Go.Maps
attribute [local go_sem] Oper.semAt_some
/-! ### newSteps -/
theorem info128 : (Tryz.prog.info? 128).map (fun i => (i.zero, i.size, i.bytes)) = some (some (.agg #[.pointer none, .slice none 0 0]), 2, 32) := by kernel_rfl
theorem info22' : (Tryz.prog.info? 22).map (fun i => (i.zero, i.size, i.bytes)) = some (some (.slice none 0 0), 1, 24) := by kernel_rfl
theorem mrw_make2 {W : World} {g t n : Nat} {a b : Value} (h : W.heap[g]? = some (.cells (madeCells #[a, b] (n * 2)) t (0, 0))) : Mrw W g t (n * 2) (fun c => if c % 2 = 0 then a else b) (n * 2) := by
  refine ⟨_, h, size_madeCells _ _, fun j hj => ?_⟩
  unfold madeCells
  rw [Array.getElem?_map, Array.getElem?_range, if_pos hj]
  show some (#[a, b][j % 2]!) = some (if j % 2 = 0 then a else b)
  by_cases q : j % 2 = 0
  · rw [q]; rfl
  · have q1 : j % 2 = 1 := by omega
    rw [q1]; rfl
/-- The same, of no list. -/
theorem setNil_any (w : World) (n : Nat) (hn : n ≤ 4096) : Calls Tryz.prog 47 #[.int .i64 (n : Int), .slice none 0 0] w fun e w' => ∃ b g cap, e = .returned (.pointer (some ⟨b, 0, none⟩)) ∧ SetN w w' b g cap n 0 :=
  setOf_any w n none 0 [] (fun j hj => by simp at hj) (by simp) hn rfl
def mkP2 (B : Nat) (t : TypeId) (n : Nat) (C : Array Value) : MkP := fun x lo hi W => x = .slice (some ⟨lo, 0, none⟩) n n ∧ B ≤ lo ∧ lo < hi ∧ W.heap[lo]? = some (.cells C t (0, 0))
theorem mkP2_mono {B : Nat} {t : TypeId} {n : Nat} {C : Array Value} : MonoP (mkP2 B t n C) := fun _ _ _ _ _ hs d ⟨e, l, l2, z⟩ => ⟨e, l, l2, (d.block _ (by omega)).trans z⟩
def bxP85 (B : Nat) : MkP := fun x lo hi W => x = .pointer (some ⟨lo, 0, none⟩) ∧ B ≤ lo ∧ lo < hi ∧ W.heap[lo]? = some (.cells #[.int .i64 0, .slice none 0 0] 85 (0, 0))
theorem bxP85_mono {B : Nat} : MonoP (bxP85 B) := fun _ _ _ _ _ hs d ⟨e, l, l2, z⟩ => ⟨e, l, l2, (d.block _ (by omega)).trans z⟩
def setP (B N : Nat) : MkP := fun x _ _ W => ∃ b g c, x = .pointer (some ⟨b, 0, none⟩) ∧ IsSet W b g c N 0 ∧ B ≤ b ∧ B ≤ g ∧ b ≠ g
theorem setP_mono {B N : Nat} : MonoP (setP B N) := fun _ _ _ _ _ _ d ⟨b, g, c, e, h, k⟩ => ⟨b, g, c, e, h.below d, k⟩
/-- From which states a symbol leads anywhere; where to. -/
def leaF (Ed : List EdT) (s : Nat) : Nat := Ed.foldl (fun X e => if e.2.1.toNat = s then X ||| 2 ^ e.1.toNat else X) 0
def tosF (N : Nat) (Ed : List EdT) (i : Nat) : List Nat := (Ed.filter fun e => decide (e.2.1.toNat * N + e.1.toNat = i)).map fun e => e.2.2.toNat
theorem leaF_snoc (Ed : List EdT) (f a t : Nat) : leaF (Ed ++ [((f : Int), (a : Int), (t : Int))]) = updF (leaF Ed) a (leaF Ed a ||| 2 ^ f) := by
  funext s
  unfold leaF
  rw [List.foldl_append]
  by_cases e : s = a
  · subst e; rw [updF_same]; simp
  · rw [updF_ne _ _ e]
    have : ¬ a = s := fun q => e q.symm
    simp [this]
theorem tosF_snoc (N : Nat) (Ed : List EdT) (f a t : Nat) : tosF N (Ed ++ [((f : Int), (a : Int), (t : Int))]) = updF (tosF N Ed) (a * N + f) (tosF N Ed (a * N + f) ++ [t]) := by
  funext s
  unfold tosF
  rw [List.filter_append, List.map_append]
  by_cases e : s = a * N + f
  · subst e; rw [updF_same]; simp
  · rw [updF_ne _ _ e]
    have : ¬ a * N + f = s := fun q => e q.symm
    simp [this]
/-- The steps, in new memory. -/
def StA (w0 w : World) (gb M N : Nat) (Ed : List EdT) : Prop := ∃ (bs gs cs hs : Nat → Nat) (nl : Nat → Bool) (V : Nat → Value), StP w0.heap.size w gb M N bs gs cs hs (leaF Ed) nl V (tosF N Ed) ∧ Below w0.heap.size w0 w
theorem tosF_len (N : Nat) (Ed : List EdT) (i : Nat) : (tosF N Ed i).length ≤ Ed.length := by
  unfold tosF
  rw [List.length_map]
  exact List.length_filter_le _ _
set_option maxRecDepth 100000 in
set_option maxHeartbeats 8000000 in
theorem newSteps_any (w : World) (N M : Nat) (a1 a2 a3 : Option Addr) (n1 n2 c1 c2 lE c3 : Nat) (Ed : List EdT) (hE : RdE w a3 Ed) (hlE : Ed.length = lE) (hin : ∀ e ∈ Ed, (0 ≤ e.1 ∧ e.1 < (N : Int)) ∧ (0 ≤ e.2.1 ∧ e.2.1 < (M : Int)) ∧ 0 ≤ e.2.2 ∧ e.2.2 < (N : Int)) (hN : N ≤ 4096) (hM : M ≤ 128) (hl : lE ≤ 65536) :
    Calls Tryz.prog 49 #[.agg #[.int .i64 (N : Int), .int .i64 (M : Int), .slice a1 n1 c1, .slice a2 n2 c2, .slice a3 lE c3]] w fun e w' => ∃ gb, e = .returned (.agg #[.int .i64 (N : Int), .slice (some ⟨gb, 0, none⟩) M M]) ∧ StA w w' gb M N Ed := by
  obtain ⟨i8, hi8, hz80, hz81, hz82⟩ := info_parts info128
  obtain ⟨C1, hC1⟩ : ∃ C, madeCells #[.pointer none, .slice none 0 0] (M * 2) = C := ⟨_, rfl⟩
  have hmk1 : ∀ W : World, (Instr.makeSlice 83 (.int .i64 (M : Int)) (.int .i64 (M : Int))).run Tryz.prog W = .ok (.slice (some ⟨W.heap.size, 0, none⟩) M M) (W.alloc (.cells C1 128)) := fun W => by
    have h := run_make (P := Tryz.prog) W 83 128 i8 (.agg #[.pointer none, .slice none 0 0]) Tryz.underlying83 hi8 hz80 .i64 .i64 (M : Int) (M : Int) (by omega) (by omega) (by rw [hz82]; omega) (by omega)
    rw [hz81, Int.toNat_natCast] at h
    rw [← hC1]
    exact h
  obtain ⟨W0, hW0⟩ : ∃ W0, (w.alloc (.cells #[.int .i64 (N : Int), .int .i64 (M : Int), .slice a1 n1 c1, .slice a2 n2 c2, .slice a3 lE c3] 25)).alloc (.cells #[.int .i64 0, .slice none 0 0] 85) = W0 := ⟨_, rfl⟩
  have HD := hide (two_al w #[.int .i64 (N : Int), .int .i64 (M : Int), .slice a1 n1 c1, .slice a2 n2 c2, .slice a3 lE c3] #[.int .i64 0, .slice none 0 0] 25 85)
  rw [hW0] at HD
  have HB0 := hide HD.out.2.1
  have HNM := hide (And.intro hN (And.intro hM (And.intro hl (And.intro hlE (And.intro hE hin)))))
  have HC := hide hC1
  clear hC1 hN hM hl hlE hE hin hi8 hz80 hz81 hz82
  go_enter Tryz.func49, Tryz.ntmps49
  go_upto_region 1 with fail
  have hmo : MonIL 0 [vI 0 (.pointer (some ⟨w.heap.size, 0, none⟩)), vI 1 (.int .i64 (N : Int)), vI 2 (.pointer (some ⟨w.heap.size, 1, none⟩)), vI 3 (.int .i64 (M : Int)), pI 4 (mkP2 W0.heap.size 128 M C1), ⟨[4], [], fun y _ _ _ => y 5 = .agg #[.int .i64 (N : Int), y 4]⟩, pI 6 (bxP85 W0.heap.size)] := ⟨vI_mono _ _, vI_mono _ _, vI_mono _ _, vI_mono _ _, pI_mono mkP2_mono, (fun _ _ _ _ _ _ _ _ hy h => by dsimp only at hy h ⊢; rw [hy 5 (Or.inl rfl), hy 4 (Or.inr (by simp))]; exact h), pI_mono bxP85_mono, trivial⟩
  refine wp_region_sl [vI 0 (.pointer (some ⟨w.heap.size, 0, none⟩)), vI 1 (.int .i64 (N : Int)), vI 2 (.pointer (some ⟨w.heap.size, 1, none⟩)), vI 3 (.int .i64 (M : Int)), pI 4 (mkP2 W0.heap.size 128 M C1), ⟨[4], [], fun y _ _ _ => y 5 = .agg #[.int .i64 (N : Int), y 4]⟩, pI 6 (bxP85 W0.heap.size)] (by kernel_rfl) (by kernel_rfl) (by kernel_rfl) (by kernel_rfl) hmo ⟨?o0, ?o1, ?o2, ?o3, ?o4, ?o5, ?o6, trivial⟩ ?fin
  case o0 =>
    intro At yy W hy hb d hd K hK
    have s1 : At.tmps.getD 1 undef = .pointer (some ⟨w.heap.size, 0, none⟩) := hb 1 rfl
    have s1' := s1
    rw [Array.getD_eq_getD_getElem?] at s1'
    clear hd hy hb
    go_simp
    exact hK.out _ W (stp_of hmo d (Below.refl _ _)) (if_pos rfl)
  case o1 =>
    intro At yy W hy hb d hd K hK
    have e0 : yy 0 = .pointer (some ⟨w.heap.size, 0, none⟩) := by obtain ⟨_, _, _, _, e⟩ := hd ⟨0, .data⟩ (by simp) rfl rfl; exact e
    have s8 := (hy 0 _ 8 rfl rfl).trans e0
    have s8' := s8
    rw [Array.getD_eq_getD_getElem?] at s8'
    clear hd hy hb
    have y0 : W.cell? ⟨w.heap.size, 0, none⟩ = some (.int .i64 (N : Int)) := cell_of (blk_on HB0.out d) rfl
    go_simp
    exact hK.out _ W (stp_of hmo d (Below.refl _ _)) (if_pos rfl)
  case o2 =>
    intro At yy W hy hb d hd K hK
    have s1 : At.tmps.getD 1 undef = .pointer (some ⟨w.heap.size, 0, none⟩) := hb 1 rfl
    have s1' := s1
    rw [Array.getD_eq_getD_getElem?] at s1'
    clear hd hy hb
    go_simp
    exact hK.out _ W (stp_of hmo d (Below.refl _ _)) (if_pos rfl)
  case o3 =>
    intro At yy W hy hb d hd K hK
    have e2 : yy 2 = .pointer (some ⟨w.heap.size, 1, none⟩) := by obtain ⟨_, _, _, _, e⟩ := hd ⟨2, .data⟩ (by simp) rfl rfl; exact e
    have s10 := (hy 2 _ 10 rfl rfl).trans e2
    have s10' := s10
    rw [Array.getD_eq_getD_getElem?] at s10'
    clear hd hy hb
    have y1 : W.cell? ⟨w.heap.size, 1, none⟩ = some (.int .i64 (M : Int)) := cell_of (blk_on HB0.out d) rfl
    go_simp
    exact hK.out _ W (stp_of hmo d (Below.refl _ _)) (if_pos rfl)
  case o4 =>
    intro At yy W hy hb d hd K hK
    have e3 : yy 3 = .int .i64 (M : Int) := by obtain ⟨_, _, _, _, e⟩ := hd ⟨3, .data⟩ (by simp) rfl rfl; exact e
    have s11 := (hy 3 _ 11 rfl rfl).trans e3
    have s11' := s11
    rw [Array.getD_eq_getD_getElem?] at s11'
    clear hd hy hb
    go_simp
    exact hK.out _ _ (stp_of hmo d ((Below.refl _ _).alloc (Nat.le_refl _) _)) ⟨if_pos rfl, d.size, by simp, World.alloc_heap_new _ _⟩
  case o5 =>
    intro At yy W hy hb d hd K hK
    have e1 : yy 1 = .int .i64 (N : Int) := by obtain ⟨_, _, _, _, e⟩ := hd ⟨1, .data⟩ (by simp) rfl rfl; exact e
    have f4 := hd ⟨4, .data⟩ (by simp) rfl rfl
    obtain ⟨lo4, hi4, _, _, e4, _⟩ := f4
    have s9 := (hy 1 _ 9 rfl rfl).trans e1
    have s9' := s9
    rw [Array.getD_eq_getD_getElem?] at s9'
    have s12 := (hy 4 _ 12 rfl rfl).trans e4
    have s12' := s12
    rw [Array.getD_eq_getD_getElem?] at s12'
    clear hd hy hb
    go_simp
    exact hK.out _ W (stp_of hmo d (Below.refl _ _)) (by show updV yy 5 _ 5 = .agg #[_, updV yy 5 _ 4]; rw [show ∀ x, updV yy 5 x 5 = x from fun x => if_pos rfl, show ∀ x, updV yy 5 x 4 = yy 4 from fun x => if_neg (by decide), e4])
  case o6 =>
    intro At yy W hy hb d hd K hK
    clear hd hy hb
    go_simp
    exact hK.out _ _ (stp_of hmo d ((Below.refl _ _).alloc (Nat.le_refl _) _)) ⟨if_pos rfl, d.size, by simp, World.alloc_heap_new _ _⟩
  case fin =>
    intro yy lo hi W hM
    show wpList _ _ _ [_] _ _
    have e0 : yy 0 = .pointer (some ⟨w.heap.size, 0, none⟩) := hM.fact 0 (by simp) rfl (notR_all 0 rfl)
    have e1 : yy 1 = .int .i64 (N : Int) := hM.fact 1 (by simp) rfl (notR_all 1 rfl)
    have e2 : yy 2 = .pointer (some ⟨w.heap.size, 1, none⟩) := hM.fact 2 (by simp) rfl (notR_all 2 rfl)
    have e3 : yy 3 = .int .i64 (M : Int) := hM.fact 3 (by simp) rfl (notR_all 3 rfl)
    obtain ⟨e4, b4, l4, z4⟩ := hM.fact 4 (by simp) rfl (notR_all 4 rfl)
    have e5 : yy 5 = .agg #[.int .i64 (N : Int), yy 4] := hM.fact 5 (by simp) rfl (notR_all 5 rfl)
    obtain ⟨e6, b6, l6, z6⟩ := hM.fact 6 (by simp) rfl (notR_all 6 rfl)
    have dd := hM.d
    have q46 := hM.apart 4 6 (by simp) (by simp) rfl rfl (by decide)
    rw [e4] at e5
    simp only [fills, Act.put, List.take, List.length, List.setIfInBounds_toArray, List.set_cons_zero, List.set_cons_succ, e0, e1, e2, e3, e4, e5, e6]
    have ne : lo 4 ≠ lo 6 := by omega
    clear q46
    generalize lo 4 = gb at z4 b4 l4 ne ⊢
    generalize lo 6 = p3 at z6 b6 l6 ne ⊢
    clear hM hmo e0 e1 e2 e3 e4 e5 e6
    have m0 := mrw_make2 (a := .pointer none) (b := .slice none 0 0) (n := M) (by rw [HC.out]; exact z4)
    have f0 : W.frozen? ⟨p3, 0, none⟩ = false := fz_of z6
    have f1 : W.frozen? ⟨p3, 1, none⟩ = false := fz_of z6
    have y0 : W.cell? ⟨p3, 0, none⟩ = some (.int .i64 0) := cell_of z6 rfl
    have y1 : W.cell? ⟨p3, 1, none⟩ = some (.slice none 0 0) := cell_of z6 rfl
    have o2 := (only_set W p3 0 (.int .i64 (N : Int))).trans (only_set _ p3 1 (.slice (some ⟨gb, 0, none⟩) M M))
    have z62 := set2 W p3 _ _ (.int .i64 (N : Int)) (.slice (some ⟨gb, 0, none⟩) M M) 85 z6
    have HD0 := hide (And.intro dd (And.intro b4 (And.intro b6 ne)))
    clear dd b4 b6 l4 l6
    go_upto_region 2 with fail
    obtain ⟨w3, hw3⟩ : ∃ w3, (W.setCell ⟨p3, 0, none⟩ (.int .i64 (N : Int))).setCell ⟨p3, 1, none⟩ (.slice (some ⟨gb, 0, none⟩) M M) = w3 := ⟨_, rfl⟩
    rw [hw3] at o2 z62 ⊢
    clear hw3 f0 f1 y0 y1 z6 z4
    have D3 : Below W0.heap.size W0 w3 := HD0.out.1.trans (o2.toBelow HD0.out.1.size (fun k hk => by have := HD0.out.2.2.1; rcases hk with rfl | rfl <;> omega))
    have Q3 : StQ W0.heap.size w3 gb M N 0 (fun _ => 0) (fun _ => 0) (fun _ => 0) := ⟨(m0.only o2 (fun e => by have := HD0.out.2.2.2; rcases e with e | e <;> omega)).congr (fun c hc => by unfold stW; rw [if_neg (show ¬ c / 2 < 0 by omega)]), (fun s hs => by omega), (fun s s' hs => by omega), HD0.out.2.1⟩
    have HB03 := hide (blk_on HB0.out D3)
    have HZ3 := hide z62
    have y1 : w3.cell? ⟨p3, 1, none⟩ = some (.slice (some ⟨gb, 0, none⟩) M M) := cell_of z62 rfl
    have HQ3 := hide Q3
    have HD3 := hide D3
    have HNE := hide HD0.out.2.2.2
    have HGE := hide (And.intro HD0.out.2.1 HD0.out.2.2.1)
    clear HD0 m0 o2 z62 Q3 D3
    go_wp2_with fail
    clear y1
    go_loopw [17] (fun iv wr => ∃ k : Nat, k ≤ M ∧ iv = .int .i64 (k : Int) ∧ ∃ bs gs cs : Nat → Nat, Hid (StQ W0.heap.size wr gb M N k bs gs cs ∧ Only w3 wr (fun q => q = gb))) (fun iv _ => M - (intOf iv).toNat)
    case atStart => exact ⟨0, Nat.zero_le _, rfl, _, _, _, hide ⟨HQ3.out, Only.ofBelow (Below.refl _ _)⟩⟩
    case round =>
      obtain ⟨k, hk, rfl, bs, gs, cs, HR⟩ := hrel
      have hM1 : M ≤ 128 := HNM.out.2.1
      by_cases hkM : k < M
      · have HB0r : Hid (wr.heap[w.heap.size]? = some (.cells #[.int .i64 (N : Int), .int .i64 (M : Int), .slice a1 n1 c1, .slice a2 n2 c2, .slice a3 lE c3] 25 (0, 0))) := hide ((HR.out.2.block _ (Array.getElem?_eq_some_iff.1 HB03.out).1 (fun e => by have := HGE.out.1; have := HD.out.2.2.2; omega)).trans HB03.out)
        have HB3 : Hid (wr.heap[p3]? = some (.cells #[.int .i64 (N : Int), .slice (some ⟨gb, 0, none⟩) M M] 85 (0, 0))) := hide ((HR.out.2.block _ (Array.getElem?_eq_some_iff.1 HZ3.out).1 (fun e => HNE.out e.symm)).trans HZ3.out)
        go_upto_region 5 with fail
        have hmo : MonIL 0 [vI 0 (.pointer (some ⟨p3, 1, none⟩)), vI 1 (.slice (some ⟨gb, 0, none⟩) M M), vI 2 (.int .i64 (k : Int)), vI 3 (.pointer (some ⟨w.heap.size, 0, none⟩)), vI 4 (.int .i64 (N : Int)), pI 5 (setP wr.heap.size N), ⟨[5], [], fun y _ _ _ => y 6 = .agg #[y 5, .slice none 0 0]⟩] := ⟨vI_mono _ _, vI_mono _ _, vI_mono _ _, vI_mono _ _, vI_mono _ _, pI_mono setP_mono, (fun _ _ _ _ _ _ _ _ hy h => by dsimp only at hy h ⊢; rw [hy 6 (Or.inl rfl), hy 5 (Or.inr (by simp))]; exact h), trivial⟩
        refine wp_region_sl [vI 0 (.pointer (some ⟨p3, 1, none⟩)), vI 1 (.slice (some ⟨gb, 0, none⟩) M M), vI 2 (.int .i64 (k : Int)), vI 3 (.pointer (some ⟨w.heap.size, 0, none⟩)), vI 4 (.int .i64 (N : Int)), pI 5 (setP wr.heap.size N), ⟨[5], [], fun y _ _ _ => y 6 = .agg #[y 5, .slice none 0 0]⟩] (by kernel_rfl) (by kernel_rfl) (by kernel_rfl) (by kernel_rfl) hmo ⟨?o0, ?o1, ?o2, ?o3, ?o4, ?o5, ?o6, trivial⟩ ?fin
        case o0 =>
          intro At yy W hy hb d hd K hK
          have s3 : At.tmps.getD 3 undef = .pointer (some ⟨p3, 0, none⟩) := hb 3 rfl
          have s3' := s3
          rw [Array.getD_eq_getD_getElem?] at s3'
          clear hd hy hb
          go_simp
          exact hK.out _ W (stp_of hmo d (Below.refl _ _)) (if_pos rfl)
        case o1 =>
          intro At yy W hy hb d hd K hK
          have e0 : yy 0 = .pointer (some ⟨p3, 1, none⟩) := by obtain ⟨_, _, _, _, e⟩ := hd ⟨0, .data⟩ (by simp) rfl rfl; exact e
          have s20 := (hy 0 _ 20 rfl rfl).trans e0
          have s20' := s20
          rw [Array.getD_eq_getD_getElem?] at s20'
          clear hd hy hb
          have y : W.cell? ⟨p3, 1, none⟩ = some (.slice (some ⟨gb, 0, none⟩) M M) := cell_of (blk_on HB3.out d) rfl
          go_simp
          exact hK.out _ W (stp_of hmo d (Below.refl _ _)) (if_pos rfl)
        case o2 =>
          intro At yy W hy hb d hd K hK
          have s4 : At.tmps.getD 4 undef = .int .i64 (k : Int) := hb 4 rfl
          have s4' := s4
          rw [Array.getD_eq_getD_getElem?] at s4'
          clear hd hy hb
          go_simp
          exact hK.out _ W (stp_of hmo d (Below.refl _ _)) (if_pos rfl)
        case o3 =>
          intro At yy W hy hb d hd K hK
          have s1 : At.tmps.getD 1 undef = .pointer (some ⟨w.heap.size, 0, none⟩) := hb 1 rfl
          have s1' := s1
          rw [Array.getD_eq_getD_getElem?] at s1'
          clear hd hy hb
          go_simp
          exact hK.out _ W (stp_of hmo d (Below.refl _ _)) (if_pos rfl)
        case o4 =>
          intro At yy W hy hb d hd K hK
          have e3 : yy 3 = .pointer (some ⟨w.heap.size, 0, none⟩) := by obtain ⟨_, _, _, _, e⟩ := hd ⟨3, .data⟩ (by simp) rfl rfl; exact e
          have s23 := (hy 3 _ 23 rfl rfl).trans e3
          have s23' := s23
          rw [Array.getD_eq_getD_getElem?] at s23'
          clear hd hy hb
          have y0 : W.cell? ⟨w.heap.size, 0, none⟩ = some (.int .i64 (N : Int)) := cell_of (blk_on HB0r.out d) rfl
          go_simp
          exact hK.out _ W (stp_of hmo d (Below.refl _ _)) (if_pos rfl)
        case o5 =>
          intro At yy W hy hb d hd K hK
          have e4 : yy 4 = .int .i64 (N : Int) := by obtain ⟨_, _, _, _, e⟩ := hd ⟨4, .data⟩ (by simp) rfl rfl; exact e
          have s24 := (hy 4 _ 24 rfl rfl).trans e4
          have s24' := s24
          rw [Array.getD_eq_getD_getElem?] at s24'
          clear hd hy hb
          go_simp
          go_wp2_with (go_at_call 47; refine (setNil_any W N HNM.out.1).mono ?_; rintro e wa ⟨b, g, c, rfl, hq⟩)
          exact hK.out _ wa (stp_of hmo d hq.2.2.2.2) ⟨b, g, c, if_pos rfl, hq.1, Nat.le_trans d.size hq.2.1, Nat.le_trans d.size hq.2.2.1, hq.2.2.2.1⟩
        case o6 =>
          intro At yy W hy hb d hd K hK
          have f5 := hd ⟨5, .data⟩ (by simp) rfl rfl
          obtain ⟨lo5, hi5, _, _, b, g, c, e5, _⟩ := f5
          have s25 := (hy 5 _ 25 rfl rfl).trans e5
          have s25' := s25
          rw [Array.getD_eq_getD_getElem?] at s25'
          clear hd hy hb
          go_simp
          exact hK.out _ W (stp_of hmo d (Below.refl _ _)) (by show updV yy 6 _ 6 = .agg #[updV yy 6 _ 5, _]; rw [show ∀ x, updV yy 6 x 6 = x from fun x => if_pos rfl, show ∀ x, updV yy 6 x 5 = yy 5 from fun x => if_neg (by decide), e5])
        case fin =>
          intro yy lo hi W hM
          show wpList _ _ _ [_, _] _ _
          have e0 : yy 0 = .pointer (some ⟨p3, 1, none⟩) := hM.fact 0 (by simp) rfl (notR_all 0 rfl)
          have e1 : yy 1 = .slice (some ⟨gb, 0, none⟩) M M := hM.fact 1 (by simp) rfl (notR_all 1 rfl)
          have e2 : yy 2 = .int .i64 (k : Int) := hM.fact 2 (by simp) rfl (notR_all 2 rfl)
          have e3 : yy 3 = .pointer (some ⟨w.heap.size, 0, none⟩) := hM.fact 3 (by simp) rfl (notR_all 3 rfl)
          have e4 : yy 4 = .int .i64 (N : Int) := hM.fact 4 (by simp) rfl (notR_all 4 rfl)
          obtain ⟨b, g, c, e5, s1, s2, s3, s4⟩ := hM.fact 5 (by simp) rfl (notR_all 5 rfl)
          have e6 : yy 6 = .agg #[yy 5, .slice none 0 0] := hM.fact 6 (by simp) rfl (notR_all 6 rfl)
          have dd := hM.d
          rw [e5] at e6
          simp only [fills, Act.put, List.take, List.length, List.setIfInBounds_toArray, List.set_cons_zero, List.set_cons_succ, e0, e1, e2, e3, e4, e5, e6]
          clear hM hmo e0 e1 e2 e3 e4 e5 e6
          have HQ := hide (HR.out.1.on dd)
          have gr := HQ.out.gr
          have yk0 := gr.at (k * 2) (by omega)
          have yk1 := gr.at (k * 2 + 1) (by omega)
          unfold stW at yk0 yk1
          rw [if_pos (by omega), if_neg (by omega)] at yk0
          rw [if_neg (by omega)] at yk1
          have fk0 := gr.fz (k * 2)
          have fk1 := gr.fz (k * 2 + 1)
          have HS := hide (HR.out.1.put hkM ⟨s1, s2, s3, s4, dd⟩ (Nat.le_trans HD3.out.size HR.out.2.size)).1
          have HO := hide (HR.out.2.trans ((Only.ofBelow dd).trans ((only_set W gb (k * 2) (.pointer (some ⟨b, 0, none⟩))).trans (only_set _ gb (k * 2 + 1) (.slice none 0 0)))))
          clear gr dd s1 s2 s3 s4
          go_wp2_with fail
          go_roundw
          case rel => exact ⟨k + 1, by omega, by go_num, _, _, _, hide ⟨HS.out.nil, HO.out⟩⟩
          case measure => simp [intOf]; omega
      · have hkk : k = M := by omega
        rw [hkk] at HR
        have HB1 : Hid (wr.heap[w.heap.size]? = some (.cells #[.int .i64 (N : Int), .int .i64 (M : Int), .slice a1 n1 c1, .slice a2 n2 c2, .slice a3 lE c3] 25 (0, 0))) := hide ((HR.out.2.block _ (Array.getElem?_eq_some_iff.1 HB03.out).1 (fun e => by have := HGE.out.1; have := HD.out.2.2.2; omega)).trans HB03.out)
        have HB3 : Hid (wr.heap[p3]? = some (.cells #[.int .i64 (N : Int), .slice (some ⟨gb, 0, none⟩) M M] 85 (0, 0))) := hide ((HR.out.2.block _ (Array.getElem?_eq_some_iff.1 HZ3.out).1 (fun e => HNE.out e.symm)).trans HZ3.out)
        have HDr : Hid (Below W0.heap.size W0 wr) := hide (HD3.out.trans (HR.out.2.toBelow HD3.out.size (fun k hk => by have := HGE.out.1; omega)))
        have HQ : Hid (StP W0.heap.size wr gb M N bs gs cs (fun _ => 0) (leaF (Ed.take 0)) (fun _ => true) (fun _ => .slice none 0 0) (tosF N (Ed.take 0))) := hide (HR.out.1.full _)
        have y4 : wr.cell? ⟨w.heap.size, 4, none⟩ = some (.slice a3 lE c3) := cell_of HB1.out rfl
        clear HR
        go_wp2_with fail
        clear y4
        obtain ⟨wx, hwx⟩ : ∃ X, X = wr := ⟨_, rfl⟩
        rw [← hwx]
        rw [← hwx] at HB1 HB3 HDr HQ
        clear hwx
        go_loopw [32] (fun iv wr => ∃ i : Nat, i ≤ lE ∧ iv = .int .i64 (i : Int) ∧ ∃ (gs cs hs : Nat → Nat) (nl : Nat → Bool) (V : Nat → Value), Hid (StP W0.heap.size wr gb M N bs gs cs hs (leaF (Ed.take i)) nl V (tosF N (Ed.take i)) ∧ wr.heap[p3]? = some (.cells #[.int .i64 (N : Int), .slice (some ⟨gb, 0, none⟩) M M] 85 (0, 0)) ∧ Below W0.heap.size W0 wr)) (fun iv _ => lE - (intOf iv).toNat)
        case atStart => exact ⟨0, Nat.zero_le _, rfl, _, _, _, _, _, hide ⟨HQ.out, HB3.out, HDr.out⟩⟩
        case round =>
          obtain ⟨i, hi, rfl, gs, cs, hs, nl, V, HP⟩ := hrel
          have hE1 : lE ≤ 65536 := HNM.out.2.2.1
          by_cases hil : i < lE
          · have hr := (HNM.out.2.2.2.2.1.on (HD.out.1.trans (HP.out.2.2.mono HD.out.1.size))) i (by rw [HNM.out.2.2.2.1]; exact hil)
            obtain ⟨ga, oa, ea, hr0, hr1, hr2⟩ := hr
            have hm := HNM.out.2.2.2.2.2 _ (List.getElem_mem (show i < Ed.length by rw [HNM.out.2.2.2.1]; exact hil))
            obtain ⟨x, hx⟩ : ∃ x, Ed[i]'(by rw [HNM.out.2.2.2.1]; exact hil) = x := ⟨_, rfl⟩
            rw [hx] at hr0 hr1 hr2 hm
            obtain ⟨x1, x2, x3⟩ := x
            obtain ⟨⟨m1, m2⟩, ⟨m3, m4⟩, m5, m6⟩ := hm
            obtain ⟨f, rfl⟩ := Int.eq_ofNat_of_zero_le m1
            obtain ⟨sy, rfl⟩ := Int.eq_ofNat_of_zero_le m3
            obtain ⟨te, rfl⟩ := Int.eq_ofNat_of_zero_le m5
            replace m2 : (f : Int) < (N : Int) := m2
            replace m4 : (sy : Int) < (M : Int) := m4
            replace m6 : (te : Int) < (N : Int) := m6
            have HFS : Hid (f < N ∧ sy < M ∧ te < N) := hide ⟨by omega, by omega, by omega⟩
            have HTK : Hid (Ed.take (i + 1) = Ed.take i ++ [((f : Int), (sy : Int), (te : Int))]) := hide (by rw [← hx, List.take_add_one, List.getElem?_eq_getElem]; rfl)
            clear hx m1 m3 m5 m6
            subst ea
            obtain ⟨p6, hp6⟩ : ∃ p, wr.heap.size = p := ⟨_, rfl⟩
            obtain ⟨w6, hw6⟩ : ∃ W, wr.alloc (.cells #[.int .i64 (f : Int), .int .i64 (sy : Int), .int .i64 (te : Int)] 62) = W := ⟨_, rfl⟩
            have d6 : Below wr.heap.size wr w6 := by rw [← hw6]; exact (Below.refl _ _).alloc (Nat.le_refl _) _
            have H66 : Hid (w6.heap[p6]? = some (.cells #[.int .i64 (f : Int), .int .i64 (sy : Int), .int .i64 (te : Int)] 62 (0, 0))) := hide (by rw [← hw6, ← hp6]; exact World.alloc_heap_new _ _)
            have HP6 : Hid (StP W0.heap.size w6 gb M N bs gs cs hs (leaF (Ed.take i)) nl V (tosF N (Ed.take i))) := hide (HP.out.1.on d6)
            have H36 := hide (blk_on HP.out.2.1 d6)
            have HD6 := hide (HP.out.2.2.trans (d6.mono HP.out.2.2.size))
            have HS6 : Hid (W0.heap.size ≤ w6.heap.size ∧ W0.heap.size ≤ p6) := hide ⟨HD6.out.size, by rw [← hp6]; exact HP.out.2.2.size⟩
            clear d6 HP
            go_upto_region 10 with fail
            clear hr0 hr1 hr2
            clear hw6 hp6
            have y3 : w6.cell? ⟨p3, 1, none⟩ = some (.slice (some ⟨gb, 0, none⟩) M M) := cell_of H36.out rfl
            have y6 : w6.cell? ⟨p6, 1, none⟩ = some (.int .i64 (sy : Int)) := cell_of H66.out rfl
            go_upto_region 11 with fail
            clear y3 y6
            have yg := HP6.out.gr.at (sy * 2 + 1) (by have := HFS.out.2.1; omega)
            unfold stV at yg
            rw [if_neg (by omega), show (sy * 2 + 1) / 2 = sy from by omega] at yg
            cases hn : nl sy with
            | true =>
              rw [hn] at yg
              have yg' : w6.cell? ⟨gb, sy * 2 + 1, none⟩ = some (.slice none 0 0) := yg
              have fg' : w6.frozen? ⟨gb, sy * 2 + 1, none⟩ = false := HP6.out.gr.fz _
              have heq : ∀ W : World, (binOp .eql 31 (.slice none 0 0) (.slice none 0 0)).run Tryz.prog W = .ok (.bool true) W := fun W => by
                have := Lib.run_eql_slice_nil (P := Tryz.prog) W 31 22 none 0 0 0 0 Tryz.underlying31
                simpa using this
              have y0 : w6.cell? ⟨w.heap.size, 0, none⟩ = some (.int .i64 (N : Int)) := cell_of (blk_on HB0.out HD6.out) rfl
              obtain ⟨C22, hC22⟩ : ∃ C, madeCells (Value.slice none 0 0).cells (N * 1) = C := ⟨_, rfl⟩
              have HC22 := hide hC22
              clear hC22
              have hmk2 : ∀ W : World, (Instr.makeSlice 31 (.int .i64 (N : Int)) (.int .i64 (N : Int))).run Tryz.prog W = .ok (.slice (some ⟨W.heap.size, 0, none⟩) N N) (W.alloc (.cells C22 22)) := fun W => by
                obtain ⟨i22, hi22, hz220, hz221, hz222⟩ := info_parts info22'
                have hN1 := HNM.out.1
                have h := run_make (P := Tryz.prog) W 31 22 i22 (.slice none 0 0) Tryz.underlying31 hi22 hz220 .i64 .i64 (N : Int) (N : Int) (by omega) (by omega) (by rw [hz222]; omega) (by omega)
                rw [hz221, Int.toNat_natCast] at h
                rw [← HC22.out]
                exact h
              have hgl : gb < w6.heap.size := HP6.out.gr.lt
              have yg2 : (w6.alloc (.cells C22 22)).cell? ⟨gb, sy * 2 + 1, none⟩ = some (.slice none 0 0) := (((Below.refl w6.heap.size w6).alloc (Nat.le_refl _) (.cells C22 22)).cell (p := ⟨gb, sy * 2 + 1, none⟩) hgl).trans yg'
              have fg2 : (w6.alloc (.cells C22 22)).frozen? ⟨gb, sy * 2 + 1, none⟩ = false := (HP6.out.on ((Below.refl w6.heap.size w6).alloc (Nat.le_refl _) (.cells C22 22))).gr.fz _
              clear yg
              go_upto_region 13 with fail
              clear heq yg' fg' y0 hmk2 yg2 fg2
              obtain ⟨w5, hw5⟩ : ∃ W, w6.alloc (.cells C22 22) = W := ⟨_, rfl⟩
              have d5 : Below w6.heap.size w6 w5 := by rw [← hw5]; exact (Below.refl w6.heap.size w6).alloc (Nat.le_refl _) _
              have m5 : Mrw w5 w6.heap.size 22 N (fun _ => .slice none 0 0) N := mrw_make rfl (by rw [HC22.out, ← hw5]; exact World.alloc_heap_new _ _)
              obtain ⟨w7, hw7⟩ : ∃ W, (w6.setCell ⟨gb, sy * 2 + 1, none⟩ (.slice (some ⟨w6.heap.size, 0, none⟩) N N)).alloc (.cells C22 22) = W := ⟨_, rfl⟩
              rw [hw7]
              have h57 : w5.setCell ⟨gb, sy * 2 + 1, none⟩ (.slice (some ⟨w6.heap.size, 0, none⟩) N N) = w7 := by rw [← hw5, ← hw7]; exact World.setCell_alloc_past _ _ _ _ hgl
              have o57 := only_set w5 gb (sy * 2 + 1) (.slice (some ⟨w6.heap.size, 0, none⟩) N N)
              rw [h57] at o57
              have HPx := HP6.out.new HFS.out.2.1 hn d5 (Nat.le_refl _) m5 HS6.out.1
              rw [h57] at HPx
              have kk : ∀ {q t : Nat} {c : Array Value}, w5.heap[q]? = some (.cells c t (0, 0)) → t ≠ 128 → ¬ q = gb := fun z ne e => by
                obtain ⟨c1, e1⟩ := (HP6.out.on d5).kind
                rw [e, e1] at z; injection z with z; injection z with _ z _; exact ne z.symm
              have H67 := hide ((o57.block _ (Array.getElem?_eq_some_iff.1 (blk_on H66.out d5)).1 (kk (blk_on H66.out d5) (by decide))).trans (blk_on H66.out d5))
              have H37 := hide ((o57.block _ (Array.getElem?_eq_some_iff.1 (blk_on H36.out d5)).1 (kk (blk_on H36.out d5) (by decide))).trans (blk_on H36.out d5))
              have HD7 := hide (HD6.out.trans ((d5.mono HD6.out.size).trans (o57.toBelow (Nat.le_trans HD6.out.size d5.size) (fun k hk => by rw [hk]; exact HP6.out.ge))))
              obtain ⟨nl2, hnl2⟩ : ∃ x, updF nl sy false = x := ⟨_, rfl⟩
              have HN : Hid (nl2 sy = false) := hide (by rw [← hnl2, updF_same])
              rw [hnl2] at HPx
              obtain ⟨hs2, hhs2⟩ : ∃ x, updF hs sy w6.heap.size = x := ⟨_, rfl⟩
              rw [hhs2] at HPx
              have HP7 := hide HPx
              clear HPx hhs2 hnl2 o57 h57 hw7 m5 hw5 d5 kk hn H66 H36 HD6 HP6 hgl
              have HK : Hid (gb < w7.heap.size ∧ ¬ gb = gs sy ∧ w7.cell? ⟨gb, sy * 2, none⟩ = some (.pointer (some ⟨bs sy, 0, none⟩))) := hide (by
                have z := (HP7.out.st sy HFS.out.2.1).1
                obtain ⟨c, e1⟩ := HP7.out.kind
                obtain ⟨-, c2, f2, e2⟩ := set_types z
                refine ⟨HP7.out.gr.lt, fun e => by rw [e, e2] at e1; injection e1 with e1; injection e1 with _ e1 _; exact absurd e1 (by decide), ?_⟩
                have y := HP7.out.gr.at (sy * 2) (by have := HFS.out.2.1; omega)
                unfold stV at y
                rw [if_pos (by omega), show sy * 2 / 2 = sy from by omega] at y
                exact y)
              have nk : ∀ {q t : Nat} {c : Array Value}, w7.heap[q]? = some (.cells c t (0, 0)) → t ≠ 126 → ¬ q = gs sy := fun z ne e => by
                obtain ⟨-, c2, f2, e2⟩ := set_types (HP7.out.st sy HFS.out.2.1).1
                rw [e, e2] at z; injection z with z; injection z with _ z _; exact ne z.symm
              have HP6 := hide (And.intro H67.out (nk H67.out (by decide)))
              have HB37 := hide (And.intro H37.out (nk H37.out (by decide)))
              have HSE := hide (And.intro (HP7.out.st sy HFS.out.2.1).1 (HP7.out.st sy HFS.out.2.1).2.1)
              have HSE2 := hide (HP7.out.st sy HFS.out.2.1).2.2.2
              clear nk H67 H37
              have hmo : MonIL 0 [vI 0 (.pointer (some ⟨gb, sy * 2, none⟩)), vI 1 (.pointer (some ⟨gb, sy * 2, none⟩)), vI 2 (.pointer (some ⟨gb, sy * 2, none⟩)), vI 3 (.pointer (some ⟨bs sy, 0, none⟩)), vI 4 (.pointer (some ⟨p6, 0, none⟩)), vI 5 (.int .i64 (f : Int)), ⟨[], [], fun _ _ _ W => IsSet W (bs sy) (gs sy) (cs sy) N (leaF (Ed.take i) sy ||| 2 ^ f)⟩] := ⟨vI_mono _ _, vI_mono _ _, vI_mono _ _, vI_mono _ _, vI_mono _ _, vI_mono _ _, (fun _ _ _ _ _ _ _ d _ h => h.below d), trivial⟩
              refine wp_region_sj (JO w7 (fun k => k = gs sy)) 6 [vI 0 (.pointer (some ⟨gb, sy * 2, none⟩)), vI 1 (.pointer (some ⟨gb, sy * 2, none⟩)), vI 2 (.pointer (some ⟨gb, sy * 2, none⟩)), vI 3 (.pointer (some ⟨bs sy, 0, none⟩)), vI 4 (.pointer (some ⟨p6, 0, none⟩)), vI 5 (.int .i64 (f : Int)), ⟨[], [], fun _ _ _ W => IsSet W (bs sy) (gs sy) (cs sy) N (leaF (Ed.take i) sy ||| 2 ^ f)⟩] (by kernel_rfl) (JO_first ⟨rfl, rfl, rfl, Nat.le_refl _, fun _ _ => rfl⟩) (by kernel_rfl) (by kernel_rfl) (by kernel_rfl) (by kernel_rfl) hmo ⟨?o0, ?o1, ?o2, ?o3, ?o4, ?o5, ?o6, trivial⟩ ?fin
              case o0 =>
                intro At yy W bb hy hb hbb d hz hd K hK
                have s7 : At.tmps.getD 7 undef = .pointer (some ⟨gb, sy * 2, none⟩) := hb 7 rfl
                have s7' := s7
                rw [Array.getD_eq_getD_getElem?] at s7'
                clear hd hy hb
                go_simp
                exact hK.out _ W (stpj_of hmo d (Below.refl _ _)) (if_pos rfl)
              case o1 =>
                intro At yy W bb hy hb hbb d hz hd K hK
                have e0 : yy 0 = .pointer (some ⟨gb, sy * 2, none⟩) := by obtain ⟨_, _, _, _, e⟩ := hd ⟨0, .data⟩ (by simp) rfl rfl; exact e
                have s52 := (hy 0 _ 52 rfl rfl).trans e0
                have s52' := s52
                rw [Array.getD_eq_getD_getElem?] at s52'
                clear hd hy hb
                go_simp
                exact hK.out _ W (stpj_of hmo d (Below.refl _ _)) (if_pos rfl)
              case o2 =>
                intro At yy W bb hy hb hbb d hz hd K hK
                have e1 : yy 1 = .pointer (some ⟨gb, sy * 2, none⟩) := by obtain ⟨_, _, _, _, e⟩ := hd ⟨1, .data⟩ (by simp) rfl rfl; exact e
                have s53 := (hy 1 _ 53 rfl rfl).trans e1
                have s53' := s53
                rw [Array.getD_eq_getD_getElem?] at s53'
                clear hd hy hb
                go_simp
                exact hK.out _ W (stpj_of hmo d (Below.refl _ _)) (if_pos rfl)
              case o3 =>
                intro At yy W bb hy hb hbb d hz hd K hK
                have e2 : yy 2 = .pointer (some ⟨gb, sy * 2, none⟩) := by obtain ⟨_, _, _, _, e⟩ := hd ⟨2, .data⟩ (by simp) rfl rfl; exact e
                have s54 := (hy 2 _ 54 rfl rfl).trans e2
                have s54' := s54
                rw [Array.getD_eq_getD_getElem?] at s54'
                clear hd hy hb
                have y : W.cell? ⟨gb, sy * 2, none⟩ = some (.pointer (some ⟨bs sy, 0, none⟩)) := (cell_only d.2 HK.out.1 HK.out.2.1).trans HK.out.2.2
                go_simp
                exact hK.out _ W (stpj_of hmo d (Below.refl _ _)) (if_pos rfl)
              case o4 =>
                intro At yy W bb hy hb hbb d hz hd K hK
                have s6 : At.tmps.getD 6 undef = .pointer (some ⟨p6, 0, none⟩) := hb 6 rfl
                have s6' := s6
                rw [Array.getD_eq_getD_getElem?] at s6'
                clear hd hy hb
                go_simp
                exact hK.out _ W (stpj_of hmo d (Below.refl _ _)) (if_pos rfl)
              case o5 =>
                intro At yy W bb hy hb hbb d hz hd K hK
                have e4 : yy 4 = .pointer (some ⟨p6, 0, none⟩) := by obtain ⟨_, _, _, _, e⟩ := hd ⟨4, .data⟩ (by simp) rfl rfl; exact e
                have s56 := (hy 4 _ 56 rfl rfl).trans e4
                have s56' := s56
                rw [Array.getD_eq_getD_getElem?] at s56'
                clear hd hy hb
                have y6 : W.cell? ⟨p6, 0, none⟩ = some (.int .i64 (f : Int)) := cell_of (JO_blk d HP6.out.1 HP6.out.2) rfl
                go_simp
                exact hK.out _ W (stpj_of hmo d (Below.refl _ _)) (if_pos rfl)
              case o6 =>
                intro At yy W bb hy hb hbb d hz hd K hK
                have e3 : yy 3 = .pointer (some ⟨bs sy, 0, none⟩) := by obtain ⟨_, _, _, _, e⟩ := hd ⟨3, .data⟩ (by simp) rfl rfl; exact e
                have e5 : yy 5 = .int .i64 (f : Int) := by obtain ⟨_, _, _, _, e⟩ := hd ⟨5, .data⟩ (by simp) rfl rfl; exact e
                have s55 := (hy 3 _ 55 rfl rfl).trans e3
                have s55' := s55
                rw [Array.getD_eq_getD_getElem?] at s55'
                have s57 := (hy 5 _ 57 rfl rfl).trans e5
                have s57' := s57
                rw [Array.getD_eq_getD_getElem?] at s57'
                clear hd hb
                have hb0 := hbb rfl
                subst hb0
                go_simp
                go_wp2_with (go_at_call 93; refine (add_only (bs sy) (gs sy) (cs sy) N _ f W (HSE.out.1.below (d.1 rfl)) HSE.out.2 HFS.out.1).mono ?_; rintro e w8 ⟨rfl, hs8, o8⟩)
                exact hK.out _ w8 (stpj_keeps [] rfl (JO_put d o8) o8.size ⟨.inr (fun _ _ _ h => h), .inr (fun _ _ _ h => h), .inr (fun _ _ _ h => h), .inr (fun _ _ _ h => h), .inr (fun _ _ _ h => h), .inr (fun _ _ _ h => h), .inl (by simp), trivial⟩) hs8
              case fin =>
                intro yy lo hi W hM
                show wpList _ _ _ [] _ _
                have e0 : yy 0 = .pointer (some ⟨gb, sy * 2, none⟩) := hM.fact 0 (by simp) rfl (notR_all 0 rfl)
                have e1 : yy 1 = .pointer (some ⟨gb, sy * 2, none⟩) := hM.fact 1 (by simp) rfl (notR_all 1 rfl)
                have e2 : yy 2 = .pointer (some ⟨gb, sy * 2, none⟩) := hM.fact 2 (by simp) rfl (notR_all 2 rfl)
                have e3 : yy 3 = .pointer (some ⟨bs sy, 0, none⟩) := hM.fact 3 (by simp) rfl (notR_all 3 rfl)
                have e4 : yy 4 = .pointer (some ⟨p6, 0, none⟩) := hM.fact 4 (by simp) rfl (notR_all 4 rfl)
                have e5 : yy 5 = .int .i64 (f : Int) := hM.fact 5 (by simp) rfl (notR_all 5 rfl)
                have hs8 : IsSet W (bs sy) (gs sy) (cs sy) N (leaF (Ed.take i) sy ||| 2 ^ f) := hM.fact 6 (by simp) rfl (notR_all 6 rfl)
                have dd : JO w7 (fun k => k = gs sy) true W := hM.d
                simp only [fills, Act.put, List.take, List.length, List.setIfInBounds_toArray, List.set_cons_zero, List.set_cons_succ, e0, e1, e2, e3, e4, e5]
                clear hM hmo e0 e1 e2 e3 e4 e5
                have HP8 := hide (HP7.out.add HFS.out.2.1 dd.2 hs8)
                have H38 := hide (JO_blk dd HB37.out.1 HB37.out.2)
                have H68 := hide (JO_blk dd HP6.out.1 HP6.out.2)
                have HD8 := hide (HD7.out.trans (dd.2.toBelow HD7.out.size (fun k hk => by rw [hk]; exact HSE2.out)))
                clear dd hs8 HP7 HB37 HP6 HK HSE HSE2 HD7
                go_upto_region 14 with fail
                rename World => w8
                obtain ⟨X, hX⟩ : ∃ X, tosF N (Ed.take i) (sy * N + f) = X := ⟨_, rfl⟩
                have hi8 := idx_lt HFS.out.2.1 HFS.out.1
                have hO := HP8.out.fm (sy * N + f) hi8
                rw [hX] at hO
                have HXl : Hid (X.length ≤ 16777216) := hide (by rw [← hX]; have := tosF_len N (Ed.take i) (sy * N + f); have := List.length_take_le i Ed; omega)
                obtain ⟨t1, k1, hv⟩ := own_slice hO
                obtain ⟨nX, hnX⟩ : ∃ l, (natI X).length = l := ⟨_, rfl⟩
                rw [hnX] at hv
                obtain ⟨hm8, hge8⟩ := HP8.out.rw sy HFS.out.2.1 HN.out
                have HGWc : w8.cell? ⟨hs2 sy, f, none⟩ = some (.slice t1 nX k1) := by have := hm8.at f HFS.out.1; rw [hv] at this; exact this
                obtain ⟨ch, hch⟩ : ∃ cs, w8.heap[hs2 sy]? = some (.cells cs 22 (0, 0)) := by obtain ⟨c, e1, _⟩ := hm8; exact ⟨c, e1⟩
                have hO2 := hO
                rw [hv] at hO2
                have nb : ∀ {q t : Nat} {c : Array Value}, w8.heap[q]? = some (.cells c t (0, 0)) → t ≠ 3 → ¬ (Value.slice t1 nX k1).ownBlock = some q := fun z ne e => row_tag hO2 z ne e
                have HGW : Hid (∀ W bb, JO w8 (fun k => (Value.slice t1 nX k1).ownBlock = some k) bb W → W.cell? ⟨hs2 sy, f, none⟩ = some (.slice t1 nX k1)) := hide (fun W bb d => by
                  have e := JO_blk d hch (nb hch (by decide))
                  rw [World.cell?_of_block (e.trans hch.symm)]
                  exact HGWc)
                have HGF : Hid (∀ W bb, JO w8 (fun k => (Value.slice t1 nX k1).ownBlock = some k) bb W → W.frozen? ⟨hs2 sy, f, none⟩ = false) := hide (fun W bb d => fz_of (JO_blk d hch (nb hch (by decide))))
                have HEN : Hid (∀ W bb, JO w8 (fun k => (Value.slice t1 nX k1).ownBlock = some k) bb W → W.cell? ⟨gb, sy * 2 + 1, none⟩ = some (.slice (some ⟨hs2 sy, 0, none⟩) N N)) := hide (fun W bb d => by
                  obtain ⟨cg, hcg⟩ := HP8.out.kind
                  have e := JO_blk d hcg (nb hcg (by decide))
                  rw [World.cell?_of_block (e.trans hcg.symm)]
                  have y := HP8.out.gr.at (sy * 2 + 1) (by have := HFS.out.2.1; omega)
                  unfold stV at y
                  rw [if_neg (by omega), show (sy * 2 + 1) / 2 = sy from by omega, HN.out] at y
                  exact y)
                have HBX6 := hide (And.intro H68.out (nb H68.out (by decide)))
                have HLO := hide (fun k hk => (hO2.lt k hk).2 : ∀ k, (Value.slice t1 nX k1).ownBlock = some k → k < w8.heap.size)
                have HOX := hide hO2
                have HB8 : Hid (W0.heap.size ≤ w8.heap.size) := hide HD8.out.size
                have HPW : Hid (∀ W v, Only w8 W (fun k => (Value.slice t1 nX k1).ownBlock = some k) → OwI W W0.heap.size v (natI (X ++ [te])) → (∀ k, v.ownBlock = some k → (Value.slice t1 nX k1).ownBlock = some k ∨ w8.heap.size ≤ k) → StP W0.heap.size (W.setCell ⟨hs2 sy, f, none⟩ v) gb M N bs gs cs hs2 (leaF (Ed.take (i + 1))) nl2 (updF V (sy * N + f) v) (tosF N (Ed.take (i + 1))) ∧ (W.setCell ⟨hs2 sy, f, none⟩ v).heap[p3]? = some (.cells #[.int .i64 (N : Int), .slice (some ⟨gb, 0, none⟩) M M] 85 (0, 0)) ∧ Below W0.heap.size W0 (W.setCell ⟨hs2 sy, f, none⟩ v)) := hide (fun W v o ho hb => by
                  have q := HP8.out.app HFS.out.2.1 HFS.out.1 HN.out (v := v) (T := X ++ [te]) (by rw [hv]; exact o) ho (by rw [hv]; exact hb)
                  have o2 := only_set W (hs2 sy) f v
                  have hpc : W.heap[p3]? = _ := (o.block _ (Array.getElem?_eq_some_iff.1 H38.out).1 (nb H38.out (by decide))).trans H38.out
                  have hch2 : W.heap[hs2 sy]? = _ := (o.block _ (Array.getElem?_eq_some_iff.1 hch).1 (nb hch (by decide))).trans hch
                  refine ⟨?_, ?_, ?_⟩
                  · rw [HTK.out, leaF_snoc, tosF_snoc, hX]
                    exact q
                  · refine (o2.block _ (Array.getElem?_eq_some_iff.1 hpc).1 (fun e => ?_)).trans hpc
                    rw [e, hch2] at hpc
                    injection hpc with hpc
                    injection hpc with _ hpc
                    exact absurd hpc (by decide)
                  · exact (HD8.out.trans (o.toBelow HB8.out (fun k hk => (hO2.lt k hk).1))).trans (o2.toBelow (Nat.le_trans HB8.out o.size) (fun k hk => by rw [hk]; exact hge8)))
                clear hO hO2 hv hm8 hge8 HGWc hch nb hX hi8 hnX
                have hmo : MonIL 0 [vI 0 (.pointer (some ⟨gb, sy * 2, none⟩)), vI 1 (.pointer (some ⟨gb, sy * 2, none⟩)), vI 2 (.pointer (some ⟨gb, sy * 2 + 1, none⟩)), vI 3 (.slice (some ⟨hs2 sy, 0, none⟩) N N), vI 4 (.pointer (some ⟨p6, 0, none⟩)), vI 5 (.int .i64 (f : Int)), vI 6 (.pointer (some ⟨gb, sy * 2, none⟩)), vI 7 (.pointer (some ⟨gb, sy * 2, none⟩)), vI 8 (.pointer (some ⟨gb, sy * 2 + 1, none⟩)), vI 9 (.slice (some ⟨hs2 sy, 0, none⟩) N N), vI 10 (.pointer (some ⟨p6, 0, none⟩)), vI 11 (.int .i64 (f : Int)), vI 12 (.pointer (some ⟨hs2 sy, f, none⟩)), vI 13 (.slice t1 nX k1), vI 14 (.pointer (some ⟨p6, 2, none⟩)), vI 15 (.int .i64 (te : Int)), pI 16 (ox1P w8.heap.size (.int .i64 (te : Int))), pI 17 (apI W0.heap.size (X ++ [te]) (Value.slice t1 nX k1).ownBlock w8.heap.size)] := ⟨vI_mono _ _, vI_mono _ _, vI_mono _ _, vI_mono _ _, vI_mono _ _, vI_mono _ _, vI_mono _ _, vI_mono _ _, vI_mono _ _, vI_mono _ _, vI_mono _ _, vI_mono _ _, vI_mono _ _, vI_mono _ _, vI_mono _ _, vI_mono _ _, pI_mono ox1P_mono, pI_mono apI_mono, trivial⟩
                refine wp_region_sj (JO w8 (fun k => (Value.slice t1 nX k1).ownBlock = some k)) 17 [vI 0 (.pointer (some ⟨gb, sy * 2, none⟩)), vI 1 (.pointer (some ⟨gb, sy * 2, none⟩)), vI 2 (.pointer (some ⟨gb, sy * 2 + 1, none⟩)), vI 3 (.slice (some ⟨hs2 sy, 0, none⟩) N N), vI 4 (.pointer (some ⟨p6, 0, none⟩)), vI 5 (.int .i64 (f : Int)), vI 6 (.pointer (some ⟨gb, sy * 2, none⟩)), vI 7 (.pointer (some ⟨gb, sy * 2, none⟩)), vI 8 (.pointer (some ⟨gb, sy * 2 + 1, none⟩)), vI 9 (.slice (some ⟨hs2 sy, 0, none⟩) N N), vI 10 (.pointer (some ⟨p6, 0, none⟩)), vI 11 (.int .i64 (f : Int)), vI 12 (.pointer (some ⟨hs2 sy, f, none⟩)), vI 13 (.slice t1 nX k1), vI 14 (.pointer (some ⟨p6, 2, none⟩)), vI 15 (.int .i64 (te : Int)), pI 16 (ox1P w8.heap.size (.int .i64 (te : Int))), pI 17 (apI W0.heap.size (X ++ [te]) (Value.slice t1 nX k1).ownBlock w8.heap.size)] (by kernel_rfl) (JO_first ⟨rfl, rfl, rfl, Nat.le_refl _, fun _ _ => rfl⟩) (by kernel_rfl) (by kernel_rfl) (by kernel_rfl) (by kernel_rfl) hmo ⟨?o0, ?o1, ?o2, ?o3, ?o4, ?o5, ?o6, ?o7, ?o8, ?o9, ?o10, ?o11, ?o12, ?o13, ?o14, ?o15, ?o16, ?o17, trivial⟩ ?fin
                case o0 =>
                  intro At yy W bb hy hb hbb d hz hd K hK
                  have s7 : At.tmps.getD 7 undef = .pointer (some ⟨gb, sy * 2, none⟩) := hb 7 rfl
                  have s7' := s7
                  rw [Array.getD_eq_getD_getElem?] at s7'
                  clear hd hy hb
                  go_simp
                  exact hK.out _ W (stpj_of hmo d (Below.refl _ _)) (if_pos rfl)
                case o1 =>
                  intro At yy W bb hy hb hbb d hz hd K hK
                  have e0 : yy 0 = .pointer (some ⟨gb, sy * 2, none⟩) := by obtain ⟨_, _, _, _, e⟩ := hd ⟨0, .data⟩ (by simp) rfl rfl; exact e
                  have s59 := (hy 0 _ 59 rfl rfl).trans e0
                  have s59' := s59
                  rw [Array.getD_eq_getD_getElem?] at s59'
                  clear hd hy hb
                  go_simp
                  exact hK.out _ W (stpj_of hmo d (Below.refl _ _)) (if_pos rfl)
                case o2 =>
                  intro At yy W bb hy hb hbb d hz hd K hK
                  have e1 : yy 1 = .pointer (some ⟨gb, sy * 2, none⟩) := by obtain ⟨_, _, _, _, e⟩ := hd ⟨1, .data⟩ (by simp) rfl rfl; exact e
                  have s60 := (hy 1 _ 60 rfl rfl).trans e1
                  have s60' := s60
                  rw [Array.getD_eq_getD_getElem?] at s60'
                  clear hd hy hb
                  go_simp
                  exact hK.out _ W (stpj_of hmo d (Below.refl _ _)) (if_pos rfl)
                case o3 =>
                  intro At yy W bb hy hb hbb d hz hd K hK
                  have e2 : yy 2 = .pointer (some ⟨gb, sy * 2 + 1, none⟩) := by obtain ⟨_, _, _, _, e⟩ := hd ⟨2, .data⟩ (by simp) rfl rfl; exact e
                  have s61 := (hy 2 _ 61 rfl rfl).trans e2
                  have s61' := s61
                  rw [Array.getD_eq_getD_getElem?] at s61'
                  clear hd hy hb
                  have y : W.cell? ⟨gb, sy * 2 + 1, none⟩ = some (.slice (some ⟨hs2 sy, 0, none⟩) N N) := HEN.out W _ d
                  go_simp
                  exact hK.out _ W (stpj_of hmo d (Below.refl _ _)) (if_pos rfl)
                case o4 =>
                  intro At yy W bb hy hb hbb d hz hd K hK
                  have s6 : At.tmps.getD 6 undef = .pointer (some ⟨p6, 0, none⟩) := hb 6 rfl
                  have s6' := s6
                  rw [Array.getD_eq_getD_getElem?] at s6'
                  clear hd hy hb
                  go_simp
                  exact hK.out _ W (stpj_of hmo d (Below.refl _ _)) (if_pos rfl)
                case o5 =>
                  intro At yy W bb hy hb hbb d hz hd K hK
                  have e4 : yy 4 = .pointer (some ⟨p6, 0, none⟩) := by obtain ⟨_, _, _, _, e⟩ := hd ⟨4, .data⟩ (by simp) rfl rfl; exact e
                  have s63 := (hy 4 _ 63 rfl rfl).trans e4
                  have s63' := s63
                  rw [Array.getD_eq_getD_getElem?] at s63'
                  clear hd hy hb
                  have y0 : W.cell? ⟨p6, 0, none⟩ = some (.int .i64 (f : Int)) := cell_of (JO_blk d HBX6.out.1 HBX6.out.2) rfl
                  go_simp
                  exact hK.out _ W (stpj_of hmo d (Below.refl _ _)) (if_pos rfl)
                case o6 =>
                  intro At yy W bb hy hb hbb d hz hd K hK
                  have s7 : At.tmps.getD 7 undef = .pointer (some ⟨gb, sy * 2, none⟩) := hb 7 rfl
                  have s7' := s7
                  rw [Array.getD_eq_getD_getElem?] at s7'
                  clear hd hy hb
                  go_simp
                  exact hK.out _ W (stpj_of hmo d (Below.refl _ _)) (if_pos rfl)
                case o7 =>
                  intro At yy W bb hy hb hbb d hz hd K hK
                  have e6 : yy 6 = .pointer (some ⟨gb, sy * 2, none⟩) := by obtain ⟨_, _, _, _, e⟩ := hd ⟨6, .data⟩ (by simp) rfl rfl; exact e
                  have s65 := (hy 6 _ 65 rfl rfl).trans e6
                  have s65' := s65
                  rw [Array.getD_eq_getD_getElem?] at s65'
                  clear hd hy hb
                  go_simp
                  exact hK.out _ W (stpj_of hmo d (Below.refl _ _)) (if_pos rfl)
                case o8 =>
                  intro At yy W bb hy hb hbb d hz hd K hK
                  have e7 : yy 7 = .pointer (some ⟨gb, sy * 2, none⟩) := by obtain ⟨_, _, _, _, e⟩ := hd ⟨7, .data⟩ (by simp) rfl rfl; exact e
                  have s66 := (hy 7 _ 66 rfl rfl).trans e7
                  have s66' := s66
                  rw [Array.getD_eq_getD_getElem?] at s66'
                  clear hd hy hb
                  go_simp
                  exact hK.out _ W (stpj_of hmo d (Below.refl _ _)) (if_pos rfl)
                case o9 =>
                  intro At yy W bb hy hb hbb d hz hd K hK
                  have e8 : yy 8 = .pointer (some ⟨gb, sy * 2 + 1, none⟩) := by obtain ⟨_, _, _, _, e⟩ := hd ⟨8, .data⟩ (by simp) rfl rfl; exact e
                  have s67 := (hy 8 _ 67 rfl rfl).trans e8
                  have s67' := s67
                  rw [Array.getD_eq_getD_getElem?] at s67'
                  clear hd hy hb
                  have y : W.cell? ⟨gb, sy * 2 + 1, none⟩ = some (.slice (some ⟨hs2 sy, 0, none⟩) N N) := HEN.out W _ d
                  go_simp
                  exact hK.out _ W (stpj_of hmo d (Below.refl _ _)) (if_pos rfl)
                case o10 =>
                  intro At yy W bb hy hb hbb d hz hd K hK
                  have s6 : At.tmps.getD 6 undef = .pointer (some ⟨p6, 0, none⟩) := hb 6 rfl
                  have s6' := s6
                  rw [Array.getD_eq_getD_getElem?] at s6'
                  clear hd hy hb
                  go_simp
                  exact hK.out _ W (stpj_of hmo d (Below.refl _ _)) (if_pos rfl)
                case o11 =>
                  intro At yy W bb hy hb hbb d hz hd K hK
                  have e10 : yy 10 = .pointer (some ⟨p6, 0, none⟩) := by obtain ⟨_, _, _, _, e⟩ := hd ⟨10, .data⟩ (by simp) rfl rfl; exact e
                  have s69 := (hy 10 _ 69 rfl rfl).trans e10
                  have s69' := s69
                  rw [Array.getD_eq_getD_getElem?] at s69'
                  clear hd hy hb
                  have y0 : W.cell? ⟨p6, 0, none⟩ = some (.int .i64 (f : Int)) := cell_of (JO_blk d HBX6.out.1 HBX6.out.2) rfl
                  go_simp
                  exact hK.out _ W (stpj_of hmo d (Below.refl _ _)) (if_pos rfl)
                case o12 =>
                  intro At yy W bb hy hb hbb d hz hd K hK
                  have e9 : yy 9 = .slice (some ⟨hs2 sy, 0, none⟩) N N := by obtain ⟨_, _, _, _, e⟩ := hd ⟨9, .data⟩ (by simp) rfl rfl; exact e
                  have e11 : yy 11 = .int .i64 (f : Int) := by obtain ⟨_, _, _, _, e⟩ := hd ⟨11, .data⟩ (by simp) rfl rfl; exact e
                  have s68 := (hy 9 _ 68 rfl rfl).trans e9
                  have s68' := s68
                  rw [Array.getD_eq_getD_getElem?] at s68'
                  have s70 := (hy 11 _ 70 rfl rfl).trans e11
                  have s70' := s70
                  rw [Array.getD_eq_getD_getElem?] at s70'
                  clear hd hy hb
                  go_simp
                  exact hK.out _ W (stpj_of hmo d (Below.refl _ _)) (if_pos rfl)
                case o13 =>
                  intro At yy W bb hy hb hbb d hz hd K hK
                  have e12 : yy 12 = .pointer (some ⟨hs2 sy, f, none⟩) := by obtain ⟨_, _, _, _, e⟩ := hd ⟨12, .data⟩ (by simp) rfl rfl; exact e
                  have s71 := (hy 12 _ 71 rfl rfl).trans e12
                  have s71' := s71
                  rw [Array.getD_eq_getD_getElem?] at s71'
                  clear hd hy hb
                  have y : W.cell? ⟨hs2 sy, f, none⟩ = some (.slice t1 nX k1) := HGW.out W _ d
                  go_simp
                  exact hK.out _ W (stpj_of hmo d (Below.refl _ _)) (if_pos rfl)
                case o14 =>
                  intro At yy W bb hy hb hbb d hz hd K hK
                  have s6 : At.tmps.getD 6 undef = .pointer (some ⟨p6, 0, none⟩) := hb 6 rfl
                  have s6' := s6
                  rw [Array.getD_eq_getD_getElem?] at s6'
                  clear hd hy hb
                  go_simp
                  exact hK.out _ W (stpj_of hmo d (Below.refl _ _)) (if_pos rfl)
                case o15 =>
                  intro At yy W bb hy hb hbb d hz hd K hK
                  have e14 : yy 14 = .pointer (some ⟨p6, 2, none⟩) := by obtain ⟨_, _, _, _, e⟩ := hd ⟨14, .data⟩ (by simp) rfl rfl; exact e
                  have s73 := (hy 14 _ 73 rfl rfl).trans e14
                  have s73' := s73
                  rw [Array.getD_eq_getD_getElem?] at s73'
                  clear hd hy hb
                  have y2 : W.cell? ⟨p6, 2, none⟩ = some (.int .i64 (te : Int)) := cell_of (JO_blk d HBX6.out.1 HBX6.out.2) rfl
                  go_simp
                  exact hK.out _ W (stpj_of hmo d (Below.refl _ _)) (if_pos rfl)
                case o16 =>
                  intro At yy W bb hy hb hbb d hz hd K hK
                  have e15 : yy 15 = .int .i64 (te : Int) := by obtain ⟨_, _, _, _, e⟩ := hd ⟨15, .data⟩ (by simp) rfl rfl; exact e
                  have s74 := (hy 15 _ 74 rfl rfl).trans e15
                  have s74' := s74
                  rw [Array.getD_eq_getD_getElem?] at s74'
                  clear hd hy hb
                  go_simp
                  exact hK.out _ _ (stpj_of hmo (JO_on d ((Below.refl _ _).alloc (Nat.le_refl _) _)) ((Below.refl _ _).alloc (Nat.le_refl _) _)) ⟨if_pos rfl, hz, by simp, World.alloc_heap_new _ _⟩
                case o17 =>
                  intro At yy W bb hy hb hbb d hz hd K hK
                  have e13 : yy 13 = .slice t1 nX k1 := by obtain ⟨_, _, _, _, e⟩ := hd ⟨13, .data⟩ (by simp) rfl rfl; exact e
                  have f16 := hd ⟨16, .data⟩ (by simp) rfl rfl
                  obtain ⟨lo2, hi2, hl2, hh2, e16, b2, l2, z2⟩ := f16
                  have s72 := (hy 13 _ 72 rfl rfl).trans e13
                  have s72' := s72
                  rw [Array.getD_eq_getD_getElem?] at s72'
                  have s75 := (hy 16 _ 75 rfl rfl).trans e16
                  have s75' := s75
                  rw [Array.getD_eq_getD_getElem?] at s75'
                  clear hd hb
                  have hb0 := hbb rfl
                  subst hb0
                  refine step_appI rfl _ _ rfl W0.heap.size (.slice t1 nX k1) X s72 (own_below HOX.out (d.1 rfl)) lo2 te s75 z2 HXl.out (Nat.le_trans HB8.out hz) ?_
                  intro v4 w4 ho4 hg4 hv4
                  exact hK.out _ w4 (stpj_keeps [] rfl (JO_put d hg4.out) hg4.out.size ⟨.inr (fun _ _ _ h => h), .inr (fun _ _ _ h => h), .inr (fun _ _ _ h => h), .inr (fun _ _ _ h => h), .inr (fun _ _ _ h => h), .inr (fun _ _ _ h => h), .inr (fun _ _ _ h => h), .inr (fun _ _ _ h => h), .inr (fun _ _ _ h => h), .inr (fun _ _ _ h => h), .inr (fun _ _ _ h => h), .inr (fun _ _ _ h => h), .inr (fun _ _ _ h => h), .inr (fun _ _ _ h => h), .inr (fun _ _ _ h => h), .inr (fun _ _ _ h => h), .inr (fun _ _ hh h => ox1P_keep hh h hg4.out HLO.out), .inl (by simp), trivial⟩) ⟨v4, if_pos rfl, ho4, fun k hk => (hv4 k hk).imp id (Nat.le_trans hz)⟩
                case fin =>
                  intro yy lo hi W hM
                  show wpList _ _ _ [_, _] _ _
                  have e0 : yy 0 = .pointer (some ⟨gb, sy * 2, none⟩) := hM.fact 0 (by simp) rfl (notR_all 0 rfl)
                  have e1 : yy 1 = .pointer (some ⟨gb, sy * 2, none⟩) := hM.fact 1 (by simp) rfl (notR_all 1 rfl)
                  have e2 : yy 2 = .pointer (some ⟨gb, sy * 2 + 1, none⟩) := hM.fact 2 (by simp) rfl (notR_all 2 rfl)
                  have e3 : yy 3 = .slice (some ⟨hs2 sy, 0, none⟩) N N := hM.fact 3 (by simp) rfl (notR_all 3 rfl)
                  have e4 : yy 4 = .pointer (some ⟨p6, 0, none⟩) := hM.fact 4 (by simp) rfl (notR_all 4 rfl)
                  have e5 : yy 5 = .int .i64 (f : Int) := hM.fact 5 (by simp) rfl (notR_all 5 rfl)
                  have e6 : yy 6 = .pointer (some ⟨gb, sy * 2, none⟩) := hM.fact 6 (by simp) rfl (notR_all 6 rfl)
                  have e7 : yy 7 = .pointer (some ⟨gb, sy * 2, none⟩) := hM.fact 7 (by simp) rfl (notR_all 7 rfl)
                  have e8 : yy 8 = .pointer (some ⟨gb, sy * 2 + 1, none⟩) := hM.fact 8 (by simp) rfl (notR_all 8 rfl)
                  have e9 : yy 9 = .slice (some ⟨hs2 sy, 0, none⟩) N N := hM.fact 9 (by simp) rfl (notR_all 9 rfl)
                  have e10 : yy 10 = .pointer (some ⟨p6, 0, none⟩) := hM.fact 10 (by simp) rfl (notR_all 10 rfl)
                  have e11 : yy 11 = .int .i64 (f : Int) := hM.fact 11 (by simp) rfl (notR_all 11 rfl)
                  have e12 : yy 12 = .pointer (some ⟨hs2 sy, f, none⟩) := hM.fact 12 (by simp) rfl (notR_all 12 rfl)
                  have e13 : yy 13 = .slice t1 nX k1 := hM.fact 13 (by simp) rfl (notR_all 13 rfl)
                  have e14 : yy 14 = .pointer (some ⟨p6, 2, none⟩) := hM.fact 14 (by simp) rfl (notR_all 14 rfl)
                  have e15 : yy 15 = .int .i64 (te : Int) := hM.fact 15 (by simp) rfl (notR_all 15 rfl)
                  obtain ⟨v4, e17, O17, B17⟩ := hM.fact 17 (by simp) rfl (notR_all 17 rfl)
                  obtain ⟨e16, _, _, _⟩ := hM.fact 16 (by simp) rfl (notR_all 16 rfl)
                  have dd : JO w8 (fun k => (Value.slice t1 nX k1).ownBlock = some k) true W := hM.d
                  simp only [fills, Act.put, List.take, List.length, List.setIfInBounds_toArray, List.set_cons_zero, List.set_cons_succ, e0, e1, e2, e3, e4, e5, e6, e7, e8, e9, e10, e11, e12, e13, e14, e15, e16, e17]
                  generalize lo 16 = p8
                  obtain ⟨b4, k4, e4⟩ := own_slice O17
                  subst e4
                  clear hM hmo e0 e1 e2 e3 e4 e5 e6 e7 e8 e9 e10 e11 e12 e13 e14 e15 e16 e17
                  have HF := hide (HPW.out W (.slice b4 (natI (X ++ [te])).length k4) dd.2 O17 B17)
                  have y6 : W.cell? ⟨hs2 sy, f, none⟩ = some (.slice t1 nX k1) := HGW.out W _ dd
                  have g6 : W.frozen? ⟨hs2 sy, f, none⟩ = false := HGF.out W _ dd
                  clear O17 B17 dd
                  go_wp2_with fail
                  go_roundw
                  case rel => exact ⟨i + 1, by omega, by go_num, _, _, _, _, _, HF⟩
                  case measure => simp [intOf]; omega
            | false =>
              rw [hn] at yg
              have yg' : w6.cell? ⟨gb, sy * 2 + 1, none⟩ = some (.slice (some ⟨hs sy, 0, none⟩) N N) := yg
              have heq : ∀ W : World, (binOp .eql 31 (.slice (some ⟨hs sy, 0, none⟩) N N) (.slice none 0 0)).run Tryz.prog W = .ok (.bool false) W := fun W => by
                have := Lib.run_eql_slice_nil (P := Tryz.prog) W 31 22 (some ⟨hs sy, 0, none⟩) N N 0 0 Tryz.underlying31
                simpa using this
              clear yg
              go_upto_region 13 with fail
              clear heq yg'
              obtain ⟨w7, hw7⟩ : ∃ W, W = w6 := ⟨_, rfl⟩
              rw [← hw7]
              have HP7 := HP6
              have H67 := H66
              have H37 := H36
              have HD7 := HD6
              rw [← hw7] at HP7 H67 H37 HD7
              clear HP6 H66 H36 HD6 hw7
              have HN := hide hn
              clear hn
              have HK : Hid (gb < w7.heap.size ∧ ¬ gb = gs sy ∧ w7.cell? ⟨gb, sy * 2, none⟩ = some (.pointer (some ⟨bs sy, 0, none⟩))) := hide (by
                have z := (HP7.out.st sy HFS.out.2.1).1
                obtain ⟨c, e1⟩ := HP7.out.kind
                obtain ⟨-, c2, f2, e2⟩ := set_types z
                refine ⟨HP7.out.gr.lt, fun e => by rw [e, e2] at e1; injection e1 with e1; injection e1 with _ e1 _; exact absurd e1 (by decide), ?_⟩
                have y := HP7.out.gr.at (sy * 2) (by have := HFS.out.2.1; omega)
                unfold stV at y
                rw [if_pos (by omega), show sy * 2 / 2 = sy from by omega] at y
                exact y)
              have nk : ∀ {q t : Nat} {c : Array Value}, w7.heap[q]? = some (.cells c t (0, 0)) → t ≠ 126 → ¬ q = gs sy := fun z ne e => by
                obtain ⟨-, c2, f2, e2⟩ := set_types (HP7.out.st sy HFS.out.2.1).1
                rw [e, e2] at z; injection z with z; injection z with _ z _; exact ne z.symm
              have HP6 := hide (And.intro H67.out (nk H67.out (by decide)))
              have HB37 := hide (And.intro H37.out (nk H37.out (by decide)))
              have HSE := hide (And.intro (HP7.out.st sy HFS.out.2.1).1 (HP7.out.st sy HFS.out.2.1).2.1)
              have HSE2 := hide (HP7.out.st sy HFS.out.2.1).2.2.2
              clear nk H67 H37
              have hmo : MonIL 0 [vI 0 (.pointer (some ⟨gb, sy * 2, none⟩)), vI 1 (.pointer (some ⟨gb, sy * 2, none⟩)), vI 2 (.pointer (some ⟨gb, sy * 2, none⟩)), vI 3 (.pointer (some ⟨bs sy, 0, none⟩)), vI 4 (.pointer (some ⟨p6, 0, none⟩)), vI 5 (.int .i64 (f : Int)), ⟨[], [], fun _ _ _ W => IsSet W (bs sy) (gs sy) (cs sy) N (leaF (Ed.take i) sy ||| 2 ^ f)⟩] := ⟨vI_mono _ _, vI_mono _ _, vI_mono _ _, vI_mono _ _, vI_mono _ _, vI_mono _ _, (fun _ _ _ _ _ _ _ d _ h => h.below d), trivial⟩
              refine wp_region_sj (JO w7 (fun k => k = gs sy)) 6 [vI 0 (.pointer (some ⟨gb, sy * 2, none⟩)), vI 1 (.pointer (some ⟨gb, sy * 2, none⟩)), vI 2 (.pointer (some ⟨gb, sy * 2, none⟩)), vI 3 (.pointer (some ⟨bs sy, 0, none⟩)), vI 4 (.pointer (some ⟨p6, 0, none⟩)), vI 5 (.int .i64 (f : Int)), ⟨[], [], fun _ _ _ W => IsSet W (bs sy) (gs sy) (cs sy) N (leaF (Ed.take i) sy ||| 2 ^ f)⟩] (by kernel_rfl) (JO_first ⟨rfl, rfl, rfl, Nat.le_refl _, fun _ _ => rfl⟩) (by kernel_rfl) (by kernel_rfl) (by kernel_rfl) (by kernel_rfl) hmo ⟨?o0, ?o1, ?o2, ?o3, ?o4, ?o5, ?o6, trivial⟩ ?fin
              case o0 =>
                intro At yy W bb hy hb hbb d hz hd K hK
                have s7 : At.tmps.getD 7 undef = .pointer (some ⟨gb, sy * 2, none⟩) := hb 7 rfl
                have s7' := s7
                rw [Array.getD_eq_getD_getElem?] at s7'
                clear hd hy hb
                go_simp
                exact hK.out _ W (stpj_of hmo d (Below.refl _ _)) (if_pos rfl)
              case o1 =>
                intro At yy W bb hy hb hbb d hz hd K hK
                have e0 : yy 0 = .pointer (some ⟨gb, sy * 2, none⟩) := by obtain ⟨_, _, _, _, e⟩ := hd ⟨0, .data⟩ (by simp) rfl rfl; exact e
                have s52 := (hy 0 _ 52 rfl rfl).trans e0
                have s52' := s52
                rw [Array.getD_eq_getD_getElem?] at s52'
                clear hd hy hb
                go_simp
                exact hK.out _ W (stpj_of hmo d (Below.refl _ _)) (if_pos rfl)
              case o2 =>
                intro At yy W bb hy hb hbb d hz hd K hK
                have e1 : yy 1 = .pointer (some ⟨gb, sy * 2, none⟩) := by obtain ⟨_, _, _, _, e⟩ := hd ⟨1, .data⟩ (by simp) rfl rfl; exact e
                have s53 := (hy 1 _ 53 rfl rfl).trans e1
                have s53' := s53
                rw [Array.getD_eq_getD_getElem?] at s53'
                clear hd hy hb
                go_simp
                exact hK.out _ W (stpj_of hmo d (Below.refl _ _)) (if_pos rfl)
              case o3 =>
                intro At yy W bb hy hb hbb d hz hd K hK
                have e2 : yy 2 = .pointer (some ⟨gb, sy * 2, none⟩) := by obtain ⟨_, _, _, _, e⟩ := hd ⟨2, .data⟩ (by simp) rfl rfl; exact e
                have s54 := (hy 2 _ 54 rfl rfl).trans e2
                have s54' := s54
                rw [Array.getD_eq_getD_getElem?] at s54'
                clear hd hy hb
                have y : W.cell? ⟨gb, sy * 2, none⟩ = some (.pointer (some ⟨bs sy, 0, none⟩)) := (cell_only d.2 HK.out.1 HK.out.2.1).trans HK.out.2.2
                go_simp
                exact hK.out _ W (stpj_of hmo d (Below.refl _ _)) (if_pos rfl)
              case o4 =>
                intro At yy W bb hy hb hbb d hz hd K hK
                have s6 : At.tmps.getD 6 undef = .pointer (some ⟨p6, 0, none⟩) := hb 6 rfl
                have s6' := s6
                rw [Array.getD_eq_getD_getElem?] at s6'
                clear hd hy hb
                go_simp
                exact hK.out _ W (stpj_of hmo d (Below.refl _ _)) (if_pos rfl)
              case o5 =>
                intro At yy W bb hy hb hbb d hz hd K hK
                have e4 : yy 4 = .pointer (some ⟨p6, 0, none⟩) := by obtain ⟨_, _, _, _, e⟩ := hd ⟨4, .data⟩ (by simp) rfl rfl; exact e
                have s56 := (hy 4 _ 56 rfl rfl).trans e4
                have s56' := s56
                rw [Array.getD_eq_getD_getElem?] at s56'
                clear hd hy hb
                have y6 : W.cell? ⟨p6, 0, none⟩ = some (.int .i64 (f : Int)) := cell_of (JO_blk d HP6.out.1 HP6.out.2) rfl
                go_simp
                exact hK.out _ W (stpj_of hmo d (Below.refl _ _)) (if_pos rfl)
              case o6 =>
                intro At yy W bb hy hb hbb d hz hd K hK
                have e3 : yy 3 = .pointer (some ⟨bs sy, 0, none⟩) := by obtain ⟨_, _, _, _, e⟩ := hd ⟨3, .data⟩ (by simp) rfl rfl; exact e
                have e5 : yy 5 = .int .i64 (f : Int) := by obtain ⟨_, _, _, _, e⟩ := hd ⟨5, .data⟩ (by simp) rfl rfl; exact e
                have s55 := (hy 3 _ 55 rfl rfl).trans e3
                have s55' := s55
                rw [Array.getD_eq_getD_getElem?] at s55'
                have s57 := (hy 5 _ 57 rfl rfl).trans e5
                have s57' := s57
                rw [Array.getD_eq_getD_getElem?] at s57'
                clear hd hb
                have hb0 := hbb rfl
                subst hb0
                go_simp
                go_wp2_with (go_at_call 93; refine (add_only (bs sy) (gs sy) (cs sy) N _ f W (HSE.out.1.below (d.1 rfl)) HSE.out.2 HFS.out.1).mono ?_; rintro e w8 ⟨rfl, hs8, o8⟩)
                exact hK.out _ w8 (stpj_keeps [] rfl (JO_put d o8) o8.size ⟨.inr (fun _ _ _ h => h), .inr (fun _ _ _ h => h), .inr (fun _ _ _ h => h), .inr (fun _ _ _ h => h), .inr (fun _ _ _ h => h), .inr (fun _ _ _ h => h), .inl (by simp), trivial⟩) hs8
              case fin =>
                intro yy lo hi W hM
                show wpList _ _ _ [] _ _
                have e0 : yy 0 = .pointer (some ⟨gb, sy * 2, none⟩) := hM.fact 0 (by simp) rfl (notR_all 0 rfl)
                have e1 : yy 1 = .pointer (some ⟨gb, sy * 2, none⟩) := hM.fact 1 (by simp) rfl (notR_all 1 rfl)
                have e2 : yy 2 = .pointer (some ⟨gb, sy * 2, none⟩) := hM.fact 2 (by simp) rfl (notR_all 2 rfl)
                have e3 : yy 3 = .pointer (some ⟨bs sy, 0, none⟩) := hM.fact 3 (by simp) rfl (notR_all 3 rfl)
                have e4 : yy 4 = .pointer (some ⟨p6, 0, none⟩) := hM.fact 4 (by simp) rfl (notR_all 4 rfl)
                have e5 : yy 5 = .int .i64 (f : Int) := hM.fact 5 (by simp) rfl (notR_all 5 rfl)
                have hs8 : IsSet W (bs sy) (gs sy) (cs sy) N (leaF (Ed.take i) sy ||| 2 ^ f) := hM.fact 6 (by simp) rfl (notR_all 6 rfl)
                have dd : JO w7 (fun k => k = gs sy) true W := hM.d
                simp only [fills, Act.put, List.take, List.length, List.setIfInBounds_toArray, List.set_cons_zero, List.set_cons_succ, e0, e1, e2, e3, e4, e5]
                clear hM hmo e0 e1 e2 e3 e4 e5
                have HP8 := hide (HP7.out.add HFS.out.2.1 dd.2 hs8)
                have H38 := hide (JO_blk dd HB37.out.1 HB37.out.2)
                have H68 := hide (JO_blk dd HP6.out.1 HP6.out.2)
                have HD8 := hide (HD7.out.trans (dd.2.toBelow HD7.out.size (fun k hk => by rw [hk]; exact HSE2.out)))
                clear dd hs8 HP7 HB37 HP6 HK HSE HSE2 HD7
                go_upto_region 14 with fail
                rename World => w8
                obtain ⟨X, hX⟩ : ∃ X, tosF N (Ed.take i) (sy * N + f) = X := ⟨_, rfl⟩
                have hi8 := idx_lt HFS.out.2.1 HFS.out.1
                have hO := HP8.out.fm (sy * N + f) hi8
                rw [hX] at hO
                have HXl : Hid (X.length ≤ 16777216) := hide (by rw [← hX]; have := tosF_len N (Ed.take i) (sy * N + f); have := List.length_take_le i Ed; omega)
                obtain ⟨t1, k1, hv⟩ := own_slice hO
                obtain ⟨nX, hnX⟩ : ∃ l, (natI X).length = l := ⟨_, rfl⟩
                rw [hnX] at hv
                obtain ⟨hm8, hge8⟩ := HP8.out.rw sy HFS.out.2.1 HN.out
                have HGWc : w8.cell? ⟨hs sy, f, none⟩ = some (.slice t1 nX k1) := by have := hm8.at f HFS.out.1; rw [hv] at this; exact this
                obtain ⟨ch, hch⟩ : ∃ cs, w8.heap[hs sy]? = some (.cells cs 22 (0, 0)) := by obtain ⟨c, e1, _⟩ := hm8; exact ⟨c, e1⟩
                have hO2 := hO
                rw [hv] at hO2
                have nb : ∀ {q t : Nat} {c : Array Value}, w8.heap[q]? = some (.cells c t (0, 0)) → t ≠ 3 → ¬ (Value.slice t1 nX k1).ownBlock = some q := fun z ne e => row_tag hO2 z ne e
                have HGW : Hid (∀ W bb, JO w8 (fun k => (Value.slice t1 nX k1).ownBlock = some k) bb W → W.cell? ⟨hs sy, f, none⟩ = some (.slice t1 nX k1)) := hide (fun W bb d => by
                  have e := JO_blk d hch (nb hch (by decide))
                  rw [World.cell?_of_block (e.trans hch.symm)]
                  exact HGWc)
                have HGF : Hid (∀ W bb, JO w8 (fun k => (Value.slice t1 nX k1).ownBlock = some k) bb W → W.frozen? ⟨hs sy, f, none⟩ = false) := hide (fun W bb d => fz_of (JO_blk d hch (nb hch (by decide))))
                have HEN : Hid (∀ W bb, JO w8 (fun k => (Value.slice t1 nX k1).ownBlock = some k) bb W → W.cell? ⟨gb, sy * 2 + 1, none⟩ = some (.slice (some ⟨hs sy, 0, none⟩) N N)) := hide (fun W bb d => by
                  obtain ⟨cg, hcg⟩ := HP8.out.kind
                  have e := JO_blk d hcg (nb hcg (by decide))
                  rw [World.cell?_of_block (e.trans hcg.symm)]
                  have y := HP8.out.gr.at (sy * 2 + 1) (by have := HFS.out.2.1; omega)
                  unfold stV at y
                  rw [if_neg (by omega), show (sy * 2 + 1) / 2 = sy from by omega, HN.out] at y
                  exact y)
                have HBX6 := hide (And.intro H68.out (nb H68.out (by decide)))
                have HLO := hide (fun k hk => (hO2.lt k hk).2 : ∀ k, (Value.slice t1 nX k1).ownBlock = some k → k < w8.heap.size)
                have HOX := hide hO2
                have HB8 : Hid (W0.heap.size ≤ w8.heap.size) := hide HD8.out.size
                have HPW : Hid (∀ W v, Only w8 W (fun k => (Value.slice t1 nX k1).ownBlock = some k) → OwI W W0.heap.size v (natI (X ++ [te])) → (∀ k, v.ownBlock = some k → (Value.slice t1 nX k1).ownBlock = some k ∨ w8.heap.size ≤ k) → StP W0.heap.size (W.setCell ⟨hs sy, f, none⟩ v) gb M N bs gs cs hs (leaF (Ed.take (i + 1))) nl (updF V (sy * N + f) v) (tosF N (Ed.take (i + 1))) ∧ (W.setCell ⟨hs sy, f, none⟩ v).heap[p3]? = some (.cells #[.int .i64 (N : Int), .slice (some ⟨gb, 0, none⟩) M M] 85 (0, 0)) ∧ Below W0.heap.size W0 (W.setCell ⟨hs sy, f, none⟩ v)) := hide (fun W v o ho hb => by
                  have q := HP8.out.app HFS.out.2.1 HFS.out.1 HN.out (v := v) (T := X ++ [te]) (by rw [hv]; exact o) ho (by rw [hv]; exact hb)
                  have o2 := only_set W (hs sy) f v
                  have hpc : W.heap[p3]? = _ := (o.block _ (Array.getElem?_eq_some_iff.1 H38.out).1 (nb H38.out (by decide))).trans H38.out
                  have hch2 : W.heap[hs sy]? = _ := (o.block _ (Array.getElem?_eq_some_iff.1 hch).1 (nb hch (by decide))).trans hch
                  refine ⟨?_, ?_, ?_⟩
                  · rw [HTK.out, leaF_snoc, tosF_snoc, hX]
                    exact q
                  · refine (o2.block _ (Array.getElem?_eq_some_iff.1 hpc).1 (fun e => ?_)).trans hpc
                    rw [e, hch2] at hpc
                    injection hpc with hpc
                    injection hpc with _ hpc
                    exact absurd hpc (by decide)
                  · exact (HD8.out.trans (o.toBelow HB8.out (fun k hk => (hO2.lt k hk).1))).trans (o2.toBelow (Nat.le_trans HB8.out o.size) (fun k hk => by rw [hk]; exact hge8)))
                clear hO hO2 hv hm8 hge8 HGWc hch nb hX hi8 hnX
                have hmo : MonIL 0 [vI 0 (.pointer (some ⟨gb, sy * 2, none⟩)), vI 1 (.pointer (some ⟨gb, sy * 2, none⟩)), vI 2 (.pointer (some ⟨gb, sy * 2 + 1, none⟩)), vI 3 (.slice (some ⟨hs sy, 0, none⟩) N N), vI 4 (.pointer (some ⟨p6, 0, none⟩)), vI 5 (.int .i64 (f : Int)), vI 6 (.pointer (some ⟨gb, sy * 2, none⟩)), vI 7 (.pointer (some ⟨gb, sy * 2, none⟩)), vI 8 (.pointer (some ⟨gb, sy * 2 + 1, none⟩)), vI 9 (.slice (some ⟨hs sy, 0, none⟩) N N), vI 10 (.pointer (some ⟨p6, 0, none⟩)), vI 11 (.int .i64 (f : Int)), vI 12 (.pointer (some ⟨hs sy, f, none⟩)), vI 13 (.slice t1 nX k1), vI 14 (.pointer (some ⟨p6, 2, none⟩)), vI 15 (.int .i64 (te : Int)), pI 16 (ox1P w8.heap.size (.int .i64 (te : Int))), pI 17 (apI W0.heap.size (X ++ [te]) (Value.slice t1 nX k1).ownBlock w8.heap.size)] := ⟨vI_mono _ _, vI_mono _ _, vI_mono _ _, vI_mono _ _, vI_mono _ _, vI_mono _ _, vI_mono _ _, vI_mono _ _, vI_mono _ _, vI_mono _ _, vI_mono _ _, vI_mono _ _, vI_mono _ _, vI_mono _ _, vI_mono _ _, vI_mono _ _, pI_mono ox1P_mono, pI_mono apI_mono, trivial⟩
                refine wp_region_sj (JO w8 (fun k => (Value.slice t1 nX k1).ownBlock = some k)) 17 [vI 0 (.pointer (some ⟨gb, sy * 2, none⟩)), vI 1 (.pointer (some ⟨gb, sy * 2, none⟩)), vI 2 (.pointer (some ⟨gb, sy * 2 + 1, none⟩)), vI 3 (.slice (some ⟨hs sy, 0, none⟩) N N), vI 4 (.pointer (some ⟨p6, 0, none⟩)), vI 5 (.int .i64 (f : Int)), vI 6 (.pointer (some ⟨gb, sy * 2, none⟩)), vI 7 (.pointer (some ⟨gb, sy * 2, none⟩)), vI 8 (.pointer (some ⟨gb, sy * 2 + 1, none⟩)), vI 9 (.slice (some ⟨hs sy, 0, none⟩) N N), vI 10 (.pointer (some ⟨p6, 0, none⟩)), vI 11 (.int .i64 (f : Int)), vI 12 (.pointer (some ⟨hs sy, f, none⟩)), vI 13 (.slice t1 nX k1), vI 14 (.pointer (some ⟨p6, 2, none⟩)), vI 15 (.int .i64 (te : Int)), pI 16 (ox1P w8.heap.size (.int .i64 (te : Int))), pI 17 (apI W0.heap.size (X ++ [te]) (Value.slice t1 nX k1).ownBlock w8.heap.size)] (by kernel_rfl) (JO_first ⟨rfl, rfl, rfl, Nat.le_refl _, fun _ _ => rfl⟩) (by kernel_rfl) (by kernel_rfl) (by kernel_rfl) (by kernel_rfl) hmo ⟨?o0, ?o1, ?o2, ?o3, ?o4, ?o5, ?o6, ?o7, ?o8, ?o9, ?o10, ?o11, ?o12, ?o13, ?o14, ?o15, ?o16, ?o17, trivial⟩ ?fin
                case o0 =>
                  intro At yy W bb hy hb hbb d hz hd K hK
                  have s7 : At.tmps.getD 7 undef = .pointer (some ⟨gb, sy * 2, none⟩) := hb 7 rfl
                  have s7' := s7
                  rw [Array.getD_eq_getD_getElem?] at s7'
                  clear hd hy hb
                  go_simp
                  exact hK.out _ W (stpj_of hmo d (Below.refl _ _)) (if_pos rfl)
                case o1 =>
                  intro At yy W bb hy hb hbb d hz hd K hK
                  have e0 : yy 0 = .pointer (some ⟨gb, sy * 2, none⟩) := by obtain ⟨_, _, _, _, e⟩ := hd ⟨0, .data⟩ (by simp) rfl rfl; exact e
                  have s59 := (hy 0 _ 59 rfl rfl).trans e0
                  have s59' := s59
                  rw [Array.getD_eq_getD_getElem?] at s59'
                  clear hd hy hb
                  go_simp
                  exact hK.out _ W (stpj_of hmo d (Below.refl _ _)) (if_pos rfl)
                case o2 =>
                  intro At yy W bb hy hb hbb d hz hd K hK
                  have e1 : yy 1 = .pointer (some ⟨gb, sy * 2, none⟩) := by obtain ⟨_, _, _, _, e⟩ := hd ⟨1, .data⟩ (by simp) rfl rfl; exact e
                  have s60 := (hy 1 _ 60 rfl rfl).trans e1
                  have s60' := s60
                  rw [Array.getD_eq_getD_getElem?] at s60'
                  clear hd hy hb
                  go_simp
                  exact hK.out _ W (stpj_of hmo d (Below.refl _ _)) (if_pos rfl)
                case o3 =>
                  intro At yy W bb hy hb hbb d hz hd K hK
                  have e2 : yy 2 = .pointer (some ⟨gb, sy * 2 + 1, none⟩) := by obtain ⟨_, _, _, _, e⟩ := hd ⟨2, .data⟩ (by simp) rfl rfl; exact e
                  have s61 := (hy 2 _ 61 rfl rfl).trans e2
                  have s61' := s61
                  rw [Array.getD_eq_getD_getElem?] at s61'
                  clear hd hy hb
                  have y : W.cell? ⟨gb, sy * 2 + 1, none⟩ = some (.slice (some ⟨hs sy, 0, none⟩) N N) := HEN.out W _ d
                  go_simp
                  exact hK.out _ W (stpj_of hmo d (Below.refl _ _)) (if_pos rfl)
                case o4 =>
                  intro At yy W bb hy hb hbb d hz hd K hK
                  have s6 : At.tmps.getD 6 undef = .pointer (some ⟨p6, 0, none⟩) := hb 6 rfl
                  have s6' := s6
                  rw [Array.getD_eq_getD_getElem?] at s6'
                  clear hd hy hb
                  go_simp
                  exact hK.out _ W (stpj_of hmo d (Below.refl _ _)) (if_pos rfl)
                case o5 =>
                  intro At yy W bb hy hb hbb d hz hd K hK
                  have e4 : yy 4 = .pointer (some ⟨p6, 0, none⟩) := by obtain ⟨_, _, _, _, e⟩ := hd ⟨4, .data⟩ (by simp) rfl rfl; exact e
                  have s63 := (hy 4 _ 63 rfl rfl).trans e4
                  have s63' := s63
                  rw [Array.getD_eq_getD_getElem?] at s63'
                  clear hd hy hb
                  have y0 : W.cell? ⟨p6, 0, none⟩ = some (.int .i64 (f : Int)) := cell_of (JO_blk d HBX6.out.1 HBX6.out.2) rfl
                  go_simp
                  exact hK.out _ W (stpj_of hmo d (Below.refl _ _)) (if_pos rfl)
                case o6 =>
                  intro At yy W bb hy hb hbb d hz hd K hK
                  have s7 : At.tmps.getD 7 undef = .pointer (some ⟨gb, sy * 2, none⟩) := hb 7 rfl
                  have s7' := s7
                  rw [Array.getD_eq_getD_getElem?] at s7'
                  clear hd hy hb
                  go_simp
                  exact hK.out _ W (stpj_of hmo d (Below.refl _ _)) (if_pos rfl)
                case o7 =>
                  intro At yy W bb hy hb hbb d hz hd K hK
                  have e6 : yy 6 = .pointer (some ⟨gb, sy * 2, none⟩) := by obtain ⟨_, _, _, _, e⟩ := hd ⟨6, .data⟩ (by simp) rfl rfl; exact e
                  have s65 := (hy 6 _ 65 rfl rfl).trans e6
                  have s65' := s65
                  rw [Array.getD_eq_getD_getElem?] at s65'
                  clear hd hy hb
                  go_simp
                  exact hK.out _ W (stpj_of hmo d (Below.refl _ _)) (if_pos rfl)
                case o8 =>
                  intro At yy W bb hy hb hbb d hz hd K hK
                  have e7 : yy 7 = .pointer (some ⟨gb, sy * 2, none⟩) := by obtain ⟨_, _, _, _, e⟩ := hd ⟨7, .data⟩ (by simp) rfl rfl; exact e
                  have s66 := (hy 7 _ 66 rfl rfl).trans e7
                  have s66' := s66
                  rw [Array.getD_eq_getD_getElem?] at s66'
                  clear hd hy hb
                  go_simp
                  exact hK.out _ W (stpj_of hmo d (Below.refl _ _)) (if_pos rfl)
                case o9 =>
                  intro At yy W bb hy hb hbb d hz hd K hK
                  have e8 : yy 8 = .pointer (some ⟨gb, sy * 2 + 1, none⟩) := by obtain ⟨_, _, _, _, e⟩ := hd ⟨8, .data⟩ (by simp) rfl rfl; exact e
                  have s67 := (hy 8 _ 67 rfl rfl).trans e8
                  have s67' := s67
                  rw [Array.getD_eq_getD_getElem?] at s67'
                  clear hd hy hb
                  have y : W.cell? ⟨gb, sy * 2 + 1, none⟩ = some (.slice (some ⟨hs sy, 0, none⟩) N N) := HEN.out W _ d
                  go_simp
                  exact hK.out _ W (stpj_of hmo d (Below.refl _ _)) (if_pos rfl)
                case o10 =>
                  intro At yy W bb hy hb hbb d hz hd K hK
                  have s6 : At.tmps.getD 6 undef = .pointer (some ⟨p6, 0, none⟩) := hb 6 rfl
                  have s6' := s6
                  rw [Array.getD_eq_getD_getElem?] at s6'
                  clear hd hy hb
                  go_simp
                  exact hK.out _ W (stpj_of hmo d (Below.refl _ _)) (if_pos rfl)
                case o11 =>
                  intro At yy W bb hy hb hbb d hz hd K hK
                  have e10 : yy 10 = .pointer (some ⟨p6, 0, none⟩) := by obtain ⟨_, _, _, _, e⟩ := hd ⟨10, .data⟩ (by simp) rfl rfl; exact e
                  have s69 := (hy 10 _ 69 rfl rfl).trans e10
                  have s69' := s69
                  rw [Array.getD_eq_getD_getElem?] at s69'
                  clear hd hy hb
                  have y0 : W.cell? ⟨p6, 0, none⟩ = some (.int .i64 (f : Int)) := cell_of (JO_blk d HBX6.out.1 HBX6.out.2) rfl
                  go_simp
                  exact hK.out _ W (stpj_of hmo d (Below.refl _ _)) (if_pos rfl)
                case o12 =>
                  intro At yy W bb hy hb hbb d hz hd K hK
                  have e9 : yy 9 = .slice (some ⟨hs sy, 0, none⟩) N N := by obtain ⟨_, _, _, _, e⟩ := hd ⟨9, .data⟩ (by simp) rfl rfl; exact e
                  have e11 : yy 11 = .int .i64 (f : Int) := by obtain ⟨_, _, _, _, e⟩ := hd ⟨11, .data⟩ (by simp) rfl rfl; exact e
                  have s68 := (hy 9 _ 68 rfl rfl).trans e9
                  have s68' := s68
                  rw [Array.getD_eq_getD_getElem?] at s68'
                  have s70 := (hy 11 _ 70 rfl rfl).trans e11
                  have s70' := s70
                  rw [Array.getD_eq_getD_getElem?] at s70'
                  clear hd hy hb
                  go_simp
                  exact hK.out _ W (stpj_of hmo d (Below.refl _ _)) (if_pos rfl)
                case o13 =>
                  intro At yy W bb hy hb hbb d hz hd K hK
                  have e12 : yy 12 = .pointer (some ⟨hs sy, f, none⟩) := by obtain ⟨_, _, _, _, e⟩ := hd ⟨12, .data⟩ (by simp) rfl rfl; exact e
                  have s71 := (hy 12 _ 71 rfl rfl).trans e12
                  have s71' := s71
                  rw [Array.getD_eq_getD_getElem?] at s71'
                  clear hd hy hb
                  have y : W.cell? ⟨hs sy, f, none⟩ = some (.slice t1 nX k1) := HGW.out W _ d
                  go_simp
                  exact hK.out _ W (stpj_of hmo d (Below.refl _ _)) (if_pos rfl)
                case o14 =>
                  intro At yy W bb hy hb hbb d hz hd K hK
                  have s6 : At.tmps.getD 6 undef = .pointer (some ⟨p6, 0, none⟩) := hb 6 rfl
                  have s6' := s6
                  rw [Array.getD_eq_getD_getElem?] at s6'
                  clear hd hy hb
                  go_simp
                  exact hK.out _ W (stpj_of hmo d (Below.refl _ _)) (if_pos rfl)
                case o15 =>
                  intro At yy W bb hy hb hbb d hz hd K hK
                  have e14 : yy 14 = .pointer (some ⟨p6, 2, none⟩) := by obtain ⟨_, _, _, _, e⟩ := hd ⟨14, .data⟩ (by simp) rfl rfl; exact e
                  have s73 := (hy 14 _ 73 rfl rfl).trans e14
                  have s73' := s73
                  rw [Array.getD_eq_getD_getElem?] at s73'
                  clear hd hy hb
                  have y2 : W.cell? ⟨p6, 2, none⟩ = some (.int .i64 (te : Int)) := cell_of (JO_blk d HBX6.out.1 HBX6.out.2) rfl
                  go_simp
                  exact hK.out _ W (stpj_of hmo d (Below.refl _ _)) (if_pos rfl)
                case o16 =>
                  intro At yy W bb hy hb hbb d hz hd K hK
                  have e15 : yy 15 = .int .i64 (te : Int) := by obtain ⟨_, _, _, _, e⟩ := hd ⟨15, .data⟩ (by simp) rfl rfl; exact e
                  have s74 := (hy 15 _ 74 rfl rfl).trans e15
                  have s74' := s74
                  rw [Array.getD_eq_getD_getElem?] at s74'
                  clear hd hy hb
                  go_simp
                  exact hK.out _ _ (stpj_of hmo (JO_on d ((Below.refl _ _).alloc (Nat.le_refl _) _)) ((Below.refl _ _).alloc (Nat.le_refl _) _)) ⟨if_pos rfl, hz, by simp, World.alloc_heap_new _ _⟩
                case o17 =>
                  intro At yy W bb hy hb hbb d hz hd K hK
                  have e13 : yy 13 = .slice t1 nX k1 := by obtain ⟨_, _, _, _, e⟩ := hd ⟨13, .data⟩ (by simp) rfl rfl; exact e
                  have f16 := hd ⟨16, .data⟩ (by simp) rfl rfl
                  obtain ⟨lo2, hi2, hl2, hh2, e16, b2, l2, z2⟩ := f16
                  have s72 := (hy 13 _ 72 rfl rfl).trans e13
                  have s72' := s72
                  rw [Array.getD_eq_getD_getElem?] at s72'
                  have s75 := (hy 16 _ 75 rfl rfl).trans e16
                  have s75' := s75
                  rw [Array.getD_eq_getD_getElem?] at s75'
                  clear hd hb
                  have hb0 := hbb rfl
                  subst hb0
                  refine step_appI rfl _ _ rfl W0.heap.size (.slice t1 nX k1) X s72 (own_below HOX.out (d.1 rfl)) lo2 te s75 z2 HXl.out (Nat.le_trans HB8.out hz) ?_
                  intro v4 w4 ho4 hg4 hv4
                  exact hK.out _ w4 (stpj_keeps [] rfl (JO_put d hg4.out) hg4.out.size ⟨.inr (fun _ _ _ h => h), .inr (fun _ _ _ h => h), .inr (fun _ _ _ h => h), .inr (fun _ _ _ h => h), .inr (fun _ _ _ h => h), .inr (fun _ _ _ h => h), .inr (fun _ _ _ h => h), .inr (fun _ _ _ h => h), .inr (fun _ _ _ h => h), .inr (fun _ _ _ h => h), .inr (fun _ _ _ h => h), .inr (fun _ _ _ h => h), .inr (fun _ _ _ h => h), .inr (fun _ _ _ h => h), .inr (fun _ _ _ h => h), .inr (fun _ _ _ h => h), .inr (fun _ _ hh h => ox1P_keep hh h hg4.out HLO.out), .inl (by simp), trivial⟩) ⟨v4, if_pos rfl, ho4, fun k hk => (hv4 k hk).imp id (Nat.le_trans hz)⟩
                case fin =>
                  intro yy lo hi W hM
                  show wpList _ _ _ [_, _] _ _
                  have e0 : yy 0 = .pointer (some ⟨gb, sy * 2, none⟩) := hM.fact 0 (by simp) rfl (notR_all 0 rfl)
                  have e1 : yy 1 = .pointer (some ⟨gb, sy * 2, none⟩) := hM.fact 1 (by simp) rfl (notR_all 1 rfl)
                  have e2 : yy 2 = .pointer (some ⟨gb, sy * 2 + 1, none⟩) := hM.fact 2 (by simp) rfl (notR_all 2 rfl)
                  have e3 : yy 3 = .slice (some ⟨hs sy, 0, none⟩) N N := hM.fact 3 (by simp) rfl (notR_all 3 rfl)
                  have e4 : yy 4 = .pointer (some ⟨p6, 0, none⟩) := hM.fact 4 (by simp) rfl (notR_all 4 rfl)
                  have e5 : yy 5 = .int .i64 (f : Int) := hM.fact 5 (by simp) rfl (notR_all 5 rfl)
                  have e6 : yy 6 = .pointer (some ⟨gb, sy * 2, none⟩) := hM.fact 6 (by simp) rfl (notR_all 6 rfl)
                  have e7 : yy 7 = .pointer (some ⟨gb, sy * 2, none⟩) := hM.fact 7 (by simp) rfl (notR_all 7 rfl)
                  have e8 : yy 8 = .pointer (some ⟨gb, sy * 2 + 1, none⟩) := hM.fact 8 (by simp) rfl (notR_all 8 rfl)
                  have e9 : yy 9 = .slice (some ⟨hs sy, 0, none⟩) N N := hM.fact 9 (by simp) rfl (notR_all 9 rfl)
                  have e10 : yy 10 = .pointer (some ⟨p6, 0, none⟩) := hM.fact 10 (by simp) rfl (notR_all 10 rfl)
                  have e11 : yy 11 = .int .i64 (f : Int) := hM.fact 11 (by simp) rfl (notR_all 11 rfl)
                  have e12 : yy 12 = .pointer (some ⟨hs sy, f, none⟩) := hM.fact 12 (by simp) rfl (notR_all 12 rfl)
                  have e13 : yy 13 = .slice t1 nX k1 := hM.fact 13 (by simp) rfl (notR_all 13 rfl)
                  have e14 : yy 14 = .pointer (some ⟨p6, 2, none⟩) := hM.fact 14 (by simp) rfl (notR_all 14 rfl)
                  have e15 : yy 15 = .int .i64 (te : Int) := hM.fact 15 (by simp) rfl (notR_all 15 rfl)
                  obtain ⟨v4, e17, O17, B17⟩ := hM.fact 17 (by simp) rfl (notR_all 17 rfl)
                  obtain ⟨e16, _, _, _⟩ := hM.fact 16 (by simp) rfl (notR_all 16 rfl)
                  have dd : JO w8 (fun k => (Value.slice t1 nX k1).ownBlock = some k) true W := hM.d
                  simp only [fills, Act.put, List.take, List.length, List.setIfInBounds_toArray, List.set_cons_zero, List.set_cons_succ, e0, e1, e2, e3, e4, e5, e6, e7, e8, e9, e10, e11, e12, e13, e14, e15, e16, e17]
                  generalize lo 16 = p8
                  obtain ⟨b4, k4, e4⟩ := own_slice O17
                  subst e4
                  clear hM hmo e0 e1 e2 e3 e4 e5 e6 e7 e8 e9 e10 e11 e12 e13 e14 e15 e16 e17
                  have HF := hide (HPW.out W (.slice b4 (natI (X ++ [te])).length k4) dd.2 O17 B17)
                  have y6 : W.cell? ⟨hs sy, f, none⟩ = some (.slice t1 nX k1) := HGW.out W _ dd
                  have g6 : W.frozen? ⟨hs sy, f, none⟩ = false := HGF.out W _ dd
                  clear O17 B17 dd
                  go_wp2_with fail
                  go_roundw
                  case rel => exact ⟨i + 1, by omega, by go_num, _, _, _, _, _, HF⟩
                  case measure => simp [intOf]; omega
          · have hii : i = lE := by omega
            have htk : Ed.take i = Ed := by rw [hii, ← HNM.out.2.2.2.1, List.take_length]
            rw [htk] at HP
            have y0 : wr.cell? ⟨p3, 0, none⟩ = some (.int .i64 (N : Int)) := cell_of HP.out.2.1 rfl
            have y1 : wr.cell? ⟨p3, 1, none⟩ = some (.slice (some ⟨gb, 0, none⟩) M M) := cell_of HP.out.2.1 rfl
            have F3 := blk_on HD.out.2.2.1 HP.out.2.2
            have o0 : wr.cell? ⟨w.heap.size + 1, 0, none⟩ = some (.int .i64 0) := cell_of F3 rfl
            have o1 : wr.cell? ⟨w.heap.size + 1, 1, none⟩ = some (.slice none 0 0) := cell_of F3 rfl
            have f0 : wr.frozen? ⟨w.heap.size + 1, 0, none⟩ = false := fz_of F3
            have f1 : wr.frozen? ⟨w.heap.size + 1, 1, none⟩ = false := fz_of F3
            have O6 := hide (And.intro (set2 wr (w.heap.size + 1) _ _ (.int .i64 (N : Int)) (.slice (some ⟨gb, 0, none⟩) M M) 85 F3) ((only_set wr (w.heap.size + 1) 0 (.int .i64 (N : Int))).trans (only_set _ (w.heap.size + 1) 1 (.slice (some ⟨gb, 0, none⟩) M M))))
            have hsz := HD.out.2.2.2
            have kk : ∀ {q t : Nat} {c : Array Value}, wr.heap[q]? = some (.cells c t (0, 0)) → t ≠ 85 → ¬ q = w.heap.size + 1 := fun z ne e => by
              rw [e, F3] at z; injection z with z; injection z with _ z _; exact ne z.symm
            have HF := hide (HP.out.1.other O6.out.2 (fun q hq => ⟨#[.int .i64 0, .slice none 0 0], (0, 0), (congrArg (fun x => wr.heap[x]?) hq).trans F3⟩))
            have HB9 := hide ((HD.out.1.trans (HP.out.2.2.mono HD.out.1.size)).trans (O6.out.2.toBelow (by have := HP.out.2.2.size; omega) (fun k hk => by omega)))
            clear F3 HP kk
            go_wp2_with fail
            refine bodyPost_ret (results_cell_row (p := 2) (ty := 85) rfl _ _ (w.heap.size + 1) 85 _ (0, 0) _ rfl O6.out.1 Tryz.underlying85 rfl (by kernel_rfl)) rfl ?_
            exact ⟨gb, rfl, bs, gs, cs, hs, nl, V, HF.out.low (by omega), HB9.out⟩
end Go.Proofs.YtgnpdhgphkocoaaGreatDoor
