import Derived.Test.YtchoopnjckcohaaGreatQac
import Derived.Deep.RegionLaw
namespace Go.Proofs.YtchoopnjckcohaaGreat
open Go.RowKit Go.Maps Go.Shelf
attribute [local go_sem] Oper.semAt_some
/-! ### moved: an automaton whose states are moved by a number -/
def movE (L : List EdT) (b : Int) : List EdT := L.map fun e => (e.1 + b, e.2.1, e.2.2 + b)
theorem movE_len (L : List EdT) (b : Int) : (movE L b).length = L.length := by simp [movE]
theorem movE_snoc (L : List EdT) (b : Int) (i : Nat) (h : i < L.length) : movE (L.take (i + 1)) b = movE (L.take i) b ++ [(L[i].1 + b, L[i].2.1, L[i].2.2 + b)] := by
  unfold movE
  rw [List.take_succ_eq_append_getElem h, List.map_append]
  rfl
/-- What moved has made: a box, and rows of its own. -/
structure MvA (w W : World) (p : Nat) (n m : Int) (v1 v2 v3 : Value) (S F : List Int) (E : List EdT) : Prop where
  bx : W.heap[p]? = some (.cells #[.int .i64 n, .int .i64 m, v1, v2, v3] 25 (0, 0))
  ge : w.heap.size ≤ p
  ow : OwnO w.heap.size W v1 v2 v3 S F E
  be : Below w.heap.size w W
theorem mvA_of {w W : World} {p : Nat} {n m : Int} {v1 v2 : Value} {S F : List Int} (z : W.heap[p]? = some (.cells #[.int .i64 0, .int .i64 0, .slice none 0 0, .slice none 0 0, .slice none 0 0] 25 (0, 0))) (d : Below w.heap.size w W) (hp : w.heap.size ≤ p) (o : OwnO w.heap.size W v1 v2 (.slice none 0 0) S F []) :
    MvA w (((((W.setCell ⟨p, 0, none⟩ (.int .i64 n)).setCell ⟨p, 1, none⟩ (.int .i64 m)).setCell ⟨p, 2, none⟩ v1).setCell ⟨p, 3, none⟩ v2).setCell ⟨p, 4, none⟩ (.slice none 0 0)) p n m v1 v2 (.slice none 0 0) S F [] := by
  have o5 := only5 W p (.int .i64 n) (.int .i64 m) v1 v2 (.slice none 0 0)
  exact ⟨set5 W p _ _ _ _ _ (.int .i64 n) (.int .i64 m) v1 v2 (.slice none 0 0) 25 z, hp, o.keep z o5, d.trans (o5.toBelow d.size (fun k hk => by rw [hk]; exact hp))⟩
theorem mvA_next {w wr w5 : World} {p : Nat} {n m : Int} {v1 v2 v3 v5 : Value} {S F : List Int} {X Y : List EdT} {cs1 cs2 : Array Value} (h : MvA w wr p n m v1 v2 v3 S F X) (o : w5.ownsRow w.heap.size 50 3 v5 Y.length (Y.flatMap encE)) (oo : Only ((wr.alloc (.cells cs1 50)).alloc (.cells cs2 50)) w5 (fun k => v3.ownBlock = some k)) :
    w5.heap[p]? = some (.cells #[.int .i64 n, .int .i64 m, v1, v2, v3] 25 (0, 0)) ∧ MvA w (w5.setCell ⟨p, 4, none⟩ v5) p n m v1 v2 v5 S F Y := by
  have d1 : Below wr.heap.size wr ((wr.alloc (.cells cs1 50)).alloc (.cells cs2 50)) := ((Below.refl _ _).alloc (Nat.le_refl _) _).alloc (by simp) _
  have s2 := own_below h.ow.s d1
  have f2 := own_below h.ow.f d1
  have e2 := own_below h.ow.e d1
  have b2 := blk_on h.bx d1
  have b5 := (oo.block p (Array.getElem?_eq_some_iff.1 b2).1 (fun hk => row_tag e2 b2 (by decide) hk)).trans b2
  have s5 := row_only s2 oo (fun k hk hk2 => rows_differ e2 s2 (by decide) hk2 hk)
  have f5 := row_only f2 oo (fun k hk hk2 => rows_differ e2 f2 (by decide) hk2 hk)
  have o2 := only_set w5 p 4 v5
  have dd := h.be.trans (d1.mono h.be.size)
  have d5 := dd.trans (oo.toBelow dd.size (fun k hk => (e2.lt k hk).1))
  exact ⟨b5, heap_setCell_same _ _ 4 _ 25 _ b5, h.ge, ⟨own_keep s5 b5 (by decide) o2, own_keep f5 b5 (by decide) o2, own_keep o b5 (by decide) o2, h.ow.ne⟩, d5.trans (o2.toBelow d5.size (fun k hk => by rw [hk]; exact h.ge))⟩
set_option maxRecDepth 100000 in
set_option maxHeartbeats 4000000 in
theorem moved_any (w : World) (N n1 n2 n3 : Nat) (m b : Int) (a1 a2 a3 : Option Addr) (c1 c2 c3 : Nat) (St Fi : List Int) (Ed : List EdT) (e1 : St.length = n1) (e2 : Fi.length = n2) (e3 : Ed.length = n3) (hA : Hid (RdA w a1 a2 a3 St Fi Ed)) (h1 : n1 ≤ 2000000) (h2 : n2 ≤ 2000000) (h3 : n3 ≤ 2000000) (hN : N ≤ 4096) (hb : 0 ≤ b ∧ b ≤ 4096) (hS : Hid (∀ x ∈ St, 0 ≤ x ∧ x ≤ 4096)) (hF : Hid (∀ x ∈ Fi, 0 ≤ x ∧ x ≤ 4096)) (hE : Hid (∀ e ∈ Ed, (0 ≤ e.1 ∧ e.1 ≤ 4096) ∧ 0 ≤ e.2.2 ∧ e.2.2 ≤ 4096)) :
    Calls Tryz.prog 33 #[.agg #[.int .i64 (N : Int), .int .i64 m, .slice a1 n1 c1, .slice a2 n2 c2, .slice a3 n3 c3], .int .i64 b] w fun e w' => ∃ b1 k1 b2 k2 b3 k3, e = .returned (.agg #[.int .i64 ((N : Int) + b), .int .i64 m, .slice b1 n1 k1, .slice b2 n2 k2, .slice b3 n3 k3]) ∧ Hid (OwnO w.heap.size w' (.slice b1 n1 k1) (.slice b2 n2 k2) (.slice b3 n3 k3) (movN St b) (movN Fi b) (movE Ed b) ∧ Below w.heap.size w w') := by
  obtain ⟨W0, hW0⟩ : ∃ W0, (w.alloc (.cells #[.int .i64 (N : Int), .int .i64 m, .slice a1 n1 c1, .slice a2 n2 c2, .slice a3 n3 c3] 25)).alloc (.cells #[.int .i64 0, .int .i64 0, .slice none 0 0, .slice none 0 0, .slice none 0 0] 25) = W0 := ⟨_, rfl⟩
  have HD := hide (box2 w #[.int .i64 (N : Int), .int .i64 m, .slice a1 n1 c1, .slice a2 n2 c2, .slice a3 n3 c3] #[.int .i64 0, .int .i64 0, .slice none 0 0, .slice none 0 0, .slice none 0 0] 25)
  rw [hW0] at HD
  have SK : Hid (∀ W, Below W0.heap.size W0 W → W.cell? ⟨w.heap.size, 0, none⟩ = some (.int .i64 (N : Int)) ∧ W.cell? ⟨w.heap.size, 1, none⟩ = some (.int .i64 m) ∧ W.cell? ⟨w.heap.size, 2, none⟩ = some (.slice a1 n1 c1) ∧ W.cell? ⟨w.heap.size, 3, none⟩ = some (.slice a2 n2 c2) ∧ W.cell? ⟨w.heap.size, 4, none⟩ = some (.slice a3 n3 c3)) := hide (fun W d => by
    have e := blk_on HD.out.2.1 d
    exact ⟨cell_of e rfl, cell_of e rfl, cell_of e rfl, cell_of e rfl, cell_of e rfl⟩)
  have T1 : Hid (∀ W, Below W0.heap.size W0 W → Calls Tryz.prog 57 #[.slice a1 n1 c1, .int .i64 b] W fun e w' => ∃ g, e = .returned (.slice (some ⟨g, 0, none⟩) n1 n1) ∧ Hid (w'.ownsRow W.heap.size 3 1 (.slice (some ⟨g, 0, none⟩) n1 n1) n1 ((movN St b).map (Value.int .i64)) ∧ Below W.heap.size W w')) := hide (fun W d => movedS_any W a1 n1 c1 St b e1 (hide (hA.out.s.on (HD.out.1.trans (d.mono HD.out.1.size)))) (by omega) (by omega) (hide (fun x hx => by have := hS.out x hx; omega)))
  have T2 : Hid (∀ W, Below W0.heap.size W0 W → Calls Tryz.prog 57 #[.slice a2 n2 c2, .int .i64 b] W fun e w' => ∃ g, e = .returned (.slice (some ⟨g, 0, none⟩) n2 n2) ∧ Hid (w'.ownsRow W.heap.size 3 1 (.slice (some ⟨g, 0, none⟩) n2 n2) n2 ((movN Fi b).map (Value.int .i64)) ∧ Below W.heap.size W w')) := hide (fun W d => movedS_any W a2 n2 c2 Fi b e2 (hide (hA.out.f.on (HD.out.1.trans (d.mono HD.out.1.size)))) (by omega) (by omega) (hide (fun x hx => by have := hF.out x hx; omega)))
  have HL := hide (And.intro e1 (And.intro e2 e3))
  have ew : IntKind.i64.wrap ((N : Int) + b) = (N : Int) + b := by rw [IntKind.wrap_i64]; omega
  clear e1 e2 e3
  go_enter Tryz.func33, Tryz.ntmps33
  go_upto_region 1 with fail
  go_cut [5] from 5 to 22 (fun v5 W => ∃ p5 b1 k1 b2 k2, v5 = .pointer (some ⟨p5, 0, none⟩) ∧ Hid (MvA W0 W p5 ((N : Int) + b) m (.slice b1 n1 k1) (.slice b2 n2 k2) (.slice none 0 0) (movN St b) (movN Fi b) []))
  case first =>
    have hmo : MonIL 0 [vI 0 (.pointer (some ⟨w.heap.size, 0, none⟩)), vI 1 (.int .i64 (N : Int)), vI 2 (.int .i64 b), vI 3 (.int .i64 ((N : Int) + b)), vI 4 (.pointer (some ⟨w.heap.size, 1, none⟩)), vI 5 (.int .i64 m), vI 6 (.pointer (some ⟨w.heap.size, 2, none⟩)), vI 7 (.slice a1 n1 c1), vI 8 (.int .i64 b), pI 9 (ownNI (movN St b)), vI 10 (.pointer (some ⟨w.heap.size, 3, none⟩)), vI 11 (.slice a2 n2 c2), vI 12 (.int .i64 b), pI 13 (ownNI (movN Fi b)), ⟨[9, 13], [], fun y _ _ _ => y 14 = .agg #[.int .i64 ((N : Int) + b), .int .i64 m, y 9, y 13, .slice none 0 0]⟩, pI 15 (boxP)] := ⟨vI_mono _ _, vI_mono _ _, vI_mono _ _, vI_mono _ _, vI_mono _ _, vI_mono _ _, vI_mono _ _, vI_mono _ _, vI_mono _ _, pI_mono ownNI_mono, vI_mono _ _, vI_mono _ _, vI_mono _ _, pI_mono ownNI_mono, (fun _ _ _ _ _ _ _ _ hy h => by dsimp only at hy h ⊢; rw [hy 14 (Or.inl rfl), hy 9 (Or.inr (by simp)), hy 13 (Or.inr (by simp))]; exact h), pI_mono boxP_mono, trivial⟩
    refine wp_region_sl [vI 0 (.pointer (some ⟨w.heap.size, 0, none⟩)), vI 1 (.int .i64 (N : Int)), vI 2 (.int .i64 b), vI 3 (.int .i64 ((N : Int) + b)), vI 4 (.pointer (some ⟨w.heap.size, 1, none⟩)), vI 5 (.int .i64 m), vI 6 (.pointer (some ⟨w.heap.size, 2, none⟩)), vI 7 (.slice a1 n1 c1), vI 8 (.int .i64 b), pI 9 (ownNI (movN St b)), vI 10 (.pointer (some ⟨w.heap.size, 3, none⟩)), vI 11 (.slice a2 n2 c2), vI 12 (.int .i64 b), pI 13 (ownNI (movN Fi b)), ⟨[9, 13], [], fun y _ _ _ => y 14 = .agg #[.int .i64 ((N : Int) + b), .int .i64 m, y 9, y 13, .slice none 0 0]⟩, pI 15 (boxP)] (by kernel_rfl) (by kernel_rfl) (by kernel_rfl) (by kernel_rfl) hmo ⟨?o0, ?o1, ?o2, ?o3, ?o4, ?o5, ?o6, ?o7, ?o8, ?o9, ?o10, ?o11, ?o12, ?o13, ?o14, ?o15, trivial⟩ ?fin
    case o0 =>
      intro At yy W hy hb d hd K hK
      have s2 : At.tmps.getD 2 undef = .pointer (some ⟨w.heap.size, 0, none⟩) := hb 2 rfl
      have s2' := s2
      rw [Array.getD_eq_getD_getElem?] at s2'
      clear hd hy hb
      go_simp
      exact hK.out _ W (stp_of hmo d (Below.refl _ _)) (if_pos rfl)
    case o1 =>
      intro At yy W hy hb d hd K hK
      have e0 : yy 0 = .pointer (some ⟨w.heap.size, 0, none⟩) := by obtain ⟨_, _, _, _, e⟩ := hd ⟨0, .data⟩ (by simp) rfl rfl; exact e
      have s8 := (hy 0 _ 8 rfl rfl).trans e0
      have s8' := s8
      rw [Array.getD_eq_getD_getElem?] at s8'
      clear hd hy hb
      obtain ⟨y0, y1, y2, y3, y4⟩ := SK.out W d
      go_simp
      exact hK.out _ W (stp_of hmo d (Below.refl _ _)) (if_pos rfl)
    case o2 =>
      intro At yy W hy hb d hd K hK
      have s1 : At.tmps.getD 1 undef = .int .i64 b := hb 1 rfl
      have s1' := s1
      rw [Array.getD_eq_getD_getElem?] at s1'
      clear hd hy hb
      go_simp
      exact hK.out _ W (stp_of hmo d (Below.refl _ _)) (if_pos rfl)
    case o3 =>
      intro At yy W hy hb d hd K hK
      have e1 : yy 1 = .int .i64 (N : Int) := by obtain ⟨_, _, _, _, e⟩ := hd ⟨1, .data⟩ (by simp) rfl rfl; exact e
      have e2 : yy 2 = .int .i64 b := by obtain ⟨_, _, _, _, e⟩ := hd ⟨2, .data⟩ (by simp) rfl rfl; exact e
      have s9 := (hy 1 _ 9 rfl rfl).trans e1
      have s9' := s9
      rw [Array.getD_eq_getD_getElem?] at s9'
      have s10 := (hy 2 _ 10 rfl rfl).trans e2
      have s10' := s10
      rw [Array.getD_eq_getD_getElem?] at s10'
      clear hd hy hb
      go_simp
      exact hK.out _ W (stp_of hmo d (Below.refl _ _)) (if_pos rfl)
    case o4 =>
      intro At yy W hy hb d hd K hK
      have s2 : At.tmps.getD 2 undef = .pointer (some ⟨w.heap.size, 0, none⟩) := hb 2 rfl
      have s2' := s2
      rw [Array.getD_eq_getD_getElem?] at s2'
      clear hd hy hb
      go_simp
      exact hK.out _ W (stp_of hmo d (Below.refl _ _)) (if_pos rfl)
    case o5 =>
      intro At yy W hy hb d hd K hK
      have e4 : yy 4 = .pointer (some ⟨w.heap.size, 1, none⟩) := by obtain ⟨_, _, _, _, e⟩ := hd ⟨4, .data⟩ (by simp) rfl rfl; exact e
      have s12 := (hy 4 _ 12 rfl rfl).trans e4
      have s12' := s12
      rw [Array.getD_eq_getD_getElem?] at s12'
      clear hd hy hb
      obtain ⟨y0, y1, y2, y3, y4⟩ := SK.out W d
      go_simp
      exact hK.out _ W (stp_of hmo d (Below.refl _ _)) (if_pos rfl)
    case o6 =>
      intro At yy W hy hb d hd K hK
      have s2 : At.tmps.getD 2 undef = .pointer (some ⟨w.heap.size, 0, none⟩) := hb 2 rfl
      have s2' := s2
      rw [Array.getD_eq_getD_getElem?] at s2'
      clear hd hy hb
      go_simp
      exact hK.out _ W (stp_of hmo d (Below.refl _ _)) (if_pos rfl)
    case o7 =>
      intro At yy W hy hb d hd K hK
      have e6 : yy 6 = .pointer (some ⟨w.heap.size, 2, none⟩) := by obtain ⟨_, _, _, _, e⟩ := hd ⟨6, .data⟩ (by simp) rfl rfl; exact e
      have s14 := (hy 6 _ 14 rfl rfl).trans e6
      have s14' := s14
      rw [Array.getD_eq_getD_getElem?] at s14'
      clear hd hy hb
      obtain ⟨y0, y1, y2, y3, y4⟩ := SK.out W d
      go_simp
      exact hK.out _ W (stp_of hmo d (Below.refl _ _)) (if_pos rfl)
    case o8 =>
      intro At yy W hy hb d hd K hK
      have s1 : At.tmps.getD 1 undef = .int .i64 b := hb 1 rfl
      have s1' := s1
      rw [Array.getD_eq_getD_getElem?] at s1'
      clear hd hy hb
      go_simp
      exact hK.out _ W (stp_of hmo d (Below.refl _ _)) (if_pos rfl)
    case o9 =>
      intro At yy W hy hb d hd K hK
      have e7 : yy 7 = .slice a1 n1 c1 := by obtain ⟨_, _, _, _, e⟩ := hd ⟨7, .data⟩ (by simp) rfl rfl; exact e
      have e8 : yy 8 = .int .i64 b := by obtain ⟨_, _, _, _, e⟩ := hd ⟨8, .data⟩ (by simp) rfl rfl; exact e
      have s15 := (hy 7 _ 15 rfl rfl).trans e7
      have s15' := s15
      rw [Array.getD_eq_getD_getElem?] at s15'
      have s16 := (hy 8 _ 16 rfl rfl).trans e8
      have s16' := s16
      rw [Array.getD_eq_getD_getElem?] at s16'
      clear hd hy hb
      go_simp
      go_wp2_with (go_at_call 57; refine (T1.out _ d).mono ?_; rintro e wa ⟨g, rfl, hR⟩)
      exact hK.out _ wa (stp_of hmo d hR.out.2) (ownNI_of (if_pos rfl) (by rw [movN_len, HL.out.1]; exact hR.out.1))
    case o10 =>
      intro At yy W hy hb d hd K hK
      have s2 : At.tmps.getD 2 undef = .pointer (some ⟨w.heap.size, 0, none⟩) := hb 2 rfl
      have s2' := s2
      rw [Array.getD_eq_getD_getElem?] at s2'
      clear hd hy hb
      go_simp
      exact hK.out _ W (stp_of hmo d (Below.refl _ _)) (if_pos rfl)
    case o11 =>
      intro At yy W hy hb d hd K hK
      have e10 : yy 10 = .pointer (some ⟨w.heap.size, 3, none⟩) := by obtain ⟨_, _, _, _, e⟩ := hd ⟨10, .data⟩ (by simp) rfl rfl; exact e
      have s18 := (hy 10 _ 18 rfl rfl).trans e10
      have s18' := s18
      rw [Array.getD_eq_getD_getElem?] at s18'
      clear hd hy hb
      obtain ⟨y0, y1, y2, y3, y4⟩ := SK.out W d
      go_simp
      exact hK.out _ W (stp_of hmo d (Below.refl _ _)) (if_pos rfl)
    case o12 =>
      intro At yy W hy hb d hd K hK
      have s1 : At.tmps.getD 1 undef = .int .i64 b := hb 1 rfl
      have s1' := s1
      rw [Array.getD_eq_getD_getElem?] at s1'
      clear hd hy hb
      go_simp
      exact hK.out _ W (stp_of hmo d (Below.refl _ _)) (if_pos rfl)
    case o13 =>
      intro At yy W hy hb d hd K hK
      have e11 : yy 11 = .slice a2 n2 c2 := by obtain ⟨_, _, _, _, e⟩ := hd ⟨11, .data⟩ (by simp) rfl rfl; exact e
      have e12 : yy 12 = .int .i64 b := by obtain ⟨_, _, _, _, e⟩ := hd ⟨12, .data⟩ (by simp) rfl rfl; exact e
      have s19 := (hy 11 _ 19 rfl rfl).trans e11
      have s19' := s19
      rw [Array.getD_eq_getD_getElem?] at s19'
      have s20 := (hy 12 _ 20 rfl rfl).trans e12
      have s20' := s20
      rw [Array.getD_eq_getD_getElem?] at s20'
      clear hd hy hb
      go_simp
      go_wp2_with (go_at_call 57; refine (T2.out _ d).mono ?_; rintro e wa ⟨g, rfl, hR⟩)
      exact hK.out _ wa (stp_of hmo d hR.out.2) (ownNI_of (if_pos rfl) (by rw [movN_len, HL.out.2.1]; exact hR.out.1))
    case o14 =>
      intro At yy W hy hb d hd K hK
      have e3 : yy 3 = .int .i64 ((N : Int) + b) := by obtain ⟨_, _, _, _, e⟩ := hd ⟨3, .data⟩ (by simp) rfl rfl; exact e
      have e5 : yy 5 = .int .i64 m := by obtain ⟨_, _, _, _, e⟩ := hd ⟨5, .data⟩ (by simp) rfl rfl; exact e
      have f9 := hd ⟨9, .data⟩ (by simp) rfl rfl
      have f13 := hd ⟨13, .data⟩ (by simp) rfl rfl
      obtain ⟨_, _, _, _, o9, _⟩ := f9
      obtain ⟨_, _, _, _, o13, _⟩ := f13
      obtain ⟨b1, k1, e9⟩ := own_slice o9
      obtain ⟨b2, k2, e13⟩ := own_slice o13
      have s11 := (hy 3 _ 11 rfl rfl).trans e3
      have s11' := s11
      rw [Array.getD_eq_getD_getElem?] at s11'
      have s13 := (hy 5 _ 13 rfl rfl).trans e5
      have s13' := s13
      rw [Array.getD_eq_getD_getElem?] at s13'
      have s17 := (hy 9 _ 17 rfl rfl).trans e9
      have s17' := s17
      rw [Array.getD_eq_getD_getElem?] at s17'
      have s21 := (hy 13 _ 21 rfl rfl).trans e13
      have s21' := s21
      rw [Array.getD_eq_getD_getElem?] at s21'
      clear hd hy hb
      go_simp
      exact hK.out _ W (stp_of hmo d (Below.refl _ _)) (by show updV yy 14 _ 14 = .agg #[.int .i64 ((N : Int) + b), .int .i64 m, updV yy 14 _ 9, updV yy 14 _ 13, .slice none 0 0]; simp [updV, e9, e13])
    case o15 =>
      intro At yy W hy hb d hd K hK
      clear hd hy hb
      go_simp
      exact hK.out _ _ (stp_of hmo d ((Below.refl _ _).alloc (Nat.le_refl _) _)) ⟨if_pos rfl, by simp, World.alloc_heap_new _ _⟩
    case fin =>
      intro yy lo hi W hM
      show wpList _ _ _ [_] _ _
      have e0 : yy 0 = .pointer (some ⟨w.heap.size, 0, none⟩) := hM.fact 0 (by simp) rfl (notR_all 0 rfl)
      have e1 : yy 1 = .int .i64 (N : Int) := hM.fact 1 (by simp) rfl (notR_all 1 rfl)
      have e2 : yy 2 = .int .i64 b := hM.fact 2 (by simp) rfl (notR_all 2 rfl)
      have e3 : yy 3 = .int .i64 ((N : Int) + b) := hM.fact 3 (by simp) rfl (notR_all 3 rfl)
      have e4 : yy 4 = .pointer (some ⟨w.heap.size, 1, none⟩) := hM.fact 4 (by simp) rfl (notR_all 4 rfl)
      have e5 : yy 5 = .int .i64 m := hM.fact 5 (by simp) rfl (notR_all 5 rfl)
      have e6 : yy 6 = .pointer (some ⟨w.heap.size, 2, none⟩) := hM.fact 6 (by simp) rfl (notR_all 6 rfl)
      have e7 : yy 7 = .slice a1 n1 c1 := hM.fact 7 (by simp) rfl (notR_all 7 rfl)
      have e8 : yy 8 = .int .i64 b := hM.fact 8 (by simp) rfl (notR_all 8 rfl)
      have e10 : yy 10 = .pointer (some ⟨w.heap.size, 3, none⟩) := hM.fact 10 (by simp) rfl (notR_all 10 rfl)
      have e11 : yy 11 = .slice a2 n2 c2 := hM.fact 11 (by simp) rfl (notR_all 11 rfl)
      have e12 : yy 12 = .int .i64 b := hM.fact 12 (by simp) rfl (notR_all 12 rfl)
      have e14 : yy 14 = .agg #[.int .i64 ((N : Int) + b), .int .i64 m, yy 9, yy 13, .slice none 0 0] := hM.fact 14 (by simp) rfl (notR_all 14 rfl)
      obtain ⟨o9, l9⟩ := hM.fact 9 (by simp) rfl (notR_all 9 rfl)
      obtain ⟨o13, l13⟩ := hM.fact 13 (by simp) rfl (notR_all 13 rfl)
      obtain ⟨e15, l15, z15⟩ := hM.fact 15 (by simp) rfl (notR_all 15 rfl)
      have t9 := hM.at' 9 (by simp) rfl
      have t13 := hM.at' 13 (by simp) rfl
      have t15 := hM.at' 15 (by simp) rfl
      have ap := hM.apart 9 13 (by simp) (by simp) rfl rfl (by decide)
      have dd := hM.d
      have HOO : OwnO W0.heap.size W (yy 9) (yy 13) (.slice none 0 0) (movN St b) (movN Fi b) [] := ownO_of o9 o13 (World.ownsRow_nil W W0.heap.size _ _) l9 l13 (by omega) (by omega) (by omega) ap
      obtain ⟨b1, k1, e9⟩ := own_slice o9
      obtain ⟨b2, k2, e13⟩ := own_slice o13
      rw [e9, e13] at HOO e14
      rw [movN_len, HL.out.1] at e9
      rw [movN_len, HL.out.2.1] at e13
      rw [movN_len, movN_len, HL.out.1, HL.out.2.1] at HOO e14
      generalize lo 15 = p5 at e15 z15 t15 l15
      have o0' : W.cell? ⟨p5, 0, none⟩ = some (.int .i64 0) := cell_of z15 rfl
      have g0 : W.frozen? ⟨p5, 0, none⟩ = false := fz_of z15
      have o1' : W.cell? ⟨p5, 1, none⟩ = some (.int .i64 0) := cell_of z15 rfl
      have g1 : W.frozen? ⟨p5, 1, none⟩ = false := fz_of z15
      have o2' : W.cell? ⟨p5, 2, none⟩ = some (.slice none 0 0) := cell_of z15 rfl
      have g2 : W.frozen? ⟨p5, 2, none⟩ = false := fz_of z15
      have o3' : W.cell? ⟨p5, 3, none⟩ = some (.slice none 0 0) := cell_of z15 rfl
      have g3 : W.frozen? ⟨p5, 3, none⟩ = false := fz_of z15
      have o4' : W.cell? ⟨p5, 4, none⟩ = some (.slice none 0 0) := cell_of z15 rfl
      have g4 : W.frozen? ⟨p5, 4, none⟩ = false := fz_of z15
      have HF := hide (mvA_of (n := (N : Int) + b) (m := m) z15 dd t15.1 HOO)
      simp only [fills, Act.put, List.take, List.length, List.setIfInBounds_toArray, List.set_cons_zero, List.set_cons_succ, e0, e1, e2, e3, e4, e5, e6, e7, e8, e10, e11, e12, e9, e13, e14, e15]
      clear hM hmo e0 e1 e2 e3 e4 e5 e6 e7 e8 e10 e11 e12 e9 e13 e14 e15 o9 o13 l9 l13 l15 z15 t9 t13 t15 ap dd HOO
      go_wp2_with fail
      go_meet
      exact ⟨p5, b1, k1, b2, k2, rfl, HF⟩
  case rest =>
    obtain ⟨p5, b1, k1, b2, k2, rfl, HA⟩ := hcut
    rename World => wx
    clear T1 T2
    have y4 := (SK.out wx HA.out.be).2.2.2.2
    go_wp2_with fail
    clear y4
    go_loopw [26] (fun iv wr => ∃ i : Nat, i ≤ n3 ∧ iv = .int .i64 (i : Int) ∧ ∃ b3 k3, Hid (MvA W0 wr p5 ((N : Int) + b) m (.slice b1 n1 k1) (.slice b2 n2 k2) (.slice b3 i k3) (movN St b) (movN Fi b) (movE (Ed.take i) b))) (fun iv _ => n3 - (intOf iv).toNat)
    case atStart => exact ⟨0, Nat.zero_le _, rfl, none, 0, HA⟩
    case round =>
      obtain ⟨i, hi, rfl, b3, k3, HY⟩ := hrel
      clear HA
      by_cases hil : i < n3
      · have i0 : (0 : Int) ≤ (i : Int) := by omega
        have i1 : (i : Int) < (n3 : Int) := by omega
        have hjl : i < Ed.length := by have := HL.out.2.2; omega
        obtain ⟨ge, o, ea, q1, q2, q3⟩ := (hA.out.e.on (HD.out.1.trans (HY.out.be.mono HD.out.1.size))) i hjl
        subst ea
        have HT := hide (movE_snoc Ed b i hjl)
        have hx := hE.out _ (List.getElem_mem hjl)
        generalize Ed[i] = x at q1 q2 q3 HT hx
        obtain ⟨x1, x2, x3⟩ := x
        simp only at q1 q2 q3 hx
        have HT2 : Hid (movE (Ed.take (i + 1)) b = movE (Ed.take i) b ++ [(x1 + b, x2, x3 + b)]) := HT
        have HTl : Hid ((movE (Ed.take i) b).length = i) := hide (by rw [movE_len, List.length_take]; omega)
        clear HT
        have r1 : IntKind.i64.wrap (x1 + b) = x1 + b := by rw [IntKind.wrap_i64]; omega
        have r3 : IntKind.i64.wrap (x3 + b) = x3 + b := by rw [IntKind.wrap_i64]; omega
        have HS0 := hide HY.out.be.size
        obtain ⟨W1, hW1⟩ : ∃ W1, wr.alloc (.cells #[.int .i64 x1, .int .i64 x2, .int .i64 x3] 50) = W1 := ⟨_, rfl⟩
        have HW : Hid (W1.heap[wr.heap.size]? = some (.cells #[.int .i64 x1, .int .i64 x2, .int .i64 x3] 50 (0, 0)) ∧ Below wr.heap.size wr W1 ∧ W1.heap.size = wr.heap.size + 1 ∧ wr.alloc (.cells #[.int .i64 x1, .int .i64 x2, .int .i64 x3] 50) = W1) := hide (by rw [← hW1]; exact ⟨World.alloc_heap_new _ _, (Below.refl _ _).alloc (Nat.le_refl _) _, by simp, rfl⟩)
        have z0 : W1.cell? ⟨wr.heap.size, 0, none⟩ = some (.int .i64 x1) := cell_of HW.out.1 rfl
        have z1 : W1.cell? ⟨wr.heap.size, 1, none⟩ = some (.int .i64 x2) := cell_of HW.out.1 rfl
        have z2 : W1.cell? ⟨wr.heap.size, 2, none⟩ = some (.int .i64 x3) := cell_of HW.out.1 rfl
        have z4 : W1.cell? ⟨p5, 4, none⟩ = some (.slice b3 i k3) := cell_of (blk_on HY.out.bx HW.out.2.1) rfl
        have HX := hide (own_below HY.out.ow.e HW.out.2.1)
        go_wp2_with (at_builtin; refine wpList_appG rfl _ _ rfl W0.heap.size (.slice b3 i k3) (movE (Ed.take i) b) rfl (own_below HX.out ((Below.refl _ _).alloc (Nat.le_refl _) _)) W1.heap.size (x1 + b, x2, x3 + b) rfl (World.alloc_heap_new _ _) (by have := HTl.out; omega) (by have := HS0.out; have := HW.out.2.2.1; rw [World.size_alloc]; omega) ?_; intro v5 w5 HO5 HG5; obtain ⟨z5, d5, e5⟩ := own_slice HO5.out; have E5 : v5 = .slice z5 (i + 1) d5 := (by rw [e5, List.length_append, HTl.out]; rfl); clear e5; subst E5; have HQ := hide (mvA_next (cs1 := #[.int .i64 x1, .int .i64 x2, .int .i64 x3]) HY.out HO5.out (by rw [HW.out.2.2.2]; exact HG5.out)); have c5 : w5.cell? ⟨p5, 4, none⟩ = some (.slice b3 i k3) := cell_of HQ.out.1 rfl; have f5 : w5.frozen? ⟨p5, 4, none⟩ = false := fz_of HQ.out.1)
        refine ⟨⟨i + 1, by omega, by go_num, z5, d5, hide (by rw [HT2.out]; exact HQ.out.2)⟩, by simp [intOf]; omega⟩
      · obtain rfl : n3 = i := by omega
        have i1 : ¬ (n3 : Int) < (n3 : Int) := by omega
        have HZ : Hid (MvA W0 wr p5 ((N : Int) + b) m (.slice b1 n1 k1) (.slice b2 n2 k2) (.slice b3 n3 k3) (movN St b) (movN Fi b) (movE Ed b)) := hide (by
          have q := HY.out
          rw [List.take_of_length_le (by have := HL.out.2.2; omega)] at q
          exact q)
        clear HY
        have F3 := blk_on HD.out.2.2.1 HZ.out.be
        have F4 := HZ.out.bx
        have o0 : wr.cell? ⟨w.heap.size + 1, 0, none⟩ = some (.int .i64 0) := cell_of F3 rfl
        have f0 : wr.frozen? ⟨w.heap.size + 1, 0, none⟩ = false := fz_of F3
        have v0 : wr.cell? ⟨p5, 0, none⟩ = some (.int .i64 ((N : Int) + b)) := cell_of F4 rfl
        have o1 : wr.cell? ⟨w.heap.size + 1, 1, none⟩ = some (.int .i64 0) := cell_of F3 rfl
        have f1 : wr.frozen? ⟨w.heap.size + 1, 1, none⟩ = false := fz_of F3
        have v1 : wr.cell? ⟨p5, 1, none⟩ = some (.int .i64 m) := cell_of F4 rfl
        have o2 : wr.cell? ⟨w.heap.size + 1, 2, none⟩ = some (.slice none 0 0) := cell_of F3 rfl
        have f2 : wr.frozen? ⟨w.heap.size + 1, 2, none⟩ = false := fz_of F3
        have v2 : wr.cell? ⟨p5, 2, none⟩ = some (.slice b1 n1 k1) := cell_of F4 rfl
        have o3 : wr.cell? ⟨w.heap.size + 1, 3, none⟩ = some (.slice none 0 0) := cell_of F3 rfl
        have f3 : wr.frozen? ⟨w.heap.size + 1, 3, none⟩ = false := fz_of F3
        have v3 : wr.cell? ⟨p5, 3, none⟩ = some (.slice b2 n2 k2) := cell_of F4 rfl
        have o4 : wr.cell? ⟨w.heap.size + 1, 4, none⟩ = some (.slice none 0 0) := cell_of F3 rfl
        have f4 : wr.frozen? ⟨w.heap.size + 1, 4, none⟩ = false := fz_of F3
        have v4 : wr.cell? ⟨p5, 4, none⟩ = some (.slice b3 n3 k3) := cell_of F4 rfl
        have O6 := hide (And.intro (set5 wr (w.heap.size + 1) _ _ _ _ _ (.int .i64 ((N : Int) + b)) (.int .i64 m) (.slice b1 n1 k1) (.slice b2 n2 k2) (.slice b3 n3 k3) 25 F3) (only5 wr (w.heap.size + 1) (.int .i64 ((N : Int) + b)) (.int .i64 m) (.slice b1 n1 k1) (.slice b2 n2 k2) (.slice b3 n3 k3)))
        have HO2 := hide (HZ.out.ow.keep F3 O6.out.2)
        clear F3 F4
        go_wp2_with fail
        refine bodyPost_ret (results_cell_row (p := 4) (ty := 25) rfl _ _ (w.heap.size + 1) 25 _ (0, 0) _ rfl O6.out.1 Tryz.underlying25 rfl (by kernel_rfl)) rfl ?_
        have s1 := HD.out.2.2.2
        have s2 := HZ.out.be.size
        exact ⟨b1, k1, b2, k2, b3, k3, rfl, hide ⟨HO2.out.down (by omega), (HD.out.1.trans (HZ.out.be.mono (by omega))).trans (O6.out.2.toBelow (by omega) (fun k hk => by omega))⟩⟩
/-! ### One: the automaton of one word -/
def oneE (L : List Int) : List EdT := L.zipIdx.map fun p => ((p.2 : Int), p.1, (p.2 : Int) + 1)
theorem oneE_len (L : List Int) : (oneE L).length = L.length := by simp [oneE]
theorem oneE_snoc (L : List Int) (i : Nat) (h : i < L.length) : oneE (L.take (i + 1)) = oneE (L.take i) ++ [((i : Int), L[i], (i : Int) + 1)] := by
  unfold oneE
  rw [List.take_succ_eq_append_getElem h, List.zipIdx_append, List.map_append]
  have : (L.take i).length = i := by rw [List.length_take]; omega
  simp [this]
theorem own_one {W : World} {B g : Nat} {x : Value} (h : W.heap[g]? = some (.cells #[x] 3 (0, 0))) (hB : B ≤ g) : W.ownsRow B 3 1 (.slice (some ⟨g, 0, none⟩) 1 1) 1 [x] :=
  ⟨by simp, .inr ⟨g, 1, #[x], rfl, hB, h, Nat.le_refl _, by unfold maxLen; omega, by simp, by simp⟩⟩
theorem mvA_put {w wr wa w5 : World} {p : Nat} {n m : Int} {v1 v2 v3 v5 : Value} {S F : List Int} {X Y : List EdT} (h : MvA w wr p n m v1 v2 v3 S F X) (d1 : Below wr.heap.size wr wa) (o : w5.ownsRow w.heap.size 50 3 v5 Y.length (Y.flatMap encE)) (oo : Only wa w5 (fun k => v3.ownBlock = some k)) :
    w5.heap[p]? = some (.cells #[.int .i64 n, .int .i64 m, v1, v2, v3] 25 (0, 0)) ∧ MvA w (w5.setCell ⟨p, 4, none⟩ v5) p n m v1 v2 v5 S F Y := by
  have s2 := own_below h.ow.s d1
  have f2 := own_below h.ow.f d1
  have e2 := own_below h.ow.e d1
  have b2 := blk_on h.bx d1
  have b5 := (oo.block p (Array.getElem?_eq_some_iff.1 b2).1 (fun hk => row_tag e2 b2 (by decide) hk)).trans b2
  have s5 := row_only s2 oo (fun k hk hk2 => rows_differ e2 s2 (by decide) hk2 hk)
  have f5 := row_only f2 oo (fun k hk hk2 => rows_differ e2 f2 (by decide) hk2 hk)
  have o2 := only_set w5 p 4 v5
  have dd := h.be.trans (d1.mono h.be.size)
  have d5 := dd.trans (oo.toBelow dd.size (fun k hk => (e2.lt k hk).1))
  exact ⟨b5, heap_setCell_same _ _ 4 _ 25 _ b5, h.ge, ⟨own_keep s5 b5 (by decide) o2, own_keep f5 b5 (by decide) o2, own_keep o b5 (by decide) o2, h.ow.ne⟩, d5.trans (o2.toBelow d5.size (fun k hk => by rw [hk]; exact h.ge))⟩
set_option maxRecDepth 100000 in
set_option maxHeartbeats 4000000 in
theorem one_ok (w : World) (ao : Option Addr) (c n s : Nat) (L : List Int) (en : Hid (L.length = n)) (hr : Hid (RdN w ao L)) (hn : n < 4096) (hs : s ≤ 128) (hL : Hid (∀ x ∈ L, 0 ≤ x ∧ x < (s : Int))) :
    Calls Tryz.prog 19 #[.slice ao n c, .int .i64 (s : Int)] w fun e w' => ∃ b1 k1 b2 k2 b3 k3, e = .returned (.tuple #[.agg #[.int .i64 ((n : Int) + 1), .int .i64 (s : Int), .slice b1 1 k1, .slice b2 1 k2, .slice b3 n k3], .int .i64 0]) ∧ Hid (OwnO w.heap.size w' (.slice b1 1 k1) (.slice b2 1 k2) (.slice b3 n k3) [0] [(n : Int)] (oneE L) ∧ Below w.heap.size w w') := by
  obtain ⟨W0, hW0⟩ : ∃ W0, (w.alloc (.cells #[.int .i64 (s : Int)] 3)).alloc (.cells #[.int .i64 0, .int .i64 0, .slice none 0 0, .slice none 0 0, .slice none 0 0] 25) = W0 := ⟨_, rfl⟩
  have HD : Hid (Below w.heap.size w W0 ∧ W0.heap[w.heap.size]? = some (.cells #[.int .i64 (s : Int)] 3 (0, 0)) ∧ W0.heap[w.heap.size + 1]? = some (.cells #[.int .i64 0, .int .i64 0, .slice none 0 0, .slice none 0 0, .slice none 0 0] 25 (0, 0)) ∧ W0.heap.size = w.heap.size + 2) := hide (by
    have k1 := (Below.refl w.heap.size w).alloc (Nat.le_refl _) (.cells #[.int .i64 (s : Int)] 3)
    have z1 := World.alloc_heap_new w (.cells #[.int .i64 (s : Int)] 3)
    have s1 : (w.alloc (.cells #[.int .i64 (s : Int)] 3)).heap.size = w.heap.size + 1 := by simp
    generalize w.alloc (.cells #[.int .i64 (s : Int)] 3) = X at k1 z1 s1 hW0
    have k2 := (Below.refl X.heap.size X).alloc (Nat.le_refl _) (.cells #[.int .i64 0, .int .i64 0, .slice none 0 0, .slice none 0 0, .slice none 0 0] 25)
    have z2 := World.alloc_heap_new X (.cells #[.int .i64 0, .int .i64 0, .slice none 0 0, .slice none 0 0, .slice none 0 0] 25)
    rw [hW0] at k2 z2
    rw [s1] at z2
    exact ⟨k1.trans (k2.mono k1.size), blk_on z1 k2, z2, by rw [← hW0, World.size_alloc, s1]⟩)
  have y0 : W0.cell? ⟨w.heap.size, 0, none⟩ = some (.int .i64 (s : Int)) := cell_of HD.out.2.1 rfl
  have TC := cont53 W0 ao c L w.heap.size (s : Int) (hide y0) (hide (hr.out.on HD.out.1)) (by have := en.out; omega)
  rw [show L.any (badS (s : Int)) = false by
    rw [List.any_eq_false]
    intro x hx
    have := hL.out x hx
    simp [badS]; omega, en.out] at TC
  have TM : ∀ W, Calls Tryz.prog 30 #[.int .i64 (s : Int)] W fun e w' => e = .returned (.bool true) ∧ w' = W := fun W => by
    have := mayBe_any W (s : Int)
    rwa [show symOk (s : Int) = true by simp [symOk]; omega] at this
  have HM := hide TM
  clear TM
  have jn : ¬ (4096 : Int) ≤ (n : Int) := by omega
  have ew : IntKind.i64.wrap ((n : Int) + 1) = (n : Int) + 1 := by rw [IntKind.wrap_i64]; omega
  go_enter Tryz.func19, Tryz.ntmps19
  go_upto_region 3 with (go_at_call 28; refine TC.mono ?_; rintro e w2 ⟨rfl, D2⟩; have H2 := hide D2; clear D2)
  clear TC y0
  have y0 : w2.cell? ⟨w.heap.size, 0, none⟩ = some (.int .i64 (s : Int)) := cell_of (blk_on HD.out.2.1 H2.out) rfl
  go_upto_region 8 with (go_at_call 30; refine (HM.out w2).mono ?_; rintro e wq ⟨rfl, rfl⟩)
  clear y0 HM
  obtain ⟨W1, hW1⟩ : ∃ W, ((wq.alloc (.cells #[.int .i64 0] 3)).alloc (.cells #[.int .i64 (n : Int)] 3)).alloc (.cells #[.int .i64 ((n : Int) + 1), .int .i64 (s : Int), .slice (some ⟨wq.heap.size, 0, none⟩) 1 1, .slice (some ⟨wq.heap.size + 1, 0, none⟩) 1 1, .slice none 0 0] 25) = W := ⟨_, rfl⟩
  rw [hW1]
  have HA : Hid (MvA W0 W1 (wq.heap.size + 1 + 1) ((n : Int) + 1) (s : Int) (.slice (some ⟨wq.heap.size, 0, none⟩) 1 1) (.slice (some ⟨wq.heap.size + 1, 0, none⟩) 1 1) (.slice none 0 0) [0] [(n : Int)] []) := hide (by
    have k1 := (Below.refl wq.heap.size wq).alloc (Nat.le_refl _) (.cells #[.int .i64 0] 3)
    have z1 := World.alloc_heap_new wq (.cells #[.int .i64 0] 3)
    have s1 : (wq.alloc (.cells #[.int .i64 0] 3)).heap.size = wq.heap.size + 1 := by simp
    generalize wq.alloc (.cells #[.int .i64 0] 3) = X at k1 z1 s1 hW1
    have k2 := (Below.refl X.heap.size X).alloc (Nat.le_refl _) (.cells #[.int .i64 (n : Int)] 3)
    have z2 := World.alloc_heap_new X (.cells #[.int .i64 (n : Int)] 3)
    have s2 : (X.alloc (.cells #[.int .i64 (n : Int)] 3)).heap.size = wq.heap.size + 1 + 1 := by simp [s1]
    generalize X.alloc (.cells #[.int .i64 (n : Int)] 3) = Y at k2 z2 s2 hW1
    have k3 := (Below.refl Y.heap.size Y).alloc (Nat.le_refl _) (.cells #[.int .i64 ((n : Int) + 1), .int .i64 (s : Int), .slice (some ⟨wq.heap.size, 0, none⟩) 1 1, .slice (some ⟨wq.heap.size + 1, 0, none⟩) 1 1, .slice none 0 0] 25)
    have z3 := World.alloc_heap_new Y (.cells #[.int .i64 ((n : Int) + 1), .int .i64 (s : Int), .slice (some ⟨wq.heap.size, 0, none⟩) 1 1, .slice (some ⟨wq.heap.size + 1, 0, none⟩) 1 1, .slice none 0 0] 25)
    rw [hW1] at k3 z3
    rw [s2] at z3
    rw [s1] at z2
    have sq := H2.out.size
    have kk := k1.trans ((k2.trans (k3.mono k2.size)).mono k1.size)
    exact ⟨z3, by omega, ⟨own_one (blk_on (blk_on z1 k2) k3) (by omega), own_one (blk_on z2 k3) (by omega), World.ownsRow_nil W1 W0.heap.size _ _, fun x hx hy => by
      simp only [Value.ownBlock, Option.some.injEq] at hx hy
      omega⟩, H2.out.trans (kk.mono sq)⟩)
  obtain ⟨g, hg⟩ : ∃ g, wq.heap.size = g := ⟨_, rfl⟩
  clear hW1 H2
  rw [hg] at HA ⊢
  clear hg
  go_wp2_with fail
  go_loopw [32] (fun iv wr => ∃ i : Nat, i ≤ n ∧ iv = .int .i64 (i : Int) ∧ ∃ b3 k3, Hid (MvA W0 wr (g + 1 + 1) ((n : Int) + 1) (s : Int) (.slice (some ⟨g, 0, none⟩) 1 1) (.slice (some ⟨g + 1, 0, none⟩) 1 1) (.slice b3 i k3) [0] [(n : Int)] (oneE (L.take i)))) (fun iv _ => n - (intOf iv).toNat)
  case atStart => exact ⟨0, Nat.zero_le _, rfl, none, 0, HA⟩
  case round =>
    obtain ⟨i, hi, rfl, b3, k3, HY⟩ := hrel
    clear HA
    by_cases hil : i < n
    · have i0 : (0 : Int) ≤ (i : Int) := by omega
      have i1 : (i : Int) < (n : Int) := by omega
      have hjl : i < L.length := by have := en.out; omega
      obtain ⟨ge, o, ea, q1⟩ := (hr.out.on (HD.out.1.trans (HY.out.be.mono HD.out.1.size))) i hjl
      subst ea
      have HT := hide (oneE_snoc L i hjl)
      generalize L[i] = x at q1 HT
      have HTl : Hid ((oneE (L.take i)).length = i) := hide (by rw [oneE_len, List.length_take]; omega)
      have r1 : IntKind.i64.wrap ((i : Int) + 1) = (i : Int) + 1 := by rw [IntKind.wrap_i64]; omega
      have HS0 := hide HY.out.be.size
      have z4 : wr.cell? ⟨g + 1 + 1, 4, none⟩ = some (.slice b3 i k3) := cell_of HY.out.bx rfl
      go_wp2_with (at_builtin; refine wpList_appG rfl _ _ rfl W0.heap.size (.slice b3 i k3) (oneE (L.take i)) rfl (own_below HY.out.ow.e ((Below.refl _ _).alloc (Nat.le_refl _) _)) wr.heap.size ((i : Int), x, (i : Int) + 1) rfl (World.alloc_heap_new _ _) (by have := HTl.out; omega) (by have := HS0.out; rw [World.size_alloc]; omega) ?_; intro v5 w5 HO5 HG5; obtain ⟨z5, d5, e5⟩ := own_slice HO5.out; have E5 : v5 = .slice z5 (i + 1) d5 := (by rw [e5, List.length_append, HTl.out]; rfl); clear e5; subst E5; have HQ := hide (mvA_put HY.out ((Below.refl _ _).alloc (Nat.le_refl _) _) HO5.out HG5.out); have c5 : w5.cell? ⟨g + 1 + 1, 4, none⟩ = some (.slice b3 i k3) := cell_of HQ.out.1 rfl; have f5 : w5.frozen? ⟨g + 1 + 1, 4, none⟩ = false := fz_of HQ.out.1)
      refine ⟨⟨i + 1, by omega, by go_num, z5, d5, hide (by rw [HT.out]; exact HQ.out.2)⟩, by simp [intOf]; omega⟩
    · obtain rfl : n = i := by omega
      have i1 : ¬ (n : Int) < (n : Int) := by omega
      have HZ : Hid (MvA W0 wr (g + 1 + 1) ((n : Int) + 1) (s : Int) (.slice (some ⟨g, 0, none⟩) 1 1) (.slice (some ⟨g + 1, 0, none⟩) 1 1) (.slice b3 n k3) [0] [(n : Int)] (oneE L)) := hide (by
        have q := HY.out
        rw [List.take_of_length_le (by have := en.out; omega)] at q
        exact q)
      clear HY
      have F3 := blk_on HD.out.2.2.1 HZ.out.be
      have F4 := HZ.out.bx
      have o0 : wr.cell? ⟨w.heap.size + 1, 0, none⟩ = some (.int .i64 0) := cell_of F3 rfl
      have f0 : wr.frozen? ⟨w.heap.size + 1, 0, none⟩ = false := fz_of F3
      have v0 : wr.cell? ⟨g + 1 + 1, 0, none⟩ = some (.int .i64 ((n : Int) + 1)) := cell_of F4 rfl
      have o1 : wr.cell? ⟨w.heap.size + 1, 1, none⟩ = some (.int .i64 0) := cell_of F3 rfl
      have f1 : wr.frozen? ⟨w.heap.size + 1, 1, none⟩ = false := fz_of F3
      have v1 : wr.cell? ⟨g + 1 + 1, 1, none⟩ = some (.int .i64 (s : Int)) := cell_of F4 rfl
      have o2 : wr.cell? ⟨w.heap.size + 1, 2, none⟩ = some (.slice none 0 0) := cell_of F3 rfl
      have f2 : wr.frozen? ⟨w.heap.size + 1, 2, none⟩ = false := fz_of F3
      have v2 : wr.cell? ⟨g + 1 + 1, 2, none⟩ = some (.slice (some ⟨g, 0, none⟩) 1 1) := cell_of F4 rfl
      have o3 : wr.cell? ⟨w.heap.size + 1, 3, none⟩ = some (.slice none 0 0) := cell_of F3 rfl
      have f3 : wr.frozen? ⟨w.heap.size + 1, 3, none⟩ = false := fz_of F3
      have v3 : wr.cell? ⟨g + 1 + 1, 3, none⟩ = some (.slice (some ⟨g + 1, 0, none⟩) 1 1) := cell_of F4 rfl
      have o4 : wr.cell? ⟨w.heap.size + 1, 4, none⟩ = some (.slice none 0 0) := cell_of F3 rfl
      have f4 : wr.frozen? ⟨w.heap.size + 1, 4, none⟩ = false := fz_of F3
      have v4 : wr.cell? ⟨g + 1 + 1, 4, none⟩ = some (.slice b3 n k3) := cell_of F4 rfl
      have O6 := hide (And.intro (set5 wr (w.heap.size + 1) _ _ _ _ _ (.int .i64 ((n : Int) + 1)) (.int .i64 (s : Int)) (.slice (some ⟨g, 0, none⟩) 1 1) (.slice (some ⟨g + 1, 0, none⟩) 1 1) (.slice b3 n k3) 25 F3) (only5 wr (w.heap.size + 1) (.int .i64 ((n : Int) + 1)) (.int .i64 (s : Int)) (.slice (some ⟨g, 0, none⟩) 1 1) (.slice (some ⟨g + 1, 0, none⟩) 1 1) (.slice b3 n k3)))
      have HO2 := hide (HZ.out.ow.keep F3 O6.out.2)
      clear F3 F4
      go_wp2_with fail
      refine bodyPost_ret (results_c1 (p := 4) (q := 5) (ty := 25) rfl _ _ (w.heap.size + 1) 25 _ (0, 0) _ _ rfl rfl O6.out.1 Tryz.underlying25 rfl (by kernel_rfl)) rfl ?_
      have s1 := HD.out.2.2.2
      have s2 := HZ.out.be.size
      exact ⟨_, _, _, _, _, _, rfl, hide ⟨HO2.out.down (by omega), (HD.out.1.trans (HZ.out.be.mono (by omega))).trans (O6.out.2.toBelow (by omega) (fun k hk => by omega))⟩⟩
end Go.Proofs.YtchoopnjckcohaaGreat
namespace Go.Proofs.YtchoopnjckcohaaGreat
open Go.RowKit Go.Maps Go.Shelf
/-! ### Pairs and their places -/
/-- A kind of items: a type whose values may be keys, and how a value lies in memory. -/
structure Kd (α : Type) where
  ty : Nat
  sz : Nat
  val : α → Value
  cs : α → List Value
  key : α → Lit
  ok : α → Prop
  kmk : ∀ a, ok a → keyOf Tryz.prog ty (val a) = some (key a)
  inj : ∀ a b, ok a → ok b → key a = key b → a = b
  lit : ∀ a, WideAt.IsKeyLit (key a)
  len : ∀ a, (cs a).length = sz
  one : ∀ a, ∀ u ∈ cs a, u.oneCell' = true
  law : Keyed Tryz.prog ty
section
variable {α : Type} (K : Kd α)
/-- A map says at which place each item stands. -/
structure IsPl (D : DataW Unit) (l : List α) : Prop where
  tidy : Tidy D
  has : ∀ s, K.ok s → (Maps.has D (K.key s) = true ↔ s ∈ l)
  at_ : ∀ i (h : i < l.length) z, D.atKey (K.key l[i]) z = .lit (.int .i64 (i : Nat))
theorem isPl_nil : IsPl K (.map []) [] := ⟨tidy_empty, fun s _ => (by constructor <;> intro h <;> cases h), fun i h => (by simp at h)⟩
variable {K}
theorem IsPl.new {D : DataW Unit} {l : List α} {s : α} (h : IsPl K D l) (hok : ∀ x ∈ l, K.ok x) (hs : s ∉ l) (ho : K.ok s) : IsPl K (D.put (K.key s) (.lit (.int .i64 (l.length : Nat)))) (l ++ [s]) := by
  refine ⟨h.tidy.put (K.lit s) _, fun t ht => ?_, fun i hi z => ?_⟩
  · by_cases e : t = s
    · subst e; rw [has_put_same h.tidy.isMap (K.lit _)]; simp
    · rw [has_put_other (fun h => e (K.inj _ _ ht ho h)), h.has t ht]; simp [e]
  · by_cases e : i < l.length
    · rw [List.getElem_append_left e]
      have hm : l[i] ∈ l := List.getElem_mem e
      rw [atKey_put_other (fun h => hs (by rw [← K.inj _ _ (hok _ hm) ho h]; exact hm)), h.at_ i e z]
    · have : i = l.length := by simp at hi; omega
      subst this
      rw [List.getElem_append_right (Nat.le_refl _)]
      simp only [Nat.sub_self, List.getElem_cons_zero]
      rw [atKey_put_same h.tidy.isMap (K.lit _)]
variable (K)
/-- A series: its list v and its map m. -/
structure Ser (n0 : Nat) (W : World) (v m : Value) (l : List α) : Prop where
  own : W.ownsRow n0 K.ty K.sz v l.length (l.flatMap K.cs)
  map : (m = .map none ∧ l = []) ∨ ∃ bm D, m = .map (some bm) ∧ n0 ≤ bm ∧ W.ownsMap Tryz.prog K.ty (plainElem Tryz.prog 3) bm l.length D ∧ IsPl K D l
  ok : ∀ x ∈ l, K.ok x
  nod : l.Nodup
variable {K}
/-- The blocks of a series. -/
def SB (v m : Value) (k : Nat) : Prop := v.ownBlock = some k ∨ m = .map (some k)
theorem Ser.only {n0 : Nat} {W W' : World} {v m : Value} {l : List α} {R : Nat → Prop} (h : Ser K n0 W v m l) (ho : Only W W' R) (hn : ∀ k, SB v m k → ¬ R k) : Ser K n0 W' v m l := by
  refine ⟨row_only h.own ho (fun k hk => hn k (.inl hk)), ?_, h.ok, h.nod⟩
  rcases h.map with h1 | ⟨bm, D, rfl, hb, o, hp⟩
  · exact .inl h1
  · have hlt := o.lt
    obtain ⟨es, ck, h1, h2⟩ := o
    exact .inr ⟨bm, D, rfl, hb, ⟨es, ck, (ho.block bm hlt (hn bm (.inr rfl))).trans h1, h2⟩, hp⟩
theorem Ser.below {n0 : Nat} {W W' : World} {v m : Value} {l : List α} (h : Ser K n0 W v m l) (d : Below W.heap.size W W') : Ser K n0 W' v m l :=
  h.only (Only.ofBelow (R := fun _ => False) d) (fun _ _ h => h)
theorem Ser.lt {n0 : Nat} {W : World} {v m : Value} {l : List α} (h : Ser K n0 W v m l) : ∀ k, SB v m k → n0 ≤ k ∧ k < W.heap.size := by
  rintro k (hk | hk)
  · exact World.ownsRow.lt h.own k hk
  · rcases h.map with ⟨rfl, _⟩ | ⟨bm, D, rfl, hb, o, hp⟩
    · simp at hk
    · simp at hk; subst hk; exact ⟨hb, o.lt⟩
theorem Ser.nil (n0 : Nat) (W : World) : Ser K n0 W (.slice none 0 0) (.map none) [] := ⟨World.ownsRow_nil _ _ _ _, .inl ⟨rfl, rfl⟩, by simp, List.nodup_nil⟩
/-- What a series is behind its new item. -/
theorem Ser.put {n0 b o bm t : Nat} {W w2 w4 : World} {C : Array Value} {v v' : Value} {l : List α} {s : α} {D : DataW Unit} (h : Ser K n0 W v (.map (some bm)) l) (hp : IsPl K D l) (hbm : n0 ≤ bm) (hm : W.ownsMap Tryz.prog K.ty (plainElem Tryz.prog 3) bm l.length D) (hs : s ∉ l) (hok : K.ok s)
    (hb : W.heap[b]? = some (.cells C t (0, 0))) (hbn : b < n0) (hm2 : w2.ownsMap Tryz.prog K.ty (plainElem Tryz.prog 3) bm (l.length + 1) (D.put (K.key s) (.lit (.int .i64 (l.length : Nat))))) (hg2 : W.grownBy w2 (some bm))
    (hg4 : w2.grownBy w4 v.ownBlock) (ho4 : w4.ownsRow n0 K.ty K.sz v' (l.length + 1) (l.flatMap K.cs ++ K.cs s)) :
    Ser K n0 (w4.setCell ⟨b, o, none⟩ v') v' (.map (some bm)) (l ++ [s]) ∧ (w4.setCell ⟨b, o, none⟩ v').heap[b]? = some (.cells (C.setIfInBounds o v') t (0, 0)) ∧ Only W (w4.setCell ⟨b, o, none⟩ v') (fun k => k = b ∨ SB v (.map (some bm)) k) := by
  have hblt : b < W.heap.size := (Array.getElem?_eq_some_iff.1 hb).1
  have hvb : some b ≠ v.ownBlock := fun e => by have := (h.own.lt b e.symm).1; omega
  have hvm : some bm ≠ v.ownBlock := fun e => by
    obtain ⟨es, ck, h1, _⟩ := hm
    rcases h.own.2 with ⟨rfl, _⟩ | ⟨g, cap, cur, rfl, _, hg, _⟩
    · simp [Value.ownBlock] at e
    · obtain rfl : bm = g := by simpa [Value.ownBlock] using e
      rw [hg] at h1; cases h1
  have hm4 := hm2.kept hg4 hvm
  have hb4 : w4.heap[b]? = some (.cells C t (0, 0)) := (hg4.block b (Nat.lt_of_lt_of_le hblt hg2.size) hvb).trans ((hg2.block b hblt (by simp; omega)).trans hb)
  refine ⟨⟨?_, .inr ⟨bm, D.put (K.key s) (.lit (.int .i64 (l.length : Nat))), rfl, hbm, ?_, ?_⟩, ?_, ?_⟩, heap_setCell_same w4 b o C t v' hb4, ?_⟩
  · rw [List.length_append, List.length_singleton, List.flatMap_append, List.flatMap_singleton]
    exact row_only ho4 (only_set w4 b o v') (fun k hk e => by have := (ho4.lt k hk).1; omega)
  · rw [List.length_append, List.length_singleton]
    obtain ⟨es, ck, h1, h2⟩ := hm4
    exact ⟨es, ck, ((only_set w4 b o v').block bm (Array.getElem?_eq_some_iff.1 h1).1 (by omega)).trans h1, h2⟩
  · exact hp.new h.ok hs hok
  · intro x hx
    rcases List.mem_append.1 hx with hx | hx
    · exact h.ok x hx
    · simp at hx; subst hx; exact hok
  · rw [List.nodup_append]
    exact ⟨h.nod, by simp, fun a ha b hb he => by simp at hb; subst hb; subst he; exact hs ha⟩
  · have o1 : Only W w2 (fun k => k = b ∨ SB v (.map (some bm)) k) := Only.grown hg2 (fun k hk => .inr (.inr (by cases hk; rfl)))
    exact (o1.trans (Only.grown hg4 (fun k hk => .inr (.inl hk)))).andNew (only_set w4 b o v') (fun i _ e => .inl e)
end
theorem laidOutP : laidOutB Tryz.prog = true := by kernel_rfl
theorem row79 : (57 : TypeId) < Tryz.prog.types.size := of_decide_eq_true (by kernel_rfl)
theorem wide79 : (match Tryz.prog.underlying 57 with | some (.array _ _) | some (.struct _) => true | _ => false) = true := by rw [Tryz.underlying57]
set_option maxRecDepth 100000 in
theorem law79 : Keyed Tryz.prog 57 := Keyed.of_law (deep_law_laid laidOutP (m := 2) (by omega) row79 (by kernel_rfl) wide79)
theorem keyTy79 : Tryz.prog.keyType 57 = true := by kernel_rfl
theorem cells79 : Tryz.prog.cellsOf 57 = 2 := by kernel_rfl
theorem cells3' : Tryz.prog.cellsOf 3 = 1 := by kernel_rfl
theorem key_pair {Q : Program} {k a : TypeId} (hu : Q.underlying k = some (.array 2 a)) (ua : Q.underlying a = some (.int .i64)) (ca : Q.cellsOf a = 1) (ck : Q.cellsOf k = 2) (hkt : Q.keyType k = true) (hk0 : k < Q.types.size) (p r : Int) (w1 : (Lit.int .i64 p).wf = true) (w2 : (Lit.int .i64 r).wf = true) : keyOf Q k (.agg #[.int .i64 p, .int .i64 r]) = some (.string (keyBytes [.int .i64 p, .int .i64 r])) := by
  obtain ⟨n, hn⟩ : ∃ n, Q.types.size = n + 1 := ⟨Q.types.size - 1, (Nat.sub_add_cancel (Nat.lt_of_le_of_lt (Nat.zero_le _) hk0)).symm⟩
  unfold keyOf
  rw [hu]
  simp only [hkt, Value.formed, hu, ck, Value.cells, hn, Program.keyLits]
  simp [ua, ca, w1, w2, List.range, List.range.loop]
abbrev PrT := Int × Int
def prV (s : PrT) : Value := .agg #[.int .i64 s.1, .int .i64 s.2]
def prC (s : PrT) : List Value := [.int .i64 s.1, .int .i64 s.2]
def kPr (s : PrT) : Lit := .string (keyBytes [.int .i64 s.1, .int .i64 s.2])
def okPr (s : PrT) : Prop := (0 ≤ s.1 ∧ s.1 ≤ 8192) ∧ 0 ≤ s.2 ∧ s.2 ≤ 8192
theorem keyPr (s : PrT) (h : okPr s) : keyOf Tryz.prog 57 (prV s) = some (kPr s) :=
  key_pair Tryz.underlying57 Tryz.underlying3 cells3' cells79 keyTy79 row79 s.1 s.2 (WalkArith.wf_i64 (by have := h.1; omega)) (WalkArith.wf_i64 (by have := h.2; omega))
theorem kPr_inj (s t : PrT) (hs : okPr s) (ht : okPr t) (h : kPr s = kPr t) : s = t := by
  have := law79.inj (keyPr s hs) (by rw [h]; exact keyPr t ht)
  obtain ⟨p, r⟩ := s
  obtain ⟨p', r'⟩ := t
  simp only [prV, Value.agg.injEq, Array.mk.injEq, List.cons.injEq, Value.int.injEq, true_and, and_true] at this
  exact Prod.ext this.1 this.2
/-- Pairs as items. -/
def kPrs : Kd PrT where
  ty := 57
  sz := 2
  val := prV
  cs := prC
  key := kPr
  ok := okPr
  kmk := keyPr
  inj := kPr_inj
  lit := fun _ => trivial
  len := fun _ => rfl
  one := fun s u hu => by
    simp only [prC, List.mem_cons, List.not_mem_nil, or_false] at hu
    rcases hu with rfl | rfl <;> rfl
  law := law79
end Go.Proofs.YtchoopnjckcohaaGreat
namespace Go.Proofs.YtchoopnjckcohaaGreat
open Go.RowKit Go.Maps Go.Shelf
attribute [local go_sem] Oper.semAt_some
/-! ### The search for pairs -/
theorem look_in_run {α : Type} (K : Kd α) (w : World) (mt : TypeId) (ht : Tryz.prog.underlying mt = some (.map K.ty 3)) (b : Nat) (l : List α) (i : Nat) (hi : i < l.length) (D : DataW Unit) (hown : w.ownsMap Tryz.prog K.ty (plainElem Tryz.prog 3) b l.length D) (hp : IsPl K D l) (ho : K.ok l[i]) :
    (Instr.lookup mt (.map (some b)) (K.val l[i]) true).run Tryz.prog w = .ok (.tuple #[.int .i64 (i : Nat), .bool true]) w := by
  obtain ⟨v, ps, hrun, hv⟩ := hown.look_ok K.law ht (z := .int .i64 0) (by kernel_rfl) (plainElem_int Tryz.underlying3 (by decide)) (K.kmk _ ho)
  obtain ⟨c, rfl, hc, _⟩ := plainElem_int_inv Tryz.underlying3 hv
  have e : D.atKey (K.key l[i]) (.lit (.int .i64 0)) = .lit (.int .i64 c) := congrArg Prod.fst hc
  rw [hp.at_ i hi] at e
  simp only [DataW.lit.injEq, Lit.int.injEq, true_and] at e
  rw [hrun, (hp.has _ ho).2 (List.getElem_mem hi), ← e]
theorem look_out_run {α : Type} (K : Kd α) (w : World) (mt : TypeId) (ht : Tryz.prog.underlying mt = some (.map K.ty 3)) (b : Nat) (l : List α) (s : α) (hs : s ∉ l) (D : DataW Unit) (hown : w.ownsMap Tryz.prog K.ty (plainElem Tryz.prog 3) b l.length D) (hp : IsPl K D l) (ho : K.ok s) :
    ∃ c : Int, (Instr.lookup mt (.map (some b)) (K.val s) true).run Tryz.prog w = .ok (.tuple #[.int .i64 c, .bool false]) w := by
  obtain ⟨v, ps, hrun, hv⟩ := hown.look_ok K.law ht (z := .int .i64 0) (by kernel_rfl) (plainElem_int Tryz.underlying3 (by decide)) (K.kmk _ ho)
  obtain ⟨c, rfl, hc, _⟩ := plainElem_int_inv Tryz.underlying3 hv
  have : Maps.has D (K.key s) = false := by
    rw [Bool.eq_false_iff]; intro e; exact hs ((hp.has s ho).1 e)
  rw [this] at hrun
  exact ⟨c, hrun⟩
/-- A search: its box, its map, and the three rows that it makes. -/
structure SS (D : Nat) (W : World) (b bm : Nat) (f : Value) (bud : Int) (vp ve vn : Value) (ps : List PrT) (es : List EdT) (nn : Nat) (xn : List Value) : Prop where
  bx : W.heap[b]? = some (.cells #[f, .int .i64 bud, .map (some bm), vp, ve, vn] 71 (0, 0))
  po : W.ownsRow D 57 2 vp ps.length (ps.flatMap prC)
  mo : ∃ Dm, W.ownsMap Tryz.prog 57 (plainElem Tryz.prog 3) bm ps.length Dm ∧ IsPl kPrs Dm ps
  eo : W.ownsRow D 50 3 ve es.length (es.flatMap encE)
  no : W.ownsRow D 3 1 vn nn xn
  ok : ∀ x ∈ ps, okPr x
  nd : ps.Nodup
theorem map_only {W W' : World} {k e : TypeId} {b n : Nat} {Dm : DataW Unit} {R : Nat → Prop} (o : W.ownsMap Tryz.prog k (plainElem Tryz.prog e) b n Dm) (h : Only W W' R) (hn : ¬ R b) : W'.ownsMap Tryz.prog k (plainElem Tryz.prog e) b n Dm := by
  have hlt := o.lt
  obtain ⟨es, ck, h1, h2⟩ := o
  exact ⟨es, ck, (h.block b hlt hn).trans h1, h2⟩
theorem SS.onlyR {D : Nat} {W W' : World} {b bm : Nat} {f : Value} {bud : Int} {vp ve vn : Value} {ps : List PrT} {es : List EdT} {nn : Nat} {xn : List Value} {R : Nat → Prop} (h : SS D W b bm f bud vp ve vn ps es nn xn) (o : Only W W' R) (h1 : ¬ R b) (h2 : ¬ R bm) (h3 : ∀ k, vp.ownBlock = some k → ¬ R k) (h4 : ∀ k, ve.ownBlock = some k → ¬ R k) (h5 : ∀ k, vn.ownBlock = some k → ¬ R k) : SS D W' b bm f bud vp ve vn ps es nn xn := by
  obtain ⟨Dm, hm, hp⟩ := h.mo
  exact ⟨o.cellK h.bx h1, row_only h.po o h3, ⟨Dm, map_only hm o h2, hp⟩, row_only h.eo o h4, row_only h.no o h5, h.ok, h.nd⟩
theorem SS.on {D : Nat} {W W' : World} {b bm : Nat} {f : Value} {bud : Int} {vp ve vn : Value} {ps : List PrT} {es : List EdT} {nn : Nat} {xn : List Value} (h : SS D W b bm f bud vp ve vn ps es nn xn) (d : Below W.heap.size W W') : SS D W' b bm f bud vp ve vn ps es nn xn :=
  h.onlyR (Only.ofBelow (R := fun _ => False) d) id id (fun _ _ => id) (fun _ _ => id) (fun _ _ => id)
theorem pr_new (w : World) (s : PrT) : ∀ (j : Nat) (u : Value), ([Value.int .i64 s.1, Value.int .i64 s.2])[j]? = some u → (w.alloc (.cells #[Value.int .i64 s.1, Value.int .i64 s.2] 57)).cell? ((⟨w.heap.size, 0, none⟩ : Addr).add j) = some u := by
  intro j u hu
  rw [Addr.add_lit, Nat.zero_add]
  refine cell_of (World.alloc_heap_new _ _) ?_
  rw [← hu]
  rw [List.getElem?_toArray]
set_option maxRecDepth 100000 in
set_option maxHeartbeats 4000000 in
theorem full_any (w : World) (D b bm : Nat) (f : Value) (bud : Int) (vp ve vn : Value) (ps : List PrT) (es : List EdT) (nn : Nat) (xn : List Value) (h : Hid (SS D w b bm f bud vp ve vn ps es nn xn)) : Calls Tryz.prog 61 #[.pointer (some ⟨b, 0, none⟩)] w fun e w' => e = .returned (.bool (decide (65536 < es.length))) ∧ w' = w := by
  obtain ⟨ae, ce, hv⟩ := own_slice h.out.eo
  have c4 : w.cell? ⟨b, 4, none⟩ = some (.slice ae es.length ce) := by rw [← hv]; exact cell_of h.out.bx rfl
  clear hv
  have e1 : (decide ((es.length : Int) > 65536)) = decide (65536 < es.length) := by rw [decide_eq_decide]; omega
  go_enter Tryz.func61, Tryz.ntmps61
  go_wp2
  go_ret
  exact ⟨by first | rfl | (rw [← e1]; rfl) | (rw [e1]), rfl⟩
set_option maxRecDepth 100000 in
set_option maxHeartbeats 4000000 in
theorem smeet_old (i : Nat) (w : World) (D b bm : Nat) (f : Value) (bud : Int) (vp ve vn : Value) (ps : List PrT) (es : List EdT) (nn : Nat) (xn : List Value) (s : PrT) (h : Hid (SS D w b bm f bud vp ve vn ps es nn xn)) (hi : i < ps.length) (HS : Hid (s = ps[i])) :
    Calls Tryz.prog 58 #[.pointer (some ⟨b, 0, none⟩), .agg #[.int .i64 s.1, .int .i64 s.2]] w fun e w' => e = .returned (.tuple #[.int .i64 (i : Int), .int .i64 0]) ∧ Below w.heap.size w w' := by
  obtain ⟨ap, cp, hv⟩ := own_slice h.out.po
  have HV := hide hv
  clear hv
  obtain ⟨X, hX⟩ : ∃ X, w.alloc (.cells #[Value.int .i64 s.1, Value.int .i64 s.2] 57) = X := ⟨_, rfl⟩
  have hA : Below w.heap.size w X := by rw [← hX]; exact (Below.refl _ _).alloc (Nat.le_refl _) _
  have hbx : X.heap[w.heap.size]? = some (.cells #[Value.int .i64 s.1, Value.int .i64 s.2] 57 (0, 0)) := by rw [← hX]; exact World.alloc_heap_new _ _
  have hSX := h.out.on hA
  obtain ⟨Dm, hm, hp⟩ := hSX.mo
  have c1 : X.cell? ⟨b, 1, none⟩ = some (.int .i64 bud) := cell_of hSX.bx rfl
  have c2 : X.cell? ⟨b, 2, none⟩ = some (.map (some bm)) := cell_of hSX.bx rfl
  have c3 : X.cell? ⟨b, 3, none⟩ = some (.slice ap ps.length cp) := by rw [← HV.out]; exact cell_of hSX.bx rfl
  have x0 : X.cell? ⟨w.heap.size, 0, none⟩ = some (.int .i64 s.1) := cell_of hbx rfl
  have x1 : X.cell? ⟨w.heap.size, 1, none⟩ = some (.int .i64 s.2) := cell_of hbx rfl
  have hlook := look_in_run kPrs X.drew 69 Tryz.underlying69 bm ps i hi Dm hm.drew hp (hSX.ok _ (List.getElem_mem hi))
  rw [← HS.out] at hlook
  have hlook' : (Instr.lookup 69 (.map (some bm)) (.agg #[.int .i64 s.1, .int .i64 s.2]) true).run Tryz.prog X.drew = _ := hlook
  clear hm hp hlook hSX hbx
  go_enter Tryz.func58, Tryz.ntmps58
  go_wp2_with fail
  go_region
  go_wp2
  refine bodyPost_ret (results_tmp2 rfl _ _ _) rfl ?_
  exact ⟨rfl, hA.drew⟩
set_option maxRecDepth 100000 in
set_option maxHeartbeats 4000000 in
theorem smeet_full (w : World) (D b bm : Nat) (f : Value) (bud : Int) (vp ve vn : Value) (ps : List PrT) (es : List EdT) (nn : Nat) (xn : List Value) (s : PrT) (h : Hid (SS D w b bm f bud vp ve vn ps es nn xn)) (hs : Hid (s ∉ ps)) (hok : Hid (okPr s)) (er : Int) (he : (bud ≤ (ps.length : Int) ∧ er = 9) ∨ (¬ bud ≤ (ps.length : Int) ∧ 4096 ≤ ps.length ∧ er = 8)) :
    Calls Tryz.prog 58 #[.pointer (some ⟨b, 0, none⟩), .agg #[.int .i64 s.1, .int .i64 s.2]] w fun e w' => e = .returned (.tuple #[.int .i64 0, .int .i64 er]) ∧ Below w.heap.size w w' := by
  obtain ⟨ap, cp, hv⟩ := own_slice h.out.po
  have HV := hide hv
  clear hv
  obtain ⟨X, hX⟩ : ∃ X, w.alloc (.cells #[Value.int .i64 s.1, Value.int .i64 s.2] 57) = X := ⟨_, rfl⟩
  have hA : Below w.heap.size w X := by rw [← hX]; exact (Below.refl _ _).alloc (Nat.le_refl _) _
  have hbx : X.heap[w.heap.size]? = some (.cells #[Value.int .i64 s.1, Value.int .i64 s.2] 57 (0, 0)) := by rw [← hX]; exact World.alloc_heap_new _ _
  have hSX := h.out.on hA
  obtain ⟨Dm, hm, hp⟩ := hSX.mo
  have c1 : X.cell? ⟨b, 1, none⟩ = some (.int .i64 bud) := cell_of hSX.bx rfl
  have c2 : X.cell? ⟨b, 2, none⟩ = some (.map (some bm)) := cell_of hSX.bx rfl
  have c3 : X.cell? ⟨b, 3, none⟩ = some (.slice ap ps.length cp) := by rw [← HV.out]; exact cell_of hSX.bx rfl
  have x0 : X.cell? ⟨w.heap.size, 0, none⟩ = some (.int .i64 s.1) := cell_of hbx rfl
  have x1 : X.cell? ⟨w.heap.size, 1, none⟩ = some (.int .i64 s.2) := cell_of hbx rfl
  obtain ⟨c, hlook⟩ := look_out_run kPrs X.drew 69 Tryz.underlying69 bm ps s hs.out Dm hm.drew hp hok.out
  have hlook' : (Instr.lookup 69 (.map (some bm)) (.agg #[.int .i64 s.1, .int .i64 s.2]) true).run Tryz.prog X.drew = _ := hlook
  have HA := hide hA
  clear hm hp hlook hSX hbx hA
  rcases he with ⟨h1, rfl⟩ | ⟨h1, h2, rfl⟩
  · have e1 : (ps.length : Int) ≥ bud := h1
    clear h1
    go_enter Tryz.func58, Tryz.ntmps58
    go_wp2_with fail
    go_region
    go_wp2
    refine bodyPost_ret (results_tmp2 rfl _ _ _) rfl ?_
    exact ⟨rfl, HA.out.drew⟩
  · have e1 : ¬ (ps.length : Int) ≥ bud := h1
    have e2 : (ps.length : Int) ≥ 4096 := by omega
    clear h1 h2
    go_enter Tryz.func58, Tryz.ntmps58
    go_wp2_with fail
    go_region
    go_wp2
    refine bodyPost_ret (results_tmp2 rfl _ _ _) rfl ?_
    exact ⟨rfl, HA.out.drew⟩
theorem infoP79 : (Tryz.prog.info? 57).map (fun i => (i.zero, i.size, i.bytes)) = some (some (.agg #[.int .i64 0, .int .i64 0]), 2, 16) := by kernel_rfl
theorem row_map {W : World} {B n m sz : Nat} {e k x : TypeId} {v : Value} {xs : List Value} {bm : Nat} {Dm : DataW Unit} (h : W.ownsRow B e sz v n xs) (hm : W.ownsMap Tryz.prog k (plainElem Tryz.prog x) bm m Dm) : v.ownBlock ≠ some bm := by
  intro hk
  obtain ⟨es, ck, q1, _⟩ := hm
  rcases h.2 with ⟨e, _⟩ | ⟨g, cap, cur, e, _, hg, _⟩
  · rw [e] at hk; cases hk
  · rw [e] at hk
    obtain rfl : g = bm := by simpa [Value.ownBlock] using hk
    rw [hg] at q1; cases q1
/-- What a search is behind a new pair. -/
theorem SS.put {D : Nat} {W : World} {b bm : Nat} {f : Value} {bud : Int} {vp ve vn : Value} {ps : List PrT} {es : List EdT} {nn : Nat} {xn : List Value} {w2 w4 : World} {v' : Value} {s : PrT} {Dm : DataW Unit} (h : SS D W b bm f bud vp ve vn ps es nn xn) (hbD : b < D) (hp : IsPl kPrs Dm ps) (hm : W.ownsMap Tryz.prog 57 (plainElem Tryz.prog 3) bm ps.length Dm) (hs : s ∉ ps) (hok : okPr s)
    (hm2 : w2.ownsMap Tryz.prog 57 (plainElem Tryz.prog 3) bm (ps.length + 1) (Dm.put (kPr s) (.lit (.int .i64 (ps.length : Nat))))) (hg2 : W.grownBy w2 (some bm)) (hg4 : w2.grownBy w4 vp.ownBlock) (ho4 : w4.ownsRow D 57 2 v' (ps.length + 1) (ps.flatMap prC ++ prC s)) :
    SS D (w4.setCell ⟨b, 3, none⟩ v') b bm f bud v' ve vn (ps ++ [s]) es nn xn ∧ Only W (w4.setCell ⟨b, 3, none⟩ v') (fun k => k = b ∨ k = bm ∨ vp.ownBlock = some k) := by
  have hblt : b < W.heap.size := (Array.getElem?_eq_some_iff.1 h.bx).1
  have hbb : b ≠ bm := by
    rintro rfl
    obtain ⟨es, ck, q1, _⟩ := hm
    rw [h.bx] at q1; cases q1
  have hvb : some b ≠ vp.ownBlock := fun e => by have := (h.po.lt b e.symm).1; omega
  have hvm : some bm ≠ vp.ownBlock := fun e => row_map h.po hm e.symm
  have hm4 := hm2.kept hg4 hvm
  have hb4 : w4.heap[b]? = some (.cells #[f, .int .i64 bud, .map (some bm), vp, ve, vn] 71 (0, 0)) := (hg4.block b (Nat.lt_of_lt_of_le hblt hg2.size) hvb).trans ((hg2.block b hblt (by simp; omega)).trans h.bx)
  have o1 : Only W w2 (fun k => k = b ∨ k = bm ∨ vp.ownBlock = some k) := Only.grown hg2 (fun k hk => .inr (.inl (by cases hk; rfl)))
  have o2 : Only W w4 (fun k => k = bm ∨ vp.ownBlock = some k) := (Only.grown hg2 (R := fun k => k = bm ∨ vp.ownBlock = some k) (fun k hk => .inl (by cases hk; rfl))).trans (Only.grown hg4 (fun k hk => .inr hk))
  have o3 := only_set w4 b 3 v'
  have he4 : w4.ownsRow D 50 3 ve es.length (es.flatMap encE) := row_only h.eo o2 (fun k hk e => by
    rcases e with rfl | e
    · exact row_map h.eo hm hk
    · exact rows_differ h.po h.eo (by decide) e hk)
  have hn4 : w4.ownsRow D 3 1 vn nn xn := row_only h.no o2 (fun k hk e => by
    rcases e with rfl | e
    · exact row_map h.no hm hk
    · exact rows_differ h.po h.no (by decide) e hk)
  refine ⟨⟨?_, ?_, ⟨Dm.put (kPr s) (.lit (.int .i64 (ps.length : Nat))), ?_, ?_⟩, ?_, ?_, ?_, ?_⟩, ?_⟩
  · have := heap_setCell_same w4 b 3 _ 71 v' hb4
    simpa using this
  · rw [List.length_append, List.length_singleton, List.flatMap_append, List.flatMap_singleton]
    exact row_only ho4 o3 (fun k hk e => by have := (ho4.lt k hk).1; omega)
  · rw [List.length_append, List.length_singleton]
    obtain ⟨es, ck, h1, h2⟩ := hm4
    exact ⟨es, ck, (o3.block bm (Array.getElem?_eq_some_iff.1 h1).1 (by omega)).trans h1, h2⟩
  · exact hp.new h.ok hs hok
  · exact row_only he4 o3 (fun k hk e => by have := (he4.lt k hk).1; omega)
  · exact row_only hn4 o3 (fun k hk e => by have := (hn4.lt k hk).1; omega)
  · intro x hx
    rcases List.mem_append.1 hx with hx | hx
    · exact h.ok x hx
    · simp at hx; subst hx; exact hok
  · rw [List.nodup_append]
    exact ⟨h.nd, by simp, fun a ha b hb he => by simp at hb; subst hb; subst he; exact hs ha⟩
  · exact (o1.trans (Only.grown hg4 (fun k hk => .inr (.inr hk)))).andNew o3 (fun i _ e => .inl e)
set_option maxRecDepth 100000 in
set_option maxHeartbeats 4000000 in
theorem smeet_new (w : World) (D b bm : Nat) (f : Value) (bud : Int) (vp ve vn : Value) (ps : List PrT) (es : List EdT) (nn : Nat) (xn : List Value) (s : PrT) (h : Hid (SS D w b bm f bud vp ve vn ps es nn xn)) (hs : Hid (s ∉ ps)) (hok : Hid (okPr s)) (hbD : Hid (b < D ∧ D ≤ w.heap.size)) (e1 : ¬ (ps.length : Int) ≥ bud) (hl : ps.length < 4096) :
    Calls Tryz.prog 58 #[.pointer (some ⟨b, 0, none⟩), .agg #[.int .i64 s.1, .int .i64 s.2]] w fun e w' => e = .returned (.tuple #[.int .i64 (ps.length : Int), .int .i64 0]) ∧ ∃ vp', SS D w' b bm f bud vp' ve vn (ps ++ [s]) es nn xn ∧ Only w w' (fun k => k = b ∨ k = bm ∨ vp.ownBlock = some k) ∧ ∀ k, vp'.ownBlock = some k → vp.ownBlock = some k ∨ w.heap.size ≤ k := by
  obtain ⟨i0, hi, hz0, hz1, hz2⟩ := info_parts infoP79
  obtain ⟨ap, cp, hv⟩ := own_slice h.out.po
  have HV := hide hv
  obtain ⟨X, hX⟩ : ∃ X, w.alloc (.cells #[Value.int .i64 s.1, Value.int .i64 s.2] 57) = X := ⟨_, rfl⟩
  have hA : Below w.heap.size w X := by rw [← hX]; exact (Below.refl _ _).alloc (Nat.le_refl _) _
  have hzX : X.heap.size = w.heap.size + 1 := by rw [← hX]; simp
  have hbx : X.heap[w.heap.size]? = some (.cells #[Value.int .i64 s.1, Value.int .i64 s.2] 57 (0, 0)) := by rw [← hX]; exact World.alloc_heap_new _ _
  have hSX := h.out.on hA
  obtain ⟨Dm, hm, hp⟩ := hSX.mo
  have hblt : b < w.heap.size := (Array.getElem?_eq_some_iff.1 h.out.bx).1
  have hbb : b ≠ bm := by
    rintro rfl
    obtain ⟨es, ck, q1, _⟩ := hm
    rw [hSX.bx] at q1; cases q1
  have hbmlt : bm < w.heap.size := by obtain ⟨_, q, _⟩ := h.out.mo; exact q.lt
  have hvb : ∀ k, vp.ownBlock = some k → D ≤ k ∧ k < w.heap.size := fun k hk => h.out.po.lt k hk
  have c1 : X.cell? ⟨b, 1, none⟩ = some (.int .i64 bud) := cell_of hSX.bx rfl
  have c2 : X.cell? ⟨b, 2, none⟩ = some (.map (some bm)) := cell_of hSX.bx rfl
  have c3 : X.cell? ⟨b, 3, none⟩ = some (.slice ap ps.length cp) := by rw [← hv]; exact cell_of hSX.bx rfl
  have x0 : X.cell? ⟨w.heap.size, 0, none⟩ = some (.int .i64 s.1) := cell_of hbx rfl
  have x1 : X.cell? ⟨w.heap.size, 1, none⟩ = some (.int .i64 s.2) := cell_of hbx rfl
  have e2 : ¬ (ps.length : Int) ≥ 4096 := by omega
  have hkey := keyPr s hok.out
  obtain ⟨c, hlook⟩ := look_out_run kPrs X.drew 69 Tryz.underlying69 bm ps s hs.out Dm hm.drew hp hok.out
  have hlook' : (Instr.lookup 69 (.map (some bm)) (.agg #[.int .i64 s.1, .int .i64 s.2]) true).run Tryz.prog X.drew = _ := hlook
  obtain ⟨w5, hrun5, hm5, hg5⟩ := World.ownsMap.update (w := X.drew.drew) (t := 69) (e := 3) (show X.drew.drew.ownsMap Tryz.prog 57 (plainElem Tryz.prog 3) bm ps.length Dm from hm) law79 Tryz.underlying69 (by unfold maxLen; omega) (val := .int .i64 (ps.length : Nat)) hkey (plainElem_int Tryz.underlying3 (WalkArith.wf_i64 (by omega)))
  have hrun5' : (Instr.mapUpdate 69 (.map (some bm)) (.agg #[.int .i64 s.1, .int .i64 s.2]) (.int .i64 (ps.length : Nat))).run Tryz.prog X.drew.drew = .ok () w5 := hrun5
  have hgX : X.grownBy w5 (some bm) := ⟨hg5.os, hg5.tape, hg5.output, hg5.size, hg5.block⟩
  have hs5 : X.heap.size ≤ w5.heap.size := hgX.size
  have hb5 : w5.heap[b]? = some (.cells #[f, .int .i64 bud, .map (some bm), vp, ve, vn] 71 (0, 0)) := (hgX.block b (by omega) (by simp; omega)).trans hSX.bx
  have hx5 : w5.heap[w.heap.size]? = some (.cells #[Value.int .i64 s.1, Value.int .i64 s.2] 57 (0, 0)) := (hgX.block _ (by omega) (by simp; omega)).trans hbx
  have c05 : w5.cell? ⟨b, 3, none⟩ = some (.slice ap ps.length cp) := by rw [← hv]; exact cell_of hb5 rfl
  have y0 : w5.cell? ⟨w.heap.size, 0, none⟩ = some (.int .i64 s.1) := cell_of hx5 rfl
  have y1 : w5.cell? ⟨w.heap.size, 1, none⟩ = some (.int .i64 s.2) := cell_of hx5 rfl
  have hov : w5.ownsRow D 57 2 (.slice ap ps.length cp) ps.length (ps.flatMap prC) := by
    rw [← hv]
    exact row_only (R := fun k => k = bm) hSX.po (Only.grown hgX (fun k hk => by cases hk; rfl)) (fun k hk e => by subst e; exact row_map hSX.po hm hk)
  have hDs : b < D ∧ D ≤ w.heap.size := hbD.out
  have HS6 := hide (fun (w6 : World) (hg : (w5.alloc (.cells #[Value.int .i64 s.1, Value.int .i64 s.2] 57)).drew.grownBy w6 (Value.slice ap ps.length cp).ownBlock) => show (w6.cell? ⟨b, 3, none⟩ = some (.slice ap ps.length cp) ∧ w6.cell? ⟨w.heap.size, 0, none⟩ = some (.int .i64 s.1) ∧ w6.cell? ⟨w.heap.size, 1, none⟩ = some (.int .i64 s.2)) ∧ w6.frozen? ⟨b, 3, none⟩ = false by
    rw [← hv] at hg
    have q1 : w6.heap[b]? = some (.cells #[f, .int .i64 bud, .map (some bm), vp, ve, vn] 71 (0, 0)) := (hg.block b (by simp; omega) (fun e => by have := (hvb b e.symm).1; omega)).trans ((Below.heap_alloc _ _ b (by omega)).trans hb5)
    have q2 : w6.heap[w.heap.size]? = some (.cells #[Value.int .i64 s.1, Value.int .i64 s.2] 57 (0, 0)) := (hg.block _ (by simp; omega) (fun e => by have := (hvb _ e.symm).2; omega)).trans ((Below.heap_alloc _ _ _ (by omega)).trans hx5)
    exact ⟨⟨by rw [← hv]; exact cell_of q1 rfl, cell_of q2 rfl, cell_of q2 rfl⟩, by simp [World.frozen?, q1]⟩)
  have hbw5 : b < w5.heap.size := by omega
  have hDw5 : D ≤ w5.heap.size + 1 := by omega
  have HX := hide (And.intro hm (And.intro hp (And.intro hm5 (And.intro hgX (And.intro hSX (And.intro hA (And.intro hov (And.intro hDs (And.intro hzX hs5)))))))))
  clear hm hp hlook hrun5 hg5 hgX hm5 hb5 hSX hA hv hbx hx5 hov hDs hbb hzX hs5 hvb hbmlt
  go_enter Tryz.func58, Tryz.ntmps58
  go_wp2_with fail
  go_region
  go_wp2_with fail
  go_region
  go_wp2_with fail
  have hov := HX.out.2.2.2.2.2.2.1
  have cA5 : (w5.alloc (.cells #[Value.int .i64 s.1, Value.int .i64 s.2] 57)).cell? ⟨b, 3, none⟩ = some (.slice ap ps.length cp) := (World.cell?_of_block (a := ⟨b, 3, none⟩) (Below.heap_alloc _ _ b (by omega))).trans c05
  go_region_law (refine step_append_lies _ (by rfl) _ _ _ (by rfl) D 57 i0 _ 2 16 Tryz.underlying29 hi hz0 hz1 hz2 rfl (by omega) (.slice ap ps.length cp) ps.length (ps.flatMap prC) (by rfl) (by exact hov.alloc _) ⟨w5.heap.size, 0, none⟩ 1 1 ([Value.int .i64 s.1, Value.int .i64 s.2]) (by rfl) (by rfl) (by exact pr_new w5 s) (kPrs.one s) (by omega) (by unfold maxLen; omega) (by omega) (by simp; omega) (w5.heap.size + 1) (by simp) ?_; intro gg cap2 w6 hown6 hgr6 hat hlt; have S6 := (HS6.out w6 hgr6).1; have F6 := (HS6.out w6 hgr6).2; have C6 := S6.1; have HF := hide (And.intro hown6 (And.intro hgr6 hat)); clear hown6 hgr6 hat)
  all_goals
    go_wp2
    refine bodyPost_ret (results_tmp2 rfl _ _ _) rfl ?_
    obtain ⟨ho, hgr, hat⟩ := HF.out
    obtain ⟨hm, hp, hm5, hgX, hSX, hA, _, hDs, hzX, hs5⟩ := HX.out
    have hgr2 : w5.grownBy w6 vp.ownBlock := by rw [HV.out]; exact (World.grownBy_alloc w5 (.cells #[Value.int .i64 s.1, Value.int .i64 s.2] 57) _).trans ⟨hgr.os, hgr.tape, hgr.output, hgr.size, hgr.block⟩
    obtain ⟨p1, p3⟩ := SS.put hSX hDs.1 hp hm hs.out hok.out hm5 hgX hgr2 ho
    refine ⟨rfl, _, p1, (Only.ofBelow hA).andNew p3 (fun _ _ e => e), ?_⟩
    intro k hk
    rcases hat with e | e
    · exact .inl (by rw [HV.out, e]; exact hk)
    · right
      simp [Value.ownBlock] at hk
      omega
set_option maxRecDepth 100000 in
set_option maxHeartbeats 4000000 in
theorem lost_any (w : World) (D b bm : Nat) (f : Value) (bud : Int) (vp ve vn : Value) (ps : List PrT) (es : List EdT) (nn : Nat) (xn : List Value) (h : Hid (SS D w b bm f bud vp ve vn ps es nn xn)) : Calls Tryz.prog 60 #[.pointer (some ⟨b, 0, none⟩)] w fun e w' => e = .returned (.bool (decide (65536 < es.length ∧ 4096 < bud))) ∧ w' = w := by
  have c1 : w.cell? ⟨b, 1, none⟩ = some (.int .i64 bud) := cell_of h.out.bx rfl
  by_cases e1 : 65536 < es.length
  · have T := full_any w D b bm f bud vp ve vn ps es nn xn h
    rw [decide_eq_true e1] at T
    have hE := hide e1
    clear e1
    go_enter Tryz.func60, Tryz.ntmps60
    go_wp2_with (go_at_call 61; refine T.mono ?_; rintro e W ⟨rfl, rfl⟩)
    go_ret
    refine ⟨?_, rfl⟩
    simp [hE.out]
  · have T := full_any w D b bm f bud vp ve vn ps es nn xn h
    rw [decide_eq_false e1] at T
    have hE := hide e1
    clear e1
    go_enter Tryz.func60, Tryz.ntmps60
    go_wp2_with (go_at_call 61; refine T.mono ?_; rintro e W ⟨rfl, rfl⟩)
    go_ret
    refine ⟨?_, rfl⟩
    simp [hE.out]
end Go.Proofs.YtchoopnjckcohaaGreat
namespace Go.Proofs.YtchoopnjckcohaaGreat
open Go.RowKit
/-! ### A range over a function whose rounds may leave -/
/-- A function that goes through the values of a list in their order, as long as each round goes on, and stops where one does not. -/
def SeqL (n gf : Nat) (lb : Array Value) (E : List Value) (Kp : World → World → Prop) (w : World) : Prop :=
  ∀ (l : Nat) (J : Nat → World → Prop) (Jx : World → Prop) (W : World), Below w.heap.size w W → (∀ k A A', J k A → Below A.heap.size A A' → J k A') → (∀ A A', Jx A → Below A.heap.size A A' → Jx A') →
    (∀ (k : Nat) (W1 : World) (hk : k < E.length), J k W1 → YieldAt Fence.wide (n - 1) Tryz.prog l #[E[k]] W1 fun e W' => (e = .returned (.bool true) ∧ J (k + 1) W' ∧ Kp W1 W') ∨ (e = .returned (.bool false) ∧ Jx W')) →
    J 0 W → CallsIn Fence.wide n Tryz.prog gf (#[.func (.yield l) #[] #[]] ++ lb) W fun e W' => (∃ v, e = .returned v) ∧ (J E.length W' ∨ Jx W')
/-- How a round's body ends: it goes on, or leaves by a return; the loop's own two blocks are as they were. -/
def mayLeave (L : Nat) (Kp : World → World → Prop) (I : Nat → World → Prop) (Ix : World → Prop) (k : Nat) (W : World) : Exit → Act → World → Prop
  | .normal, _, W' => (W'.heap[L]? = W.heap[L]? ∧ W'.heap[L + 1]? = W.heap[L + 1]?) ∧ Kp W W' ∧ I k W'
  | .ret, _, W' => (W'.heap[L]? = W.heap[L]? ∧ W'.heap[L + 1]? = W.heap[L + 1]?) ∧ Ix W'
  | _, _, _ => False
/-- The loop over such a function. -/
theorem range_leaves {n : Nat} {g : Operand} {t : Tmp} {assign body : Code} {Q : Exit → Act → World → Prop} {a : Act} {w w0 : World} {gf : Nat} {lb : Array Value} {E : List Value} {Kp : World → World → Prop}
    (h1 : 1 ≤ n) (hg : a.eval g = .func (.func gf) #[] lb) (eg : ∀ args w, (callFunc gf args).run Tryz.prog w = .ok (.enter gf args) w) (hseq : SeqL (n - 1) gf lb E Kp w0)
    (hKt : ∀ {A B C : World}, Kp A B → Kp B C → Kp A C) (hKn : ∀ (A B : World), w.heap.size ≤ A.heap.size → Below A.heap.size A B → Kp A B) (hKb : ∀ (W : World) (r r' : Loop), W.heap[w.heap.size + 1]? = some (.loop r) → Kp W (W.putObj (w.heap.size + 1) (.loop r'))) (hb0 : Below w0.heap.size w0 w)
    (I : Nat → World → Prop) (Ix : World → Prop) (hI : ∀ k A A', I k A → Below A.heap.size A A' → I k A') (hIp : ∀ k (A : World) (r r' : Loop), I k A → A.heap[w.heap.size + 1]? = some (.loop r) → I k (A.putObj (w.heap.size + 1) (.loop r'))) (hX : ∀ A A', Ix A → Below A.heap.size A A' → Ix A') (hXp : ∀ (A : World) (r r' : Loop), Ix A → A.heap[w.heap.size + 1]? = some (.loop r) → Ix (A.putObj (w.heap.size + 1) (.loop r'))) (h0 : I 0 w)
    (Ax : Value → Act → World → Prop) (hAp : ∀ x a' (A : World) (r r' : Loop), Ax x a' A → A.heap[w.heap.size + 1]? = some (.loop r) → Ax x a' (A.putObj (w.heap.size + 1) (.loop r')))
    (hassign : ∀ (l : Nat) (x : Value) (hx : x ∈ E) (W : World) (K : Act → World → Prop), (∀ a' W', Below W.heap.size W W' → Ax x a' W' → K a' W') → assign.wpIn (Fence.wide.inRound l) (n - 1 - 1) Tryz.prog (Exit.then K (fun _ _ _ => False)) { tmps := (#[t].zip #[x]).foldl (fun t (p, v) => t.setIfInBounds p v) a.tmps, defers := [] } W)
    (hbody : ∀ (l k : Nat) (a' : Act) (W : World) (hk : k < E.length), I k W → Ax E[k] a' W → W.heap[w.heap.size]? = some (.deferred (some [])) → (∃ r, W.heap[w.heap.size + 1]? = some (.loop r)) → body.wpIn (Fence.wide.inRound l) (n - 1 - 1) Tryz.prog (mayLeave w.heap.size Kp I Ix (k + 1) W) a' W)
    (hdone : ∀ (D : Nat) (W : World), w.heap.size ≤ D → I E.length W → W.heap[D]? = some (.deferred (some [])) → Q .normal { a with defers := { target := .collected D, args := #[] } :: a.defers } W)
    (hstop : ∀ (D : Nat) (W : World), w.heap.size ≤ D → Ix W → W.heap[D]? = some (.deferred (some [])) → Code.ret.wpIn Fence.wide n Tryz.prog Q { a with defers := { target := .collected D, args := #[] } :: a.defers } W) :
    (Code.rangeFunc g #[t] assign body).wpIn Fence.wide n Tryz.prog Q a w := by
  refine wpIn_rangeFunc fun fn hfn => ?_
  obtain ⟨rec, hrec⟩ : ∃ rec : LoopState → Option Code → Loop, rec = fun st pe => { state := st, pending := pe, fn, tmps := a.tmps, params := #[t], assign, body, defers := w.heap.size } := ⟨_, rfl⟩
  obtain ⟨Wl, hWl⟩ : ∃ Wl, (w.alloc (.deferred (some []))).alloc (.loop (rec .ready none)) = Wl := ⟨_, rfl⟩
  have hLl : Wl.heap[w.heap.size + 1]? = some (.loop (rec .ready none)) := by
    rw [← hWl]; have := World.alloc_heap_new (w.alloc (.deferred (some []))) (.loop (rec .ready none)); rwa [World.size_alloc] at this
  have hDl : Wl.heap[w.heap.size]? = some (.deferred (some [])) := by
    rw [← hWl]; exact (Below.heap_alloc _ _ _ (by simp)).trans (World.alloc_heap_new w _)
  have hIl : I 0 Wl := by rw [← hWl]; exact hI _ _ _ (hI _ _ _ h0 ((Below.refl _ _).alloc (Nat.le_refl _) _)) ((Below.refl _ _).alloc (Nat.le_refl _) _)
  have hbl : Below w0.heap.size w0 Wl := by
    rw [← hWl]; exact hb0.trans ((((Below.refl _ w).alloc (Nat.le_refl _) _).alloc (by simp) _).mono hb0.size)
  refine ⟨w.heap.size + 1, [{ target := .collected w.heap.size, args := #[] }], Wl, { target := .fn (.func gf) lb, args := #[.func (.yield (w.heap.size + 1)) #[] #[]] }, Wl, gf,
    #[.func (.yield (w.heap.size + 1)) #[] #[]] ++ lb, Wl, by rw [← hWl, hrec]; exact run_enterLoop_outer _ _ _ _ _, by simp only [resolve, hg]; simp [go_sem], fun f' hf' => trivial, by simp [invoke, go_sem, eg], fun _ => h1, ?_⟩
  refine (hseq (w.heap.size + 1) (fun k W => I k W ∧ W.heap[w.heap.size + 1]? = some (.loop (rec .ready none)) ∧ W.heap[w.heap.size]? = some (.deferred (some []))) (fun W => Ix W ∧ W.heap[w.heap.size + 1]? = some (.loop (rec .done (some .ret))) ∧ W.heap[w.heap.size]? = some (.deferred (some []))) Wl hbl ?_ ?_ ?_ ⟨hIl, hLl, hDl⟩).mono ?_
  · rintro k A A' ⟨hi, hl, hd⟩ hb
    exact ⟨hI _ _ _ hi hb, (hb.block _ (Array.getElem?_eq_some_iff.1 hl).1).trans hl, (hb.block _ (Array.getElem?_eq_some_iff.1 hd).1).trans hd⟩
  · rintro A A' ⟨hi, hl, hd⟩ hb
    exact ⟨hX _ _ hi hb, (hb.block _ (Array.getElem?_eq_some_iff.1 hl).1).trans hl, (hb.block _ (Array.getElem?_eq_some_iff.1 hd).1).trans hd⟩
  · rintro k W hk ⟨hi, hl, hd⟩
    have hy := run_yield (P := Tryz.prog) (args := #[E[k]]) hl (by rw [hrec]; rfl)
    rw [hrec] at hy
    refine ⟨fn, _, assign, body, hy, roundIn_of_wpIn hfn (hassign _ E[k] (List.getElem_mem hk) W _ ?_)⟩
    intro a' Wa hba hax
    have hla : Wa.heap[w.heap.size + 1]? = some (.loop (rec .ready none)) := (hba.block _ (Array.getElem?_eq_some_iff.1 hl).1).trans hl
    have hda : Wa.heap[w.heap.size]? = some (.deferred (some [])) := (hba.block _ (Array.getElem?_eq_some_iff.1 hd).1).trans hd
    have hkn : Kp W Wa := hKn _ _ (by have := (Array.getElem?_eq_some_iff.1 hl).1; omega) hba
    have hlt : w.heap.size + 1 < Wa.heap.size := (Array.getElem?_eq_some_iff.1 hla).1
    refine ⟨_, run_beginRound hla (by rw [hrec]), ?_⟩
    obtain ⟨busy, hbusy⟩ : ∃ busy : Loop, busy = { rec .ready none with state := .busy } := ⟨_, rfl⟩
    have hl2 : (Wa.putObj (w.heap.size + 1) (.loop busy)).heap[w.heap.size + 1]? = some (.loop busy) := World.putObj_heap_same hlt
    have hd2 : (Wa.putObj (w.heap.size + 1) (.loop busy)).heap[w.heap.size]? = some (.deferred (some [])) := (World.putObj_heap_other (by omega)).trans hda
    have hkp : Kp Wa (Wa.putObj (w.heap.size + 1) (.loop busy)) := hKb _ _ _ hla
    rw [← hbusy]
    refine wpIn_mono (hbody _ k a' _ hk (hIp _ _ _ _ (hI _ _ _ hi hba) hla) (hAp _ _ _ _ _ hax hla) hd2 ⟨_, hl2⟩) ?_
    rintro e a3 W3 hp
    cases e with
    | normal =>
      obtain ⟨hk3, hkp3, hi3⟩ := hp
      have hl3 := hk3.2.trans hl2
      have hr3 := run_endRound (P := Tryz.prog) none hl3
      rw [hbusy, hrec] at hr3
      refine ⟨_, _, hr3, .inl ⟨rfl, ⟨hIp _ _ _ _ hi3 hl3, ?_, (World.putObj_heap_other (by omega)).trans (hk3.1.trans hd2)⟩, hKt hkn (hKt (hKt hkp hkp3) (hKb _ _ _ hl3))⟩⟩
      rw [hrec]
      exact World.putObj_heap_same (Array.getElem?_eq_some_iff.1 hl3).1
    | ret =>
      obtain ⟨hk3, hi3⟩ := hp
      have hl3 := hk3.2.trans hl2
      have hr3 := run_endRound (P := Tryz.prog) (some .ret) hl3
      rw [hbusy, hrec] at hr3
      refine ⟨_, _, hr3, .inr ⟨rfl, hXp _ _ _ hi3 hl3, ?_, (World.putObj_heap_other (by omega)).trans (hk3.1.trans hd2)⟩⟩
      rw [hrec]
      exact World.putObj_heap_same (Array.getElem?_eq_some_iff.1 hl3).1
    | exit id => exact hp.elim
    | goto t => exact hp.elim
    | panic ch => exact hp.elim
    | outgrown => exact hp.elim
  · rintro e W2 ⟨⟨v, rfl⟩, ⟨hi, hl, hd⟩ | ⟨hi, hl, hd⟩⟩
    · exact ⟨none, _, by have := run_endLoop (P := Tryz.prog) hl (by rw [hrec]; simp); rw [hrec] at this; exact this, hdone _ _ (Nat.le_refl _) (hIp _ _ _ _ hi hl) ((World.putObj_heap_other (by omega)).trans hd)⟩
    · exact ⟨some .ret, _, by have := run_endLoop (P := Tryz.prog) hl (by rw [hrec]; simp); rw [hrec] at this; exact this, hstop _ _ (Nat.le_refl _) (hXp _ _ _ hi hl) ((World.putObj_heap_other (by omega)).trans hd)⟩
end Go.Proofs.YtchoopnjckcohaaGreat
namespace Go.Proofs.YtchoopnjckcohaaGreat
open Go.RowKit Go.Maps Go.Shelf
attribute [local go_sem] Oper.semAt_some
set_option maxRecDepth 100000 in
set_option maxHeartbeats 1000000 in
theorem of_blk (w : World) (B m R p s n k : Nat) (aE : Option Addr) (cE g : Nat) (Ed : List EdT) (hn : Ed.length = n) (hA : Hid (RwA B w m R Ed aE n cE g)) (hS : Hid (SsE Ed)) (hF : Hid (∀ e ∈ Ed, 0 ≤ e.2.1 ∧ e.2.1 < (m : Int))) (hs : s < m) (hk : p * m + s = k) (hkR : k < R) (hR : R ≤ 524288) (hl : n ≤ 4194304) :
    Calls Tryz.prog 41 #[.agg #[.int .i64 (m : Int), .slice aE n cE, .slice (some ⟨g, 0, none⟩) (R + 1) (R + 1)], .int .i64 (p : Int), .int .i64 (s : Int)] w fun e w' => ∃ a c, e = .returned (.slice a (fromL Ed p (s : Int)).length c) ∧ Hid (RdN w a (toL (fromL Ed p (s : Int))) ∧ (fromL Ed p (s : Int)).length ≤ c ∧ Below w.heap.size w w' ∧ ∀ ga o, a = some ⟨ga, o, none⟩ → ∃ o', aE = some ⟨ga, o', none⟩) := by
  obtain ⟨W0, hW0⟩ : ∃ W0, w.alloc (.cells #[.int .i64 (m : Int), .slice aE n cE, .slice (some ⟨g, 0, none⟩) (R + 1) (R + 1)] 67) = W0 := ⟨_, rfl⟩
  have HD : Hid (Below w.heap.size w W0) := hide (by rw [← hW0]; exact (Below.refl _ _).alloc (Nat.le_refl _) _)
  have b0 : W0.heap[w.heap.size]? = some (.cells #[.int .i64 (m : Int), .slice aE n cE, .slice (some ⟨g, 0, none⟩) (R + 1) (R + 1)] 67 (0, 0)) := by rw [← hW0]; exact World.alloc_heap_new _ _
  have k0 : W0.cell? ⟨w.heap.size, 0, none⟩ = some (.int .i64 (m : Int)) := cell_of b0 rfl
  have k1 : W0.cell? ⟨w.heap.size, 1, none⟩ = some (.slice aE n cE) := cell_of b0 rfl
  have k2 : W0.cell? ⟨w.heap.size, 2, none⟩ = some (.slice (some ⟨g, 0, none⟩) (R + 1) (R + 1)) := cell_of b0 rfl
  have HM := hide (hA.out.fi.below HD.out hA.out.fi.lt)
  have r0 := HM.out.at k (by omega)
  have r1 := HM.out.at (k + 1) (by omega)
  have u0 := lessC_le (kE m Ed) k
  have u1 := lessC_le (kE m Ed) (k + 1)
  have u2 : lessC (kE m Ed) k ≤ lessC (kE m Ed) (k + 1) := by rw [lessC_succ]; omega
  rw [kE_len, hn] at u0 u1
  have HL := hide (subL_len (Es := Ed) (lo := lessC (kE m Ed) k) (hi := lessC (kE m Ed) (k + 1)) (by rw [hn]; exact u1))
  have HC := hide (row_cap hA.out.ow)
  have HO : Hid (RdN w aE (toL Ed)) := hide (own_rdN (c := cE) (by rw [toL_len, hn]; exact hA.out.ow))
  have HR : Hid (∀ g', aE = some ⟨g', 0, none⟩ → RdN w (some ⟨g', lessC (kE m Ed) k, none⟩) (toL (subL Ed (lessC (kE m Ed) k) (lessC (kE m Ed) (k + 1))))) := hide (fun g' e => by
    have q := HO.out
    rw [e] at q
    have q2 := toL_rd q (lessC (kE m Ed) k) (lessC (kE m Ed) (k + 1))
    rw [Nat.zero_add] at q2
    exact q2)
  rw [row_eq hS.out hF.out hs hk] at HL HR
  generalize fromL Ed p (s : Int) = F at HL HR ⊢
  generalize lessC (kE m Ed) k = lo at *
  generalize lessC (kE m Ed) (k + 1) = hi at *
  have epm : (p : Int) * (m : Int) = ((p * m : Nat) : Int) := by simp
  have e1 : IntKind.i64.wrap ((p : Int) * (m : Int)) = (p : Int) * (m : Int) := by rw [epm, IntKind.wrap_i64]; omega
  have e2 : IntKind.i64.wrap ((p : Int) * (m : Int) + (s : Int)) = (k : Int) := by rw [epm, IntKind.wrap_i64]; omega
  have e3 : IntKind.i64.wrap ((k : Int) + 1) = (k : Int) + 1 := by rw [IntKind.wrap_i64]; omega
  have v0 : (0 : Int) ≤ (k : Int) := by omega
  have v1 : (k : Int) < (R : Int) + 1 := by omega
  have v2 : (k : Int) + 1 < (R : Int) + 1 := by omega
  have v3 : (lo : Int) ≤ (hi : Int) := by omega
  have v5 : (k : Int) ≤ 524288 := by omega
  have v6 : (0 : Int) ≤ (lo : Int) := by omega
  clear b0 hA hS hF HO HM epm hk hn
  rcases HC.out with ⟨rfl, rfl, rfl⟩ | ⟨gE, rfl, hc, -⟩
  · obtain rfl : lo = 0 := by omega
    obtain rfl : hi = 0 := by omega
    have hn : F = [] := List.eq_nil_of_length_eq_zero (by have := HL.out; omega)
    subst hn
    clear HR HL HC u0 u1 u2
    go_enter Tryz.func41, Tryz.ntmps41
    go_upto_region 2 with fail
    refine wp_region_phase 13 #[true, true, true, true, true, true, true, true, true, true, true, true, true, false, false] (by kernel_rfl) (by kernel_rfl) ?_
    simp only [List.take_succ_cons, List.take_zero, List.drop_succ_cons, List.drop_zero]
    repeat (go_big_quiet_step (fail))
    refine wpQuiet_nil ?_
    intro wz hzz
    obtain ⟨nq, rfl⟩ := hzz
    go_wp2_with fail
    refine bodyPost_ret (results_tmp rfl _ _ _) rfl ?_
    exact ⟨none, 0, rfl, hide ⟨fun j hj => absurd hj (Nat.not_lt_zero _), Nat.le_refl _, below_drewN2 HD.out nq, fun _ _ e => by cases e⟩⟩
  · have v4 : (hi : Int) ≤ (cE : Int) := by omega
    have HR2 := hide (HR.out gE rfl)
    clear HR HC
    go_enter Tryz.func41, Tryz.ntmps41
    go_upto_region 2 with fail
    refine wp_region_phase 13 #[true, true, true, true, true, true, true, true, true, true, true, true, true, false, false] (by kernel_rfl) (by kernel_rfl) ?_
    simp only [List.take_succ_cons, List.take_zero, List.drop_succ_cons, List.drop_zero]
    repeat (go_big_quiet_step (fail))
    refine wpQuiet_nil ?_
    intro wz hzz
    obtain ⟨nq, rfl⟩ := hzz
    go_wp2_with fail
    · rename cE = lo => hkl
      subst hkl
      refine bodyPost_ret (results_tmp rfl _ _ _) rfl ?_
      have hn : F = [] := List.eq_nil_of_length_eq_zero (by have := HL.out; omega)
      refine ⟨some ⟨gE, 0, none⟩, 0, by rw [HL.out]; rfl, hide ⟨by rw [hn]; intro j hj; exact absurd hj (Nat.not_lt_zero _), by rw [hn]; exact Nat.le_refl _, below_drewN2 HD.out nq, fun _ _ e => by cases e; first | rfl | exact ⟨0, rfl⟩⟩⟩
    · refine bodyPost_ret (results_tmp rfl _ _ _) rfl ?_
      exact ⟨some ⟨gE, lo, none⟩, cE - lo, by rw [HL.out]; rfl, hide ⟨HR2.out, by rw [HL.out]; omega, below_drewN2 HD.out nq, fun _ _ e => by cases e; first | rfl | exact ⟨0, rfl⟩⟩⟩
/-! ### The pairs that a pair leads to -/
/-- All pairs of two lists, the first ahead. -/
def prsL (X Y : List Int) : List PrT := X.flatMap fun p => Y.map fun q => (p, q)
theorem prsL_len (X Y : List Int) : (prsL X Y).length = X.length * Y.length := by
  unfold prsL
  induction X with
  | nil => simp
  | cons x X ih => rw [List.flatMap_cons, List.length_append, ih, List.length_map, List.length_cons, Nat.add_mul, Nat.one_mul, Nat.add_comm]
theorem prsL_at (X Y : List Int) : ∀ (i j : Nat) (hi : i < X.length) (hj : j < Y.length) (h : i * Y.length + j < (prsL X Y).length), (prsL X Y)[i * Y.length + j] = (X[i], Y[j]) := by
  induction X with
  | nil => intro i j hi; simp at hi
  | cons x X ih =>
    intro i j hi hj h
    have e : prsL (x :: X) Y = Y.map (fun q => (x, q)) ++ prsL X Y := rfl
    cases i with
    | zero =>
      simp only [e, Nat.zero_mul, Nat.zero_add, List.getElem_cons_zero]
      rw [List.getElem_append_left (by simpa using hj)]
      simp
    | succ i =>
      have hi' : i < X.length := by simpa using hi
      have hlt : i * Y.length + j < (prsL X Y).length := by
        rw [prsL_len]
        have := Nat.mul_le_mul_right Y.length (show i + 1 ≤ X.length by omega)
        rw [Nat.add_mul, Nat.one_mul] at this
        omega
      have q := ih i j hi' hj hlt
      have ee : (i + 1) * Y.length + j = Y.length + (i * Y.length + j) := by rw [Nat.add_mul, Nat.one_mul]; omega
      simp only [e, ee, List.getElem_cons_succ]
      rw [List.getElem_append_right (by simp)]
      simpa using q
/-- What a round keeps: the safe blocks. -/
structure KpT (Sf : Nat → Prop) (A B : World) : Prop where
  size : A.heap.size ≤ B.heap.size
  blk : ∀ k, k < A.heap.size → Sf k → B.heap[k]? = A.heap[k]?
theorem KpT.refl (Sf : Nat → Prop) (A : World) : KpT Sf A A := ⟨Nat.le_refl _, fun _ _ _ => rfl⟩
theorem KpT.trans {Sf : Nat → Prop} {A B C : World} (h : KpT Sf A B) (k : KpT Sf B C) : KpT Sf A C :=
  ⟨Nat.le_trans h.size k.size, fun i hi hs => (k.blk i (Nat.lt_of_lt_of_le hi h.size) hs).trans (h.blk i hi hs)⟩
theorem KpT.ofBelow {Sf : Nat → Prop} {A B : World} (d : Below A.heap.size A B) : KpT Sf A B := ⟨d.size, fun k hk _ => d.block k hk⟩
theorem KpT.ofOnly {Sf R : Nat → Prop} {A B : World} (d : Only A B R) (h : ∀ k, Sf k → ¬ R k) : KpT Sf A B := ⟨d.size, fun k hk hs => d.block k hk (h k hs)⟩
theorem KpT.cellK {Sf : Nat → Prop} {A B : World} (h : KpT Sf A B) {k : Nat} {o : Obj} (hk : A.heap[k]? = some o) (hs : Sf k) : B.heap[k]? = some o := (h.blk k (Array.getElem?_eq_some_iff.1 hk).1 hs).trans hk
theorem row_kp {Sf : Nat → Prop} {A A' : World} {B : Nat} {e : TypeId} {sz n : Nat} {v : Value} {xs : List Value} (h : A.ownsRow B e sz v n xs) (k : KpT Sf A A') (hs : ∀ i, v.ownBlock = some i → Sf i) : A'.ownsRow B e sz v n xs := by
  refine ⟨h.1, ?_⟩
  have hlt := h.lt
  rcases h.2 with h2 | ⟨g, cap, cur, rfl, hb, hg, rest⟩
  · exact .inl h2
  · exact .inr ⟨g, cap, cur, rfl, hb, (k.blk g (hlt g rfl).2 (hs g rfl)).trans hg, rest⟩
/-- Rows that lie in a box, all of it safe. -/
structure RwT (Sf : Nat → Prop) (W : World) (bx B m R : Nat) (Ed : List EdT) (aE : Option Addr) (cE g : Nat) : Prop where
  hb : W.heap[bx]? = some (.cells #[.int .i64 (m : Int), .slice aE Ed.length cE, .slice (some ⟨g, 0, none⟩) (R + 1) (R + 1)] 67 (0, 0))
  rw : RwA B W m R Ed aE Ed.length cE g
  sx : Sf bx
  sg : Sf g
  se : ∀ i o, aE = some ⟨i, o, none⟩ → Sf i
theorem RwT.kp {Sf : Nat → Prop} {W W' : World} {bx B m R : Nat} {Ed : List EdT} {aE : Option Addr} {cE g : Nat} (h : RwT Sf W bx B m R Ed aE cE g) (k : KpT Sf W W') : RwT Sf W' bx B m R Ed aE cE g := by
  refine ⟨k.cellK h.hb h.sx, ⟨row_kp h.rw.ow k (fun i hi => ?_), ?_, h.rw.ge⟩, h.sx, h.sg, h.se⟩
  · rcases h.rw.ow.2 with ⟨e, _⟩ | ⟨g', cap, cur, e, _⟩
    · rw [e] at hi; cases hi
    · rw [e] at hi
      obtain rfl : g' = i := by simpa [Value.ownBlock] using hi
      cases e
      exact h.se _ _ rfl
  · obtain ⟨cur, q1, q2⟩ := h.rw.fi
    exact ⟨cur, k.cellK q1 h.sg, q2⟩
/-- What together's function reads. -/
structure TgA (Sf : Nat → Prop) (W : World) (b1 b2 fb sb B1 B2 m R1 R2 : Nat) (E1 E2 : List EdT) (a1 a2 : Option Addr) (c1 c2 g1 g2 p q s : Nat) : Prop where
  r1 : RwT Sf W b1 B1 m R1 E1 a1 c1 g1
  r2 : RwT Sf W b2 B2 m R2 E2 a2 c2 g2
  fx : W.heap[fb]? = some (.cells #[.int .i64 (p : Int), .int .i64 (q : Int)] 57 (0, 0))
  sx : W.heap[sb]? = some (.cells #[.int .i64 (s : Int)] 3 (0, 0))
  sf : Sf fb
  ss : Sf sb
theorem TgA.kp {Sf : Nat → Prop} {W W' : World} {b1 b2 fb sb B1 B2 m R1 R2 : Nat} {E1 E2 : List EdT} {a1 a2 : Option Addr} {c1 c2 g1 g2 p q s : Nat} (h : TgA Sf W b1 b2 fb sb B1 B2 m R1 R2 E1 E2 a1 a2 c1 c2 g1 g2 p q s) (k : KpT Sf W W') : TgA Sf W' b1 b2 fb sb B1 B2 m R1 R2 E1 E2 a1 a2 c1 c2 g1 g2 p q s :=
  ⟨h.r1.kp k, h.r2.kp k, k.cellK h.fx h.sf, k.cellK h.sx h.ss, h.sf, h.ss⟩
/-- What is asked of rows and a state. -/
structure RwQ (m R p s : Nat) (Ed : List EdT) : Prop where
  ss : SsE Ed
  ok : ∀ e ∈ Ed, 0 ≤ e.2.1 ∧ e.2.1 < (m : Int)
  hs : s < m
  hk : p * m + s < R
  hR : R ≤ 524288
  hl : Ed.length ≤ 4194304
theorem of_kp {Sf : Nat → Prop} {W : World} {bx B m R p s : Nat} {Ed : List EdT} {aE : Option Addr} {cE g : Nat} (h : RwT Sf W bx B m R Ed aE cE g) (q : RwQ m R p s Ed) :
    Calls Tryz.prog 41 #[.agg #[.int .i64 (m : Int), .slice aE Ed.length cE, .slice (some ⟨g, 0, none⟩) (R + 1) (R + 1)], .int .i64 (p : Int), .int .i64 (s : Int)] W fun e w' => ∃ a c, e = .returned (.slice a (toL (fromL Ed p (s : Int))).length c) ∧ Hid ((∀ W', KpT Sf W W' → RdN W' a (toL (fromL Ed p (s : Int)))) ∧ Below W.heap.size W w') := by
  refine (of_blk W B m R p s Ed.length (p * m + s) aE cE g Ed rfl (hide h.rw) (hide q.ss) (hide q.ok) q.hs rfl q.hk q.hR q.hl).mono ?_
  rintro e w' ⟨a, c, rfl, H⟩
  refine ⟨a, c, by rw [toL_len], hide ⟨fun W' k j hj => ?_, H.out.2.2.1⟩⟩
  obtain ⟨g', o', e', cc⟩ := H.out.1 j hj
  obtain ⟨o2, e2⟩ := H.out.2.2.2 g' o' e'
  exact ⟨g', o', e', (World.cell?_of_block (a := ⟨g', o' + j, none⟩) (k.blk g' (World.block_lt_of_cell? W _ cc) (h.se _ _ e2))).trans cc⟩
open Go.Proofs
/-! ### Regions that draw, inside a round -/
section
variable {P : Program} {ops : Array Oper} {Q : Exit → Act → World → Prop} {l n : Nat} {md : Region.Mode}
theorem opIn_of_op {o : Oper} {a : Act} {w : World} {K : Act → World → Prop} (hd : ∀ c, o.op ≠ .defer c) (h : o.wp P a w K Q) : o.wpIn (Fence.wide.inRound l) n P a w K Q := by
  refine ⟨fun f _ => trivial, ?_⟩
  rw [Oper.semAt_eq _ _ _ hd]
  unfold Oper.wp at h
  generalize (execOp a.eval o).run P w = r at h ⊢
  cases r with
  | ok x w' =>
    cases x <;> simp only [Oper.upon, Oper.uponIn] at h ⊢ <;>
      first
        | exact h
        | exact h.elim
        | exact ⟨fun e => (by cases e), (CallsIn.inRound l (callsIn_wide.2 h)).mono (fun e w'' he => by cases e <;> exact he)⟩
        | exact ⟨fun e => (by cases e), fun c cs _ => let ⟨v, w'', r, s⟩ := h c cs; ⟨v, w'', r, stepsIn_wide.2 s⟩⟩
  | halt x w' => cases x <;> simp only [Oper.upon, Oper.uponIn] at h ⊢ <;> exact h
theorem anyIn_of_any (hd : ∀ (i : Nat) (o : Oper), ops[i]? = some o → ∀ c, o.op ≠ .defer c) (hQ : ¬ LetsOut Q) : ∀ (fuel : Nat) (listed : Array Bool) (a : Act) (w : World), wpAny P md ops Q fuel listed a w → wpAnyIn (Fence.wide.inRound l) n P md ops Q fuel listed a w := by
  intro fuel
  induction fuel with
  | zero => exact fun _ _ _ h => h
  | succ fuel ih =>
    intro listed a w h
    refine ⟨h.1, fun i hi => ?_⟩
    have h2 := h.2 i hi
    unfold wpOp at h2
    unfold wpOpIn
    cases ho : ops[i]? with
    | none => rw [ho] at h2; exact ih _ _ _ h2
    | some o =>
      rw [ho] at h2
      simp only at h2 ⊢
      by_cases hw : Region.wanted o (yielded ops a.tmps) = true
      · rw [if_pos hw] at h2 ⊢
        rcases h2 with h2 | ⟨_, h2⟩
        · exact Oper.wpIn_mono (fun a w => ih _ a w) (opIn_of_op (hd i o ho) h2)
        · exact absurd h2 hQ
      · rw [if_neg hw] at h2 ⊢
        exact ⟨fun f _ => trivial, ih _ _ _ h2⟩
/-- Only the normal way on. -/
def onlyN (K : Act → World → Prop) : Exit → Act → World → Prop
  | .normal, a, w => K a w
  | _, _, _ => False
theorem wpIn_region_of_any {id : Nat} {a : Act} {w : World} (hm : P.follows .mixedOrders = true) (hd : ∀ (i : Nat) (o : Oper), ops[i]? = some o → ∀ c, o.op ≠ .defer c) (h : wpAny P .any ops (onlyN (Q .normal)) ops.size (Array.replicate ops.size false) a w.drew) : (Code.region id ops true).wpIn (Fence.wide.inRound l) n P Q a w := by
  refine wpIn_mono (Q := onlyN (Q .normal)) (wpIn_region_any hm (anyIn_of_any hd (fun ⟨_, _, h⟩ => h) _ _ _ _ h)) ?_
  intro e a w h
  cases e with
  | normal => exact h
  | _ => exact h.elim
end
/-! ### lead, with its frame -/
theorem compact_cap (W : World) (B n : Nat) (v : Value) (L : List Int) (hn : n = L.length) (hv : W.ownsRow B 3 1 v n (L.map (Value.int .i64))) (hl : n ≤ 4194304) :
    Calls Tryz.prog 87 #[v] W fun e w' => ∃ v', e = .returned v' ∧ w'.ownsRow B 3 1 v' (Lib.compact L).length ((Lib.compact L).map (Value.int .i64)) ∧ W.grownBy w' v.ownBlock ∧ ((v = .slice none 0 0 ∧ v' = .slice none 0 0) ∨ ∃ g cap k, v = .slice (some ⟨g, 0, none⟩) n cap ∧ v' = .slice (some ⟨g, 0, none⟩) k cap) := by
  rcases hv.2 with ⟨ev, e0⟩ | ⟨g, cap, cur, rfl, _⟩
  · subst ev e0
    obtain rfl : L = [] := List.eq_nil_of_length_eq_zero hn.symm
    refine (Tryz.slices_Compact_int_empty none 0 W).mono ?_
    rintro e w' ⟨rfl, rfl⟩
    have : Lib.compact ([] : List Int) = [] := List.eq_nil_of_length_eq_zero (Nat.le_zero.1 (compact_len _))
    rw [this]
    exact ⟨_, rfl, hv, ⟨rfl, rfl, rfl, Nat.le_refl _, fun _ _ _ => rfl⟩, .inl ⟨rfl, rfl⟩⟩
  · refine (compactI_any W B g cap n L hn hv hl).mono ?_
    rintro e w' ⟨rfl, a, b⟩
    exact ⟨_, rfl, a, b, .inr ⟨g, cap, _, rfl, rfl⟩⟩
theorem led_row {w wr : World} {B n : Nat} {vL vc : Value} {k : Nat} {xs ys : List Value} (h : (vL = .slice none 0 0 ∧ n = 0) ∨ ∃ g cap cur, vL = .slice (some ⟨g, 0, none⟩) n cap ∧ B ≤ g ∧ w.heap[g]? = some (.cells cur 3 (0, 0)) ∧ n ≤ cap ∧ cap ≤ maxLen ∧ cur.size = cap * 1 ∧ cur.toList.take (n * 1) = xs)
    (hb : (vL = .slice none 0 0 ∧ vc = .slice none 0 0) ∨ ∃ g cap k, vL = .slice (some ⟨g, 0, none⟩) n cap ∧ vc = .slice (some ⟨g, 0, none⟩) k cap) (hc : wr.ownsRow B 3 1 vc k ys) : ∃ zs, wr.ownsRow B 3 1 vL n zs := by
  rcases h with ⟨e1, e2⟩ | ⟨g, cap, cur, e1, h1, _, h3, h4, _, _⟩
  · exact ⟨[], by simp [e2], .inl ⟨e1, e2⟩⟩
  · rcases hb with ⟨e, _⟩ | ⟨g', cap', k', e2, e3⟩
    · rw [e1] at e; cases e
    · rw [e1] at e2
      cases e2
      rcases hc.2 with ⟨e4, _⟩ | ⟨g2, cap2, cur2, e4, q1, q2, q3, q4, q5, _⟩
      · rw [e3] at e4; cases e4
      · rw [e3] at e4
        cases e4
        refine ⟨cur2.toList.take (n * 1), ?_, .inr ⟨g, cap, cur2, e1, h1, q2, h3, h4, q5, rfl⟩⟩
        rw [List.length_take, Array.length_toList, q5]
        omega
theorem wpList_appP {ops : Array Oper} {rest : List Oper} {o : Oper} {a : Act} {Q : Exit → Act → World → Prop} {w : World} (hgd : o.guard = none) (s x : Operand)
    (ho : o.op = .call { callee := .builtin .append, args := #[s, x], argTypes := #[23, 23] }) (B : Nat) (v : Value) (X : List EdT) (hs : a.eval s = v) (hown : w.ownsRow B 50 3 v X.length (X.flatMap encE)) (p : Nat) (y : EdT) (hx : a.eval x = .slice (some ⟨p, 0, none⟩) 1 1) (hp : w.heap[p]? = some (.cells #[.int .i64 y.1, .int .i64 y.2.1, .int .i64 y.2.2] 50 (0, 0))) (hl : X.length ≤ 16777216) (hB : B ≤ w.heap.size)
    (h : ∀ v' w', Hid (w'.ownsRow B 50 3 v' (X ++ [y]).length ((X ++ [y]).flatMap encE)) → Hid (Only w w' (fun k => v.ownBlock = some k)) → Hid (v'.ownBlock = v.ownBlock ∨ v'.ownBlock = some w.heap.size) → wpList Tryz.prog ops Q rest (a.put o.dst v') w') : wpList Tryz.prog ops Q (o :: rest) a w := by
  obtain ⟨i5, hi5, hz50, hz51, hz52⟩ := info_parts info59
  refine wpList_append_own_at _ hgd s x 23 ho B 50 i5 _ 3 24 Tryz.underlying23 hi5 hz50 hz51 hz52 rfl (by omega) v X.length (X.flatMap encE) hs hown ⟨p, 0, none⟩ 1 1 (encE y) hx rfl (three_cells hp) (by simp [encE, Value.oneCell']) (by unfold maxLen; omega) (by omega) (by omega) ?_
  intro v2 w2 h2 hgr _ hn
  exact h v2 w2 (hide (by rw [List.flatMap_append, List.length_append]; simpa using h2)) (hide (grown_only hgr)) (hide hn)
/-- What lead holds. -/
structure LedJ (w : World) (B : Nat) (E : List EdT) (p s : Int) (C : List Int) (i : Nat) (vE vL vc v : Value) (wr : World) : Prop where
  ed : wr.ownsRow B 50 3 v (ledL E p s (C.take i)).length ((ledL E p s (C.take i)).flatMap encE)
  en : wr.ownsRow B 3 1 vc C.length (C.map (Value.int .i64))
  on : Only w wr (fun k => vE.ownBlock = some k ∨ vL.ownBlock = some k)
  at' : ∀ k, v.ownBlock = some k → vE.ownBlock = some k ∨ w.heap.size ≤ k
theorem ledJ_next {w wr w5 : World} {B i : Nat} {E : List EdT} {p s : Int} {C : List Int} {vE vL vc v v5 : Value} {cs : Array Value} (h : LedJ w B E p s C i vE vL vc v wr) (hi : i < C.length) (ho : w5.ownsRow B 50 3 v5 (ledL E p s (C.take i) ++ [(p, s, C[i])]).length ((ledL E p s (C.take i) ++ [(p, s, C[i])]).flatMap encE)) (oo : Only (wr.alloc (.cells cs 50)) w5 (fun k => v.ownBlock = some k)) (ha : v5.ownBlock = v.ownBlock ∨ v5.ownBlock = some (wr.alloc (.cells cs 50)).heap.size) : LedJ w B E p s C (i + 1) vE vL vc v5 w5 := by
  have d1 : Below wr.heap.size wr (wr.alloc (.cells cs 50)) := (Below.refl _ _).alloc (Nat.le_refl _) _
  have e1 := own_below h.ed d1
  have c1 := own_below h.en d1
  have hsz := h.on.size
  refine ⟨by rw [ledL_snoc _ _ _ _ _ hi]; exact ho, row_only c1 oo (fun k hk hk2 => rows_differ e1 c1 (by decide) hk2 hk), ?_, ?_⟩
  · refine (h.on.trans (Only.ofBelow d1)).andNew oo (fun k hk e => ?_)
    rcases h.at' k e with q | q
    · exact .inl q
    · omega
  · intro k hk
    rcases ha with q | q
    · exact h.at' k (q ▸ hk)
    · right
      rw [q] at hk
      simp at hk
      omega
set_option maxRecDepth 100000 in
set_option maxHeartbeats 1000000 in
theorem lead_own (w : World) (B : Nat) (vE vL : Value) (E : List EdT) (p s : Int) (n : Nat) (L : List Int) (hn : n = L.length) (hE : Hid (w.ownsRow B 50 3 vE E.length (E.flatMap encE))) (hL : Hid (w.ownsRow B 3 1 vL n (L.map (Value.int .i64)))) (hB : B ≤ w.heap.size) (hl : n ≤ 4194304) (hl2 : E.length ≤ 4194304) :
    Calls Tryz.prog 75 #[vE, .int .i64 p, .int .i64 s, vL] w fun e w' => ∃ v', e = .returned v' ∧ Hid (w'.ownsRow B 50 3 v' (ledL E p s (riseL L)).length ((ledL E p s (riseL L)).flatMap encE) ∧ (∃ xs, w'.ownsRow B 3 1 vL n xs) ∧ Only w w' (fun k => vE.ownBlock = some k ∨ vL.ownBlock = some k) ∧ ∀ k, v'.ownBlock = some k → vE.ownBlock = some k ∨ w.heap.size ≤ k) := by
  have TS := sort_own w B n vL L hn hL.out hl
  obtain ⟨C, hC⟩ : ∃ C, riseL L = C := ⟨_, rfl⟩
  have hCl : C.length ≤ 4194304 := by rw [← hC]; have := riseL_len L; omega
  rw [hC]
  have HC := hide hC
  clear hC
  go_enter Tryz.func75, Tryz.ntmps75
  go_wp2_with (go_at_call 86; refine TS.mono ?_; rintro e w1 ⟨rfl, o1, g1⟩)
  have HO := hide (And.intro o1 g1)
  clear TS o1 g1
  have TC := compact_cap w1 B n vL (sortI L) (by rw [sortI_len]; exact hn) HO.out.1 hl
  rw [show Lib.compact (sortI L) = riseL L from rfl, HC.out] at TC
  go_wp2_with (go_at_call 87; refine TC.mono ?_; rintro e w2 ⟨v2, rfl, o2, g2, b2'⟩; have b2 := hide b2'; clear b2'; obtain ⟨ac, cc, rfl⟩ := own_slice o2)
  have H0 : Hid (LedJ w B E p s C 0 vE vL (.slice ac C.length cc) vE w2) := hide (by
    have e1 := row_only hE.out (grown_only HO.out.2) (fun k hk hk2 => rows_differ hE.out hL.out (by decide) hk hk2)
    have e2 := row_only e1 (grown_only g2) (fun k hk hk2 => rows_differ e1 HO.out.1 (by decide) hk hk2)
    have d1 : Only w w1 (fun k => vE.ownBlock = some k ∨ vL.ownBlock = some k) := Only.grown HO.out.2 (fun k hk => .inr hk)
    have d2 : Only w1 w2 (fun k => vE.ownBlock = some k ∨ vL.ownBlock = some k) := Only.grown g2 (fun k hk => .inr hk)
    have z : ledL E p s (C.take 0) = E := by simp [ledL]
    exact ⟨by rw [z]; exact e2, o2, d1.trans d2, fun k hk => .inl hk⟩)
  have HLr := hide (And.intro hL.out.2 hn)
  clear TC HO o2 g2 hL hE hn HC
  go_loopw [0, 16] (fun ev iv wr => ∃ i : Nat, i ≤ C.length ∧ iv = .int .i64 (i : Int) ∧ Hid (LedJ w B E p s C i vE vL (.slice ac C.length cc) ev wr)) (fun _ iv _ => C.length - (intOf iv).toNat)
  case atStart => exact ⟨0, Nat.zero_le _, rfl, H0⟩
  case round =>
    obtain ⟨i, hi, rfl, HY⟩ := hrel
    clear H0
    by_cases hil : i < C.length
    · have i0 : (0 : Int) ≤ (i : Int) := by omega
      have i1 : (i : Int) < (C.length : Int) := by omega
      obtain ⟨g, o, rfl, q⟩ := own_rdN HY.out.en i hil
      have hbw : B ≤ wr.heap.size := Nat.le_trans hB HY.out.on.size
      have hll : (ledL E p s (C.take i)).length ≤ 16777216 := by rw [ledL_len, List.length_take]; omega
      obtain ⟨x, hx⟩ : ∃ x, C[i] = x := ⟨_, rfl⟩
      rw [hx] at q
      have HX := hide hx
      clear hx
      go_wp2_with (at_builtin; refine wpList_appP rfl _ _ rfl B u0 (ledL E p s (C.take i)) rfl (own_below HY.out.ed ((Below.refl _ _).alloc (Nat.le_refl _) _)) wr.heap.size (p, s, x) rfl (World.alloc_heap_new _ _) hll (by rw [World.size_alloc]; omega) ?_; intro v5 w5 HO5 HG5 HA5)
      refine ⟨⟨i + 1, by omega, by go_num, hide (ledJ_next HY.out hil (by rw [HX.out]; exact HO5.out) HG5.out HA5.out)⟩, by simp [intOf]; omega⟩
    · obtain rfl : i = C.length := by omega
      have i1 : ¬ (C.length : Int) < (C.length : Int) := by omega
      go_wp2_with fail
      refine bodyPost_ret (results_tmp rfl _ _ _) rfl ?_
      have z := HY.out.ed
      rw [List.take_length] at z
      exact ⟨_, rfl, hide ⟨z, led_row HLr.out.1 b2.out HY.out.en, HY.out.on, HY.out.at'⟩⟩
/-! ### What the search does with the pairs that come -/
/-- The pairs met so far, and the numbers of those that came. -/
def metF (bud : Int) (fl : Bool) : List PrT → List PrT → List Int → Int × List PrT × List Int
  | ps, [], ns => (0, ps, ns)
  | ps, t :: ts, ns => if t ∈ ps then metF bud fl ps ts (if fl then ns else ns ++ [(ps.idxOf t : Int)]) else if bud ≤ (ps.length : Int) then (9, ps, ns) else if 4096 ≤ ps.length then (8, ps, ns) else metF bud fl (ps ++ [t]) ts (if fl then ns else ns ++ [(ps.length : Int)])
/-! ### In turn -/
def trnL (X Y : List Int) (p q : Int) : List PrT := X.map (fun x => (x, q)) ++ Y.map (fun y => (p, y))
theorem trnL_len (X Y : List Int) (p q : Int) : (trnL X Y p q).length = X.length + Y.length := by simp [trnL]
theorem trnL_lo (X Y : List Int) (p q : Int) (k : Nat) (hk : k < X.length) (h : k < (trnL X Y p q).length) : (trnL X Y p q)[k] = (X[k], q) := by
  simp [trnL, List.getElem_append_left, hk]
theorem trnL_hi (X Y : List Int) (p q : Int) (j : Nat) (hj : j < Y.length) (h : X.length + j < (trnL X Y p q).length) : (trnL X Y p q)[X.length + j] = (p, Y[j]) := by
  simp [trnL, List.getElem_append_right]
set_option maxRecDepth 100000 in
set_option maxHeartbeats 4000000 in
theorem trn_seq (n : Nat) (Sf : Nat → Prop) (w : World) (b1 b2 fb sb B1 B2 m R1 R2 : Nat) (E1 E2 : List EdT) (a1 a2 : Option Addr) (c1 c2 g1 g2 p q s : Nat) (h : Hid (TgA Sf w b1 b2 fb sb B1 B2 m R1 R2 E1 E2 a1 a2 c1 c2 g1 g2 p q s)) (q1 : Hid (RwQ m R1 p s E1)) (q2 : Hid (RwQ m R2 q s E2)) :
    SeqL n 40 #[.pointer (some ⟨b1, 0, none⟩), .pointer (some ⟨fb, 0, none⟩), .pointer (some ⟨sb, 0, none⟩), .pointer (some ⟨b2, 0, none⟩)] ((trnL (toL (fromL E1 p (s : Int))) (toL (fromL E2 q (s : Int))) (p : Int) (q : Int)).map prV) (KpT Sf) w := by
  intro l J Jx W hW hJ hJx hY h0
  have HJ := hide hJ
  have HJx := hide hJx
  have HY := hide hY
  have HT := hide (h.out.kp (KpT.ofBelow (Sf := Sf) hW))
  have T1 := of_kp HT.out.r1 q1.out
  generalize hX : toL (fromL E1 p (s : Int)) = X at *
  have T2 := fun (wr : World) (k : KpT Sf W wr) => of_kp (HT.out.r2.kp k) q2.out
  generalize hYl : toL (fromL E2 q (s : Int)) = Y at *
  have HT2 := hide T2
  have hXl : X.length ≤ 4194304 := by
    have := q1.out.hl
    rw [← hX, toL_len]
    exact Nat.le_trans (List.length_filter_le _ _) this
  have hYl2 : Y.length ≤ 4194304 := by
    have := q2.out.hl
    rw [← hYl, toL_len]
    exact Nat.le_trans (List.length_filter_le _ _) this
  have HC := hide (fun (wr : World) (k : KpT Sf W wr) => HT.out.kp k)
  have x1 := HT.out.r1.hb
  have k0 : W.cell? ⟨b1, 0, none⟩ = some (.int .i64 (m : Int)) := cell_of HT.out.r1.hb rfl
  have k1 : W.cell? ⟨b1, 1, none⟩ = some (.slice a1 E1.length c1) := cell_of HT.out.r1.hb rfl
  have k2 : W.cell? ⟨b1, 2, none⟩ = some (.slice (some ⟨g1, 0, none⟩) (R1 + 1) (R1 + 1)) := cell_of HT.out.r1.hb rfl
  have k3 : W.cell? ⟨fb, 0, none⟩ = some (.int .i64 (p : Int)) := cell_of HT.out.fx rfl
  have k5 : W.cell? ⟨sb, 0, none⟩ = some (.int .i64 (s : Int)) := cell_of HT.out.sx rfl
  clear hJ hJx hY hW h hX hYl T2 x1 q1 q2
  refine callsIn_of_wp Tryz.func40 rfl trivial ?_ rfl
  simp only [Tryz.ntmps40, List.size_toArray, List.length_cons, List.length_nil, Nat.reduceAdd, Nat.reduceSub, Array.replicate_succ, Array.replicate_zero, List.push_toArray, List.append_toArray, List.nil_append, List.cons_append]
  gi_wp2
  refine ⟨trivial, (fun h => by cases h), (callsIn_wide.2 T1).mono ?_⟩
  rintro e W1 ⟨ax, cx, rfl, H1⟩
  have HX := hide H1.out.1
  have hK1 : KpT Sf W W1 := KpT.ofBelow H1.out.2
  have hJ1 := HJ.out 0 W W1 h0 H1.out.2
  clear T1 k0 k1 k2 k3 k5 h0 H1
  gi_wp2
  gi_loopw [16] (fun i wr => ∃ (k : Nat), k ≤ X.length ∧ i = .int .i64 k ∧ KpT Sf W wr ∧ J k wr) (fun i _ => X.length - (intOf i).toNat)
  case atStart => exact ⟨0, Nat.zero_le _, rfl, hK1, hJ1⟩
  case round =>
    clear hK1 hJ1
    obtain ⟨k, hk, rfl, hkp, hJk⟩ := hrel
    by_cases hlt : k < X.length
    · obtain ⟨gx, ox, rfl, cx'⟩ := HX.out wr hkp k hlt
      have HT3 := hide (HC.out wr hkp)
      have k3 : wr.cell? ⟨fb, 1, none⟩ = some (.int .i64 (q : Int)) := cell_of HT3.out.fx rfl
      have hcl : k < (trnL X Y (p : Int) (q : Int)).length := by rw [trnL_len]; omega
      have hv : ((trnL X Y (p : Int) (q : Int)).map prV)[k]'(by rw [List.length_map]; exact hcl) = .agg #[.int .i64 X[k], .int .i64 (q : Int)] := by
        rw [List.getElem_map, trnL_lo X Y _ _ k hlt hcl]; rfl
      obtain ⟨fn, tmps, assign, body, hyy, hR⟩ := HY.out k _ (by rw [List.length_map]; exact hcl) hJk
      rw [hv] at hyy
      clear hv
      generalize hx : X[k] = x at *
      have hlt' : (k : Int) < (X.length : Int) := by omega
      gi_wp2
      refine ⟨(fun h => by cases h), hR.mono ?_⟩
      rintro e W3 (⟨rfl, hJ3, hk3⟩ | ⟨rfl, hx3⟩)
      · gi_wp2
        go_roundw
        case rel => exact ⟨k + 1, by omega, by go_num, hkp.trans hk3, hJ3⟩
        case measure => simp [intOf]; omega
      · gi_wp2
        refine bodyPost_ret (results_none rfl _ _ _) rfl ?_
        exact ⟨⟨_, rfl⟩, .inr hx3⟩
    · have hlt' : ¬ (k : Int) < (X.length : Int) := by omega
      obtain rfl : k = X.length := by omega
      have HT3 := hide (HC.out wr hkp)
      have k0 : wr.cell? ⟨b2, 0, none⟩ = some (.int .i64 (m : Int)) := cell_of HT3.out.r2.hb rfl
      have k1 : wr.cell? ⟨b2, 1, none⟩ = some (.slice a2 E2.length c2) := cell_of HT3.out.r2.hb rfl
      have k2 : wr.cell? ⟨b2, 2, none⟩ = some (.slice (some ⟨g2, 0, none⟩) (R2 + 1) (R2 + 1)) := cell_of HT3.out.r2.hb rfl
      have k3 : wr.cell? ⟨fb, 1, none⟩ = some (.int .i64 (q : Int)) := cell_of HT3.out.fx rfl
      have k5 : wr.cell? ⟨sb, 0, none⟩ = some (.int .i64 (s : Int)) := cell_of HT3.out.sx rfl
      have T3 := HT2.out wr hkp
      gi_wp2
      refine ⟨trivial, (fun h => by cases h), (callsIn_wide.2 T3).mono ?_⟩
      rintro e W2 ⟨ay, cy, rfl, H2⟩
      have HYr := hide H2.out.1
      have hK2 : KpT Sf wr W2 := KpT.ofBelow H2.out.2
      have hJ2 := HJ.out _ wr W2 hJk H2.out.2
      clear T3 k0 k1 k2 k3 k5 hJk H2 HT3
      gi_wp2
      gi_loopw [34] (fun i wi => ∃ (j : Nat), j ≤ Y.length ∧ i = .int .i64 j ∧ KpT Sf wr wi ∧ J (X.length + j) wi) (fun i _ => Y.length - (intOf i).toNat)
      case atStart => exact ⟨0, Nat.zero_le _, rfl, hK2, hJ2⟩
      case round =>
        clear hK2 hJ2
        obtain ⟨j, hj, rfl, hkq, hJj⟩ := hrel
        by_cases hlj : j < Y.length
        · obtain ⟨gy, oy, rfl, cy'⟩ := HYr.out _ hkq j hlj
          have HT4 := hide (HC.out _ (hkp.trans hkq))
          have k4 := cell_of (j := 0) HT4.out.fx rfl
          have hcl : X.length + j < (trnL X Y (p : Int) (q : Int)).length := by rw [trnL_len]; omega
          have hv : ((trnL X Y (p : Int) (q : Int)).map prV)[X.length + j]'(by rw [List.length_map]; exact hcl) = .agg #[.int .i64 (p : Int), .int .i64 Y[j]] := by
            rw [List.getElem_map, trnL_hi X Y _ _ j hlj hcl]; rfl
          obtain ⟨fn, tmps, assign, body, hyy, hR⟩ := HY.out (X.length + j) _ (by rw [List.length_map]; exact hcl) hJj
          rw [hv] at hyy
          clear hv
          generalize hy : Y[j] = y at *
          have hlj' : (j : Int) < (Y.length : Int) := by omega
          gi_wp2
          refine ⟨(fun h => by cases h), hR.mono ?_⟩
          rintro e W3 (⟨rfl, hJ3, hk3⟩ | ⟨rfl, hx3⟩)
          · gi_wp2
            go_roundw
            case rel => exact ⟨j + 1, by omega, by go_num, hkq.trans hk3, hJ3⟩
            case measure => simp [intOf]; omega
          · gi_wp2
            refine bodyPost_ret (results_none rfl _ _ _) rfl ?_
            exact ⟨⟨_, rfl⟩, .inr hx3⟩
        · have hlj' : ¬ (j : Int) < (Y.length : Int) := by omega
          obtain rfl : j = Y.length := by omega
          gi_wp2
          go_end0
          exact ⟨⟨_, rfl⟩, .inl (by rw [trnL_len]; exact hJj)⟩
set_option maxHeartbeats 1000000 in
theorem trn1_any (p q s : Int) (b1 b2 : Nat) (w : World) :
    Calls Tryz.prog 39 #[.agg #[.int .i64 p, .int .i64 q], .int .i64 s, .pointer (some ⟨b1, 0, none⟩), .pointer (some ⟨b2, 0, none⟩)] w fun e w' => e = .returned (.func (.func 40) #[] #[.pointer (some ⟨b1, 0, none⟩), .pointer (some ⟨w.heap.size, 0, none⟩), .pointer (some ⟨w.heap.size + 1, 0, none⟩), .pointer (some ⟨b2, 0, none⟩)]) ∧ w' = (w.alloc (.cells #[.int .i64 p, .int .i64 q] 57)).alloc (.cells #[.int .i64 s] 3) := by
  go_enter Tryz.func39, Tryz.ntmps39
  go_wp2
  go_ret
  exact ⟨rfl, rfl⟩
set_option maxHeartbeats 1000000 in
theorem trn_any (x0 x1 x2 y0 y1 y2 : Value) (w : World) :
    Calls Tryz.prog 22 #[.agg #[x0, x1, x2], .agg #[y0, y1, y2]] w fun e w' => e = .returned (.func (.func 39) #[] #[.pointer (some ⟨w.heap.size, 0, none⟩), .pointer (some ⟨w.heap.size + 1, 0, none⟩)]) ∧ w' = (w.alloc (.cells #[x0, x1, x2] 67)).alloc (.cells #[y0, y1, y2] 67) := by
  go_enter Tryz.func22, Tryz.ntmps22
  go_wp2
  go_ret
  exact ⟨rfl, rfl⟩
end Go.Proofs.YtchoopnjckcohaaGreat
