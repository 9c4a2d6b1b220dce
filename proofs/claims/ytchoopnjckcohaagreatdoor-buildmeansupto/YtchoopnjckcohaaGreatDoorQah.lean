import Derived.Test.YtchoopnjckcohaaGreatDoorQag
set_option maxRecDepth 100000
set_option maxHeartbeats 40000000
namespace Go.Proofs.YtchoopnjckcohaaGreatDoor
open Go.RowKit Go.Maps
def SsE (l : List EdT) : Prop := l.Pairwise fun a b => ltE a b = true
theorem ltE_ir (x : EdT) : ltE x x = false := swoE.irrefl x
theorem ltE_as {x y : EdT} (h : ltE x y = true) (k : ltE y x = true) : False := by rw [ltE_iff] at h k; omega
theorem ss_eq : ∀ (A B : List EdT), SsE A → SsE B → (∀ x, x ∈ A ↔ x ∈ B) → A = B
 | [], [], _, _, _ => rfl
 | [], b :: B, _, _, h => absurd ((h b).2 (by simp)) (by simp)
 | a :: A, [], _, _, h => absurd ((h a).1 (by simp)) (by simp)
 | a :: A, b :: B, hA, hB, h => by
  unfold SsE at hA hB
  rw [List.pairwise_cons] at hA hB
  have e : a = b := by
   rcases List.mem_cons.1 ((h a).1 (by simp)) with q | q
   · exact q
   · rcases List.mem_cons.1 ((h b).2 (by simp)) with r | r
     · exact r.symm
     · exact (ltE_as (hB.1 a q) (hA.1 b r)).elim
  subst e
  congr 1
  refine ss_eq A B hA.2 hB.2 fun x => ⟨fun q => ?_, fun q => ?_⟩
  · rcases List.mem_cons.1 ((h x).1 (by simp [q])) with r | r
    · subst r; have := hA.1 x q; rw [ltE_ir] at this; cases this
    · exact r
  · rcases List.mem_cons.1 ((h x).2 (by simp [q])) with r | r
    · subst r; have := hB.1 x q; rw [ltE_ir] at this; cases this
    · exact r
theorem cp_mem {α : Type} [Inhabited α] [DecidableEq α] {zs : List α} {x : α} (h : x ∈ Lib.compact zs) : x ∈ zs := by
 unfold Lib.compact Lib.compactUpTo at h
 obtain ⟨j, hj, rfl⟩ := List.mem_map.1 h
 have hj' := List.mem_range.1 (List.mem_filter.1 hj).1
 rw [getElem!_pos _ j (by simpa using hj')]
 simp
theorem cp_has {α : Type} [Inhabited α] [DecidableEq α] {zs : List α} : ∀ (j : Nat) (h : j < zs.length), zs[j] ∈ Lib.compact zs
 | 0, h => by
  unfold Lib.compact Lib.compactUpTo
  refine List.mem_map.2 ⟨0, List.mem_filter.2 ⟨List.mem_range.2 h, by simp [Lib.keeps]⟩, ?_⟩
  simp [h]
 | j + 1, h => by
  by_cases e : zs[j + 1] = zs[j]
  · rw [e]; exact cp_has j (by omega)
  · unfold Lib.compact Lib.compactUpTo
    refine List.mem_map.2 ⟨j + 1, List.mem_filter.2 ⟨List.mem_range.2 h, ?_⟩, ?_⟩
    · unfold Lib.keeps
      rw [decide_eq_true_eq]
      right
      rw [getElem!_pos _ (j + 1) (by simpa using h), getElem!_pos _ (j + 1 - 1) (by simp; omega)]
      simpa using e
    · simp [h]
theorem cpE_ss {zs : List EdT} (hs : zs.Pairwise fun a b => ltE b a = false) : SsE (Lib.compact zs) := by
 have key : ∀ m, m ≤ zs.length → (Lib.compactUpTo zs.toArray m).Pairwise (fun a b => ltE a b = true) ∧ (∀ x ∈ Lib.compactUpTo zs.toArray m, ∃ j, j < m ∧ ∃ h : j < zs.length, x = zs[j]) := by
  intro m
  induction m with
  | zero => intro _; exact ⟨by simp [Lib.compactUpTo], fun x hx => by simp [Lib.compactUpTo] at hx⟩
  | succ m ih =>
   intro hm
   obtain ⟨k1, k2⟩ := ih (by omega)
   rw [Lib.compactUpTo_succ]
   by_cases hk : Lib.keeps zs.toArray m = true
   · rw [if_pos hk]
     have hm' : m < zs.length := by omega
     have em : zs.toArray[m]! = zs[m] := by simp [hm']
     refine ⟨?_, fun x hx => ?_⟩
     · rw [List.pairwise_append]
       refine ⟨k1, by simp, fun x hx y hy => ?_⟩
       rw [List.mem_singleton.1 hy, em]
       obtain ⟨j, hj, hjl, rfl⟩ := k2 x hx
       unfold Lib.keeps at hk
       rw [decide_eq_true_eq] at hk
       have hm0 : m ≠ 0 := by omega
       have hk2 := hk.resolve_left hm0
       have e1 : zs.toArray[m - 1]! = zs[m - 1] := by simp [show m - 1 < zs.length by omega]
       rw [em, e1] at hk2
       have l1 : ltE zs[m] zs[m - 1] = false := (List.pairwise_iff_getElem.1 hs) (m - 1) m (by omega) hm' (by omega)
       have l3 : ltE zs[m - 1] zs[m] = true := by
        cases q : ltE zs[m - 1] zs[m]
        · exact absurd (totE _ _ l1 q) hk2
        · rfl
       rcases Nat.lt_or_ge j (m - 1) with q | q
       · have l2 : ltE zs[m - 1] zs[j] = false := (List.pairwise_iff_getElem.1 hs) j (m - 1) hjl (by omega) q
         rw [ltE_iff] at l3 ⊢
         rw [ltE_not] at l2
         omega
       · have : j = m - 1 := by omega
         subst this; exact l3
     · rcases List.mem_append.1 hx with hx | hx
       · obtain ⟨j, hj, q⟩ := k2 x hx
         exact ⟨j, by omega, q⟩
       · rw [List.mem_singleton.1 hx]; exact ⟨m, by omega, hm', em⟩
   · rw [if_neg hk, List.append_nil]
     exact ⟨k1, fun x hx => by obtain ⟨j, hj, q⟩ := k2 x hx; exact ⟨j, by omega, q⟩⟩
 exact (key zs.length (Nat.le_refl _)).1
theorem sortE_up (L : List EdT) : (sortE L).Pairwise fun a b => ltE b a = false := by
 have hp : (sortE L).Pairwise fun a b => (!ltE b a) = true := List.pairwise_mergeSort (le := fun x y => !ltE y x) (fun a b c h1 h2 => by
  simp only [Bool.not_eq_true', ltE_not] at *
  omega) (fun a b => by
  cases h1 : ltE b a
  · simp
  · cases h2 : ltE a b
    · simp
    · exact (ltE_as h1 h2).elim) L
 exact hp.imp fun q => by simpa using q
theorem riseE_ss (L : List EdT) : SsE (riseE L) := cpE_ss (sortE_up L)
theorem riseE_iff (L : List EdT) (x : EdT) : x ∈ riseE L ↔ x ∈ L := by
 constructor
 · intro h
   have := cp_mem h
   unfold sortE at this
   exact List.mem_mergeSort.1 this
 · intro h
   have h' : x ∈ sortE L := by unfold sortE; exact List.mem_mergeSort.2 h
   obtain ⟨j, hj, rfl⟩ := List.getElem_of_mem h'
   exact cp_has j hj
theorem riseE_len (L : List EdT) : (riseE L).length ≤ L.length := Nat.le_trans (compact_len _) (Nat.le_of_eq (sortE_len L))
theorem riseL_iff (L : List Int) (x : Int) : x ∈ riseL L ↔ x ∈ L := by
 constructor
 · intro h
   have := cp_mem h
   unfold sortI at this
   exact List.mem_mergeSort.1 this
 · intro h
   have h' : x ∈ sortI L := by unfold sortI; exact List.mem_mergeSort.2 h
   obtain ⟨j, hj, rfl⟩ := List.getElem_of_mem h'
   exact cp_has j hj
theorem riseL_len (L : List Int) : (riseL L).length ≤ L.length := Nat.le_trans (compact_len _) (Nat.le_of_eq (sortI_len L))
theorem pre_count {α : Type} (P : α → Bool) : ∀ (L : List α), (L.Pairwise fun a b => P b = true → P a = true) → ∀ (i : Nat) (h : i < L.length), (P L[i] = true ↔ i < (L.filter P).length)
 | [], _, i, h => absurd h (Nat.not_lt_zero i)
 | a :: L, hp, i, h => by
  rw [List.pairwise_cons] at hp
  cases ha : P a
  · have hn : ∀ b ∈ L, P b = false := fun b hb => by
     cases hb2 : P b
     · rfl
     · rw [hp.1 b hb hb2] at ha; cases ha
    have hf : (a :: L).filter P = [] := by
     rw [List.filter_eq_nil_iff]
     intro b hb
     rcases List.mem_cons.1 hb with rfl | hb
     · simp [ha]
     · simp [hn b hb]
    rw [hf]
    cases i with
    | zero => simp [ha]
    | succ i =>
     have h2 : i < L.length := by simpa using h
     simp [hn L[i] (List.getElem_mem h2)]
  · rw [List.filter_cons_of_pos ha, List.length_cons]
    cases i with
    | zero => simp [ha]
    | succ i =>
     have h2 : i < L.length := by simpa using h
     have := pre_count P L hp.2 i h2
     rw [List.getElem_cons_succ, this]
     omega
def fromL (Es : List EdT) (p : Nat) (y : Int) : List EdT := Es.filter fun e => decide (e.1 = (p : Int) ∧ e.2.1 = y)
theorem fromL_iff {Es : List EdT} {p : Nat} {y : Int} {x : EdT} : x ∈ fromL Es p y ↔ x ∈ Es ∧ x.1 = (p : Int) ∧ x.2.1 = y := by
 unfold fromL
 rw [List.mem_filter, decide_eq_true_eq]
theorem fromL_ss {Es : List EdT} (hS : SsE Es) (p : Nat) (y : Int) : SsE (fromL Es p y) := List.Pairwise.filter _ hS
def subL (Es : List EdT) (lo hi : Nat) : List EdT := (Es.drop lo).take (hi - lo)
theorem subL_len {Es : List EdT} {lo hi : Nat} (h : hi ≤ Es.length) : (subL Es lo hi).length = hi - lo := by
 unfold subL; rw [List.length_take, List.length_drop]; omega
theorem subL_get {Es : List EdT} {lo hi : Nat} (t : Nat) (h : t < (subL Es lo hi).length) : ∃ h2 : lo + t < Es.length, (subL Es lo hi)[t] = Es[lo + t] := by
 unfold subL at h ⊢
 rw [List.length_take, List.length_drop] at h
 refine ⟨by omega, ?_⟩
 rw [List.getElem_take, List.getElem_drop]
theorem subL_ss {Es : List EdT} (hS : SsE Es) (lo hi : Nat) : SsE (subL Es lo hi) := List.Pairwise.sublist ((List.take_sublist _ _).trans (List.drop_sublist _ _)) hS
theorem subL_rd {w : World} {g o : Nat} {Es : List EdT} (h : RdE w (some ⟨g, o, none⟩) Es) (lo hi : Nat) : RdE w (some ⟨g, o + lo * 3, none⟩) (subL Es lo hi) := fun j hj => by
 obtain ⟨h2, e⟩ := subL_get j hj
 obtain ⟨g', o', he, q1, q2, q3⟩ := h (lo + j) h2
 cases he
 rw [e]
 have z : o + lo * 3 + j * 3 = o + (lo + j) * 3 := by omega
 exact ⟨g, o + lo * 3, rfl, by rw [z]; exact q1, by rw [z]; exact q2, by rw [z]; exact q3⟩
open Go.Shelf
def itl (l : List Nat) : List Int := l.map fun (i : Nat) => (i : Int)
theorem itl_len (l : List Nat) : (itl l).length = l.length := List.length_map _
theorem intV_itl (l : List Nat) : intV l = (itl l).map (Value.int .i64) := by simp [intV, itl]
theorem mem_itl {l : List Nat} {x : Int} : x ∈ itl l ↔ ∃ i ∈ l, (i : Int) = x := by simp [itl]
theorem setI_test (n : Nat) (q : Nat) (L : List Int) : (setI n L).testBit q = true ↔ ∃ i ∈ L, (0 ≤ i ∧ i < (n : Int)) ∧ i.toNat = q := by
 have key : ∀ (L : List Int) (X : Nat), (L.foldl (fun X i => if 0 ≤ i ∧ i < (n : Int) then X ||| 2 ^ i.toNat else X) X).testBit q = true ↔ X.testBit q = true ∨ ∃ i ∈ L, (0 ≤ i ∧ i < (n : Int)) ∧ i.toNat = q := by
  intro L
  induction L with
  | nil => intro X; simp
  | cons a L ih =>
   intro X
   rw [List.foldl_cons, ih]
   simp only [List.mem_cons, exists_eq_or_imp]
   by_cases h : 0 ≤ a ∧ a < (n : Int)
   · rw [if_pos h, Nat.testBit_or, Bool.or_eq_true, Nat.testBit_two_pow, decide_eq_true_eq]
     simp only [h, true_and, and_self]
     exact or_assoc
   · rw [if_neg h]
     simp only [h, false_and, false_or]
 unfold setI
 rw [key]
 simp
end Go.Proofs.YtchoopnjckcohaaGreatDoor
namespace Go.Proofs.YtchoopnjckcohaaGreatDoor
open Go.RowKit
attribute [local go_sem] Oper.semAt_some
theorem setOf_any (w : World) (N : Nat) (m : Int) (a1 a2 a3 ao : Option Addr) (n1 n2 n3 c1 c2 c3 cp : Nat) (L : List Int) (hr : Hid (RdN w ao L)) (hl : L.length ≤ 4194304) (hN : N ≤ 4096) (hin : Hid (L.all (inB N) = true)) :
 Calls Tryz.prog 126 #[.agg #[.int .i64 (N : Nat), .int .i64 m, .slice a1 n1 c1, .slice a2 n2 c2, .slice a3 n3 c3], .slice ao L.length cp] w fun e w' => ∃ b g cap, e = .returned (.pointer (some ⟨b, 0, none⟩)) ∧ IsSet w' b g cap N (setI N L) ∧ w.heap.size ≤ b ∧ w.heap.size ≤ g ∧ b ≠ g ∧ Below w.heap.size w w' := by
 obtain ⟨W0, hW0⟩ : ∃ W0, w.alloc (.cells #[.int .i64 (N : Nat), .int .i64 m, .slice a1 n1 c1, .slice a2 n2 c2, .slice a3 n3 c3] 25) = W0 := ⟨_, rfl⟩
 have d0 : Below w.heap.size w W0 := by rw [← hW0]; exact (Below.refl _ _).alloc (Nat.le_refl _) _
 have B0 : W0.heap[w.heap.size]? = some (.cells #[.int .i64 (N : Nat), .int .i64 m, .slice a1 n1 c1, .slice a2 n2 c2, .slice a3 n3 c3] 25 (0, 0)) := by rw [← hW0]; exact World.alloc_heap_new _ _
 have k0 : W0.cell? ⟨w.heap.size, 0, none⟩ = some (.int .i64 (N : Nat)) := cell_of B0 rfl
 have T : Calls Tryz.prog 150 #[.int .i64 N, .slice ao L.length cp] W0 fun e w' => ∃ b g cap, e = .returned (.tuple #[.pointer (some ⟨b, 0, none⟩), .int .i64 0]) ∧ IsSet w' b g cap N (setI N L) ∧ W0.heap.size ≤ b ∧ W0.heap.size ≤ g ∧ b ≠ g ∧ Below W0.heap.size W0 w' := (of81_any ao cp N L W0 (by omega) (readsI_of (hr.out.on d0)) (by omega)).mono fun e w' h => by
  rcases h with ⟨_, h⟩ | ⟨hf, _⟩
  · exact h
  · rw [okI_of hin.out] at hf
    cases hf
 have HD := hide d0
 clear d0 B0
 go_enter Tryz.func126, Tryz.ntmps126
 go_upto_region 2 with (go_at_call 150; refine T.mono ?_; rintro e w1 ⟨b, g, cap, rfl, hs, hb, hg, hbg, d1⟩)
 have HS := hide (And.intro hs (And.intro hb (And.intro hg (And.intro hbg d1))))
 clear hs hb hg hbg d1
 go_wp2
 go_ret
 obtain ⟨hs, hb, hg, hbg, d1⟩ := HS.out
 have z := HD.out.size
 exact ⟨b, g, cap, rfl, hs, by omega, by omega, hbg, HD.out.trans (d1.mono HD.out.size)⟩
open Go.Maps
theorem checkWord_any (w : World) (n m : Int) (a1 a2 a3 : Option Addr) (c1 c2 c3 : Nat) (St Fi : List Int) (Ed : List EdT) (hA : Hid (RdA w a1 a2 a3 St Fi Ed)) (h1 : St.length ≤ 4194304) (h2 : Fi.length ≤ 4194304) (h3 : Ed.length ≤ 4194304) (aw : Option Addr) (cw : Nat) (Wd : List Int) (hQ : Hid (RdN w aw Wd)) (hq : Wd.length ≤ 4194304) :
 Calls Tryz.prog 85 #[.agg #[.int .i64 n, .int .i64 m, .slice a1 St.length c1, .slice a2 Fi.length c2, .slice a3 Ed.length c3], .slice aw Wd.length cw] w fun e w' => e = .returned (.int .i64 (wordErr n m St Fi Ed Wd)) ∧ Below w.heap.size w w' := by
 obtain ⟨W0, hW0⟩ : ∃ W0, w.alloc (.cells #[.int .i64 n, .int .i64 m, .slice a1 St.length c1, .slice a2 Fi.length c2, .slice a3 Ed.length c3] 25) = W0 := ⟨_, rfl⟩
 have d0 : Below w.heap.size w W0 := by rw [← hW0]; exact (Below.refl _ _).alloc (Nat.le_refl _) _
 have B0 : W0.heap[w.heap.size]? = some (.cells #[.int .i64 n, .int .i64 m, .slice a1 St.length c1, .slice a2 Fi.length c2, .slice a3 Ed.length c3] 25 (0, 0)) := by rw [← hW0]; exact World.alloc_heap_new _ _
 have T1 := valid_any W0 n m a1 a2 a3 c1 c2 c3 St Fi Ed (hide (hA.out.on d0)) h1 h2 h3
 obtain ⟨k0, k1, k2, k3, k4⟩ := zd5 B0 rfl rfl rfl rfl rfl
 have HD := hide (And.intro d0 B0)
 have HQ := hide (hQ.out.on d0)
 clear d0 B0 hA hQ
 go_enter Tryz.func85, Tryz.ntmps85
 cases em : mayA n m St Fi Ed
 · rw [em] at T1
   have T1 : Calls Tryz.prog 75 #[.agg #[.int .i64 n, .int .i64 m, .slice a1 St.length c1, .slice a2 Fi.length c2, .slice a3 Ed.length c3]] W0 fun e w' => e = .returned (.int .i64 2) ∧ Below W0.heap.size W0 w' := T1
   go_wp2_with (go_at_call 75; refine T1.mono ?_; rintro e w1 ⟨rfl, d1⟩)
   go_ret
   exact ⟨by simp [wordErr, em], HD.out.1.trans (d1.mono HD.out.1.size)⟩
 · rw [em] at T1
   have T1 : Calls Tryz.prog 75 #[.agg #[.int .i64 n, .int .i64 m, .slice a1 St.length c1, .slice a2 Fi.length c2, .slice a3 Ed.length c3]] W0 fun e w' => e = .returned (.int .i64 0) ∧ Below W0.heap.size W0 w' := T1
   go_wp2_with (first
    | (go_at_call 75; refine T1.mono ?_; rintro e w1 ⟨rfl, d1⟩; have H1 := hide (And.intro d1 (blk_on HD.out.2 d1)); have y1 : w1.cell? ⟨w.heap.size, 1, none⟩ = some (.int .i64 m) := cell_of H1.out.2 rfl; have T2 := allWithin_any aw cw Wd m w1 (hide (HQ.out.on d1)) hq; clear d1)
    | (go_at_call 112; refine T2.mono ?_; rintro e w2 ⟨rfl, hw⟩; obtain rfl := hw.symm; cases e4 : Wd.all (inB m)))
   · go_wp2_with fail
     go_ret
     exact ⟨by simp [wordErr, em, e4], HD.out.1.trans (H1.out.1.mono HD.out.1.size)⟩
   · go_wp2_with fail
     go_ret
     exact ⟨by simp [wordErr, em, e4], HD.out.1.trans (H1.out.1.mono HD.out.1.size)⟩
theorem box3 (w : World) (A Z : Array Value) (t u : TypeId) : Below w.heap.size w ((w.alloc (.cells A t)).alloc (.cells Z u)) ∧ ((w.alloc (.cells A t)).alloc (.cells Z u)).heap[w.heap.size]? = some (.cells A t (0, 0)) ∧ ((w.alloc (.cells A t)).alloc (.cells Z u)).heap[w.heap.size + 1]? = some (.cells Z u (0, 0)) ∧ ((w.alloc (.cells A t)).alloc (.cells Z u)).heap.size = w.heap.size + 2 := by
 refine ⟨((Below.refl _ _).alloc (Nat.le_refl _) _).alloc (by simp) _, (Below.heap_alloc _ _ _ (by simp)).trans (World.alloc_heap_new _ _), ?_, by simp⟩
 have := World.alloc_heap_new (w.alloc (.cells A t)) (.cells Z u)
 simpa using this
theorem set6 (w : World) (b : Nat) (v0 v1 v2 v3 v4 v5 u0 u1 u2 u3 u4 u5 : Value) (t : TypeId) (h : w.heap[b]? = some (.cells #[v0, v1, v2, v3, v4, v5] t (0, 0))) :
 ((((((w.setCell ⟨b, 0, none⟩ u0).setCell ⟨b, 1, none⟩ u1).setCell ⟨b, 2, none⟩ u2).setCell ⟨b, 3, none⟩ u3).setCell ⟨b, 4, none⟩ u4).setCell ⟨b, 5, none⟩ u5).heap[b]? = some (.cells #[u0, u1, u2, u3, u4, u5] t (0, 0)) :=
 heap_setCell_same _ _ 5 _ t _ (heap_setCell_same _ _ 4 _ t _ (heap_setCell_same _ _ 3 _ t _ (heap_setCell_same _ _ 2 _ t _ (heap_setCell_same _ _ 1 _ t _ (heap_setCell_same _ _ 0 _ t _ h)))))
theorem only6 (w : World) (b : Nat) (u0 u1 u2 u3 u4 u5 : Value) : Only w ((((((w.setCell ⟨b, 0, none⟩ u0).setCell ⟨b, 1, none⟩ u1).setCell ⟨b, 2, none⟩ u2).setCell ⟨b, 3, none⟩ u3).setCell ⟨b, 4, none⟩ u4).setCell ⟨b, 5, none⟩ u5) (fun k => k = b) :=
 (only5 w b u0 u1 u2 u3 u4).trans (only_set _ _ 5 _)
def cntAt (L : List EdT) (c : Nat) : Nat := (L.filter fun e => decide (e.1 + 1 = (c : Int))).length
def lessC (L : List EdT) (c : Nat) : Nat := (L.filter fun e => decide (e.1 < (c : Int))).length
theorem cntAt_le (L : List EdT) (c : Nat) : cntAt L c ≤ L.length := List.length_filter_le _ _
theorem lessC_le (L : List EdT) (c : Nat) : lessC L c ≤ L.length := List.length_filter_le _ _
theorem cntAt_snoc (L : List EdT) (x : EdT) (c : Nat) : cntAt (L ++ [x]) c = cntAt L c + if x.1 + 1 = (c : Int) then 1 else 0 := by
 unfold cntAt
 rw [List.filter_append, List.length_append]
 by_cases h : x.1 + 1 = (c : Int) <;> simp [h]
theorem lessC_succ (L : List EdT) (c : Nat) : lessC L (c + 1) = cntAt L (c + 1) + lessC L c := by
 unfold lessC cntAt
 induction L with
 | nil => rfl
 | cons x L ih =>
  simp only [List.filter_cons]
  rcases Int.lt_trichotomy x.1 (c : Int) with h | h | h
  · rw [if_pos (by simp; omega), if_neg (by simp; omega), if_pos (by simpa using h), List.length_cons, List.length_cons, ih]; omega
  · rw [if_pos (by simp; omega), if_pos (by simp; omega), if_neg (by simp; omega), List.length_cons, List.length_cons, ih]; omega
  · rw [if_neg (by simp; omega), if_neg (by simp; omega), if_neg (by simp; omega), ih]
theorem lessC_zero (L : List EdT) (h : ∀ e ∈ L, 0 ≤ e.1) : lessC L 0 = 0 ∧ cntAt L 0 = 0 := by
 unfold lessC cntAt
 constructor <;> rw [List.length_eq_zero_iff, List.filter_eq_nil_iff] <;> intro e he <;> have := h e he <;> simp <;> omega
def firstV (L : List EdT) (p c : Nat) : Value := .int .i64 ((if c ≤ p then lessC L c else cntAt L c : Nat) : Int)
theorem newWalk_any (w : World) (N : Nat) (m : Int) (a1 a2 a3 : Option Addr) (l1 l2 c1 c2 c3 : Nat) (Ed : List EdT) (hN : N ≤ 4096) (hE : Hid (RdE w a3 Ed)) (hl : Ed.length ≤ 4194304) (hF : Hid (∀ e ∈ Ed, 0 ≤ e.1 ∧ e.1 < (N : Int))) :
 Calls Tryz.prog 125 #[.agg #[.int .i64 (N : Int), .int .i64 m, .slice a1 l1 c1, .slice a2 l2 c2, .slice a3 Ed.length c3]] w fun e w' => ∃ g, e = .returned (.agg #[.int .i64 (N : Int), .int .i64 m, .slice a1 l1 c1, .slice a2 l2 c2, .slice a3 Ed.length c3, .slice (some ⟨g, 0, none⟩) (N + 1) (N + 1)]) ∧ Mrw w' g 3 (N + 1) (fun c => .int .i64 (lessC Ed c : Nat)) (N + 1) ∧ w.heap.size ≤ g ∧ Below w.heap.size w w' := by
 obtain ⟨i9, hi9, hz90, hz91, hz92⟩ := info_parts info3
 obtain ⟨M, hM⟩ : ∃ M, M = madeCells (Value.int .i64 0).cells ((((N : Nat) : Int) + 1).toNat * i9.size) := ⟨_, rfl⟩
 have hmk : ∀ W : World, (Instr.makeSlice 22 (.int .i64 ((N : Int) + 1)) (.int .i64 ((N : Int) + 1))).run Tryz.prog W = .ok (.slice (some ⟨W.heap.size, 0, none⟩) (N + 1) (N + 1)) (W.alloc (.cells M 3)) := fun W => by
  have h := run_make (P := Tryz.prog) W 22 3 i9 (.int .i64 0) Tryz.underlying22 hi9 hz90 .i64 .i64 ((N : Int) + 1) ((N : Int) + 1) (by omega) (by omega) (by rw [hz92]; omega) (by omega)
  rw [← hM] at h
  rw [h]
  have : ((N : Int) + 1).toNat = N + 1 := by omega
  rw [this]
 have hwr : IntKind.i64.wrap ((N : Int) + 1) = (N : Int) + 1 := by unfold IntKind.wrap; simp [IntKind.bits, IntKind.signed]; omega
 have hmk : ∀ W : World, (Instr.makeSlice 22 (.int .i64 (IntKind.i64.wrap ((N : Int) + 1))) (.int .i64 (IntKind.i64.wrap ((N : Int) + 1)))).run Tryz.prog W = .ok (.slice (some ⟨W.heap.size, 0, none⟩) (N + 1) (N + 1)) (W.alloc (.cells M 3)) := by rw [hwr]; exact hmk
 clear hwr
 have HM := hide (And.intro hM hz91)
 clear hM hi9 hz90 hz91 hz92
 obtain ⟨W0, hW0⟩ : ∃ W0, (w.alloc (.cells #[.int .i64 (N : Int), .int .i64 m, .slice a1 l1 c1, .slice a2 l2 c2, .slice a3 Ed.length c3] 25)).alloc (.cells #[.int .i64 0, .int .i64 0, .slice none 0 0, .slice none 0 0, .slice none 0 0, .slice none 0 0] 124) = W0 := ⟨_, rfl⟩
 have HD := hide (box3 w #[.int .i64 (N : Int), .int .i64 m, .slice a1 l1 c1, .slice a2 l2 c2, .slice a3 Ed.length c3] #[.int .i64 0, .int .i64 0, .slice none 0 0, .slice none 0 0, .slice none 0 0, .slice none 0 0] 25 124)
 rw [hW0] at HD
 have B0 := HD.out.2.1
 obtain ⟨k0, k1, k2, k3, k4⟩ := zd5 B0 rfl rfl rfl rfl rfl
 clear B0
 go_enter Tryz.func125, Tryz.ntmps125
 go_upto_region 1 with fail
 go_cut [3] from 3 to 12 (fun p3 W => ∃ b g, p3 = .pointer (some ⟨b, 0, none⟩) ∧ Hid (W.heap[b]? = some (.cells #[.int .i64 (N : Int), .int .i64 m, .slice a1 l1 c1, .slice a2 l2 c2, .slice a3 Ed.length c3, .slice (some ⟨g, 0, none⟩) (N + 1) (N + 1)] 124 (0, 0)) ∧ W.heap[g]? = some (.cells M 3 (0, 0)) ∧ b ≠ g ∧ W0.heap.size ≤ b ∧ W0.heap.size ≤ g ∧ Below W0.heap.size W0 W))
 case first =>
  go_region_held3 (fun W2 => W2.cell? ⟨w.heap.size, 0, none⟩ = some (.int .i64 (N : Int)) ∧ W2.cell? ⟨w.heap.size, 1, none⟩ = some (.int .i64 m) ∧ W2.cell? ⟨w.heap.size, 2, none⟩ = some (.slice a1 l1 c1) ∧ W2.cell? ⟨w.heap.size, 3, none⟩ = some (.slice a2 l2 c2) ∧ W2.cell? ⟨w.heap.size, 4, none⟩ = some (.slice a3 Ed.length c3))
   (first | go_keep | assumption)
   (fail)
  · go_wp2_with fail
    go_meet
    refine ⟨W0.heap.size + 1, W0.heap.size, rfl, hide ?_⟩
    have q := box3 W0 M #[.int .i64 (N : Int), .int .i64 m, .slice a1 l1 c1, .slice a2 l2 c2, .slice a3 Ed.length c3, .slice (some ⟨W0.heap.size, 0, none⟩) (N + 1) (N + 1)] 3 124
    exact ⟨q.2.2.1, q.2.1, by omega, by omega, by omega, q.1.drew⟩
  · go_wp2_with fail
    go_meet
    refine ⟨W0.heap.size, W0.heap.size + 1, rfl, hide ?_⟩
    have q := box3 W0 #[.int .i64 (N : Int), .int .i64 m, .slice a1 l1 c1, .slice a2 l2 c2, .slice a3 Ed.length c3, .slice (some ⟨W0.heap.size + 1, 0, none⟩) (N + 1) (N + 1)] M 124 3
    exact ⟨q.2.1, q.2.2.1, by omega, by omega, by omega, q.1.drew⟩
 case rest =>
  obtain ⟨b, g, rfl, HX⟩ := hcut
  rename World => wx
  clear hmk k0 k1 k2 k3 k4
  have y4 : wx.cell? ⟨w.heap.size, 4, none⟩ = some (.slice a3 Ed.length c3) := cell_of (blk_on HD.out.2.1 HX.out.2.2.2.2.2) rfl
  have m0 : Mrw wx g 3 (N + 1) (fun c => .int .i64 (cntAt (Ed.take 0) c : Nat)) (N + 1) := by
   refine ⟨M, HX.out.2.1, by rw [HM.out.1, HM.out.2, size_madeCells]; omega, fun j hj => ?_⟩
   rw [HM.out.1, HM.out.2]
   rw [← Array.getElem?_toList, show (Value.int .i64 0).cells = #[Value.int .i64 0] from rfl, toList_madeCells_one, List.getElem?_replicate, if_pos (by omega)]
   simp [cntAt]
  have H0 := hide (And.intro m0 (And.intro HX.out.1 HX.out.2.2.2.2.2))
  have HP := hide (And.intro HX.out.2.2.1 (And.intro HX.out.2.2.2.1 HX.out.2.2.2.2.1))
  clear m0 HX
  go_wp2
  go_loopw [16] (fun iv wr => ∃ i : Nat, i ≤ Ed.length ∧ iv = .int .i64 i ∧ Hid (Mrw wr g 3 (N + 1) (fun c => .int .i64 (cntAt (Ed.take i) c : Nat)) (N + 1) ∧ wr.heap[b]? = some (.cells #[.int .i64 (N : Int), .int .i64 m, .slice a1 l1 c1, .slice a2 l2 c2, .slice a3 Ed.length c3, .slice (some ⟨g, 0, none⟩) (N + 1) (N + 1)] 124 (0, 0)) ∧ Below W0.heap.size W0 wr)) (fun iv _ => Ed.length - (intOf iv).toNat)
  case atStart => exact ⟨0, Nat.zero_le _, rfl, H0⟩
  case round =>
   obtain ⟨i, hi, rfl, HY⟩ := hrel
   clear H0 y4
   by_cases hil : i < Ed.length
   · have i0 : (0 : Int) ≤ (i : Int) := by omega
     have i1 : (i : Int) < (Ed.length : Int) := by omega
     obtain ⟨ge, o, rfl, q1, q2, q3⟩ := (hE.out.on (HD.out.1.trans (HY.out.2.2.mono HD.out.1.size))) i hil
     have HTk := hide (show Ed.take (i + 1) = Ed.take i ++ [Ed[i]] by rw [List.take_add_one, List.getElem?_eq_getElem hil]; rfl)
     have HN := hide (hF.out Ed[i] (List.getElem_mem hil))
     obtain ⟨x, hx⟩ : ∃ x, Ed[i] = x := ⟨_, rfl⟩
     rw [hx] at q1 q2 q3 HTk HN
     clear hx
     obtain ⟨x1, x2, x3⟩ := x
     obtain ⟨j1, hj1⟩ := Int.eq_ofNat_of_zero_le HN.out.1
     have hj1 : x1 = (j1 : Int) := hj1
     subst hj1
     have hl1 : j1 < N := by have := HN.out.2; simp only at this; omega
     obtain ⟨W1, hW1⟩ : ∃ W1, wr.alloc (.cells #[.int .i64 (j1 : Int), .int .i64 x2, .int .i64 x3] 61) = W1 := ⟨_, rfl⟩
     have HW : Hid (W1.heap[wr.heap.size]? = some (.cells #[.int .i64 (j1 : Int), .int .i64 x2, .int .i64 x3] 61 (0, 0)) ∧ Below wr.heap.size wr W1) := hide (by rw [← hW1]; exact ⟨World.alloc_heap_new _ _, (Below.refl _ _).alloc (Nat.le_refl _) _⟩)
     have y0 : W1.cell? ⟨wr.heap.size, 0, none⟩ = some (.int .i64 (j1 : Int)) := cell_of HW.out.1 rfl
     have y5 : W1.cell? ⟨b, 5, none⟩ = some (.slice (some ⟨g, 0, none⟩) (N + 1) (N + 1)) := cell_of (blk_on HY.out.2.1 HW.out.2) rfl
     have M1 : Hid (Mrw W1 g 3 (N + 1) (fun c => .int .i64 (cntAt (Ed.take i) c : Nat)) (N + 1)) := hide (HY.out.1.below HW.out.2 HY.out.1.lt)
     have r0 := M1.out.at (j1 + 1) (by omega)
     have r1 := M1.out.fz (j1 + 1)
     have hc := Nat.le_trans (cntAt_le (Ed.take i) (j1 + 1)) (by rw [List.length_take]; omega : (Ed.take i).length ≤ i)
     obtain ⟨cn, hcn⟩ : ∃ cn, cntAt (Ed.take i) (j1 + 1) = cn := ⟨_, rfl⟩
     simp only [hcn] at r0 hc
     have HC := hide hcn
     have i2 : (0 : Int) ≤ (j1 : Int) := by omega
     have i3 : (j1 : Int) < (N : Int) := by omega
     have i4 : (j1 : Int) + 1 < (N : Int) + 1 := by omega
     have i5 : (0 : Int) ≤ (j1 : Int) + 1 := by omega
     have i6 : (cn : Int) ≤ 4194304 := by omega
     have i7 : (0 : Int) ≤ (cn : Int) := by omega
     clear hcn
     go_wp2
     have hb1 := blk_on HY.out.2.1 HW.out.2
     refine ⟨⟨i + 1, by omega, by go_num, hide ⟨(M1.out.upd (j1 + 1) _).congr fun c hc => ?_, ((only_set W1 g (j1 + 1) _).block b (Array.getElem?_eq_some_iff.1 hb1).1 (fun e => HP.out.1 e)).trans hb1, (HY.out.2.2.trans (HW.out.2.mono HY.out.2.2.size)).trans ((only_set W1 g (j1 + 1) _).toBelow (Nat.le_trans HY.out.2.2.size HW.out.2.size) (fun k hk => by rw [hk]; exact HP.out.2.2))⟩⟩, by simp [intOf]; omega⟩
     rw [HTk.out, cntAt_snoc]
     by_cases e : c = j1 + 1
     · subst e
       rw [if_pos rfl, if_pos (by simp), HC.out]
       rfl
     · rw [if_neg e, if_neg (by simp only; omega)]
       rfl
   · obtain rfl : Ed.length = i := by omega
     have i1 : ¬ (Ed.length : Int) < (Ed.length : Int) := by omega
     have y0 : wr.cell? ⟨w.heap.size, 0, none⟩ = some (.int .i64 (N : Int)) := cell_of (blk_on HD.out.2.1 HY.out.2.2) rfl
     have HZ : Hid (Mrw wr g 3 (N + 1) (firstV Ed 0) (N + 1) ∧ wr.heap[b]? = some (.cells #[.int .i64 (N : Int), .int .i64 m, .slice a1 l1 c1, .slice a2 l2 c2, .slice a3 Ed.length c3, .slice (some ⟨g, 0, none⟩) (N + 1) (N + 1)] 124 (0, 0)) ∧ Below W0.heap.size W0 wr) := hide ⟨HY.out.1.congr (fun c _ => by
      unfold firstV
      rw [List.take_length]
      by_cases e : c ≤ 0
      · obtain rfl : c = 0 := by omega
        have q := lessC_zero Ed (fun e he => (hF.out e he).1)
        rw [if_pos e, q.1, q.2]
      · rw [if_neg e]), HY.out.2⟩
     clear HY
     go_wp2
     go_loopw [32] (fun iv wr2 => ∃ p : Nat, p ≤ N ∧ iv = .int .i64 p ∧ Hid (Mrw wr2 g 3 (N + 1) (firstV Ed p) (N + 1) ∧ wr2.heap[b]? = some (.cells #[.int .i64 (N : Int), .int .i64 m, .slice a1 l1 c1, .slice a2 l2 c2, .slice a3 Ed.length c3, .slice (some ⟨g, 0, none⟩) (N + 1) (N + 1)] 124 (0, 0)) ∧ Below W0.heap.size W0 wr2)) (fun iv _ => N - (intOf iv).toNat)
     case atStart => exact ⟨0, Nat.zero_le _, rfl, HZ⟩
     case round =>
      obtain ⟨p, hp, rfl, HQ⟩ := hrel
      clear HZ y0
      by_cases hlt : p < N
      · have j0 : (0 : Int) ≤ (p : Int) := by omega
        have j1 : (p : Int) < (N : Int) := by omega
        have j2 : (p : Int) < (N : Int) + 1 := by omega
        have j3 : (p : Int) + 1 < (N : Int) + 1 := by omega
        have j4 : (0 : Int) ≤ (p : Int) + 1 := by omega
        have r0 := HQ.out.1.at p (by omega)
        have r1 := HQ.out.1.at (p + 1) (by omega)
        have r2 := HQ.out.1.fz (p + 1)
        have y5 : wr.cell? ⟨b, 5, none⟩ = some (.slice (some ⟨g, 0, none⟩) (N + 1) (N + 1)) := cell_of HQ.out.2.1 rfl
        unfold firstV at r0 r1
        rw [if_pos (Nat.le_refl _)] at r0
        rw [if_neg (by omega)] at r1
        have u0 := lessC_le Ed p
        have u1 := cntAt_le Ed (p + 1)
        have HS := hide (lessC_succ Ed p)
        generalize lessC Ed p = s at r0 u0 HS
        generalize cntAt Ed (p + 1) = c at r1 u1 HS
        have v0 : (s : Int) ≤ 4194304 := by omega
        have v1 : (c : Int) ≤ 4194304 := by omega
        have v2 : (0 : Int) ≤ (s : Int) := by omega
        have v3 : (0 : Int) ≤ (c : Int) := by omega
        go_wp2
        refine wp_region_phase 12 #[true, true, true, true, true, true, true, true, true, true, true, true, false, false] (by kernel_rfl) (by kernel_rfl) ?_
        simp only [List.take_succ_cons, List.take_zero, List.drop_succ_cons, List.drop_zero]
        repeat (go_big_quiet_step (fail))
        refine wpQuiet_nil ?_
        intro wz hzz
        obtain ⟨nq, rfl⟩ := hzz
        go_wp2_with fail
        have hb1 : (wr.drewN nq).heap[b]? = some (.cells #[.int .i64 (N : Int), .int .i64 m, .slice a1 l1 c1, .slice a2 l2 c2, .slice a3 Ed.length c3, .slice (some ⟨g, 0, none⟩) (N + 1) (N + 1)] 124 (0, 0)) := HQ.out.2.1
        have mq : Mrw (wr.drewN nq) g 3 (N + 1) (firstV Ed p) (N + 1) := HQ.out.1
        refine ⟨⟨p + 1, by omega, by go_num, hide ⟨(mq.upd (p + 1) _).congr fun k hk => ?_, ((only_set _ g (p + 1) _).block b (Array.getElem?_eq_some_iff.1 hb1).1 (fun e => HP.out.1 e)).trans hb1, (below_drewN' HQ.out.2.2 nq).trans ((only_set _ g (p + 1) _).toBelow HQ.out.2.2.size (fun k hk => by rw [hk]; exact HP.out.2.2))⟩⟩, by simp [intOf]; omega⟩
        unfold firstV
        by_cases e : k = p + 1
        · subst e
          rw [if_pos rfl, if_pos (Nat.le_refl _), HS.out]
          rfl
        · rw [if_neg e]
          by_cases e2 : k ≤ p
          · rw [if_pos e2, if_pos (by omega)]
          · rw [if_neg e2, if_neg (by omega)]
      · obtain rfl : p = N := by omega
        have j1 : ¬ (p : Int) < (p : Int) := by omega
        have F3 := blk_on HD.out.2.2.1 HQ.out.2.2
        have HQ2 := HQ.out.2.1
        obtain ⟨o0, o1, o2, o3, o4, o5⟩ := zd6 F3 rfl rfl rfl rfl rfl rfl
        have f0 : wr.frozen? ⟨w.heap.size + 1, 0, none⟩ = false := fz_of F3
        have f1 : wr.frozen? ⟨w.heap.size + 1, 1, none⟩ = false := fz_of F3
        have f2 : wr.frozen? ⟨w.heap.size + 1, 2, none⟩ = false := fz_of F3
        have f3 : wr.frozen? ⟨w.heap.size + 1, 3, none⟩ = false := fz_of F3
        have f4 : wr.frozen? ⟨w.heap.size + 1, 4, none⟩ = false := fz_of F3
        have f5 : wr.frozen? ⟨w.heap.size + 1, 5, none⟩ = false := fz_of F3
        obtain ⟨k0, k1, k2, k3, k4, k5⟩ := zd6 HQ2 rfl rfl rfl rfl rfl rfl
        have HF3 := hide F3
        clear F3 HQ2
        have O6 := hide (And.intro (set6 wr (w.heap.size + 1) _ _ _ _ _ _ (.int .i64 (p : Int)) (.int .i64 m) (.slice a1 l1 c1) (.slice a2 l2 c2) (.slice a3 Ed.length c3) (.slice (some ⟨g, 0, none⟩) (p + 1) (p + 1)) 124 HF3.out) (only6 wr (w.heap.size + 1) (.int .i64 (p : Int)) (.int .i64 m) (.slice a1 l1 c1) (.slice a2 l2 c2) (.slice a3 Ed.length c3) (.slice (some ⟨g, 0, none⟩) (p + 1) (p + 1))))
        go_wp2
        refine bodyPost_ret (results_cell_row (p := 2) (ty := 124) rfl _ _ (w.heap.size + 1) 124 _ (0, 0) _ rfl O6.out.1 Tryz.underlying124 rfl (by kernel_rfl)) rfl ?_
        have z0 := HD.out.2.2.2
        have z1 := HQ.out.2.2.size
        have z2 := HP.out.2.2
        refine ⟨g, rfl, ?_, by omega, (HD.out.1.trans (HQ.out.2.2.mono (by omega))).trans (O6.out.2.toBelow (by omega) (fun k hk => by omega))⟩
        refine (HQ.out.1.only O6.out.2 (by omega)).congr fun c hc => ?_
        unfold firstV
        rw [if_pos (by omega)]
theorem symOrder_any (w : World) (x : EdT) (y : Int) :
 Calls Tryz.prog 165 #[.agg #[.int .i64 x.1, .int .i64 x.2.1, .int .i64 x.2.2], .int .i64 y] w fun e w' => e = .returned (.int .i64 (Lib.compareInt x.2.1 y)) ∧ Below w.heap.size w w' := by
 obtain ⟨x0, x1, x2⟩ := x
 simp only
 obtain ⟨W0, hW0⟩ : ∃ W0, w.alloc (.cells #[.int .i64 x0, .int .i64 x1, .int .i64 x2] 61) = W0 := ⟨_, rfl⟩
 have HD : Hid (Below w.heap.size w W0) := hide (by rw [← hW0]; exact (Below.refl _ _).alloc (Nat.le_refl _) _)
 have b0 : W0.heap[w.heap.size]? = some (.cells #[.int .i64 x0, .int .i64 x1, .int .i64 x2] 61 (0, 0)) := by rw [← hW0]; exact World.alloc_heap_new _ _
 have c1 : W0.cell? ⟨w.heap.size, 1, none⟩ = some (.int .i64 x1) := cell_of b0 rfl
 clear b0
 go_enter Tryz.func165, Tryz.ntmps165
 go_wp2_with (go_at_call 145; refine (cmpi_any _ _ _).mono ?_; rintro e w1 ⟨rfl, rfl⟩)
 go_ret
 exact ⟨rfl, HD.out⟩
def fnd (L : List EdT) (k : Nat) (y : Int) : Bool := match L[k]? with
 | some x => Lib.compareInt x.2.1 y == 0
 | none => false
theorem cmp_lt (x y : Int) : Lib.compareInt x y < 0 ↔ x < y := by
 rcases cmp_pos x y with ⟨h, e⟩ | ⟨h, e⟩ | ⟨h, e⟩ <;> rw [e] <;> omega
theorem search_any (w : World) (ao : Option Addr) (L : List EdT) (c : Nat) (y : Int) (hr : Hid (RdE w ao L)) (hl : L.length ≤ 4194304) (hS : Hid (∀ i j (hi : i < L.length) (hj : j < L.length), i ≤ j → L[i].2.1 ≤ L[j].2.1)) :
 Calls Tryz.prog 166 #[.slice ao L.length c, .int .i64 y, .func (.func 165) #[] #[]] w fun e w' => ∃ k : Nat, e = .returned (.tuple #[.int .i64 k, .bool (fnd L k y)]) ∧ k ≤ L.length ∧ (∀ t (h : t < L.length), L[t].2.1 < y ↔ t < k) ∧ Below w.heap.size w w' := by
 go_enter Tryz.func166, Tryz.ntmps166
 go_wp2
 go_loopw [9, 10] (fun iv jv wr => ∃ i j : Nat, i ≤ j ∧ j ≤ L.length ∧ iv = .int .i64 i ∧ jv = .int .i64 j ∧ Hid ((∀ t (h : t < L.length), t < i → L[t].2.1 < y) ∧ (∀ t (h : t < L.length), j ≤ t → y ≤ L[t].2.1) ∧ Below w.heap.size w wr)) (fun iv jv _ => (intOf jv).toNat - (intOf iv).toNat)
 case atStart => exact ⟨0, L.length, Nat.zero_le _, Nat.le_refl _, rfl, rfl, hide ⟨fun t _ h => absurd h (Nat.not_lt_zero t), fun t h h2 => absurd h (by omega), Below.refl _ _⟩⟩
 case round =>
  obtain ⟨i, j, hij, hjl, rfl, rfl, HI⟩ := hrel
  by_cases hlt : i < j
  · have l0 : (i : Int) < (j : Int) := by omega
    have l1 : (0 : Int) ≤ (i : Int) := by omega
    have l2 : (j : Int) ≤ 4194304 := by omega
    go_upto_region 5 with fail
    obtain ⟨h, hh⟩ : ∃ h : Nat, ((i : Int) + (j : Int)) / 2 = (h : Int) := ⟨(i + j) / 2, by omega⟩
    rw [hh]
    have hb : i ≤ h ∧ h < j := by omega
    clear hh
    have h0 : (0 : Int) ≤ (h : Int) := by omega
    have h1 : (h : Int) < (L.length : Int) := by omega
    have h2 : (h : Int) ≤ 4194304 := by omega
    have hhl : h < L.length := by omega
    obtain ⟨g, o, rfl, q0, q1, q2⟩ := (hr.out.on HI.out.2.2) h hhl
    obtain ⟨x, hx⟩ : ∃ x, L[h] = x := ⟨_, rfl⟩
    rw [hx] at q0 q1 q2
    obtain ⟨x0, x1, x2⟩ := x
    have T := symOrder_any wr (x0, x1, x2) y
    simp only at T q0 q1 q2
    have HX := hide (show L[h].2.1 = x1 by rw [hx])
    clear hx
    have HC := hide (cmp_lt x1 y)
    generalize Lib.compareInt x1 y = cv at T HC
    by_cases hc : cv < 0
    · go_wp2_with (go_at_call 165; refine T.mono ?_; rintro e w2 ⟨rfl, d2⟩)
      refine ⟨⟨h + 1, j, by omega, hjl, by go_num, rfl, hide ⟨fun t ht hti => ?_, HI.out.2.1, HI.out.2.2.trans (d2.mono HI.out.2.2.size)⟩⟩, by simp [intOf]; omega⟩
      have e1 := hS.out t h ht hhl (by omega)
      have e2 := HC.out.1 hc
      rw [HX.out] at e1
      omega
    · go_wp2_with (go_at_call 165; refine T.mono ?_; rintro e w2 ⟨rfl, d2⟩)
      refine ⟨⟨i, h, by omega, by omega, rfl, rfl, hide ⟨HI.out.1, fun t ht hti => ?_, HI.out.2.2.trans (d2.mono HI.out.2.2.size)⟩⟩, by simp [intOf]; omega⟩
      have e1 := hS.out h t hhl ht hti
      have e2 : ¬ x1 < y := fun q => by have := HC.out.2 q; omega
      rw [HX.out] at e1
      omega
  · obtain rfl : i = j := by omega
    have l0 : ¬ (i : Int) < (i : Int) := by omega
    by_cases hi : i < L.length
    · have l1 : (i : Int) < (L.length : Int) := by omega
      have l2 : (0 : Int) ≤ (i : Int) := by omega
      obtain ⟨g, o, rfl, q0, q1, q2⟩ := (hr.out.on HI.out.2.2) i hi
      obtain ⟨x, hx⟩ : ∃ x, L[i] = x := ⟨_, rfl⟩
      rw [hx] at q0 q1 q2
      obtain ⟨x0, x1, x2⟩ := x
      have T := symOrder_any wr (x0, x1, x2) y
      simp only at T q0 q1 q2
      have HX : Hid (fnd L i y = (Lib.compareInt x1 y == 0)) := hide (by unfold fnd; rw [List.getElem?_eq_getElem hi, hx])
      clear hx
      go_wp2_with (go_at_call 165; refine T.mono ?_; rintro e w2 ⟨rfl, d2⟩)
      go_ret2
      exact ⟨i, by rw [HX.out]; rfl, hjl, fun t ht => ⟨fun q => Nat.lt_of_not_le fun z => by have := HI.out.2.1 t ht z; omega, HI.out.1 t ht⟩, HI.out.2.2.trans (d2.mono HI.out.2.2.size)⟩
    · have l1 : ¬ (i : Int) < (L.length : Int) := by omega
      have HX : Hid (fnd L i y = false) := hide (by unfold fnd; rw [List.getElem?_eq_none (by omega)])
      go_wp2_with fail
      go_ret2
      exact ⟨i, by rw [HX.out]; rfl, hjl, fun t ht => ⟨fun q => Nat.lt_of_not_le fun z => by have := HI.out.2.1 t ht z; omega, HI.out.1 t ht⟩, HI.out.2.2⟩
end Go.Proofs.YtchoopnjckcohaaGreatDoor
namespace Go.Proofs.YtchoopnjckcohaaGreatDoor
open Go.RowKit Go.Maps
theorem lessC_at {Es : List EdT} (hS : SsE Es) (c i : Nat) (h : i < Es.length) : Es[i].1 < (c : Int) ↔ i < lessC Es c := by
 have := pre_count (fun e : EdT => decide (e.1 < (c : Int))) Es (hS.imp fun {a b} hab hb => by
  rw [ltE_iff] at hab
  rw [decide_eq_true_eq] at hb ⊢
  omega) i h
 unfold lessC
 rw [← this, decide_eq_true_eq]
theorem part_from {Es : List EdT} (hS : SsE Es) {p t : Nat} (h : t < (subL Es (lessC Es p) (lessC Es (p + 1))).length) : (subL Es (lessC Es p) (lessC Es (p + 1)))[t].1 = (p : Int) := by
 obtain ⟨h2, e⟩ := subL_get t h
 rw [subL_len (lessC_le _ _)] at h
 have a1 := lessC_at hS p _ h2
 have a2 := lessC_at hS (p + 1) _ h2
 rw [e]
 have b1 : ¬ Es[lessC Es p + t].1 < (p : Int) := fun q => by have := a1.1 q; omega
 have b2 := a2.2 (by omega)
 omega
theorem part_up {Es : List EdT} (hS : SsE Es) {p : Nat} : ∀ i j (hi : i < (subL Es (lessC Es p) (lessC Es (p + 1))).length) (hj : j < (subL Es (lessC Es p) (lessC Es (p + 1))).length), i ≤ j → (subL Es (lessC Es p) (lessC Es (p + 1)))[i].2.1 ≤ (subL Es (lessC Es p) (lessC Es (p + 1)))[j].2.1 := fun i j hi hj hij => by
 rcases Nat.eq_or_lt_of_le hij with rfl | hlt
 · exact Int.le_refl _
 · have h := (List.pairwise_iff_getElem.1 (subL_ss hS _ _)) i j hi hj hlt
   have e1 := part_from hS hi
   have e2 := part_from hS hj
   rw [ltE_iff] at h
   omega
theorem from_eq {Es : List EdT} (hS : SsE Es) {p k z : Nat} {y : Int} {L : List EdT} (hL : subL Es (lessC Es p) (lessC Es (p + 1)) = L)
 (hk : ∀ t (h : t < L.length), L[t].2.1 < y ↔ t < k) (hkz : k ≤ z) (hm : ∀ t (h : t < L.length), k ≤ t → t < z → L[t].2.1 = y) (he : ∀ h : z < L.length, L[z].2.1 ≠ y) : subL L k z = fromL Es p y := by
 subst hL
 refine ss_eq _ _ (subL_ss (subL_ss hS _ _) _ _) (fromL_ss hS _ _) fun x => ⟨fun hx => ?_, fun hx => ?_⟩
 · obtain ⟨t, ht, rfl⟩ := List.getElem_of_mem hx
   obtain ⟨h2, e⟩ := subL_get t ht
   have hz : t < z - k := by
    have : (subL (subL Es (lessC Es p) (lessC Es (p + 1))) k z).length ≤ z - k := by unfold subL; exact List.length_take_le _ _
    omega
   rw [e, fromL_iff]
   exact ⟨List.mem_of_mem_drop (List.mem_of_mem_take (List.getElem_mem h2)), part_from hS h2, hm _ h2 (by omega) (by omega)⟩
 · rw [fromL_iff] at hx
   obtain ⟨hx, h1, h2⟩ := hx
   obtain ⟨i, hi, rfl⟩ := List.getElem_of_mem hx
   have a1 := lessC_at hS p i hi
   have a2 := lessC_at hS (p + 1) i hi
   have b1 : lessC Es p ≤ i := Nat.le_of_not_lt fun q => by have := a1.2 q; omega
   have b2 := a2.1 (by omega)
   obtain ⟨t, rfl⟩ : ∃ t, i = lessC Es p + t := ⟨i - lessC Es p, by omega⟩
   have ht : t < (subL Es (lessC Es p) (lessC Es (p + 1))).length := by rw [subL_len (lessC_le _ _)]; omega
   obtain ⟨h3, e⟩ := subL_get t ht
   rw [← e] at h2 ⊢
   have k1 : k ≤ t := Nat.le_of_not_lt fun q => by have := (hk t ht).2 q; omega
   have z1 : t < z := Nat.lt_of_not_le fun q => by
    have hzl : z < (subL Es (lessC Es p) (lessC Es (p + 1))).length := by omega
    have q1 := he hzl
    have q2 := part_up hS z t hzl ht q
    have q3 : ¬ (subL Es (lessC Es p) (lessC Es (p + 1)))[z].2.1 < y := fun q4 => by have := (hk z hzl).1 q4; omega
    omega
   generalize subL Es (lessC Es p) (lessC Es (p + 1)) = L at *
   have hl2 : t - k < (subL L k z).length := by unfold subL; rw [List.length_take, List.length_drop]; omega
   obtain ⟨h4, e4⟩ := subL_get (t - k) hl2
   have : L[t] = (subL L k z)[t - k] := by
    rw [e4]
    congr 1
    omega
   rw [this]
   exact List.getElem_mem hl2
end Go.Proofs.YtchoopnjckcohaaGreatDoor
