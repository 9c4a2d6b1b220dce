import Derived.Test.YtmagchclmmphaabGreatDoorNS
import Derived.Laws.IdiomStrings
import Derived.Deep.RegionWith
namespace Go.Proofs.YtmagchclmmphaabGreatDoor
open Go.RowKit Go.Maps

set_option maxRecDepth 100000 in
set_option maxHeartbeats 1000000 in
theorem alongN_any (p r : Nat) (w : World) (hT : RowsAt w) (hw0 : 1 < w.heap.size) (hp : p < 32) (hr : r < 17) :
    Calls Tryz.prog 132 #[.agg #[.int .u8 (p : Nat), .int .i64 (r : Nat)]] w fun e w' => e = .returned (spV (alongN p r)) ∧ Below w.heap.size w w' := by
  have n1 : ¬ w.heap.size = 1 := by omega
  have n2 : ¬ 1 = w.heap.size := by omega
  have n3 : ¬ w.heap.size = 0 := by omega
  have n4 : 0 < w.heap.size := by omega
  obtain ⟨h1, h2, h3, h4, h5, h6⟩ := hT p hp
  clear hT h1 h2 h4 h5 h6
  by_cases h : nameOf p ≠ p
  · have HE := hide (show alongN p r = (nameOf p, 1) by unfold alongN; rw [if_pos h])
    have hl : (((nameOf p : Nat) : Int) == (p : Int)) = false := by rw [beq_eq_false_iff_ne]; omega
    clear h
    go_enter Tryz.func132, Tryz.ntmps132
    go_wp2
    refine bodyPost_ret (v := spV (nameOf p, 1)) (by simp [results, go_sem, spV]) rfl ⟨by rw [HE.out], ?_⟩
    exact ((Below.refl _ _).alloc (Nat.le_refl _) _).alloc (by simp) _
  · have h' : nameOf p = p := by omega
    by_cases h16 : r = 16
    · have HE := hide (show alongN p r = (0, 0) by unfold alongN; rw [if_neg h, if_pos h16])
      have hl : (((nameOf p : Nat) : Int) == (p : Int)) = true := by rw [beq_iff_eq]; omega
      have hk : ((r : Int) == 16) = true := by rw [beq_iff_eq]; omega
      clear h h' h16
      go_enter Tryz.func132, Tryz.ntmps132
      go_wp2
      refine bodyPost_ret (v := spV (0, 0)) (by simp [results, go_sem, spV]) rfl ⟨by rw [HE.out], ?_⟩
      exact ((Below.refl _ _).alloc (Nat.le_refl _) _).alloc (by simp) _
    · have HE := hide (show alongN p r = (nameOf p, r + 1) by unfold alongN; rw [if_neg h, if_neg h16, h'])
      have hl : (((nameOf p : Nat) : Int) == (p : Int)) = true := by rw [beq_iff_eq]; omega
      have hk : ((r : Int) == 16) = false := by rw [beq_eq_false_iff_ne]; omega
      clear h h' h16
      go_enter Tryz.func132, Tryz.ntmps132
      go_wp2
      refine bodyPost_ret (v := spV (nameOf p, r + 1)) (by simp [results, go_sem, spV]) rfl ⟨by rw [HE.out], ?_⟩
      exact ((Below.refl _ _).alloc (Nat.le_refl _) _).alloc (by simp) _

theorem idx_w (s : ByteArray) (k c : Nat) (h : k < s.size) (hc : s[k].toNat = c) (W : World) : (Instr.index 9 (.string s) (.int .i64 (k : Int))).run Tryz.prog W = .ok (.int .u8 (c : Int)) W := by
  rw [run_index_string W 9 s .i64 _ Tryz.underlying9, dif_pos (by omega)]
  simp only [Int.toNat_natCast, hc]
theorem strB_get (l : List Nat) (k : Nat) (h : k < (strB l).size) (hl : l.getD k 0 < 256) : (strB l)[k].toNat = l.getD k 0 := by
  have hk : k < l.length := by rw [strB_size] at h; exact h
  simp only [List.getD_eq_getElem?_getD, List.getElem?_eq_getElem hk, Option.getD_some] at hl ⊢
  simp [strB, ByteArray.getElem_eq_getElem_data, Nat.mod_eq_of_lt hl]
theorem word_lt : ∀ p, p < 32 → ∀ r, r < 17 → (wordOf p).getD r 0 < 256 := by decide




theorem word_some (p : Nat) (h : wordOf p ≠ []) : ((strB (wordOf p)).toList == []) = false := by
  rw [beq_eq_false_iff_ne]
  intro e
  rw [ByteArray.toList_eq] at e
  have : (strB (wordOf p)).data.toList.length = 0 := by rw [e]; rfl
  simp [strB] at this
  exact h this
theorem word_none (p : Nat) (h : wordOf p = []) : ((strB (wordOf p)).toList == []) = true := by
  rw [h, ByteArray.toList_eq]; rfl

/-- The world in which a step has its variables. -/
theorem below3 (w : World) (o1 o2 o3 : Obj) : Below w.heap.size w (((w.alloc o1).alloc o2).alloc o3) := (((Below.refl _ _).alloc (Nat.le_refl _) _).alloc (by simp) _).alloc (by simp; omega) _
theorem res_cells (w : World) (o1 o3 : Obj) (c0 c1 : Value) : (((w.alloc o1).alloc (.cells #[c0, c1] 107)).alloc o3).heap[w.heap.size + 1]? = some (.cells #[c0, c1] 107) := by
  rw [Below.heap_alloc _ _ _ (by simp), show w.heap.size + 1 = (w.alloc o1).heap.size by simp]
  exact (MapKept.heap_alloc _ _).1


set_option maxRecDepth 100000 in
set_option maxHeartbeats 1000000 in
theorem stepA (p r b : Nat) (w : World) (hT : RowsAt w) (hw0 : 1 < w.heap.size) (hp : p < 32) (hr : r < 17) (hrw : r < (wordOf p).length) (hb : (wordOf p).getD r 0 = b) :
    Calls Tryz.prog 101 #[.agg #[.int .u8 (p : Nat), .int .i64 (r : Nat)], .int .u8 b] w fun e w' => e = .returned (spV (stepF (p, r) b)) ∧ Below w.heap.size w w' := by
  have n1 : ¬ w.heap.size = 1 := by omega
  have n2 : ¬ 1 = w.heap.size := by omega
  have n3 : ¬ w.heap.size = 0 := by omega
  have n4 : 0 < w.heap.size := by omega
  have HT := hide hT
  obtain ⟨h1, h2, h3, h4, h5, h6⟩ := hT p hp
  clear hT
  have hne : wordOf p ≠ [] := fun e => by rw [e] at hrw; simp at hrw
  have HE := hide (show stepF (p, r) b = alongW p r by unfold stepF; rw [if_pos ⟨hne, hb⟩])
  have hix := idx_w (strB (wordOf p)) r b (by rw [strB_size]; exact hrw) (by rw [strB_get _ _ _ (word_lt p hp r hr), hb])
  have hs0 := word_some p hne
  generalize strB (wordOf p) = sw at *
  generalize strB (signsOf p) = sg at *

  clear hrw hb hne
  go_enter Tryz.func101, Tryz.ntmps101
  go_wp2_with fail
  refine (alongW_any p r _ (HT.out.below (below3 _ _ _ _) hw0) (by simp) hp hr).mono ?_
  generalize alongW p r = q at *
  obtain ⟨x, y⟩ := q
  rintro e w1 ⟨rfl, d⟩
  have hb1 := (d.block (w.heap.size + 1) (by simp)).trans (res_cells w _ _ _ _)
  have c0 : w1.cell? ⟨w.heap.size + 1, 0, none⟩ = some (.int .u8 0) := by simp [World.cell?, hb1]
  have c1 : w1.cell? ⟨w.heap.size + 1, 1, none⟩ = some (.int .i64 0) := by simp [World.cell?, hb1]
  have f0 : w1.frozen? ⟨w.heap.size + 1, 0, none⟩ = false := by simp [World.frozen?, hb1]
  have f1 : w1.frozen? ⟨w.heap.size + 1, 1, none⟩ = false := by simp [World.frozen?, hb1]
  have HD := hide d
  unfold spV
  simp only
  clear d hb1
  go_wp2
  refine bodyPost_ret (v := spV (x, y)) (by simp [results, go_sem, spV, c0, c1]) rfl ⟨by rw [HE.out], ?_⟩
  exact (((below3 _ _ _ _).trans (HD.out.mono (below3 _ _ _ _).size)).setCell (by simp) _).setCell (by simp) _


set_option maxRecDepth 100000 in
set_option maxHeartbeats 1000000 in
theorem stepB (p r b : Nat) (w : World) (hT : RowsAt w) (hw0 : 1 < w.heap.size) (hp : p < 32) (hr : r < 17) (hrw : r < (wordOf p).length) (hb : (wordOf p).getD r 0 ≠ b) (h0 : 0 < r) :
    Calls Tryz.prog 101 #[.agg #[.int .u8 (p : Nat), .int .i64 (r : Nat)], .int .u8 b] w fun e w' => e = .returned (spV (stepF (p, r) b)) ∧ Below w.heap.size w w' := by
  have n1 : ¬ w.heap.size = 1 := by omega
  have n2 : ¬ 1 = w.heap.size := by omega
  have n3 : ¬ w.heap.size = 0 := by omega
  have n4 : 0 < w.heap.size := by omega
  have HT := hide hT
  obtain ⟨h1, h2, h3, h4, h5, h6⟩ := hT p hp
  clear hT
  have hne : wordOf p ≠ [] := fun e => by rw [e] at hrw; simp at hrw
  have HE := hide (show stepF (p, r) b = (0, 0) by unfold stepF; rw [if_neg (fun h => hb h.2), if_pos ⟨hne, h0⟩])
  have hix := idx_w (strB (wordOf p)) r _ (by rw [strB_size]; exact hrw) (strB_get _ _ _ (word_lt p hp r hr))
  have hs0 := word_some p hne
  generalize (wordOf p).getD r 0 = c at *
  have hcb : ((b : Int) == (c : Int)) = false := by rw [beq_eq_false_iff_ne]; omega
  have hr0 : (r : Int) > 0 := by omega
  generalize strB (wordOf p) = sw at *
  generalize strB (signsOf p) = sg at *

  clear hrw hb hne h0
  go_enter Tryz.func101, Tryz.ntmps101
  go_wp2
  refine bodyPost_ret (v := spV (0, 0)) (by simp [results, go_sem, spV]) rfl ⟨by rw [HE.out], ?_⟩
  exact below3 _ _ _ _


set_option maxRecDepth 100000 in
set_option maxHeartbeats 1000000 in
theorem stepNf (p r b : Nat) (w : World) (hT : RowsAt w) (hw0 : 1 < w.heap.size) (hp : p < 32) (_hr : r < 17) (hwd : wordOf p = []) (h10 : b = 10) :
    Calls Tryz.prog 101 #[.agg #[.int .u8 (p : Nat), .int .i64 (r : Nat)], .int .u8 b] w fun e w' => e = .returned (spV (stepF (p, r) b)) ∧ Below w.heap.size w w' := by
  have n1 : ¬ w.heap.size = 1 := by omega
  have n2 : ¬ 1 = w.heap.size := by omega
  have n3 : ¬ w.heap.size = 0 := by omega
  have n4 : 0 < w.heap.size := by omega
  have HT := hide hT
  obtain ⟨h1, h2, h3, h4, h5, h6⟩ := hT p hp
  clear hT
  have n1 : ¬ (wordOf p ≠ [] ∧ (wordOf p).getD r 0 = b) := fun h => h.1 hwd
  have n2 : ¬ (wordOf p ≠ [] ∧ 0 < r) := fun h => h.1 hwd
  have hs0 := word_none p hwd
  generalize strB (wordOf p) = sw at *
  generalize strB (signsOf p) = sg at *

  have HE := hide (show stepF (p, r) b = (feedOf p, 0) by unfold stepF; rw [if_neg n1, if_neg n2, if_pos h10])
  have e10 : ((b : Int) == 10) = true := by rw [beq_iff_eq]; omega
  clear n1 n2 hwd h10
  go_enter Tryz.func101, Tryz.ntmps101
  go_wp2
  refine bodyPost_ret (v := spV (feedOf p, 0)) (by simp [results, go_sem, spV]) rfl ⟨by rw [HE.out], ?_⟩
  exact below3 _ _ _ _


set_option maxRecDepth 100000 in
set_option maxHeartbeats 1000000 in
theorem stepNb (p r b : Nat) (w : World) (hT : RowsAt w) (hw0 : 1 < w.heap.size) (hp : p < 32) (_hr : r < 17) (hwd : wordOf p = []) (h32 : b = 32) :
    Calls Tryz.prog 101 #[.agg #[.int .u8 (p : Nat), .int .i64 (r : Nat)], .int .u8 b] w fun e w' => e = .returned (spV (stepF (p, r) b)) ∧ Below w.heap.size w w' := by
  have n1 : ¬ w.heap.size = 1 := by omega
  have n2 : ¬ 1 = w.heap.size := by omega
  have n3 : ¬ w.heap.size = 0 := by omega
  have n4 : 0 < w.heap.size := by omega
  have HT := hide hT
  obtain ⟨h1, h2, h3, h4, h5, h6⟩ := hT p hp
  clear hT
  have n1 : ¬ (wordOf p ≠ [] ∧ (wordOf p).getD r 0 = b) := fun h => h.1 hwd
  have n2 : ¬ (wordOf p ≠ [] ∧ 0 < r) := fun h => h.1 hwd
  have hs0 := word_none p hwd
  generalize strB (wordOf p) = sw at *
  generalize strB (signsOf p) = sg at *

  have HE := hide (show stepF (p, r) b = (blankOf p, 0) by unfold stepF; rw [if_neg n1, if_neg n2, if_neg (by omega), if_pos (.inl h32)])
  have e10 : ((b : Int) == 10) = false := by rw [beq_eq_false_iff_ne]; omega
  have e32 : ((b : Int) == 32) = true := by rw [beq_iff_eq]; omega
  clear n1 n2 hwd h32
  go_enter Tryz.func101, Tryz.ntmps101
  go_wp2
  refine bodyPost_ret (v := spV (blankOf p, 0)) (by simp [results, go_sem, spV]) rfl ⟨by rw [HE.out], ?_⟩
  exact below3 _ _ _ _


set_option maxRecDepth 100000 in
set_option maxHeartbeats 1000000 in
theorem stepNt (p r b : Nat) (w : World) (hT : RowsAt w) (hw0 : 1 < w.heap.size) (hp : p < 32) (_hr : r < 17) (hwd : wordOf p = []) (h9 : b = 9) :
    Calls Tryz.prog 101 #[.agg #[.int .u8 (p : Nat), .int .i64 (r : Nat)], .int .u8 b] w fun e w' => e = .returned (spV (stepF (p, r) b)) ∧ Below w.heap.size w w' := by
  have n1 : ¬ w.heap.size = 1 := by omega
  have n2 : ¬ 1 = w.heap.size := by omega
  have n3 : ¬ w.heap.size = 0 := by omega
  have n4 : 0 < w.heap.size := by omega
  have HT := hide hT
  obtain ⟨h1, h2, h3, h4, h5, h6⟩ := hT p hp
  clear hT
  have n1 : ¬ (wordOf p ≠ [] ∧ (wordOf p).getD r 0 = b) := fun h => h.1 hwd
  have n2 : ¬ (wordOf p ≠ [] ∧ 0 < r) := fun h => h.1 hwd
  have hs0 := word_none p hwd
  generalize strB (wordOf p) = sw at *
  generalize strB (signsOf p) = sg at *

  have HE := hide (show stepF (p, r) b = (blankOf p, 0) by unfold stepF; rw [if_neg n1, if_neg n2, if_neg (by omega), if_pos (.inr h9)])
  have e10 : ((b : Int) == 10) = false := by rw [beq_eq_false_iff_ne]; omega
  have e32 : ((b : Int) == 32) = false := by rw [beq_eq_false_iff_ne]; omega
  have e9 : ((b : Int) == 9) = true := by rw [beq_iff_eq]; omega
  clear n1 n2 hwd h9
  go_enter Tryz.func101, Tryz.ntmps101
  go_wp2
  refine bodyPost_ret (v := spV (blankOf p, 0)) (by simp [results, go_sem, spV]) rfl ⟨by rw [HE.out], ?_⟩
  exact below3 _ _ _ _


set_option maxRecDepth 100000 in
set_option maxHeartbeats 1000000 in
theorem stepNs (p r b : Nat) (w : World) (hT : RowsAt w) (hw0 : 1 < w.heap.size) (hp : p < 32) (_hr : r < 17) (hwd : wordOf p = []) (hb2 : b < 256) (h10 : b ≠ 10) (h32 : b ≠ 32) (h9 : b ≠ 9) (hs : (signsOf p).contains b = true) :
    Calls Tryz.prog 101 #[.agg #[.int .u8 (p : Nat), .int .i64 (r : Nat)], .int .u8 b] w fun e w' => e = .returned (spV (stepF (p, r) b)) ∧ Below w.heap.size w w' := by
  have n1 : ¬ w.heap.size = 1 := by omega
  have n2 : ¬ 1 = w.heap.size := by omega
  have n3 : ¬ w.heap.size = 0 := by omega
  have n4 : 0 < w.heap.size := by omega
  have HT := hide hT
  obtain ⟨h1, h2, h3, h4, h5, h6⟩ := hT p hp
  clear hT
  have n1 : ¬ (wordOf p ≠ [] ∧ (wordOf p).getD r 0 = b) := fun h => h.1 hwd
  have n2 : ¬ (wordOf p ≠ [] ∧ 0 < r) := fun h => h.1 hwd
  have hs0 := word_none p hwd
  have hsi := signs_idx p hp b hb2
  generalize strB (wordOf p) = sw at *
  generalize strB (signsOf p) = sg at *
  obtain ⟨fi, hfi⟩ : ∃ fi, firstIdx sg b.toUInt8 = fi := ⟨_, rfl⟩
  rw [hfi] at hsi

  have HE := hide (show stepF (p, r) b = (pastOf p, 0) by unfold stepF; rw [if_neg n1, if_neg n2, if_neg h10, if_neg (fun h => h.elim h32 h9), if_pos hs])
  have e10 : ((b : Int) == 10) = false := by rw [beq_eq_false_iff_ne]; omega
  have e32 : ((b : Int) == 32) = false := by rw [beq_eq_false_iff_ne]; omega
  have e9 : ((b : Int) == 9) = false := by rw [beq_eq_false_iff_ne]; omega
  rw [hs, decide_eq_true_iff] at hsi
  have hge : fi ≥ 0 := hsi
  clear n1 n2 hwd h10 h32 h9 hs hsi
  go_enter Tryz.func101, Tryz.ntmps101
  go_wp2_with (go_at_call 130; refine (idx_any sg b _).mono ?_; rintro e w' ⟨rfl, rfl⟩; rw [hfi])
  refine bodyPost_ret (v := spV (pastOf p, 0)) (by simp [results, go_sem, spV]) rfl ⟨by rw [HE.out], ?_⟩
  exact below3 _ _ _ _


set_option maxRecDepth 100000 in
set_option maxHeartbeats 1000000 in
theorem stepNn (p r b : Nat) (w : World) (hT : RowsAt w) (hw0 : 1 < w.heap.size) (hp : p < 32) (hr : r < 17) (hwd : wordOf p = []) (hb2 : b < 256) (h10 : b ≠ 10) (h32 : b ≠ 32) (h9 : b ≠ 9) (hs : (signsOf p).contains b = false) (hnm : isNm b = true) :
    Calls Tryz.prog 101 #[.agg #[.int .u8 (p : Nat), .int .i64 (r : Nat)], .int .u8 b] w fun e w' => e = .returned (spV (stepF (p, r) b)) ∧ Below w.heap.size w w' := by
  have n1 : ¬ w.heap.size = 1 := by omega
  have n2 : ¬ 1 = w.heap.size := by omega
  have n3 : ¬ w.heap.size = 0 := by omega
  have n4 : 0 < w.heap.size := by omega
  have HT := hide hT
  obtain ⟨h1, h2, h3, h4, h5, h6⟩ := hT p hp
  clear hT
  have n1 : ¬ (wordOf p ≠ [] ∧ (wordOf p).getD r 0 = b) := fun h => h.1 hwd
  have n2 : ¬ (wordOf p ≠ [] ∧ 0 < r) := fun h => h.1 hwd
  have hs0 := word_none p hwd
  have hsi := signs_idx p hp b hb2
  generalize strB (wordOf p) = sw at *
  generalize strB (signsOf p) = sg at *
  obtain ⟨fi, hfi⟩ : ∃ fi, firstIdx sg b.toUInt8 = fi := ⟨_, rfl⟩
  rw [hfi] at hsi

  have HE := hide (show stepF (p, r) b = alongN p r by unfold stepF; rw [if_neg n1, if_neg n2, if_neg h10, if_neg (fun h => h.elim h32 h9), if_neg (by rw [hs]; exact Bool.false_ne_true), if_pos hnm])
  have e10 : ((b : Int) == 10) = false := by rw [beq_eq_false_iff_ne]; omega
  have e32 : ((b : Int) == 32) = false := by rw [beq_eq_false_iff_ne]; omega
  have e9 : ((b : Int) == 9) = false := by rw [beq_eq_false_iff_ne]; omega
  rw [hs, decide_eq_false_iff_not] at hsi
  have hge : ¬ fi ≥ 0 := hsi
  clear n1 n2 hwd h10 h32 h9 hs hsi
  go_enter Tryz.func101, Tryz.ntmps101
  go_wp2_with (first | (go_at_call 130; refine (idx_any sg b _).mono ?_; rintro e w' ⟨rfl, rfl⟩; rw [hfi]) | (go_at_call 131; refine (nm_any b _).mono ?_; rintro e w' ⟨rfl, rfl⟩; rw [hnm]) | fail)
  refine (alongN_any p r _ (HT.out.below (below3 _ _ _ _) hw0) (by simp) hp hr).mono ?_
  generalize alongN p r = q at *
  obtain ⟨x, y⟩ := q
  rintro e w1 ⟨rfl, d⟩
  have hb1 := (d.block (w.heap.size + 1) (by simp)).trans (res_cells w _ _ _ _)
  have c0 : w1.cell? ⟨w.heap.size + 1, 0, none⟩ = some (.int .u8 0) := by simp [World.cell?, hb1]
  have c1 : w1.cell? ⟨w.heap.size + 1, 1, none⟩ = some (.int .i64 0) := by simp [World.cell?, hb1]
  have f0 : w1.frozen? ⟨w.heap.size + 1, 0, none⟩ = false := by simp [World.frozen?, hb1]
  have f1 : w1.frozen? ⟨w.heap.size + 1, 1, none⟩ = false := by simp [World.frozen?, hb1]
  have HD := hide d
  unfold spV
  simp only
  clear d hb1
  go_wp2
  refine bodyPost_ret (v := spV (x, y)) (by simp [results, go_sem, spV, c0, c1]) rfl ⟨by rw [HE.out], ?_⟩
  exact (((below3 _ _ _ _).trans (HD.out.mono (below3 _ _ _ _).size)).setCell (by simp) _).setCell (by simp) _


set_option maxRecDepth 100000 in
set_option maxHeartbeats 1000000 in
theorem stepNo (p r b : Nat) (w : World) (hT : RowsAt w) (hw0 : 1 < w.heap.size) (hp : p < 32) (_hr : r < 17) (hwd : wordOf p = []) (hb2 : b < 256) (h10 : b ≠ 10) (h32 : b ≠ 32) (h9 : b ≠ 9) (hs : (signsOf p).contains b = false) (hnm : isNm b = false) :
    Calls Tryz.prog 101 #[.agg #[.int .u8 (p : Nat), .int .i64 (r : Nat)], .int .u8 b] w fun e w' => e = .returned (spV (stepF (p, r) b)) ∧ Below w.heap.size w w' := by
  have n1 : ¬ w.heap.size = 1 := by omega
  have n2 : ¬ 1 = w.heap.size := by omega
  have n3 : ¬ w.heap.size = 0 := by omega
  have n4 : 0 < w.heap.size := by omega
  have HT := hide hT
  obtain ⟨h1, h2, h3, h4, h5, h6⟩ := hT p hp
  clear hT
  have n1 : ¬ (wordOf p ≠ [] ∧ (wordOf p).getD r 0 = b) := fun h => h.1 hwd
  have n2 : ¬ (wordOf p ≠ [] ∧ 0 < r) := fun h => h.1 hwd
  have hs0 := word_none p hwd
  have hsi := signs_idx p hp b hb2
  generalize strB (wordOf p) = sw at *
  generalize strB (signsOf p) = sg at *
  obtain ⟨fi, hfi⟩ : ∃ fi, firstIdx sg b.toUInt8 = fi := ⟨_, rfl⟩
  rw [hfi] at hsi

  have HE := hide (show stepF (p, r) b = (0, 0) by unfold stepF; rw [if_neg n1, if_neg n2, if_neg h10, if_neg (fun h => h.elim h32 h9), if_neg (by rw [hs]; exact Bool.false_ne_true), if_neg (by rw [hnm]; exact Bool.false_ne_true)])
  have e10 : ((b : Int) == 10) = false := by rw [beq_eq_false_iff_ne]; omega
  have e32 : ((b : Int) == 32) = false := by rw [beq_eq_false_iff_ne]; omega
  have e9 : ((b : Int) == 9) = false := by rw [beq_eq_false_iff_ne]; omega
  rw [hs, decide_eq_false_iff_not] at hsi
  have hge : ¬ fi ≥ 0 := hsi
  clear n1 n2 hwd h10 h32 h9 hs hsi
  go_enter Tryz.func101, Tryz.ntmps101
  go_wp2_with (first | (go_at_call 130; refine (idx_any sg b _).mono ?_; rintro e w' ⟨rfl, rfl⟩; rw [hfi]) | (go_at_call 131; refine (nm_any b _).mono ?_; rintro e w' ⟨rfl, rfl⟩; rw [hnm]))
  refine bodyPost_ret (v := spV (0, 0)) (by simp [results, go_sem, spV]) rfl ⟨by rw [HE.out], ?_⟩
  exact below3 _ _ _ _


set_option maxRecDepth 100000 in
set_option maxHeartbeats 1000000 in
theorem stepZf (p r b : Nat) (w : World) (hT : RowsAt w) (hw0 : 1 < w.heap.size) (hp : p < 32) (hr : r < 17) (hwd : 0 < (wordOf p).length) (hr0 : r = 0) (hb : (wordOf p).getD r 0 ≠ b) (h10 : b = 10) :
    Calls Tryz.prog 101 #[.agg #[.int .u8 (p : Nat), .int .i64 (r : Nat)], .int .u8 b] w fun e w' => e = .returned (spV (stepF (p, r) b)) ∧ Below w.heap.size w w' := by
  have n1 : ¬ w.heap.size = 1 := by omega
  have n2 : ¬ 1 = w.heap.size := by omega
  have n3 : ¬ w.heap.size = 0 := by omega
  have n4 : 0 < w.heap.size := by omega
  have HT := hide hT
  obtain ⟨h1, h2, h3, h4, h5, h6⟩ := hT p hp
  clear hT
  have n1 : ¬ (wordOf p ≠ [] ∧ (wordOf p).getD r 0 = b) := fun h => hb h.2
  have n2 : ¬ (wordOf p ≠ [] ∧ 0 < r) := fun h => by omega
  have hs0 := word_some p (fun e => by rw [e] at hwd; simp at hwd)
  have hix := idx_w (strB (wordOf p)) r _ (by rw [strB_size]; omega) (strB_get _ _ _ (word_lt p hp r hr))
  obtain ⟨c, hcc⟩ : ∃ c, (wordOf p).getD r 0 = c := ⟨_, rfl⟩
  rw [hcc] at hix
  have hcb : ((b : Int) == (c : Int)) = false := by rw [beq_eq_false_iff_ne]; omega
  have hz : ¬ (r : Int) > 0 := by omega
  generalize strB (wordOf p) = sw at *
  generalize strB (signsOf p) = sg at *

  have HE := hide (show stepF (p, r) b = (feedOf p, 0) by unfold stepF; rw [if_neg n1, if_neg n2, if_pos h10])
  have e10 : ((b : Int) == 10) = true := by rw [beq_iff_eq]; omega
  clear n1 n2 hwd hr0 hb hcc h10
  go_enter Tryz.func101, Tryz.ntmps101
  go_wp2
  refine bodyPost_ret (v := spV (feedOf p, 0)) (by simp [results, go_sem, spV]) rfl ⟨by rw [HE.out], ?_⟩
  exact below3 _ _ _ _


set_option maxRecDepth 100000 in
set_option maxHeartbeats 1000000 in
theorem stepZb (p r b : Nat) (w : World) (hT : RowsAt w) (hw0 : 1 < w.heap.size) (hp : p < 32) (hr : r < 17) (hwd : 0 < (wordOf p).length) (hr0 : r = 0) (hb : (wordOf p).getD r 0 ≠ b) (h32 : b = 32) :
    Calls Tryz.prog 101 #[.agg #[.int .u8 (p : Nat), .int .i64 (r : Nat)], .int .u8 b] w fun e w' => e = .returned (spV (stepF (p, r) b)) ∧ Below w.heap.size w w' := by
  have n1 : ¬ w.heap.size = 1 := by omega
  have n2 : ¬ 1 = w.heap.size := by omega
  have n3 : ¬ w.heap.size = 0 := by omega
  have n4 : 0 < w.heap.size := by omega
  have HT := hide hT
  obtain ⟨h1, h2, h3, h4, h5, h6⟩ := hT p hp
  clear hT
  have n1 : ¬ (wordOf p ≠ [] ∧ (wordOf p).getD r 0 = b) := fun h => hb h.2
  have n2 : ¬ (wordOf p ≠ [] ∧ 0 < r) := fun h => by omega
  have hs0 := word_some p (fun e => by rw [e] at hwd; simp at hwd)
  have hix := idx_w (strB (wordOf p)) r _ (by rw [strB_size]; omega) (strB_get _ _ _ (word_lt p hp r hr))
  obtain ⟨c, hcc⟩ : ∃ c, (wordOf p).getD r 0 = c := ⟨_, rfl⟩
  rw [hcc] at hix
  have hcb : ((b : Int) == (c : Int)) = false := by rw [beq_eq_false_iff_ne]; omega
  have hz : ¬ (r : Int) > 0 := by omega
  generalize strB (wordOf p) = sw at *
  generalize strB (signsOf p) = sg at *

  have HE := hide (show stepF (p, r) b = (blankOf p, 0) by unfold stepF; rw [if_neg n1, if_neg n2, if_neg (by omega), if_pos (.inl h32)])
  have e10 : ((b : Int) == 10) = false := by rw [beq_eq_false_iff_ne]; omega
  have e32 : ((b : Int) == 32) = true := by rw [beq_iff_eq]; omega
  clear n1 n2 hwd hr0 hb hcc h32
  go_enter Tryz.func101, Tryz.ntmps101
  go_wp2
  refine bodyPost_ret (v := spV (blankOf p, 0)) (by simp [results, go_sem, spV]) rfl ⟨by rw [HE.out], ?_⟩
  exact below3 _ _ _ _


set_option maxRecDepth 100000 in
set_option maxHeartbeats 1000000 in
theorem stepZt (p r b : Nat) (w : World) (hT : RowsAt w) (hw0 : 1 < w.heap.size) (hp : p < 32) (hr : r < 17) (hwd : 0 < (wordOf p).length) (hr0 : r = 0) (hb : (wordOf p).getD r 0 ≠ b) (h9 : b = 9) :
    Calls Tryz.prog 101 #[.agg #[.int .u8 (p : Nat), .int .i64 (r : Nat)], .int .u8 b] w fun e w' => e = .returned (spV (stepF (p, r) b)) ∧ Below w.heap.size w w' := by
  have n1 : ¬ w.heap.size = 1 := by omega
  have n2 : ¬ 1 = w.heap.size := by omega
  have n3 : ¬ w.heap.size = 0 := by omega
  have n4 : 0 < w.heap.size := by omega
  have HT := hide hT
  obtain ⟨h1, h2, h3, h4, h5, h6⟩ := hT p hp
  clear hT
  have n1 : ¬ (wordOf p ≠ [] ∧ (wordOf p).getD r 0 = b) := fun h => hb h.2
  have n2 : ¬ (wordOf p ≠ [] ∧ 0 < r) := fun h => by omega
  have hs0 := word_some p (fun e => by rw [e] at hwd; simp at hwd)
  have hix := idx_w (strB (wordOf p)) r _ (by rw [strB_size]; omega) (strB_get _ _ _ (word_lt p hp r hr))
  obtain ⟨c, hcc⟩ : ∃ c, (wordOf p).getD r 0 = c := ⟨_, rfl⟩
  rw [hcc] at hix
  have hcb : ((b : Int) == (c : Int)) = false := by rw [beq_eq_false_iff_ne]; omega
  have hz : ¬ (r : Int) > 0 := by omega
  generalize strB (wordOf p) = sw at *
  generalize strB (signsOf p) = sg at *

  have HE := hide (show stepF (p, r) b = (blankOf p, 0) by unfold stepF; rw [if_neg n1, if_neg n2, if_neg (by omega), if_pos (.inr h9)])
  have e10 : ((b : Int) == 10) = false := by rw [beq_eq_false_iff_ne]; omega
  have e32 : ((b : Int) == 32) = false := by rw [beq_eq_false_iff_ne]; omega
  have e9 : ((b : Int) == 9) = true := by rw [beq_iff_eq]; omega
  clear n1 n2 hwd hr0 hb hcc h9
  go_enter Tryz.func101, Tryz.ntmps101
  go_wp2
  refine bodyPost_ret (v := spV (blankOf p, 0)) (by simp [results, go_sem, spV]) rfl ⟨by rw [HE.out], ?_⟩
  exact below3 _ _ _ _


set_option maxRecDepth 100000 in
set_option maxHeartbeats 1000000 in
theorem stepZs (p r b : Nat) (w : World) (hT : RowsAt w) (hw0 : 1 < w.heap.size) (hp : p < 32) (hr : r < 17) (hwd : 0 < (wordOf p).length) (hr0 : r = 0) (hb : (wordOf p).getD r 0 ≠ b) (hb2 : b < 256) (h10 : b ≠ 10) (h32 : b ≠ 32) (h9 : b ≠ 9) (hs : (signsOf p).contains b = true) :
    Calls Tryz.prog 101 #[.agg #[.int .u8 (p : Nat), .int .i64 (r : Nat)], .int .u8 b] w fun e w' => e = .returned (spV (stepF (p, r) b)) ∧ Below w.heap.size w w' := by
  have n1 : ¬ w.heap.size = 1 := by omega
  have n2 : ¬ 1 = w.heap.size := by omega
  have n3 : ¬ w.heap.size = 0 := by omega
  have n4 : 0 < w.heap.size := by omega
  have HT := hide hT
  obtain ⟨h1, h2, h3, h4, h5, h6⟩ := hT p hp
  clear hT
  have n1 : ¬ (wordOf p ≠ [] ∧ (wordOf p).getD r 0 = b) := fun h => hb h.2
  have n2 : ¬ (wordOf p ≠ [] ∧ 0 < r) := fun h => by omega
  have hs0 := word_some p (fun e => by rw [e] at hwd; simp at hwd)
  have hix := idx_w (strB (wordOf p)) r _ (by rw [strB_size]; omega) (strB_get _ _ _ (word_lt p hp r hr))
  obtain ⟨c, hcc⟩ : ∃ c, (wordOf p).getD r 0 = c := ⟨_, rfl⟩
  rw [hcc] at hix
  have hcb : ((b : Int) == (c : Int)) = false := by rw [beq_eq_false_iff_ne]; omega
  have hz : ¬ (r : Int) > 0 := by omega
  have hsi := signs_idx p hp b hb2
  generalize strB (wordOf p) = sw at *
  generalize strB (signsOf p) = sg at *
  obtain ⟨fi, hfi⟩ : ∃ fi, firstIdx sg b.toUInt8 = fi := ⟨_, rfl⟩
  rw [hfi] at hsi

  have HE := hide (show stepF (p, r) b = (pastOf p, 0) by unfold stepF; rw [if_neg n1, if_neg n2, if_neg h10, if_neg (fun h => h.elim h32 h9), if_pos hs])
  have e10 : ((b : Int) == 10) = false := by rw [beq_eq_false_iff_ne]; omega
  have e32 : ((b : Int) == 32) = false := by rw [beq_eq_false_iff_ne]; omega
  have e9 : ((b : Int) == 9) = false := by rw [beq_eq_false_iff_ne]; omega
  rw [hs, decide_eq_true_iff] at hsi
  have hge : fi ≥ 0 := hsi
  clear n1 n2 hwd hr0 hb hcc h10 h32 h9 hs hsi
  go_enter Tryz.func101, Tryz.ntmps101
  go_wp2_with (go_at_call 130; refine (idx_any sg b _).mono ?_; rintro e w' ⟨rfl, rfl⟩; rw [hfi])
  refine bodyPost_ret (v := spV (pastOf p, 0)) (by simp [results, go_sem, spV]) rfl ⟨by rw [HE.out], ?_⟩
  exact below3 _ _ _ _


set_option maxRecDepth 100000 in
set_option maxHeartbeats 1000000 in
theorem stepZn (p r b : Nat) (w : World) (hT : RowsAt w) (hw0 : 1 < w.heap.size) (hp : p < 32) (hr : r < 17) (hwd : 0 < (wordOf p).length) (hr0 : r = 0) (hb : (wordOf p).getD r 0 ≠ b) (hb2 : b < 256) (h10 : b ≠ 10) (h32 : b ≠ 32) (h9 : b ≠ 9) (hs : (signsOf p).contains b = false) (hnm : isNm b = true) :
    Calls Tryz.prog 101 #[.agg #[.int .u8 (p : Nat), .int .i64 (r : Nat)], .int .u8 b] w fun e w' => e = .returned (spV (stepF (p, r) b)) ∧ Below w.heap.size w w' := by
  have n1 : ¬ w.heap.size = 1 := by omega
  have n2 : ¬ 1 = w.heap.size := by omega
  have n3 : ¬ w.heap.size = 0 := by omega
  have n4 : 0 < w.heap.size := by omega
  have HT := hide hT
  obtain ⟨h1, h2, h3, h4, h5, h6⟩ := hT p hp
  clear hT
  have n1 : ¬ (wordOf p ≠ [] ∧ (wordOf p).getD r 0 = b) := fun h => hb h.2
  have n2 : ¬ (wordOf p ≠ [] ∧ 0 < r) := fun h => by omega
  have hs0 := word_some p (fun e => by rw [e] at hwd; simp at hwd)
  have hix := idx_w (strB (wordOf p)) r _ (by rw [strB_size]; omega) (strB_get _ _ _ (word_lt p hp r hr))
  obtain ⟨c, hcc⟩ : ∃ c, (wordOf p).getD r 0 = c := ⟨_, rfl⟩
  rw [hcc] at hix
  have hcb : ((b : Int) == (c : Int)) = false := by rw [beq_eq_false_iff_ne]; omega
  have hz : ¬ (r : Int) > 0 := by omega
  have hsi := signs_idx p hp b hb2
  generalize strB (wordOf p) = sw at *
  generalize strB (signsOf p) = sg at *
  obtain ⟨fi, hfi⟩ : ∃ fi, firstIdx sg b.toUInt8 = fi := ⟨_, rfl⟩
  rw [hfi] at hsi

  have HE := hide (show stepF (p, r) b = alongN p r by unfold stepF; rw [if_neg n1, if_neg n2, if_neg h10, if_neg (fun h => h.elim h32 h9), if_neg (by rw [hs]; exact Bool.false_ne_true), if_pos hnm])
  have e10 : ((b : Int) == 10) = false := by rw [beq_eq_false_iff_ne]; omega
  have e32 : ((b : Int) == 32) = false := by rw [beq_eq_false_iff_ne]; omega
  have e9 : ((b : Int) == 9) = false := by rw [beq_eq_false_iff_ne]; omega
  rw [hs, decide_eq_false_iff_not] at hsi
  have hge : ¬ fi ≥ 0 := hsi
  clear n1 n2 hwd hr0 hb hcc h10 h32 h9 hs hsi
  go_enter Tryz.func101, Tryz.ntmps101
  go_wp2_with (first | (go_at_call 130; refine (idx_any sg b _).mono ?_; rintro e w' ⟨rfl, rfl⟩; rw [hfi]) | (go_at_call 131; refine (nm_any b _).mono ?_; rintro e w' ⟨rfl, rfl⟩; rw [hnm]) | fail)
  refine (alongN_any p r _ (HT.out.below (below3 _ _ _ _) hw0) (by simp) hp hr).mono ?_
  generalize alongN p r = q at *
  obtain ⟨x, y⟩ := q
  rintro e w1 ⟨rfl, d⟩
  have hb1 := (d.block (w.heap.size + 1) (by simp)).trans (res_cells w _ _ _ _)
  have c0 : w1.cell? ⟨w.heap.size + 1, 0, none⟩ = some (.int .u8 0) := by simp [World.cell?, hb1]
  have c1 : w1.cell? ⟨w.heap.size + 1, 1, none⟩ = some (.int .i64 0) := by simp [World.cell?, hb1]
  have f0 : w1.frozen? ⟨w.heap.size + 1, 0, none⟩ = false := by simp [World.frozen?, hb1]
  have f1 : w1.frozen? ⟨w.heap.size + 1, 1, none⟩ = false := by simp [World.frozen?, hb1]
  have HD := hide d
  unfold spV
  simp only
  clear d hb1
  go_wp2
  refine bodyPost_ret (v := spV (x, y)) (by simp [results, go_sem, spV, c0, c1]) rfl ⟨by rw [HE.out], ?_⟩
  exact (((below3 _ _ _ _).trans (HD.out.mono (below3 _ _ _ _).size)).setCell (by simp) _).setCell (by simp) _


set_option maxRecDepth 100000 in
set_option maxHeartbeats 1000000 in
theorem stepZo (p r b : Nat) (w : World) (hT : RowsAt w) (hw0 : 1 < w.heap.size) (hp : p < 32) (hr : r < 17) (hwd : 0 < (wordOf p).length) (hr0 : r = 0) (hb : (wordOf p).getD r 0 ≠ b) (hb2 : b < 256) (h10 : b ≠ 10) (h32 : b ≠ 32) (h9 : b ≠ 9) (hs : (signsOf p).contains b = false) (hnm : isNm b = false) :
    Calls Tryz.prog 101 #[.agg #[.int .u8 (p : Nat), .int .i64 (r : Nat)], .int .u8 b] w fun e w' => e = .returned (spV (stepF (p, r) b)) ∧ Below w.heap.size w w' := by
  have n1 : ¬ w.heap.size = 1 := by omega
  have n2 : ¬ 1 = w.heap.size := by omega
  have n3 : ¬ w.heap.size = 0 := by omega
  have n4 : 0 < w.heap.size := by omega
  have HT := hide hT
  obtain ⟨h1, h2, h3, h4, h5, h6⟩ := hT p hp
  clear hT
  have n1 : ¬ (wordOf p ≠ [] ∧ (wordOf p).getD r 0 = b) := fun h => hb h.2
  have n2 : ¬ (wordOf p ≠ [] ∧ 0 < r) := fun h => by omega
  have hs0 := word_some p (fun e => by rw [e] at hwd; simp at hwd)
  have hix := idx_w (strB (wordOf p)) r _ (by rw [strB_size]; omega) (strB_get _ _ _ (word_lt p hp r hr))
  obtain ⟨c, hcc⟩ : ∃ c, (wordOf p).getD r 0 = c := ⟨_, rfl⟩
  rw [hcc] at hix
  have hcb : ((b : Int) == (c : Int)) = false := by rw [beq_eq_false_iff_ne]; omega
  have hz : ¬ (r : Int) > 0 := by omega
  have hsi := signs_idx p hp b hb2
  generalize strB (wordOf p) = sw at *
  generalize strB (signsOf p) = sg at *
  obtain ⟨fi, hfi⟩ : ∃ fi, firstIdx sg b.toUInt8 = fi := ⟨_, rfl⟩
  rw [hfi] at hsi

  have HE := hide (show stepF (p, r) b = (0, 0) by unfold stepF; rw [if_neg n1, if_neg n2, if_neg h10, if_neg (fun h => h.elim h32 h9), if_neg (by rw [hs]; exact Bool.false_ne_true), if_neg (by rw [hnm]; exact Bool.false_ne_true)])
  have e10 : ((b : Int) == 10) = false := by rw [beq_eq_false_iff_ne]; omega
  have e32 : ((b : Int) == 32) = false := by rw [beq_eq_false_iff_ne]; omega
  have e9 : ((b : Int) == 9) = false := by rw [beq_eq_false_iff_ne]; omega
  rw [hs, decide_eq_false_iff_not] at hsi
  have hge : ¬ fi ≥ 0 := hsi
  clear n1 n2 hwd hr0 hb hcc h10 h32 h9 hs hsi
  go_enter Tryz.func101, Tryz.ntmps101
  go_wp2_with (first | (go_at_call 130; refine (idx_any sg b _).mono ?_; rintro e w' ⟨rfl, rfl⟩; rw [hfi]) | (go_at_call 131; refine (nm_any b _).mono ?_; rintro e w' ⟨rfl, rfl⟩; rw [hnm]))
  refine bodyPost_ret (v := spV (0, 0)) (by simp [results, go_sem, spV]) rfl ⟨by rw [HE.out], ?_⟩
  exact below3 _ _ _ _


theorem step_any (s : Nat × Nat) (b : Nat) (w : World) (hT : RowsAt w) (hw0 : 1 < w.heap.size) (hs : okS s = true) (hb : b < 256) :
    Calls Tryz.prog 101 #[spV s, .int .u8 b] w fun e w' => e = .returned (spV (stepF s b)) ∧ Below w.heap.size w w' := by
  have n1 : ¬ w.heap.size = 1 := by omega
  have n2 : ¬ 1 = w.heap.size := by omega
  have n3 : ¬ w.heap.size = 0 := by omega
  have n4 : 0 < w.heap.size := by omega
  obtain ⟨p, r⟩ := s
  obtain ⟨_, hp, hr⟩ := ok_bound hs
  simp only at hp hr
  show Calls Tryz.prog 101 #[.agg #[.int .u8 (p : Nat), .int .i64 (r : Nat)], .int .u8 b] w _
  by_cases hw : wordOf p = []
  · by_cases h10 : b = 10
    · exact stepNf p r b w hT hw0 hp hr hw h10
    · by_cases h32 : b = 32
      · exact stepNb p r b w hT hw0 hp hr hw h32
      · by_cases h9 : b = 9
        · exact stepNt p r b w hT hw0 hp hr hw h9
        · cases hsg : (signsOf p).contains b
          · cases hnm : isNm b
            · exact stepNo p r b w hT hw0 hp hr hw hb h10 h32 h9 hsg hnm
            · exact stepNn p r b w hT hw0 hp hr hw hb h10 h32 h9 hsg hnm
          · exact stepNs p r b w hT hw0 hp hr hw hb h10 h32 h9 hsg
  · have hrl : r < (wordOf p).length := by
      simp only [okS, Bool.and_eq_true] at hs
      have := hs.2
      rw [if_pos hw] at this
      simpa using this
    by_cases hwb : (wordOf p).getD r 0 = b
    · exact stepA p r b w hT hw0 hp hr hrl hwb
    · by_cases h0 : 0 < r
      · exact stepB p r b w hT hw0 hp hr hrl hwb h0
      · have hr0 : r = 0 := by omega
        have hl : 0 < (wordOf p).length := by omega
        by_cases h10 : b = 10
        · exact stepZf p r b w hT hw0 hp hr hl hr0 hwb h10
        · by_cases h32 : b = 32
          · exact stepZb p r b w hT hw0 hp hr hl hr0 hwb h32
          · by_cases h9 : b = 9
            · exact stepZt p r b w hT hw0 hp hr hl hr0 hwb h9
            · cases hsg : (signsOf p).contains b
              · cases hnm : isNm b
                · exact stepZo p r b w hT hw0 hp hr hl hr0 hwb hb h10 h32 h9 hsg hnm
                · exact stepZn p r b w hT hw0 hp hr hl hr0 hwb hb h10 h32 h9 hsg hnm
              · exact stepZs p r b w hT hw0 hp hr hl hr0 hwb hb h10 h32 h9 hsg

end Go.Proofs.YtmagchclmmphaabGreatDoor
namespace Go.Proofs.YtmagchclmmphaabGreatDoor
open Go.RowKit Go.Maps

theorem field0 (x y : Nat) (W : World) : (Instr.field 107 (.agg #[.int .u8 (x : Int), .int .i64 (y : Int)]) 0).run Tryz.prog W = .ok (.int .u8 (x : Int)) W := by kernel_rfl

set_option maxRecDepth 100000 in
set_option maxHeartbeats 1000000 in
theorem isF_any (s : Nat × Nat) (w : World) (hT : RowsAt w) (hw0 : 1 < w.heap.size) (hs : okS s = true) :
    Calls Tryz.prog 78 #[spV s] w fun e w' => e = .returned (.bool (isF s)) ∧ Below w.heap.size w w' := by
  have HT := hide hT
  have hst := fun W h1 h2 => step_any s 10 W h1 h2 hs (by omega)
  have HI : Hid (isF s = ((stepF s 10).1 == 24)) := hide rfl
  clear hT hs
  obtain ⟨p, r⟩ := s
  unfold spV at *
  simp only at *
  generalize stepF (p, r) 10 = q at *
  obtain ⟨x, y⟩ := q
  simp only at *
  go_enter Tryz.func78, Tryz.ntmps78
  go_wp2_with fail
  have HB := hide ((Below.refl w.heap.size w).alloc (Nat.le_refl _) (Obj.cells #[Value.int IntKind.u8 p, Value.int IntKind.i64 r] 107))
  refine (hst _ (HT.out.below HB.out hw0) (by simp; omega)).mono ?_
  rintro e w1 ⟨rfl, d⟩
  have HD := hide (HB.out.trans (d.mono (by simp)))
  clear d hst
  have hfd := field0 x y
  go_wp2
  go_ret
  refine ⟨?_, HD.out⟩
  rw [HI.out]
  have : ((x : Int) == 24) = (x == 24) := by rw [Bool.eq_iff_iff, beq_iff_eq, beq_iff_eq]; omega
  rw [this]; rfl

/-- The bytes of a text. -/
def bts (s : ByteArray) : List Nat := s.data.toList.map (·.toNat)
theorem bts_len (s : ByteArray) : (bts s).length = s.size := by unfold bts; rw [List.length_map, Array.length_toList]; rfl
theorem bts_lt (s : ByteArray) : ∀ b ∈ bts s, b < 256 := by
  intro b hb
  obtain ⟨c, _, rfl⟩ := List.mem_map.1 hb
  exact c.toNat_lt
theorem bts_get (s : ByteArray) (k : Nat) (h : k < s.size) : (bts s)[k]'(by rw [bts_len]; exact h) = s[k].toNat := by simp [bts, ByteArray.getElem_eq_getElem_data]

theorem conv_any (s : ByteArray) : ∃ (cap : World → Nat) (row : World → Array Value) (frz : World → Nat × Nat), (∀ W, (convert 9 82 (.string s)).run Tryz.prog W = .ok (.slice (some ⟨W.heap.size, 0, none⟩) s.size (cap W)) (W.drew.alloc (.cells (row W) 5 (frz W)))) ∧ ∀ W k (h : k < s.size), (row W)[k]? = some (.int .u8 ((bts s)[k]'(by rw [bts_len]; exact h) : Nat)) := by
  refine ⟨fun W => grownCap W s.size 0 5, fun W => bytesRow s (grownCap W s.size 0 5), fun W => ((bytesRow s (grownCap W s.size 0 5)).size, (bytesRow s (grownCap W s.size 0 5)).size + 1), fun W => run_bytes_of_string (P := Tryz.prog) W 9 82 5 s Tryz.underlying9 Tryz.underlying82 Tryz.underlying5, fun W k h => ?_⟩
  rw [bts_get s k h]
  unfold bytesRow
  rw [Array.getElem?_append_left (by simpa using h)]
  rw [Array.getElem?_map, Array.getElem?_eq_getElem h]
  rfl

theorem goF_more {s0 c : Nat × Nat} {l : List Nat} {k : Nat} (h : goF s0 (l.take k) = (c, k)) (hk : k < l.length) (hn : (stepF c l[k]).1 ≠ 0) : goF s0 (l.take (k + 1)) = (stepF c l[k], k + 1) := by
  have hl : (l.take k).length = k := by simp; omega
  rw [List.take_succ_eq_append_getElem hk, goF_app _ (by rw [h, hl]), h, goF_on _ hn, hl]
  rfl
theorem goF_halt {s0 c : Nat × Nat} {l : List Nat} {k : Nat} (h : goF s0 (l.take k) = (c, k)) (hk : k < l.length) (hn : (stepF c l[k]).1 = 0) : goF s0 l = (c, k) := by
  have hl : (l.take k).length = k := by simp; omega
  have e : l = l.take k ++ l[k] :: l.drop (k + 1) := by rw [List.getElem_cons_drop, List.take_append_drop]
  rw [e, goF_app _ (by rw [h, hl]), h, goF_stop _ hn, hl]
  rfl

theorem res15 : Tryz.f77.results = #[ResultVar.cell 2 107, ResultVar.tmp 3] := by kernel_rfl

/-- A block that holds a spot. -/
def SpotAt (w : World) (b : Nat) (s : Nat × Nat) : Prop := w.heap[b]? = some (.cells #[.int .u8 (s.1 : Nat), .int .i64 (s.2 : Nat)] 107)
theorem SpotAt.facts {w : World} {b : Nat} {s : Nat × Nat} (h : SpotAt w b s) : w.cell? ⟨b, 0, none⟩ = some (.int .u8 (s.1 : Nat)) ∧ w.cell? ⟨b, 1, none⟩ = some (.int .i64 (s.2 : Nat)) ∧ w.frozen? ⟨b, 0, none⟩ = false ∧ w.frozen? ⟨b, 1, none⟩ = false := by
  unfold SpotAt at h
  refine ⟨?_, ?_, ?_, ?_⟩ <;> simp [World.cell?, World.frozen?, h]
theorem SpotAt.lt {w : World} {b : Nat} {s : Nat × Nat} (h : SpotAt w b s) : b < w.heap.size := (Array.getElem?_eq_some_iff.1 h).1
theorem SpotAt.below {w w' : World} {b B : Nat} {s : Nat × Nat} (h : SpotAt w b s) (hb : Below B w w') (hB : b < B) : SpotAt w' b s := (hb.block b hB).trans h
theorem SpotAt.set {w : World} {b : Nat} {s : Nat × Nat} (h : SpotAt w b s) (x y : Nat) : SpotAt ((w.setCell ⟨b, 0, none⟩ (.int .u8 (x : Nat))).setCell ⟨b, 1, none⟩ (.int .i64 (y : Nat))) b (x, y) := by
  unfold SpotAt at *
  have h1 : (w.setCell ⟨b, 0, none⟩ (.int .u8 (x : Nat))).heap[b]? = some (.cells #[.int .u8 (x : Nat), .int .i64 (s.2 : Nat)] 107 (0, 0)) := by rw [heap_setCell_same w b 0 _ 107 _ h]; simp
  rw [heap_setCell_same _ b 1 _ 107 _ h1]
  simp
theorem SpotAt.set_other {w : World} {b b' : Nat} {s : Nat × Nat} (h : SpotAt w b s) (o : Nat) (u : Value) (hn : b ≠ b') : SpotAt (w.setCell ⟨b', o, none⟩ u) b s := by
  unfold SpotAt at *
  rw [Below.heap_setCell _ _ _ _ hn]; exact h


theorem at_0 (w : World) (o1 o2 o3 : Obj) : (((w.alloc o1).alloc o2).alloc o3).heap[w.heap.size]? = some o1 := by
  rw [Below.heap_alloc _ _ _ (by simp; omega), Below.heap_alloc _ _ _ (by simp)]
  exact (MapKept.heap_alloc _ _).1
theorem at_1 (w : World) (o1 o2 o3 : Obj) : (((w.alloc o1).alloc o2).alloc o3).heap[w.heap.size + 1]? = some o2 := by
  rw [Below.heap_alloc _ _ _ (by simp), show w.heap.size + 1 = (w.alloc o1).heap.size by simp]
  exact (MapKept.heap_alloc _ _).1
theorem at_2 (w : World) (o1 o2 o3 : Obj) : (((w.alloc o1).alloc o2).alloc o3).heap[w.heap.size + 1 + 1]? = some o3 := by
  rw [show w.heap.size + 1 + 1 = ((w.alloc o1).alloc o2).heap.size by simp]
  exact (MapKept.heap_alloc _ _).1

theorem cell_of {w : World} {b j : Nat} {cs : Array Value} {t : TypeId} {fr : Nat × Nat} {v : Value} (h : w.heap[b]? = some (.cells cs t fr)) (hv : cs[j]? = some v) : w.cell? ⟨b, j, none⟩ = some v := by simp [World.cell?, h, hv]
/-- The bytes of a text as they lie in a block. -/
def BtsAt (w : World) (b : Nat) (l : List Nat) : Prop := ∀ j (h : j < l.length), w.cell? ⟨b, j, none⟩ = some (.int .u8 (l[j] : Nat))
theorem BtsAt.below {w w' : World} {b B : Nat} {l : List Nat} (h : BtsAt w b l) (hb : Below B w w') (hB : b < B) : BtsAt w' b l := fun j hj => (hb.cell (p := ⟨b, j, none⟩) hB).trans (h j hj)

set_option maxRecDepth 100000 in
set_option maxHeartbeats 1000000 in
theorem walk_any (s : ByteArray) (w : World) (hT : RowsAt w) (hw0 : 1 < w.heap.size) (hsz : s.size ≤ 134217728) :
    Calls Tryz.prog 77 #[.string s] w fun e w' => e = .returned (.tuple #[spV (goF (1, 0) (bts s)).1, .int .i64 ((goF (1, 0) (bts s)).2 : Nat)]) ∧ Below w.heap.size w w' := by
  obtain ⟨cap, row, frz, hcv, hrow⟩ := conv_any s
  have HROW := hide hrow
  have HT := hide hT
  have HLN := hide (bts_len s)
  have HL := hide (bts_lt s)
  obtain ⟨l, hle⟩ : ∃ l, bts s = l := ⟨_, rfl⟩
  have HLE := hide hle
  rw [hle] at HLN HL
  rw [hle]
  clear hT hrow hle
  go_enter Tryz.func77, Tryz.ntmps77
  go_wp2
  go_loopw [12] (fun i wr => ∃ (k : Nat) (c : Nat × Nat), k ≤ s.size ∧ i = .int .i64 k ∧ Hid (okS c = true ∧ goF (1, 0) (l.take k) = (c, k) ∧ SpotAt wr w.heap.size (0, 0) ∧ SpotAt wr (w.heap.size + 1) c ∧ BtsAt wr (w.heap.size + 1 + 1) l ∧ Below w.heap.size w wr ∧ w.heap.size + 1 + 1 < wr.heap.size)) (fun i _ => s.size - (intOf i).toNat)
  case atStart =>
    refine ⟨0, (1, 0), Nat.zero_le _, rfl, hide ⟨by decide, rfl, at_0 _ _ _ _, at_1 _ _ _ _, fun j hj => ?_, (below3 _ _ _ _).drew, by simp [World.drew]⟩⟩
    have hj' : j < s.size := by have := HLN.out; omega
    have h1 := HROW.out ((w.alloc (Obj.cells #[Value.int IntKind.u8 0, Value.int IntKind.i64 0] 107)).alloc (Obj.cells #[Value.int IntKind.u8 1, Value.int IntKind.i64 0] 107)) j hj'
    have e : (bts s)[j]'(by rw [bts_len]; exact hj') = l[j] := by simp only [HLE.out]
    rw [e] at h1
    exact cell_of (at_2 _ _ _ _) h1
  case round =>
    obtain ⟨k, c, hk, rfl, HH⟩ := hrel
    obtain ⟨hok, hgo, hs0, hs1, hrw, hb, hbig⟩ := HH.out
    have HB := hide hb
    have HS := hide (And.intro hs0 (And.intro hs1 hrw))
    obtain ⟨c0, c1, f0, f1⟩ := hs1.facts
    obtain ⟨r0, r1, g0, g1⟩ := hs0.facts
    by_cases hlt : k < s.size
    · have hkl : k < l.length := by have := HLN.out; omega
      have q := hrw k hkl
      obtain ⟨b, hbk⟩ : ∃ b, l[k] = b := ⟨_, rfl⟩
      rw [hbk] at q
      have hb256 : b < 256 := HL.out b (hbk ▸ List.getElem_mem hkl)
      have i2 : (k : Int) < (s.size : Int) := by omega
      have i0 : (0 : Int) ≤ (k : Int) := by omega
      have hst := fun W h1 h2 => step_any c b W h1 h2 hok hb256
      have HK := hide (And.intro hok (And.intro hgo hbk))
      clear hok hgo hs0 hs1 hrw hb hbk hb256
      obtain ⟨p, r⟩ := c
      by_cases hz : (stepF (p, r) b).1 = 0
      · have HZ := hide hz
        clear hz
        go_wp2_with fail
        refine (hst _ (HT.out.below HB.out hw0) (by omega)).mono ?_
        rintro e w1 ⟨rfl, d⟩
        have hbg : w.heap.size + 1 + 1 < w1.heap.size := Nat.lt_of_lt_of_le hbig d.size
        obtain ⟨x, y, hxy⟩ : ∃ x y, stepF (p, r) b = (x, y) := ⟨_, _, rfl⟩
        have HXY := hide hxy
        rw [hxy]
        clear hxy
        unfold spV
        simp only
        have hba : Below w1.heap.size w1 (w1.alloc (Obj.cells #[Value.int IntKind.u8 (x : Nat), Value.int IntKind.i64 (y : Nat)] 107)) := (Below.refl _ _).alloc (Nat.le_refl _) _
        have hs0 := (HS.out.1.below d (by omega)).below hba (by omega)
        have hs1 := (HS.out.2.1.below d (by omega)).below hba (by omega)
        clear c0 c1 r0 r1 g0 g1 f0 f1
        obtain ⟨c0, c1, f0, f1⟩ := hs1.facts
        obtain ⟨r0, r1, g0, g1⟩ := hs0.facts
        have HD := hide ((HB.out.trans (d.mono HB.out.size)).trans (hba.mono (by omega)))
        have HS1 := hide (And.intro hs0 hs1)
        have HR1 := hide ((HS.out.2.2.below d (by omega)).below hba (by omega))
        clear hs0 hs1 d hst hbig q hba
        simp only at c0 c1 r0 r1
        have hx : ((x : Int) == 0) = true := by
          have := HZ.out
          rw [HXY.out] at this
          rw [beq_iff_eq]; simp only at this; omega
        go_wp2
        have hge : goF (1, 0) l = ((p, r), k) := goF_halt HK.out.2.1 hkl (by rw [HK.out.2.2, HXY.out]; have := HZ.out; rw [HXY.out] at this; exact this)
        obtain ⟨k0, k1, _, _⟩ := (HS1.out.1.set p r).facts
        refine bodyPost_ret (v := .tuple #[spV (p, r), .int .i64 (k : Nat)]) (by simp [results, go_sem, spV, k0, k1]) rfl ⟨by rw [hge], ?_⟩
        exact (HD.out.setCell (Nat.le_refl _) _).setCell (Nat.le_refl _) _
      · have HZ := hide hz
        clear hz
        go_wp2_with fail
        refine (hst _ (HT.out.below HB.out hw0) (by omega)).mono ?_
        rintro e w1 ⟨rfl, d⟩
        have hbg : w.heap.size + 1 + 1 < w1.heap.size := Nat.lt_of_lt_of_le hbig d.size
        obtain ⟨x, y, hxy⟩ : ∃ x y, stepF (p, r) b = (x, y) := ⟨_, _, rfl⟩
        have HXY := hide hxy
        rw [hxy]
        clear hxy
        unfold spV
        simp only
        have hba : Below w1.heap.size w1 (w1.alloc (Obj.cells #[Value.int IntKind.u8 (x : Nat), Value.int IntKind.i64 (y : Nat)] 107)) := (Below.refl _ _).alloc (Nat.le_refl _) _
        have hs0 := (HS.out.1.below d (by omega)).below hba (by omega)
        have hs1 := (HS.out.2.1.below d (by omega)).below hba (by omega)
        clear c0 c1 r0 r1 g0 g1 f0 f1
        obtain ⟨c0, c1, f0, f1⟩ := hs1.facts
        obtain ⟨r0, r1, g0, g1⟩ := hs0.facts
        have HD := hide ((HB.out.trans (d.mono HB.out.size)).trans (hba.mono (by omega)))
        have HS1 := hide (And.intro hs0 hs1)
        have HR1 := hide ((HS.out.2.2.below d (by omega)).below hba (by omega))
        clear hs0 hs1 d hst hbig q hba
        simp only at c0 c1 r0 r1
        have hx : ((x : Int) == 0) = false := by
          have := HZ.out
          rw [HXY.out] at this
          rw [beq_eq_false_iff_ne]; simp only at this; omega
        go_wp2
        go_roundw
        case rel =>
          obtain ⟨hok, hgo, hbk⟩ := HK.out
          have hn : (stepF (p, r) b).1 ≠ 0 := HZ.out
          have hg2 := goF_more hgo hkl (by rw [hbk]; exact hn)
          rw [hbk, HXY.out] at hg2
          have hok2 := step_ok hok hn
          rw [HXY.out] at hok2
          refine ⟨k + 1, (x, y), by omega, by go_num, hide ⟨hok2, hg2, ?_, ?_, ?_, ?_, ?_⟩⟩
          · exact (HS1.out.1.set_other _ _ (by omega)).set_other _ _ (by omega)
          · exact HS1.out.2.set x y
          · intro j hj
            have := HR1.out j hj
            rw [← this]
            exact (World.cell?_of_block (by rw [Below.heap_setCell _ _ _ _ (by simp), Below.heap_setCell _ _ _ _ (by simp)]))
          · exact (HD.out.setCell (by simp) _).setCell (by simp) _
          · simp [World.setCell]; omega
        case measure => simp [intOf]; omega
    · have i2 : ¬ (k : Int) < (s.size : Int) := by omega
      have hke : k = s.size := by omega
      have hge : goF (1, 0) l = (c, k) := by rw [← hgo, List.take_of_length_le (by have := HLN.out; omega)]
      have HG := hide (And.intro hge hke)
      clear hge hke hgo hs0 hs1 hrw hb hok
      obtain ⟨p, r⟩ := c
      simp only at c0 c1
      go_wp2
      obtain ⟨k0, k1, _, _⟩ := (HS.out.1.set p r).facts
      refine bodyPost_ret (v := .tuple #[spV (p, r), .int .i64 (s.size : Nat)]) (by simp [results, go_sem, spV, k0, k1]) rfl ⟨by rw [HG.out.1, HG.out.2], ?_⟩
      exact (HB.out.setCell (Nat.le_refl _) _).setCell (Nat.le_refl _) _
end Go.Proofs.YtmagchclmmphaabGreatDoor
namespace Go.Proofs.YtmagchclmmphaabGreatDoor
open Go.RowKit Go.Maps

/-- How far a text goes. -/
def endF (s : ByteArray) : Nat × Nat := (goF (1, 0) (bts s)).1
def lenF (s : ByteArray) : Nat := (goF (1, 0) (bts s)).2
def errF (s : ByteArray) : Nat := if lenF s < s.size ∨ isF (endF s) = false then 30 else 0
theorem end_ok (s : ByteArray) : okS (endF s) = true := goF_ok (by decide) _
theorem len_le (s : ByteArray) : lenF s ≤ s.size := by
  have := goF_le (1, 0) (bts s)
  rw [bts_len] at this
  exact this

set_option maxRecDepth 100000 in
set_option maxHeartbeats 1000000 in
theorem check_any (s : ByteArray) (w : World) (hT : RowsAt w) (hw0 : 1 < w.heap.size) (hsz : s.size ≤ 134217728) :
    Calls Tryz.prog 42 #[.string s] w fun e w' => e = .returned (.tuple #[.int .i64 (lenF s : Nat), .int .i64 (errF s : Nat)]) ∧ Below w.heap.size w w' := by
  have hwk := walk_any s w hT hw0 hsz
  have HT := hide hT
  have HE : Hid (errF s = if lenF s < s.size ∨ isF (endF s) = false then 30 else 0) := hide rfl
  have hok := end_ok s
  have hle := len_le s
  have e1 : (goF (1, 0) (bts s)).1 = endF s := rfl
  have e2 : (goF (1, 0) (bts s)).2 = lenF s := rfl
  rw [e1, e2] at hwk
  clear e1 e2 hT
  generalize endF s = q at *
  generalize lenF s = n at *
  have hfile := fun W h1 h2 => isF_any q W h1 h2 hok
  generalize isF q = f at *
  obtain ⟨p, r⟩ := q
  unfold spV at hwk hfile
  simp only at hwk hfile
  go_enter Tryz.func42, Tryz.ntmps42
  go_wp2_with fail
  refine hwk.mono ?_
  rintro e w1 ⟨rfl, d⟩
  have HD := hide d
  have H1 := hide (Nat.lt_of_lt_of_le hw0 d.size)
  clear hwk d
  by_cases hlt : n < s.size
  · have i1 : (n : Int) < (s.size : Int) := by omega
    have i1d : decide ((n : Int) < (s.size : Int)) = true := decide_eq_true i1
    have HL := hide hlt
    clear hlt
    go_wp2
    go_ret2
    exact ⟨by rw [HE.out, if_pos (.inl HL.out)]; rfl, HD.out.alloc HD.out.size _⟩
  · have i1 : ¬ (n : Int) < (s.size : Int) := by omega
    have HL := hide hlt
    clear hlt
    go_wp2_with fail
    refine (hfile _ (HT.out.below (HD.out.alloc HD.out.size _) hw0) (by have := HD.out.size; simp; omega)).mono ?_
    rintro e w2 ⟨rfl, d2⟩
    have HD2 := hide ((HD.out.alloc HD.out.size _).trans (d2.mono (Nat.le_trans HD.out.size (by simp))))
    clear d2 hfile
    cases f
    · go_wp2
      go_ret2
      exact ⟨by rw [HE.out, if_pos (by simp)]; rfl, HD2.out⟩
    · go_wp2
      go_ret2
      exact ⟨by rw [HE.out, if_neg (by have := HL.out; simp; omega)]; rfl, HD2.out⟩

/-- What Complete answers. -/
def cmpB (s : ByteArray) : ByteArray := if lenF s < s.size then ByteArray.empty else strB (compF (endF s))
def cerF (s : ByteArray) : Nat := if lenF s < s.size then 30 else 0
end Go.Proofs.YtmagchclmmphaabGreatDoor
