import Derived.Test.YtmagchclmmphaabGreatDoorNS
namespace Go.Proofs.YtmagchclmmphaabGreatDoor
open Go.RowKit Go.Maps

set_option maxRecDepth 100000 in
set_option maxHeartbeats 1000000 in
theorem alongN_any (p r : Nat) (w : World) (hT : RowsAt w) (hw0 : 1 < w.heap.size) (hp : p < 32) (hr : r < 17) :
    Calls Tryz.prog 132 #[.agg #[.int .u8 (p : Nat), .int .i64 (r : Nat)]] w fun e w' => e = .returned (spV (alongN p r)) ∧ Below w.heap.size w w' := by
  have n1 : ¬ w.heap.size = 1 := by omega
  have n2 : ¬ 1 = w.heap.size := by omega
  have n3 : ¬ w.heap.size = 0 := by omega
  have n4 : 0 < w.heap.size := by omega
  obtain ⟨h1, h2, h3, h4, h5, h6⟩ := hT p hp
  clear hT h1 h2 h4 h5 h6
  by_cases h : nameOf p ≠ p
  · have HE := hide (show alongN p r = (nameOf p, 1) by unfold alongN; rw [if_pos h])
    have hl : (((nameOf p : Nat) : Int) == (p : Int)) = false := by rw [beq_eq_false_iff_ne]; omega
    clear h
    go_enter Tryz.func132, Tryz.ntmps132
    go_wp2
    refine bodyPost_ret (v := spV (nameOf p, 1)) (by simp [results, go_sem, spV]) rfl ⟨by rw [HE.out], ?_⟩
    exact ((Below.refl _ _).alloc (Nat.le_refl _) _).alloc (by simp) _
  · have h' : nameOf p = p := by omega
    by_cases h16 : r = 16
    · have HE := hide (show alongN p r = (0, 0) by unfold alongN; rw [if_neg h, if_pos h16])
      have hl : (((nameOf p : Nat) : Int) == (p : Int)) = true := by rw [beq_iff_eq]; omega
      have hk : ((r : Int) == 16) = true := by rw [beq_iff_eq]; omega
      clear h h' h16
      go_enter Tryz.func132, Tryz.ntmps132
      go_wp2
      refine bodyPost_ret (v := spV (0, 0)) (by simp [results, go_sem, spV]) rfl ⟨by rw [HE.out], ?_⟩
      exact ((Below.refl _ _).alloc (Nat.le_refl _) _).alloc (by simp) _
    · have HE := hide (show alongN p r = (nameOf p, r + 1) by unfold alongN; rw [if_neg h, if_neg h16, h'])
      have hl : (((nameOf p : Nat) : Int) == (p : Int)) = true := by rw [beq_iff_eq]; omega
      have hk : ((r : Int) == 16) = false := by rw [beq_eq_false_iff_ne]; omega
      clear h h' h16
      go_enter Tryz.func132, Tryz.ntmps132
      go_wp2
      refine bodyPost_ret (v := spV (nameOf p, r + 1)) (by simp [results, go_sem, spV]) rfl ⟨by rw [HE.out], ?_⟩
      exact ((Below.refl _ _).alloc (Nat.le_refl _) _).alloc (by simp) _

theorem idx_w (s : ByteArray) (k c : Nat) (h : k < s.size) (hc : s[k].toNat = c) (W : World) : (Instr.index 9 (.string s) (.int .i64 (k : Int))).run Tryz.prog W = .ok (.int .u8 (c : Int)) W := by
  rw [run_index_string W 9 s .i64 _ Tryz.underlying9, dif_pos (by omega)]
  simp only [Int.toNat_natCast, hc]
theorem strB_get (l : List Nat) (k : Nat) (h : k < (strB l).size) (hl : l.getD k 0 < 256) : (strB l)[k].toNat = l.getD k 0 := by
  have hk : k < l.length := by rw [strB_size] at h; exact h
  simp only [List.getD_eq_getElem?_getD, List.getElem?_eq_getElem hk, Option.getD_some] at hl ⊢
  simp [strB, ByteArray.getElem_eq_getElem_data, Nat.mod_eq_of_lt hl]
theorem word_lt : ∀ p, p < 32 → ∀ r, r < 17 → (wordOf p).getD r 0 < 256 := by decide




theorem word_some (p : Nat) (h : wordOf p ≠ []) : ((strB (wordOf p)).toList == []) = false := by
  rw [beq_eq_false_iff_ne]
  intro e
  rw [ByteArray.toList_eq] at e
  have : (strB (wordOf p)).data.toList.length = 0 := by rw [e]; rfl
  simp [strB] at this
  exact h this
theorem word_none (p : Nat) (h : wordOf p = []) : ((strB (wordOf p)).toList == []) = true := by
  rw [h, ByteArray.toList_eq]; rfl

/-- The world in which a step has its variables. -/
theorem below3 (w : World) (o1 o2 o3 : Obj) : Below w.heap.size w (((w.alloc o1).alloc o2).alloc o3) := (((Below.refl _ _).alloc (Nat.le_refl _) _).alloc (by simp) _).alloc (by simp; omega) _
theorem res_cells (w : World) (o1 o3 : Obj) (c0 c1 : Value) : (((w.alloc o1).alloc (.cells #[c0, c1] 107)).alloc o3).heap[w.heap.size + 1]? = some (.cells #[c0, c1] 107) := by
  rw [Below.heap_alloc _ _ _ (by simp), show w.heap.size + 1 = (w.alloc o1).heap.size by simp]
  exact (MapKept.heap_alloc _ _).1


set_option maxRecDepth 100000 in
set_option maxHeartbeats 1000000 in
theorem stepA (p r b : Nat) (w : World) (hT : RowsAt w) (hw0 : 1 < w.heap.size) (hp : p < 32) (hr : r < 17) (hrw : r < (wordOf p).length) (hb : (wordOf p).getD r 0 = b) :
    Calls Tryz.prog 101 #[.agg #[.int .u8 (p : Nat), .int .i64 (r : Nat)], .int .u8 b] w fun e w' => e = .returned (spV (stepF (p, r) b)) ∧ Below w.heap.size w w' := by
  have n1 : ¬ w.heap.size = 1 := by omega
  have n2 : ¬ 1 = w.heap.size := by omega
  have n3 : ¬ w.heap.size = 0 := by omega
  have n4 : 0 < w.heap.size := by omega
  have HT := hide hT
  obtain ⟨h1, h2, h3, h4, h5, h6⟩ := hT p hp
  clear hT
  have hne : wordOf p ≠ [] := fun e => by rw [e] at hrw; simp at hrw
  have HE := hide (show stepF (p, r) b = alongW p r by unfold stepF; rw [if_pos ⟨hne, hb⟩])
  have hix := idx_w (strB (wordOf p)) r b (by rw [strB_size]; exact hrw) (by rw [strB_get _ _ _ (word_lt p hp r hr), hb])
  have hs0 := word_some p hne
  generalize strB (wordOf p) = sw at *
  generalize strB (signsOf p) = sg at *

  clear hrw hb hne
  go_enter Tryz.func101, Tryz.ntmps101
  go_wp2_with fail
  refine (alongW_any p r _ (HT.out.below (below3 _ _ _ _) hw0) (by simp) hp hr).mono ?_
  generalize alongW p r = q at *
  obtain ⟨x, y⟩ := q
  rintro e w1 ⟨rfl, d⟩
  have hb1 := (d.block (w.heap.size + 1) (by simp)).trans (res_cells w _ _ _ _)
  have c0 : w1.cell? ⟨w.heap.size + 1, 0, none⟩ = some (.int .u8 0) := by simp [World.cell?, hb1]
  have c1 : w1.cell? ⟨w.heap.size + 1, 1, none⟩ = some (.int .i64 0) := by simp [World.cell?, hb1]
  have f0 : w1.frozen? ⟨w.heap.size + 1, 0, none⟩ = false := by simp [World.frozen?, hb1]
  have f1 : w1.frozen? ⟨w.heap.size + 1, 1, none⟩ = false := by simp [World.frozen?, hb1]
  have HD := hide d
  unfold spV
  simp only
  clear d hb1
  go_wp2
  refine bodyPost_ret (v := spV (x, y)) (by simp [results, go_sem, spV, c0, c1]) rfl ⟨by rw [HE.out], ?_⟩
  exact (((below3 _ _ _ _).trans (HD.out.mono (below3 _ _ _ _).size)).setCell (by simp) _).setCell (by simp) _


set_option maxRecDepth 100000 in
set_option maxHeartbeats 1000000 in
theorem stepB (p r b : Nat) (w : World) (hT : RowsAt w) (hw0 : 1 < w.heap.size) (hp : p < 32) (hr : r < 17) (hrw : r < (wordOf p).length) (hb : (wordOf p).getD r 0 ≠ b) (h0 : 0 < r) :
    Calls Tryz.prog 101 #[.agg #[.int .u8 (p : Nat), .int .i64 (r : Nat)], .int .u8 b] w fun e w' => e = .returned (spV (stepF (p, r) b)) ∧ Below w.heap.size w w' := by
  have n1 : ¬ w.heap.size = 1 := by omega
  have n2 : ¬ 1 = w.heap.size := by omega
  have n3 : ¬ w.heap.size = 0 := by omega
  have n4 : 0 < w.heap.size := by omega
  have HT := hide hT
  obtain ⟨h1, h2, h3, h4, h5, h6⟩ := hT p hp
  clear hT
  have hne : wordOf p ≠ [] := fun e => by rw [e] at hrw; simp at hrw
  have HE := hide (show stepF (p, r) b = (0, 0) by unfold stepF; rw [if_neg (fun h => hb h.2), if_pos ⟨hne, h0⟩])
  have hix := idx_w (strB (wordOf p)) r _ (by rw [strB_size]; exact hrw) (strB_get _ _ _ (word_lt p hp r hr))
  have hs0 := word_some p hne
  generalize (wordOf p).getD r 0 = c at *
  have hcb : ((b : Int) == (c : Int)) = false := by rw [beq_eq_false_iff_ne]; omega
  have hr0 : (r : Int) > 0 := by omega
  generalize strB (wordOf p) = sw at *
  generalize strB (signsOf p) = sg at *

  clear hrw hb hne h0
  go_enter Tryz.func101, Tryz.ntmps101
  go_wp2
  refine bodyPost_ret (v := spV (0, 0)) (by simp [results, go_sem, spV]) rfl ⟨by rw [HE.out], ?_⟩
  exact below3 _ _ _ _


set_option maxRecDepth 100000 in
set_option maxHeartbeats 1000000 in
theorem stepNf (p r b : Nat) (w : World) (hT : RowsAt w) (hw0 : 1 < w.heap.size) (hp : p < 32) (_hr : r < 17) (hwd : wordOf p = []) (h10 : b = 10) :
    Calls Tryz.prog 101 #[.agg #[.int .u8 (p : Nat), .int .i64 (r : Nat)], .int .u8 b] w fun e w' => e = .returned (spV (stepF (p, r) b)) ∧ Below w.heap.size w w' := by
  have n1 : ¬ w.heap.size = 1 := by omega
  have n2 : ¬ 1 = w.heap.size := by omega
  have n3 : ¬ w.heap.size = 0 := by omega
  have n4 : 0 < w.heap.size := by omega
  have HT := hide hT
  obtain ⟨h1, h2, h3, h4, h5, h6⟩ := hT p hp
  clear hT
  have n1 : ¬ (wordOf p ≠ [] ∧ (wordOf p).getD r 0 = b) := fun h => h.1 hwd
  have n2 : ¬ (wordOf p ≠ [] ∧ 0 < r) := fun h => h.1 hwd
  have hs0 := word_none p hwd
  generalize strB (wordOf p) = sw at *
  generalize strB (signsOf p) = sg at *

  have HE := hide (show stepF (p, r) b = (feedOf p, 0) by unfold stepF; rw [if_neg n1, if_neg n2, if_pos h10])
  have e10 : ((b : Int) == 10) = true := by rw [beq_iff_eq]; omega
  clear n1 n2 hwd h10
  go_enter Tryz.func101, Tryz.ntmps101
  go_wp2
  refine bodyPost_ret (v := spV (feedOf p, 0)) (by simp [results, go_sem, spV]) rfl ⟨by rw [HE.out], ?_⟩
  exact below3 _ _ _ _


set_option maxRecDepth 100000 in
set_option maxHeartbeats 1000000 in
theorem stepNb (p r b : Nat) (w : World) (hT : RowsAt w) (hw0 : 1 < w.heap.size) (hp : p < 32) (_hr : r < 17) (hwd : wordOf p = []) (h32 : b = 32) :
    Calls Tryz.prog 101 #[.agg #[.int .u8 (p : Nat), .int .i64 (r : Nat)], .int .u8 b] w fun e w' => e = .returned (spV (stepF (p, r) b)) ∧ Below w.heap.size w w' := by
  have n1 : ¬ w.heap.size = 1 := by omega
  have n2 : ¬ 1 = w.heap.size := by omega
  have n3 : ¬ w.heap.size = 0 := by omega
  have n4 : 0 < w.heap.size := by omega
  have HT := hide hT
  obtain ⟨h1, h2, h3, h4, h5, h6⟩ := hT p hp
  clear hT
  have n1 : ¬ (wordOf p ≠ [] ∧ (wordOf p).getD r 0 = b) := fun h => h.1 hwd
  have n2 : ¬ (wordOf p ≠ [] ∧ 0 < r) := fun h => h.1 hwd
  have hs0 := word_none p hwd
  generalize strB (wordOf p) = sw at *
  generalize strB (signsOf p) = sg at *

  have HE := hide (show stepF (p, r) b = (blankOf p, 0) by unfold stepF; rw [if_neg n1, if_neg n2, if_neg (by omega), if_pos (.inl h32)])
  have e10 : ((b : Int) == 10) = false := by rw [beq_eq_false_iff_ne]; omega
  have e32 : ((b : Int) == 32) = true := by rw [beq_iff_eq]; omega
  clear n1 n2 hwd h32
  go_enter Tryz.func101, Tryz.ntmps101
  go_wp2
  refine bodyPost_ret (v := spV (blankOf p, 0)) (by simp [results, go_sem, spV]) rfl ⟨by rw [HE.out], ?_⟩
  exact below3 _ _ _ _


set_option maxRecDepth 100000 in
set_option maxHeartbeats 1000000 in
theorem stepNt (p r b : Nat) (w : World) (hT : RowsAt w) (hw0 : 1 < w.heap.size) (hp : p < 32) (_hr : r < 17) (hwd : wordOf p = []) (h9 : b = 9) :
    Calls Tryz.prog 101 #[.agg #[.int .u8 (p : Nat), .int .i64 (r : Nat)], .int .u8 b] w fun e w' => e = .returned (spV (stepF (p, r) b)) ∧ Below w.heap.size w w' := by
  have n1 : ¬ w.heap.size = 1 := by omega
  have n2 : ¬ 1 = w.heap.size := by omega
  have n3 : ¬ w.heap.size = 0 := by omega
  have n4 : 0 < w.heap.size := by omega
  have HT := hide hT
  obtain ⟨h1, h2, h3, h4, h5, h6⟩ := hT p hp
  clear hT
  have n1 : ¬ (wordOf p ≠ [] ∧ (wordOf p).getD r 0 = b) := fun h => h.1 hwd
  have n2 : ¬ (wordOf p ≠ [] ∧ 0 < r) := fun h => h.1 hwd
  have hs0 := word_none p hwd
  generalize strB (wordOf p) = sw at *
  generalize strB (signsOf p) = sg at *

  have HE := hide (show stepF (p, r) b = (blankOf p, 0) by unfold stepF; rw [if_neg n1, if_neg n2, if_neg (by omega), if_pos (.inr h9)])
  have e10 : ((b : Int) == 10) = false := by rw [beq_eq_false_iff_ne]; omega
  have e32 : ((b : Int) == 32) = false := by rw [beq_eq_false_iff_ne]; omega
  have e9 : ((b : Int) == 9) = true := by rw [beq_iff_eq]; omega
  clear n1 n2 hwd h9
  go_enter Tryz.func101, Tryz.ntmps101
  go_wp2
  refine bodyPost_ret (v := spV (blankOf p, 0)) (by simp [results, go_sem, spV]) rfl ⟨by rw [HE.out], ?_⟩
  exact below3 _ _ _ _


set_option maxRecDepth 100000 in
set_option maxHeartbeats 1000000 in
theorem stepNs (p r b : Nat) (w : World) (hT : RowsAt w) (hw0 : 1 < w.heap.size) (hp : p < 32) (_hr : r < 17) (hwd : wordOf p = []) (hb2 : b < 256) (h10 : b ≠ 10) (h32 : b ≠ 32) (h9 : b ≠ 9) (hs : (signsOf p).contains b = true) :
    Calls Tryz.prog 101 #[.agg #[.int .u8 (p : Nat), .int .i64 (r : Nat)], .int .u8 b] w fun e w' => e = .returned (spV (stepF (p, r) b)) ∧ Below w.heap.size w w' := by
  have n1 : ¬ w.heap.size = 1 := by omega
  have n2 : ¬ 1 = w.heap.size := by omega
  have n3 : ¬ w.heap.size = 0 := by omega
  have n4 : 0 < w.heap.size := by omega
  have HT := hide hT
  obtain ⟨h1, h2, h3, h4, h5, h6⟩ := hT p hp
  clear hT
  have n1 : ¬ (wordOf p ≠ [] ∧ (wordOf p).getD r 0 = b) := fun h => h.1 hwd
  have n2 : ¬ (wordOf p ≠ [] ∧ 0 < r) := fun h => h.1 hwd
  have hs0 := word_none p hwd
  have hsi := signs_idx p hp b hb2
  generalize strB (wordOf p) = sw at *
  generalize strB (signsOf p) = sg at *
  obtain ⟨fi, hfi⟩ : ∃ fi, firstIdx sg b.toUInt8 = fi := ⟨_, rfl⟩
  rw [hfi] at hsi

  have HE := hide (show stepF (p, r) b = (pastOf p, 0) by unfold stepF; rw [if_neg n1, if_neg n2, if_neg h10, if_neg (fun h => h.elim h32 h9), if_pos hs])
  have e10 : ((b : Int) == 10) = false := by rw [beq_eq_false_iff_ne]; omega
  have e32 : ((b : Int) == 32) = false := by rw [beq_eq_false_iff_ne]; omega
  have e9 : ((b : Int) == 9) = false := by rw [beq_eq_false_iff_ne]; omega
  rw [hs, decide_eq_true_iff] at hsi
  have hge : fi ≥ 0 := hsi
  clear n1 n2 hwd h10 h32 h9 hs hsi
  go_enter Tryz.func101, Tryz.ntmps101
  go_wp2_with (go_at_call 130; refine (idx_any sg b _).mono ?_; rintro e w' ⟨rfl, rfl⟩; rw [hfi])
  refine bodyPost_ret (v := spV (pastOf p, 0)) (by simp [results, go_sem, spV]) rfl ⟨by rw [HE.out], ?_⟩
  exact below3 _ _ _ _


set_option maxRecDepth 100000 in
set_option maxHeartbeats 1000000 in
theorem stepNn (p r b : Nat) (w : World) (hT : RowsAt w) (hw0 : 1 < w.heap.size) (hp : p < 32) (hr : r < 17) (hwd : wordOf p = []) (hb2 : b < 256) (h10 : b ≠ 10) (h32 : b ≠ 32) (h9 : b ≠ 9) (hs : (signsOf p).contains b = false) (hnm : isNm b = true) :
    Calls Tryz.prog 101 #[.agg #[.int .u8 (p : Nat), .int .i64 (r : Nat)], .int .u8 b] w fun e w' => e = .returned (spV (stepF (p, r) b)) ∧ Below w.heap.size w w' := by
  have n1 : ¬ w.heap.size = 1 := by omega
  have n2 : ¬ 1 = w.heap.size := by omega
  have n3 : ¬ w.heap.size = 0 := by omega
  have n4 : 0 < w.heap.size := by omega
  have HT := hide hT
  obtain ⟨h1, h2, h3, h4, h5, h6⟩ := hT p hp
  clear hT
  have n1 : ¬ (wordOf p ≠ [] ∧ (wordOf p).getD r 0 = b) := fun h => h.1 hwd
  have n2 : ¬ (wordOf p ≠ [] ∧ 0 < r) := fun h => h.1 hwd
  have hs0 := word_none p hwd
  have hsi := signs_idx p hp b hb2
  generalize strB (wordOf p) = sw at *
  generalize strB (signsOf p) = sg at *
  obtain ⟨fi, hfi⟩ : ∃ fi, firstIdx sg b.toUInt8 = fi := ⟨_, rfl⟩
  rw [hfi] at hsi

  have HE := hide (show stepF (p, r) b = alongN p r by unfold stepF; rw [if_neg n1, if_neg n2, if_neg h10, if_neg (fun h => h.elim h32 h9), if_neg (by rw [hs]; exact Bool.false_ne_true), if_pos hnm])
  have e10 : ((b : Int) == 10) = false := by rw [beq_eq_false_iff_ne]; omega
  have e32 : ((b : Int) == 32) = false := by rw [beq_eq_false_iff_ne]; omega
  have e9 : ((b : Int) == 9) = false := by rw [beq_eq_false_iff_ne]; omega
  rw [hs, decide_eq_false_iff_not] at hsi
  have hge : ¬ fi ≥ 0 := hsi
  clear n1 n2 hwd h10 h32 h9 hs hsi
  go_enter Tryz.func101, Tryz.ntmps101
  go_wp2_with (first | (go_at_call 130; refine (idx_any sg b _).mono ?_; rintro e w' ⟨rfl, rfl⟩; rw [hfi]) | (go_at_call 131; refine (nm_any b _).mono ?_; rintro e w' ⟨rfl, rfl⟩; rw [hnm]) | fail)
  refine (alongN_any p r _ (HT.out.below (below3 _ _ _ _) hw0) (by simp) hp hr).mono ?_
  generalize alongN p r = q at *
  obtain ⟨x, y⟩ := q
  rintro e w1 ⟨rfl, d⟩
  have hb1 := (d.block (w.heap.size + 1) (by simp)).trans (res_cells w _ _ _ _)
  have c0 : w1.cell? ⟨w.heap.size + 1, 0, none⟩ = some (.int .u8 0) := by simp [World.cell?, hb1]
  have c1 : w1.cell? ⟨w.heap.size + 1, 1, none⟩ = some (.int .i64 0) := by simp [World.cell?, hb1]
  have f0 : w1.frozen? ⟨w.heap.size + 1, 0, none⟩ = false := by simp [World.frozen?, hb1]
  have f1 : w1.frozen? ⟨w.heap.size + 1, 1, none⟩ = false := by simp [World.frozen?, hb1]
  have HD := hide d
  unfold spV
  simp only
  clear d hb1
  go_wp2
  refine bodyPost_ret (v := spV (x, y)) (by simp [results, go_sem, spV, c0, c1]) rfl ⟨by rw [HE.out], ?_⟩
  exact (((below3 _ _ _ _).trans (HD.out.mono (below3 _ _ _ _).size)).setCell (by simp) _).setCell (by simp) _


set_option maxRecDepth 100000 in
set_option maxHeartbeats 1000000 in
theorem stepNo (p r b : Nat) (w : World) (hT : RowsAt w) (hw0 : 1 < w.heap.size) (hp : p < 32) (_hr : r < 17) (hwd : wordOf p = []) (hb2 : b < 256) (h10 : b ≠ 10) (h32 : b ≠ 32) (h9 : b ≠ 9) (hs : (signsOf p).contains b = false) (hnm : isNm b = false) :
    Calls Tryz.prog 101 #[.agg #[.int .u8 (p : Nat), .int .i64 (r : Nat)], .int .u8 b] w fun e w' => e = .returned (spV (stepF (p, r) b)) ∧ Below w.heap.size w w' := by
  have n1 : ¬ w.heap.size = 1 := by omega
  have n2 : ¬ 1 = w.heap.size := by omega
  have n3 : ¬ w.heap.size = 0 := by omega
  have n4 : 0 < w.heap.size := by omega
  have HT := hide hT
  obtain ⟨h1, h2, h3, h4, h5, h6⟩ := hT p hp
  clear hT
  have n1 : ¬ (wordOf p ≠ [] ∧ (wordOf p).getD r 0 = b) := fun h => h.1 hwd
  have n2 : ¬ (wordOf p ≠ [] ∧ 0 < r) := fun h => h.1 hwd
  have hs0 := word_none p hwd
  have hsi := signs_idx p hp b hb2
  generalize strB (wordOf p) = sw at *
  generalize strB (signsOf p) = sg at *
  obtain ⟨fi, hfi⟩ : ∃ fi, firstIdx sg b.toUInt8 = fi := ⟨_, rfl⟩
  rw [hfi] at hsi

  have HE := hide (show stepF (p, r) b = (0, 0) by unfold stepF; rw [if_neg n1, if_neg n2, if_neg h10, if_neg (fun h => h.elim h32 h9), if_neg (by rw [hs]; exact Bool.false_ne_true), if_neg (by rw [hnm]; exact Bool.false_ne_true)])
  have e10 : ((b : Int) == 10) = false := by rw [beq_eq_false_iff_ne]; omega
  have e32 : ((b : Int) == 32) = false := by rw [beq_eq_false_iff_ne]; omega
  have e9 : ((b : Int) == 9) = false := by rw [beq_eq_false_iff_ne]; omega
  rw [hs, decide_eq_false_iff_not] at hsi
  have hge : ¬ fi ≥ 0 := hsi
  clear n1 n2 hwd h10 h32 h9 hs hsi
  go_enter Tryz.func101, Tryz.ntmps101
  go_wp2_with (first | (go_at_call 130; refine (idx_any sg b _).mono ?_; rintro e w' ⟨rfl, rfl⟩; rw [hfi]) | (go_at_call 131; refine (nm_any b _).mono ?_; rintro e w' ⟨rfl, rfl⟩; rw [hnm]))
  refine bodyPost_ret (v := spV (0, 0)) (by simp [results, go_sem, spV]) rfl ⟨by rw [HE.out], ?_⟩
  exact below3 _ _ _ _


set_option maxRecDepth 100000 in
set_option maxHeartbeats 1000000 in
theorem stepZf (p r b : Nat) (w : World) (hT : RowsAt w) (hw0 : 1 < w.heap.size) (hp : p < 32) (hr : r < 17) (hwd : 0 < (wordOf p).length) (hr0 : r = 0) (hb : (wordOf p).getD r 0 ≠ b) (h10 : b = 10) :
    Calls Tryz.prog 101 #[.agg #[.int .u8 (p : Nat), .int .i64 (r : Nat)], .int .u8 b] w fun e w' => e = .returned (spV (stepF (p, r) b)) ∧ Below w.heap.size w w' := by
  have n1 : ¬ w.heap.size = 1 := by omega
  have n2 : ¬ 1 = w.heap.size := by omega
  have n3 : ¬ w.heap.size = 0 := by omega
  have n4 : 0 < w.heap.size := by omega
  have HT := hide hT
  obtain ⟨h1, h2, h3, h4, h5, h6⟩ := hT p hp
  clear hT
  have n1 : ¬ (wordOf p ≠ [] ∧ (wordOf p).getD r 0 = b) := fun h => hb h.2
  have n2 : ¬ (wordOf p ≠ [] ∧ 0 < r) := fun h => by omega
  have hs0 := word_some p (fun e => by rw [e] at hwd; simp at hwd)
  have hix := idx_w (strB (wordOf p)) r _ (by rw [strB_size]; omega) (strB_get _ _ _ (word_lt p hp r hr))
  obtain ⟨c, hcc⟩ : ∃ c, (wordOf p).getD r 0 = c := ⟨_, rfl⟩
  rw [hcc] at hix
  have hcb : ((b : Int) == (c : Int)) = false := by rw [beq_eq_false_iff_ne]; omega
  have hz : ¬ (r : Int) > 0 := by omega
  generalize strB (wordOf p) = sw at *
  generalize strB (signsOf p) = sg at *

  have HE := hide (show stepF (p, r) b = (feedOf p, 0) by unfold stepF; rw [if_neg n1, if_neg n2, if_pos h10])
  have e10 : ((b : Int) == 10) = true := by rw [beq_iff_eq]; omega
  clear n1 n2 hwd hr0 hb hcc h10
  go_enter Tryz.func101, Tryz.ntmps101
  go_wp2
  refine bodyPost_ret (v := spV (feedOf p, 0)) (by simp [results, go_sem, spV]) rfl ⟨by rw [HE.out], ?_⟩
  exact below3 _ _ _ _


set_option maxRecDepth 100000 in
set_option maxHeartbeats 1000000 in
theorem stepZb (p r b : Nat) (w : World) (hT : RowsAt w) (hw0 : 1 < w.heap.size) (hp : p < 32) (hr : r < 17) (hwd : 0 < (wordOf p).length) (hr0 : r = 0) (hb : (wordOf p).getD r 0 ≠ b) (h32 : b = 32) :
    Calls Tryz.prog 101 #[.agg #[.int .u8 (p : Nat), .int .i64 (r : Nat)], .int .u8 b] w fun e w' => e = .returned (spV (stepF (p, r) b)) ∧ Below w.heap.size w w' := by
  have n1 : ¬ w.heap.size = 1 := by omega
  have n2 : ¬ 1 = w.heap.size := by omega
  have n3 : ¬ w.heap.size = 0 := by omega
  have n4 : 0 < w.heap.size := by omega
  have HT := hide hT
  obtain ⟨h1, h2, h3, h4, h5, h6⟩ := hT p hp
  clear hT
  have n1 : ¬ (wordOf p ≠ [] ∧ (wordOf p).getD r 0 = b) := fun h => hb h.2
  have n2 : ¬ (wordOf p ≠ [] ∧ 0 < r) := fun h => by omega
  have hs0 := word_some p (fun e => by rw [e] at hwd; simp at hwd)
  have hix := idx_w (strB (wordOf p)) r _ (by rw [strB_size]; omega) (strB_get _ _ _ (word_lt p hp r hr))
  obtain ⟨c, hcc⟩ : ∃ c, (wordOf p).getD r 0 = c := ⟨_, rfl⟩
  rw [hcc] at hix
  have hcb : ((b : Int) == (c : Int)) = false := by rw [beq_eq_false_iff_ne]; omega
  have hz : ¬ (r : Int) > 0 := by omega
  generalize strB (wordOf p) = sw at *
  generalize strB (signsOf p) = sg at *

  have HE := hide (show stepF (p, r) b = (blankOf p, 0) by unfold stepF; rw [if_neg n1, if_neg n2, if_neg (by omega), if_pos (.inl h32)])
  have e10 : ((b : Int) == 10) = false := by rw [beq_eq_false_iff_ne]; omega
  have e32 : ((b : Int) == 32) = true := by rw [beq_iff_eq]; omega
  clear n1 n2 hwd hr0 hb hcc h32
  go_enter Tryz.func101, Tryz.ntmps101
  go_wp2
  refine bodyPost_ret (v := spV (blankOf p, 0)) (by simp [results, go_sem, spV]) rfl ⟨by rw [HE.out], ?_⟩
  exact below3 _ _ _ _


set_option maxRecDepth 100000 in
set_option maxHeartbeats 1000000 in
theorem stepZt (p r b : Nat) (w : World) (hT : RowsAt w) (hw0 : 1 < w.heap.size) (hp : p < 32) (hr : r < 17) (hwd : 0 < (wordOf p).length) (hr0 : r = 0) (hb : (wordOf p).getD r 0 ≠ b) (h9 : b = 9) :
    Calls Tryz.prog 101 #[.agg #[.int .u8 (p : Nat), .int .i64 (r : Nat)], .int .u8 b] w fun e w' => e = .returned (spV (stepF (p, r) b)) ∧ Below w.heap.size w w' := by
  have n1 : ¬ w.heap.size = 1 := by omega
  have n2 : ¬ 1 = w.heap.size := by omega
  have n3 : ¬ w.heap.size = 0 := by omega
  have n4 : 0 < w.heap.size := by omega
  have HT := hide hT
  obtain ⟨h1, h2, h3, h4, h5, h6⟩ := hT p hp
  clear hT
  have n1 : ¬ (wordOf p ≠ [] ∧ (wordOf p).getD r 0 = b) := fun h => hb h.2
  have n2 : ¬ (wordOf p ≠ [] ∧ 0 < r) := fun h => by omega
  have hs0 := word_some p (fun e => by rw [e] at hwd; simp at hwd)
  have hix := idx_w (strB (wordOf p)) r _ (by rw [strB_size]; omega) (strB_get _ _ _ (word_lt p hp r hr))
  obtain ⟨c, hcc⟩ : ∃ c, (wordOf p).getD r 0 = c := ⟨_, rfl⟩
  rw [hcc] at hix
  have hcb : ((b : Int) == (c : Int)) = false := by rw [beq_eq_false_iff_ne]; omega
  have hz : ¬ (r : Int) > 0 := by omega
  generalize strB (wordOf p) = sw at *
  generalize strB (signsOf p) = sg at *

  have HE := hide (show stepF (p, r) b = (blankOf p, 0) by unfold stepF; rw [if_neg n1, if_neg n2, if_neg (by omega), if_pos (.inr h9)])
  have e10 : ((b : Int) == 10) = false := by rw [beq_eq_false_iff_ne]; omega
  have e32 : ((b : Int) == 32) = false := by rw [beq_eq_false_iff_ne]; omega
  have e9 : ((b : Int) == 9) = true := by rw [beq_iff_eq]; omega
  clear n1 n2 hwd hr0 hb hcc h9
  go_enter Tryz.func101, Tryz.ntmps101
  go_wp2
  refine bodyPost_ret (v := spV (blankOf p, 0)) (by simp [results, go_sem, spV]) rfl ⟨by rw [HE.out], ?_⟩
  exact below3 _ _ _ _


set_option maxRecDepth 100000 in
set_option maxHeartbeats 1000000 in
theorem stepZs (p r b : Nat) (w : World) (hT : RowsAt w) (hw0 : 1 < w.heap.size) (hp : p < 32) (hr : r < 17) (hwd : 0 < (wordOf p).length) (hr0 : r = 0) (hb : (wordOf p).getD r 0 ≠ b) (hb2 : b < 256) (h10 : b ≠ 10) (h32 : b ≠ 32) (h9 : b ≠ 9) (hs : (signsOf p).contains b = true) :
    Calls Tryz.prog 101 #[.agg #[.int .u8 (p : Nat), .int .i64 (r : Nat)], .int .u8 b] w fun e w' => e = .returned (spV (stepF (p, r) b)) ∧ Below w.heap.size w w' := by
  have n1 : ¬ w.heap.size = 1 := by omega
  have n2 : ¬ 1 = w.heap.size := by omega
  have n3 : ¬ w.heap.size = 0 := by omega
  have n4 : 0 < w.heap.size := by omega
  have HT := hide hT
  obtain ⟨h1, h2, h3, h4, h5, h6⟩ := hT p hp
  clear hT
  have n1 : ¬ (wordOf p ≠ [] ∧ (wordOf p).getD r 0 = b) := fun h => hb h.2
  have n2 : ¬ (wordOf p ≠ [] ∧ 0 < r) := fun h => by omega
  have hs0 := word_some p (fun e => by rw [e] at hwd; simp at hwd)
  have hix := idx_w (strB (wordOf p)) r _ (by rw [strB_size]; omega) (strB_get _ _ _ (word_lt p hp r hr))
  obtain ⟨c, hcc⟩ : ∃ c, (wordOf p).getD r 0 = c := ⟨_, rfl⟩
  rw [hcc] at hix
  have hcb : ((b : Int) == (c : Int)) = false := by rw [beq_eq_false_iff_ne]; omega
  have hz : ¬ (r : Int) > 0 := by omega
  have hsi := signs_idx p hp b hb2
  generalize strB (wordOf p) = sw at *
  generalize strB (signsOf p) = sg at *
  obtain ⟨fi, hfi⟩ : ∃ fi, firstIdx sg b.toUInt8 = fi := ⟨_, rfl⟩
  rw [hfi] at hsi

  have HE := hide (show stepF (p, r) b = (pastOf p, 0) by unfold stepF; rw [if_neg n1, if_neg n2, if_neg h10, if_neg (fun h => h.elim h32 h9), if_pos hs])
  have e10 : ((b : Int) == 10) = false := by rw [beq_eq_false_iff_ne]; omega
  have e32 : ((b : Int) == 32) = false := by rw [beq_eq_false_iff_ne]; omega
  have e9 : ((b : Int) == 9) = false := by rw [beq_eq_false_iff_ne]; omega
  rw [hs, decide_eq_true_iff] at hsi
  have hge : fi ≥ 0 := hsi
  clear n1 n2 hwd hr0 hb hcc h10 h32 h9 hs hsi
  go_enter Tryz.func101, Tryz.ntmps101
  go_wp2_with (go_at_call 130; refine (idx_any sg b _).mono ?_; rintro e w' ⟨rfl, rfl⟩; rw [hfi])
  refine bodyPost_ret (v := spV (pastOf p, 0)) (by simp [results, go_sem, spV]) rfl ⟨by rw [HE.out], ?_⟩
  exact below3 _ _ _ _


set_option maxRecDepth 100000 in
set_option maxHeartbeats 1000000 in
theorem stepZn (p r b : Nat) (w : World) (hT : RowsAt w) (hw0 : 1 < w.heap.size) (hp : p < 32) (hr : r < 17) (hwd : 0 < (wordOf p).length) (hr0 : r = 0) (hb : (wordOf p).getD r 0 ≠ b) (hb2 : b < 256) (h10 : b ≠ 10) (h32 : b ≠ 32) (h9 : b ≠ 9) (hs : (signsOf p).contains b = false) (hnm : isNm b = true) :
    Calls Tryz.prog 101 #[.agg #[.int .u8 (p : Nat), .int .i64 (r : Nat)], .int .u8 b] w fun e w' => e = .returned (spV (stepF (p, r) b)) ∧ Below w.heap.size w w' := by
  have n1 : ¬ w.heap.size = 1 := by omega
  have n2 : ¬ 1 = w.heap.size := by omega
  have n3 : ¬ w.heap.size = 0 := by omega
  have n4 : 0 < w.heap.size := by omega
  have HT := hide hT
  obtain ⟨h1, h2, h3, h4, h5, h6⟩ := hT p hp
  clear hT
  have n1 : ¬ (wordOf p ≠ [] ∧ (wordOf p).getD r 0 = b) := fun h => hb h.2
  have n2 : ¬ (wordOf p ≠ [] ∧ 0 < r) := fun h => by omega
  have hs0 := word_some p (fun e => by rw [e] at hwd; simp at hwd)
  have hix := idx_w (strB (wordOf p)) r _ (by rw [strB_size]; omega) (strB_get _ _ _ (word_lt p hp r hr))
  obtain ⟨c, hcc⟩ : ∃ c, (wordOf p).getD r 0 = c := ⟨_, rfl⟩
  rw [hcc] at hix
  have hcb : ((b : Int) == (c : Int)) = false := by rw [beq_eq_false_iff_ne]; omega
  have hz : ¬ (r : Int) > 0 := by omega
  have hsi := signs_idx p hp b hb2
  generalize strB (wordOf p) = sw at *
  generalize strB (signsOf p) = sg at *
  obtain ⟨fi, hfi⟩ : ∃ fi, firstIdx sg b.toUInt8 = fi := ⟨_, rfl⟩
  rw [hfi] at hsi

  have HE := hide (show stepF (p, r) b = alongN p r by unfold stepF; rw [if_neg n1, if_neg n2, if_neg h10, if_neg (fun h => h.elim h32 h9), if_neg (by rw [hs]; exact Bool.false_ne_true), if_pos hnm])
  have e10 : ((b : Int) == 10) = false := by rw [beq_eq_false_iff_ne]; omega
  have e32 : ((b : Int) == 32) = false := by rw [beq_eq_false_iff_ne]; omega
  have e9 : ((b : Int) == 9) = false := by rw [beq_eq_false_iff_ne]; omega
  rw [hs, decide_eq_false_iff_not] at hsi
  have hge : ¬ fi ≥ 0 := hsi
  clear n1 n2 hwd hr0 hb hcc h10 h32 h9 hs hsi
  go_enter Tryz.func101, Tryz.ntmps101
  go_wp2_with (first | (go_at_call 130; refine (idx_any sg b _).mono ?_; rintro e w' ⟨rfl, rfl⟩; rw [hfi]) | (go_at_call 131; refine (nm_any b _).mono ?_; rintro e w' ⟨rfl, rfl⟩; rw [hnm]) | fail)
  refine (alongN_any p r _ (HT.out.below (below3 _ _ _ _) hw0) (by simp) hp hr).mono ?_
  generalize alongN p r = q at *
  obtain ⟨x, y⟩ := q
  rintro e w1 ⟨rfl, d⟩
  have hb1 := (d.block (w.heap.size + 1) (by simp)).trans (res_cells w _ _ _ _)
  have c0 : w1.cell? ⟨w.heap.size + 1, 0, none⟩ = some (.int .u8 0) := by simp [World.cell?, hb1]
  have c1 : w1.cell? ⟨w.heap.size + 1, 1, none⟩ = some (.int .i64 0) := by simp [World.cell?, hb1]
  have f0 : w1.frozen? ⟨w.heap.size + 1, 0, none⟩ = false := by simp [World.frozen?, hb1]
  have f1 : w1.frozen? ⟨w.heap.size + 1, 1, none⟩ = false := by simp [World.frozen?, hb1]
  have HD := hide d
  unfold spV
  simp only
  clear d hb1
  go_wp2
  refine bodyPost_ret (v := spV (x, y)) (by simp [results, go_sem, spV, c0, c1]) rfl ⟨by rw [HE.out], ?_⟩
  exact (((below3 _ _ _ _).trans (HD.out.mono (below3 _ _ _ _).size)).setCell (by simp) _).setCell (by simp) _


set_option maxRecDepth 100000 in
set_option maxHeartbeats 1000000 in
theorem stepZo (p r b : Nat) (w : World) (hT : RowsAt w) (hw0 : 1 < w.heap.size) (hp : p < 32) (hr : r < 17) (hwd : 0 < (wordOf p).length) (hr0 : r = 0) (hb : (wordOf p).getD r 0 ≠ b) (hb2 : b < 256) (h10 : b ≠ 10) (h32 : b ≠ 32) (h9 : b ≠ 9) (hs : (signsOf p).contains b = false) (hnm : isNm b = false) :
    Calls Tryz.prog 101 #[.agg #[.int .u8 (p : Nat), .int .i64 (r : Nat)], .int .u8 b] w fun e w' => e = .returned (spV (stepF (p, r) b)) ∧ Below w.heap.size w w' := by
  have n1 : ¬ w.heap.size = 1 := by omega
  have n2 : ¬ 1 = w.heap.size := by omega
  have n3 : ¬ w.heap.size = 0 := by omega
  have n4 : 0 < w.heap.size := by omega
  have HT := hide hT
  obtain ⟨h1, h2, h3, h4, h5, h6⟩ := hT p hp
  clear hT
  have n1 : ¬ (wordOf p ≠ [] ∧ (wordOf p).getD r 0 = b) := fun h => hb h.2
  have n2 : ¬ (wordOf p ≠ [] ∧ 0 < r) := fun h => by omega
  have hs0 := word_some p (fun e => by rw [e] at hwd; simp at hwd)
  have hix := idx_w (strB (wordOf p)) r _ (by rw [strB_size]; omega) (strB_get _ _ _ (word_lt p hp r hr))
  obtain ⟨c, hcc⟩ : ∃ c, (wordOf p).getD r 0 = c := ⟨_, rfl⟩
  rw [hcc] at hix
  have hcb : ((b : Int) == (c : Int)) = false := by rw [beq_eq_false_iff_ne]; omega
  have hz : ¬ (r : Int) > 0 := by omega
  have hsi := signs_idx p hp b hb2
  generalize strB (wordOf p) = sw at *
  generalize strB (signsOf p) = sg at *
  obtain ⟨fi, hfi⟩ : ∃ fi, firstIdx sg b.toUInt8 = fi := ⟨_, rfl⟩
  rw [hfi] at hsi

  have HE := hide (show stepF (p, r) b = (0, 0) by unfold stepF; rw [if_neg n1, if_neg n2, if_neg h10, if_neg (fun h => h.elim h32 h9), if_neg (by rw [hs]; exact Bool.false_ne_true), if_neg (by rw [hnm]; exact Bool.false_ne_true)])
  have e10 : ((b : Int) == 10) = false := by rw [beq_eq_false_iff_ne]; omega
  have e32 : ((b : Int) == 32) = false := by rw [beq_eq_false_iff_ne]; omega
  have e9 : ((b : Int) == 9) = false := by rw [beq_eq_false_iff_ne]; omega
  rw [hs, decide_eq_false_iff_not] at hsi
  have hge : ¬ fi ≥ 0 := hsi
  clear n1 n2 hwd hr0 hb hcc h10 h32 h9 hs hsi
  go_enter Tryz.func101, Tryz.ntmps101
  go_wp2_with (first | (go_at_call 130; refine (idx_any sg b _).mono ?_; rintro e w' ⟨rfl, rfl⟩; rw [hfi]) | (go_at_call 131; refine (nm_any b _).mono ?_; rintro e w' ⟨rfl, rfl⟩; rw [hnm]))
  refine bodyPost_ret (v := spV (0, 0)) (by simp [results, go_sem, spV]) rfl ⟨by rw [HE.out], ?_⟩
  exact below3 _ _ _ _


theorem step_any (s : Nat × Nat) (b : Nat) (w : World) (hT : RowsAt w) (hw0 : 1 < w.heap.size) (hs : okS s = true) (hb : b < 256) :
    Calls Tryz.prog 101 #[spV s, .int .u8 b] w fun e w' => e = .returned (spV (stepF s b)) ∧ Below w.heap.size w w' := by
  have n1 : ¬ w.heap.size = 1 := by omega
  have n2 : ¬ 1 = w.heap.size := by omega
  have n3 : ¬ w.heap.size = 0 := by omega
  have n4 : 0 < w.heap.size := by omega
  obtain ⟨p, r⟩ := s
  obtain ⟨_, hp, hr⟩ := ok_bound hs
  simp only at hp hr
  show Calls Tryz.prog 101 #[.agg #[.int .u8 (p : Nat), .int .i64 (r : Nat)], .int .u8 b] w _
  by_cases hw : wordOf p = []
  · by_cases h10 : b = 10
    · exact stepNf p r b w hT hw0 hp hr hw h10
    · by_cases h32 : b = 32
      · exact stepNb p r b w hT hw0 hp hr hw h32
      · by_cases h9 : b = 9
        · exact stepNt p r b w hT hw0 hp hr hw h9
        · cases hsg : (signsOf p).contains b
          · cases hnm : isNm b
            · exact stepNo p r b w hT hw0 hp hr hw hb h10 h32 h9 hsg hnm
            · exact stepNn p r b w hT hw0 hp hr hw hb h10 h32 h9 hsg hnm
          · exact stepNs p r b w hT hw0 hp hr hw hb h10 h32 h9 hsg
  · have hrl : r < (wordOf p).length := by
      simp only [okS, Bool.and_eq_true] at hs
      have := hs.2
      rw [if_pos hw] at this
      simpa using this
    by_cases hwb : (wordOf p).getD r 0 = b
    · exact stepA p r b w hT hw0 hp hr hrl hwb
    · by_cases h0 : 0 < r
      · exact stepB p r b w hT hw0 hp hr hrl hwb h0
      · have hr0 : r = 0 := by omega
        have hl : 0 < (wordOf p).length := by omega
        by_cases h10 : b = 10
        · exact stepZf p r b w hT hw0 hp hr hl hr0 hwb h10
        · by_cases h32 : b = 32
          · exact stepZb p r b w hT hw0 hp hr hl hr0 hwb h32
          · by_cases h9 : b = 9
            · exact stepZt p r b w hT hw0 hp hr hl hr0 hwb h9
            · cases hsg : (signsOf p).contains b
              · cases hnm : isNm b
                · exact stepZo p r b w hT hw0 hp hr hl hr0 hwb hb h10 h32 h9 hsg hnm
                · exact stepZn p r b w hT hw0 hp hr hl hr0 hwb hb h10 h32 h9 hsg hnm
              · exact stepZs p r b w hT hw0 hp hr hl hr0 hwb hb h10 h32 h9 hsg

end Go.Proofs.YtmagchclmmphaabGreatDoor
