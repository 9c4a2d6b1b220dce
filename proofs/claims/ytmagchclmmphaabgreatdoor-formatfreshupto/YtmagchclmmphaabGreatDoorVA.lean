import Derived.Test.YtmagchclmmphaabGreatDoorLM
namespace Go.Proofs.YtmagchclmmphaabGreatDoor
open Go.RowKit Go.Maps
attribute [local go_sem] Oper.semAt_some

/-- Where an item stands first; -1: nowhere. -/
def plcF {α : Type} [DecidableEq α] (l : List α) (s : α) : Int := if s ∈ l then (l.findIdx (fun y => decide (y = s)) : Int) else -1
theorem plcF_at {α : Type} [DecidableEq α] {l : List α} {s : α} {k : Nat} (hk : k < l.length) (h : ∀ x ∈ l.take k, x ≠ s) (e : l[k] = s) : plcF l s = (k : Int) := by
  have hm : s ∈ l := e ▸ List.getElem_mem hk
  unfold plcF
  rw [if_pos hm]
  congr 1
  have hf : l.findIdx (fun y => decide (y = s)) = k := by
    rw [List.findIdx_eq hk]
    refine ⟨by simp [e], fun j hj => ?_⟩
    have : l[j] ∈ l.take k := by
      rw [List.mem_take_iff_getElem]
      exact ⟨j, by omega, rfl⟩
    simp [h _ this]
  rw [hf]
theorem plcF_no {α : Type} [DecidableEq α] {l : List α} {s : α} (h : ∀ x ∈ l, x ≠ s) : plcF l s = -1 := by
  unfold plcF
  rw [if_neg]
  intro hm
  exact h s hm rfl
theorem take_ne {α : Type} {l : List α} {s : α} {k : Nat} (hk : k < l.length) (h : ∀ x ∈ l.take k, x ≠ s) (e : l[k] ≠ s) : ∀ x ∈ l.take (k + 1), x ≠ s := by
  intro x hx
  rw [List.take_succ_eq_append_getElem hk] at hx
  rcases List.mem_append.1 hx with q | q
  · exact h x q
  · rw [List.mem_singleton.1 q]; exact e

set_option maxRecDepth 100000 in
set_option maxHeartbeats 2000000 in
/-- The document's place of a text. -/
theorem rplace_any (w : World) (ao : Option Addr) (cap : Nat) (l : List ByteArray) (s : ByteArray) (hA : Hid (ReadsS w ao l)) (hl : l.length ≤ 4194304) :
    Calls Tryz.prog 53 #[.slice ao l.length cap, .string s] w fun e w' => e = .returned (.int .i64 (plcF l s)) ∧ w' = w := by
  go_enter Tryz.func53, Tryz.ntmps53
  go_wp2_with fail
  go_loopw [5] (fun i wr => ∃ k : Nat, k ≤ l.length ∧ i = .int .i64 k ∧ wr = w ∧ Hid (∀ x ∈ l.take k, x ≠ s)) (fun i _ => l.length - (intOf i).toNat)
  case atStart => exact ⟨0, Nat.zero_le _, rfl, rfl, hide (fun x hx => by simp at hx)⟩
  case round =>
    obtain ⟨k, hk, rfl, rfl, HN⟩ := hrel
    by_cases hlt : k < l.length
    · obtain ⟨g1, o1, rfl, q1⟩ := hA.out k hlt
      have i2 : (k : Int) < (l.length : Int) := by omega
      have i3 : (0 : Int) ≤ (k : Int) := by omega
      obtain ⟨x, hx⟩ : ∃ x, l[k] = x := ⟨_, rfl⟩
      rw [hx] at q1
      have HX := hide hx
      clear hx
      by_cases hxs : x = s
      · subst hxs
        go_wp2
        go_ret
        exact ⟨by rw [plcF_at hlt HN.out HX.out]; rfl, rfl⟩
      · have hb : (x.toList == s.toList) = false := by rw [str_beq]; exact decide_eq_false hxs
        go_wp2
        exact ⟨⟨k + 1, by omega, by go_num, trivial, hide (take_ne hlt HN.out (by rw [HX.out]; exact hxs))⟩, by simp [intOf]; omega⟩
    · obtain rfl : k = l.length := by omega
      have i2 : ¬ (l.length : Int) < (l.length : Int) := by omega
      go_wp2
      go_ret
      exact ⟨by rw [plcF_no (by have := HN.out; rwa [List.take_length] at this)]; rfl, rfl⟩
set_option maxRecDepth 100000 in
set_option maxHeartbeats 2000000 in
/-- The document's place of a symbol. -/
theorem ropPlace_any (w : World) (ao : Option Addr) (cap : Nat) (l : List OpI) (s : OpI) (hA : Hid (RdO w ao l)) (hl : l.length ≤ 4194304) :
    Calls Tryz.prog 89 #[.slice ao l.length cap, .agg #[.string s.1, .int .i64 s.2]] w fun e w' => e = .returned (.int .i64 (plcF l s)) ∧ Below w.heap.size w w' := by
  obtain ⟨W0, hW0⟩ : ∃ W0, w.alloc (.cells #[.string s.1, .int .i64 s.2] 66) = W0 := ⟨_, rfl⟩
  have d0 : Below w.heap.size w W0 := by rw [← hW0]; exact (Below.refl _ _).alloc (Nat.le_refl _) _
  have b0 : W0.heap[w.heap.size]? = some (.cells #[.string s.1, .int .i64 s.2] 66 (0, 0)) := by rw [← hW0]; exact World.alloc_heap_new _ _
  have z0 : w.heap.size < W0.heap.size := by rw [← hW0]; simp
  have HO := hide (hA.out.on d0)
  have HD := hide (And.intro d0 (And.intro b0 z0))
  clear hA d0 b0 z0
  go_enter Tryz.func89, Tryz.ntmps89
  go_wp2_with fail
  go_loopw [5] (fun i wr => ∃ k : Nat, k ≤ l.length ∧ i = .int .i64 k ∧ Hid (Below W0.heap.size W0 wr ∧ ∀ x ∈ l.take k, x ≠ s)) (fun i _ => l.length - (intOf i).toNat)
  case atStart => exact ⟨0, Nat.zero_le _, rfl, hide ⟨Below.refl _ _, fun x hx => by simp at hx⟩⟩
  case round =>
    obtain ⟨k, hk, rfl, HN⟩ := hrel
    by_cases hlt : k < l.length
    · obtain ⟨g1, o1, rfl, q0, q1⟩ := (HO.out.on HN.out.1) k hlt
      have i2 : (k : Int) < (l.length : Int) := by omega
      have i3 : (0 : Int) ≤ (k : Int) := by omega
      obtain ⟨x, hx⟩ : ∃ x, l[k] = x := ⟨_, rfl⟩
      rw [hx] at q0 q1
      have HX := hide hx
      clear hx
      have r0 : wr.cell? ⟨w.heap.size, 0, none⟩ = some (.string s.1) := (HN.out.1.cell (p := ⟨w.heap.size, 0, none⟩) HD.out.2.2).trans (cell_of HD.out.2.1 rfl)
      have r1 : wr.cell? ⟨w.heap.size, 1, none⟩ = some (.int .i64 s.2) := (HN.out.1.cell (p := ⟨w.heap.size, 1, none⟩) HD.out.2.2).trans (cell_of HD.out.2.1 rfl)
      obtain ⟨a, b⟩ := x
      obtain ⟨c, d⟩ := s
      simp only at q0 q1 r0 r1
      by_cases ha : a = c
      · subst ha
        by_cases hb : b = d
        · subst hb
          go_wp2_with fail
          go_region_held3 (fun W => W.cell? ⟨g1, o1 + k * 2, none⟩ = some (.string a) ∧ W.cell? ⟨g1, o1 + k * 2 + 1, none⟩ = some (.int .i64 b) ∧ W.cell? ⟨w.heap.size, 0, none⟩ = some (.string a) ∧ W.cell? ⟨w.heap.size, 1, none⟩ = some (.int .i64 b) ∧ Hid (Below W0.heap.size W0 W))
            (first | exact ⟨q0, q1, r0, r1, hide HN.out.1.drew⟩ | assumption)
            (fail)
          rename_i hSS
          have HE := hide hSS.2.2.2.2.out
          clear hSS
          go_wp2_with fail
          go_ret
          exact ⟨by rw [plcF_at hlt HN.out.2 HX.out]; rfl, HD.out.1.trans (HE.out.mono HD.out.1.size)⟩
        · have e1 : (b == d) = false := by rw [beq_eq_false_iff_ne]; exact hb
          go_wp2_with fail
          go_region_held3 (fun W => W.cell? ⟨g1, o1 + k * 2, none⟩ = some (.string a) ∧ W.cell? ⟨g1, o1 + k * 2 + 1, none⟩ = some (.int .i64 b) ∧ W.cell? ⟨w.heap.size, 0, none⟩ = some (.string a) ∧ W.cell? ⟨w.heap.size, 1, none⟩ = some (.int .i64 d) ∧ Hid (Below W0.heap.size W0 W))
            (first | exact ⟨q0, q1, r0, r1, hide HN.out.1.drew⟩ | assumption)
            (fail)
          rename_i hSS
          have HE := hide hSS.2.2.2.2.out
          clear hSS
          go_wp2_with fail
          exact ⟨⟨k + 1, by omega, by go_num, hide ⟨HE.out, take_ne hlt HN.out.2 (by rw [HX.out]; intro q; exact hb (Prod.mk.inj q).2)⟩⟩, by simp [intOf]; omega⟩
      · have e1 : (a.toList == c.toList) = false := by rw [str_beq]; exact decide_eq_false ha
        go_wp2_with fail
        go_region_held3 (fun W => W.cell? ⟨g1, o1 + k * 2, none⟩ = some (.string a) ∧ W.cell? ⟨g1, o1 + k * 2 + 1, none⟩ = some (.int .i64 b) ∧ W.cell? ⟨w.heap.size, 0, none⟩ = some (.string c) ∧ W.cell? ⟨w.heap.size, 1, none⟩ = some (.int .i64 d) ∧ Hid (Below W0.heap.size W0 W))
          (first | exact ⟨q0, q1, r0, r1, hide HN.out.1.drew⟩ | assumption)
          (fail)
        rename_i hSS
        have HE := hide hSS.2.2.2.2.out
        clear hSS
        go_wp2_with fail
        exact ⟨⟨k + 1, by omega, by go_num, hide ⟨HE.out, take_ne hlt HN.out.2 (by rw [HX.out]; intro q; exact ha (Prod.mk.inj q).1)⟩⟩, by simp [intOf]; omega⟩
    · obtain rfl : k = l.length := by omega
      have i2 : ¬ (l.length : Int) < (l.length : Int) := by omega
      go_wp2
      go_ret
      exact ⟨by rw [plcF_no (by have := HN.out.2; rwa [List.take_length] at this)]; rfl, HD.out.1.trans (HN.out.1.mono HD.out.1.size)⟩
end Go.Proofs.YtmagchclmmphaabGreatDoor
namespace Go.Proofs.YtmagchclmmphaabGreatDoor
open Go.RowKit Go.Maps
attribute [local go_sem] Oper.semAt_some

/-- The symbol of a rule. -/
def opRI (s : RuT) : OpI := (s.1, if s.2.1 = ⟨#[]⟩ then 0 else 1)
set_option maxRecDepth 100000 in
set_option maxHeartbeats 2000000 in
theorem ropOf_any (w : World) (s : RuT) :
    Calls Tryz.prog 90 #[.agg #[.string s.1, .string s.2.1, .string s.2.2]] w fun e w' => e = .returned (.agg #[.string (opRI s).1, .int .i64 (opRI s).2]) ∧ Below w.heap.size w w' := by
  obtain ⟨p, q, r⟩ := s
  obtain ⟨W0, hW0⟩ : ∃ W0, (w.alloc (.cells #[.string p, .string q, .string r] 68)).alloc (.cells #[.string ⟨#[]⟩, .int .i64 0] 66) = W0 := ⟨_, rfl⟩
  have d0 : Below w.heap.size w W0 := by rw [← hW0]; exact ((Below.refl _ _).alloc (Nat.le_refl _) _).alloc (by simp) _
  have b0 : W0.heap[w.heap.size]? = some (.cells #[.string p, .string q, .string r] 68 (0, 0)) := by rw [← hW0]; exact (Below.heap_alloc _ _ _ (by simp)).trans (World.alloc_heap_new _ _)
  have b1 : W0.heap[w.heap.size + 1]? = some (.cells #[.string ⟨#[]⟩, .int .i64 0] 66 (0, 0)) := by rw [← hW0]; exact heap_alloc2_new w _ _
  have z0 : W0.heap.size = w.heap.size + 2 := by rw [← hW0]; simp
  have c0 : W0.cell? ⟨w.heap.size, 0, none⟩ = some (.string p) := cell_of b0 rfl
  have c1 : W0.cell? ⟨w.heap.size, 1, none⟩ = some (.string q) := cell_of b0 rfl
  have o0 : W0.cell? ⟨w.heap.size + 1, 0, none⟩ = some (.string ⟨#[]⟩) := cell_of b1 rfl
  have o1 : W0.cell? ⟨w.heap.size + 1, 1, none⟩ = some (.int .i64 0) := cell_of b1 rfl
  have f0 : W0.frozen? ⟨w.heap.size + 1, 0, none⟩ = false := fz_of b1
  have f1 : W0.frozen? ⟨w.heap.size + 1, 1, none⟩ = false := fz_of b1
  have HB : Hid (∀ n : Int, ((W0.setCell ⟨w.heap.size + 1, 0, none⟩ (.string p)).setCell ⟨w.heap.size + 1, 1, none⟩ (.int .i64 n)).heap[w.heap.size + 1]? = some (.cells #[.string p, .int .i64 n] 66 (0, 0)) ∧ Below w.heap.size w ((W0.setCell ⟨w.heap.size + 1, 0, none⟩ (.string p)).setCell ⟨w.heap.size + 1, 1, none⟩ (.int .i64 n))) := hide fun n =>
    ⟨heap_setCell_same _ _ 1 _ 66 _ (heap_setCell_same _ _ 0 _ 66 _ b1), (d0.setCell (by simp) _).setCell (by simp) _⟩
  clear b0 b1 d0 z0
  simp only [opRI]
  by_cases hq : q = ⟨#[]⟩
  · subst hq
    go_enter Tryz.func90, Tryz.ntmps90
    go_wp2
    refine bodyPost_ret (results_cell_row (p := 2) (ty := 66) rfl _ _ (w.heap.size + 1) 66 _ (0, 0) _ rfl (HB.out 0).1 Tryz.underlying66 rfl (by kernel_rfl)) rfl ?_
    exact ⟨by simp, (HB.out 0).2⟩
  · have e0 : (q.toList == []) = false := by rw [str_empty]; exact decide_eq_false hq
    have e1 : (q.toList == (⟨#[]⟩ : ByteArray).toList) = false := by rw [str_beq]; exact decide_eq_false hq
    go_enter Tryz.func90, Tryz.ntmps90
    go_wp2
    refine bodyPost_ret (results_cell_row (p := 2) (ty := 66) rfl _ _ (w.heap.size + 1) 66 _ (0, 0) _ rfl (HB.out 1).1 Tryz.underlying66 rfl (by kernel_rfl)) rfl ?_
    exact ⟨by simp, (HB.out 1).2⟩
end Go.Proofs.YtmagchclmmphaabGreatDoor
