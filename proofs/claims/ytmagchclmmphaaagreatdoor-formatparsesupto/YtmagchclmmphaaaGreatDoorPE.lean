import Derived.Test.YtmagchclmmphaaaGreatDoorPB
namespace Go.Proofs.YtmagchclmmphaaaGreatDoor
open Go.RowKit Go.Maps
attribute [local go_sem] Oper.semAt_some

/-- What has been read of a rule's line. -/
def RuI (s : ByteArray) (j k : Nat) (a b c : ByteArray) : Prop := ((bts s).take j).foldl ruF ru0 = (k, bts a, bts b, bts c)
theorem ru_step {s a b c : ByteArray} {j k x : Nat} (h : RuI s j k a b c) (hj : j < s.size) (hx : (bts s)[j]'(by rw [bts_len]; exact hj) = x) : ((bts s).take (j + 1)).foldl ruF ru0 = ruF (k, bts a, bts b, bts c) x := by
  have hl : j < (bts s).length := by rw [bts_len]; exact hj
  unfold RuI at h
  rw [List.take_succ_eq_append_getElem hl, hx, List.foldl_append, h]; rfl
theorem bts_one {s : ByteArray} {j x : Nat} (hj : j < s.size) (hx : (bts s)[j]'(by rw [bts_len]; exact hj) = x) : bts (s.extract j (j + 1)) = [x] := by
  have hl : j < (bts s).length := by rw [bts_len]; exact hj
  rw [bts_extract, List.drop_eq_getElem_cons hl, show j + 1 - j = 1 by omega, hx]; rfl

set_option maxRecDepth 100000 in
set_option maxHeartbeats 2000000 in
/-- The document's rule of a line. -/
theorem rrule_any (w : World) (s : ByteArray) (hs : s.size ≤ 134217728) :
    Calls Tryz.prog 68 #[.string s] w fun e w' => ∃ a b c, e = .returned (.agg #[.string a, .string b, .string c]) ∧ (∃ k, RuI s s.size k a b c) ∧ Below w.heap.size w w' := by
  go_enter Tryz.func68, Tryz.ntmps68
  go_wp2_with fail
  go_loopw [4, 5] (fun kk i wr => ∃ (j k : Nat) (a b c : ByteArray), j ≤ s.size ∧ k ≤ 2 ∧ i = .int .i64 j ∧ kk = .int .i64 k ∧ a.size ≤ j ∧ b.size ≤ j ∧ c.size ≤ j ∧ Hid (RuI s j k a b c ∧ wr.heap[w.heap.size]? = some (.cells #[.string ⟨#[]⟩, .string ⟨#[]⟩, .string ⟨#[]⟩] 50 (0, 0)) ∧ wr.heap[w.heap.size + 1]? = some (.cells #[.string a, .string b, .string c] 121 (0, 0)) ∧ Below w.heap.size w wr)) (fun _ i _ => s.size - (intOf i).toNat)
  case atStart =>
    refine ⟨0, 0, ⟨#[]⟩, ⟨#[]⟩, ⟨#[]⟩, Nat.zero_le _, by omega, rfl, rfl, Nat.le_refl _, Nat.le_refl _, Nat.le_refl _, hide ⟨rfl, ?_, ?_, ((Below.refl _ w).alloc (Nat.le_refl _) _).alloc (by simp) _⟩⟩
    · exact (((Below.refl _ (w.alloc (.cells #[.string ⟨#[]⟩, .string ⟨#[]⟩, .string ⟨#[]⟩] 50))).alloc (Nat.le_refl _) _).block w.heap.size (by simp)).trans (World.alloc_heap_new _ _)
    · have := World.alloc_heap_new (w.alloc (.cells #[.string ⟨#[]⟩, .string ⟨#[]⟩, .string ⟨#[]⟩] 50)) (.cells #[.string ⟨#[]⟩, .string ⟨#[]⟩, .string ⟨#[]⟩] 121)
      simpa using this
  case round =>
    obtain ⟨j, k, a, b, c, hj, hk, rfl, rfl, ha, hb, hc, HH⟩ := hrel
    by_cases hlt : j < s.size
    · have i1 : (j : Int) < (s.size : Int) := by omega
      have hix := rf.idx_b s j hlt
      obtain ⟨x, hx⟩ : ∃ x, (bts s)[j]'(by rw [bts_len]; exact hlt) = x := ⟨_, rfl⟩
      rw [hx] at hix
      have HS := hide (ru_step HH.out.1 hlt hx)
      have HX := hide (bts_one hlt hx)
      clear hx
      by_cases h40 : x = 40
      · have j1 : ((x : Int) == 40) = true := by rw [beq_iff_eq]; omega
        go_wp2_with fail
        exact ⟨⟨j + 1, 1, a, b, c, by omega, by omega, by go_num, rfl, by omega, by omega, by omega, hide ⟨by unfold RuI; rw [HS.out, h40]; rfl, HH.out.2⟩⟩, by simp [intOf]; omega⟩
      · have j1 : ((x : Int) == 40) = false := by rw [beq_eq_false_iff_ne]; omega
        by_cases h41 : x = 41
        · have j2 : ((x : Int) == 41) = true := by rw [beq_iff_eq]; omega
          go_wp2_with fail
          exact ⟨⟨j + 1, 2, a, b, c, by omega, by omega, by go_num, rfl, by omega, by omega, by omega, hide ⟨by unfold RuI; rw [HS.out, h41]; rfl, HH.out.2⟩⟩, by simp [intOf]; omega⟩
        · have j2 : ((x : Int) == 41) = false := by rw [beq_eq_false_iff_ne]; omega
          by_cases h32 : x = 32
          · have j3 : ((x : Int) == 32) = true := by rw [beq_iff_eq]; omega
            go_wp2_with fail
            exact ⟨⟨j + 1, k, a, b, c, by omega, hk, by go_num, rfl, by omega, by omega, by omega, hide ⟨by unfold RuI; rw [HS.out, h32]; rfl, HH.out.2⟩⟩, by simp [intOf]; omega⟩
          · have j3 : ((x : Int) == 32) = false := by rw [beq_eq_false_iff_ne]; omega
            by_cases h9 : x = 9
            · have j4 : ((x : Int) == 9) = true := by rw [beq_iff_eq]; omega
              go_wp2_with fail
              exact ⟨⟨j + 1, k, a, b, c, by omega, hk, by go_num, rfl, by omega, by omega, by omega, hide ⟨by unfold RuI; rw [HS.out, h9]; rfl, HH.out.2⟩⟩, by simp [intOf]; omega⟩
            · have j4 : ((x : Int) == 9) = false := by rw [beq_eq_false_iff_ne]; omega
              by_cases h45 : x = 45
              · have j5 : ((x : Int) == 45) = true := by rw [beq_iff_eq]; omega
                go_wp2_with fail
                exact ⟨⟨j + 1, k, a, b, c, by omega, hk, by go_num, rfl, by omega, by omega, by omega, hide ⟨by unfold RuI; rw [HS.out, h45]; rfl, HH.out.2⟩⟩, by simp [intOf]; omega⟩
              · have j5 : ((x : Int) == 45) = false := by rw [beq_eq_false_iff_ne]; omega
                by_cases h62 : x = 62
                · have j6 : ((x : Int) == 62) = true := by rw [beq_iff_eq]; omega
                  go_wp2_with fail
                  exact ⟨⟨j + 1, k, a, b, c, by omega, hk, by go_num, rfl, by omega, by omega, by omega, hide ⟨by unfold RuI; rw [HS.out, h62]; rfl, HH.out.2⟩⟩, by simp [intOf]; omega⟩
                · have j6 : ((x : Int) == 62) = false := by rw [beq_eq_false_iff_ne]; omega
                  have HU : Hid (ruF (k, bts a, bts b, bts c) x = if k = 0 then (k, bts a ++ [x], bts b, bts c) else if k = 1 then (k, bts a, bts b ++ [x], bts c) else (k, bts a, bts b, bts c ++ [x])) := hide (by unfold ruF; rw [if_neg h40, if_neg h41, if_neg (by omega)])
                  have hez : (s.extract j (j + 1)).size = 1 := by rw [ByteArray.size_extract]; omega
                  have i2 : (j : Int) ≤ ((j + 1 : Nat) : Int) := by omega
                  have i3 : (0 : Int) ≤ (j : Int) := by omega
                  have i4 : ((j + 1 : Nat) : Int) ≤ (s.size : Int) := by omega
                  clear h40 h41 h32 h9 h45 h62
                  have c0 : wr.cell? ⟨w.heap.size + 1, 0, none⟩ = some (.string a) := cell_of HH.out.2.2.1 rfl
                  have c1 : wr.cell? ⟨w.heap.size + 1, 1, none⟩ = some (.string b) := cell_of HH.out.2.2.1 rfl
                  have c2 : wr.cell? ⟨w.heap.size + 1, 2, none⟩ = some (.string c) := cell_of HH.out.2.2.1 rfl
                  have f0 : wr.frozen? ⟨w.heap.size + 1, 0, none⟩ = false := fz_of HH.out.2.2.1
                  have f1 : wr.frozen? ⟨w.heap.size + 1, 1, none⟩ = false := fz_of HH.out.2.2.1
                  have f2 : wr.frozen? ⟨w.heap.size + 1, 2, none⟩ = false := fz_of HH.out.2.2.1
                  have za : (a ++ s.extract j (j + 1)).size ≤ j + 1 := by rw [ByteArray.size_append]; omega
                  have zb : (b ++ s.extract j (j + 1)).size ≤ j + 1 := by rw [ByteArray.size_append]; omega
                  have zc : (c ++ s.extract j (j + 1)).size ≤ j + 1 := by rw [ByteArray.size_append]; omega
                  have HN := hide (fun (o : Nat) (u : Value) => show (wr.setCell ⟨w.heap.size + 1, o, none⟩ u).drew.heap[w.heap.size]? = _ ∧ Below w.heap.size w (wr.setCell ⟨w.heap.size + 1, o, none⟩ u) from ⟨(Below.heap_setCell wr ⟨w.heap.size + 1, o, none⟩ u w.heap.size (by show w.heap.size ≠ w.heap.size + 1; omega)).trans HH.out.2.1, HH.out.2.2.2.setCell (by show _ ≤ w.heap.size + 1; omega) u⟩)
                  by_cases h0 : k = 0
                  · subst h0
                    have HU2 := hide (show ((bts s).take (j + 1)).foldl ruF ru0 = (0, bts (a ++ s.extract j (j + 1)), bts b, bts c) by rw [HS.out, HU.out, if_pos rfl, bts_append, HX.out])
                    have HB0 := hide (heap_setCell_same wr (w.heap.size + 1) 0 _ 121 (.string (a ++ s.extract j (j + 1))) HH.out.2.2.1)
                    clear HU HS HX
                    go_wp2_with fail
                    go_region
                    go_wp2_with fail
                    exact ⟨⟨j + 1, 0, a ++ s.extract j (j + 1), b, c, by omega, by omega, by go_num, rfl, za, by omega, by omega, hide ⟨HU2.out, (HN.out _ _).1, HB0.out, (HN.out _ _).2.drew⟩⟩, by simp [intOf]; omega⟩
                  · by_cases h1 : k = 1
                    · subst h1
                      have HU2 := hide (show ((bts s).take (j + 1)).foldl ruF ru0 = (1, bts a, bts (b ++ s.extract j (j + 1)), bts c) by rw [HS.out, HU.out, if_neg (by omega), if_pos rfl, bts_append, HX.out])
                      have HB0 := hide (heap_setCell_same wr (w.heap.size + 1) 1 _ 121 (.string (b ++ s.extract j (j + 1))) HH.out.2.2.1)
                      clear HU HS HX h0
                      go_wp2_with fail
                      go_region
                      go_wp2_with fail
                      exact ⟨⟨j + 1, 1, a, b ++ s.extract j (j + 1), c, by omega, by omega, by go_num, rfl, by omega, zb, by omega, hide ⟨HU2.out, (HN.out _ _).1, HB0.out, (HN.out _ _).2.drew⟩⟩, by simp [intOf]; omega⟩
                    · obtain rfl : k = 2 := by omega
                      have HU2 := hide (show ((bts s).take (j + 1)).foldl ruF ru0 = (2, bts a, bts b, bts (c ++ s.extract j (j + 1))) by rw [HS.out, HU.out, if_neg (by omega), if_neg (by omega), bts_append, HX.out])
                      have HB0 := hide (heap_setCell_same wr (w.heap.size + 1) 2 _ 121 (.string (c ++ s.extract j (j + 1))) HH.out.2.2.1)
                      clear HU HS HX h0 h1
                      go_wp2_with fail
                      go_region
                      go_wp2_with fail
                      exact ⟨⟨j + 1, 2, a, b, c ++ s.extract j (j + 1), by omega, by omega, by go_num, rfl, by omega, by omega, zc, hide ⟨HU2.out, (HN.out _ _).1, HB0.out, (HN.out _ _).2.drew⟩⟩, by simp [intOf]; omega⟩
    · obtain rfl : j = s.size := by omega
      have i1 : ¬ (s.size : Int) < (s.size : Int) := by omega
      have c0 : wr.cell? ⟨w.heap.size + 1, 0, none⟩ = some (.string a) := cell_of HH.out.2.2.1 rfl
      have c1 : wr.cell? ⟨w.heap.size + 1, 1, none⟩ = some (.string b) := cell_of HH.out.2.2.1 rfl
      have c2 : wr.cell? ⟨w.heap.size + 1, 2, none⟩ = some (.string c) := cell_of HH.out.2.2.1 rfl
      have d0 : wr.cell? ⟨w.heap.size, 0, none⟩ = some (.string ⟨#[]⟩) := cell_of HH.out.2.1 rfl
      have d1 : wr.cell? ⟨w.heap.size, 1, none⟩ = some (.string ⟨#[]⟩) := cell_of HH.out.2.1 rfl
      have d2 : wr.cell? ⟨w.heap.size, 2, none⟩ = some (.string ⟨#[]⟩) := cell_of HH.out.2.1 rfl
      have f0 : wr.frozen? ⟨w.heap.size, 0, none⟩ = false := fz_of HH.out.2.1
      have f1 : wr.frozen? ⟨w.heap.size, 1, none⟩ = false := fz_of HH.out.2.1
      have f2 : wr.frozen? ⟨w.heap.size, 2, none⟩ = false := fz_of HH.out.2.1
      have e3 := hide (heap_setCell_same _ _ 2 _ 50 (.string c) (heap_setCell_same _ _ 1 _ 50 (.string b) (heap_setCell_same _ _ 0 _ 50 (.string a) HH.out.2.1)))
      go_wp2_with fail
      refine bodyPost_ret (results_cell_row (p := 2) (ty := 50) rfl _ _ w.heap.size 50 _ (0, 0) _ rfl e3.out Tryz.underlying50 rfl (by kernel_rfl)) rfl ?_
      exact ⟨a, b, c, by simp, ⟨k, HH.out.1⟩, ((HH.out.2.2.2.setCell (Nat.le_refl _) _).setCell (Nat.le_refl _) _).setCell (Nat.le_refl _) _⟩
theorem rrule_is (w : World) (s : ByteArray) (hs : s.size ≤ 134217728) (r : RuT) (h : (bts s).foldl ruF ru0 = (2, bts r.1, bts r.2.1, bts r.2.2)) :
    Calls Tryz.prog 68 #[.string s] w fun e w' => e = .returned (.agg #[.string r.1, .string r.2.1, .string r.2.2]) ∧ Below w.heap.size w w' := by
  refine (rrule_any w s hs).mono ?_
  rintro e w' ⟨a, b, c, rfl, ⟨k, hk⟩, d⟩
  unfold RuI at hk
  rw [List.take_of_length_le (by rw [bts_len]; exact Nat.le_refl _), h] at hk
  simp only [Prod.mk.injEq] at hk
  obtain ⟨_, h1, h2, h3⟩ := hk
  rw [bts_inj h1, bts_inj h2, bts_inj h3]
  exact ⟨rfl, d⟩
end Go.Proofs.YtmagchclmmphaaaGreatDoor
namespace Go.Proofs.YtmagchclmmphaaaGreatDoor
open Go.RowKit Go.Maps

/-! ### A content that is being made: three rows of one's own, apart, and a box that holds them -/
def RB3 (vo vs vr : Value) (k : Nat) : Prop := vo.ownBlock = some k ∨ vs.ownBlock = some k ∨ vr.ownBlock = some k
structure Cn (B : Nat) (W : World) (vo vs vr : Value) (O : List OpT) (S : List ByteArray) (R : List RuT) : Prop where
  o : W.ownsRow B 41 2 vo O.length (O.flatMap kOps.cs)
  s : W.ownsRow B 9 1 vs S.length (strV S)
  r : W.ownsRow B 50 3 vr R.length (R.flatMap kRules.cs)
  os : ∀ k, vo.ownBlock = some k → vs.ownBlock ≠ some k
  or : ∀ k, vo.ownBlock = some k → vr.ownBlock ≠ some k
  sr : ∀ k, vs.ownBlock = some k → vr.ownBlock ≠ some k
variable {B : Nat} {W W' : World} {vo vs vr : Value} {O : List OpT} {S : List ByteArray} {R : List RuT}
theorem Cn.lt (h : Cn B W vo vs vr O S R) (k : Nat) (q : RB3 vo vs vr k) : B ≤ k ∧ k < W.heap.size := by
  rcases q with q | q | q
  · exact h.o.lt k q
  · exact h.s.lt k q
  · exact h.r.lt k q
theorem Cn.only {P : Nat → Prop} (h : Cn B W vo vs vr O S R) (ho : Only W W' P) (hn : ∀ k, RB3 vo vs vr k → ¬ P k) : Cn B W' vo vs vr O S R :=
  ⟨row_only h.o ho fun k q => hn k (.inl q), row_only h.s ho fun k q => hn k (.inr (.inl q)), row_only h.r ho fun k q => hn k (.inr (.inr q)), h.os, h.or, h.sr⟩
theorem Cn.below (h : Cn B W vo vs vr O S R) (d : Below W.heap.size W W') : Cn B W' vo vs vr O S R := h.only (Only.ofBelow (R := fun _ => False) d) (fun _ _ h => h)
theorem Cn.nil (B : Nat) (W : World) : Cn B W (.slice none 0 0) (.slice none 0 0) (.slice none 0 0) [] [] [] :=
  ⟨⟨rfl, .inl ⟨rfl, rfl⟩⟩, ⟨rfl, .inl ⟨rfl, rfl⟩⟩, ⟨rfl, .inl ⟨rfl, rfl⟩⟩, fun _ q => (by cases q), fun _ q => (by cases q), fun _ q => (by cases q)⟩
/-- What a step changes: the box, the rows; rows that are new lie in new memory. -/
structure Cs (g : Nat) (W W' : World) (P P' : Nat → Prop) : Prop where
  only : Only W W' (fun k => k = g ∨ P k)
  new : ∀ k, P' k → P k ∨ W.heap.size ≤ k
theorem Cs.same {g : Nat} {P : Nat → Prop} (d : Below W.heap.size W W') : Cs g W W' P P := ⟨Only.ofBelow d, fun _ q => .inl q⟩
theorem Cs.trans {g : Nat} {a b c : World} {P Q T : Nat → Prop} (h : Cs g a b P Q) (k : Cs g b c Q T) : Cs g a c P T :=
  ⟨h.only.andNew k.only fun i hi q => q.imp_right fun q => (h.new i q).resolve_right (by omega), fun i q => by
    rcases k.new i q with q | q
    · exact h.new i q
    · have := h.only.size; exact .inr (by omega)⟩
structure Cf (B g : Nat) (W : World) (t : ByteArray) (vf vo vs vr : Value) (O : List OpT) (S : List ByteArray) (R : List RuT) : Prop where
  cn : Cn B W vo vs vr O S R
  blk : W.heap[g]? = some (.cells #[.string t, vo, vs, vf, vr] 26 (0, 0))
  ap : ∀ k, RB3 vo vs vr k → k ≠ g
variable {g : Nat} {t : ByteArray} {vf : Value}
theorem Cf.glt (h : Cf B g W t vf vo vs vr O S R) : g < W.heap.size := (Array.getElem?_eq_some_iff.1 h.blk).1
theorem Cf.below (h : Cf B g W t vf vo vs vr O S R) (d : Below W.heap.size W W') : Cf B g W' t vf vo vs vr O S R := ⟨h.cn.below d, (d.block g h.glt).trans h.blk, h.ap⟩
/-- Another block stands. -/
theorem Cs.block {P P' : Nat → Prop} (h : Cs g W W' P P') {k : Nat} (hk : k < W.heap.size) (hg : k ≠ g) (hP : ¬ P k) : W'.heap[k]? = W.heap[k]? := h.only.block k hk (fun q => q.elim hg hP)
theorem new_of {v v' : Value} {k : Nat} (h : Grw W W' v v') (q : v'.ownBlock = some k) : v.ownBlock = some k ∨ W.heap.size ≤ k := by
  rcases h.2 with e | ⟨k', e, hk⟩
  · left; rw [← e]; exact q
  · right; rw [q] at e; cases e; exact hk
theorem Cf.addO {W1 : World} {vo' : Value} {O' : List OpT} (h : Cf B g W t vf vo vs vr O S R) (hg : Grw W W1 vo vo') (ho : W1.ownsRow B 41 2 vo' O'.length (O'.flatMap kOps.cs)) :
    Cf B g (W1.setCell ⟨g, 1, none⟩ vo') t vf vo' vs vr O' S R ∧ Cs g W (W1.setCell ⟨g, 1, none⟩ vo') (RB3 vo vs vr) (RB3 vo' vs vr) := by
  have hglt := h.glt
  have hs : W1.ownsRow B 9 1 vs S.length (strV S) := row_only h.cn.s hg.1 fun k q q' => h.cn.os k q' q
  have hr : W1.ownsRow B 50 3 vr R.length (R.flatMap kRules.cs) := row_only h.cn.r hg.1 fun k q q' => h.cn.or k q' q
  have hb : W1.heap[g]? = some (.cells #[.string t, vo, vs, vf, vr] 26 (0, 0)) := (hg.1.block g hglt fun q => h.ap g (.inl q) rfl).trans h.blk
  have hnw : ∀ k, RB3 vo' vs vr k → RB3 vo vs vr k ∨ W.heap.size ≤ k := fun k q => by
    rcases q with q | q
    · exact (new_of hg q).imp_left .inl
    · exact .inl (.inr q)
  have hap : ∀ k, RB3 vo' vs vr k → k ≠ g := fun k q => by
    rcases hnw k q with q | q
    · exact h.ap k q
    · omega
  have c1 : Cn B W1 vo' vs vr O' S R := ⟨ho, hs, hr, fun k q q' => by
      rcases new_of hg q with z | z
      · exact h.cn.os k z q'
      · have := (h.cn.s.lt k q').2; omega, fun k q q' => by
      rcases new_of hg q with z | z
      · exact h.cn.or k z q'
      · have := (h.cn.r.lt k q').2; omega, h.cn.sr⟩
  refine ⟨⟨c1.only (only_set W1 g 1 vo') hap, heap_setCell_same W1 g 1 _ 26 vo' hb, hap⟩, ⟨?_, hnw⟩⟩
  exact ((hg.1.mono fun k _ q => show k = g ∨ RB3 vo vs vr k from .inr (.inl q)).andNew (only_set W1 g 1 vo') fun i _ q => .inl q)
theorem Cf.addS {W1 : World} {vs' : Value} {S' : List ByteArray} (h : Cf B g W t vf vo vs vr O S R) (hg : Grw W W1 vs vs') (hs : W1.ownsRow B 9 1 vs' S'.length (strV S')) :
    Cf B g (W1.setCell ⟨g, 2, none⟩ vs') t vf vo vs' vr O S' R ∧ Cs g W (W1.setCell ⟨g, 2, none⟩ vs') (RB3 vo vs vr) (RB3 vo vs' vr) := by
  have hglt := h.glt
  have ho : W1.ownsRow B 41 2 vo O.length (O.flatMap kOps.cs) := row_only h.cn.o hg.1 fun k q q' => h.cn.os k q q'
  have hr : W1.ownsRow B 50 3 vr R.length (R.flatMap kRules.cs) := row_only h.cn.r hg.1 fun k q q' => h.cn.sr k q' q
  have hb : W1.heap[g]? = some (.cells #[.string t, vo, vs, vf, vr] 26 (0, 0)) := (hg.1.block g hglt fun q => h.ap g (.inr (.inl q)) rfl).trans h.blk
  have hnw : ∀ k, RB3 vo vs' vr k → RB3 vo vs vr k ∨ W.heap.size ≤ k := fun k q => by
    rcases q with q | q | q
    · exact .inl (.inl q)
    · exact (new_of hg q).imp_left fun q => .inr (.inl q)
    · exact .inl (.inr (.inr q))
  have hap : ∀ k, RB3 vo vs' vr k → k ≠ g := fun k q => by
    rcases hnw k q with q | q
    · exact h.ap k q
    · omega
  have c1 : Cn B W1 vo vs' vr O S' R := ⟨ho, hs, hr, fun k q q' => by
      rcases new_of hg q' with z | z
      · exact h.cn.os k q z
      · have := (h.cn.o.lt k q).2; omega, h.cn.or, fun k q q' => by
      rcases new_of hg q with z | z
      · exact h.cn.sr k z q'
      · have := (h.cn.r.lt k q').2; omega⟩
  refine ⟨⟨c1.only (only_set W1 g 2 vs') hap, heap_setCell_same W1 g 2 _ 26 vs' hb, hap⟩, ⟨?_, hnw⟩⟩
  exact ((hg.1.mono fun k _ q => show k = g ∨ RB3 vo vs vr k from .inr (.inr (.inl q))).andNew (only_set W1 g 2 vs') fun i _ q => .inl q)
theorem Cf.addR {W1 : World} {vr' : Value} {R' : List RuT} (h : Cf B g W t vf vo vs vr O S R) (hg : Grw W W1 vr vr') (hr : W1.ownsRow B 50 3 vr' R'.length (R'.flatMap kRules.cs)) :
    Cf B g (W1.setCell ⟨g, 4, none⟩ vr') t vf vo vs vr' O S R' ∧ Cs g W (W1.setCell ⟨g, 4, none⟩ vr') (RB3 vo vs vr) (RB3 vo vs vr') := by
  have hglt := h.glt
  have ho : W1.ownsRow B 41 2 vo O.length (O.flatMap kOps.cs) := row_only h.cn.o hg.1 fun k q q' => h.cn.or k q q'
  have hs : W1.ownsRow B 9 1 vs S.length (strV S) := row_only h.cn.s hg.1 fun k q q' => h.cn.sr k q q'
  have hb : W1.heap[g]? = some (.cells #[.string t, vo, vs, vf, vr] 26 (0, 0)) := (hg.1.block g hglt fun q => h.ap g (.inr (.inr q)) rfl).trans h.blk
  have hnw : ∀ k, RB3 vo vs vr' k → RB3 vo vs vr k ∨ W.heap.size ≤ k := fun k q => by
    rcases q with q | q | q
    · exact .inl (.inl q)
    · exact .inl (.inr (.inl q))
    · exact (new_of hg q).imp_left fun q => .inr (.inr q)
  have hap : ∀ k, RB3 vo vs vr' k → k ≠ g := fun k q => by
    rcases hnw k q with q | q
    · exact h.ap k q
    · omega
  have c1 : Cn B W1 vo vs vr' O S R' := ⟨ho, hs, hr, h.cn.os, fun k q q' => by
      rcases new_of hg q' with z | z
      · exact h.cn.or k q z
      · have := (h.cn.o.lt k q).2; omega, fun k q q' => by
      rcases new_of hg q' with z | z
      · exact h.cn.sr k q z
      · have := (h.cn.s.lt k q).2; omega⟩
  refine ⟨⟨c1.only (only_set W1 g 4 vr') hap, heap_setCell_same W1 g 4 _ 26 vr' hb, hap⟩, ⟨?_, hnw⟩⟩
  exact ((hg.1.mono fun k _ q => show k = g ∨ RB3 vo vs vr k from .inr (.inr (.inr q))).andNew (only_set W1 g 4 vr') fun i _ q => .inl q)
end Go.Proofs.YtmagchclmmphaaaGreatDoor
