import Derived.Test.YtfoahpideglghaaGreatDoorRl
namespace Go.Proofs.YtfoahpideglghaaGreatDoor
open Go.RowKit Go.Maps Go.Shelf
attribute [local go_sem] Oper.semAt_some

/-! ### The set of one place -/
/-- The rests with the sets of one block at hand. -/
structure RsA (w0 : World) (R : Rp) (F : Nat → Nat) (rb blk gs : Nat) (w : World) : Prop where
  rs : RsB w0 R rb (blk : Int) (.slice (some ⟨gs, 0, none⟩) (endB R blk - blk * R.wd + 1) (endB R blk - blk * R.wd + 1)) w
  bk : blk < R.nb
  pt : ∀ j, blk * R.wd ≤ j → j ≤ endB R blk → PtrAt w gs (j - blk * R.wd) R.N (F j)
  la : ∀ k, k < R.nb → PtrAt w R.gl k R.N (F (endB R k))
  gr : ∃ cur, w.heap[gs]? = some (.cells cur 56 (0, 0))
theorem RsA.on {w0 w w' : World} {R : Rp} {F : Nat → Nat} {rb blk gs : Nat} (h : RsA w0 R F rb blk gs w) (d : Below w.heap.size w w') : RsA w0 R F rb blk gs w' :=
  ⟨h.rs.on d, h.bk, fun j h1 h2 => (h.pt j h1 h2).on d, fun k hk => (h.la k hk).on d, by obtain ⟨cur, h1⟩ := h.gr; exact ⟨cur, blk_on h1 d⟩⟩
theorem place_in {R : Rp} {i : Nat} (hw : 1 ≤ R.wd) (hi : i ≤ R.Wd.length) (hn : R.nb = R.Wd.length / R.wd + 1) : i / R.wd < R.nb ∧ i / R.wd * R.wd ≤ i ∧ i ≤ endB R (i / R.wd) ∧ i - i / R.wd * R.wd = i % R.wd ∧ i % R.wd < endB R (i / R.wd) - i / R.wd * R.wd + 1 := by
  have h1 : i / R.wd ≤ R.Wd.length / R.wd := Nat.div_le_div_right hi
  have h2 := Nat.div_add_mod i R.wd
  have h3 := Nat.mod_lt i (show R.wd > 0 by omega)
  rw [Nat.mul_comm] at h2
  unfold endB
  omega
set_option maxRecDepth 100000 in
set_option maxHeartbeats 2000000 in
theorem at_any (w0 w : World) (R : Rp) (F : Nat → Nat) (rb blk gs i : Nat) (ho : Hid (RpOk w0 R F)) (hnb : R.nb = R.Wd.length / R.wd + 1) (ha : Hid (RsA w0 R F rb blk gs w)) (hi : i ≤ R.Wd.length) :
    Calls Tryz.prog 89 #[.pointer (some ⟨rb, 0, none⟩), .int .i64 (i : Int)] w fun e w' => ∃ b g c, e = .returned (.pointer (some ⟨b, 0, none⟩)) ∧ Hid (IsSet w' b g c R.N (F i) ∧ b ≠ g ∧ (∃ blk gs, RsA w0 R F rb blk gs w') ∧ Only w w' (fun q => q = rb)) := by
  have wl := ho.out.wl
  have w1 := ho.out.w1
  have w2 := ho.out.w2
  have HP := hide (place_in w1 hi hnb)
  have y7 : w.cell? ⟨rb, 7, none⟩ = some (.int .i64 (R.wd : Int)) := cell_of ha.out.rs.bx rfl
  have y9 : w.cell? ⟨rb, 9, none⟩ = some (.int .i64 (blk : Int)) := cell_of ha.out.rs.bx rfl
  obtain ⟨q, hq⟩ : ∃ q, i / R.wd = q := ⟨_, rfl⟩
  obtain ⟨r, hr⟩ : ∃ r, i % R.wd = r := ⟨_, rfl⟩
  rw [hq, hr] at HP
  have hdiv : IntKind.i64.wrap ((i : Int) / (R.wd : Int)) = (q : Int) := by
    rw [← Int.natCast_ediv, hq, IntKind.wrap_i64]
    have : q ≤ i := by rw [← hq]; exact Nat.div_le_self _ _
    omega
  have hmod : ((i : Int) % (R.wd : Int)) = (r : Int) := by rw [← Int.natCast_emod, hr]
  have hq4 : q ≤ 4194304 := by have := Nat.div_le_self i R.wd; omega
  have hr4 : r ≤ 4194304 := by have := Nat.mod_le i R.wd; omega
  clear hq hr hnb
  go_enter Tryz.func89, Tryz.ntmps89
  by_cases hqb : q = blk
  · subst hqb
    have qb : ((q : Int) != (q : Int)) = false := by simp
    go_upto_region 4 with fail
    have HR := ha
    have OO : Only w w (fun q => q = rb) := Only.ofBelow (Below.refl _ _)
    have y10 : w.cell? ⟨rb, 10, none⟩ = some (.slice (some ⟨gs, 0, none⟩) (endB R q - q * R.wd + 1) (endB R q - q * R.wd + 1)) := cell_of HR.out.rs.bx rfl
    have y7b : w.cell? ⟨rb, 7, none⟩ = some (.int .i64 (R.wd : Int)) := cell_of HR.out.rs.bx rfl
    obtain ⟨b, g, c, hc, hs, hbg⟩ := HR.out.pt i HP.out.2.1 HP.out.2.2.1
    rw [HP.out.2.2.2.1] at hc
    have r1 : (r : Int) < ((endB R q - q * R.wd + 1 : Nat) : Int) := by have := HP.out.2.2.2.2; omega
    have r0 : (0 : Int) ≤ (r : Int) := by omega
    have HF : Hid (∀ W, Below w.heap.size w W → IsSet W b g c R.N (F i) ∧ b ≠ g ∧ (∃ blk gs, RsA w0 R F rb blk gs W) ∧ Only w W (fun q => q = rb)) := hide (fun W d => ⟨hs.below d, hbg, ⟨q, gs, HR.out.on d⟩, OO.trans (Only.ofBelow d)⟩)
    clear hs
    generalize endB R q - q * R.wd + 1 = LL at y10 r1
    refine wp_region_phase 10 #[true, true, true, true, true, true, true, true, true, true, false, false, false] (by kernel_rfl) (by kernel_rfl) ?_
    simp only [List.take_succ_cons, List.take_zero, List.drop_succ_cons, List.drop_zero]
    repeat (go_big_quiet_step (fail))
    refine wpQuiet_nil ?_
    intro wz hzz
    obtain ⟨nq, rfl⟩ := hzz
    rw [hmod]
    go_wp2_with fail
    refine bodyPost_ret (results_tmp rfl _ _ _) rfl ?_
    exact ⟨b, g, c, rfl, hide (HF.out _ (below_drewN2 (Below.refl _ _) nq))⟩
  · have qb : ((q : Int) != (blk : Int)) = true := by simp; omega
    have TL := load_any w0 w R F rb q blk _ ho (hide ha.out.rs) HP.out.1 (Nat.le_trans HP.out.2.1 hi) (hide (ha.out.la q HP.out.1))
    go_upto_region 4 with (go_at_call 106; refine TL.mono ?_; rintro e wv ⟨rfl, gv, hv⟩)
    have OO := hv.out.2.2.1
    have HR : Hid (RsA w0 R F rb q gv wv) := hide ⟨hv.out.1, HP.out.1, hv.out.2.1, fun k hk => (ha.out.la k hk).other OO ha.out.rs.kind (cell_only OO ha.out.rs.glt ha.out.rs.ne), hv.out.2.2.2⟩
    have y10 : wv.cell? ⟨rb, 10, none⟩ = some (.slice (some ⟨gv, 0, none⟩) (endB R q - q * R.wd + 1) (endB R q - q * R.wd + 1)) := cell_of HR.out.rs.bx rfl
    have y7b : wv.cell? ⟨rb, 7, none⟩ = some (.int .i64 (R.wd : Int)) := cell_of HR.out.rs.bx rfl
    obtain ⟨b, g, c, hc, hs, hbg⟩ := HR.out.pt i HP.out.2.1 HP.out.2.2.1
    rw [HP.out.2.2.2.1] at hc
    have r1 : (r : Int) < ((endB R q - q * R.wd + 1 : Nat) : Int) := by have := HP.out.2.2.2.2; omega
    have r0 : (0 : Int) ≤ (r : Int) := by omega
    have HF : Hid (∀ W, Below wv.heap.size wv W → IsSet W b g c R.N (F i) ∧ b ≠ g ∧ (∃ blk gs, RsA w0 R F rb blk gs W) ∧ Only w W (fun q => q = rb)) := hide (fun W d => ⟨hs.below d, hbg, ⟨q, gv, HR.out.on d⟩, OO.trans (Only.ofBelow d)⟩)
    clear hs
    generalize endB R q - q * R.wd + 1 = LL at y10 r1
    refine wp_region_phase 10 #[true, true, true, true, true, true, true, true, true, true, false, false, false] (by kernel_rfl) (by kernel_rfl) ?_
    simp only [List.take_succ_cons, List.take_zero, List.drop_succ_cons, List.drop_zero]
    repeat (go_big_quiet_step (fail))
    refine wpQuiet_nil ?_
    intro wz hzz
    obtain ⟨nq, rfl⟩ := hzz
    rw [hmod]
    go_wp2_with fail
    refine bodyPost_ret (results_tmp rfl _ _ _) rfl ?_
    exact ⟨b, g, c, rfl, hide (HF.out _ (below_drewN2 (Below.refl _ _) nq))⟩
set_option maxRecDepth 100000 in
set_option maxHeartbeats 2000000 in
/-- The place's set, where its block is at hand. -/
theorem at_here (w0 w : World) (R : Rp) (rb gs b L : Nat) (hb : Hid (RsB w0 R rb 0 (.slice (some ⟨gs, 0, none⟩) (L + 1) (L + 1)) w)) (w1 : 1 ≤ R.wd) (w2 : R.wd ≤ 4096) (hc : w.cell? ⟨gs, 0, none⟩ = some (.pointer (some ⟨b, 0, none⟩))) :
    Calls Tryz.prog 89 #[.pointer (some ⟨rb, 0, none⟩), .int .i64 0] w fun e w' => e = .returned (.pointer (some ⟨b, 0, none⟩)) ∧ ∃ q, w' = w.drewN q := by
  have y7 : w.cell? ⟨rb, 7, none⟩ = some (.int .i64 (R.wd : Int)) := cell_of hb.out.bx rfl
  have y9 : w.cell? ⟨rb, 9, none⟩ = some (.int .i64 0) := cell_of hb.out.bx rfl
  have y10 : w.cell? ⟨rb, 10, none⟩ = some (.slice (some ⟨gs, 0, none⟩) (L + 1) (L + 1)) := cell_of hb.out.bx rfl
  have r1 : (0 : Int) < ((L + 1 : Nat) : Int) := by omega
  go_enter Tryz.func89, Tryz.ntmps89
  go_upto_region 4 with fail
  refine wp_region_phase 10 #[true, true, true, true, true, true, true, true, true, true, false, false, false] (by kernel_rfl) (by kernel_rfl) ?_
  simp only [List.take_succ_cons, List.take_zero, List.drop_succ_cons, List.drop_zero]
  repeat (go_big_quiet_step (fail))
  refine wpQuiet_nil ?_
  intro wz hzz
  obtain ⟨nq, rfl⟩ := hzz
  go_wp2_with fail
  refine bodyPost_ret (results_tmp rfl _ _ _) rfl ?_
  exact ⟨rfl, nq, rfl⟩
end Go.Proofs.YtfoahpideglghaaGreatDoor
