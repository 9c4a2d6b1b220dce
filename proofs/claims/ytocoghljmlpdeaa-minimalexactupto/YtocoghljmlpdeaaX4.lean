import Derived.Test.YtocoghljmlpdeaaQam
namespace Go.Proofs.Ytocoghljmlpdeaa
open Go.RowKit Go.Maps
attribute [local go_sem] Oper.semAt_some
/-! ### Exact -/
set_option maxRecDepth 100000 in
set_option maxHeartbeats 16000000 in
theorem exact_all (w : World) (N M st N2 M2 s2 S T : Int) (aF aN aG aX aW : Option Addr) (cF cN cG cX cW : Nat) (Fi Nx Gi Ex Wd : List Int) (hF : RdN w aF Fi) (hN : RdN w aN Nx) (hG : RdN w aG Gi) (hX : RdN w aX Ex) (bF : Fi.length ≤ 1048576) (bN : Nx.length ≤ 1048576) (bG : Gi.length ≤ 1048576) (bX : Ex.length ≤ 1048576) :
    Calls Try.prog 6 #[.agg #[.int .i64 N, .int .i64 M, .int .i64 st, .slice aF Fi.length cF, .slice aN Nx.length cN, .int .i64 N2, .int .i64 M2, .int .i64 s2, .slice aG Gi.length cG, .slice aX Ex.length cX, .int .i64 S, .int .i64 T, .slice aW Wd.length cW]] w fun e w' => e = .returned (.bool true) ∧ Below w.heap.size w w' := by
  obtain ⟨LC, hLC⟩ : ∃ x, clL N M st Fi Nx = x := ⟨_, rfl⟩
  obtain ⟨EC, hEC⟩ : ∃ x, clE N M st Fi Nx = x := ⟨_, rfl⟩
  obtain ⟨LT, hLT⟩ : ∃ x, tlL N M st Fi Nx S T = x := ⟨_, rfl⟩
  obtain ⟨ET, hET⟩ : ∃ x, tlE N M st Fi Nx S T = x := ⟨_, rfl⟩
  obtain ⟨LW, hLW⟩ : ∃ x, acL N M st Fi Nx = x := ⟨_, rfl⟩
  obtain ⟨EW, hEW⟩ : ∃ x, acE N M st Fi Nx = x := ⟨_, rfl⟩
  obtain ⟨nn, hnn⟩ : ∃ x, mnN N M st Fi Nx = x := ⟨_, rfl⟩
  obtain ⟨mm, hmm⟩ : ∃ x, mnM N M st Fi Nx = x := ⟨_, rfl⟩
  obtain ⟨LF, hLF⟩ : ∃ x, mnFl N M st Fi Nx = x := ⟨_, rfl⟩
  obtain ⟨LX, hLX⟩ : ∃ x, mnXl N M st Fi Nx = x := ⟨_, rfl⟩
  obtain ⟨bb, hbb⟩ : ∃ x, eqB N M st Fi Nx N2 M2 s2 Gi Ex = x := ⟨_, rfl⟩
  obtain ⟨LU, hLU⟩ : ∃ x, eqL N M st Fi Nx N2 M2 s2 Gi Ex = x := ⟨_, rfl⟩
  obtain ⟨EU, hEU⟩ : ∃ x, eqE N M st Fi Nx N2 M2 s2 Gi Ex = x := ⟨_, rfl⟩
  have HBN := hide (show LC.length ≤ 8192 ∧ LW.length ≤ 4096 ∧ (∀ L ∈ LW, L.length ≤ 8192) ∧ LF.length ≤ 1048576 ∧ LX.length ≤ 1048576 from ⟨by rw [← hLC]; exact clL_len _ _ _ _ _, by rw [← hLW]; exact (acL_len _ _ _ _ _).1, by rw [← hLW]; exact (acL_len _ _ _ _ _).2, by rw [← hLF]; exact (mn_len _ _ _ _ _).1, by rw [← hLX]; exact (mn_len _ _ _ _ _).2⟩)
  have UC : Hid (∀ (W : World) (a : Option Addr) (ka : Nat) (b : Option Addr) (kb : Nat), RdN W a Fi → RdN W b Nx → Calls Try.prog 14 #[.agg #[.int .i64 N, .int .i64 M, .int .i64 st, .slice a Fi.length ka, .slice b Nx.length kb]] W (LsA W LC EC)) := hide (fun W a ka b kb h1 h2 => by rw [← hLC, ← hEC]; exact classes_uni W N M st a b Fi.length ka Nx.length kb Fi Nx h1 h2 rfl rfl (by omega) (by omega))
  have VC : Hid (∀ (W : World) (a : Option Addr) (ka : Nat) (b : Option Addr) (kb : Nat), RdN W a Fi → RdN W b Nx → Calls Try.prog 20 #[.agg #[.int .i64 N, .int .i64 M, .int .i64 st, .slice a Fi.length ka, .slice b Nx.length kb]] W (LsA W LC EC)) := hide (fun W a ka b kb h1 h2 => by rw [← hLC, ← hEC]; exact rclasses_uni W N M st a b Fi.length ka Nx.length kb Fi Nx h1 h2 rfl rfl (by omega) (by omega))
  have UT : Hid (∀ (W : World) (a : Option Addr) (ka : Nat) (b : Option Addr) (kb : Nat), RdN W a Fi → RdN W b Nx → Calls Try.prog 15 #[.agg #[.int .i64 N, .int .i64 M, .int .i64 st, .slice a Fi.length ka, .slice b Nx.length kb], .int .i64 S, .int .i64 T] W (LsB W LT ET)) := hide (fun W a ka b kb h1 h2 => by rw [← hLT, ← hET]; exact tell_uni W N M st a b Fi.length ka Nx.length kb Fi Nx h1 h2 rfl rfl (by omega) (by omega) S T)
  have VT : Hid (∀ (W : World) (a : Option Addr) (ka : Nat) (b : Option Addr) (kb : Nat), RdN W a Fi → RdN W b Nx → Calls Try.prog 22 #[.agg #[.int .i64 N, .int .i64 M, .int .i64 st, .slice a Fi.length ka, .slice b Nx.length kb], .int .i64 S, .int .i64 T] W (LsA W LT ET)) := hide (fun W a ka b kb h1 h2 => by rw [← hLT, ← hET]; exact rtell_uni W N M st a b Fi.length ka Nx.length kb Fi Nx h1 h2 rfl rfl (by omega) (by omega) S T)
  have UW : Hid (∀ (W : World) (a : Option Addr) (ka : Nat) (b : Option Addr) (kb : Nat), RdN W a Fi → RdN W b Nx → Calls Try.prog 10 #[.agg #[.int .i64 N, .int .i64 M, .int .i64 st, .slice a Fi.length ka, .slice b Nx.length kb]] W (WsA OwWa W LW EW)) := hide (fun W a ka b kb h1 h2 => by rw [← hLW, ← hEW]; exact access_uni W N M st a b Fi.length ka Nx.length kb Fi Nx h1 h2 rfl rfl (by omega) (by omega))
  have VW : Hid (∀ (W : World) (a : Option Addr) (ka : Nat) (b : Option Addr) (kb : Nat), RdN W a Fi → RdN W b Nx → Calls Try.prog 23 #[.agg #[.int .i64 N, .int .i64 M, .int .i64 st, .slice a Fi.length ka, .slice b Nx.length kb]] W (WsA OwWa W LW EW)) := hide (fun W a ka b kb h1 h2 => by rw [← hLW, ← hEW]; exact raccess_uni W N M st a b Fi.length ka Nx.length kb Fi Nx h1 h2 rfl rfl (by omega) (by omega))
  have UM : Hid (∀ (W : World) (a : Option Addr) (ka : Nat) (b : Option Addr) (kb : Nat), RdN W a Fi → RdN W b Nx → Calls Try.prog 8 #[.agg #[.int .i64 N, .int .i64 M, .int .i64 st, .slice a Fi.length ka, .slice b Nx.length kb]] W (MnU W nn mm LF LX EC)) := hide (fun W a ka b kb h1 h2 => by rw [← hnn, ← hmm, ← hLF, ← hLX, ← hEC]; exact minimal_uni W N M st a b Fi.length ka Nx.length kb Fi Nx h1 h2 rfl rfl (by omega) (by omega))
  have VM : Hid (∀ (W : World) (a : Option Addr) (ka : Nat) (b : Option Addr) (kb : Nat), RdN W a Fi → RdN W b Nx → Calls Try.prog 25 #[.agg #[.int .i64 N, .int .i64 M, .int .i64 st, .slice a Fi.length ka, .slice b Nx.length kb]] W (MnU W nn mm LF LX EC)) := hide (fun W a ka b kb h1 h2 => by rw [← hnn, ← hmm, ← hLF, ← hLX, ← hEC]; exact rminimal_uni W N M st a b Fi.length ka Nx.length kb Fi Nx h1 h2 rfl rfl (by omega) (by omega))
  have UQ : Hid (∀ (W : World) (a : Option Addr) (ka : Nat) (b : Option Addr) (kb : Nat) (c : Option Addr) (kc : Nat) (d : Option Addr) (kd : Nat), RdN W a Fi → RdN W b Nx → RdN W c Gi → RdN W d Ex → Calls Try.prog 18 #[.agg #[.int .i64 N, .int .i64 M, .int .i64 st, .slice a Fi.length ka, .slice b Nx.length kb], .agg #[.int .i64 N2, .int .i64 M2, .int .i64 s2, .slice c Gi.length kc, .slice d Ex.length kd]] W (EqV W bb LU EU)) := hide (fun W a ka b kb c kc d kd h1 h2 h3 h4 => by rw [← hbb, ← hLU, ← hEU]; exact equal_uni W N M st N2 M2 s2 a b c d Fi.length ka Nx.length kb Gi.length kc Ex.length kd Fi Nx Gi Ex h1 h2 h3 h4 rfl rfl rfl rfl (by omega) (by omega) (by omega) (by omega))
  have VQ : Hid (∀ (W : World) (a : Option Addr) (ka : Nat) (b : Option Addr) (kb : Nat) (c : Option Addr) (kc : Nat) (d : Option Addr) (kd : Nat), RdN W a Fi → RdN W b Nx → RdN W c Gi → RdN W d Ex → Calls Try.prog 26 #[.agg #[.int .i64 N, .int .i64 M, .int .i64 st, .slice a Fi.length ka, .slice b Nx.length kb], .agg #[.int .i64 N2, .int .i64 M2, .int .i64 s2, .slice c Gi.length kc, .slice d Ex.length kd]] W (EqU W bb LU EU)) := hide (fun W a ka b kb c kc d kd h1 h2 h3 h4 => by rw [← hbb, ← hLU, ← hEU]; exact requal_uni W N M st N2 M2 s2 a b c d Fi.length ka Nx.length kb Gi.length kc Ex.length kd Fi Nx Gi Ex h1 h2 h3 h4 rfl rfl rfl rfl (by omega) (by omega) (by omega) (by omega))
  clear hLC hEC hLT hET hLW hEW hnn hmm hLF hLX hbb hLU hEU
  have HXX := hide (And.intro hF (And.intro hN (And.intro hG hX)))
  have HBB := hide (And.intro bF (And.intro bN (And.intro bG bX)))
  clear hF hN hG hX bF bN bG bX
  obtain ⟨W0, hW0⟩ : ∃ W, w.alloc (.cells #[.int .i64 N, .int .i64 M, .int .i64 st, .slice aF Fi.length cF, .slice aN Nx.length cN, .int .i64 N2, .int .i64 M2, .int .i64 s2, .slice aG Gi.length cG, .slice aX Ex.length cX, .int .i64 S, .int .i64 T, .slice aW Wd.length cW] 26) = W := ⟨_, rfl⟩
  have HS := hide (show ExS w W0 [(w.heap.size, #[.int .i64 N, .int .i64 M, .int .i64 st, .slice aF Fi.length cF, .slice aN Nx.length cN, .int .i64 N2, .int .i64 M2, .int .i64 s2, .slice aG Gi.length cG, .slice aX Ex.length cX, .int .i64 S, .int .i64 T, .slice aW Wd.length cW], 26)] [] [] [] [] from by
    have z := (ExS.mk (w0 := w) (W := w) (Bx := []) (E1 := []) (E2 := []) (E3 := []) (Rw := []) (fun q hq => by cases hq) (fun x hx => by cases hx) List.Pairwise.nil (fun x hx => by cases hx) (Below.refl _ _)).box #[.int .i64 N, .int .i64 M, .int .i64 st, .slice aF Fi.length cF, .slice aN Nx.length cN, .int .i64 N2, .int .i64 M2, .int .i64 s2, .slice aG Gi.length cG, .slice aX Ex.length cX, .int .i64 S, .int .i64 T, .slice aW Wd.length cW] 26 (by decide)
    rw [hW0] at z
    exact z)
  go_enter Try.func6, Try.ntmps6
  go_upto_region 3 with (go_at_call 7; refine (works_any _).mono ?_; rintro e w1 ⟨rfl, D1⟩; have HS1 := hide (HS.out.on D1); clear D1)
  clear HS
  have HS := HS1
  clear HS1
  have ZZk := (HS.out.b (w.heap.size, #[.int .i64 N, .int .i64 M, .int .i64 st, .slice aF Fi.length cF, .slice aN Nx.length cN, .int .i64 N2, .int .i64 M2, .int .i64 s2, .slice aG Gi.length cG, .slice aX Ex.length cX, .int .i64 S, .int .i64 T, .slice aW Wd.length cW], 26) (by simp)).1
  have k0 : w1.cell? ⟨w.heap.size, 0, none⟩ = some (.int .i64 N) := cell_of ZZk rfl
  have k1 : w1.cell? ⟨w.heap.size, 1, none⟩ = some (.int .i64 M) := cell_of ZZk rfl
  have k2 : w1.cell? ⟨w.heap.size, 2, none⟩ = some (.int .i64 st) := cell_of ZZk rfl
  have k3 : w1.cell? ⟨w.heap.size, 3, none⟩ = some (.slice aF Fi.length cF) := cell_of ZZk rfl
  have k4 : w1.cell? ⟨w.heap.size, 4, none⟩ = some (.slice aN Nx.length cN) := cell_of ZZk rfl
  clear ZZk
  have T9 := twin_any w1 N M st aF aN cF cN Fi Nx (HXX.out.1.on HS.out.d) (HXX.out.2.1.on HS.out.d) (Nat.le_trans HBB.out.1 (by decide)) (Nat.le_trans HBB.out.2.1 (by decide))
  go_upto_region 4 with (go_at_call 9; refine T9.mono ?_; rintro e w2 ⟨gF, kF, gN, kN, rfl, HT, d2⟩; have HD2 := hide d2; clear d2 k0 k1 k2 k3 k4)
  obtain ⟨bd, hbd⟩ : ∃ x, w2.heap.size = x := ⟨_, rfl⟩
  obtain ⟨w3, hw3⟩ : ∃ W, w2.alloc (.cells #[.int .i64 N, .int .i64 M, .int .i64 st, .slice (some ⟨gF, 0, none⟩) Fi.length kF, .slice (some ⟨gN, 0, none⟩) Nx.length kN] 24) = W := ⟨_, rfl⟩
  rw [hbd, hw3]
  have HNED := hide HT.out.ne
  have HWD := hide (show w.heap.size < bd from by have z1 := (Array.getElem?_eq_some_iff.1 (HS.out.b (w.heap.size, #[.int .i64 N, .int .i64 M, .int .i64 st, .slice aF Fi.length cF, .slice aN Nx.length cN, .int .i64 N2, .int .i64 M2, .int .i64 s2, .slice aG Gi.length cG, .slice aX Ex.length cX, .int .i64 S, .int .i64 T, .slice aW Wd.length cW], 26) (by simp)).1).1; have z2 := HD2.out.size; omega)
  have HS2 := hide (by have z := (HS.out.twin HD2.out HT.out).box #[.int .i64 N, .int .i64 M, .int .i64 st, .slice (some ⟨gF, 0, none⟩) Fi.length kF, .slice (some ⟨gN, 0, none⟩) Nx.length kN] 24 (by decide); rw [hw3, hbd] at z; exact z)
  clear HS
  have HS := HS2
  clear HS2 HD2 HT T9 hw3 hbd
  have ZZk := (HS.out.b (w.heap.size, #[.int .i64 N, .int .i64 M, .int .i64 st, .slice aF Fi.length cF, .slice aN Nx.length cN, .int .i64 N2, .int .i64 M2, .int .i64 s2, .slice aG Gi.length cG, .slice aX Ex.length cX, .int .i64 S, .int .i64 T, .slice aW Wd.length cW], 26) (by simp)).1
  have k5 : w3.cell? ⟨w.heap.size, 5, none⟩ = some (.int .i64 N2) := cell_of ZZk rfl
  have k6 : w3.cell? ⟨w.heap.size, 6, none⟩ = some (.int .i64 M2) := cell_of ZZk rfl
  have k7 : w3.cell? ⟨w.heap.size, 7, none⟩ = some (.int .i64 s2) := cell_of ZZk rfl
  have k8 : w3.cell? ⟨w.heap.size, 8, none⟩ = some (.slice aG Gi.length cG) := cell_of ZZk rfl
  have k9 : w3.cell? ⟨w.heap.size, 9, none⟩ = some (.slice aX Ex.length cX) := cell_of ZZk rfl
  clear ZZk
  have T9 := twin_any w3 N2 M2 s2 aG aX cG cX Gi Ex (HXX.out.2.2.1.on HS.out.d) (HXX.out.2.2.2.on HS.out.d) (Nat.le_trans HBB.out.2.2.1 (by decide)) (Nat.le_trans HBB.out.2.2.2 (by decide))
  go_upto_region 5 with (go_at_call 9; refine T9.mono ?_; rintro e w4 ⟨gG, kG, gE, kE, rfl, HT, d2⟩; have HD2 := hide d2; clear d2 k5 k6 k7 k8 k9)
  obtain ⟨be, hbe⟩ : ∃ x, w4.heap.size = x := ⟨_, rfl⟩
  obtain ⟨w5, hw3⟩ : ∃ W, w4.alloc (.cells #[.int .i64 N2, .int .i64 M2, .int .i64 s2, .slice (some ⟨gG, 0, none⟩) Gi.length kG, .slice (some ⟨gE, 0, none⟩) Ex.length kE] 24) = W := ⟨_, rfl⟩
  rw [hbe, hw3]
  have HNEE := hide HT.out.ne
  have HDJ := hide (show gF < gG ∧ gF < gE ∧ gN < gG ∧ gN < gE ∧ bd < be from by have z1 := (HS.out.tw (gF := gF) (kF := kF) (gN := gN) (kN := kN) (Fi := Fi) (Nx := Nx) (by intro x hx; simp [hx])).1.lt.2; have z2 := (HS.out.tw (gF := gF) (kF := kF) (gN := gN) (kN := kN) (Fi := Fi) (Nx := Nx) (by intro x hx; simp [hx])).2.lt.2; have z3 := HT.out.f.lt.1; have z4 := HT.out.n.lt.1; have z5 := (Array.getElem?_eq_some_iff.1 (HS.out.b (bd, #[.int .i64 N, .int .i64 M, .int .i64 st, .slice (some ⟨gF, 0, none⟩) Fi.length kF, .slice (some ⟨gN, 0, none⟩) Nx.length kN], 24) (by simp)).1).1; have z6 := HD2.out.size; omega)
  have HS2 := hide (by have z := (HS.out.twin HD2.out HT.out).box #[.int .i64 N2, .int .i64 M2, .int .i64 s2, .slice (some ⟨gG, 0, none⟩) Gi.length kG, .slice (some ⟨gE, 0, none⟩) Ex.length kE] 24 (by decide); rw [hw3, hbe] at z; exact z)
  clear HS
  have HS := HS2
  clear HS2 HD2 HT T9 hw3 hbe
  have ZZk := (HS.out.b (bd, #[.int .i64 N, .int .i64 M, .int .i64 st, .slice (some ⟨gF, 0, none⟩) Fi.length kF, .slice (some ⟨gN, 0, none⟩) Nx.length kN], 24) (by simp)).1
  have k0 : w5.cell? ⟨bd, 0, none⟩ = some (.int .i64 N) := cell_of ZZk rfl
  have k1 : w5.cell? ⟨bd, 1, none⟩ = some (.int .i64 M) := cell_of ZZk rfl
  have k2 : w5.cell? ⟨bd, 2, none⟩ = some (.int .i64 st) := cell_of ZZk rfl
  have k3 : w5.cell? ⟨bd, 3, none⟩ = some (.slice (some ⟨gF, 0, none⟩) Fi.length kF) := cell_of ZZk rfl
  have k4 : w5.cell? ⟨bd, 4, none⟩ = some (.slice (some ⟨gN, 0, none⟩) Nx.length kN) := cell_of ZZk rfl
  clear ZZk
  have TC := UC.out w5 (some ⟨gF, 0, none⟩) kF (some ⟨gN, 0, none⟩) kN (HS.out.tw (gF := gF) (kF := kF) (gN := gN) (kN := kN) (Fi := Fi) (Nx := Nx) (by intro x hx; simp [hx])).1.rd (HS.out.tw (gF := gF) (kF := kF) (gN := gN) (kN := kN) (Fi := Fi) (Nx := Nx) (by intro x hx; simp [hx])).2.rd
  go_upto_region 6 with (go_at_call 14; refine TC.mono ?_; rintro e w6 ⟨ba, na, ca, rfl, HA⟩; clear k0 k1 k2 k3 k4)
  have HS2 := hide (HS.out.put1 HA.out.2 (L := [(.slice ba na ca, LC)]) (fun x hx => by obtain rfl := List.mem_singleton.1 hx; exact HA.out.1) (by simp))
  clear HS
  have HS := HS2
  clear HS2 HA TC
  have ZZk := (HS.out.b (w.heap.size, #[.int .i64 N, .int .i64 M, .int .i64 st, .slice aF Fi.length cF, .slice aN Nx.length cN, .int .i64 N2, .int .i64 M2, .int .i64 s2, .slice aG Gi.length cG, .slice aX Ex.length cX, .int .i64 S, .int .i64 T, .slice aW Wd.length cW], 26) (by simp)).1
  have k0 : w6.cell? ⟨w.heap.size, 0, none⟩ = some (.int .i64 N) := cell_of ZZk rfl
  have k1 : w6.cell? ⟨w.heap.size, 1, none⟩ = some (.int .i64 M) := cell_of ZZk rfl
  have k2 : w6.cell? ⟨w.heap.size, 2, none⟩ = some (.int .i64 st) := cell_of ZZk rfl
  have k3 : w6.cell? ⟨w.heap.size, 3, none⟩ = some (.slice aF Fi.length cF) := cell_of ZZk rfl
  have k4 : w6.cell? ⟨w.heap.size, 4, none⟩ = some (.slice aN Nx.length cN) := cell_of ZZk rfl
  clear ZZk
  have TC := VC.out w6 aF cF aN cN (HXX.out.1.on HS.out.d) (HXX.out.2.1.on HS.out.d)
  go_upto_region 7 with (go_at_call 20; refine TC.mono ?_; rintro e w7 ⟨bb1, nb1, cb1, rfl, HA⟩; clear k0 k1 k2 k3 k4)
  have HS2 := hide (HS.out.put3 HA.out.2 (L := [(.slice bb1 nb1 cb1, LC)]) (fun x hx => by obtain rfl := List.mem_singleton.1 hx; exact HA.out.1) (by simp))
  clear HS
  have HS := HS2
  clear HS2 HA TC
  have TC := sameInts_any w7 ba bb1 na ca nb1 cb1 LC LC (owI_rd (HS.out.e (.slice ba na ca, LC) (by simp))).2 (owI_rd (HS.out.e (.slice bb1 nb1 cb1, LC) (by simp))).2 (owI_rd (HS.out.e (.slice ba na ca, LC) (by simp))).1.symm (owI_rd (HS.out.e (.slice bb1 nb1 cb1, LC) (by simp))).1.symm (by rw [(owI_rd (HS.out.e (.slice ba na ca, LC) (by simp))).1]; exact Nat.le_trans HBN.out.1 (by decide)) (by rw [(owI_rd (HS.out.e (.slice bb1 nb1 cb1, LC) (by simp))).1]; exact Nat.le_trans HBN.out.1 (by decide))
  rw [decide_eq_true rfl] at TC
  go_upto_region 9 with (go_at_call 21; refine TC.mono ?_; rintro e w8 ⟨rfl, DC⟩; have HS2 := hide (HS.out.on DC); clear DC)
  clear HS
  have HS := HS2
  clear HS2 TC
  have ZZk := (HS.out.b (bd, #[.int .i64 N, .int .i64 M, .int .i64 st, .slice (some ⟨gF, 0, none⟩) Fi.length kF, .slice (some ⟨gN, 0, none⟩) Nx.length kN], 24) (by simp)).1
  have k0 : w8.cell? ⟨bd, 0, none⟩ = some (.int .i64 N) := cell_of ZZk rfl
  have k1 : w8.cell? ⟨bd, 1, none⟩ = some (.int .i64 M) := cell_of ZZk rfl
  have k2 : w8.cell? ⟨bd, 2, none⟩ = some (.int .i64 st) := cell_of ZZk rfl
  have k3 : w8.cell? ⟨bd, 3, none⟩ = some (.slice (some ⟨gF, 0, none⟩) Fi.length kF) := cell_of ZZk rfl
  have k4 : w8.cell? ⟨bd, 4, none⟩ = some (.slice (some ⟨gN, 0, none⟩) Nx.length kN) := cell_of ZZk rfl
  clear ZZk
  have ZZx := (HS.out.b (w.heap.size, #[.int .i64 N, .int .i64 M, .int .i64 st, .slice aF Fi.length cF, .slice aN Nx.length cN, .int .i64 N2, .int .i64 M2, .int .i64 s2, .slice aG Gi.length cG, .slice aX Ex.length cX, .int .i64 S, .int .i64 T, .slice aW Wd.length cW], 26) (by simp)).1
  have x10 : w8.cell? ⟨w.heap.size, 10, none⟩ = some (.int .i64 S) := cell_of ZZx rfl
  have x11 : w8.cell? ⟨w.heap.size, 11, none⟩ = some (.int .i64 T) := cell_of ZZx rfl
  clear ZZx
  have TC := UT.out w8 (some ⟨gF, 0, none⟩) kF (some ⟨gN, 0, none⟩) kN (HS.out.tw (gF := gF) (kF := kF) (gN := gN) (kN := kN) (Fi := Fi) (Nx := Nx) (by intro x hx; simp [hx])).1.rd (HS.out.tw (gF := gF) (kF := kF) (gN := gN) (kN := kN) (Fi := Fi) (Nx := Nx) (by intro x hx; simp [hx])).2.rd
  go_upto_region 10 with (go_at_call 15; refine TC.mono ?_; rintro e w9 ⟨bc, nc, cc, rfl, HA⟩; clear k0 k1 k2 k3 k4 x10 x11)
  have HS2 := hide (HS.out.put1 HA.out.2.1 (L := [(.slice bc nc cc, LT)]) (fun x hx => by obtain rfl := List.mem_singleton.1 hx; exact HA.out.1) (by simp))
  clear HS
  have HS := HS2
  have HLLT := hide HA.out.2.2
  clear HS2 HA TC
  have ZZk := (HS.out.b (w.heap.size, #[.int .i64 N, .int .i64 M, .int .i64 st, .slice aF Fi.length cF, .slice aN Nx.length cN, .int .i64 N2, .int .i64 M2, .int .i64 s2, .slice aG Gi.length cG, .slice aX Ex.length cX, .int .i64 S, .int .i64 T, .slice aW Wd.length cW], 26) (by simp)).1
  have k0 : w9.cell? ⟨w.heap.size, 0, none⟩ = some (.int .i64 N) := cell_of ZZk rfl
  have k1 : w9.cell? ⟨w.heap.size, 1, none⟩ = some (.int .i64 M) := cell_of ZZk rfl
  have k2 : w9.cell? ⟨w.heap.size, 2, none⟩ = some (.int .i64 st) := cell_of ZZk rfl
  have k3 : w9.cell? ⟨w.heap.size, 3, none⟩ = some (.slice aF Fi.length cF) := cell_of ZZk rfl
  have k4 : w9.cell? ⟨w.heap.size, 4, none⟩ = some (.slice aN Nx.length cN) := cell_of ZZk rfl
  have k10 : w9.cell? ⟨w.heap.size, 10, none⟩ = some (.int .i64 S) := cell_of ZZk rfl
  have k11 : w9.cell? ⟨w.heap.size, 11, none⟩ = some (.int .i64 T) := cell_of ZZk rfl
  clear ZZk
  have TC := VT.out w9 aF cF aN cN (HXX.out.1.on HS.out.d) (HXX.out.2.1.on HS.out.d)
  go_upto_region 11 with (go_at_call 22; refine TC.mono ?_; rintro e w10 ⟨bh, nh, ch, rfl, HA⟩; clear k0 k1 k2 k3 k4 k10 k11)
  have HS2 := hide (HS.out.put3 HA.out.2 (L := [(.slice bh nh ch, LT)]) (fun x hx => by obtain rfl := List.mem_singleton.1 hx; exact HA.out.1) (by simp))
  clear HS
  have HS := HS2
  clear HS2 HA TC
  have TC := sameInts_any w10 bc bh nc cc nh ch LT LT (owI_rd (HS.out.e (.slice bc nc cc, LT) (by simp))).2 (owI_rd (HS.out.e (.slice bh nh ch, LT) (by simp))).2 (owI_rd (HS.out.e (.slice bc nc cc, LT) (by simp))).1.symm (owI_rd (HS.out.e (.slice bh nh ch, LT) (by simp))).1.symm (by rw [(owI_rd (HS.out.e (.slice bc nc cc, LT) (by simp))).1]; exact Nat.le_trans HLLT.out (by decide)) (by rw [(owI_rd (HS.out.e (.slice bh nh ch, LT) (by simp))).1]; exact Nat.le_trans HLLT.out (by decide))
  rw [decide_eq_true rfl] at TC
  go_upto_region 13 with (go_at_call 21; refine TC.mono ?_; rintro e w11 ⟨rfl, DC⟩; have HS2 := hide (HS.out.on DC); clear DC)
  clear HS
  have HS := HS2
  clear HS2 TC
  have ZZk := (HS.out.b (bd, #[.int .i64 N, .int .i64 M, .int .i64 st, .slice (some ⟨gF, 0, none⟩) Fi.length kF, .slice (some ⟨gN, 0, none⟩) Nx.length kN], 24) (by simp)).1
  have k0 : w11.cell? ⟨bd, 0, none⟩ = some (.int .i64 N) := cell_of ZZk rfl
  have k1 : w11.cell? ⟨bd, 1, none⟩ = some (.int .i64 M) := cell_of ZZk rfl
  have k2 : w11.cell? ⟨bd, 2, none⟩ = some (.int .i64 st) := cell_of ZZk rfl
  have k3 : w11.cell? ⟨bd, 3, none⟩ = some (.slice (some ⟨gF, 0, none⟩) Fi.length kF) := cell_of ZZk rfl
  have k4 : w11.cell? ⟨bd, 4, none⟩ = some (.slice (some ⟨gN, 0, none⟩) Nx.length kN) := cell_of ZZk rfl
  clear ZZk
  have TC := UW.out w11 (some ⟨gF, 0, none⟩) kF (some ⟨gN, 0, none⟩) kN (HS.out.tw (gF := gF) (kF := kF) (gN := gN) (kN := kN) (Fi := Fi) (Nx := Nx) (by intro x hx; simp [hx])).1.rd (HS.out.tw (gF := gF) (kF := kF) (gN := gN) (kN := kN) (Fi := Fi) (Nx := Nx) (by intro x hx; simp [hx])).2.rd
  go_upto_region 14 with (go_at_call 10; refine TC.mono ?_; rintro e w12 ⟨bw, cw, rfl, HA⟩; clear k0 k1 k2 k3 k4)
  obtain ⟨vs, z1, hlvs, z3, z4⟩ := zip_own HA.out.1
  have HS2 := hide ((HS.out.put1 HA.out.2 (L := vs.zip LW) z3 z4).rows (owns_down z1 HS.out.d.size))
  clear HS
  have HS := HS2
  have HVvs := hide hlvs
  clear HS2 HA TC z1 z3 z4 hlvs
  have ZZk := (HS.out.b (w.heap.size, #[.int .i64 N, .int .i64 M, .int .i64 st, .slice aF Fi.length cF, .slice aN Nx.length cN, .int .i64 N2, .int .i64 M2, .int .i64 s2, .slice aG Gi.length cG, .slice aX Ex.length cX, .int .i64 S, .int .i64 T, .slice aW Wd.length cW], 26) (by simp)).1
  have k0 : w12.cell? ⟨w.heap.size, 0, none⟩ = some (.int .i64 N) := cell_of ZZk rfl
  have k1 : w12.cell? ⟨w.heap.size, 1, none⟩ = some (.int .i64 M) := cell_of ZZk rfl
  have k2 : w12.cell? ⟨w.heap.size, 2, none⟩ = some (.int .i64 st) := cell_of ZZk rfl
  have k3 : w12.cell? ⟨w.heap.size, 3, none⟩ = some (.slice aF Fi.length cF) := cell_of ZZk rfl
  have k4 : w12.cell? ⟨w.heap.size, 4, none⟩ = some (.slice aN Nx.length cN) := cell_of ZZk rfl
  clear ZZk
  have TC := VW.out w12 aF cF aN cN (HXX.out.1.on HS.out.d) (HXX.out.2.1.on HS.out.d)
  go_upto_region 15 with (go_at_call 23; refine TC.mono ?_; rintro e w13 ⟨bv, cv, rfl, HA⟩; clear k0 k1 k2 k3 k4)
  obtain ⟨us, z1, hlus, z3, z4⟩ := zip_own HA.out.1
  have HS2 := hide ((HS.out.put3 HA.out.2 (L := us.zip LW) z3 z4).rows (owns_down z1 HS.out.d.size))
  clear HS
  have HS := HS2
  have HVus := hide hlus
  clear HS2 HA TC z1 z3 z4 hlus
  have TC := sameWords_yes w13 w.heap.size w.heap.size bw bv LW.length cw LW.length cv LW (ws_of HS.out (v := .slice bw LW.length cw) (vs := vs) (by simp) HVvs.out (fun x hx => by simp [hx])) (ws_of HS.out (v := .slice bv LW.length cv) (vs := us) (by simp) HVus.out (fun x hx => by simp [hx])) rfl rfl (Nat.le_trans HBN.out.2.1 (by decide)) (fun L hL => Nat.le_trans (HBN.out.2.2.1 L hL) (by decide))
  go_upto_region 17 with (go_at_call 24; refine TC.mono ?_; rintro e w14 ⟨rfl, DC⟩; have HS2 := hide (HS.out.on DC); clear DC)
  clear HS
  have HS := HS2
  clear HS2 TC
  have ZZk := (HS.out.b (bd, #[.int .i64 N, .int .i64 M, .int .i64 st, .slice (some ⟨gF, 0, none⟩) Fi.length kF, .slice (some ⟨gN, 0, none⟩) Nx.length kN], 24) (by simp)).1
  have k0 : w14.cell? ⟨bd, 0, none⟩ = some (.int .i64 N) := cell_of ZZk rfl
  have k1 : w14.cell? ⟨bd, 1, none⟩ = some (.int .i64 M) := cell_of ZZk rfl
  have k2 : w14.cell? ⟨bd, 2, none⟩ = some (.int .i64 st) := cell_of ZZk rfl
  have k3 : w14.cell? ⟨bd, 3, none⟩ = some (.slice (some ⟨gF, 0, none⟩) Fi.length kF) := cell_of ZZk rfl
  have k4 : w14.cell? ⟨bd, 4, none⟩ = some (.slice (some ⟨gN, 0, none⟩) Nx.length kN) := cell_of ZZk rfl
  clear ZZk
  have TC := UM.out w14 (some ⟨gF, 0, none⟩) kF (some ⟨gN, 0, none⟩) kN (HS.out.tw (gF := gF) (kF := kF) (gN := gN) (kN := kN) (Fi := Fi) (Nx := Nx) (by intro x hx; simp [hx])).1.rd (HS.out.tw (gF := gF) (kF := kF) (gN := gN) (kN := kN) (Fi := Fi) (Nx := Nx) (by intro x hx; simp [hx])).2.rd
  go_upto_region 18 with (go_at_call 8; refine TC.mono ?_; rintro e w15 ⟨f1, g1, f2, g2, rfl, HA⟩; clear k0 k1 k2 k3 k4)
  obtain ⟨bm, hbm⟩ : ∃ x, w15.heap.size = x := ⟨_, rfl⟩
  obtain ⟨w16, hw3⟩ : ∃ W, w15.alloc (.cells #[.int .i64 nn, .int .i64 mm, .int .i64 0, .slice f1 LF.length g1, .slice f2 LX.length g2] 24) = W := ⟨_, rfl⟩
  rw [hbm, hw3]
  have HObm := hide (show be < bm from by have z1 := (Array.getElem?_eq_some_iff.1 (HS.out.b (be, #[.int .i64 N2, .int .i64 M2, .int .i64 s2, .slice (some ⟨gG, 0, none⟩) Gi.length kG, .slice (some ⟨gE, 0, none⟩) Ex.length kE], 24) (by simp)).1).1; have z2 := HA.out.2.2.2.size; omega)
  have HS2 := hide (by have z := (HS.out.put1 HA.out.2.2.2 (L := [(.slice f1 LF.length g1, LF), (.slice f2 LX.length g2, LX)]) (fun x hx => by rcases List.mem_cons.1 hx with e | hx; (subst e; exact HA.out.1); (obtain rfl := List.mem_singleton.1 hx; exact HA.out.2.1)) (List.pairwise_cons.2 ⟨fun x hx => by obtain rfl := List.mem_singleton.1 hx; exact HA.out.2.2.1, by simp⟩)).box #[.int .i64 nn, .int .i64 mm, .int .i64 0, .slice f1 LF.length g1, .slice f2 LX.length g2] 24 (by decide); rw [hw3, hbm] at z; exact z)
  clear HS
  have HS := HS2
  clear HS2 HA TC hw3 hbm
  have ZZk := (HS.out.b (w.heap.size, #[.int .i64 N, .int .i64 M, .int .i64 st, .slice aF Fi.length cF, .slice aN Nx.length cN, .int .i64 N2, .int .i64 M2, .int .i64 s2, .slice aG Gi.length cG, .slice aX Ex.length cX, .int .i64 S, .int .i64 T, .slice aW Wd.length cW], 26) (by simp)).1
  have k0 : w16.cell? ⟨w.heap.size, 0, none⟩ = some (.int .i64 N) := cell_of ZZk rfl
  have k1 : w16.cell? ⟨w.heap.size, 1, none⟩ = some (.int .i64 M) := cell_of ZZk rfl
  have k2 : w16.cell? ⟨w.heap.size, 2, none⟩ = some (.int .i64 st) := cell_of ZZk rfl
  have k3 : w16.cell? ⟨w.heap.size, 3, none⟩ = some (.slice aF Fi.length cF) := cell_of ZZk rfl
  have k4 : w16.cell? ⟨w.heap.size, 4, none⟩ = some (.slice aN Nx.length cN) := cell_of ZZk rfl
  clear ZZk
  have TC := VM.out w16 aF cF aN cN (HXX.out.1.on HS.out.d) (HXX.out.2.1.on HS.out.d)
  go_upto_region 19 with (go_at_call 25; refine TC.mono ?_; rintro e w17 ⟨f3, g3, f4, g4, rfl, HA⟩; clear k0 k1 k2 k3 k4)
  obtain ⟨bn, hbn⟩ : ∃ x, w17.heap.size = x := ⟨_, rfl⟩
  obtain ⟨w18, hw3⟩ : ∃ W, w17.alloc (.cells #[.int .i64 nn, .int .i64 mm, .int .i64 0, .slice f3 LF.length g3, .slice f4 LX.length g4] 24) = W := ⟨_, rfl⟩
  rw [hbn, hw3]
  have HObn := hide (show bm < bn from by have z1 := (Array.getElem?_eq_some_iff.1 (HS.out.b (bm, #[.int .i64 nn, .int .i64 mm, .int .i64 0, .slice f1 LF.length g1, .slice f2 LX.length g2], 24) (by simp)).1).1; have z2 := HA.out.2.2.2.size; omega)
  have HS2 := hide (by have z := (HS.out.put3 HA.out.2.2.2 (L := [(.slice f3 LF.length g3, LF), (.slice f4 LX.length g4, LX)]) (fun x hx => by rcases List.mem_cons.1 hx with e | hx; (subst e; exact HA.out.1); (obtain rfl := List.mem_singleton.1 hx; exact HA.out.2.1)) (List.pairwise_cons.2 ⟨fun x hx => by obtain rfl := List.mem_singleton.1 hx; exact HA.out.2.2.1, by simp⟩)).box #[.int .i64 nn, .int .i64 mm, .int .i64 0, .slice f3 LF.length g3, .slice f4 LX.length g4] 24 (by decide); rw [hw3, hbn] at z; exact z)
  clear HS
  have HS := HS2
  clear HS2 HA TC hw3 hbn
  have ZZk := (HS.out.b (bm, #[.int .i64 nn, .int .i64 mm, .int .i64 0, .slice f1 LF.length g1, .slice f2 LX.length g2], 24) (by simp)).1
  have k0 : w18.cell? ⟨bm, 0, none⟩ = some (.int .i64 nn) := cell_of ZZk rfl
  have k1 : w18.cell? ⟨bm, 1, none⟩ = some (.int .i64 mm) := cell_of ZZk rfl
  have k2 : w18.cell? ⟨bm, 2, none⟩ = some (.int .i64 0) := cell_of ZZk rfl
  have k3 : w18.cell? ⟨bm, 3, none⟩ = some (.slice f1 LF.length g1) := cell_of ZZk rfl
  have k4 : w18.cell? ⟨bm, 4, none⟩ = some (.slice f2 LX.length g2) := cell_of ZZk rfl
  clear ZZk
  have ZZx := (HS.out.b (bn, #[.int .i64 nn, .int .i64 mm, .int .i64 0, .slice f3 LF.length g3, .slice f4 LX.length g4], 24) (by simp)).1
  have x0 : w18.cell? ⟨bn, 0, none⟩ = some (.int .i64 nn) := cell_of ZZx rfl
  have x1 : w18.cell? ⟨bn, 1, none⟩ = some (.int .i64 mm) := cell_of ZZx rfl
  have x2 : w18.cell? ⟨bn, 2, none⟩ = some (.int .i64 0) := cell_of ZZx rfl
  have x3 : w18.cell? ⟨bn, 3, none⟩ = some (.slice f3 LF.length g3) := cell_of ZZx rfl
  have x4 : w18.cell? ⟨bn, 4, none⟩ = some (.slice f4 LX.length g4) := cell_of ZZx rfl
  clear ZZx
  have TC := same_any w18 nn mm 0 nn mm 0 f1 f2 f3 f4 LF.length g1 LX.length g2 LF.length g3 LX.length g4 LF LX LF LX (owI_rd (HS.out.e (.slice f1 LF.length g1, LF) (by simp))).2 (owI_rd (HS.out.e (.slice f2 LX.length g2, LX) (by simp))).2 (owI_rd (HS.out.e (.slice f3 LF.length g3, LF) (by simp))).2 (owI_rd (HS.out.e (.slice f4 LX.length g4, LX) (by simp))).2 rfl rfl rfl rfl (Nat.le_trans HBN.out.2.2.2.1 (by decide)) (Nat.le_trans HBN.out.2.2.2.2 (by decide)) (Nat.le_trans HBN.out.2.2.2.1 (by decide)) (Nat.le_trans HBN.out.2.2.2.2 (by decide))
  rw [decide_eq_true ⟨rfl, rfl, rfl, rfl, rfl⟩] at TC
  go_upto_region 21 with (go_at_call 19; refine TC.mono ?_; rintro e w19 ⟨rfl, DC⟩; have HS2 := hide (HS.out.on DC); clear DC k0 k1 k2 k3 k4 x0 x1 x2 x3 x4)
  clear HS
  have HS := HS2
  clear HS2 TC
  have ZZk := (HS.out.b (bd, #[.int .i64 N, .int .i64 M, .int .i64 st, .slice (some ⟨gF, 0, none⟩) Fi.length kF, .slice (some ⟨gN, 0, none⟩) Nx.length kN], 24) (by simp)).1
  have k0 : w19.cell? ⟨bd, 0, none⟩ = some (.int .i64 N) := cell_of ZZk rfl
  have k1 : w19.cell? ⟨bd, 1, none⟩ = some (.int .i64 M) := cell_of ZZk rfl
  have k2 : w19.cell? ⟨bd, 2, none⟩ = some (.int .i64 st) := cell_of ZZk rfl
  have k3 : w19.cell? ⟨bd, 3, none⟩ = some (.slice (some ⟨gF, 0, none⟩) Fi.length kF) := cell_of ZZk rfl
  have k4 : w19.cell? ⟨bd, 4, none⟩ = some (.slice (some ⟨gN, 0, none⟩) Nx.length kN) := cell_of ZZk rfl
  clear ZZk
  have ZZx := (HS.out.b (be, #[.int .i64 N2, .int .i64 M2, .int .i64 s2, .slice (some ⟨gG, 0, none⟩) Gi.length kG, .slice (some ⟨gE, 0, none⟩) Ex.length kE], 24) (by simp)).1
  have x0 : w19.cell? ⟨be, 0, none⟩ = some (.int .i64 N2) := cell_of ZZx rfl
  have x1 : w19.cell? ⟨be, 1, none⟩ = some (.int .i64 M2) := cell_of ZZx rfl
  have x2 : w19.cell? ⟨be, 2, none⟩ = some (.int .i64 s2) := cell_of ZZx rfl
  have x3 : w19.cell? ⟨be, 3, none⟩ = some (.slice (some ⟨gG, 0, none⟩) Gi.length kG) := cell_of ZZx rfl
  have x4 : w19.cell? ⟨be, 4, none⟩ = some (.slice (some ⟨gE, 0, none⟩) Ex.length kE) := cell_of ZZx rfl
  clear ZZx
  have TC := UQ.out w19 (some ⟨gF, 0, none⟩) kF (some ⟨gN, 0, none⟩) kN (some ⟨gG, 0, none⟩) kG (some ⟨gE, 0, none⟩) kE (HS.out.tw (gF := gF) (kF := kF) (gN := gN) (kN := kN) (Fi := Fi) (Nx := Nx) (by intro x hx; simp [hx])).1.rd (HS.out.tw (gF := gF) (kF := kF) (gN := gN) (kN := kN) (Fi := Fi) (Nx := Nx) (by intro x hx; simp [hx])).2.rd (HS.out.tw (gF := gG) (kF := kG) (gN := gE) (kN := kE) (Fi := Gi) (Nx := Ex) (by intro x hx; simp [hx])).1.rd (HS.out.tw (gF := gG) (kF := kG) (gN := gE) (kN := kE) (Fi := Gi) (Nx := Ex) (by intro x hx; simp [hx])).2.rd
  go_upto_region 22 with (go_at_call 18; refine TC.mono ?_; rintro e w20 ⟨bu, nu, cu, rfl, HA⟩; clear k0 k1 k2 k3 k4 x0 x1 x2 x3 x4)
  have HS2 := hide (HS.out.put1 HA.out.2.1 (L := [(.slice bu nu cu, LU)]) (fun x hx => by obtain rfl := List.mem_singleton.1 hx; exact HA.out.1) (by simp))
  clear HS
  have HS := HS2
  have HLLU := hide HA.out.2.2
  clear HS2 HA TC
  have ZZk := (HS.out.b (w.heap.size, #[.int .i64 N, .int .i64 M, .int .i64 st, .slice aF Fi.length cF, .slice aN Nx.length cN, .int .i64 N2, .int .i64 M2, .int .i64 s2, .slice aG Gi.length cG, .slice aX Ex.length cX, .int .i64 S, .int .i64 T, .slice aW Wd.length cW], 26) (by simp)).1
  have k0 : w20.cell? ⟨w.heap.size, 0, none⟩ = some (.int .i64 N) := cell_of ZZk rfl
  have k1 : w20.cell? ⟨w.heap.size, 1, none⟩ = some (.int .i64 M) := cell_of ZZk rfl
  have k2 : w20.cell? ⟨w.heap.size, 2, none⟩ = some (.int .i64 st) := cell_of ZZk rfl
  have k3 : w20.cell? ⟨w.heap.size, 3, none⟩ = some (.slice aF Fi.length cF) := cell_of ZZk rfl
  have k4 : w20.cell? ⟨w.heap.size, 4, none⟩ = some (.slice aN Nx.length cN) := cell_of ZZk rfl
  have k5 : w20.cell? ⟨w.heap.size, 5, none⟩ = some (.int .i64 N2) := cell_of ZZk rfl
  have k6 : w20.cell? ⟨w.heap.size, 6, none⟩ = some (.int .i64 M2) := cell_of ZZk rfl
  have k7 : w20.cell? ⟨w.heap.size, 7, none⟩ = some (.int .i64 s2) := cell_of ZZk rfl
  have k8 : w20.cell? ⟨w.heap.size, 8, none⟩ = some (.slice aG Gi.length cG) := cell_of ZZk rfl
  have k9 : w20.cell? ⟨w.heap.size, 9, none⟩ = some (.slice aX Ex.length cX) := cell_of ZZk rfl
  clear ZZk
  have TC := VQ.out w20 aF cF aN cN aG cG aX cX (HXX.out.1.on HS.out.d) (HXX.out.2.1.on HS.out.d) (HXX.out.2.2.1.on HS.out.d) (HXX.out.2.2.2.on HS.out.d)
  go_upto_region 23 with (go_at_call 26; refine TC.mono ?_; rintro e w21 ⟨bt, nt, ct, rfl, HA⟩; clear k0 k1 k2 k3 k4 k5 k6 k7 k8 k9)
  have HS2 := hide (HS.out.put3 HA.out.2 (L := [(.slice bt nt ct, LU)]) (fun x hx => by obtain rfl := List.mem_singleton.1 hx; exact HA.out.1) (by simp))
  clear HS
  have HS := HS2
  clear HS2 HA TC
  have hb9 : (bb == bb) = true := by simp
  have TC := sameInts_any w21 bu bt nu cu nt ct LU LU (owI_rd (HS.out.e (.slice bu nu cu, LU) (by simp))).2 (owI_rd (HS.out.e (.slice bt nt ct, LU) (by simp))).2 (owI_rd (HS.out.e (.slice bu nu cu, LU) (by simp))).1.symm (owI_rd (HS.out.e (.slice bt nt ct, LU) (by simp))).1.symm (by rw [(owI_rd (HS.out.e (.slice bu nu cu, LU) (by simp))).1]; exact Nat.le_trans HLLU.out (by decide)) (by rw [(owI_rd (HS.out.e (.slice bt nt ct, LU) (by simp))).1]; exact Nat.le_trans HLLU.out (by decide))
  rw [decide_eq_true rfl] at TC
  go_upto_region 25 with (go_at_call 21; refine TC.mono ?_; rintro e w22 ⟨rfl, DC⟩; have HS2 := hide (HS.out.on DC); clear DC)
  clear HS
  have HS := HS2
  clear HS2 TC
  clear hb9
  have ZZk := (HS.out.b (bd, #[.int .i64 N, .int .i64 M, .int .i64 st, .slice (some ⟨gF, 0, none⟩) Fi.length kF, .slice (some ⟨gN, 0, none⟩) Nx.length kN], 24) (by simp)).1
  have k0 : w22.cell? ⟨bd, 0, none⟩ = some (.int .i64 N) := cell_of ZZk rfl
  have k1 : w22.cell? ⟨bd, 1, none⟩ = some (.int .i64 M) := cell_of ZZk rfl
  have k2 : w22.cell? ⟨bd, 2, none⟩ = some (.int .i64 st) := cell_of ZZk rfl
  have k3 : w22.cell? ⟨bd, 3, none⟩ = some (.slice (some ⟨gF, 0, none⟩) Fi.length kF) := cell_of ZZk rfl
  have k4 : w22.cell? ⟨bd, 4, none⟩ = some (.slice (some ⟨gN, 0, none⟩) Nx.length kN) := cell_of ZZk rfl
  clear ZZk
  have TC := UC.out w22 (some ⟨gF, 0, none⟩) kF (some ⟨gN, 0, none⟩) kN (HS.out.tw (gF := gF) (kF := kF) (gN := gN) (kN := kN) (Fi := Fi) (Nx := Nx) (by intro x hx; simp [hx])).1.rd (HS.out.tw (gF := gF) (kF := kF) (gN := gN) (kN := kN) (Fi := Fi) (Nx := Nx) (by intro x hx; simp [hx])).2.rd
  go_upto_region 26 with (go_at_call 14; refine TC.mono ?_; rintro e w23 ⟨bp, np, cp, rfl, HA⟩; clear k0 k1 k2 k3 k4)
  have HS2 := hide (HS.out.put2 HA.out.2 (L := [(.slice bp np cp, LC)]) (fun x hx => by obtain rfl := List.mem_singleton.1 hx; exact HA.out.1) (by simp))
  clear HS
  have HS := HS2
  clear HS2 HA TC
  have ZZk := (HS.out.b (bd, #[.int .i64 N, .int .i64 M, .int .i64 st, .slice (some ⟨gF, 0, none⟩) Fi.length kF, .slice (some ⟨gN, 0, none⟩) Nx.length kN], 24) (by simp)).1
  have k0 : w23.cell? ⟨bd, 0, none⟩ = some (.int .i64 N) := cell_of ZZk rfl
  have k1 : w23.cell? ⟨bd, 1, none⟩ = some (.int .i64 M) := cell_of ZZk rfl
  have k2 : w23.cell? ⟨bd, 2, none⟩ = some (.int .i64 st) := cell_of ZZk rfl
  have k3 : w23.cell? ⟨bd, 3, none⟩ = some (.slice (some ⟨gF, 0, none⟩) Fi.length kF) := cell_of ZZk rfl
  have k4 : w23.cell? ⟨bd, 4, none⟩ = some (.slice (some ⟨gN, 0, none⟩) Nx.length kN) := cell_of ZZk rfl
  clear ZZk
  have ZZx := (HS.out.b (w.heap.size, #[.int .i64 N, .int .i64 M, .int .i64 st, .slice aF Fi.length cF, .slice aN Nx.length cN, .int .i64 N2, .int .i64 M2, .int .i64 s2, .slice aG Gi.length cG, .slice aX Ex.length cX, .int .i64 S, .int .i64 T, .slice aW Wd.length cW], 26) (by simp)).1
  have x10 : w23.cell? ⟨w.heap.size, 10, none⟩ = some (.int .i64 S) := cell_of ZZx rfl
  have x11 : w23.cell? ⟨w.heap.size, 11, none⟩ = some (.int .i64 T) := cell_of ZZx rfl
  clear ZZx
  have TC := UT.out w23 (some ⟨gF, 0, none⟩) kF (some ⟨gN, 0, none⟩) kN (HS.out.tw (gF := gF) (kF := kF) (gN := gN) (kN := kN) (Fi := Fi) (Nx := Nx) (by intro x hx; simp [hx])).1.rd (HS.out.tw (gF := gF) (kF := kF) (gN := gN) (kN := kN) (Fi := Fi) (Nx := Nx) (by intro x hx; simp [hx])).2.rd
  go_upto_region 27 with (go_at_call 15; refine TC.mono ?_; rintro e w24 ⟨bq, nq9, cq, rfl, HA⟩; clear k0 k1 k2 k3 k4 x10 x11)
  have HS2 := hide (HS.out.put2 HA.out.2.1 (L := [(.slice bq nq9 cq, LT)]) (fun x hx => by obtain rfl := List.mem_singleton.1 hx; exact HA.out.1) (by simp))
  clear HS
  have HS := HS2
  have HLLT := hide HA.out.2.2
  clear HS2 HA TC
  have ZZk := (HS.out.b (bd, #[.int .i64 N, .int .i64 M, .int .i64 st, .slice (some ⟨gF, 0, none⟩) Fi.length kF, .slice (some ⟨gN, 0, none⟩) Nx.length kN], 24) (by simp)).1
  have k0 : w24.cell? ⟨bd, 0, none⟩ = some (.int .i64 N) := cell_of ZZk rfl
  have k1 : w24.cell? ⟨bd, 1, none⟩ = some (.int .i64 M) := cell_of ZZk rfl
  have k2 : w24.cell? ⟨bd, 2, none⟩ = some (.int .i64 st) := cell_of ZZk rfl
  have k3 : w24.cell? ⟨bd, 3, none⟩ = some (.slice (some ⟨gF, 0, none⟩) Fi.length kF) := cell_of ZZk rfl
  have k4 : w24.cell? ⟨bd, 4, none⟩ = some (.slice (some ⟨gN, 0, none⟩) Nx.length kN) := cell_of ZZk rfl
  clear ZZk
  have TC := UW.out w24 (some ⟨gF, 0, none⟩) kF (some ⟨gN, 0, none⟩) kN (HS.out.tw (gF := gF) (kF := kF) (gN := gN) (kN := kN) (Fi := Fi) (Nx := Nx) (by intro x hx; simp [hx])).1.rd (HS.out.tw (gF := gF) (kF := kF) (gN := gN) (kN := kN) (Fi := Fi) (Nx := Nx) (by intro x hx; simp [hx])).2.rd
  go_upto_region 28 with (go_at_call 10; refine TC.mono ?_; rintro e w25 ⟨bz, cz, rfl, HA⟩; clear k0 k1 k2 k3 k4)
  obtain ⟨ws, z1, hlws, z3, z4⟩ := zip_own HA.out.1
  have HS2 := hide ((HS.out.put2 HA.out.2 (L := ws.zip LW) z3 z4).rows (owns_down z1 HS.out.d.size))
  clear HS
  have HS := HS2
  have HVws := hide hlws
  clear HS2 HA TC z1 z3 z4 hlws
  have ZZk := (HS.out.b (bd, #[.int .i64 N, .int .i64 M, .int .i64 st, .slice (some ⟨gF, 0, none⟩) Fi.length kF, .slice (some ⟨gN, 0, none⟩) Nx.length kN], 24) (by simp)).1
  have k0 : w25.cell? ⟨bd, 0, none⟩ = some (.int .i64 N) := cell_of ZZk rfl
  have k1 : w25.cell? ⟨bd, 1, none⟩ = some (.int .i64 M) := cell_of ZZk rfl
  have k2 : w25.cell? ⟨bd, 2, none⟩ = some (.int .i64 st) := cell_of ZZk rfl
  have k3 : w25.cell? ⟨bd, 3, none⟩ = some (.slice (some ⟨gF, 0, none⟩) Fi.length kF) := cell_of ZZk rfl
  have k4 : w25.cell? ⟨bd, 4, none⟩ = some (.slice (some ⟨gN, 0, none⟩) Nx.length kN) := cell_of ZZk rfl
  clear ZZk
  have TC := UM.out w25 (some ⟨gF, 0, none⟩) kF (some ⟨gN, 0, none⟩) kN (HS.out.tw (gF := gF) (kF := kF) (gN := gN) (kN := kN) (Fi := Fi) (Nx := Nx) (by intro x hx; simp [hx])).1.rd (HS.out.tw (gF := gF) (kF := kF) (gN := gN) (kN := kN) (Fi := Fi) (Nx := Nx) (by intro x hx; simp [hx])).2.rd
  go_upto_region 29 with (go_at_call 8; refine TC.mono ?_; rintro e w26 ⟨f5, g5, f6, g6, rfl, HA⟩; clear k0 k1 k2 k3 k4)
  obtain ⟨bm2, hbm2⟩ : ∃ x, w26.heap.size = x := ⟨_, rfl⟩
  obtain ⟨w27, hw3⟩ : ∃ W, w26.alloc (.cells #[.int .i64 nn, .int .i64 mm, .int .i64 0, .slice f5 LF.length g5, .slice f6 LX.length g6] 24) = W := ⟨_, rfl⟩
  rw [hbm2, hw3]
  have HObm2 := hide (show bn < bm2 from by have z1 := (Array.getElem?_eq_some_iff.1 (HS.out.b (bn, #[.int .i64 nn, .int .i64 mm, .int .i64 0, .slice f3 LF.length g3, .slice f4 LX.length g4], 24) (by simp)).1).1; have z2 := HA.out.2.2.2.size; omega)
  have HS2 := hide (by have z := (HS.out.put2 HA.out.2.2.2 (L := [(.slice f5 LF.length g5, LF), (.slice f6 LX.length g6, LX)]) (fun x hx => by rcases List.mem_cons.1 hx with e | hx; (subst e; exact HA.out.1); (obtain rfl := List.mem_singleton.1 hx; exact HA.out.2.1)) (List.pairwise_cons.2 ⟨fun x hx => by obtain rfl := List.mem_singleton.1 hx; exact HA.out.2.2.1, by simp⟩)).box #[.int .i64 nn, .int .i64 mm, .int .i64 0, .slice f5 LF.length g5, .slice f6 LX.length g6] 24 (by decide); rw [hw3, hbm2] at z; exact z)
  clear HS
  have HS := HS2
  clear HS2 HA TC hw3 hbm2
  have ZZk := (HS.out.b (bd, #[.int .i64 N, .int .i64 M, .int .i64 st, .slice (some ⟨gF, 0, none⟩) Fi.length kF, .slice (some ⟨gN, 0, none⟩) Nx.length kN], 24) (by simp)).1
  have k0 : w27.cell? ⟨bd, 0, none⟩ = some (.int .i64 N) := cell_of ZZk rfl
  have k1 : w27.cell? ⟨bd, 1, none⟩ = some (.int .i64 M) := cell_of ZZk rfl
  have k2 : w27.cell? ⟨bd, 2, none⟩ = some (.int .i64 st) := cell_of ZZk rfl
  have k3 : w27.cell? ⟨bd, 3, none⟩ = some (.slice (some ⟨gF, 0, none⟩) Fi.length kF) := cell_of ZZk rfl
  have k4 : w27.cell? ⟨bd, 4, none⟩ = some (.slice (some ⟨gN, 0, none⟩) Nx.length kN) := cell_of ZZk rfl
  clear ZZk
  have ZZx := (HS.out.b (be, #[.int .i64 N2, .int .i64 M2, .int .i64 s2, .slice (some ⟨gG, 0, none⟩) Gi.length kG, .slice (some ⟨gE, 0, none⟩) Ex.length kE], 24) (by simp)).1
  have x0 : w27.cell? ⟨be, 0, none⟩ = some (.int .i64 N2) := cell_of ZZx rfl
  have x1 : w27.cell? ⟨be, 1, none⟩ = some (.int .i64 M2) := cell_of ZZx rfl
  have x2 : w27.cell? ⟨be, 2, none⟩ = some (.int .i64 s2) := cell_of ZZx rfl
  have x3 : w27.cell? ⟨be, 3, none⟩ = some (.slice (some ⟨gG, 0, none⟩) Gi.length kG) := cell_of ZZx rfl
  have x4 : w27.cell? ⟨be, 4, none⟩ = some (.slice (some ⟨gE, 0, none⟩) Ex.length kE) := cell_of ZZx rfl
  clear ZZx
  have TC := UQ.out w27 (some ⟨gF, 0, none⟩) kF (some ⟨gN, 0, none⟩) kN (some ⟨gG, 0, none⟩) kG (some ⟨gE, 0, none⟩) kE (HS.out.tw (gF := gF) (kF := kF) (gN := gN) (kN := kN) (Fi := Fi) (Nx := Nx) (by intro x hx; simp [hx])).1.rd (HS.out.tw (gF := gF) (kF := kF) (gN := gN) (kN := kN) (Fi := Fi) (Nx := Nx) (by intro x hx; simp [hx])).2.rd (HS.out.tw (gF := gG) (kF := kG) (gN := gE) (kN := kE) (Fi := Gi) (Nx := Ex) (by intro x hx; simp [hx])).1.rd (HS.out.tw (gF := gG) (kF := kG) (gN := gE) (kN := kE) (Fi := Gi) (Nx := Ex) (by intro x hx; simp [hx])).2.rd
  go_upto_region 30 with (go_at_call 18; refine TC.mono ?_; rintro e w28 ⟨by2, ny, cy, rfl, HA⟩; clear k0 k1 k2 k3 k4 x0 x1 x2 x3 x4)
  have HS2 := hide (HS.out.put2 HA.out.2.1 (L := [(.slice by2 ny cy, LU)]) (fun x hx => by obtain rfl := List.mem_singleton.1 hx; exact HA.out.1) (by simp))
  clear HS
  have HS := HS2
  have HLLU := hide HA.out.2.2
  clear HS2 HA TC
  have ZZk := (HS.out.b (bm, #[.int .i64 nn, .int .i64 mm, .int .i64 0, .slice f1 LF.length g1, .slice f2 LX.length g2], 24) (by simp)).1
  have k3 : w28.cell? ⟨bm, 3, none⟩ = some (.slice f1 LF.length g1) := cell_of ZZk rfl
  have k4 : w28.cell? ⟨bm, 4, none⟩ = some (.slice f2 LX.length g2) := cell_of ZZk rfl
  clear ZZk
  have HRW := hide (HS.out.v (.slice bw LW.length cw, vs) (by simp))
  obtain ⟨i22, hi22, hz0, hz1, hz2⟩ := info_parts info22
  have HI22 := hide (And.intro hi22 (And.intro hz0 (And.intro hz1 hz2)))
  clear hi22 hz0 hz1 hz2
  have HAL : Hid (∀ W : World, W = w28.alloc (.cells #[.slice ba na ca, .slice bc nc cc, .slice f1 LF.length g1, .slice f2 LX.length g2, .slice bu nu cu] 22) → Below w28.heap.size w28 W ∧ W.ownsRow w28.heap.size 22 1 (.slice (some ⟨w28.heap.size, 0, none⟩) 5 5) 5 [.slice ba na ca, .slice bc nc cc, .slice f1 LF.length g1, .slice f2 LX.length g2, .slice bu nu cu]) := hide (fun W e => by
    subst e
    exact ⟨(Below.refl _ _).alloc (Nat.le_refl _) _, rfl, .inr ⟨_, 5, _, rfl, Nat.le_refl _, World.alloc_heap_new _ _, Nat.le_refl _, by unfold maxLen; omega, rfl, rfl⟩⟩)
  go_cut [30] from 30 to 31 (fun p W => ∃ gL cL, p = .slice (some ⟨gL, 0, none⟩) (5 + LW.length) cL ∧ Hid (Below w28.heap.size w28 W ∧ w28.heap.size ≤ gL ∧ W.ownsRow w28.heap.size 22 1 (.slice (some ⟨gL, 0, none⟩) (5 + LW.length) cL) (5 + LW.length) ([.slice ba na ca, .slice bc nc cc, .slice f1 LF.length g1, .slice f2 LX.length g2, .slice bu nu cu] ++ vs)))
  case first =>
    rcases HRW.out.2 with ⟨e1, e2⟩ | ⟨gw, cap, cur9, e1, e2, e3, e4, e5, e6, e7⟩
    · injection e1 with e1 e4 e5
      have hv0 : vs = [] := List.eq_nil_of_length_eq_zero e2
      have hl0 : LW = [] := List.eq_nil_of_length_eq_zero e4
      subst hl0 bw cw hv0
      clear e4 e2
      go_wp2_with fail
      go_meet
      have z := HAL.out _ rfl
      exact ⟨w28.heap.size, 5, rfl, hide ⟨z.1, Nat.le_refl _, z.2⟩⟩
    · injection e1 with e1 e8 e9
      subst bw
      have HW3 := hide (show vs.length = LW.length ∧ LW.length ≤ 4096 from ⟨HVvs.out, HBN.out.2.1⟩)
      have HW4 : Hid (∀ (j : Nat) (u : Value), vs[j]? = some u → w28.cell? ((⟨gw, 0, none⟩ : Addr).add j) = some u) := hide (fun j u hu => by
        have z := HRW.out.cells (g := gw) rfl j u hu
        rw [Addr.add_lit] at z ⊢
        simpa using z)
      have HW5 := hide (zip_one HS.out (vs := vs) (LL := LW) HVvs.out (fun x hx => by simp [hx]))
      clear e2 e3 e4 e5 e6 e7 e8 e9
      go_wp2_with (at_builtin; refine wpList_append_own_at _ rfl _ _ _ rfl w28.heap.size 22 i22 _ 1 24 Try.underlying32 HI22.out.1 HI22.out.2.1 HI22.out.2.2.1 HI22.out.2.2.2 rfl (by omega) (.slice (some ⟨w28.heap.size, 0, none⟩) 5 5) 5 [.slice ba na ca, .slice bc nc cc, .slice f1 LF.length g1, .slice f2 LX.length g2, .slice bu nu cu] rfl (HAL.out _ rfl).2 ⟨gw, 0, none⟩ LW.length cw vs rfl (by rw [HW3.out.1, Nat.mul_one]) (fun j u hu => ((HAL.out _ rfl).1.cell (World.block_lt_of_cell? _ _ (HW4.out j u hu))).trans (HW4.out j u hu)) HW5.out (by have := HW3.out.2; unfold maxLen; omega) (by have := HW3.out.2; omega) (by simp) ?_; intro v6 w6 ho hgr hnil hloc; have HO6 := hide (And.intro ho (And.intro hgr hloc)); clear ho hgr hnil hloc)
      go_wp2_with fail
      go_meet
      have z := HAL.out _ rfl
      rcases HO6.out.1.2 with ⟨_, q2⟩ | ⟨g9, cap9, _, q1, q2, _⟩
      · omega
      · subst q1
        refine ⟨g9, cap9, rfl, hide ⟨z.1.trans ((grown_only HO6.out.2.1).toBelow (by simp) (fun k hk => by have hk : some w28.heap.size = some k := hk; injection hk with hk; omega)), q2, ?_⟩⟩
        exact HO6.out.1
  case rest =>
    rename World => w9
    obtain ⟨gL, cL, rfl, HC⟩ := hcut
    have HMP : Hid ((([(.slice ba na ca, LC), (.slice bc nc cc, LT), (.slice f1 LF.length g1, LF), (.slice f2 LX.length g2, LX), (.slice bu nu cu, LU)] : List Ent) ++ vs.zip LW).map Prod.fst = [.slice ba na ca, .slice bc nc cc, .slice f1 LF.length g1, .slice f2 LX.length g2, .slice bu nu cu] ++ vs) := hide (by rw [List.map_append, List.map_fst_zip (by rw [HVvs.out]; exact Nat.le_refl _)]; rfl)
    have TC := ov.over_all (A := ([(.slice ba na ca, LC), (.slice bc nc cc, LT), (.slice f1 LF.length g1, LF), (.slice f2 LX.length g2, LX), (.slice bu nu cu, LU)] : List Ent) ++ vs.zip LW) (K := 5 + LW.length) (cL := cL) HS.out perm_all HC.out.1 HC.out.2.1 (by rw [HMP.out]; exact HC.out.2.2) (by rw [List.length_append, List.length_zip, HVvs.out, Nat.min_self]; rfl) (by have := HBN.out.2.1; omega) (fun x hx => by
      rcases List.mem_append.1 hx with hx | hx
      · simp only [List.mem_cons, List.not_mem_nil, or_false] at hx
        rcases hx with e | e | e | e | e
        · subst e; exact Nat.le_trans HBN.out.1 (by decide)
        · subst e; exact Nat.le_trans HLLT.out (by decide)
        · subst e; exact Nat.le_trans HBN.out.2.2.2.1 (by decide)
        · subst e; exact Nat.le_trans HBN.out.2.2.2.2 (by decide)
        · subst e; exact Nat.le_trans HLLU.out (by decide)
      · have z := (List.of_mem_zip (a := x.1) (b := x.2) hx).2
        exact Nat.le_trans (HBN.out.2.2.1 x.2 z) (by decide))
    clear HRW HI22 HAL
    go_upto_region 33 with (go_at_call 27; refine TC.mono ?_; rintro e w30 ⟨rfl, DC⟩; have HS2 := hide DC; clear DC)
    clear HS
    have HS := HS2
    clear HS2 TC HC HMP
    have TC := sameInts_any w30 bp bb1 np cp nb1 cb1 LC LC (owI_rd (HS.out.e (.slice bp np cp, LC) (by simp))).2 (owI_rd (HS.out.e (.slice bb1 nb1 cb1, LC) (by simp))).2 (owI_rd (HS.out.e (.slice bp np cp, LC) (by simp))).1.symm (owI_rd (HS.out.e (.slice bb1 nb1 cb1, LC) (by simp))).1.symm (by rw [(owI_rd (HS.out.e (.slice bp np cp, LC) (by simp))).1]; exact Nat.le_trans HBN.out.1 (by decide)) (by rw [(owI_rd (HS.out.e (.slice bb1 nb1 cb1, LC) (by simp))).1]; exact Nat.le_trans HBN.out.1 (by decide))
    rw [decide_eq_true rfl] at TC
    go_wp2_with fail
    go_at_call 21
    refine TC.mono ?_
    rintro e w31 ⟨rfl, DC⟩
    have HS2 := hide (HS.out.on DC)
    clear DC HS
    have HS := HS2
    clear HS2 TC 
    have TC := sameInts_any w31 bq bh nq9 cq nh ch LT LT (owI_rd (HS.out.e (.slice bq nq9 cq, LT) (by simp))).2 (owI_rd (HS.out.e (.slice bh nh ch, LT) (by simp))).2 (owI_rd (HS.out.e (.slice bq nq9 cq, LT) (by simp))).1.symm (owI_rd (HS.out.e (.slice bh nh ch, LT) (by simp))).1.symm (by rw [(owI_rd (HS.out.e (.slice bq nq9 cq, LT) (by simp))).1]; exact Nat.le_trans HLLT.out (by decide)) (by rw [(owI_rd (HS.out.e (.slice bh nh ch, LT) (by simp))).1]; exact Nat.le_trans HLLT.out (by decide))
    rw [decide_eq_true rfl] at TC
    go_wp2_with fail
    go_at_call 21
    refine TC.mono ?_
    rintro e w32 ⟨rfl, DC⟩
    have HS2 := hide (HS.out.on DC)
    clear DC HS
    have HS := HS2
    clear HS2 TC 
    have TC := sameWords_yes w32 w.heap.size w.heap.size bz bv LW.length cz LW.length cv LW (ws_of HS.out (v := .slice bz LW.length cz) (vs := ws) (by simp) HVws.out (fun x hx => by simp [hx])) (ws_of HS.out (v := .slice bv LW.length cv) (vs := us) (by simp) HVus.out (fun x hx => by simp [hx])) rfl rfl (Nat.le_trans HBN.out.2.1 (by decide)) (fun L hL => Nat.le_trans (HBN.out.2.2.1 L hL) (by decide))
    go_wp2_with fail
    go_at_call 24
    refine TC.mono ?_
    rintro e w33 ⟨rfl, DC⟩
    have HS2 := hide (HS.out.on DC)
    clear DC HS
    have HS := HS2
    clear HS2 TC 
    have ZZk := (HS.out.b (bm2, #[.int .i64 nn, .int .i64 mm, .int .i64 0, .slice f5 LF.length g5, .slice f6 LX.length g6], 24) (by simp)).1
    have k0 : w33.cell? ⟨bm2, 0, none⟩ = some (.int .i64 nn) := cell_of ZZk rfl
    have k1 : w33.cell? ⟨bm2, 1, none⟩ = some (.int .i64 mm) := cell_of ZZk rfl
    have k2 : w33.cell? ⟨bm2, 2, none⟩ = some (.int .i64 0) := cell_of ZZk rfl
    have k3 : w33.cell? ⟨bm2, 3, none⟩ = some (.slice f5 LF.length g5) := cell_of ZZk rfl
    have k4 : w33.cell? ⟨bm2, 4, none⟩ = some (.slice f6 LX.length g6) := cell_of ZZk rfl
    clear ZZk
    have ZZx := (HS.out.b (bn, #[.int .i64 nn, .int .i64 mm, .int .i64 0, .slice f3 LF.length g3, .slice f4 LX.length g4], 24) (by simp)).1
    have x0 : w33.cell? ⟨bn, 0, none⟩ = some (.int .i64 nn) := cell_of ZZx rfl
    have x1 : w33.cell? ⟨bn, 1, none⟩ = some (.int .i64 mm) := cell_of ZZx rfl
    have x2 : w33.cell? ⟨bn, 2, none⟩ = some (.int .i64 0) := cell_of ZZx rfl
    have x3 : w33.cell? ⟨bn, 3, none⟩ = some (.slice f3 LF.length g3) := cell_of ZZx rfl
    have x4 : w33.cell? ⟨bn, 4, none⟩ = some (.slice f4 LX.length g4) := cell_of ZZx rfl
    clear ZZx
    have TC := same_any w33 nn mm 0 nn mm 0 f5 f6 f3 f4 LF.length g5 LX.length g6 LF.length g3 LX.length g4 LF LX LF LX (owI_rd (HS.out.e (.slice f5 LF.length g5, LF) (by simp))).2 (owI_rd (HS.out.e (.slice f6 LX.length g6, LX) (by simp))).2 (owI_rd (HS.out.e (.slice f3 LF.length g3, LF) (by simp))).2 (owI_rd (HS.out.e (.slice f4 LX.length g4, LX) (by simp))).2 rfl rfl rfl rfl (Nat.le_trans HBN.out.2.2.2.1 (by decide)) (Nat.le_trans HBN.out.2.2.2.2 (by decide)) (Nat.le_trans HBN.out.2.2.2.1 (by decide)) (Nat.le_trans HBN.out.2.2.2.2 (by decide))
    rw [decide_eq_true ⟨rfl, rfl, rfl, rfl, rfl⟩] at TC
    go_wp2_with fail
    go_at_call 19
    refine TC.mono ?_
    rintro e w34 ⟨rfl, DC⟩
    have HS2 := hide (HS.out.on DC)
    clear DC HS
    have HS := HS2
    clear HS2 TC k0 k1 k2 k3 k4 x0 x1 x2 x3 x4
    have TC := sameInts_any w34 by2 bt ny cy nt ct LU LU (owI_rd (HS.out.e (.slice by2 ny cy, LU) (by simp))).2 (owI_rd (HS.out.e (.slice bt nt ct, LU) (by simp))).2 (owI_rd (HS.out.e (.slice by2 ny cy, LU) (by simp))).1.symm (owI_rd (HS.out.e (.slice bt nt ct, LU) (by simp))).1.symm (by rw [(owI_rd (HS.out.e (.slice by2 ny cy, LU) (by simp))).1]; exact Nat.le_trans HLLU.out (by decide)) (by rw [(owI_rd (HS.out.e (.slice bt nt ct, LU) (by simp))).1]; exact Nat.le_trans HLLU.out (by decide))
    rw [decide_eq_true rfl] at TC
    go_wp2_with fail
    go_at_call 21
    refine TC.mono ?_
    rintro e w35 ⟨rfl, DC⟩
    have HS2 := hide (HS.out.on DC)
    clear DC HS
    have HS := HS2
    clear HS2 TC 
    go_upto_region 35 with fail
    have HS2 := hide HS.out.up
    clear HS
    have HS := HS2
    clear HS2
    rename_i hK9
    exact exact_mid w N M st N2 M2 s2 S T aF aN aG aX aW cF cN cG cX cW Fi Nx Gi Ex Wd LC EC LT LW nn mm LF LX LU HBN UM HXX HBB gF kF gN kN bd HNED HWD gG kG gE kE be HNEE HDJ bb1 nb1 cb1 bh nh ch bw cw vs bv cv us f1 g1 f2 g2 bm HObm f3 g3 f4 g4 bn HObn bt nt ct bp np cp bq nq9 cq HLLT bz cz ws HVws f5 g5 f6 g6 bm2 by2 ny cy HLLU w35 HS _ _ _ _ _ _ _ _ _ _ _ _ _ _ _ _ _ _ _ _ _ _ _ _ _ _ _ _ _ _ _ _ _ _ _ _ _ _ _ _ _ _ _ _ _ _ _ _ _ _ _ _ _ _ _ _ _ _ _ _ _ _ _ _ _ _ _ _ _ _ _ _ _ _ _ _ _ _ _ _ _ _ _ _ _ _ _ _ _ _ _ _ _ _ _ _ _ _ _ _ _ _ _ _ _ _ _ _ _ _ _ _ _ _ _ _ _ _ _ _ _ _ _ _ _ _ _ _ _ _ _ _ _ _ _ _ _ _ _ _ _ _ _ _ _ _ _ _ _ _ _ _ _ _ _ _ _ _ _ _ _ _ _ _ _ _ _ _ _ _ _ _ _ _ _ _ _ _ _ _ _ _ _ _ _ _ _ _ _ _ _ _ _ _ _ _ _ _ _ _ _ _ _ _ _ _ _ _ _ _ _ _ _ _ _ _ _ _ _ _ _ _ _ _ _ _ _ _ _ _ _ _ _ _ _ _ _ _ _ _ _ _ _ _ _ _ _ _ _ _ _ _ _ _ _ _ _ _ _ _ _ _ _ _ _ _ _ _ _ _ _ _ _ _ _ _ _ _ _ _ _ _ _ _ _ _ _ _ _ _ _ _ _ _ _ _ _ _ _ _ _ _ _ _ _ _ _ _ _ _ _ _ _ _ _ _ _ _ _ _ _ _ _ _ _ _ _ _ _ _ _ _ _ _ _ _ _ _ _ _ _ _ _ _ _ _ _ _ _ _ _ _ _ _ _ _ _ _ _ _ _ _ _ _ _ _ _ _ _ _ _ _ _ _ _ _ _ _ _ _ _ _ _ _ _ _ _ _ _ _ _ _ _ _ _ _ _ _ _ _ _ _ _ _ hK9
end Go.Proofs.Ytocoghljmlpdeaa
