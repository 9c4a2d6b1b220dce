import Derived.Test.YtojnlpicgemlaabGreatDoorTF
namespace Go.Proofs.YtojnlpicgemlaabGreatDoor
open Go.RowKit Go.Maps
attribute [local go_sem] Oper.semAt_some

/-! ### The statements' lists with marks behind them -/
def numF (l : List Int) (c : Nat) : Value := .int .i64 (if c < l.length then l.getD c 0 else -77)
/-- A list of numbers, 64 marks behind it. -/
def NumL (B : Nat) (w : World) (g : Nat) (l : List Int) : Prop := B ≤ g ∧ Mrw w g 3 (l.length + 64) (numF l) (l.length + 64)
theorem NumL.rd {B : Nat} {w : World} {g : Nat} {l : List Int} (h : NumL B w g l) : RdN w (some ⟨g, 0, none⟩) l := fun j hj => by
  refine ⟨g, 0, rfl, ?_⟩
  have := h.2.at j (by omega)
  rw [Nat.zero_add, this]
  simp [numF, hj]
theorem NumL.below {B : Nat} {w w' : World} {g : Nat} {l : List Int} (h : NumL B w g l) (d : Below w.heap.size w w') : NumL B w' g l := ⟨h.1, h.2.below d h.2.lt⟩
end Go.Proofs.YtojnlpicgemlaabGreatDoor
namespace Go.Proofs.YtojnlpicgemlaabGreatDoor
open Go.RowKit Go.Maps
attribute [local go_sem] Oper.semAt_some

/-! ### They are as they were laid -/
end Go.Proofs.YtojnlpicgemlaabGreatDoor
namespace Go.Proofs.YtojnlpicgemlaabGreatDoor
open Go.RowKit Go.Maps
attribute [local go_sem] Oper.semAt_some

/-! ### One step ahead; a state in both -/
def postM (Ed : List EdT) (M : Nat → Bool) (sym : Int) (q : Nat) : Bool := Ed.any fun e => (decide (e.2.1 = sym) && M e.1.toNat) && decide (e.2.2 = (q : Int))
theorem postM_take {Ed : List EdT} {M : Nat → Bool} {i p r : Nat} {x2 sym : Int} (h : i < Ed.length) (e : Ed[i] = ((p : Int), x2, (r : Int))) (q : Nat) : postM (Ed.take (i + 1)) M sym q = (((decide (x2 = sym) && M p) && decide (q = r)) || postM (Ed.take i) M sym q) := by
  unfold postM
  rw [List.take_succ_eq_append_getElem h, List.any_append, e, Bool.or_comm]
  have : decide ((r : Int) = (q : Int)) = decide (q = r) := decide_eq_decide.2 (by omega)
  simp [this]
set_option maxRecDepth 100000 in
set_option maxHeartbeats 1000000 in
theorem rpost_any (w : World) (N : Nat) (mv : Int) (a1 a2 a3 : Option Addr) (n1 n2 c1 c2 c3 : Nat) (Ed : List EdT) (g B : Nat) (M : Nat → Bool) (sym : Int) (hN : N ≤ 100000) (hr : RdE w a3 Ed) (hE : Ed.length ≤ 1000000) (h1 : ∀ e ∈ Ed, ∃ p r : Nat, p < N ∧ r < N ∧ e.1 = (p : Int) ∧ e.2.2 = (r : Int)) (hM : MaskG B w g N M) :
    Calls Tryz.prog 43 #[.agg #[.int .i64 (N : Int), .int .i64 mv, .slice a1 n1 c1, .slice a2 n2 c2, .slice a3 Ed.length c3], .slice (some ⟨g, 0, none⟩) N N, .int .i64 sym] w fun e w' => ∃ g', e = .returned (.slice (some ⟨g', 0, none⟩) N N) ∧ MaskG w.heap.size w' g' N (postM Ed M sym) ∧ Below w.heap.size w w' := by
  obtain ⟨i3, hi3, hz30, hz31, hz32⟩ := info_parts info4
  obtain ⟨L, eL⟩ : ∃ L, Ed.length = L := ⟨_, rfl⟩
  rw [eL] at hE
  rw [eL]
  obtain ⟨W0, hW0⟩ : ∃ W0, w.alloc (.cells #[.int .i64 (N : Int), .int .i64 mv, .slice a1 n1 c1, .slice a2 n2 c2, .slice a3 L c3] 25) = W0 := ⟨_, rfl⟩
  have d0 : Below w.heap.size w W0 := by rw [← hW0]; exact (Below.refl _ _).alloc (Nat.le_refl _) _
  have B0 : W0.heap[w.heap.size]? = some (.cells #[.int .i64 (N : Int), .int .i64 mv, .slice a1 n1 c1, .slice a2 n2 c2, .slice a3 L c3] 25 (0, 0)) := by rw [← hW0]; exact World.alloc_heap_new _ _
  have k0 : W0.cell? ⟨w.heap.size, 0, none⟩ = some (.int .i64 (N : Int)) := cell_of B0 rfl
  have HQ := hide (And.intro (hr.on d0) (And.intro h1 (And.intro eL (And.intro (hM.below d0) (And.intro d0 B0)))))
  clear hr h1 eL hM d0 B0
  go_enter Tryz.func43, Tryz.ntmps43
  go_wp2_with ((at_make; refine wpList_make_full _ rfl _ _ 61 rfl W0.heap.size 4 i3 (.bool false) 1 Tryz.underlying61 hi3 hz30 hz31 _ _ _ _ N rfl rfl (by go_num) (by go_num) (by rw [hz32]; omega) (by unfold maxLen; omega) (Nat.le_refl _) ?_))
  intro w1 ho hg
  have D1 : Below W0.heap.size W0 w1 := (Below.refl _ _).grown hg (Nat.le_refl _) (by intro k hk; cases hk)
  have H1 := hide (And.intro (mask_made ho) D1)
  clear ho hg D1
  go_wp2_with fail
  clear hW0 k0
  go_loopw [8] (fun iv wr => ∃ i : Nat, i ≤ L ∧ iv = .int .i64 (i : Int) ∧ Hid (MaskG W0.heap.size wr W0.heap.size N (postM (Ed.take i) M sym) ∧ Below W0.heap.size W0 wr)) (fun iv _ => L - (intOf iv).toNat)
  case atStart => exact ⟨0, Nat.zero_le _, rfl, hide ⟨H1.out.1.congr fun q _ => by simp [postM], H1.out.2⟩⟩
  case round =>
    obtain ⟨i, hi, rfl, HY⟩ := hrel
    have hqs : w.heap.size < W0.heap.size := (Array.getElem?_eq_some_iff.1 HQ.out.2.2.2.2.2).1
    have B1 := (HY.out.2.block _ hqs).trans HQ.out.2.2.2.2.2
    have k4 : wr.cell? ⟨w.heap.size, 4, none⟩ = some (.slice a3 L c3) := cell_of B1 rfl
    clear B1
    by_cases hlt : i < L
    · have l0 : (i : Int) < (L : Int) := by omega
      have i0 : (0 : Int) ≤ (i : Int) := by omega
      have hir : i < Ed.length := by have := HQ.out.2.2.1; omega
      obtain ⟨g', o, rfl, r1, r2, r3⟩ := (HQ.out.1.on HY.out.2) i hir
      obtain ⟨p, r, hp, hrN, e1, e2⟩ := HQ.out.2.1 Ed[i] (List.getElem_mem hir)
      have HS := hide (postM_take (M := M) (sym := sym) hir (show Ed[i] = ((p : Int), Ed[i].2.1, (r : Int)) from Prod.ext e1 (Prod.ext rfl e2)))
      rw [e1] at r1
      rw [e2] at r3
      have p0 : (0 : Int) ≤ (p : Int) := by omega
      have p1 : (p : Int) < (N : Int) := by omega
      have q0 : (0 : Int) ≤ (r : Int) := by omega
      have q1 : (r : Int) < (N : Int) := by omega
      have cr : wr.cell? ⟨g, p, none⟩ = some (.bool (M p)) := (HQ.out.2.2.2.1.2.below HY.out.2 HQ.out.2.2.2.1.2.lt).at p hp
      have cq : wr.cell? ⟨W0.heap.size, r, none⟩ = some (.bool (postM (Ed.take i) M sym r)) := HY.out.1.2.at r hrN
      have zq : wr.frozen? ⟨W0.heap.size, r, none⟩ = false := HY.out.1.2.fz r
      generalize Ed[i].2.1 = x2 at r2 HS
      by_cases hs : x2 = sym
      · by_cases hh : M p = true
        · rw [hh] at cr
          have J : Hid (MaskG W0.heap.size (wr.setCell ⟨W0.heap.size, r, none⟩ (.bool true)) W0.heap.size N (postM (Ed.take (i + 1)) M sym) ∧ Below W0.heap.size W0 (wr.setCell ⟨W0.heap.size, r, none⟩ (.bool true))) := hide ⟨(HY.out.1.set r).congr fun q _ => by rw [HS.out q, hh, decide_eq_true hs]; simp, HY.out.2.setCell (Nat.le_refl _) _⟩
          subst hs
          clear HY HS
          go_wp2_with fail
          go_roundw
          case rel => exact ⟨i + 1, by omega, by go_num, J⟩
          case measure => simp [intOf]; omega
        · have hf : M p = false := by simpa using hh
          rw [hf] at cr
          have J : Hid (MaskG W0.heap.size wr W0.heap.size N (postM (Ed.take (i + 1)) M sym) ∧ Below W0.heap.size W0 wr) := hide ⟨HY.out.1.congr fun q _ => by rw [HS.out q, hf]; simp, HY.out.2⟩
          subst hs
          clear HY HS
          go_wp2_with fail
          go_roundw
          case rel => exact ⟨i + 1, by omega, by go_num, J⟩
          case measure => simp [intOf]; omega
      · have J : Hid (MaskG W0.heap.size wr W0.heap.size N (postM (Ed.take (i + 1)) M sym) ∧ Below W0.heap.size W0 wr) := hide ⟨HY.out.1.congr fun q _ => by rw [HS.out q, decide_eq_false hs]; simp, HY.out.2⟩
        clear HY HS
        go_wp2_with fail
        go_roundw
        case rel => exact ⟨i + 1, by omega, by go_num, J⟩
        case measure => simp [intOf]; omega
    · have l0 : ¬ (i : Int) < (L : Int) := by omega
      have e : Ed.take i = Ed := List.take_of_length_le (by have := HQ.out.2.2.1; omega)
      rw [e] at HY
      go_wp2_with fail
      go_ret
      exact ⟨_, rfl, HY.out.1.lower HQ.out.2.2.2.2.1.size, HQ.out.2.2.2.2.1.trans (HY.out.2.mono HQ.out.2.2.2.2.1.size)⟩
def bothM (N : Nat) (M M' : Nat → Bool) : Bool := (List.range N).any fun q => M q && M' q
theorem bothM_succ (i : Nat) (M M' : Nat → Bool) : bothM (i + 1) M M' = (bothM i M M' || (M i && M' i)) := by
  unfold bothM
  rw [List.range_succ, List.any_append]
  simp
theorem bothM_lt {N i : Nat} {M M' : Nat → Bool} (hi : i < N) (h1 : M i = true) (h2 : M' i = true) : bothM N M M' = true := by
  unfold bothM
  rw [List.any_eq_true]
  exact ⟨i, by simpa using hi, by simp [h1, h2]⟩
set_option maxRecDepth 100000 in
set_option maxHeartbeats 1000000 in
theorem rboth_any (w : World) (g g' N B B' : Nat) (M M' : Nat → Bool) (hM : MaskG B w g N M) (hM' : MaskG B' w g' N M') (hN : N ≤ 100000) :
    Calls Tryz.prog 41 #[.slice (some ⟨g, 0, none⟩) N N, .slice (some ⟨g', 0, none⟩) N N] w fun e w' => e = .returned (.bool (bothM N M M')) ∧ w' = w := by
  have HQ := hide (And.intro hM hM')
  clear hM hM'
  go_enter Tryz.func41, Tryz.ntmps41
  go_wp2_with fail
  go_loop [5] (fun iv => ∃ i : Nat, i ≤ N ∧ iv = .int .i64 (i : Int) ∧ Hid (bothM i M M' = false)) (fun iv => N - (intOf iv).toNat)
  case atStart => exact ⟨0, Nat.zero_le _, rfl, hide rfl⟩
  case round =>
    obtain ⟨i, hi, rfl, HY⟩ := hrel
    by_cases hlt : i < N
    · have l0 : (i : Int) < (N : Int) := by omega
      have i0 : (0 : Int) ≤ (i : Int) := by omega
      have c1 : w.cell? ⟨g, i, none⟩ = some (.bool (M i)) := HQ.out.1.2.at i hlt
      have c2 : w.cell? ⟨g', i, none⟩ = some (.bool (M' i)) := HQ.out.2.2.at i hlt
      by_cases h1 : M i = true
      · rw [h1] at c1
        by_cases h2 : M' i = true
        · rw [h2] at c2
          have J := hide (bothM_lt hlt h1 h2)
          go_wp2_with fail
          go_ret
          exact ⟨by rw [J.out]; rfl, rfl⟩
        · have h2' : M' i = false := by simpa using h2
          rw [h2'] at c2
          have J : Hid (bothM (i + 1) M M' = false) := hide (by rw [bothM_succ, HY.out, h2']; simp)
          go_wp2_with fail
          go_round
          case rel => exact ⟨i + 1, by omega, by go_num, J⟩
          case measure => simp [intOf]; omega
      · have h1' : M i = false := by simpa using h1
        rw [h1'] at c1
        have J : Hid (bothM (i + 1) M M' = false) := hide (by rw [bothM_succ, HY.out, h1']; simp)
        go_wp2_with fail
        go_round
        case rel => exact ⟨i + 1, by omega, by go_num, J⟩
        case measure => simp [intOf]; omega
    · have l0 : ¬ (i : Int) < (N : Int) := by omega
      have hiN : i = N := by omega
      rw [hiN] at HY
      go_wp2_with fail
      go_ret
      exact ⟨by rw [HY.out]; rfl, rfl⟩
end Go.Proofs.YtojnlpicgemlaabGreatDoor
namespace Go.Proofs.YtojnlpicgemlaabGreatDoor
open Go.RowKit Go.Maps
attribute [local go_sem] Oper.semAt_some

/-! ### Can so many more symbols lead to a final state? -/
def ahN (Ed : List EdT) (M : Nat → Bool) : Nat → Nat → Bool
  | 0 => M
  | n + 1 => aheadM Ed (ahN Ed M n)
set_option maxRecDepth 100000 in
set_option maxHeartbeats 2000000 in
theorem longer_any (w : World) (N : Nat) (mv : Int) (a1 a2 a3 : Option Addr) (c1 c2 c3 : Nat) (St Fi : List Int) (Ed : List EdT) (g B more : Nat) (M : Nat → Bool) (hA : ArgA w N mv a1 a2 a3 St Fi Ed) (hM : MaskG B w g N M) (hm : more ≤ 100000) :
    Calls Tryz.prog 44 #[.agg #[.int .i64 (N : Int), .int .i64 mv, .slice a1 St.length c1, .slice a2 Fi.length c2, .slice a3 Ed.length c3], .slice (some ⟨g, 0, none⟩) N N, .int .i64 (more : Int)] w fun e w' => e = .returned (.bool (bothM N M (ahN Ed (inL Fi) more))) ∧ Below w.heap.size w w' := by
  obtain ⟨n1, e1⟩ : ∃ n, St.length = n := ⟨_, rfl⟩
  obtain ⟨n2, e2⟩ : ∃ n, Fi.length = n := ⟨_, rfl⟩
  obtain ⟨n3, e3⟩ : ∃ n, Ed.length = n := ⟨_, rfl⟩
  obtain ⟨W0, hW0⟩ : ∃ W0, w.alloc (.cells #[.int .i64 (N : Int), .int .i64 mv, .slice a1 n1 c1, .slice a2 n2 c2, .slice a3 n3 c3] 25) = W0 := ⟨_, rfl⟩
  have d0 : Below w.heap.size w W0 := by rw [← hW0]; exact (Below.refl _ _).alloc (Nat.le_refl _) _
  have B0 : W0.heap[w.heap.size]? = some (.cells #[.int .i64 (N : Int), .int .i64 mv, .slice a1 n1 c1, .slice a2 n2 c2, .slice a3 n3 c3] 25 (0, 0)) := by rw [← hW0]; exact World.alloc_heap_new _ _
  have k0 : W0.cell? ⟨w.heap.size, 0, none⟩ = some (.int .i64 (N : Int)) := cell_of B0 rfl
  have k1 : W0.cell? ⟨w.heap.size, 1, none⟩ = some (.int .i64 mv) := cell_of B0 rfl
  have k2 : W0.cell? ⟨w.heap.size, 2, none⟩ = some (.slice a1 n1 c1) := cell_of B0 rfl
  have k3 : W0.cell? ⟨w.heap.size, 3, none⟩ = some (.slice a2 n2 c2) := cell_of B0 rfl
  have k4 : W0.cell? ⟨w.heap.size, 4, none⟩ = some (.slice a3 n3 c3) := cell_of B0 rfl
  have hA0 := hA.on d0
  have hN := hA.hN
  have TM := mask_any W0 a2 c2 N Fi hA0.rf hA0.inf hA0.lf (Nat.le_trans hN (by decide))
  rw [e2] at TM
  have HQ := hide (And.intro hA0 (And.intro e3 (And.intro (hM.below d0) (And.intro d0 B0))))
  rw [e1, e2, e3]
  clear d0 B0 e1 e2 e3 hA hA0 hM
  go_enter Tryz.func44, Tryz.ntmps44
  go_wp2_with (go_at_call 40; refine TM.mono ?_; rintro e w1 ⟨gf, rfl, h1, d1⟩; have H1 := hide (And.intro h1 d1); clear h1 d1)
  clear TM hW0 k0 k1 k2 k3 k4
  go_loopw [7, 8] (fun fv iv wr => ∃ i gf : Nat, i ≤ more ∧ fv = .slice (some ⟨gf, 0, none⟩) N N ∧ iv = .int .i64 (i : Int) ∧ Hid (MaskG W0.heap.size wr gf N (ahN Ed (inL Fi) i) ∧ Below W0.heap.size W0 wr)) (fun _ iv _ => more - (intOf iv).toNat)
  case atStart => exact ⟨0, gf, Nat.zero_le _, rfl, rfl, H1⟩
  case round =>
    obtain ⟨i, gf, hi, rfl, rfl, HY⟩ := hrel
    by_cases hlt : i < more
    · have l0 : (i : Int) < (more : Int) := by omega
      have hqs : w.heap.size < W0.heap.size := (Array.getElem?_eq_some_iff.1 HQ.out.2.2.2.2).1
      have B1 := (HY.out.2.block _ hqs).trans HQ.out.2.2.2.2
      have q0 : wr.cell? ⟨w.heap.size, 0, none⟩ = some (.int .i64 (N : Int)) := cell_of B1 rfl
      have q1 : wr.cell? ⟨w.heap.size, 1, none⟩ = some (.int .i64 mv) := cell_of B1 rfl
      have q2 : wr.cell? ⟨w.heap.size, 2, none⟩ = some (.slice a1 n1 c1) := cell_of B1 rfl
      have q3 : wr.cell? ⟨w.heap.size, 3, none⟩ = some (.slice a2 n2 c2) := cell_of B1 rfl
      have q4 : wr.cell? ⟨w.heap.size, 4, none⟩ = some (.slice a3 n3 c3) := cell_of B1 rfl
      clear B1
      have hAr := HQ.out.1.on HY.out.2
      have TA := ahead_any wr N mv a1 a2 a3 n1 n2 c1 c2 c3 Ed gf _ _ (Nat.le_trans hN (by decide)) hAr.re (Nat.le_trans hAr.le (by decide)) hAr.prs HY.out.1
      rw [HQ.out.2.1] at TA
      clear hAr
      go_wp2_with (go_at_call 42; refine TA.mono ?_; rintro e w8 ⟨g8, rfl, h8, d8⟩; have J : Hid (MaskG W0.heap.size w8 g8 N (ahN Ed (inL Fi) (i + 1)) ∧ Below W0.heap.size W0 w8) := hide ⟨h8.lower HY.out.2.size, HY.out.2.trans (d8.mono HY.out.2.size)⟩; clear h8 d8)
      go_roundw
      case rel => exact ⟨i + 1, g8, by omega, rfl, by go_num, J⟩
      case measure => simp [intOf]; omega
    · have l0 : ¬ (i : Int) < (more : Int) := by omega
      have him : i = more := by omega
      rw [him] at HY
      have TB := rboth_any wr g gf N _ _ M _ (HQ.out.2.2.1.below HY.out.2) HY.out.1 (Nat.le_trans hN (by decide))
      go_wp2_with (go_at_call 41; refine TB.mono ?_; rintro e w8 ⟨rfl, hw⟩; obtain rfl := hw.symm; clear hw)
      go_ret
      exact ⟨rfl, HQ.out.2.2.2.1.trans (HY.out.2.mono HQ.out.2.2.2.1.size)⟩
end Go.Proofs.YtojnlpicgemlaabGreatDoor
