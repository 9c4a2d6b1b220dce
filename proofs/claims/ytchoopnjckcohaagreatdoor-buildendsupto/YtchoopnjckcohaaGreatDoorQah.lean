import Derived.Test.YtchoopnjckcohaaGreatDoorQag
import Derived.Laws.EntriesVeiled
import Derived.Test.YtchoopnjckcohaaGreatDoorQaf
import Derived.Deep.RegionHeld3
import Derived.RangeFuncRecord
import Derived.Test.YtchoopnjckcohaaGreatDoorQab
namespace Go.Proofs.YtchoopnjckcohaaGreatDoor
open Go.RowKit Go.Maps
attribute [local go_sem] Oper.semAt_some

/-! ### The lengths of the shortest ways -/
def stepE (bk : Bool) (Ed : List EdT) (p r : Nat) : Prop := ∃ e ∈ Ed, ends bk e = ((p : Int), (r : Int))
/-- While the lengths are laid out. -/
structure LenA (w wr : World) (b gl N fn i : Nat) (bx : Obj) : Prop where
  row : Mrw wr gl 3 N (fun _ => .int .i64 (-1)) i
  box : Mrw wr b 138 5 (sF (.func (.func fn) #[] #[]) (.slice none 0 0) 0 0 (.slice (some ⟨gl, 0, none⟩) N N)) 5
  arg : wr.heap[w.heap.size]? = some bx
  low : Below w.heap.size w wr
  lg : w.heap.size < gl
  lb : gl < b
theorem LenA.put {w wr : World} {b gl N fn i : Nat} {bx : Obj} (h : LenA w wr b gl N fn i bx) (hi : i < N) : LenA w (wr.setCell ⟨gl, i, none⟩ (.int .i64 (-1))) b gl N fn (i + 1) bx :=
  have o := only_set wr gl i (.int .i64 (-1))
  ⟨h.row.put hi _ rfl, h.box.only o (fun e => by have := h.lb; omega), (o.block _ (Array.getElem?_eq_some_iff.1 h.arg).1 (fun e => by have := h.lg; omega)).trans h.arg, h.low.trans (o.toBelow h.low.size (fun k hk => by have := h.lg; omega)), h.lg, h.lb⟩
/-- While the first states are met. -/
def LenB (w wb wr : World) (b gl N fn K : Nat) (Fr : List Int) (j : Nat) : Prop :=
  ∃ (T : List Nat) (len : Nat → Int) (m f : Nat) (ao : Option Addr), SrAt w.heap.size wr b (.func (.func fn) #[] #[]) gl N m f ao (natL T) len ∧ T.Nodup ∧ (∀ q, q ∈ T ↔ (q : Int) ∈ Fr.take j) ∧ (∀ q, len q = if q ∈ T then 0 else -1) ∧ m ≤ K ∧ unl N len + T.length ≤ N ∧ SFr w.heap.size wb wr
theorem unl_le (N : Nat) (len : Nat → Int) : unl N len ≤ N := by
  have := List.countP_le_length (p := fun q => decide (len q = -1)) (l := List.range N)
  rw [List.length_range] at this
  exact this
theorem lenB_nil {w wb : World} {b gl N fn K : Nat} {bx : Obj} (Fr : List Int) (h : LenA w wb b gl N fn N bx) : LenB w wb wb b gl N fn K Fr 0 :=
  ⟨[], fun _ => -1, 0, 0, none, ⟨⟨h.box, Nat.le_refl _, fun _ => ⟨rfl, rfl⟩, fun h0 => by omega⟩, h.row, by simp, by have := h.lg; have := h.lb; omega, by have := h.lg; omega, fun g e => by cases e⟩, List.nodup_nil, fun q => by simp, fun q => by simp, Nat.zero_le _, by have := unl_le N (fun _ => -1); simpa using this, SFr.refl _ _⟩
theorem lenB_old {w wb wr : World} {b gl N fn K : Nat} {Fr : List Int} {j p : Nat} {T : List Nat} {len : Nat → Int} {m f : Nat} {ao : Option Addr} (hs : SrAt w.heap.size wr b (.func (.func fn) #[] #[]) gl N m f ao (natL T) len) (hT : T.Nodup) (hq : ∀ q, q ∈ T ↔ (q : Int) ∈ Fr.take j) (hl : ∀ q, len q = if q ∈ T then 0 else -1) (hm : m ≤ K) (hu : unl N len + T.length ≤ N) (hf : SFr w.heap.size wb wr)
    (hj : j < Fr.length) (ep : Fr[j] = (p : Int)) (hp : p ∈ T) : LenB w wb wr b gl N fn K Fr (j + 1) := by
  refine ⟨T, len, m, f, ao, hs, hT, fun q => ?_, hl, hm, hu, hf⟩
  rw [List.take_add_one, List.getElem?_eq_getElem hj, ep, hq q]
  simp only [Option.toList_some, List.mem_append, List.mem_singleton]
  refine ⟨.inl, fun h => h.elim id fun e => ?_⟩
  have : q = p := by omega
  rw [this]
  exact (hq p).1 hp
theorem lenB_new {w wb w4 : World} {b gl N fn K : Nat} {Fr : List Int} {j p : Nat} {T : List Nat} {len : Nat → Int} {m f : Nat} {ao : Option Addr} (hs : SrAt w.heap.size w4 b (.func (.func fn) #[] #[]) gl N m f ao (natL T ++ [(p : Int)]) (fun c => if c = p then 0 else len c)) (hT : T.Nodup) (hq : ∀ q, q ∈ T ↔ (q : Int) ∈ Fr.take j) (hl : ∀ q, len q = if q ∈ T then 0 else -1) (hm : m ≤ K) (hu : unl N len + T.length ≤ N) (hf : SFr w.heap.size wb w4)
    (hj : j < Fr.length) (ep : Fr[j] = (p : Int)) (hpN : p < N) (hp : p ∉ T) : LenB w wb w4 b gl N fn K Fr (j + 1) := by
  have h1 : len p = -1 := by rw [hl p, if_neg hp]
  have hu2 := unl_put (len := len) (n := 0) hpN h1 (by omega)
  refine ⟨T ++ [p], putL len p 0, m, f, ao, by rw [natL_snoc]; exact hs, ?_, fun q => ?_, fun q => ?_, hm, by rw [List.length_append, List.length_singleton]; omega, hf⟩
  · rw [List.nodup_append]
    refine ⟨hT, by simp, fun a ha b hb e => ?_⟩
    simp at hb
    subst hb
    subst e
    exact hp ha
  · rw [List.take_add_one, List.getElem?_eq_getElem hj, ep]
    simp only [Option.toList_some, List.mem_append, List.mem_singleton]
    rw [hq q]
    exact or_congr Iff.rfl (by omega)
  · by_cases e : q = p
    · subst e
      rw [putL_same, if_pos (by simp)]
    · rw [putL_ne _ _ e, hl q]
      simp [e]
theorem len_le {N : Nat} {T : List Nat} {len : Nat → Int} (hl : ∀ q, len q = if q ∈ T then 0 else -1) (hu : unl N len + T.length ≤ N) : ∀ q, q < N → len q + (unl N len : Int) + 1 ≤ N := fun q _ => by
  have := unl_le N len
  have h := hl q
  by_cases e : q ∈ T
  · rw [if_pos e] at h
    have := List.length_pos_of_mem e
    omega
  · rw [if_neg e] at h; omega
theorem row_in {N : Nat} {bk : Bool} {Ed : List EdT} (h : ∀ e ∈ Ed, ∃ p r : Nat, p < N ∧ r < N ∧ ends bk e = ((p : Int), (r : Int))) : ∀ p, p < N → ∀ e ∈ rowI bk Ed p, ∃ r : Nat, r < N ∧ (ends bk e).2 = (r : Int) ∧ stepE bk Ed p r := fun p _ e he => by
  obtain ⟨h1, h2⟩ := List.mem_filter.1 he
  have h2 : (ends bk e).1 = (p : Int) := by simpa using h2
  obtain ⟨p', r, _, hr, e2⟩ := h e h1
  refine ⟨r, hr, by rw [e2], e, h1, ?_⟩
  rw [e2] at h2 ⊢
  exact Prod.ext h2 rfl
theorem row_all {bk : Bool} {Ed : List EdT} : ∀ p r, stepE bk Ed p r → ∃ e ∈ rowI bk Ed p, (ends bk e).2 = (r : Int) := fun p r ⟨e, he, h⟩ => ⟨e, List.mem_filter.2 ⟨he, by simp [h]⟩, by rw [h]⟩
set_option maxRecDepth 100000 in
set_option maxHeartbeats 4000000 in
theorem lengths_fwd (w : World) (N : Nat) (mv : Int) (a1 a2 a3 af : Option Addr) (n1 n2 c1 c2 c3 cf : Nat) (Ed : List EdT) (Fr : List Int) (hN : N ≤ 100000) (hr : RdE w a3 Ed) (hf : RdN w af Fr) (hE : Ed.length ≤ 1000000) (hF : Fr.length ≤ 4194304)
    (h1 : ∀ e ∈ Ed, ∃ p r : Nat, p < N ∧ r < N ∧ ends false e = ((p : Int), (r : Int))) (h2 : ∀ x ∈ Fr, ∃ q : Nat, q < N ∧ x = (q : Int)) :
    Calls Tryz.prog 114 #[.agg #[.int .i64 (N : Int), .int .i64 mv, .slice a1 n1 c1, .slice a2 n2 c2, .slice a3 Ed.length c3], .slice af Fr.length cf, .func (.func 119) #[] #[]] w fun e w' => ∃ gl, e = .returned (.slice (some ⟨gl, 0, none⟩) N N) ∧ w.heap.size ≤ gl ∧ (∃ len, Mrw w' gl 3 N (fun c => .int .i64 (len c)) N ∧ Bfs N (fun q => (q : Int) ∈ Fr) (stepE false Ed) [] len ∧ ∀ q, q < N → len q < N) ∧ Below w.heap.size w w' := by
  obtain ⟨L, eL⟩ : ∃ L, Ed.length = L := ⟨_, rfl⟩
  obtain ⟨M, eM⟩ : ∃ M, Fr.length = M := ⟨_, rfl⟩
  rw [eM] at hF
  rw [eL, eM]
  obtain ⟨i3, hi3, hz30, hz31, hz32⟩ := info_parts info3
  obtain ⟨W0, hW0⟩ : ∃ W0, w.alloc (.cells #[.int .i64 (N : Int), .int .i64 mv, .slice a1 n1 c1, .slice a2 n2 c2, .slice a3 L c3] 25) = W0 := ⟨_, rfl⟩
  have d0 : Below w.heap.size w W0 := by rw [← hW0]; exact (Below.refl _ _).alloc (Nat.le_refl _) _
  have B0 : W0.heap[w.heap.size]? = some (.cells #[.int .i64 (N : Int), .int .i64 mv, .slice a1 n1 c1, .slice a2 n2 c2, .slice a3 L c3] 25 (0, 0)) := by rw [← hW0]; exact World.alloc_heap_new _ _
  have k0 : W0.cell? ⟨w.heap.size, 0, none⟩ = some (.int .i64 (N : Int)) := cell_of B0 rfl
  have HR := hide (And.intro hr (And.intro hf (And.intro h1 (And.intro h2 (And.intro eL (And.intro eM hE))))))
  have HD := hide (And.intro d0 B0)
  clear d0 hr hf B0 h1 h2 eL eM hE
  go_enter Tryz.func114, Tryz.ntmps114
  go_wp2_with ((at_make; refine wpList_make_full _ rfl _ _ 22 rfl w.heap.size 3 i3 (.int .i64 0) 1 Tryz.underlying22 hi3 hz30 hz31 _ _ _ _ N rfl rfl (by go_num) (by go_num) (by rw [hz32]; omega) (by unfold maxLen; omega) HD.out.1.size ?_))
  intro w1 ho hg
  have D1 : Below w.heap.size w w1 := HD.out.1.grown hg HD.out.1.size (by intro k hk; cases hk)
  have D01 : Below W0.heap.size W0 w1 := (Below.refl _ _).grown hg (Nat.le_refl _) (by intro k hk; cases hk)
  have B1 := (D01.block _ (Array.getElem?_eq_some_iff.1 HD.out.2).1).trans HD.out.2
  have M1 : Mrw w1 W0.heap.size 3 (N * 1) (fun _ => .int .i64 (-1)) 0 := Mrw.ofRow _ ho
  rw [Nat.mul_one] at M1
  have hgB : w.heap.size < W0.heap.size := (Array.getElem?_eq_some_iff.1 HD.out.2).1
  have HD1 := hide (And.intro D1 (And.intro B1 (And.intro M1 hgB)))
  clear ho hg D1 D01 B1 M1 hgB
  go_wp2_with fail
  obtain ⟨W2, hW2⟩ : ∃ W2, w1.alloc (.cells #[.func (.func 119) #[] #[], .slice none 0 0, .int .i64 0, .int .i64 0, .slice (some ⟨W0.heap.size, 0, none⟩) N N] 138) = W2 := ⟨_, rfl⟩
  have I0 : LenA w W2 w1.heap.size W0.heap.size N 119 0 (.cells #[.int .i64 (N : Int), .int .i64 mv, .slice a1 n1 c1, .slice a2 n2 c2, .slice a3 L c3] 25 (0, 0)) := by
    have d2 : Below w1.heap.size w1 W2 := by rw [← hW2]; exact (Below.refl _ _).alloc (Nat.le_refl _) _
    refine ⟨HD1.out.2.2.1.below d2 HD1.out.2.2.1.lt, ⟨_, by rw [← hW2]; exact World.alloc_heap_new _ _, rfl, fun j hj => ?_⟩, (d2.block _ (Array.getElem?_eq_some_iff.1 HD1.out.2.1).1).trans HD1.out.2.1, HD1.out.1.trans (d2.mono HD1.out.1.size), HD1.out.2.2.2, HD1.out.2.2.1.lt⟩
    rcases j with _ | _ | _ | _ | _ | j
    · rfl
    · rfl
    · rfl
    · rfl
    · rfl
    · omega
  rw [hW2]
  clear hW2 HD1 HD k0 hW0
  generalize w1.heap.size = b at I0
  generalize W0.heap.size = gl at I0
  have HI := hide I0
  clear I0
  go_loopw [19] (fun iv wr => ∃ i : Nat, i ≤ N ∧ iv = .int .i64 (i : Int) ∧ Hid (LenA w wr b gl N 119 i (.cells #[.int .i64 (N : Int), .int .i64 mv, .slice a1 n1 c1, .slice a2 n2 c2, .slice a3 L c3] 25 (0, 0)))) (fun iv _ => N - (intOf iv).toNat)
  case atStart => exact ⟨0, Nat.zero_le _, rfl, HI⟩
  case round =>
    obtain ⟨i, hi, rfl, HY⟩ := hrel
    by_cases hlt : i < N
    · have l0 : (i : Int) < (N : Int) := by omega
      have i0 : (0 : Int) ≤ (i : Int) := by omega
      have c4 : wr.cell? ⟨b, 4, none⟩ = some (.slice (some ⟨gl, 0, none⟩) N N) := HY.out.box.at 4 (by omega)
      obtain ⟨u, cu⟩ := HY.out.row.cell i hlt
      have zu : wr.frozen? ⟨gl, i, none⟩ = false := HY.out.row.fz i
      go_wp2_with fail
      have J := hide (HY.out.put hlt)
      go_roundw
      case rel => exact ⟨i + 1, by omega, by go_num, J⟩
      case measure => simp [intOf]; omega
    · have l0 : ¬ (i : Int) < (N : Int) := by omega
      have hiN : i = N := by omega
      rw [hiN] at HY
      rename World => wb
      have HB0 := hide (lenB_nil (K := 2 * N + 1) Fr HY.out)
      go_wp2_with fail
      go_loopw [29] (fun iv wr => ∃ j : Nat, j ≤ M ∧ iv = .int .i64 (j : Int) ∧ Hid (LenB w wb wr b gl N 119 (2 * N + 1) Fr j)) (fun iv _ => M - (intOf iv).toNat)
      case atStart => exact ⟨0, Nat.zero_le _, rfl, HB0⟩
      case round =>
        obtain ⟨j, hj, rfl, HZ⟩ := hrel
        obtain ⟨T, len, m, f, ao, hs, hT, hq, hl, hm, hu, hfr⟩ := HZ.out
        by_cases hlt : j < M
        · have l1 : (j : Int) < (M : Int) := by omega
          have i1 : (0 : Int) ≤ (j : Int) := by omega
          have hjr : j < Fr.length := by have := HR.out.2.2.2.2.2.1; omega
          obtain ⟨g, o, rfl, r1⟩ := (HR.out.2.1.on (HY.out.low.trans (hfr.toBelow HY.out.low.size))) j hjr
          obtain ⟨p, hpN, ep⟩ := HR.out.2.2.2.1 Fr[j] (List.getElem_mem hjr)
          rw [ep] at r1
          have HS := hide hs
          clear hs HZ
          by_cases hpT : p ∈ T
          · have hn : len p ≠ -1 := by rw [hl p, if_pos hpT]; omega
            go_wp2_with (go_at_call 139; refine (meet_old w.heap.size wr b _ gl N m f ao (natL T) len p 0 HS.out hpN hn).mono ?_; rintro e w4 ⟨rfl, hw⟩; obtain rfl := hw.symm; clear hw)
            have J := hide (lenB_old HS.out hT hq hl hm hu hfr hjr ep hpT)
            go_roundw
            case rel => exact ⟨j + 1, by omega, by go_num, J⟩
            case measure => simp [intOf]; omega
          · have hn : len p = -1 := by rw [hl p, if_neg hpT]
            go_wp2_with (go_at_call 139; refine (meet_new w.heap.size wr b _ gl N m f ao (natL T) len p 0 (2 * N + 1) HS.out hpN hn hm (by rw [natL_len]; omega) (by omega) (Nat.le_trans HY.out.low.size hfr.size)).mono ?_; rintro e w4 ⟨rfl, m4, f4, ao4, h4, hm4, hf4⟩)
            have J := hide (lenB_new h4 hT hq hl hm4 hu (hfr.trans hf4) hjr ep hpN hpT)
            clear h4 hm4 hf4
            go_roundw
            case rel => exact ⟨j + 1, by omega, by go_num, J⟩
            case measure => simp [intOf]; omega
        · have l1 : ¬ (j : Int) < (M : Int) := by omega
          have hjM : j = Fr.length := by have := HR.out.2.2.2.2.2.1; omega
          rw [hjM, List.take_length] at hq
          have D3 : Below w.heap.size w wr := HY.out.low.trans (hfr.toBelow HY.out.low.size)
          have B3 := (hfr.block _ (Array.getElem?_eq_some_iff.1 HY.out.arg).1 (.inr ⟨_, _, _, HY.out.arg, by decide, by decide⟩)).trans HY.out.arg
          have k0 : wr.cell? ⟨w.heap.size, 0, none⟩ = some (.int .i64 (N : Int)) := cell_of B3 rfl
          have k1 : wr.cell? ⟨w.heap.size, 1, none⟩ = some (.int .i64 mv) := cell_of B3 rfl
          have k2 : wr.cell? ⟨w.heap.size, 2, none⟩ = some (.slice a1 n1 c1) := cell_of B3 rfl
          have k3 : wr.cell? ⟨w.heap.size, 3, none⟩ = some (.slice a2 n2 c2) := cell_of B3 rfl
          have k4 : wr.cell? ⟨w.heap.size, 4, none⟩ = some (.slice a3 L c3) := cell_of B3 rfl
          have hb : Bfs N (fun q => (q : Int) ∈ Fr) (stepE false Ed) T len := Bfs.first hT (fun q => (hq q).symm) (fun q hq' => by
            obtain ⟨q', h1, h2⟩ := HR.out.2.2.2.1 _ hq'
            omega) hl
          have HS := hide (And.intro hs (And.intro hb (And.intro D3 (And.intro hu hl))))
          clear hs hb hT hq HZ
          have TG := grouped_fwd wr N mv a1 a2 a3 n1 n2 c1 c2 c3 Ed hN (HR.out.1.on D3) HR.out.2.2.2.2.2.2 (fun e he => by
            obtain ⟨p, r, h1, h2, h3⟩ := HR.out.2.2.1 e he
            exact ⟨p, h1, by rw [h3]⟩)
          rw [HR.out.2.2.2.2.1] at TG
          go_wp2_with (go_at_call 141; refine TG.mono ?_; rintro e w5 ⟨H, rfl, ⟨F, hG⟩, d5⟩)
          have TR := run_fwd w.heap.size w5 b gl N m f ao T len H (2 * N + 1) (rowI false Ed) _ (stepE false Ed) (HS.out.1.below d5) HS.out.2.1 hG.at hm (Nat.le_refl _) (by omega) HS.out.2.2.2.1 (len_le HS.out.2.2.2.2 HS.out.2.2.2.1) (Nat.le_trans D3.size d5.size) (row_in HR.out.2.2.1) (row_all (bk := false) (Ed := Ed)) (fun p _ => Nat.le_trans (List.length_filter_le _ _) HR.out.2.2.2.2.2.2)
          have HG5 := hide (And.intro hG d5)
          have HD3 := hide D3
          clear hG d5 TG D3 hfr k0 k1 k2 k3 k4 B3
          go_wp2_with (go_at_call 140; refine TR.mono ?_; rintro e w6 ⟨rfl, len6, m6, f6, ao6, h6, hb6, hl6, hf6⟩; have c6 : w6.cell? ⟨b, 4, none⟩ = some (.slice (some ⟨gl, 0, none⟩) N N) := h6.ring.box.at 4 (by omega); have H6 := hide (And.intro h6 (And.intro hb6 (And.intro hl6 hf6))); clear h6 hb6 hl6 hf6)
          go_ret
          exact ⟨gl, rfl, Nat.le_of_lt HY.out.lg, ⟨len6, H6.out.1.row, H6.out.2.1, H6.out.2.2.1⟩, (HD3.out.trans (HG5.out.2.mono HD3.out.size)).trans (H6.out.2.2.2.toBelow (Nat.le_trans HD3.out.size HG5.out.2.size))⟩
set_option maxRecDepth 100000 in
set_option maxHeartbeats 4000000 in
theorem lengths_bwd (w : World) (N : Nat) (mv : Int) (a1 a2 a3 af : Option Addr) (n1 n2 c1 c2 c3 cf : Nat) (Ed : List EdT) (Fr : List Int) (hN : N ≤ 100000) (hr : RdE w a3 Ed) (hf : RdN w af Fr) (hE : Ed.length ≤ 1000000) (hF : Fr.length ≤ 4194304)
    (h1 : ∀ e ∈ Ed, ∃ p r : Nat, p < N ∧ r < N ∧ ends true e = ((p : Int), (r : Int))) (h2 : ∀ x ∈ Fr, ∃ q : Nat, q < N ∧ x = (q : Int)) :
    Calls Tryz.prog 114 #[.agg #[.int .i64 (N : Int), .int .i64 mv, .slice a1 n1 c1, .slice a2 n2 c2, .slice a3 Ed.length c3], .slice af Fr.length cf, .func (.func 115) #[] #[]] w fun e w' => ∃ gl, e = .returned (.slice (some ⟨gl, 0, none⟩) N N) ∧ w.heap.size ≤ gl ∧ (∃ len, Mrw w' gl 3 N (fun c => .int .i64 (len c)) N ∧ Bfs N (fun q => (q : Int) ∈ Fr) (stepE true Ed) [] len ∧ ∀ q, q < N → len q < N) ∧ Below w.heap.size w w' := by
  obtain ⟨L, eL⟩ : ∃ L, Ed.length = L := ⟨_, rfl⟩
  obtain ⟨M, eM⟩ : ∃ M, Fr.length = M := ⟨_, rfl⟩
  rw [eM] at hF
  rw [eL, eM]
  obtain ⟨i3, hi3, hz30, hz31, hz32⟩ := info_parts info3
  obtain ⟨W0, hW0⟩ : ∃ W0, w.alloc (.cells #[.int .i64 (N : Int), .int .i64 mv, .slice a1 n1 c1, .slice a2 n2 c2, .slice a3 L c3] 25) = W0 := ⟨_, rfl⟩
  have d0 : Below w.heap.size w W0 := by rw [← hW0]; exact (Below.refl _ _).alloc (Nat.le_refl _) _
  have B0 : W0.heap[w.heap.size]? = some (.cells #[.int .i64 (N : Int), .int .i64 mv, .slice a1 n1 c1, .slice a2 n2 c2, .slice a3 L c3] 25 (0, 0)) := by rw [← hW0]; exact World.alloc_heap_new _ _
  have k0 : W0.cell? ⟨w.heap.size, 0, none⟩ = some (.int .i64 (N : Int)) := cell_of B0 rfl
  have HR := hide (And.intro hr (And.intro hf (And.intro h1 (And.intro h2 (And.intro eL (And.intro eM hE))))))
  have HD := hide (And.intro d0 B0)
  clear d0 hr hf B0 h1 h2 eL eM hE
  go_enter Tryz.func114, Tryz.ntmps114
  go_wp2_with ((at_make; refine wpList_make_full _ rfl _ _ 22 rfl w.heap.size 3 i3 (.int .i64 0) 1 Tryz.underlying22 hi3 hz30 hz31 _ _ _ _ N rfl rfl (by go_num) (by go_num) (by rw [hz32]; omega) (by unfold maxLen; omega) HD.out.1.size ?_))
  intro w1 ho hg
  have D1 : Below w.heap.size w w1 := HD.out.1.grown hg HD.out.1.size (by intro k hk; cases hk)
  have D01 : Below W0.heap.size W0 w1 := (Below.refl _ _).grown hg (Nat.le_refl _) (by intro k hk; cases hk)
  have B1 := (D01.block _ (Array.getElem?_eq_some_iff.1 HD.out.2).1).trans HD.out.2
  have M1 : Mrw w1 W0.heap.size 3 (N * 1) (fun _ => .int .i64 (-1)) 0 := Mrw.ofRow _ ho
  rw [Nat.mul_one] at M1
  have hgB : w.heap.size < W0.heap.size := (Array.getElem?_eq_some_iff.1 HD.out.2).1
  have HD1 := hide (And.intro D1 (And.intro B1 (And.intro M1 hgB)))
  clear ho hg D1 D01 B1 M1 hgB
  go_wp2_with fail
  obtain ⟨W2, hW2⟩ : ∃ W2, w1.alloc (.cells #[.func (.func 115) #[] #[], .slice none 0 0, .int .i64 0, .int .i64 0, .slice (some ⟨W0.heap.size, 0, none⟩) N N] 138) = W2 := ⟨_, rfl⟩
  have I0 : LenA w W2 w1.heap.size W0.heap.size N 115 0 (.cells #[.int .i64 (N : Int), .int .i64 mv, .slice a1 n1 c1, .slice a2 n2 c2, .slice a3 L c3] 25 (0, 0)) := by
    have d2 : Below w1.heap.size w1 W2 := by rw [← hW2]; exact (Below.refl _ _).alloc (Nat.le_refl _) _
    refine ⟨HD1.out.2.2.1.below d2 HD1.out.2.2.1.lt, ⟨_, by rw [← hW2]; exact World.alloc_heap_new _ _, rfl, fun j hj => ?_⟩, (d2.block _ (Array.getElem?_eq_some_iff.1 HD1.out.2.1).1).trans HD1.out.2.1, HD1.out.1.trans (d2.mono HD1.out.1.size), HD1.out.2.2.2, HD1.out.2.2.1.lt⟩
    rcases j with _ | _ | _ | _ | _ | j
    · rfl
    · rfl
    · rfl
    · rfl
    · rfl
    · omega
  rw [hW2]
  clear hW2 HD1 HD k0 hW0
  generalize w1.heap.size = b at I0
  generalize W0.heap.size = gl at I0
  have HI := hide I0
  clear I0
  go_loopw [19] (fun iv wr => ∃ i : Nat, i ≤ N ∧ iv = .int .i64 (i : Int) ∧ Hid (LenA w wr b gl N 115 i (.cells #[.int .i64 (N : Int), .int .i64 mv, .slice a1 n1 c1, .slice a2 n2 c2, .slice a3 L c3] 25 (0, 0)))) (fun iv _ => N - (intOf iv).toNat)
  case atStart => exact ⟨0, Nat.zero_le _, rfl, HI⟩
  case round =>
    obtain ⟨i, hi, rfl, HY⟩ := hrel
    by_cases hlt : i < N
    · have l0 : (i : Int) < (N : Int) := by omega
      have i0 : (0 : Int) ≤ (i : Int) := by omega
      have c4 : wr.cell? ⟨b, 4, none⟩ = some (.slice (some ⟨gl, 0, none⟩) N N) := HY.out.box.at 4 (by omega)
      obtain ⟨u, cu⟩ := HY.out.row.cell i hlt
      have zu : wr.frozen? ⟨gl, i, none⟩ = false := HY.out.row.fz i
      go_wp2_with fail
      have J := hide (HY.out.put hlt)
      go_roundw
      case rel => exact ⟨i + 1, by omega, by go_num, J⟩
      case measure => simp [intOf]; omega
    · have l0 : ¬ (i : Int) < (N : Int) := by omega
      have hiN : i = N := by omega
      rw [hiN] at HY
      rename World => wb
      have HB0 := hide (lenB_nil (K := 2 * N + 1) Fr HY.out)
      go_wp2_with fail
      go_loopw [29] (fun iv wr => ∃ j : Nat, j ≤ M ∧ iv = .int .i64 (j : Int) ∧ Hid (LenB w wb wr b gl N 115 (2 * N + 1) Fr j)) (fun iv _ => M - (intOf iv).toNat)
      case atStart => exact ⟨0, Nat.zero_le _, rfl, HB0⟩
      case round =>
        obtain ⟨j, hj, rfl, HZ⟩ := hrel
        obtain ⟨T, len, m, f, ao, hs, hT, hq, hl, hm, hu, hfr⟩ := HZ.out
        by_cases hlt : j < M
        · have l1 : (j : Int) < (M : Int) := by omega
          have i1 : (0 : Int) ≤ (j : Int) := by omega
          have hjr : j < Fr.length := by have := HR.out.2.2.2.2.2.1; omega
          obtain ⟨g, o, rfl, r1⟩ := (HR.out.2.1.on (HY.out.low.trans (hfr.toBelow HY.out.low.size))) j hjr
          obtain ⟨p, hpN, ep⟩ := HR.out.2.2.2.1 Fr[j] (List.getElem_mem hjr)
          rw [ep] at r1
          have HS := hide hs
          clear hs HZ
          by_cases hpT : p ∈ T
          · have hn : len p ≠ -1 := by rw [hl p, if_pos hpT]; omega
            go_wp2_with (go_at_call 139; refine (meet_old w.heap.size wr b _ gl N m f ao (natL T) len p 0 HS.out hpN hn).mono ?_; rintro e w4 ⟨rfl, hw⟩; obtain rfl := hw.symm; clear hw)
            have J := hide (lenB_old HS.out hT hq hl hm hu hfr hjr ep hpT)
            go_roundw
            case rel => exact ⟨j + 1, by omega, by go_num, J⟩
            case measure => simp [intOf]; omega
          · have hn : len p = -1 := by rw [hl p, if_neg hpT]
            go_wp2_with (go_at_call 139; refine (meet_new w.heap.size wr b _ gl N m f ao (natL T) len p 0 (2 * N + 1) HS.out hpN hn hm (by rw [natL_len]; omega) (by omega) (Nat.le_trans HY.out.low.size hfr.size)).mono ?_; rintro e w4 ⟨rfl, m4, f4, ao4, h4, hm4, hf4⟩)
            have J := hide (lenB_new h4 hT hq hl hm4 hu (hfr.trans hf4) hjr ep hpN hpT)
            clear h4 hm4 hf4
            go_roundw
            case rel => exact ⟨j + 1, by omega, by go_num, J⟩
            case measure => simp [intOf]; omega
        · have l1 : ¬ (j : Int) < (M : Int) := by omega
          have hjM : j = Fr.length := by have := HR.out.2.2.2.2.2.1; omega
          rw [hjM, List.take_length] at hq
          have D3 : Below w.heap.size w wr := HY.out.low.trans (hfr.toBelow HY.out.low.size)
          have B3 := (hfr.block _ (Array.getElem?_eq_some_iff.1 HY.out.arg).1 (.inr ⟨_, _, _, HY.out.arg, by decide, by decide⟩)).trans HY.out.arg
          have k0 : wr.cell? ⟨w.heap.size, 0, none⟩ = some (.int .i64 (N : Int)) := cell_of B3 rfl
          have k1 : wr.cell? ⟨w.heap.size, 1, none⟩ = some (.int .i64 mv) := cell_of B3 rfl
          have k2 : wr.cell? ⟨w.heap.size, 2, none⟩ = some (.slice a1 n1 c1) := cell_of B3 rfl
          have k3 : wr.cell? ⟨w.heap.size, 3, none⟩ = some (.slice a2 n2 c2) := cell_of B3 rfl
          have k4 : wr.cell? ⟨w.heap.size, 4, none⟩ = some (.slice a3 L c3) := cell_of B3 rfl
          have hb : Bfs N (fun q => (q : Int) ∈ Fr) (stepE true Ed) T len := Bfs.first hT (fun q => (hq q).symm) (fun q hq' => by
            obtain ⟨q', h1, h2⟩ := HR.out.2.2.2.1 _ hq'
            omega) hl
          have HS := hide (And.intro hs (And.intro hb (And.intro D3 (And.intro hu hl))))
          clear hs hb hT hq HZ
          have TG := grouped_bwd wr N mv a1 a2 a3 n1 n2 c1 c2 c3 Ed hN (HR.out.1.on D3) HR.out.2.2.2.2.2.2 (fun e he => by
            obtain ⟨p, r, h1, h2, h3⟩ := HR.out.2.2.1 e he
            exact ⟨p, h1, by rw [h3]⟩)
          rw [HR.out.2.2.2.2.1] at TG
          go_wp2_with (go_at_call 141; refine TG.mono ?_; rintro e w5 ⟨H, rfl, ⟨F, hG⟩, d5⟩)
          have TR := run_bwd w.heap.size w5 b gl N m f ao T len H (2 * N + 1) (rowI true Ed) _ (stepE true Ed) (HS.out.1.below d5) HS.out.2.1 hG.at hm (Nat.le_refl _) (by omega) HS.out.2.2.2.1 (len_le HS.out.2.2.2.2 HS.out.2.2.2.1) (Nat.le_trans D3.size d5.size) (row_in HR.out.2.2.1) (row_all (bk := true) (Ed := Ed)) (fun p _ => Nat.le_trans (List.length_filter_le _ _) HR.out.2.2.2.2.2.2)
          have HG5 := hide (And.intro hG d5)
          have HD3 := hide D3
          clear hG d5 TG D3 hfr k0 k1 k2 k3 k4 B3
          go_wp2_with (go_at_call 140; refine TR.mono ?_; rintro e w6 ⟨rfl, len6, m6, f6, ao6, h6, hb6, hl6, hf6⟩; have c6 : w6.cell? ⟨b, 4, none⟩ = some (.slice (some ⟨gl, 0, none⟩) N N) := h6.ring.box.at 4 (by omega); have H6 := hide (And.intro h6 (And.intro hb6 (And.intro hl6 hf6))); clear h6 hb6 hl6 hf6)
          go_ret
          exact ⟨gl, rfl, Nat.le_of_lt HY.out.lg, ⟨len6, H6.out.1.row, H6.out.2.1, H6.out.2.2.1⟩, (HD3.out.trans (HG5.out.2.mono HD3.out.size)).trans (H6.out.2.2.2.toBelow (Nat.le_trans HD3.out.size HG5.out.2.size))⟩
end Go.Proofs.YtchoopnjckcohaaGreatDoor
namespace Go.Proofs.YtchoopnjckcohaaGreatDoor
open Go.RowKit Go.Maps
attribute [local go_sem] Oper.semAt_some

/-! ### An automaton in order -/
theorem own_on {w w' : World} {B C g cap n : Nat} {e : TypeId} {sz : Nat} {xs : List Value} (h : w.ownsRow B e sz (.slice (some ⟨g, 0, none⟩) n cap) n xs) (d : Below C w w') (hC : g < C) : w'.ownsRow B e sz (.slice (some ⟨g, 0, none⟩) n cap) n xs := by
  refine ⟨h.1, ?_⟩
  rcases h.2 with ⟨hv, _⟩ | ⟨g', cap', cur, hv, hb, hg, rest⟩
  · cases hv
  · cases hv
    exact .inr ⟨g, cap, cur, rfl, hb, (d.block _ hC).trans hg, rest⟩
theorem own_at {w : World} {B g cap n : Nat} {e : TypeId} {sz : Nat} {xs : List Value} (h : w.ownsRow B e sz (.slice (some ⟨g, 0, none⟩) n cap) n xs) : B ≤ g ∧ g < w.heap.size := by
  rcases h.2 with ⟨hv, _⟩ | ⟨g', cap', cur, hv, hb, hg, rest⟩
  · cases hv
  · cases hv
    exact ⟨hb, (Array.getElem?_eq_some_iff.1 hg).1⟩
theorem own_only {w w' : World} {B q g cap n : Nat} {e : TypeId} {sz : Nat} {xs : List Value} (h : w.ownsRow B e sz (.slice (some ⟨g, 0, none⟩) n cap) n xs) (ho : Only w w' (fun k => k = q)) (hq : g ≠ q) : w'.ownsRow B e sz (.slice (some ⟨g, 0, none⟩) n cap) n xs :=
  row_only h ho fun k hk => by cases hk; exact hq
theorem set5 (w : World) (b : Nat) (v0 v1 v2 v3 v4 u0 u1 u2 u3 u4 : Value) (t : TypeId) (h : w.heap[b]? = some (.cells #[v0, v1, v2, v3, v4] t (0, 0))) :
    (((((w.setCell ⟨b, 0, none⟩ u0).setCell ⟨b, 1, none⟩ u1).setCell ⟨b, 2, none⟩ u2).setCell ⟨b, 3, none⟩ u3).setCell ⟨b, 4, none⟩ u4).heap[b]? = some (.cells #[u0, u1, u2, u3, u4] t (0, 0)) :=
  heap_setCell_same _ _ 4 _ t _ (heap_setCell_same _ _ 3 _ t _ (heap_setCell_same _ _ 2 _ t _ (heap_setCell_same _ _ 1 _ t _ (heap_setCell_same _ _ 0 _ t _ h))))
theorem only5 (w : World) (b : Nat) (u0 u1 u2 u3 u4 : Value) : Only w (((((w.setCell ⟨b, 0, none⟩ u0).setCell ⟨b, 1, none⟩ u1).setCell ⟨b, 2, none⟩ u2).setCell ⟨b, 3, none⟩ u3).setCell ⟨b, 4, none⟩ u4) (fun k => k = b) :=
  ((((only_set w _ 0 _).trans (only_set _ _ 1 _)).trans (only_set _ _ 2 _)).trans (only_set _ _ 3 _)).trans (only_set _ _ 4 _)
/-- An automaton whose lists lie in rows of their own, in order, each entry once. -/
structure Own (B : Nat) (w : World) (g1 k1 g2 k2 g3 k3 : Nat) (S F : List Int) (E : List EdT) : Prop where
  s : w.ownsRow B 3 1 (.slice (some ⟨g1, 0, none⟩) S.length k1) S.length (S.map (Value.int .i64))
  f : w.ownsRow B 3 1 (.slice (some ⟨g2, 0, none⟩) F.length k2) F.length (F.map (Value.int .i64))
  e : w.ownsRow B 61 3 (.slice (some ⟨g3, 0, none⟩) E.length k3) E.length (E.flatMap encE)
  n12 : g1 ≠ g2
  n13 : g1 ≠ g3
  n23 : g2 ≠ g3
set_option maxRecDepth 100000 in
set_option maxHeartbeats 4000000 in
theorem inOrder_any (w : World) (n m : Int) (a1 a2 a3 : Option Addr) (c1 c2 c3 : Nat) (St Fi : List Int) (Ed : List EdT) (hA : Hid (RdA w a1 a2 a3 St Fi Ed)) (h1 : St.length ≤ 4194304) (h2 : Fi.length ≤ 4194304) (h3 : Ed.length ≤ 4194304) :
    Calls Tryz.prog 81 #[.agg #[.int .i64 n, .int .i64 m, .slice a1 St.length c1, .slice a2 Fi.length c2, .slice a3 Ed.length c3]] w fun e w' => ∃ g1 k1 g2 k2 g3 k3, e = .returned (.agg #[.int .i64 n, .int .i64 m, .slice (some ⟨g1, 0, none⟩) (riseL St).length k1, .slice (some ⟨g2, 0, none⟩) (riseL Fi).length k2, .slice (some ⟨g3, 0, none⟩) (riseE Ed).length k3]) ∧ Own w.heap.size w' g1 k1 g2 k2 g3 k3 (riseL St) (riseL Fi) (riseE Ed) ∧ Below w.heap.size w w' := by
  obtain ⟨W0, hW0⟩ : ∃ W0, (w.alloc (.cells #[.int .i64 n, .int .i64 m, .slice a1 St.length c1, .slice a2 Fi.length c2, .slice a3 Ed.length c3] 25)).alloc (.cells #[.int .i64 0, .int .i64 0, .slice none 0 0, .slice none 0 0, .slice none 0 0] 25) = W0 := ⟨_, rfl⟩
  have d0 : Below w.heap.size w W0 := by rw [← hW0]; exact ((Below.refl _ _).alloc (Nat.le_refl _) _).alloc (by simp) _
  have b0 : W0.heap[w.heap.size]? = some (.cells #[.int .i64 n, .int .i64 m, .slice a1 St.length c1, .slice a2 Fi.length c2, .slice a3 Ed.length c3] 25 (0, 0)) := by rw [← hW0]; exact (Below.heap_alloc _ _ _ (by simp)).trans (World.alloc_heap_new _ _)
  have b1 : W0.heap[w.heap.size + 1]? = some (.cells #[.int .i64 0, .int .i64 0, .slice none 0 0, .slice none 0 0, .slice none 0 0] 25 (0, 0)) := by
    rw [← hW0]
    have := World.alloc_heap_new (w.alloc (.cells #[.int .i64 n, .int .i64 m, .slice a1 St.length c1, .slice a2 Fi.length c2, .slice a3 Ed.length c3] 25)) (.cells #[.int .i64 0, .int .i64 0, .slice none 0 0, .slice none 0 0, .slice none 0 0] 25)
    simpa using this
  have z0 : W0.heap.size = w.heap.size + 2 := by rw [← hW0]; simp
  have HA := hide (hA.out.on d0)
  have HD := hide (And.intro d0 (And.intro b0 (And.intro b1 z0)))
  have CK := hide (fun (W2 : World) (d : Below W0.heap.size W0 W2) => show W2.cell? ⟨w.heap.size, 0, none⟩ = some (.int .i64 n) ∧ W2.cell? ⟨w.heap.size, 1, none⟩ = some (.int .i64 m) ∧ W2.cell? ⟨w.heap.size, 2, none⟩ = some (.slice a1 St.length c1) ∧ W2.cell? ⟨w.heap.size, 3, none⟩ = some (.slice a2 Fi.length c2) ∧ W2.cell? ⟨w.heap.size, 4, none⟩ = some (.slice a3 Ed.length c3) from by
    have e := blk_on HD.out.2.1 d
    exact ⟨cell_of e rfl, cell_of e rfl, cell_of e rfl, cell_of e rfl, cell_of e rfl⟩)
  have FK := hide (fun (W2 : World) (d : Below W0.heap.size W0 W2) => show W2.heap[w.heap.size + 1]? = some (.cells #[.int .i64 0, .int .i64 0, .slice none 0 0, .slice none 0 0, .slice none 0 0] 25 (0, 0)) from blk_on HD.out.2.2.1 d)
  have T1 := hide (fun (W2 : World) (d : Below W0.heap.size W0 W2) => states_any W2 a1 c1 St (hide (HA.out.s.on d)) h1)
  have T2 := hide (fun (W2 : World) (d : Below W0.heap.size W0 W2) => states_any W2 a2 c2 Fi (hide (HA.out.f.on d)) h2)
  have T3 := hide (fun (W2 : World) (d : Below W0.heap.size W0 W2) => edges_any W2 a3 c3 Ed (hide (HA.out.e.on d)) h3)
  generalize riseL St = S1 at T1 ⊢
  generalize riseL Fi = F1 at T2 ⊢
  generalize riseE Ed = E1 at T3 ⊢
  have S0 := CK.out W0 (Below.refl _ _)
  clear d0 b0 b1 z0
  go_enter Tryz.func81, Tryz.ntmps81
  go_upto_region 1 with fail
  go_region_held3 (fun W2 => W2.cell? ⟨w.heap.size, 0, none⟩ = some (.int .i64 n) ∧ W2.cell? ⟨w.heap.size, 1, none⟩ = some (.int .i64 m) ∧ W2.cell? ⟨w.heap.size, 2, none⟩ = some (.slice a1 St.length c1) ∧ W2.cell? ⟨w.heap.size, 3, none⟩ = some (.slice a2 Fi.length c2) ∧ W2.cell? ⟨w.heap.size, 4, none⟩ = some (.slice a3 Ed.length c3))
    (first | go_keep | assumption)
    ((first
      | (go_at_call_of 120 a1; refine (T1.out _ (by exact (Below.refl _ W0).drew)).mono ?_; rintro e wa ⟨g1, k1, rfl, hr1, da⟩; have da2 : Below W0.heap.size W0 wa := ⟨da.os, da.tape, da.output, da.size, da.block⟩; have S2 := CK.out wa da2; have H1 := hide (And.intro hr1 da2); clear hr1 da da2)
      | (go_at_call_of 120 a2; refine (T2.out wa H1.out.2).mono ?_; rintro e wb ⟨g2, k2, rfl, hr2, db⟩; have db2 : Below W0.heap.size W0 wb := H1.out.2.trans (db.mono H1.out.2.size); have S3 := CK.out wb db2; have H2 := hide (And.intro hr2 (And.intro db db2)); clear hr2 db db2)
      | (go_at_call_of 121 a3; refine (T3.out wb H2.out.2.2).mono ?_; rintro e wc ⟨g3, k3, rfl, hr3, dc⟩; have dc2 : Below W0.heap.size W0 wc := H2.out.2.2.trans (dc.mono H2.out.2.2.size); have S4 := CK.out wc dc2; have F3 := FK.out wc dc2; have o0 : wc.cell? ⟨w.heap.size + 1, 0, none⟩ = some (.int .i64 0) := cell_of F3 rfl; have f0 : wc.frozen? ⟨w.heap.size + 1, 0, none⟩ = false := fz_of F3; have o1 : wc.cell? ⟨w.heap.size + 1, 1, none⟩ = some (.int .i64 0) := cell_of F3 rfl; have f1 : wc.frozen? ⟨w.heap.size + 1, 1, none⟩ = false := fz_of F3; have o2 : wc.cell? ⟨w.heap.size + 1, 2, none⟩ = some (.slice none 0 0) := cell_of F3 rfl; have f2 : wc.frozen? ⟨w.heap.size + 1, 2, none⟩ = false := fz_of F3; have o3 : wc.cell? ⟨w.heap.size + 1, 3, none⟩ = some (.slice none 0 0) := cell_of F3 rfl; have f3 : wc.frozen? ⟨w.heap.size + 1, 3, none⟩ = false := fz_of F3; have o4 : wc.cell? ⟨w.heap.size + 1, 4, none⟩ = some (.slice none 0 0) := cell_of F3 rfl; have f4 : wc.frozen? ⟨w.heap.size + 1, 4, none⟩ = false := fz_of F3; have H3 := hide (And.intro hr3 (And.intro dc dc2)); clear hr3 dc dc2)))
  obtain ⟨W6, hW6⟩ : ∃ W6, (((((wc.setCell ⟨w.heap.size + 1, 0, none⟩ (.int .i64 n)).setCell ⟨w.heap.size + 1, 1, none⟩ (.int .i64 m)).setCell ⟨w.heap.size + 1, 2, none⟩ (.slice (some ⟨g1, 0, none⟩) S1.length k1)).setCell ⟨w.heap.size + 1, 3, none⟩ (.slice (some ⟨g2, 0, none⟩) F1.length k2)).setCell ⟨w.heap.size + 1, 4, none⟩ (.slice (some ⟨g3, 0, none⟩) E1.length k3)) = W6 := ⟨_, rfl⟩
  rw [hW6]
  have e6 : W6.heap[w.heap.size + 1]? = some (.cells #[.int .i64 n, .int .i64 m, .slice (some ⟨g1, 0, none⟩) S1.length k1, .slice (some ⟨g2, 0, none⟩) F1.length k2, .slice (some ⟨g3, 0, none⟩) E1.length k3] 25 (0, 0)) := by
    rw [← hW6]
    exact set5 _ _ _ _ _ _ _ _ _ _ _ _ 25 F3
  have O6 : Only wc W6 (fun k => k = w.heap.size + 1) := by
    rw [← hW6]
    exact only5 _ _ _ _ _ _ _
  have HZ := hide (And.intro e6 O6)
  clear o0 o1 o2 o3 o4 f0 f1 f2 f3 f4 F3 S2 S3 S4 hW6 e6 O6 T1 T2 T3
  go_wp2_with fail
  refine bodyPost_ret (results_cell_row (p := 2) (ty := 25) rfl _ _ (w.heap.size + 1) 25 _ (0, 0) _ rfl HZ.out.1 Tryz.underlying25 rfl (by kernel_rfl)) rfl ?_
  have O6 := HZ.out.2
  have z0 := HD.out.2.2.2
  have q1 := own_at H1.out.1
  have q2 := own_at H2.out.1
  have q3 := own_at H3.out.1
  have y1 := H1.out.2.size
  have y2 := H2.out.2.1.size
  have y3 := H3.out.2.1.size
  have zz : W0.drew.heap.size = W0.heap.size := rfl
  refine ⟨g1, k1, g2, k2, g3, k3, rfl, ⟨?_, ?_, ?_, by omega, by omega, by omega⟩, ?_⟩
  · exact own_only (own_on (own_on (ownsRow_base H1.out.1 (by omega)) H2.out.2.1 q1.2) H3.out.2.1 (by omega)) O6 (by omega)
  · exact own_only (own_on (ownsRow_base H2.out.1 (by omega)) H3.out.2.1 q2.2) O6 (by omega)
  · exact own_only (ownsRow_base H3.out.1 (by omega)) O6 (by omega)
  · exact (HD.out.1.trans (H3.out.2.2.mono (by omega))).trans (O6.toBelow (by omega) (fun k hk => by omega))
end Go.Proofs.YtchoopnjckcohaaGreatDoor
namespace Go.Proofs.YtchoopnjckcohaaGreatDoor
open Go.RowKit
attribute [local go_sem] Oper.semAt_some

/-! ### image -/
def imgF (back : Bool) (X : Nat) (sym : Int) (L : List EdT) : Nat := L.foldl (fun R e => if e.2.1 = sym ∧ hasB X (ends back e).1 = true then R ||| 2 ^ (ends back e).2.toNat else R) 0
theorem may_parts {n m : Int} {St Fi : List Int} {Ed : List EdT} (h : mayA n m St Fi Ed = true) : (0 ≤ n ∧ n ≤ 4096) ∧ (0 ≤ m ∧ m ≤ 128) ∧ Ed.length ≤ 65536 ∧ St.all (inB n) = true ∧ Fi.all (inB n) = true ∧ ∀ e ∈ Ed, (0 ≤ e.1 ∧ e.1 < n) ∧ (0 ≤ e.2.1 ∧ e.2.1 < m) ∧ 0 ≤ e.2.2 ∧ e.2.2 < n := by
  unfold mayA at h
  simp only [Bool.and_eq_true, decide_eq_true_eq, inB_iff] at h
  obtain ⟨⟨⟨⟨⟨h1, h2⟩, h3⟩, h4⟩, h5⟩, h6⟩ := h
  refine ⟨by omega, by omega, h3, h4, h5, fun e he => ?_⟩
  have := List.all_eq_true.1 h6 e he
  simp only [edOk, Bool.and_eq_true, inB_iff] at this
  exact ⟨this.1.1, this.1.2, this.2⟩
end Go.Proofs.YtchoopnjckcohaaGreatDoor
namespace Go.Proofs.YtchoopnjckcohaaGreatDoor
open Go.RowKit Go.Maps
attribute [local go_sem] Oper.semAt_some

/-! ### What is asked of a word; Normal -/
def wordErr (n m : Int) (St Fi : List Int) (Ed : List EdT) (Wd : List Int) : Int := if mayA n m St Fi Ed then if Wd.all (inB m) then 0 else 7 else 2
theorem results_c1 {P : Program} {fn : Func} {p q : Tmp} {ty : TypeId} (h : fn.results = #[.cell p ty, .tmp q]) (tmps : Array Value) (w : World) (g : Nat) (t : TypeId) (cs : Array Value) (fr : Nat × Nat) (d : TypeDesc) (x : Value)
    (hp : tmps.getD p undef = .pointer (some ⟨g, 0, none⟩)) (hq : tmps.getD q undef = x) (hg : w.heap[g]? = some (.cells cs t fr))
    (hu : P.underlying ty = some d) (hd : (match d with | .struct _ | .array _ _ => true | _ => false) = true) (hi : (P.info? ty).map (·.size) = some cs.size) :
    (results fn tmps).run P w = .ok (.tuple #[.agg cs, x]) w := by
  have hp' : tmps[p]?.getD undef = .pointer (some ⟨g, 0, none⟩) := by simpa using hp
  have hq' : tmps[q]?.getD undef = x := by simpa using hq
  simp [results, h, hp', hq', asAddr, run_loadVar_row w g t ty cs fr d hg hu hd hi]
/-- What lies in the box of a function that takes an automaton and answers one. -/
theorem box2 (w : World) (A Z : Array Value) (t : TypeId) : Below w.heap.size w ((w.alloc (.cells A t)).alloc (.cells Z t)) ∧ ((w.alloc (.cells A t)).alloc (.cells Z t)).heap[w.heap.size]? = some (.cells A t (0, 0)) ∧ ((w.alloc (.cells A t)).alloc (.cells Z t)).heap[w.heap.size + 1]? = some (.cells Z t (0, 0)) ∧ ((w.alloc (.cells A t)).alloc (.cells Z t)).heap.size = w.heap.size + 2 := by
  refine ⟨((Below.refl _ _).alloc (Nat.le_refl _) _).alloc (by simp) _, (Below.heap_alloc _ _ _ (by simp)).trans (World.alloc_heap_new _ _), ?_, by simp⟩
  have := World.alloc_heap_new (w.alloc (.cells A t)) (.cells Z t)
  simpa using this
set_option maxRecDepth 100000 in
set_option maxHeartbeats 1000000 in
theorem normal_ok (w : World) (n m : Int) (a1 a2 a3 : Option Addr) (c1 c2 c3 : Nat) (St Fi : List Int) (Ed : List EdT) (hA : Hid (RdA w a1 a2 a3 St Fi Ed)) (h1 : St.length ≤ 4194304) (h2 : Fi.length ≤ 4194304) (h3 : Ed.length ≤ 4194304) (em : mayA n m St Fi Ed = true) :
    Calls Tryz.prog 48 #[.agg #[.int .i64 n, .int .i64 m, .slice a1 St.length c1, .slice a2 Fi.length c2, .slice a3 Ed.length c3]] w fun e w' => ∃ g1 k1 g2 k2 g3 k3, e = .returned (.tuple #[.agg #[.int .i64 n, .int .i64 m, .slice (some ⟨g1, 0, none⟩) (riseL St).length k1, .slice (some ⟨g2, 0, none⟩) (riseL Fi).length k2, .slice (some ⟨g3, 0, none⟩) (riseE Ed).length k3], .int .i64 0]) ∧ Own w.heap.size w' g1 k1 g2 k2 g3 k3 (riseL St) (riseL Fi) (riseE Ed) ∧ Below w.heap.size w w' := by
  obtain ⟨W0, hW0⟩ : ∃ W0, (w.alloc (.cells #[.int .i64 n, .int .i64 m, .slice a1 St.length c1, .slice a2 Fi.length c2, .slice a3 Ed.length c3] 25)).alloc (.cells #[.int .i64 0, .int .i64 0, .slice none 0 0, .slice none 0 0, .slice none 0 0] 25) = W0 := ⟨_, rfl⟩
  have HD := hide (box2 w #[.int .i64 n, .int .i64 m, .slice a1 St.length c1, .slice a2 Fi.length c2, .slice a3 Ed.length c3] #[.int .i64 0, .int .i64 0, .slice none 0 0, .slice none 0 0, .slice none 0 0] 25)
  rw [hW0] at HD
  have B0 := HD.out.2.1
  have T1 := valid_any W0 n m a1 a2 a3 c1 c2 c3 St Fi Ed (hide (hA.out.on HD.out.1)) h1 h2 h3
  have k0 : W0.cell? ⟨w.heap.size, 0, none⟩ = some (.int .i64 n) := cell_of B0 rfl
  have k1 : W0.cell? ⟨w.heap.size, 1, none⟩ = some (.int .i64 m) := cell_of B0 rfl
  have k2 : W0.cell? ⟨w.heap.size, 2, none⟩ = some (.slice a1 St.length c1) := cell_of B0 rfl
  have k3 : W0.cell? ⟨w.heap.size, 3, none⟩ = some (.slice a2 Fi.length c2) := cell_of B0 rfl
  have k4 : W0.cell? ⟨w.heap.size, 4, none⟩ = some (.slice a3 Ed.length c3) := cell_of B0 rfl
  clear B0
  rw [em] at T1
  have T1 : Calls Tryz.prog 75 #[.agg #[.int .i64 n, .int .i64 m, .slice a1 St.length c1, .slice a2 Fi.length c2, .slice a3 Ed.length c3]] W0 fun e w' => e = .returned (.int .i64 0) ∧ Below W0.heap.size W0 w' := T1
  have T2 := hide (fun (w1 : World) (d1 : Below W0.heap.size W0 w1) => inOrder_any w1 n m a1 a2 a3 c1 c2 c3 St Fi Ed (hide ((hA.out.on HD.out.1).on d1)) h1 h2 h3)
  generalize riseL St = S1 at T2 ⊢
  generalize riseL Fi = F1 at T2 ⊢
  generalize riseE Ed = E1 at T2 ⊢
  go_enter Tryz.func48, Tryz.ntmps48
  go_upto_region 4 with (go_at_call 75; refine T1.mono ?_; rintro e w1 ⟨rfl, d1⟩)
  have B1 := blk_on HD.out.2.1 d1
  have H1 := hide (And.intro d1 (blk_on HD.out.2.2.1 d1))
  have y0 : w1.cell? ⟨w.heap.size, 0, none⟩ = some (.int .i64 n) := cell_of B1 rfl
  have y1 : w1.cell? ⟨w.heap.size, 1, none⟩ = some (.int .i64 m) := cell_of B1 rfl
  have y2 : w1.cell? ⟨w.heap.size, 2, none⟩ = some (.slice a1 St.length c1) := cell_of B1 rfl
  have y3 : w1.cell? ⟨w.heap.size, 3, none⟩ = some (.slice a2 Fi.length c2) := cell_of B1 rfl
  have y4 : w1.cell? ⟨w.heap.size, 4, none⟩ = some (.slice a3 Ed.length c3) := cell_of B1 rfl
  clear k0 k1 k2 k3 k4 B1 d1 T1 hA
  go_wp2_with (go_at_call 81; refine (T2.out w1 H1.out.1).mono ?_; rintro e w2 ⟨g1, k1, g2, k2, g3, k3, rfl, hO, d2⟩; have F3 := blk_on H1.out.2 d2; have o0 : w2.cell? ⟨w.heap.size + 1, 0, none⟩ = some (.int .i64 0) := cell_of F3 rfl; have f0 : w2.frozen? ⟨w.heap.size + 1, 0, none⟩ = false := fz_of F3; have o1 : w2.cell? ⟨w.heap.size + 1, 1, none⟩ = some (.int .i64 0) := cell_of F3 rfl; have f1 : w2.frozen? ⟨w.heap.size + 1, 1, none⟩ = false := fz_of F3; have o2 : w2.cell? ⟨w.heap.size + 1, 2, none⟩ = some (.slice none 0 0) := cell_of F3 rfl; have f2 : w2.frozen? ⟨w.heap.size + 1, 2, none⟩ = false := fz_of F3; have o3 : w2.cell? ⟨w.heap.size + 1, 3, none⟩ = some (.slice none 0 0) := cell_of F3 rfl; have f3 : w2.frozen? ⟨w.heap.size + 1, 3, none⟩ = false := fz_of F3; have o4 : w2.cell? ⟨w.heap.size + 1, 4, none⟩ = some (.slice none 0 0) := cell_of F3 rfl; have f4 : w2.frozen? ⟨w.heap.size + 1, 4, none⟩ = false := fz_of F3; have H2 := hide (And.intro hO (And.intro d2 F3)); clear hO d2 F3)
  have O6 := hide (And.intro (set5 w2 (w.heap.size + 1) _ _ _ _ _ (.int .i64 n) (.int .i64 m) (.slice (some ⟨g1, 0, none⟩) S1.length k1) (.slice (some ⟨g2, 0, none⟩) F1.length k2) (.slice (some ⟨g3, 0, none⟩) E1.length k3) 25 H2.out.2.2) (only5 w2 (w.heap.size + 1) (.int .i64 n) (.int .i64 m) (.slice (some ⟨g1, 0, none⟩) S1.length k1) (.slice (some ⟨g2, 0, none⟩) F1.length k2) (.slice (some ⟨g3, 0, none⟩) E1.length k3)))
  refine bodyPost_ret (results_c1 (p := 2) (q := 3) (ty := 25) rfl _ _ (w.heap.size + 1) 25 _ (0, 0) _ _ rfl rfl O6.out.1 Tryz.underlying25 rfl (by kernel_rfl)) rfl ?_
  have z0 := HD.out.2.2.2
  have z1 := H1.out.1.size
  have z2 := H2.out.2.1.size
  obtain ⟨o1, o2, o3, n1, n2, n3⟩ := H2.out.1
  have q1 := own_at o1
  have q2 := own_at o2
  have q3 := own_at o3
  refine ⟨g1, k1, g2, k2, g3, k3, rfl, ⟨own_only (ownsRow_base (base := w1.heap.size) o1 (by omega)) O6.out.2 (by omega), own_only (ownsRow_base (base := w1.heap.size) o2 (by omega)) O6.out.2 (by omega), own_only (ownsRow_base (base := w1.heap.size) o3 (by omega)) O6.out.2 (by omega), n1, n2, n3⟩, ?_⟩
  exact ((HD.out.1.trans (H1.out.1.mono (by omega))).trans (H2.out.2.1.mono (by omega))).trans (O6.out.2.toBelow (by omega) (fun k hk => by omega))
end Go.Proofs.YtchoopnjckcohaaGreatDoor
