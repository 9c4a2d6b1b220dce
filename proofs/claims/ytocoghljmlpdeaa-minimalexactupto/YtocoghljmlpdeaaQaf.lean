import Derived.Test.YtocoghljmlpdeaaQae
namespace Go.Proofs.Ytocoghljmlpdeaa
open Go.RowKit Go.Maps
attribute [local go_sem] Oper.semAt_some
/-! ### A parting, new -/
def mkP (B : Nat) (t : TypeId) (n : Nat) (C : Array Value) : MkP := fun x lo hi W => x = .slice (some ⟨lo, 0, none⟩) n n ∧ B ≤ lo ∧ lo < hi ∧ W.heap[lo]? = some (.cells C t (0, 0))
theorem mkP_mono {B : Nat} {t : TypeId} {n : Nat} {C : Array Value} : MonoP (mkP B t n C) := fun _ _ _ _ _ hs d ⟨e, l, l2, z⟩ => ⟨e, l, l2, (d.block _ (by omega)).trans z⟩
def bzP (B : Nat) : MkP := fun x lo hi W => x = .slice (some ⟨lo, 0, none⟩) 2 2 ∧ B ≤ lo ∧ lo < hi ∧ W.heap[lo]? = some (.cells #[.int .i64 0, .int .i64 0] 3 (0, 0))
theorem bzP_mono {B : Nat} : MonoP (bzP B) := fun _ _ _ _ _ hs d ⟨e, l, l2, z⟩ => ⟨e, l, l2, (d.block _ (by omega)).trans z⟩
def newV (g0 : Nat) : Nat → Value := updF (fun _ => .slice none 0 0) 0 (.slice (some ⟨g0, 0, none⟩) 2 2)
/-- How many states below s are final, or not. -/
def cF (fin : Nat → Bool) (s : Nat) (v : Bool) : Nat := ((List.range s).filter (fun q => decide (fin q = v))).length
def newL (fin : Nat → Bool) (s : Nat) : Nat → List Nat := updF (fun _ => []) 0 [cF fin s false, cF fin s true]
def clS (fin : Nat → Bool) (s : Nat) : Nat → Nat := fun q => if decide (q < s) && fin q then 1 else 0
theorem cF_succ (fin : Nat → Bool) (s : Nat) (v : Bool) : cF fin (s + 1) v = cF fin s v + (if fin s = v then 1 else 0) := by
  unfold cF
  rw [List.range_succ, List.filter_append, List.length_append]
  by_cases e : fin s = v <;> simp [e]
theorem cF_le (fin : Nat → Bool) (s : Nat) (v : Bool) : cF fin s v ≤ s := by
  unfold cF
  exact Nat.le_trans (List.length_filter_le _ _) (by simp)
theorem newPar (B : Nat) (W : World) (N M gf : Nat) (aN : Option Addr) (lN cN gc g0 gw gs gi : Nat) {fin : Nat → Bool} (z4 : W.heap[gc]? = some (.cells (madeCells (Value.int .i64 0).cells (N * 1)) 3 (0, 0))) (z5 : W.heap[g0]? = some (.cells #[.int .i64 0, .int .i64 0] 3 (0, 0))) (z8 : W.heap[gw]? = some (.cells (madeCells (Value.slice none 0 0).cells (M * 1)) 22 (0, 0))) (z12 : W.heap[gs]? = some (.cells (madeCells (Value.bool false).cells (lN * 1)) 4 (0, 0))) (z16 : W.heap[gi]? = some (.cells (madeCells (Value.slice none 0 0).cells (N * 1)) 22 (0, 0))) (ne8 : gw ≠ gi) (ne4 : gc ≠ g0) (b4 : B ≤ gc) (b5 : B ≤ g0) (b8 : B ≤ gw) (b12 : B ≤ gs) (b16 : B ≤ gi) (bB : B ≤ W.heap.size) :
    PaR B (fun _ => False) (W.alloc (.cells #[.int .i64 (M : Int), .slice (some ⟨gf, 0, none⟩) N N, .slice aN lN cN, .slice (some ⟨gc, 0, none⟩) N N, .slice (some ⟨g0, 0, none⟩) 2 2, .slice (some ⟨gw, 0, none⟩) M M, .slice (some ⟨gs, 0, none⟩) lN lN, .slice (some ⟨gi, 0, none⟩) N N] 93)) W.heap.size N M gf aN lN cN gc gw gs gi (newV g0) (newL fin 0) (clS fin 0) (fun _ => false) := by
  have d : Below W.heap.size W (W.alloc (.cells #[.int .i64 (M : Int), .slice (some ⟨gf, 0, none⟩) N N, .slice aN lN cN, .slice (some ⟨gc, 0, none⟩) N N, .slice (some ⟨g0, 0, none⟩) 2 2, .slice (some ⟨gw, 0, none⟩) M M, .slice (some ⟨gs, 0, none⟩) lN lN, .slice (some ⟨gi, 0, none⟩) N N] 93)) := (Below.refl _ _).alloc (Nat.le_refl _) _
  have nb : ∀ k, (Value.slice none 0 0).ownBlock = some k → False := fun k hk => by cases hk
  have e0 : newV g0 0 = .slice (some ⟨g0, 0, none⟩) 2 2 := updF_same _ _ _
  have e1 : ∀ i, i ≠ 0 → newV g0 i = .slice none 0 0 := fun i hi => updF_ne _ _ hi
  have l0 : newL fin 0 0 = [0, 0] := updF_same _ _ _
  have l1 : ∀ i, i ≠ 0 → newL fin 0 i = [] := fun i hi => updF_ne _ _ hi
  refine ⟨?_, ?_, ?_, ?_, ?_, ⟨fun i _ => ?_, fun i j _ _ ne k hk hk' => ?_, fun i _ e => ?_, fun i _ k hk => ?_⟩, ne8, ⟨⟨bB, id⟩, ⟨b4, id⟩, ⟨b8, id⟩, ⟨b12, id⟩, ⟨b16, id⟩⟩⟩
  · rw [e0]; exact World.alloc_heap_new _ _
  · exact (mrw_make rfl (blk_on z4 d)).congr (fun c _ => by simp [clS])
  · exact (mrw_make rfl (blk_on z8 d)).congr (fun c _ => by rw [e1 _ (by omega)])
  · exact mrw_make rfl (blk_on z12 d)
  · exact (mrw_make rfl (blk_on z16 d)).congr (fun c _ => by rw [e1 _ (by omega)])
  · by_cases e : i = 0
    · subst e
      rw [e0, l0]
      have m : Mrw W g0 3 2 (fun c => .int .i64 ((natI [0, 0]).getD c 0)) 2 := ⟨_, z5, rfl, fun j hj => by
        match j, hj with
        | 0, _ => rfl
        | 1, _ => rfl⟩
      exact own_below (mrw_row m rfl b5 (by unfold maxLen; omega)) d
    · rw [e1 i e, l1 i e]; exact owI_nil _ _
  · by_cases e : i = 0
    · rw [e1 j (by omega)] at hk'; exact nb k hk'
    · rw [e1 i e] at hk; exact nb k hk
  · by_cases e2 : i = 0
    · subst e2
      rw [e0] at e
      cases e
      exact ne4 rfl
    · rw [e1 i e2] at e; exact nb _ e
  · by_cases e : i = 0
    · subst e
      rw [e0] at hk
      cases hk
      exact ⟨b5, id⟩
    · rw [e1 i e] at hk; exact (nb k hk).elim
/-- A row that has been changed is laid into its place: among those that lead to a state. -/
theorem PaR.into {B : Nat} {Z : Nat → Prop} {w : World} {b N M gf : Nat} {aN : Option Addr} {lN cN gc gw gs gi : Nat} {V : Nat → Value} {L : Nat → List Nat} {cl : Nat → Nat} {fl : Nat → Bool} {w' : World} {s : Nat} {v : Value} {X : List Nat} (h : PaR B Z w b N M gf aN lN cN gc gw gs gi V L cl fl) (hs : s < N) (hh : ∀ k, Z k → k < w.heap.size) (o : Only w w' (fun k => (V (1 + M + s)).ownBlock = some k)) (ho : OwI w' B v (natI X)) (hb : ∀ k, v.ownBlock = some k → (V (1 + M + s)).ownBlock = some k ∨ w.heap.size ≤ k) :
    PaR B Z (w'.setCell ⟨gi, s, none⟩ v) b N M gf aN lN cN gc gw gs gi (updF V (1 + M + s) v) (updF L (1 + M + s) X) cl fl ∧ Only w (w'.setCell ⟨gi, s, none⟩ v) (Rz B Z) := by
  have hz := h.fam.zv (1 + M + s) (by omega)
  have nb : ∀ {k t : Nat} {cs : Array Value}, w.heap[k]? = some (.cells cs t (0, 0)) → t ≠ 3 → ¬ (V (1 + M + s)).ownBlock = some k := fun z ne e => row_tag (h.fam.own (1 + M + s) (by omega)) z ne e
  have gcl := h.cr.lt
  obtain ⟨cw, hw⟩ := h.wr.blk
  obtain ⟨cs, hs2⟩ := h.sr.blk
  obtain ⟨ci, hi2⟩ := h.ir.blk
  have bw : w'.heap[gi]? = some (.cells ci 22 (0, 0)) := (o.block _ (Array.getElem?_eq_some_iff.1 hi2).1 (nb hi2 (by decide))).trans hi2
  have q := only_set w' gi s v
  have f1 := h.fam.put (by omega) o ho hb gcl hh
  have bb : w'.heap[b]? = _ := (o.block _ (Array.getElem?_eq_some_iff.1 h.bx).1 (nb h.bx (by decide))).trans h.bx
  have r1 := h.cr.only o (h.fam.ac (1 + M + s) (by omega))
  have r2 := h.wr.only o (nb hw (by decide))
  have r3 := h.sr.only o (nb hs2 (by decide))
  have r4 := h.ir.only o (nb hi2 (by decide))
  have e0 : updF V (1 + M + s) v 0 = V 0 := updF_ne _ _ (by omega)
  have ne : ∀ {k t : Nat} {cs : Array Value}, w'.heap[k]? = some (.cells cs t (0, 0)) → t ≠ 22 → k ≠ gi := fun z n e => by
    rw [e, bw] at z
    injection z with z
    injection z with _ z _
    exact n z.symm
  refine ⟨⟨?_, r1.only q (r1.tag bw (by decide)), ?_, r3.only q (r3.tag bw (by decide)), ?_, ?_, h.wi, h.zo⟩, ?_⟩
  · rw [e0]
    exact (q.block _ (Array.getElem?_eq_some_iff.1 bb).1 (ne bb (by decide))).trans bb
  · exact (r2.only q h.wi).congr (fun c _ => by rw [updF_ne _ _ (by omega)])
  · exact (r4.upd s v).congr (fun c _ => by
      by_cases e : c = s
      · subst e; rw [if_pos rfl, updF_same]
      · rw [if_neg e, updF_ne _ _ (by omega)])
  · exact f1.only q (fun i hi k hk e => by subst e; exact row_tag (f1.own i hi) bw (by decide) hk)
  · exact (o.mono (fun k _ e => hz k e)).trans (q.mono (fun k _ e => by rw [e]; exact h.zo.2.2.2.2))
/-- Of each state the places before p that lead to it. -/
def InP (N M : Nat) (Nx : List Int) (p : Nat) (L : Nat → List Nat) : Prop := ∀ s, s < N → (L (1 + M + s)).Nodup ∧ ∀ q, q ∈ L (1 + M + s) ↔ q < p ∧ nxt Nx q = s
theorem InP.put {N M p : Nat} {Nx : List Int} {L : Nat → List Nat} (h : InP N M Nx p L) (s : Nat) (e : nxt Nx p = s) : InP N M Nx (p + 1) (updF L (1 + M + s) (L (1 + M + s) ++ [p])) := fun t ht => by
  obtain ⟨h1, h2⟩ := h t ht
  by_cases et : t = s
  · subst et
    rw [updF_same]
    refine ⟨List.nodup_append.2 ⟨h1, by simp, fun x hx y hy e2 => ?_⟩, fun q => ?_⟩
    · rw [List.mem_singleton] at hy
      have := ((h2 x).1 hx).1
      omega
    · rw [List.mem_append, List.mem_singleton, h2 q]
      constructor
      · rintro (⟨a, c⟩ | rfl)
        · exact ⟨by omega, c⟩
        · exact ⟨by omega, e⟩
      · rintro ⟨a, c⟩
        by_cases eq : q = p
        · exact Or.inr eq
        · exact Or.inl ⟨by omega, c⟩
  · rw [updF_ne _ _ (by omega)]
    refine ⟨h1, fun q => ?_⟩
    rw [h2 q]
    constructor
    · rintro ⟨a, c⟩
      exact ⟨by omega, c⟩
    · rintro ⟨a, c⟩
      refine ⟨?_, c⟩
      by_cases eq : q = p
      · subst eq; exact absurd (c.symm.trans e) et
      · omega
/-- While the places are gone over. -/
structure Fl (N M : Nat) (Nx : List Int) (fin : Nat → Bool) (B : Nat) (w0 w : World) (b gf : Nat) (aN : Option Addr) (lN cN gc gw gs gi : Nat) (V : Nat → Value) (L : Nat → List Nat) (p : Nat) (fl : Nat → Bool) : Prop where
  r : PaR B (fun _ => False) w b N M gf aN lN cN gc gw gs gi V L (clS fin N) fl
  o : WtOk N M L fl
  i : InP N M Nx p L
  z : L 0 = newL fin N 0
  d : Below B w0 w
theorem clS_one (fin : Nat → Bool) (s : Nat) : fin s = true → clS fin (s + 1) = updF (clS fin s) s 1 := fun h => funext fun q => by
  unfold clS updF
  by_cases e : q = s
  · subst e; simp [h]
  · rw [if_neg e]
    have : decide (q < s + 1) = decide (q < s) := decide_eq_decide.2 (by omega)
    rw [this]
theorem clS_no (fin : Nat → Bool) (s : Nat) : fin s = false → clS fin (s + 1) = clS fin s := fun h => funext fun q => by
  unfold clS
  by_cases e : q = s
  · subst e; simp [h]
  · have : decide (q < s + 1) = decide (q < s) := decide_eq_decide.2 (by omega)
    rw [this]
theorem newL_succ (fin : Nat → Bool) (s : Nat) (v : Bool) (h : fin s = v) : newL fin (s + 1) = updF (newL fin s) 0 ((newL fin s 0).set (if v then 1 else 0) (cF fin s v + 1)) := funext fun q => by
  have e0 : newL fin s 0 = [cF fin s false, cF fin s true] := updF_same _ _ _
  rw [e0]
  by_cases e : q = 0
  · subst e
    rw [updF_same]
    unfold newL
    rw [updF_same, cF_succ, cF_succ, h]
    cases v <;> simp
  · rw [updF_ne _ _ e]
    unfold newL
    rw [updF_ne _ _ e, updF_ne _ _ e]
theorem newSz (N : Nat) (fin : Nat → Bool) : SzOk N 2 (clS fin N) (newL fin N 0) := by
  have e0 : newL fin N 0 = [cF fin N false, cF fin N true] := updF_same _ _ _
  rw [e0]
  refine ⟨rfl, fun k hk => ?_⟩
  have key : ∀ (v : Bool), cF fin N v = clN N (clS fin N) (if v then 1 else 0) := fun v => by
    unfold cF clN
    congr 1
    refine List.filter_congr fun s hs => ?_
    have hs := List.mem_range.1 hs
    unfold clS
    cases v <;> cases fin s <;> simp [hs]
  match k, hk with
  | 0, _ => exact key false
  | 1, _ => exact key true
theorem clS_last (N : Nat) (fin : Nat → Bool) (s : Nat) (hs : s < N) : (if fin s then 1 else 0) = clS fin N s := by
  unfold clS
  simp [hs]
theorem Fl.last {N M : Nat} {Nx : List Int} {fin : Nat → Bool} {B : Nat} {w0 w : World} {b gf : Nat} {aN : Option Addr} {lN cN gc gw gs gi : Nat} {V : Nat → Value} {L : Nat → List Nat} {p : Nat} (h : Fl N M Nx fin B w0 w b gf aN lN cN gc gw gs gi V L p (fun q => decide (q < p))) (hp : p = lN) (hlN : lN = N * M) : Pk Nx fin B (fun _ => False) w b N M gf aN lN cN gc gw gs gi V L (fun s => if fin s then 1 else 0) (fun _ => true) 2 0 (fun _ => 0) := by
  refine ⟨h.r.alike (fun s hs => clS_last N fin s hs) (fun q hq => (decide_eq_true (by omega)).symm), h.o.alike (fun _ _ => rfl) (fun q hq => (decide_eq_true (by omega)).symm), ?_, fun s hs => ?_, PInv.new Nx fin N M 0, Nat.le_refl _⟩
  · rw [h.z]
    have q := newSz N fin
    refine ⟨q.1, fun k hk => (q.2 k hk).trans ?_⟩
    unfold clN
    congr 1
    refine List.filter_congr fun s hs => ?_
    show _ = decide ((if fin s then 1 else 0) = k)
    rw [clS_last N fin s (List.mem_range.1 hs)]
  · have q := h.i s hs
    rw [hp, hlN] at q
    exact q
set_option maxRecDepth 100000 in
set_option maxHeartbeats 8000000 in
theorem newParting_any (w : World) (N M gf lN cN : Nat) (aN : Option Addr) (Nx : List Int) (fin : Nat → Bool) (hT : TbR w M N gf aN fin Nx) (hlN : lN = N * M) (bl : lN ≤ 4194304) (bN : N ≤ 2097152) (bM : M ≤ 4194304) :
    Calls Try.prog 60 #[.agg #[.int .i64 (M : Int), .slice (some ⟨gf, 0, none⟩) N N, .slice aN lN cN]] w fun e w' => ∃ b, e = .returned (.pointer (some ⟨b, 0, none⟩)) ∧ ∃ B gc gw gs gi V L cl fl, Hid (w.heap.size ≤ B ∧ B ≤ w'.heap.size ∧ Pk Nx fin B (fun _ => False) w' b N M gf aN lN cN gc gw gs gi V L cl fl 2 0 (fun _ => 0) ∧ Below w.heap.size w w') := by
  obtain ⟨i3, hi3, hz30, hz31, hz32⟩ := info_parts info3
  obtain ⟨i4, hi4, hz40, hz41, hz42⟩ := info_parts info4
  obtain ⟨i22, hi22, hz220, hz221, hz222⟩ := info_parts info22
  obtain ⟨C1, hC1⟩ : ∃ C, (madeCells (Value.int .i64 0).cells (N * 1)) = C := ⟨_, rfl⟩
  obtain ⟨C2, hC2⟩ : ∃ C, (madeCells (Value.slice none 0 0).cells (M * 1)) = C := ⟨_, rfl⟩
  obtain ⟨C3, hC3⟩ : ∃ C, (madeCells (Value.bool false).cells (lN * 1)) = C := ⟨_, rfl⟩
  obtain ⟨C4, hC4⟩ : ∃ C, (madeCells (Value.slice none 0 0).cells (N * 1)) = C := ⟨_, rfl⟩
  have hmk1 : ∀ W : World, (Instr.makeSlice 22 (.int .i64 (N : Int)) (.int .i64 (N : Int))).run Try.prog W = .ok (.slice (some ⟨W.heap.size, 0, none⟩) N N) (W.alloc (.cells C1 3)) := fun W => by
    have h := run_make (P := Try.prog) W 22 3 i3 (.int .i64 0) Try.underlying22 hi3 hz30 .i64 .i64 (N : Int) (N : Int) (by omega) (by omega) (by rw [hz32]; omega) (by omega)
    rw [hz31, Int.toNat_natCast, hC1] at h
    exact h
  have hmk2 : ∀ W : World, (Instr.makeSlice 32 (.int .i64 (M : Int)) (.int .i64 (M : Int))).run Try.prog W = .ok (.slice (some ⟨W.heap.size, 0, none⟩) M M) (W.alloc (.cells C2 22)) := fun W => by
    have h := run_make (P := Try.prog) W 32 22 i22 (.slice none 0 0) Try.underlying32 hi22 hz220 .i64 .i64 (M : Int) (M : Int) (by omega) (by omega) (by rw [hz222]; omega) (by omega)
    rw [hz221, Int.toNat_natCast, hC2] at h
    exact h
  have hmk3 : ∀ W : World, (Instr.makeSlice 58 (.int .i64 (lN : Int)) (.int .i64 (lN : Int))).run Try.prog W = .ok (.slice (some ⟨W.heap.size, 0, none⟩) lN lN) (W.alloc (.cells C3 4)) := fun W => by
    have h := run_make (P := Try.prog) W 58 4 i4 (.bool false) Try.underlying58 hi4 hz40 .i64 .i64 (lN : Int) (lN : Int) (by omega) (by omega) (by rw [hz42]; omega) (by omega)
    rw [hz41, Int.toNat_natCast, hC3] at h
    exact h
  have hmk4 : ∀ W : World, (Instr.makeSlice 32 (.int .i64 (N : Int)) (.int .i64 (N : Int))).run Try.prog W = .ok (.slice (some ⟨W.heap.size, 0, none⟩) N N) (W.alloc (.cells C4 22)) := fun W => by
    have h := run_make (P := Try.prog) W 32 22 i22 (.slice none 0 0) Try.underlying32 hi22 hz220 .i64 .i64 (N : Int) (N : Int) (by omega) (by omega) (by rw [hz222]; omega) (by omega)
    rw [hz221, Int.toNat_natCast, hC4] at h
    exact h
  have HC := hide (And.intro hC1 (And.intro hC2 (And.intro hC3 hC4)))
  clear hC1 hC2 hC3 hC4
  clear hi3 hz30 hz31 hz32 hi4 hz40 hz41 hz42 hi22 hz220 hz221 hz222
  obtain ⟨w1, hw1⟩ : ∃ w1, w.alloc (.cells #[.int .i64 (M : Int), .slice (some ⟨gf, 0, none⟩) N N, .slice aN lN cN] 60) = w1 := ⟨_, rfl⟩
  have D1 : Below w.heap.size w w1 := by rw [← hw1]; exact (Below.refl _ _).alloc (Nat.le_refl _) _
  have HB0 : Hid (w1.heap[w.heap.size]? = some (.cells #[.int .i64 (M : Int), .slice (some ⟨gf, 0, none⟩) N N, .slice aN lN cN] 60 (0, 0))) := hide (by rw [← hw1]; exact World.alloc_heap_new _ _)
  have s1 : w1.heap.size = w.heap.size + 1 := by rw [← hw1]; simp
  have HT := hide (And.intro hT (And.intro hlN (And.intro D1 s1)))
  clear hT hlN D1 s1
  go_enter Try.func60, Try.ntmps60
  go_upto_region 1 with fail
  try rw [hw1]
  clear hw1
  have hmo : MonIL 0 [vI 0 (.agg #[.int .i64 (M : Int), .slice (some ⟨gf, 0, none⟩) N N, .slice aN lN cN]), vI 1 (.pointer (some ⟨w.heap.size, 1, none⟩)), vI 2 (.slice (some ⟨gf, 0, none⟩) N N), vI 3 (.int .i64 (N : Int)), pI 4 (mkP w1.heap.size 3 N C1), pI 5 (bzP w1.heap.size), vI 6 (.pointer (some ⟨w.heap.size, 0, none⟩)), vI 7 (.int .i64 (M : Int)), pI 8 (mkP w1.heap.size 22 M C2), vI 9 (.pointer (some ⟨w.heap.size, 2, none⟩)), vI 10 (.slice aN lN cN), vI 11 (.int .i64 (lN : Int)), pI 12 (mkP w1.heap.size 4 lN C3), vI 13 (.pointer (some ⟨w.heap.size, 1, none⟩)), vI 14 (.slice (some ⟨gf, 0, none⟩) N N), vI 15 (.int .i64 (N : Int)), pI 16 (mkP w1.heap.size 22 N C4)] := ⟨vI_mono _ _, vI_mono _ _, vI_mono _ _, vI_mono _ _, pI_mono mkP_mono, pI_mono bzP_mono, vI_mono _ _, vI_mono _ _, pI_mono mkP_mono, vI_mono _ _, vI_mono _ _, vI_mono _ _, pI_mono mkP_mono, vI_mono _ _, vI_mono _ _, vI_mono _ _, pI_mono mkP_mono, trivial⟩
  refine wp_region_sl [vI 0 (.agg #[.int .i64 (M : Int), .slice (some ⟨gf, 0, none⟩) N N, .slice aN lN cN]), vI 1 (.pointer (some ⟨w.heap.size, 1, none⟩)), vI 2 (.slice (some ⟨gf, 0, none⟩) N N), vI 3 (.int .i64 (N : Int)), pI 4 (mkP w1.heap.size 3 N C1), pI 5 (bzP w1.heap.size), vI 6 (.pointer (some ⟨w.heap.size, 0, none⟩)), vI 7 (.int .i64 (M : Int)), pI 8 (mkP w1.heap.size 22 M C2), vI 9 (.pointer (some ⟨w.heap.size, 2, none⟩)), vI 10 (.slice aN lN cN), vI 11 (.int .i64 (lN : Int)), pI 12 (mkP w1.heap.size 4 lN C3), vI 13 (.pointer (some ⟨w.heap.size, 1, none⟩)), vI 14 (.slice (some ⟨gf, 0, none⟩) N N), vI 15 (.int .i64 (N : Int)), pI 16 (mkP w1.heap.size 22 N C4)] (by kernel_rfl) (by kernel_rfl) (by kernel_rfl) (by kernel_rfl) hmo ⟨?o0, ?o1, ?o2, ?o3, ?o4, ?o5, ?o6, ?o7, ?o8, ?o9, ?o10, ?o11, ?o12, ?o13, ?o14, ?o15, ?o16, trivial⟩ ?fin
  case o0 =>
    intro At yy W hy hb d hd K hK
    have s1 : At.tmps.getD 1 undef = .pointer (some ⟨w.heap.size, 0, none⟩) := hb 1 rfl
    have s1' := s1
    rw [Array.getD_eq_getD_getElem?] at s1'
    clear hd hy hb
    have y0 : W.cell? ⟨w.heap.size, 0, none⟩ = some (.int .i64 (M : Int)) := cell_of (blk_on HB0.out d) rfl
    have y1 : W.cell? ⟨w.heap.size, 1, none⟩ = some (.slice (some ⟨gf, 0, none⟩) N N) := cell_of (blk_on HB0.out d) rfl
    have y2 : W.cell? ⟨w.heap.size, 2, none⟩ = some (.slice aN lN cN) := cell_of (blk_on HB0.out d) rfl
    go_simp
    exact hK.out _ W (stp_of hmo d (Below.refl _ _)) (if_pos rfl)
  case o1 =>
    intro At yy W hy hb d hd K hK
    have s1 : At.tmps.getD 1 undef = .pointer (some ⟨w.heap.size, 0, none⟩) := hb 1 rfl
    have s1' := s1
    rw [Array.getD_eq_getD_getElem?] at s1'
    clear hd hy hb
    go_simp
    exact hK.out _ W (stp_of hmo d (Below.refl _ _)) (if_pos rfl)
  case o2 =>
    intro At yy W hy hb d hd K hK
    have e1 : yy 1 = .pointer (some ⟨w.heap.size, 1, none⟩) := by obtain ⟨_, _, _, _, e⟩ := hd ⟨1, .data⟩ (by simp) rfl rfl; exact e
    have s9 := (hy 1 _ 9 rfl rfl).trans e1
    have s9' := s9
    rw [Array.getD_eq_getD_getElem?] at s9'
    clear hd hy hb
    have y1 : W.cell? ⟨w.heap.size, 1, none⟩ = some (.slice (some ⟨gf, 0, none⟩) N N) := cell_of (blk_on HB0.out d) rfl
    go_simp
    exact hK.out _ W (stp_of hmo d (Below.refl _ _)) (if_pos rfl)
  case o3 =>
    intro At yy W hy hb d hd K hK
    have e2 : yy 2 = .slice (some ⟨gf, 0, none⟩) N N := by obtain ⟨_, _, _, _, e⟩ := hd ⟨2, .data⟩ (by simp) rfl rfl; exact e
    have s10 := (hy 2 _ 10 rfl rfl).trans e2
    have s10' := s10
    rw [Array.getD_eq_getD_getElem?] at s10'
    clear hd hy hb
    go_simp
    exact hK.out _ W (stp_of hmo d (Below.refl _ _)) (if_pos rfl)
  case o4 =>
    intro At yy W hy hb d hd K hK
    have e3 : yy 3 = .int .i64 (N : Int) := by obtain ⟨_, _, _, _, e⟩ := hd ⟨3, .data⟩ (by simp) rfl rfl; exact e
    have s11 := (hy 3 _ 11 rfl rfl).trans e3
    have s11' := s11
    rw [Array.getD_eq_getD_getElem?] at s11'
    clear hd hy hb
    go_simp
    exact hK.out _ _ (stp_of hmo d ((Below.refl _ _).alloc (Nat.le_refl _) _)) ⟨if_pos rfl, d.size, by simp, World.alloc_heap_new _ _⟩
  case o5 =>
    intro At yy W hy hb d hd K hK
    clear hd hy hb
    go_simp
    exact hK.out _ _ (stp_of hmo d ((Below.refl _ _).alloc (Nat.le_refl _) _)) ⟨if_pos rfl, d.size, by simp, World.alloc_heap_new _ _⟩
  case o6 =>
    intro At yy W hy hb d hd K hK
    have s1 : At.tmps.getD 1 undef = .pointer (some ⟨w.heap.size, 0, none⟩) := hb 1 rfl
    have s1' := s1
    rw [Array.getD_eq_getD_getElem?] at s1'
    clear hd hy hb
    go_simp
    exact hK.out _ W (stp_of hmo d (Below.refl _ _)) (if_pos rfl)
  case o7 =>
    intro At yy W hy hb d hd K hK
    have e6 : yy 6 = .pointer (some ⟨w.heap.size, 0, none⟩) := by obtain ⟨_, _, _, _, e⟩ := hd ⟨6, .data⟩ (by simp) rfl rfl; exact e
    have s14 := (hy 6 _ 14 rfl rfl).trans e6
    have s14' := s14
    rw [Array.getD_eq_getD_getElem?] at s14'
    clear hd hy hb
    have y0 : W.cell? ⟨w.heap.size, 0, none⟩ = some (.int .i64 (M : Int)) := cell_of (blk_on HB0.out d) rfl
    go_simp
    exact hK.out _ W (stp_of hmo d (Below.refl _ _)) (if_pos rfl)
  case o8 =>
    intro At yy W hy hb d hd K hK
    have e7 : yy 7 = .int .i64 (M : Int) := by obtain ⟨_, _, _, _, e⟩ := hd ⟨7, .data⟩ (by simp) rfl rfl; exact e
    have s15 := (hy 7 _ 15 rfl rfl).trans e7
    have s15' := s15
    rw [Array.getD_eq_getD_getElem?] at s15'
    clear hd hy hb
    go_simp
    exact hK.out _ _ (stp_of hmo d ((Below.refl _ _).alloc (Nat.le_refl _) _)) ⟨if_pos rfl, d.size, by simp, World.alloc_heap_new _ _⟩
  case o9 =>
    intro At yy W hy hb d hd K hK
    have s1 : At.tmps.getD 1 undef = .pointer (some ⟨w.heap.size, 0, none⟩) := hb 1 rfl
    have s1' := s1
    rw [Array.getD_eq_getD_getElem?] at s1'
    clear hd hy hb
    go_simp
    exact hK.out _ W (stp_of hmo d (Below.refl _ _)) (if_pos rfl)
  case o10 =>
    intro At yy W hy hb d hd K hK
    have e9 : yy 9 = .pointer (some ⟨w.heap.size, 2, none⟩) := by obtain ⟨_, _, _, _, e⟩ := hd ⟨9, .data⟩ (by simp) rfl rfl; exact e
    have s17 := (hy 9 _ 17 rfl rfl).trans e9
    have s17' := s17
    rw [Array.getD_eq_getD_getElem?] at s17'
    clear hd hy hb
    have y2 : W.cell? ⟨w.heap.size, 2, none⟩ = some (.slice aN lN cN) := cell_of (blk_on HB0.out d) rfl
    go_simp
    exact hK.out _ W (stp_of hmo d (Below.refl _ _)) (if_pos rfl)
  case o11 =>
    intro At yy W hy hb d hd K hK
    have e10 : yy 10 = .slice aN lN cN := by obtain ⟨_, _, _, _, e⟩ := hd ⟨10, .data⟩ (by simp) rfl rfl; exact e
    have s18 := (hy 10 _ 18 rfl rfl).trans e10
    have s18' := s18
    rw [Array.getD_eq_getD_getElem?] at s18'
    clear hd hy hb
    go_simp
    exact hK.out _ W (stp_of hmo d (Below.refl _ _)) (if_pos rfl)
  case o12 =>
    intro At yy W hy hb d hd K hK
    have e11 : yy 11 = .int .i64 (lN : Int) := by obtain ⟨_, _, _, _, e⟩ := hd ⟨11, .data⟩ (by simp) rfl rfl; exact e
    have s19 := (hy 11 _ 19 rfl rfl).trans e11
    have s19' := s19
    rw [Array.getD_eq_getD_getElem?] at s19'
    clear hd hy hb
    go_simp
    exact hK.out _ _ (stp_of hmo d ((Below.refl _ _).alloc (Nat.le_refl _) _)) ⟨if_pos rfl, d.size, by simp, World.alloc_heap_new _ _⟩
  case o13 =>
    intro At yy W hy hb d hd K hK
    have s1 : At.tmps.getD 1 undef = .pointer (some ⟨w.heap.size, 0, none⟩) := hb 1 rfl
    have s1' := s1
    rw [Array.getD_eq_getD_getElem?] at s1'
    clear hd hy hb
    go_simp
    exact hK.out _ W (stp_of hmo d (Below.refl _ _)) (if_pos rfl)
  case o14 =>
    intro At yy W hy hb d hd K hK
    have e13 : yy 13 = .pointer (some ⟨w.heap.size, 1, none⟩) := by obtain ⟨_, _, _, _, e⟩ := hd ⟨13, .data⟩ (by simp) rfl rfl; exact e
    have s21 := (hy 13 _ 21 rfl rfl).trans e13
    have s21' := s21
    rw [Array.getD_eq_getD_getElem?] at s21'
    clear hd hy hb
    have y1 : W.cell? ⟨w.heap.size, 1, none⟩ = some (.slice (some ⟨gf, 0, none⟩) N N) := cell_of (blk_on HB0.out d) rfl
    go_simp
    exact hK.out _ W (stp_of hmo d (Below.refl _ _)) (if_pos rfl)
  case o15 =>
    intro At yy W hy hb d hd K hK
    have e14 : yy 14 = .slice (some ⟨gf, 0, none⟩) N N := by obtain ⟨_, _, _, _, e⟩ := hd ⟨14, .data⟩ (by simp) rfl rfl; exact e
    have s22 := (hy 14 _ 22 rfl rfl).trans e14
    have s22' := s22
    rw [Array.getD_eq_getD_getElem?] at s22'
    clear hd hy hb
    go_simp
    exact hK.out _ W (stp_of hmo d (Below.refl _ _)) (if_pos rfl)
  case o16 =>
    intro At yy W hy hb d hd K hK
    have e15 : yy 15 = .int .i64 (N : Int) := by obtain ⟨_, _, _, _, e⟩ := hd ⟨15, .data⟩ (by simp) rfl rfl; exact e
    have s23 := (hy 15 _ 23 rfl rfl).trans e15
    have s23' := s23
    rw [Array.getD_eq_getD_getElem?] at s23'
    clear hd hy hb
    go_simp
    exact hK.out _ _ (stp_of hmo d ((Below.refl _ _).alloc (Nat.le_refl _) _)) ⟨if_pos rfl, d.size, by simp, World.alloc_heap_new _ _⟩
  case fin =>
    intro yy lo hi W hM
    show wpList _ _ _ [_, _, _] _ _
    have e0 : yy 0 = .agg #[.int .i64 (M : Int), .slice (some ⟨gf, 0, none⟩) N N, .slice aN lN cN] := hM.fact 0 (by simp) rfl (notR_all 0 rfl)
    have e1 : yy 1 = .pointer (some ⟨w.heap.size, 1, none⟩) := hM.fact 1 (by simp) rfl (notR_all 1 rfl)
    have e2 : yy 2 = .slice (some ⟨gf, 0, none⟩) N N := hM.fact 2 (by simp) rfl (notR_all 2 rfl)
    have e3 : yy 3 = .int .i64 (N : Int) := hM.fact 3 (by simp) rfl (notR_all 3 rfl)
    have e6 : yy 6 = .pointer (some ⟨w.heap.size, 0, none⟩) := hM.fact 6 (by simp) rfl (notR_all 6 rfl)
    have e7 : yy 7 = .int .i64 (M : Int) := hM.fact 7 (by simp) rfl (notR_all 7 rfl)
    have e9 : yy 9 = .pointer (some ⟨w.heap.size, 2, none⟩) := hM.fact 9 (by simp) rfl (notR_all 9 rfl)
    have e10 : yy 10 = .slice aN lN cN := hM.fact 10 (by simp) rfl (notR_all 10 rfl)
    have e11 : yy 11 = .int .i64 (lN : Int) := hM.fact 11 (by simp) rfl (notR_all 11 rfl)
    have e13 : yy 13 = .pointer (some ⟨w.heap.size, 1, none⟩) := hM.fact 13 (by simp) rfl (notR_all 13 rfl)
    have e14 : yy 14 = .slice (some ⟨gf, 0, none⟩) N N := hM.fact 14 (by simp) rfl (notR_all 14 rfl)
    have e15 : yy 15 = .int .i64 (N : Int) := hM.fact 15 (by simp) rfl (notR_all 15 rfl)
    obtain ⟨e4, b4, l4, z4⟩ := hM.fact 4 (by simp) rfl (notR_all 4 rfl)
    obtain ⟨e5, b5, l5, z5⟩ := hM.fact 5 (by simp) rfl (notR_all 5 rfl)
    obtain ⟨e8, b8, l8, z8⟩ := hM.fact 8 (by simp) rfl (notR_all 8 rfl)
    obtain ⟨e12, b12, l12, z12⟩ := hM.fact 12 (by simp) rfl (notR_all 12 rfl)
    obtain ⟨e16, b16, l16, z16⟩ := hM.fact 16 (by simp) rfl (notR_all 16 rfl)
    have dd := hM.d
    have q816 := hM.apart 8 16 (by simp) (by simp) rfl rfl (by decide)
    have q45 := hM.apart 4 5 (by simp) (by simp) rfl rfl (by decide)
    simp only [fills, Act.put, List.take, List.length, List.setIfInBounds_toArray, List.set_cons_zero, List.set_cons_succ, e0, e1, e2, e3, e6, e7, e9, e10, e11, e13, e14, e15, e4, e5, e8, e12, e16]
    have ne8 : lo 8 ≠ lo 16 := by omega
    have ne4 : lo 4 ≠ lo 5 := by omega
    clear q816 q45
    generalize lo 4 = gc at z4 b4 l4 ne8 ne4 ⊢
    generalize lo 5 = g0 at z5 b5 l5 ne8 ne4 ⊢
    generalize lo 8 = gw at z8 b8 l8 ne8 ne4 ⊢
    generalize lo 12 = gs at z12 b12 l12 ⊢
    generalize lo 16 = gi at z16 b16 l16 ne8 ne4 ⊢
    clear hM hmo e0 e1 e2 e3 e6 e7 e9 e10 e11 e13 e14 e15 e4 e5 e8 e12 e16
    have hC1 := HC.out.1
    have hC2 := HC.out.2.1
    have hC3 := HC.out.2.2.1
    have hC4 := HC.out.2.2.2
    obtain ⟨B, hB⟩ : ∃ B, w.heap.size + 1 = B := ⟨_, rfl⟩
    have NP := newPar (fin := fin) B W N M gf aN lN cN gc g0 gw gs gi (by rw [hC1]; exact z4) z5 (by rw [hC2]; exact z8) (by rw [hC3]; exact z12) (by rw [hC4]; exact z16) ne8 ne4 (by have := HT.out.2.2.2; omega) (by have := HT.out.2.2.2; omega) (by have := HT.out.2.2.2; omega) (by have := HT.out.2.2.2; omega) (by have := HT.out.2.2.2; omega) (by have := HT.out.2.2.2; have := dd.size; omega)
    obtain ⟨w2, hw2⟩ : ∃ w2, W.alloc (.cells #[.int .i64 (M : Int), .slice (some ⟨gf, 0, none⟩) N N, .slice aN lN cN, .slice (some ⟨gc, 0, none⟩) N N, .slice (some ⟨g0, 0, none⟩) 2 2, .slice (some ⟨gw, 0, none⟩) M M, .slice (some ⟨gs, 0, none⟩) lN lN, .slice (some ⟨gi, 0, none⟩) N N] 93) = w2 := ⟨_, rfl⟩
    obtain ⟨b, hb⟩ : ∃ b, W.heap.size = b := ⟨_, rfl⟩
    rw [hw2, hb] at NP
    have DW : Below w.heap.size w w2 := by
      rw [← hw2]
      exact (HT.out.2.2.1.trans (dd.mono (by have := HT.out.2.2.2; omega))).alloc (by have := HT.out.2.2.2; have := dd.size; omega) _
    have Q2 : w2.heap[w.heap.size]? = some (.cells #[.int .i64 (M : Int), .slice (some ⟨gf, 0, none⟩) N N, .slice aN lN cN] 60 (0, 0)) := by
      rw [← hw2]
      exact blk_on (blk_on HB0.out dd) ((Below.refl _ _).alloc (Nat.le_refl _) _)
    have y1 : w2.cell? ⟨w.heap.size, 1, none⟩ = some (.slice (some ⟨gf, 0, none⟩) N N) := cell_of Q2 rfl
    have hB2 : B ≤ w2.heap.size := by
      have q := (Array.getElem?_eq_some_iff.1 Q2).1
      omega
    have J0 := hide (And.intro NP (Below.refl B w2))
    have HW : Hid (∀ wr, Below B w2 wr → Below w.heap.size w wr ∧ wr.heap[w.heap.size]? = some (.cells #[.int .i64 (M : Int), .slice (some ⟨gf, 0, none⟩) N N, .slice aN lN cN] 60 (0, 0)) ∧ B ≤ wr.heap.size) := hide (fun wr d => ⟨DW.trans (d.mono (by omega)), (d.block _ (by omega)).trans Q2, Nat.le_trans hB2 d.size⟩)
    have HBB := hide hB
    clear NP DW z4 z5 z8 z12 z16 ne8 ne4 dd hC1 hC2 hC3 hC4 hmk1 hmk2 hmk3 hmk4 b4 b5 b8 b12 b16 l4 l5 l8 l12 l16 Q2 hB2 hB
    go_upto_region 2 with fail
    try rw [hw2]
    try rw [hb]
    clear hw2 hb
    obtain ⟨V, hV⟩ : ∃ V, newV g0 = V := ⟨_, rfl⟩
    have HV0 : Hid (V 0 = .slice (some ⟨g0, 0, none⟩) 2 2) := hide (by rw [← hV]; exact updF_same _ _ _)
    rw [hV] at J0
    clear hV
    have HY1 := hide y1
    go_wp2_with fail
    clear y1
    go_loopw [30] (fun iv wr => ∃ s : Nat, s ≤ N ∧ iv = .int .i64 (s : Int) ∧ Hid (PaR B (fun _ => False) wr b N M gf aN lN cN gc gw gs gi V (newL fin s) (clS fin s) (fun _ => false) ∧ Below B w2 wr)) (fun iv _ => N - (intOf iv).toNat)
    case atStart => exact ⟨0, Nat.zero_le _, rfl, J0⟩
    case round =>
      clear J0
      obtain ⟨s, hs, rfl, HI⟩ := hrel
      by_cases hsN : s < N
      · have l0 : (s : Int) < (N : Int) := by omega
        have l1 : (0 : Int) ≤ (s : Int) := by omega
        have yf : wr.cell? ⟨gf, s, none⟩ = some (.bool (fin s)) := (HT.out.1.fi.below (HW.out wr HI.out.2).1 HT.out.1.fi.lt).at s hsN
        have ya : wr.cell? ⟨gc, s, none⟩ = some (.int .i64 ((clS fin s s : Nat) : Int)) := HI.out.1.cr.at s hsN
        have yb : wr.frozen? ⟨gc, s, none⟩ = false := HI.out.1.cr.fz s
        have yc : wr.cell? ⟨b, 3, none⟩ = some (.slice (some ⟨gc, 0, none⟩) N N) := cell_of HI.out.1.bx rfl
        have hB3 : B ≤ wr.heap.size := (HW.out wr HI.out.2).2.2
        cases hfv : fin s with
        | true =>
          rw [hfv] at yf
          have HPI0 := HI.out.1.move s 1
          obtain ⟨wq, hwq⟩ : ∃ wq, wr.setCell ⟨gc, s, none⟩ (.int .i64 1) = wq := ⟨_, rfl⟩
          rw [show ((1 : Nat) : Int) = 1 from rfl, hwq] at HPI0
          have HBQ := hide (HI.out.2.trans (HPI0.2.toBelow hB3 (fun k hk => by rw [hk]; exact HI.out.1.zo.2.1.1)))
          have HPI : Hid (PaR B (fun _ => False) wq b N M gf aN lN cN gc gw gs gi V (newL fin s) (clS fin (s + 1)) (fun _ => false)) := hide (by rw [clS_one fin s hfv]; exact HPI0.1)
          have HLS : Hid (newL fin (s + 1) = updF (newL fin s) 0 ((newL fin s 0).set 1 (cF fin s true + 1))) := hide (newL_succ fin s true hfv)
          have HCC : Hid (clS fin (s + 1) s = 1) := hide (by unfold clS; simp [hfv])
          have HX0 : Hid (wq.cell? ⟨g0, 1, none⟩ = some (.int .i64 ((cF fin s true : Nat) : Int))) := hide (by
            have q := HPI.out.fam.own 0 (by omega)
            rw [HV0.out, show newL fin s 0 = [cF fin s false, cF fin s true] from updF_same _ _ _] at q
            obtain ⟨g, o, eg, k⟩ := natI_rd (owI_rd q).2 1 (by simp)
            cases eg
            exact k)
          clear HPI0 hfv
          go_upto_region 7 with fail
          try rw [hwq]
          clear hwq yf ya yb yc HI
          obtain ⟨c, hc⟩ : ∃ c, 1 = c := ⟨_, rfl⟩
          obtain ⟨x, hx⟩ : ∃ x, cF fin s true = x := ⟨_, rfl⟩
          obtain ⟨y, hy⟩ : ∃ y, x + 1 = y := ⟨_, rfl⟩
          have hxN : x ≤ N := by have := cF_le fin s true; omega
          have HLS2 : Hid (newL fin (s + 1) = updF (newL fin s) 0 ((newL fin s 0).set c y)) := hide (by rw [← hc, ← hy, ← hx]; exact HLS.out)
          have HCC2 : Hid (clS fin (s + 1) s = c) := hide (HCC.out.trans hc)
          have HX2 : Hid (wq.cell? ⟨g0, c, none⟩ = some (.int .i64 (x : Int))) := hide (by rw [← hc, ← hx]; exact HX0.out)
          clear HLS HCC HX0
          have HLS := HLS2
          have HCC := HCC2
          have HX0 := HX2
          clear HLS2 HCC2 HX2
          have iw : IntKind.i64.wrap ((x : Int) + 1) = (y : Int) := by rw [IntKind.wrap_i64]; omega
          have l2 : (0 : Int) ≤ (c : Int) := by omega
          have l3 : (c : Int) < 2 := by omega
          clear hc hx hy
          have hmo : MonIL 0 [vI 0 (.pointer (some ⟨b, 0, none⟩)), vI 1 (.pointer (some ⟨b, 0, none⟩)), vI 2 (.pointer (some ⟨b, 4, none⟩)), vI 3 (.slice (some ⟨g0, 0, none⟩) 2 2), vI 4 (.pointer (some ⟨b, 0, none⟩)), vI 5 (.pointer (some ⟨b, 0, none⟩)), vI 6 (.pointer (some ⟨b, 3, none⟩)), vI 7 (.slice (some ⟨gc, 0, none⟩) N N), vI 8 (.int .i64 (s : Int)), vI 9 (.pointer (some ⟨gc, s, none⟩)), vI 10 (.int .i64 (c : Int)), vI 11 (.pointer (some ⟨g0, c, none⟩)), vI 12 (.int .i64 (x : Int)), vI 13 (.int .i64 (y : Int)), vI 14 (.pointer (some ⟨g0, c, none⟩))] := ⟨vI_mono _ _, vI_mono _ _, vI_mono _ _, vI_mono _ _, vI_mono _ _, vI_mono _ _, vI_mono _ _, vI_mono _ _, vI_mono _ _, vI_mono _ _, vI_mono _ _, vI_mono _ _, vI_mono _ _, vI_mono _ _, vI_mono _ _, trivial⟩
          refine wp_region_sl [vI 0 (.pointer (some ⟨b, 0, none⟩)), vI 1 (.pointer (some ⟨b, 0, none⟩)), vI 2 (.pointer (some ⟨b, 4, none⟩)), vI 3 (.slice (some ⟨g0, 0, none⟩) 2 2), vI 4 (.pointer (some ⟨b, 0, none⟩)), vI 5 (.pointer (some ⟨b, 0, none⟩)), vI 6 (.pointer (some ⟨b, 3, none⟩)), vI 7 (.slice (some ⟨gc, 0, none⟩) N N), vI 8 (.int .i64 (s : Int)), vI 9 (.pointer (some ⟨gc, s, none⟩)), vI 10 (.int .i64 (c : Int)), vI 11 (.pointer (some ⟨g0, c, none⟩)), vI 12 (.int .i64 (x : Int)), vI 13 (.int .i64 (y : Int)), vI 14 (.pointer (some ⟨g0, c, none⟩))] (by kernel_rfl) (by kernel_rfl) (by kernel_rfl) (by kernel_rfl) hmo ⟨?o0, ?o1, ?o2, ?o3, ?o4, ?o5, ?o6, ?o7, ?o8, ?o9, ?o10, ?o11, ?o12, ?o13, ?o14, trivial⟩ ?fin
          case o0 =>
            intro At yy W hy hb d hd K hK
            have s3 : At.tmps.getD 3 undef = .pointer (some ⟨b, 0, none⟩) := hb 3 rfl
            have s3' := s3
            rw [Array.getD_eq_getD_getElem?] at s3'
            clear hd hy hb
            go_simp
            exact hK.out _ W (stp_of hmo d (Below.refl _ _)) (if_pos rfl)
          case o1 =>
            intro At yy W hy hb d hd K hK
            have e0 : yy 0 = .pointer (some ⟨b, 0, none⟩) := by obtain ⟨_, _, _, _, e⟩ := hd ⟨0, .data⟩ (by simp) rfl rfl; exact e
            have s42 := (hy 0 _ 42 rfl rfl).trans e0
            have s42' := s42
            rw [Array.getD_eq_getD_getElem?] at s42'
            clear hd hy hb
            go_simp
            exact hK.out _ W (stp_of hmo d (Below.refl _ _)) (if_pos rfl)
          case o2 =>
            intro At yy W hy hb d hd K hK
            have e1 : yy 1 = .pointer (some ⟨b, 0, none⟩) := by obtain ⟨_, _, _, _, e⟩ := hd ⟨1, .data⟩ (by simp) rfl rfl; exact e
            have s43 := (hy 1 _ 43 rfl rfl).trans e1
            have s43' := s43
            rw [Array.getD_eq_getD_getElem?] at s43'
            clear hd hy hb
            go_simp
            exact hK.out _ W (stp_of hmo d (Below.refl _ _)) (if_pos rfl)
          case o3 =>
            intro At yy W hy hb d hd K hK
            have e2 : yy 2 = .pointer (some ⟨b, 4, none⟩) := by obtain ⟨_, _, _, _, e⟩ := hd ⟨2, .data⟩ (by simp) rfl rfl; exact e
            have s44 := (hy 2 _ 44 rfl rfl).trans e2
            have s44' := s44
            rw [Array.getD_eq_getD_getElem?] at s44'
            clear hd hy hb
            have y4 : W.cell? ⟨b, 4, none⟩ = some (.slice (some ⟨g0, 0, none⟩) 2 2) := by have := cell_of (blk_on HPI.out.bx d) (j := 4) (v := V 0) rfl; rwa [HV0.out] at this
            go_simp
            exact hK.out _ W (stp_of hmo d (Below.refl _ _)) (if_pos rfl)
          case o4 =>
            intro At yy W hy hb d hd K hK
            have s3 : At.tmps.getD 3 undef = .pointer (some ⟨b, 0, none⟩) := hb 3 rfl
            have s3' := s3
            rw [Array.getD_eq_getD_getElem?] at s3'
            clear hd hy hb
            go_simp
            exact hK.out _ W (stp_of hmo d (Below.refl _ _)) (if_pos rfl)
          case o5 =>
            intro At yy W hy hb d hd K hK
            have e4 : yy 4 = .pointer (some ⟨b, 0, none⟩) := by obtain ⟨_, _, _, _, e⟩ := hd ⟨4, .data⟩ (by simp) rfl rfl; exact e
            have s46 := (hy 4 _ 46 rfl rfl).trans e4
            have s46' := s46
            rw [Array.getD_eq_getD_getElem?] at s46'
            clear hd hy hb
            go_simp
            exact hK.out _ W (stp_of hmo d (Below.refl _ _)) (if_pos rfl)
          case o6 =>
            intro At yy W hy hb d hd K hK
            have e5 : yy 5 = .pointer (some ⟨b, 0, none⟩) := by obtain ⟨_, _, _, _, e⟩ := hd ⟨5, .data⟩ (by simp) rfl rfl; exact e
            have s47 := (hy 5 _ 47 rfl rfl).trans e5
            have s47' := s47
            rw [Array.getD_eq_getD_getElem?] at s47'
            clear hd hy hb
            go_simp
            exact hK.out _ W (stp_of hmo d (Below.refl _ _)) (if_pos rfl)
          case o7 =>
            intro At yy W hy hb d hd K hK
            have e6 : yy 6 = .pointer (some ⟨b, 3, none⟩) := by obtain ⟨_, _, _, _, e⟩ := hd ⟨6, .data⟩ (by simp) rfl rfl; exact e
            have s48 := (hy 6 _ 48 rfl rfl).trans e6
            have s48' := s48
            rw [Array.getD_eq_getD_getElem?] at s48'
            clear hd hy hb
            have y3 : W.cell? ⟨b, 3, none⟩ = some (.slice (some ⟨gc, 0, none⟩) N N) := cell_of (blk_on HPI.out.bx d) rfl
            go_simp
            exact hK.out _ W (stp_of hmo d (Below.refl _ _)) (if_pos rfl)
          case o8 =>
            intro At yy W hy hb d hd K hK
            have s4 : At.tmps.getD 4 undef = .int .i64 (s : Int) := hb 4 rfl
            have s4' := s4
            rw [Array.getD_eq_getD_getElem?] at s4'
            clear hd hy hb
            go_simp
            exact hK.out _ W (stp_of hmo d (Below.refl _ _)) (if_pos rfl)
          case o9 =>
            intro At yy W hy hb d hd K hK
            have e7 : yy 7 = .slice (some ⟨gc, 0, none⟩) N N := by obtain ⟨_, _, _, _, e⟩ := hd ⟨7, .data⟩ (by simp) rfl rfl; exact e
            have e8 : yy 8 = .int .i64 (s : Int) := by obtain ⟨_, _, _, _, e⟩ := hd ⟨8, .data⟩ (by simp) rfl rfl; exact e
            have s49 := (hy 7 _ 49 rfl rfl).trans e7
            have s49' := s49
            rw [Array.getD_eq_getD_getElem?] at s49'
            have s50 := (hy 8 _ 50 rfl rfl).trans e8
            have s50' := s50
            rw [Array.getD_eq_getD_getElem?] at s50'
            clear hd hy hb
            go_simp
            exact hK.out _ W (stp_of hmo d (Below.refl _ _)) (if_pos rfl)
          case o10 =>
            intro At yy W hy hb d hd K hK
            have e9 : yy 9 = .pointer (some ⟨gc, s, none⟩) := by obtain ⟨_, _, _, _, e⟩ := hd ⟨9, .data⟩ (by simp) rfl rfl; exact e
            have s51 := (hy 9 _ 51 rfl rfl).trans e9
            have s51' := s51
            rw [Array.getD_eq_getD_getElem?] at s51'
            clear hd hy hb
            have y : W.cell? ⟨gc, s, none⟩ = some (.int .i64 (c : Int)) := by have := (HPI.out.below d).cr.at s hsN; rwa [HCC.out] at this
            go_simp
            exact hK.out _ W (stp_of hmo d (Below.refl _ _)) (if_pos rfl)
          case o11 =>
            intro At yy W hy hb d hd K hK
            have e3 : yy 3 = .slice (some ⟨g0, 0, none⟩) 2 2 := by obtain ⟨_, _, _, _, e⟩ := hd ⟨3, .data⟩ (by simp) rfl rfl; exact e
            have e10 : yy 10 = .int .i64 (c : Int) := by obtain ⟨_, _, _, _, e⟩ := hd ⟨10, .data⟩ (by simp) rfl rfl; exact e
            have s45 := (hy 3 _ 45 rfl rfl).trans e3
            have s45' := s45
            rw [Array.getD_eq_getD_getElem?] at s45'
            have s52 := (hy 10 _ 52 rfl rfl).trans e10
            have s52' := s52
            rw [Array.getD_eq_getD_getElem?] at s52'
            clear hd hy hb
            go_simp
            exact hK.out _ W (stp_of hmo d (Below.refl _ _)) (if_pos rfl)
          case o12 =>
            intro At yy W hy hb d hd K hK
            have e11 : yy 11 = .pointer (some ⟨g0, c, none⟩) := by obtain ⟨_, _, _, _, e⟩ := hd ⟨11, .data⟩ (by simp) rfl rfl; exact e
            have s53 := (hy 11 _ 53 rfl rfl).trans e11
            have s53' := s53
            rw [Array.getD_eq_getD_getElem?] at s53'
            clear hd hy hb
            have y : W.cell? ⟨g0, c, none⟩ = some (.int .i64 (x : Int)) := (d.cell (World.block_lt_of_cell? wq _ HX0.out)).trans HX0.out
            go_simp
            exact hK.out _ W (stp_of hmo d (Below.refl _ _)) (if_pos rfl)
          case o13 =>
            intro At yy W hy hb d hd K hK
            have e12 : yy 12 = .int .i64 (x : Int) := by obtain ⟨_, _, _, _, e⟩ := hd ⟨12, .data⟩ (by simp) rfl rfl; exact e
            have s54 := (hy 12 _ 54 rfl rfl).trans e12
            have s54' := s54
            rw [Array.getD_eq_getD_getElem?] at s54'
            clear hd hy hb
            go_simp
            exact hK.out _ W (stp_of hmo d (Below.refl _ _)) (if_pos rfl)
          case o14 =>
            intro At yy W hy hb d hd K hK
            have e3 : yy 3 = .slice (some ⟨g0, 0, none⟩) 2 2 := by obtain ⟨_, _, _, _, e⟩ := hd ⟨3, .data⟩ (by simp) rfl rfl; exact e
            have e10 : yy 10 = .int .i64 (c : Int) := by obtain ⟨_, _, _, _, e⟩ := hd ⟨10, .data⟩ (by simp) rfl rfl; exact e
            have s45 := (hy 3 _ 45 rfl rfl).trans e3
            have s45' := s45
            rw [Array.getD_eq_getD_getElem?] at s45'
            have s52 := (hy 10 _ 52 rfl rfl).trans e10
            have s52' := s52
            rw [Array.getD_eq_getD_getElem?] at s52'
            clear hd hy hb
            go_simp
            exact hK.out _ W (stp_of hmo d (Below.refl _ _)) (if_pos rfl)
          case fin =>
            intro yy lo hi W hM
            show wpList _ _ _ [_] _ _
            have e0 : yy 0 = .pointer (some ⟨b, 0, none⟩) := hM.fact 0 (by simp) rfl (notR_all 0 rfl)
            have e1 : yy 1 = .pointer (some ⟨b, 0, none⟩) := hM.fact 1 (by simp) rfl (notR_all 1 rfl)
            have e2 : yy 2 = .pointer (some ⟨b, 4, none⟩) := hM.fact 2 (by simp) rfl (notR_all 2 rfl)
            have e3 : yy 3 = .slice (some ⟨g0, 0, none⟩) 2 2 := hM.fact 3 (by simp) rfl (notR_all 3 rfl)
            have e4 : yy 4 = .pointer (some ⟨b, 0, none⟩) := hM.fact 4 (by simp) rfl (notR_all 4 rfl)
            have e5 : yy 5 = .pointer (some ⟨b, 0, none⟩) := hM.fact 5 (by simp) rfl (notR_all 5 rfl)
            have e6 : yy 6 = .pointer (some ⟨b, 3, none⟩) := hM.fact 6 (by simp) rfl (notR_all 6 rfl)
            have e7 : yy 7 = .slice (some ⟨gc, 0, none⟩) N N := hM.fact 7 (by simp) rfl (notR_all 7 rfl)
            have e8 : yy 8 = .int .i64 (s : Int) := hM.fact 8 (by simp) rfl (notR_all 8 rfl)
            have e9 : yy 9 = .pointer (some ⟨gc, s, none⟩) := hM.fact 9 (by simp) rfl (notR_all 9 rfl)
            have e10 : yy 10 = .int .i64 (c : Int) := hM.fact 10 (by simp) rfl (notR_all 10 rfl)
            have e11 : yy 11 = .pointer (some ⟨g0, c, none⟩) := hM.fact 11 (by simp) rfl (notR_all 11 rfl)
            have e12 : yy 12 = .int .i64 (x : Int) := hM.fact 12 (by simp) rfl (notR_all 12 rfl)
            have e13 : yy 13 = .int .i64 (y : Int) := hM.fact 13 (by simp) rfl (notR_all 13 rfl)
            have e14 : yy 14 = .pointer (some ⟨g0, c, none⟩) := hM.fact 14 (by simp) rfl (notR_all 14 rfl)
            have dd := hM.d
            simp only [fills, Act.put, List.take, List.length, List.setIfInBounds_toArray, List.set_cons_zero, List.set_cons_succ, e0, e1, e2, e3, e4, e5, e6, e7, e8, e9, e10, e11, e12, e13, e14]
            clear hM hmo e0 e1 e2 e3 e4 e5 e6 e7 e8 e9 e10 e11 e12 e13 e14
            have HF := hide ((HPI.out.below dd).size HV0.out c y)
            have z8 := (dd.cell (World.block_lt_of_cell? wq _ HX0.out)).trans HX0.out
            have f8 : W.frozen? ⟨g0, c, none⟩ = false := by
              have q := (HPI.out.below dd).fam.own 0 (by omega)
              rw [HV0.out] at q
              exact own_fz q c
            have HDD := hide dd
            clear dd
            go_wp2_with fail
            go_roundw
            case rel => exact ⟨s + 1, by omega, by go_num, hide ⟨by rw [HLS.out]; exact HF.out.1, (HBQ.out.trans (HDD.out.mono (HW.out wq HBQ.out).2.2)).trans (HF.out.2.1.toBelow (by have := (HW.out wq HBQ.out).2.2; have := HDD.out.size; omega) (fun k hk => by rw [hk]; exact HF.out.2.2.1))⟩⟩
            case measure => simp [intOf]; omega
        | false =>
          rw [hfv] at yf
          obtain ⟨wq, hwq⟩ : ∃ wq, wr = wq := ⟨_, rfl⟩
          subst wr
          have HBQ : Hid (Below B w2 wq) := hide HI.out.2
          have HPI : Hid (PaR B (fun _ => False) wq b N M gf aN lN cN gc gw gs gi V (newL fin s) (clS fin (s + 1)) (fun _ => false)) := hide (by rw [clS_no fin s hfv]; exact HI.out.1)
          have HLS : Hid (newL fin (s + 1) = updF (newL fin s) 0 ((newL fin s 0).set 0 (cF fin s false + 1))) := hide (newL_succ fin s false hfv)
          have HCC : Hid (clS fin (s + 1) s = 0) := hide (by unfold clS; simp [hfv])
          have HX0 : Hid (wq.cell? ⟨g0, 0, none⟩ = some (.int .i64 ((cF fin s false : Nat) : Int))) := hide (by
            have q := HPI.out.fam.own 0 (by omega)
            rw [HV0.out, show newL fin s 0 = [cF fin s false, cF fin s true] from updF_same _ _ _] at q
            obtain ⟨g, o, eg, k⟩ := natI_rd (owI_rd q).2 0 (by simp)
            cases eg
            exact k)
          clear hfv
          go_upto_region 7 with fail
          clear yf ya yb yc HI
          obtain ⟨c, hc⟩ : ∃ c, 0 = c := ⟨_, rfl⟩
          obtain ⟨x, hx⟩ : ∃ x, cF fin s false = x := ⟨_, rfl⟩
          obtain ⟨y, hy⟩ : ∃ y, x + 1 = y := ⟨_, rfl⟩
          have hxN : x ≤ N := by have := cF_le fin s false; omega
          have HLS2 : Hid (newL fin (s + 1) = updF (newL fin s) 0 ((newL fin s 0).set c y)) := hide (by rw [← hc, ← hy, ← hx]; exact HLS.out)
          have HCC2 : Hid (clS fin (s + 1) s = c) := hide (HCC.out.trans hc)
          have HX2 : Hid (wq.cell? ⟨g0, c, none⟩ = some (.int .i64 (x : Int))) := hide (by rw [← hc, ← hx]; exact HX0.out)
          clear HLS HCC HX0
          have HLS := HLS2
          have HCC := HCC2
          have HX0 := HX2
          clear HLS2 HCC2 HX2
          have iw : IntKind.i64.wrap ((x : Int) + 1) = (y : Int) := by rw [IntKind.wrap_i64]; omega
          have l2 : (0 : Int) ≤ (c : Int) := by omega
          have l3 : (c : Int) < 2 := by omega
          clear hc hx hy
          have hmo : MonIL 0 [vI 0 (.pointer (some ⟨b, 0, none⟩)), vI 1 (.pointer (some ⟨b, 0, none⟩)), vI 2 (.pointer (some ⟨b, 4, none⟩)), vI 3 (.slice (some ⟨g0, 0, none⟩) 2 2), vI 4 (.pointer (some ⟨b, 0, none⟩)), vI 5 (.pointer (some ⟨b, 0, none⟩)), vI 6 (.pointer (some ⟨b, 3, none⟩)), vI 7 (.slice (some ⟨gc, 0, none⟩) N N), vI 8 (.int .i64 (s : Int)), vI 9 (.pointer (some ⟨gc, s, none⟩)), vI 10 (.int .i64 (c : Int)), vI 11 (.pointer (some ⟨g0, c, none⟩)), vI 12 (.int .i64 (x : Int)), vI 13 (.int .i64 (y : Int)), vI 14 (.pointer (some ⟨g0, c, none⟩))] := ⟨vI_mono _ _, vI_mono _ _, vI_mono _ _, vI_mono _ _, vI_mono _ _, vI_mono _ _, vI_mono _ _, vI_mono _ _, vI_mono _ _, vI_mono _ _, vI_mono _ _, vI_mono _ _, vI_mono _ _, vI_mono _ _, vI_mono _ _, trivial⟩
          refine wp_region_sl [vI 0 (.pointer (some ⟨b, 0, none⟩)), vI 1 (.pointer (some ⟨b, 0, none⟩)), vI 2 (.pointer (some ⟨b, 4, none⟩)), vI 3 (.slice (some ⟨g0, 0, none⟩) 2 2), vI 4 (.pointer (some ⟨b, 0, none⟩)), vI 5 (.pointer (some ⟨b, 0, none⟩)), vI 6 (.pointer (some ⟨b, 3, none⟩)), vI 7 (.slice (some ⟨gc, 0, none⟩) N N), vI 8 (.int .i64 (s : Int)), vI 9 (.pointer (some ⟨gc, s, none⟩)), vI 10 (.int .i64 (c : Int)), vI 11 (.pointer (some ⟨g0, c, none⟩)), vI 12 (.int .i64 (x : Int)), vI 13 (.int .i64 (y : Int)), vI 14 (.pointer (some ⟨g0, c, none⟩))] (by kernel_rfl) (by kernel_rfl) (by kernel_rfl) (by kernel_rfl) hmo ⟨?o0, ?o1, ?o2, ?o3, ?o4, ?o5, ?o6, ?o7, ?o8, ?o9, ?o10, ?o11, ?o12, ?o13, ?o14, trivial⟩ ?fin
          case o0 =>
            intro At yy W hy hb d hd K hK
            have s3 : At.tmps.getD 3 undef = .pointer (some ⟨b, 0, none⟩) := hb 3 rfl
            have s3' := s3
            rw [Array.getD_eq_getD_getElem?] at s3'
            clear hd hy hb
            go_simp
            exact hK.out _ W (stp_of hmo d (Below.refl _ _)) (if_pos rfl)
          case o1 =>
            intro At yy W hy hb d hd K hK
            have e0 : yy 0 = .pointer (some ⟨b, 0, none⟩) := by obtain ⟨_, _, _, _, e⟩ := hd ⟨0, .data⟩ (by simp) rfl rfl; exact e
            have s42 := (hy 0 _ 42 rfl rfl).trans e0
            have s42' := s42
            rw [Array.getD_eq_getD_getElem?] at s42'
            clear hd hy hb
            go_simp
            exact hK.out _ W (stp_of hmo d (Below.refl _ _)) (if_pos rfl)
          case o2 =>
            intro At yy W hy hb d hd K hK
            have e1 : yy 1 = .pointer (some ⟨b, 0, none⟩) := by obtain ⟨_, _, _, _, e⟩ := hd ⟨1, .data⟩ (by simp) rfl rfl; exact e
            have s43 := (hy 1 _ 43 rfl rfl).trans e1
            have s43' := s43
            rw [Array.getD_eq_getD_getElem?] at s43'
            clear hd hy hb
            go_simp
            exact hK.out _ W (stp_of hmo d (Below.refl _ _)) (if_pos rfl)
          case o3 =>
            intro At yy W hy hb d hd K hK
            have e2 : yy 2 = .pointer (some ⟨b, 4, none⟩) := by obtain ⟨_, _, _, _, e⟩ := hd ⟨2, .data⟩ (by simp) rfl rfl; exact e
            have s44 := (hy 2 _ 44 rfl rfl).trans e2
            have s44' := s44
            rw [Array.getD_eq_getD_getElem?] at s44'
            clear hd hy hb
            have y4 : W.cell? ⟨b, 4, none⟩ = some (.slice (some ⟨g0, 0, none⟩) 2 2) := by have := cell_of (blk_on HPI.out.bx d) (j := 4) (v := V 0) rfl; rwa [HV0.out] at this
            go_simp
            exact hK.out _ W (stp_of hmo d (Below.refl _ _)) (if_pos rfl)
          case o4 =>
            intro At yy W hy hb d hd K hK
            have s3 : At.tmps.getD 3 undef = .pointer (some ⟨b, 0, none⟩) := hb 3 rfl
            have s3' := s3
            rw [Array.getD_eq_getD_getElem?] at s3'
            clear hd hy hb
            go_simp
            exact hK.out _ W (stp_of hmo d (Below.refl _ _)) (if_pos rfl)
          case o5 =>
            intro At yy W hy hb d hd K hK
            have e4 : yy 4 = .pointer (some ⟨b, 0, none⟩) := by obtain ⟨_, _, _, _, e⟩ := hd ⟨4, .data⟩ (by simp) rfl rfl; exact e
            have s46 := (hy 4 _ 46 rfl rfl).trans e4
            have s46' := s46
            rw [Array.getD_eq_getD_getElem?] at s46'
            clear hd hy hb
            go_simp
            exact hK.out _ W (stp_of hmo d (Below.refl _ _)) (if_pos rfl)
          case o6 =>
            intro At yy W hy hb d hd K hK
            have e5 : yy 5 = .pointer (some ⟨b, 0, none⟩) := by obtain ⟨_, _, _, _, e⟩ := hd ⟨5, .data⟩ (by simp) rfl rfl; exact e
            have s47 := (hy 5 _ 47 rfl rfl).trans e5
            have s47' := s47
            rw [Array.getD_eq_getD_getElem?] at s47'
            clear hd hy hb
            go_simp
            exact hK.out _ W (stp_of hmo d (Below.refl _ _)) (if_pos rfl)
          case o7 =>
            intro At yy W hy hb d hd K hK
            have e6 : yy 6 = .pointer (some ⟨b, 3, none⟩) := by obtain ⟨_, _, _, _, e⟩ := hd ⟨6, .data⟩ (by simp) rfl rfl; exact e
            have s48 := (hy 6 _ 48 rfl rfl).trans e6
            have s48' := s48
            rw [Array.getD_eq_getD_getElem?] at s48'
            clear hd hy hb
            have y3 : W.cell? ⟨b, 3, none⟩ = some (.slice (some ⟨gc, 0, none⟩) N N) := cell_of (blk_on HPI.out.bx d) rfl
            go_simp
            exact hK.out _ W (stp_of hmo d (Below.refl _ _)) (if_pos rfl)
          case o8 =>
            intro At yy W hy hb d hd K hK
            have s4 : At.tmps.getD 4 undef = .int .i64 (s : Int) := hb 4 rfl
            have s4' := s4
            rw [Array.getD_eq_getD_getElem?] at s4'
            clear hd hy hb
            go_simp
            exact hK.out _ W (stp_of hmo d (Below.refl _ _)) (if_pos rfl)
          case o9 =>
            intro At yy W hy hb d hd K hK
            have e7 : yy 7 = .slice (some ⟨gc, 0, none⟩) N N := by obtain ⟨_, _, _, _, e⟩ := hd ⟨7, .data⟩ (by simp) rfl rfl; exact e
            have e8 : yy 8 = .int .i64 (s : Int) := by obtain ⟨_, _, _, _, e⟩ := hd ⟨8, .data⟩ (by simp) rfl rfl; exact e
            have s49 := (hy 7 _ 49 rfl rfl).trans e7
            have s49' := s49
            rw [Array.getD_eq_getD_getElem?] at s49'
            have s50 := (hy 8 _ 50 rfl rfl).trans e8
            have s50' := s50
            rw [Array.getD_eq_getD_getElem?] at s50'
            clear hd hy hb
            go_simp
            exact hK.out _ W (stp_of hmo d (Below.refl _ _)) (if_pos rfl)
          case o10 =>
            intro At yy W hy hb d hd K hK
            have e9 : yy 9 = .pointer (some ⟨gc, s, none⟩) := by obtain ⟨_, _, _, _, e⟩ := hd ⟨9, .data⟩ (by simp) rfl rfl; exact e
            have s51 := (hy 9 _ 51 rfl rfl).trans e9
            have s51' := s51
            rw [Array.getD_eq_getD_getElem?] at s51'
            clear hd hy hb
            have y : W.cell? ⟨gc, s, none⟩ = some (.int .i64 (c : Int)) := by have := (HPI.out.below d).cr.at s hsN; rwa [HCC.out] at this
            go_simp
            exact hK.out _ W (stp_of hmo d (Below.refl _ _)) (if_pos rfl)
          case o11 =>
            intro At yy W hy hb d hd K hK
            have e3 : yy 3 = .slice (some ⟨g0, 0, none⟩) 2 2 := by obtain ⟨_, _, _, _, e⟩ := hd ⟨3, .data⟩ (by simp) rfl rfl; exact e
            have e10 : yy 10 = .int .i64 (c : Int) := by obtain ⟨_, _, _, _, e⟩ := hd ⟨10, .data⟩ (by simp) rfl rfl; exact e
            have s45 := (hy 3 _ 45 rfl rfl).trans e3
            have s45' := s45
            rw [Array.getD_eq_getD_getElem?] at s45'
            have s52 := (hy 10 _ 52 rfl rfl).trans e10
            have s52' := s52
            rw [Array.getD_eq_getD_getElem?] at s52'
            clear hd hy hb
            go_simp
            exact hK.out _ W (stp_of hmo d (Below.refl _ _)) (if_pos rfl)
          case o12 =>
            intro At yy W hy hb d hd K hK
            have e11 : yy 11 = .pointer (some ⟨g0, c, none⟩) := by obtain ⟨_, _, _, _, e⟩ := hd ⟨11, .data⟩ (by simp) rfl rfl; exact e
            have s53 := (hy 11 _ 53 rfl rfl).trans e11
            have s53' := s53
            rw [Array.getD_eq_getD_getElem?] at s53'
            clear hd hy hb
            have y : W.cell? ⟨g0, c, none⟩ = some (.int .i64 (x : Int)) := (d.cell (World.block_lt_of_cell? wq _ HX0.out)).trans HX0.out
            go_simp
            exact hK.out _ W (stp_of hmo d (Below.refl _ _)) (if_pos rfl)
          case o13 =>
            intro At yy W hy hb d hd K hK
            have e12 : yy 12 = .int .i64 (x : Int) := by obtain ⟨_, _, _, _, e⟩ := hd ⟨12, .data⟩ (by simp) rfl rfl; exact e
            have s54 := (hy 12 _ 54 rfl rfl).trans e12
            have s54' := s54
            rw [Array.getD_eq_getD_getElem?] at s54'
            clear hd hy hb
            go_simp
            exact hK.out _ W (stp_of hmo d (Below.refl _ _)) (if_pos rfl)
          case o14 =>
            intro At yy W hy hb d hd K hK
            have e3 : yy 3 = .slice (some ⟨g0, 0, none⟩) 2 2 := by obtain ⟨_, _, _, _, e⟩ := hd ⟨3, .data⟩ (by simp) rfl rfl; exact e
            have e10 : yy 10 = .int .i64 (c : Int) := by obtain ⟨_, _, _, _, e⟩ := hd ⟨10, .data⟩ (by simp) rfl rfl; exact e
            have s45 := (hy 3 _ 45 rfl rfl).trans e3
            have s45' := s45
            rw [Array.getD_eq_getD_getElem?] at s45'
            have s52 := (hy 10 _ 52 rfl rfl).trans e10
            have s52' := s52
            rw [Array.getD_eq_getD_getElem?] at s52'
            clear hd hy hb
            go_simp
            exact hK.out _ W (stp_of hmo d (Below.refl _ _)) (if_pos rfl)
          case fin =>
            intro yy lo hi W hM
            show wpList _ _ _ [_] _ _
            have e0 : yy 0 = .pointer (some ⟨b, 0, none⟩) := hM.fact 0 (by simp) rfl (notR_all 0 rfl)
            have e1 : yy 1 = .pointer (some ⟨b, 0, none⟩) := hM.fact 1 (by simp) rfl (notR_all 1 rfl)
            have e2 : yy 2 = .pointer (some ⟨b, 4, none⟩) := hM.fact 2 (by simp) rfl (notR_all 2 rfl)
            have e3 : yy 3 = .slice (some ⟨g0, 0, none⟩) 2 2 := hM.fact 3 (by simp) rfl (notR_all 3 rfl)
            have e4 : yy 4 = .pointer (some ⟨b, 0, none⟩) := hM.fact 4 (by simp) rfl (notR_all 4 rfl)
            have e5 : yy 5 = .pointer (some ⟨b, 0, none⟩) := hM.fact 5 (by simp) rfl (notR_all 5 rfl)
            have e6 : yy 6 = .pointer (some ⟨b, 3, none⟩) := hM.fact 6 (by simp) rfl (notR_all 6 rfl)
            have e7 : yy 7 = .slice (some ⟨gc, 0, none⟩) N N := hM.fact 7 (by simp) rfl (notR_all 7 rfl)
            have e8 : yy 8 = .int .i64 (s : Int) := hM.fact 8 (by simp) rfl (notR_all 8 rfl)
            have e9 : yy 9 = .pointer (some ⟨gc, s, none⟩) := hM.fact 9 (by simp) rfl (notR_all 9 rfl)
            have e10 : yy 10 = .int .i64 (c : Int) := hM.fact 10 (by simp) rfl (notR_all 10 rfl)
            have e11 : yy 11 = .pointer (some ⟨g0, c, none⟩) := hM.fact 11 (by simp) rfl (notR_all 11 rfl)
            have e12 : yy 12 = .int .i64 (x : Int) := hM.fact 12 (by simp) rfl (notR_all 12 rfl)
            have e13 : yy 13 = .int .i64 (y : Int) := hM.fact 13 (by simp) rfl (notR_all 13 rfl)
            have e14 : yy 14 = .pointer (some ⟨g0, c, none⟩) := hM.fact 14 (by simp) rfl (notR_all 14 rfl)
            have dd := hM.d
            simp only [fills, Act.put, List.take, List.length, List.setIfInBounds_toArray, List.set_cons_zero, List.set_cons_succ, e0, e1, e2, e3, e4, e5, e6, e7, e8, e9, e10, e11, e12, e13, e14]
            clear hM hmo e0 e1 e2 e3 e4 e5 e6 e7 e8 e9 e10 e11 e12 e13 e14
            have HF := hide ((HPI.out.below dd).size HV0.out c y)
            have z8 := (dd.cell (World.block_lt_of_cell? wq _ HX0.out)).trans HX0.out
            have f8 : W.frozen? ⟨g0, c, none⟩ = false := by
              have q := (HPI.out.below dd).fam.own 0 (by omega)
              rw [HV0.out] at q
              exact own_fz q c
            have HDD := hide dd
            clear dd
            go_wp2_with fail
            go_roundw
            case rel => exact ⟨s + 1, by omega, by go_num, hide ⟨by rw [HLS.out]; exact HF.out.1, (HBQ.out.trans (HDD.out.mono (HW.out wq HBQ.out).2.2)).trans (HF.out.2.1.toBelow (by have := (HW.out wq HBQ.out).2.2; have := HDD.out.size; omega) (fun k hk => by rw [hk]; exact HF.out.2.2.1))⟩⟩
            case measure => simp [intOf]; omega
      · have l0 : ¬ (s : Int) < (N : Int) := by omega
        have hEs : s = N := by omega
        subst s
        clear hs
        have z2 : wr.cell? ⟨w.heap.size, 2, none⟩ = some (.slice aN lN cN) := cell_of (HW.out wr HI.out.2).2.1 rfl
        have J2 : Hid (Fl N M Nx fin B w2 wr b gf aN lN cN gc gw gs gi V (newL fin N) 0 (fun q => decide (q < 0))) := hide ⟨HI.out.1.alike (fun _ _ => rfl) (fun _ _ => rfl), fun a ha => ⟨by rw [show newL fin N (1 + a) = [] from updF_ne _ _ (by omega)]; exact List.nodup_nil, fun t => by rw [show newL fin N (1 + a) = [] from updF_ne _ _ (by omega)]; simp⟩, fun t ht => ⟨by rw [show newL fin N (1 + M + t) = [] from updF_ne _ _ (by omega)]; exact List.nodup_nil, fun q => by rw [show newL fin N (1 + M + t) = [] from updF_ne _ _ (by omega)]; simp⟩, rfl, HI.out.2⟩
        clear HI
        go_wp2_with fail
        clear z2
        go_loopw [61] (fun iv wr => ∃ p : Nat, p ≤ lN ∧ iv = .int .i64 (p : Int) ∧ ∃ V L, Hid (Fl N M Nx fin B w2 wr b gf aN lN cN gc gw gs gi V L p (fun q => decide (q < p)))) (fun iv _ => lN - (intOf iv).toNat)
        case atStart => exact ⟨0, Nat.zero_le _, rfl, V, newL fin N, J2⟩
        case round =>
          clear J2
          obtain ⟨p, hp, rfl, V, L, HY⟩ := hrel
          by_cases hplN : p < lN
          · have l1 : (p : Int) < (lN : Int) := by omega
            have l2 : (0 : Int) ≤ (p : Int) := by omega
            have hpL : p < Nx.length := by rw [HT.out.1.len]; have := HT.out.2.1; omega
            obtain ⟨g9, o9, eg, cg⟩ := (HT.out.1.nx.on (HW.out wr HY.out.d).1) p hpL
            cases eg
            have hin := HT.out.1.inr _ (List.getElem_mem hpL)
            obtain ⟨s, hs⟩ : ∃ s : Nat, Nx[p] = (s : Int) := ⟨(Nx[p]).toNat, by omega⟩
            have hsN : s < N := by omega
            have hnx : nxt Nx p = s := by
              unfold nxt
              rw [List.getD_eq_getElem?_getD, List.getElem?_eq_getElem hpL, Option.getD_some, hs, Int.toNat_natCast]
            rw [hs] at cg
            have l3 : (s : Int) < (N : Int) := by omega
            have l4 : (0 : Int) ≤ (s : Int) := by omega
            clear hs hin hpL
            have hB3 : B ≤ wr.heap.size := (HW.out wr HY.out.d).2.2
            obtain ⟨X, hX⟩ : ∃ X, L (1 + M + s) = X := ⟨_, rfl⟩
            have hO := HY.out.r.fam.own (1 + M + s) (by omega)
            rw [hX] at hO
            have hXl : X.length ≤ 16777216 := by
              have q := HY.out.i s hsN
              rw [hX] at q
              have := nodup_le q.1 (N := lN) (fun x hx => by have := ((q.2 x).1 hx).1; omega)
              omega
            obtain ⟨t1, c1, hv⟩ := own_slice hO
            obtain ⟨nX, hnX⟩ : ∃ l, (natI X).length = l := ⟨_, rfl⟩
            have HGWc : wr.cell? ⟨gi, s, none⟩ = some (.slice t1 (natI X).length c1) := by have := HY.out.r.ir.at s hsN; rw [hv] at this; exact this
            rw [hnX] at HGWc hv
            have hO' := hO
            rw [hv] at hO
            obtain ⟨ci, hci⟩ := HY.out.r.ir.blk
            have HGW : Hid (∀ W bb, JO wr (fun k => (Value.slice t1 nX c1).ownBlock = some k) bb W → W.cell? ⟨gi, s, none⟩ = some (.slice t1 nX c1)) := hide (fun W bb d => by
              have e := JO_blk d hci (fun e => row_tag hO hci (by decide) e)
              rw [World.cell?_of_block (e.trans hci.symm)]
              exact HGWc)
            have HGF : Hid (∀ W bb, JO wr (fun k => (Value.slice t1 nX c1).ownBlock = some k) bb W → W.frozen? ⟨gi, s, none⟩ = false) := hide (fun W bb d => fz_of (JO_blk d hci (fun e => row_tag hO hci (by decide) e)))
            have HBX := hide (And.intro HY.out.r.bx (fun e => row_tag hO HY.out.r.bx (by decide) e : ¬ (Value.slice t1 nX c1).ownBlock = some b))
            have HLO := hide (fun k hk => (hO.lt k hk).2 : ∀ k, (Value.slice t1 nX c1).ownBlock = some k → k < wr.heap.size)
            have HOX := hide hO
            have HPW : Hid (∀ W v, Only wr W (fun k => (Value.slice t1 nX c1).ownBlock = some k) → OwI W B v (natI (X ++ [p])) → (∀ k, v.ownBlock = some k → (Value.slice t1 nX c1).ownBlock = some k ∨ wr.heap.size ≤ k) → Fl N M Nx fin B w2 (W.setCell ⟨gi, s, none⟩ v) b gf (some ⟨g9, o9, none⟩) lN cN gc gw gs gi (updF V (1 + M + s) v) (updF L (1 + M + s) (X ++ [p])) (p + 1) (fun q => decide (q < p))) := hide (fun W v o ho hb => by
              have q := HY.out.r.into (v := v) (X := X ++ [p]) hsN (fun k z => z.elim) (by rw [hv]; exact o) ho (by rw [hv]; exact hb)
              have i2 := HY.out.i.put s hnx
              rw [hX] at i2
              exact ⟨q.1, HY.out.o.alike (fun a ha => updF_ne _ _ (by omega)) (fun _ _ => rfl), i2, (updF_ne _ _ (by omega)).trans HY.out.z, HY.out.d.trans (q.2.toBelow hB3 (fun k hk => hk.1))⟩)
            clear hO hO' hv hci HGWc hnX hX hnx HY
            go_upto_region 12 with fail
            clear cg
            have hmo : MonIL 0 [vI 0 (.pointer (some ⟨b, 0, none⟩)), vI 1 (.pointer (some ⟨b, 0, none⟩)), vI 2 (.pointer (some ⟨b, 7, none⟩)), vI 3 (.slice (some ⟨gi, 0, none⟩) N N), vI 4 (.int .i64 (s : Int)), vI 5 (.pointer (some ⟨b, 0, none⟩)), vI 6 (.pointer (some ⟨b, 0, none⟩)), vI 7 (.pointer (some ⟨b, 7, none⟩)), vI 8 (.slice (some ⟨gi, 0, none⟩) N N), vI 9 (.int .i64 (s : Int)), vI 10 (.pointer (some ⟨gi, s, none⟩)), vI 11 (.slice t1 nX c1), vI 12 (.int .i64 (p : Int)), pI 13 (ox1P wr.heap.size (.int .i64 (p : Int))), pI 14 (apI B (X ++ [p]) (Value.slice t1 nX c1).ownBlock wr.heap.size)] := ⟨vI_mono _ _, vI_mono _ _, vI_mono _ _, vI_mono _ _, vI_mono _ _, vI_mono _ _, vI_mono _ _, vI_mono _ _, vI_mono _ _, vI_mono _ _, vI_mono _ _, vI_mono _ _, vI_mono _ _, pI_mono ox1P_mono, pI_mono apI_mono, trivial⟩
            refine wp_region_sj (JO wr (fun k => (Value.slice t1 nX c1).ownBlock = some k)) 14 [vI 0 (.pointer (some ⟨b, 0, none⟩)), vI 1 (.pointer (some ⟨b, 0, none⟩)), vI 2 (.pointer (some ⟨b, 7, none⟩)), vI 3 (.slice (some ⟨gi, 0, none⟩) N N), vI 4 (.int .i64 (s : Int)), vI 5 (.pointer (some ⟨b, 0, none⟩)), vI 6 (.pointer (some ⟨b, 0, none⟩)), vI 7 (.pointer (some ⟨b, 7, none⟩)), vI 8 (.slice (some ⟨gi, 0, none⟩) N N), vI 9 (.int .i64 (s : Int)), vI 10 (.pointer (some ⟨gi, s, none⟩)), vI 11 (.slice t1 nX c1), vI 12 (.int .i64 (p : Int)), pI 13 (ox1P wr.heap.size (.int .i64 (p : Int))), pI 14 (apI B (X ++ [p]) (Value.slice t1 nX c1).ownBlock wr.heap.size)] (by kernel_rfl) (JO_first ⟨rfl, rfl, rfl, Nat.le_refl _, fun _ _ => rfl⟩) (by kernel_rfl) (by kernel_rfl) (by kernel_rfl) (by kernel_rfl) hmo ⟨?o0, ?o1, ?o2, ?o3, ?o4, ?o5, ?o6, ?o7, ?o8, ?o9, ?o10, ?o11, ?o12, ?o13, ?o14, trivial⟩ ?fin
            case o0 =>
              intro At yy W bb hy hb hbb d hz hd K hK
              have s3 : At.tmps.getD 3 undef = .pointer (some ⟨b, 0, none⟩) := hb 3 rfl
              have s3' := s3
              rw [Array.getD_eq_getD_getElem?] at s3'
              clear hd hy hb
              go_simp
              exact hK.out _ W (stpj_of hmo d (Below.refl _ _)) (if_pos rfl)
            case o1 =>
              intro At yy W bb hy hb hbb d hz hd K hK
              have e0 : yy 0 = .pointer (some ⟨b, 0, none⟩) := by obtain ⟨_, _, _, _, e⟩ := hd ⟨0, .data⟩ (by simp) rfl rfl; exact e
              have s66 := (hy 0 _ 66 rfl rfl).trans e0
              have s66' := s66
              rw [Array.getD_eq_getD_getElem?] at s66'
              clear hd hy hb
              go_simp
              exact hK.out _ W (stpj_of hmo d (Below.refl _ _)) (if_pos rfl)
            case o2 =>
              intro At yy W bb hy hb hbb d hz hd K hK
              have e1 : yy 1 = .pointer (some ⟨b, 0, none⟩) := by obtain ⟨_, _, _, _, e⟩ := hd ⟨1, .data⟩ (by simp) rfl rfl; exact e
              have s67 := (hy 1 _ 67 rfl rfl).trans e1
              have s67' := s67
              rw [Array.getD_eq_getD_getElem?] at s67'
              clear hd hy hb
              go_simp
              exact hK.out _ W (stpj_of hmo d (Below.refl _ _)) (if_pos rfl)
            case o3 =>
              intro At yy W bb hy hb hbb d hz hd K hK
              have e2 : yy 2 = .pointer (some ⟨b, 7, none⟩) := by obtain ⟨_, _, _, _, e⟩ := hd ⟨2, .data⟩ (by simp) rfl rfl; exact e
              have s68 := (hy 2 _ 68 rfl rfl).trans e2
              have s68' := s68
              rw [Array.getD_eq_getD_getElem?] at s68'
              clear hd hy hb
              have y7 : W.cell? ⟨b, 7, none⟩ = some (.slice (some ⟨gi, 0, none⟩) N N) := cell_of (JO_blk d HBX.out.1 HBX.out.2) rfl
              go_simp
              exact hK.out _ W (stpj_of hmo d (Below.refl _ _)) (if_pos rfl)
            case o4 =>
              intro At yy W bb hy hb hbb d hz hd K hK
              have s7 : At.tmps.getD 7 undef = .int .i64 (s : Int) := hb 7 rfl
              have s7' := s7
              rw [Array.getD_eq_getD_getElem?] at s7'
              clear hd hy hb
              go_simp
              exact hK.out _ W (stpj_of hmo d (Below.refl _ _)) (if_pos rfl)
            case o5 =>
              intro At yy W bb hy hb hbb d hz hd K hK
              have s3 : At.tmps.getD 3 undef = .pointer (some ⟨b, 0, none⟩) := hb 3 rfl
              have s3' := s3
              rw [Array.getD_eq_getD_getElem?] at s3'
              clear hd hy hb
              go_simp
              exact hK.out _ W (stpj_of hmo d (Below.refl _ _)) (if_pos rfl)
            case o6 =>
              intro At yy W bb hy hb hbb d hz hd K hK
              have e5 : yy 5 = .pointer (some ⟨b, 0, none⟩) := by obtain ⟨_, _, _, _, e⟩ := hd ⟨5, .data⟩ (by simp) rfl rfl; exact e
              have s71 := (hy 5 _ 71 rfl rfl).trans e5
              have s71' := s71
              rw [Array.getD_eq_getD_getElem?] at s71'
              clear hd hy hb
              go_simp
              exact hK.out _ W (stpj_of hmo d (Below.refl _ _)) (if_pos rfl)
            case o7 =>
              intro At yy W bb hy hb hbb d hz hd K hK
              have e6 : yy 6 = .pointer (some ⟨b, 0, none⟩) := by obtain ⟨_, _, _, _, e⟩ := hd ⟨6, .data⟩ (by simp) rfl rfl; exact e
              have s72 := (hy 6 _ 72 rfl rfl).trans e6
              have s72' := s72
              rw [Array.getD_eq_getD_getElem?] at s72'
              clear hd hy hb
              go_simp
              exact hK.out _ W (stpj_of hmo d (Below.refl _ _)) (if_pos rfl)
            case o8 =>
              intro At yy W bb hy hb hbb d hz hd K hK
              have e7 : yy 7 = .pointer (some ⟨b, 7, none⟩) := by obtain ⟨_, _, _, _, e⟩ := hd ⟨7, .data⟩ (by simp) rfl rfl; exact e
              have s73 := (hy 7 _ 73 rfl rfl).trans e7
              have s73' := s73
              rw [Array.getD_eq_getD_getElem?] at s73'
              clear hd hy hb
              have y7 : W.cell? ⟨b, 7, none⟩ = some (.slice (some ⟨gi, 0, none⟩) N N) := cell_of (JO_blk d HBX.out.1 HBX.out.2) rfl
              go_simp
              exact hK.out _ W (stpj_of hmo d (Below.refl _ _)) (if_pos rfl)
            case o9 =>
              intro At yy W bb hy hb hbb d hz hd K hK
              have s7 : At.tmps.getD 7 undef = .int .i64 (s : Int) := hb 7 rfl
              have s7' := s7
              rw [Array.getD_eq_getD_getElem?] at s7'
              clear hd hy hb
              go_simp
              exact hK.out _ W (stpj_of hmo d (Below.refl _ _)) (if_pos rfl)
            case o10 =>
              intro At yy W bb hy hb hbb d hz hd K hK
              have e8 : yy 8 = .slice (some ⟨gi, 0, none⟩) N N := by obtain ⟨_, _, _, _, e⟩ := hd ⟨8, .data⟩ (by simp) rfl rfl; exact e
              have e9 : yy 9 = .int .i64 (s : Int) := by obtain ⟨_, _, _, _, e⟩ := hd ⟨9, .data⟩ (by simp) rfl rfl; exact e
              have s74 := (hy 8 _ 74 rfl rfl).trans e8
              have s74' := s74
              rw [Array.getD_eq_getD_getElem?] at s74'
              have s75 := (hy 9 _ 75 rfl rfl).trans e9
              have s75' := s75
              rw [Array.getD_eq_getD_getElem?] at s75'
              clear hd hy hb
              go_simp
              exact hK.out _ W (stpj_of hmo d (Below.refl _ _)) (if_pos rfl)
            case o11 =>
              intro At yy W bb hy hb hbb d hz hd K hK
              have e10 : yy 10 = .pointer (some ⟨gi, s, none⟩) := by obtain ⟨_, _, _, _, e⟩ := hd ⟨10, .data⟩ (by simp) rfl rfl; exact e
              have s76 := (hy 10 _ 76 rfl rfl).trans e10
              have s76' := s76
              rw [Array.getD_eq_getD_getElem?] at s76'
              clear hd hy hb
              have y : W.cell? ⟨gi, s, none⟩ = some (.slice t1 nX c1) := (HGW.out W _ d)
              go_simp
              exact hK.out _ W (stpj_of hmo d (Below.refl _ _)) (if_pos rfl)
            case o12 =>
              intro At yy W bb hy hb hbb d hz hd K hK
              have s6 : At.tmps.getD 6 undef = .int .i64 (p : Int) := hb 6 rfl
              have s6' := s6
              rw [Array.getD_eq_getD_getElem?] at s6'
              clear hd hy hb
              go_simp
              exact hK.out _ W (stpj_of hmo d (Below.refl _ _)) (if_pos rfl)
            case o13 =>
              intro At yy W bb hy hb hbb d hz hd K hK
              have e12 : yy 12 = .int .i64 (p : Int) := by obtain ⟨_, _, _, _, e⟩ := hd ⟨12, .data⟩ (by simp) rfl rfl; exact e
              have s78 := (hy 12 _ 78 rfl rfl).trans e12
              have s78' := s78
              rw [Array.getD_eq_getD_getElem?] at s78'
              clear hd hy hb
              go_simp
              exact hK.out _ _ (stpj_of hmo (JO_on d ((Below.refl _ _).alloc (Nat.le_refl _) _)) ((Below.refl _ _).alloc (Nat.le_refl _) _)) ⟨if_pos rfl, hz, by simp, World.alloc_heap_new _ _⟩
            case o14 =>
              intro At yy W bb hy hb hbb d hz hd K hK
              have e11 : yy 11 = .slice t1 nX c1 := by obtain ⟨_, _, _, _, e⟩ := hd ⟨11, .data⟩ (by simp) rfl rfl; exact e
              have f13 := hd ⟨13, .data⟩ (by simp) rfl rfl
              obtain ⟨lo2, hi2, hl2, hh2, e13, b2, l2, z2⟩ := f13
              have s77 := (hy 11 _ 77 rfl rfl).trans e11
              have s77' := s77
              rw [Array.getD_eq_getD_getElem?] at s77'
              have s79 := (hy 13 _ 79 rfl rfl).trans e13
              have s79' := s79
              rw [Array.getD_eq_getD_getElem?] at s79'
              clear hd hb
              have hb0 := hbb rfl
              subst hb0
              refine step_appI rfl _ _ rfl B (.slice t1 nX c1) X s77 (own_below HOX.out (d.1 rfl)) lo2 p s79 z2 hXl (Nat.le_trans hB3 hz) ?_
              intro v4 w4 ho4 hg4 hv4
              exact hK.out _ w4 (stpj_keeps [] rfl (JO_put d hg4.out) hg4.out.size ⟨.inr (fun _ _ _ h => h), .inr (fun _ _ _ h => h), .inr (fun _ _ _ h => h), .inr (fun _ _ _ h => h), .inr (fun _ _ _ h => h), .inr (fun _ _ _ h => h), .inr (fun _ _ _ h => h), .inr (fun _ _ _ h => h), .inr (fun _ _ _ h => h), .inr (fun _ _ _ h => h), .inr (fun _ _ _ h => h), .inr (fun _ _ _ h => h), .inr (fun _ _ _ h => h), .inr (fun _ _ hh h => ox1P_keep hh h hg4.out HLO.out), .inl (by simp), trivial⟩) ⟨v4, if_pos rfl, ho4, fun k hk => (hv4 k hk).imp id (Nat.le_trans hz)⟩
            case fin =>
              intro yy lo hi W hM
              show wpList _ _ _ [_, _] _ _
              have e0 : yy 0 = .pointer (some ⟨b, 0, none⟩) := hM.fact 0 (by simp) rfl (notR_all 0 rfl)
              have e1 : yy 1 = .pointer (some ⟨b, 0, none⟩) := hM.fact 1 (by simp) rfl (notR_all 1 rfl)
              have e2 : yy 2 = .pointer (some ⟨b, 7, none⟩) := hM.fact 2 (by simp) rfl (notR_all 2 rfl)
              have e3 : yy 3 = .slice (some ⟨gi, 0, none⟩) N N := hM.fact 3 (by simp) rfl (notR_all 3 rfl)
              have e4 : yy 4 = .int .i64 (s : Int) := hM.fact 4 (by simp) rfl (notR_all 4 rfl)
              have e5 : yy 5 = .pointer (some ⟨b, 0, none⟩) := hM.fact 5 (by simp) rfl (notR_all 5 rfl)
              have e6 : yy 6 = .pointer (some ⟨b, 0, none⟩) := hM.fact 6 (by simp) rfl (notR_all 6 rfl)
              have e7 : yy 7 = .pointer (some ⟨b, 7, none⟩) := hM.fact 7 (by simp) rfl (notR_all 7 rfl)
              have e8 : yy 8 = .slice (some ⟨gi, 0, none⟩) N N := hM.fact 8 (by simp) rfl (notR_all 8 rfl)
              have e9 : yy 9 = .int .i64 (s : Int) := hM.fact 9 (by simp) rfl (notR_all 9 rfl)
              have e10 : yy 10 = .pointer (some ⟨gi, s, none⟩) := hM.fact 10 (by simp) rfl (notR_all 10 rfl)
              have e11 : yy 11 = .slice t1 nX c1 := hM.fact 11 (by simp) rfl (notR_all 11 rfl)
              have e12 : yy 12 = .int .i64 (p : Int) := hM.fact 12 (by simp) rfl (notR_all 12 rfl)
              obtain ⟨v4, e14, O14, B14⟩ := hM.fact 14 (by simp) rfl (notR_all 14 rfl)
              obtain ⟨e13, _, _, _⟩ := hM.fact 13 (by simp) rfl (notR_all 13 rfl)
              have dd : JO wr (fun k => (Value.slice t1 nX c1).ownBlock = some k) true W := hM.d
              simp only [fills, Act.put, List.take, List.length, List.setIfInBounds_toArray, List.set_cons_zero, List.set_cons_succ, e0, e1, e2, e3, e4, e5, e6, e7, e8, e9, e10, e11, e12, e13, e14]
              generalize lo 13 = p8
              obtain ⟨b4, c4, e4⟩ := own_slice O14
              subst e4
              clear hM hmo e0 e1 e2 e3 e4 e5 e6 e7 e8 e9 e10 e11 e12 e13 e14
              have HF := hide (HPW.out W (.slice b4 (natI (X ++ [p])).length c4) dd.2 O14 B14)
              have y6 : W.cell? ⟨gi, s, none⟩ = some (.slice t1 nX c1) := HGW.out W _ dd
              have g6 : W.frozen? ⟨gi, s, none⟩ = false := HGF.out W _ dd
              obtain ⟨w9, hw9⟩ : ∃ w9, W.setCell ⟨gi, s, none⟩ (.slice b4 (natI (X ++ [p])).length c4) = w9 := ⟨_, rfl⟩
              rw [hw9] at HF
              clear O14 B14 dd
              go_upto_region 13 with fail
              clear y6 g6
              try rw [hw9]
              clear hw9
              have T70 := wait_any B (fun _ => False) w9 b N M gf _ lN cN gc gw gs gi _ _ _ _ HF.out.r HF.out.o p hplN HT.out.2.1 bl (by omega) (HW.out _ HF.out.d).2.2 (fun k z => z.elim)
              go_wp2_with (go_at_call 70; refine T70.mono ?_; rintro e wt ⟨rfl, V3, L3, H3⟩)
              go_roundw
              case rel =>
                have keyf : ∀ q, decide (q < p + 1) = updF (fun q => decide (q < p)) p true q := fun q => by
                  by_cases e : q = p
                  · subst e; rw [updF_same]; exact decide_eq_true (by omega)
                  · rw [updF_ne _ _ e]; exact decide_eq_decide.2 (by omega)
                refine ⟨p + 1, by omega, by go_num, V3, L3, hide ⟨H3.out.1.alike (fun _ _ => rfl) (fun q _ => keyf q), H3.out.2.1.alike (fun _ _ => rfl) (fun q _ => keyf q), fun s' hs' => ?_, H3.out.2.2.1.2.trans HF.out.z, HF.out.d.trans (H3.out.2.2.2.2.toBelow (HW.out _ HF.out.d).2.2 (fun k hk => hk.1))⟩⟩
                rw [(H3.out.2.2.2.1 s').2]
                exact HF.out.i s' hs'
              case measure => simp [intOf]; omega
          · have l1 : ¬ (p : Int) < (lN : Int) := by omega
            have hEq : p = lN := by omega
            have HE := hide (HY.out.last hEq HT.out.2.1)
            clear hEq hp hplN
            go_wp2_with fail
            go_ret
            exact ⟨b, rfl, B, gc, gw, gs, gi, V, L, _, _, hide ⟨by have := HBB.out; omega, (HW.out wr HY.out.d).2.2, HE.out, (HW.out wr HY.out.d).1⟩⟩
/-! ### Of each state the least one alike -/
theorem rdN_lt {W : World} {ao : Option Addr} {L : List Int} (h : RdN W ao L) {W' : World} {R : Nat → Prop} (o : Only W W' R) (hR : ∀ k, k < W.heap.size → ¬ R k) : RdN W' ao L := fun j hj => by
  obtain ⟨g, o2, rfl, c⟩ := h j hj
  have hg := World.block_lt_of_cell? W _ c
  refine ⟨g, o2, rfl, ?_⟩
  rw [World.cell?_of_block (o.block g hg (hR g hg))]
  exact c
/-- The first of the states below s whose class is c; else -1. -/
def fsT (cl : Nat → Nat) : Nat → Nat → Int
  | 0, _ => -1
  | s + 1, c => if cl s = c ∧ fsT cl s c < 0 then (s : Int) else fsT cl s c
theorem fsT_spec (cl : Nat → Nat) (s c : Nat) : (fsT cl s c = -1 ∧ ∀ q, q < s → cl q ≠ c) ∨ ∃ q : Nat, fsT cl s c = (q : Int) ∧ q < s ∧ cl q = c ∧ ∀ t, t < q → cl t ≠ c := by
  induction s with
  | zero => exact Or.inl ⟨rfl, fun q hq => by omega⟩
  | succ s ih =>
    by_cases h : cl s = c ∧ fsT cl s c < 0
    · have e : fsT cl (s + 1) c = (s : Int) := if_pos h
      rcases ih with ⟨e1, n⟩ | ⟨q, e1, _⟩
      · exact Or.inr ⟨s, e, by omega, h.1, n⟩
      · omega
    · have e : fsT cl (s + 1) c = fsT cl s c := if_neg h
      rw [e]
      rcases ih with ⟨e1, n⟩ | ⟨q, e1, hq, hc, hl⟩
      · refine Or.inl ⟨e1, fun q hq e2 => ?_⟩
        by_cases eq : q = s
        · subst eq; exact h ⟨e2, by omega⟩
        · exact n q (by omega) e2
      · exact Or.inr ⟨q, e1, by omega, hc, hl⟩
/-- Of a state the least one that is in its class. -/
def alT (cl : Nat → Nat) (s : Nat) : Int := fsT cl (s + 1) (cl s)
theorem alT_spec (cl : Nat → Nat) (s : Nat) : ∃ q : Nat, alT cl s = (q : Int) ∧ q ≤ s ∧ cl q = cl s ∧ ∀ t, t < q → cl t ≠ cl s := by
  rcases fsT_spec cl (s + 1) (cl s) with ⟨_, n⟩ | ⟨q, e, hq, hc, hl⟩
  · exact absurd rfl (n s (by omega))
  · exact ⟨q, e, by omega, hc, hl⟩
set_option maxRecDepth 100000 in
set_option maxHeartbeats 8000000 in
theorem alike_any (w : World) (N M gf lN cN : Nat) (aN : Option Addr) (Nx : List Int) (fin : Nat → Bool) (hT : TbR w M N gf aN fin Nx) (hlN : lN = N * M) (bl : lN ≤ 4194304) (bN : N ≤ 2097152) (bM : M ≤ 4194304) :
    Calls Try.prog 40 #[.agg #[.int .i64 (M : Int), .slice (some ⟨gf, 0, none⟩) N N, .slice aN lN cN]] w fun e w' => ∃ h, e = .returned (.slice (some ⟨h, 0, none⟩) N N) ∧ ∃ al : Nat → Nat, Hid (Mrw w' h 3 N (fun s => .int .i64 ((al s : Nat) : Int)) N ∧ w.heap.size ≤ h ∧ (∀ s, s < N → al s ≤ s ∧ Ali Nx fin M s (al s) ∧ ∀ t, t < N → Ali Nx fin M s t → al s ≤ t) ∧ Below w.heap.size w w') := by
  obtain ⟨i3, hi3, hz30, hz31, hz32⟩ := info_parts info3
  have hmk : ∀ W : World, (Instr.makeSlice 22 (.int .i64 (N : Int)) (.int .i64 (N : Int))).run Try.prog W = .ok (.slice (some ⟨W.heap.size, 0, none⟩) N N) (W.alloc (.cells (madeCells (Value.int .i64 0).cells (N * 1)) 3)) := fun W => by
    have h := run_make (P := Try.prog) W 22 3 i3 (.int .i64 0) Try.underlying22 hi3 hz30 .i64 .i64 (N : Int) (N : Int) (by omega) (by omega) (by rw [hz32]; omega) (by omega)
    rw [hz31, Int.toNat_natCast] at h
    exact h
  clear hi3 hz30 hz31 hz32
  obtain ⟨C, hC⟩ : ∃ C, madeCells (Value.int .i64 0).cells (N * 1) = C := ⟨_, rfl⟩
  rw [hC] at hmk
  have HC := hide hC
  clear hC
  obtain ⟨w1, hw1⟩ : ∃ w1, w.alloc (.cells #[.int .i64 (M : Int), .slice (some ⟨gf, 0, none⟩) N N, .slice aN lN cN] 60) = w1 := ⟨_, rfl⟩
  have D1 : Below w.heap.size w w1 := by rw [← hw1]; exact (Below.refl _ _).alloc (Nat.le_refl _) _
  have HB0 : w1.heap[w.heap.size]? = some (.cells #[.int .i64 (M : Int), .slice (some ⟨gf, 0, none⟩) N N, .slice aN lN cN] 60 (0, 0)) := by rw [← hw1]; exact World.alloc_heap_new _ _
  have y0 : w1.cell? ⟨w.heap.size, 0, none⟩ = some (.int .i64 (M : Int)) := cell_of HB0 rfl
  have y1 : w1.cell? ⟨w.heap.size, 1, none⟩ = some (.slice (some ⟨gf, 0, none⟩) N N) := cell_of HB0 rfl
  have y2 : w1.cell? ⟨w.heap.size, 2, none⟩ = some (.slice aN lN cN) := cell_of HB0 rfl
  have T60 := newParting_any w1 N M gf lN cN aN Nx fin (hT.on D1) hlN bl bN bM
  have HT := hide (And.intro hT (And.intro hlN D1))
  clear hT hlN D1 HB0
  go_enter Try.func40, Try.ntmps40
  go_upto_region 2 with (go_at_call 60; refine T60.mono ?_; rintro e w2 ⟨b, rfl, B, gc, gw, gs, gi, V, L, cl, fl, HP⟩)
  clear T60 y0 y1 y2
  clear hw1
  have hd : ∀ s a, s < N → a < M → dl Nx M s a < N := fun s a hs ha => (dl_spec HT.out.1.len HT.out.1.inr hs ha).2.2
  have hsz1 := HT.out.2.2.size
  have T61 := settle_any Nx fin B (fun _ => False) w2 b N M gf aN lN cN gc gw gs gi V L cl fl 2 HP.out.2.2.1 HT.out.2.1 bl bN bM HP.out.2.1 (fun k z => z.elim) (fun W o => rdN_lt (HT.out.1.nx.on HT.out.2.2) ((Only.ofBelow HP.out.2.2.2 (R := fun k => B ≤ k)).trans (o.mono (fun k _ h => h.1))) (fun k hk h => by have := HP.out.1; omega)) HT.out.1.len HT.out.1.inr
  have HH := hide hd
  clear hd
  go_upto_region 3 with (go_at_call 61; refine T61.mono ?_; rintro e w3 ⟨rfl, V3, L3, cl3, fl3, K3, HS⟩)
  clear T61
  have HD3 : Hid (Below w.heap.size w w3) := hide ((HT.out.2.2.trans (HP.out.2.2.2.mono hsz1)).trans (HS.out.2.2.toBelow (Nat.le_trans hsz1 HP.out.2.2.2.size) (fun k hk => by have := hk.1; have := HP.out.1; omega)))
  have hal : ∀ s t, s < N → t < N → (cl3 s = cl3 t ↔ Ali Nx fin M s t) := fun s t hs ht => HS.out.1.p.last HH.out (fun s a hs ha => by
    cases e : fl3 (s * M + a) with
    | false => rfl
    | true =>
      have q := ((HS.out.1.w a ha).2 s).2 ⟨hs, e⟩
      rw [HS.out.2.1 a ha] at q
      cases q) hs ht
  have hkl := HS.out.1.p.kl
  have hfew := HS.out.1.p.few
  have h2K := HS.out.1.k
  have h2L := HS.out.1.s.1
  have HX := hide (And.intro hal (And.intro hkl (And.intro HS.out.1.r.bx HS.out.1.r.cr)))
  have hO := HS.out.1.r.fam.own 0 (by omega)
  obtain ⟨t0, k0, hv0⟩ := own_slice hO
  rw [natI_len, h2L] at hv0
  obtain ⟨w4, hw4⟩ : ∃ w4, w3.alloc (.cells #[.int .i64 (-1)] 3) = w4 := ⟨_, rfl⟩
  have D4 : Below w3.heap.size w3 w4 := by rw [← hw4]; exact (Below.refl _ _).alloc (Nat.le_refl _) _
  have y4 : ∀ o, (w3.alloc o).cell? ⟨b, 4, none⟩ = some (.slice t0 K3 k0) := fun o => by have := cell_of (blk_on HX.out.2.2.1 ((Below.refl _ _).alloc (Nat.le_refl _) o)) (j := 4) (v := V3 0) rfl; rwa [hv0] at this
  have T54 := repeat_any w4 w3.heap.size K3 (by rw [← hw4]; exact World.alloc_heap_new _ _) (by omega) (by omega)
  rw [← hw4] at T54
  have s4 : w4.heap.size = w3.heap.size + 1 := by rw [← hw4]; simp
  have HD4 : Hid (Below w3.heap.size w3 (w3.alloc (.cells #[.int .i64 (-1)] 3)) ∧ (w3.alloc (.cells #[.int .i64 (-1)] 3)).heap.size = w3.heap.size + 1) := hide (by rw [hw4]; exact And.intro D4 s4)
  clear hw4
  have HK := hide (And.intro hfew (And.intro h2K hsz1))
  clear hO hv0 hal hkl hfew h2K h2L D4 s4 w4 HS HP HH hsz1
  clear V L cl fl
  go_upto_region 4 with (go_at_call 54; refine T54.mono ?_; rintro e w5 ⟨hF, rfl, HR⟩)
  clear T54 y4
  have D5 : Below w3.heap.size w3 w5 := HD4.out.1.trans (HR.out.2.2.mono (by have := HD4.out.2; omega))
  have z3 : w5.cell? ⟨b, 3, none⟩ = some (.slice (some ⟨gc, 0, none⟩) N N) := cell_of (blk_on HX.out.2.2.1 D5) rfl
  obtain ⟨hA, hhA⟩ : ∃ h, w5.heap.size = h := ⟨_, rfl⟩
  obtain ⟨w6, hw6⟩ : ∃ w6, w5.alloc (.cells C 3) = w6 := ⟨_, rfl⟩
  have D6 : Below w5.heap.size w5 w6 := by rw [← hw6]; exact (Below.refl _ _).alloc (Nat.le_refl _) _
  have z3' : w6.cell? ⟨b, 3, none⟩ = some (.slice (some ⟨gc, 0, none⟩) N N) := cell_of (blk_on (blk_on HX.out.2.2.1 D5) D6) rfl
  have mA : Mrw w6 hA 3 N (fun _ => .int .i64 0) N := mrw_make rfl (by rw [HC.out, ← hw6, ← hhA]; exact World.alloc_heap_new _ _)
  have mF := HR.out.2.1.below D6 HR.out.2.1.lt
  have hFA : hF ≠ hA := by have := HR.out.2.1.lt; omega
  have hlo : w3.heap.size ≤ hF ∧ w3.heap.size ≤ hA := ⟨by have := HR.out.1; have := HD4.out.2; omega, by have := D5.size; omega⟩
  have J0 : Hid (Mrw w6 hF 3 K3 (fun c => .int .i64 (fsT cl3 0 c)) K3 ∧ Mrw w6 hA 3 N (fun q => .int .i64 (if q < 0 then alT cl3 q else 0)) N ∧ Below w3.heap.size w3 w6) := hide ⟨mF, mA.congr (fun c _ => by simp), D5.trans (D6.mono D5.size)⟩
  have HL := hide (And.intro hFA hlo)
  clear D5 D6 mA mF hFA hlo HR HD4
  go_upto_region 5 with fail
  try rw [hhA]
  try rw [hw6]
  clear hw6 hhA z3 hmk
  go_wp2_with fail
  clear z3'
  go_loopw [30] (fun iv wr => ∃ s : Nat, s ≤ N ∧ iv = .int .i64 (s : Int) ∧ Hid (Mrw wr hF 3 K3 (fun c => .int .i64 (fsT cl3 s c)) K3 ∧ Mrw wr hA 3 N (fun q => .int .i64 (if q < s then alT cl3 q else 0)) N ∧ Below w3.heap.size w3 wr)) (fun iv _ => N - (intOf iv).toNat)
  case atStart => exact ⟨0, Nat.zero_le _, rfl, J0⟩
  case round =>
    clear J0
    obtain ⟨s, hs, rfl, HI⟩ := hrel
    by_cases hsN : s < N
    · have l0 : (s : Int) < (N : Int) := by omega
      have l1 : (0 : Int) ≤ (s : Int) := by omega
      obtain ⟨c, hc⟩ : ∃ c, cl3 s = c := ⟨_, rfl⟩
      have hcK : c < K3 := by rw [← hc]; exact HX.out.2.1 s hsN
      have l2 : (0 : Int) ≤ (c : Int) := by omega
      have l3 : (c : Int) < (K3 : Int) := by omega
      have yc : wr.cell? ⟨gc, s, none⟩ = some (.int .i64 (c : Int)) := by have := (HX.out.2.2.2.below HI.out.2.2 HX.out.2.2.2.lt).at s hsN; rwa [hc] at this
      obtain ⟨f, hf⟩ : ∃ f, fsT cl3 s c = f := ⟨_, rfl⟩
      have yf : wr.cell? ⟨hF, c, none⟩ = some (.int .i64 f) := by rw [← hf]; exact HI.out.1.at c hcK
      have ff := HI.out.1.fz c
      obtain ⟨u, ya⟩ := HI.out.2.1.cell s hsN
      have fa := HI.out.2.1.fz s
      have hb3 : w3.heap.size ≤ wr.heap.size := HI.out.2.2.size
      by_cases hneg : f < 0
      · have HV : Hid (alT cl3 s = (s : Int)) := hide (by
          show fsT cl3 (s + 1) (cl3 s) = _
          rw [hc]
          exact if_pos ⟨hc, by omega⟩)
        have HFs : Hid (∀ x, fsT cl3 (s + 1) x = if x = c then (s : Int) else fsT cl3 s x) := hide (fun x => by
          by_cases e : x = c
          · rw [if_pos e]; exact if_pos ⟨by rw [hc, e], by rw [e, hf]; exact hneg⟩
          · rw [if_neg e]; exact if_neg (fun z => e (by rw [← z.1, hc])))
        clear hc hf
        have yf2 : (wr.setCell ⟨hF, c, none⟩ (.int .i64 (s : Int))).cell? ⟨hF, c, none⟩ = some (.int .i64 (s : Int)) := World.cell?_setCell_same _ _ _ yf
        have o1 := only_set wr hF c (.int .i64 (s : Int))
        have m1 := HI.out.1.upd c (.int .i64 (s : Int))
        have m2 := HI.out.2.1.only o1 (fun e => HL.out.1 e.symm)
        obtain ⟨u2, ya2⟩ := m2.cell s hsN
        have fa2 := m2.fz s
        obtain ⟨w7, hw7⟩ : ∃ w7, wr.setCell ⟨hF, c, none⟩ (.int .i64 (s : Int)) = w7 := ⟨_, rfl⟩
        rw [hw7] at yf2 o1 m1 m2 ya2 fa2
        have HM := hide (And.intro m1 (And.intro m2 o1))
        clear m1 m2 o1
        have HNEG := hide hneg
        go_wp2_with fail
        go_roundw
        case rel =>
          have o2 := only_set w7 hA s (.int .i64 (s : Int))
          have h7 := HM.out.2.2.size
          refine ⟨s + 1, by omega, by go_num, hide ⟨(HM.out.1.only o2 HL.out.1).congr (fun x _ => ?_), (HM.out.2.1.upd s (.int .i64 (s : Int))).congr (fun q _ => ?_), (HI.out.2.2.trans (HM.out.2.2.toBelow hb3 (fun k hk => by rw [hk]; exact HL.out.2.1))).trans (o2.toBelow (by omega) (fun k hk => by rw [hk]; exact HL.out.2.2))⟩⟩
          · rw [HFs.out x]
            split <;> rfl
          · by_cases e : q = s
            · subst e; rw [if_pos rfl, if_pos (by omega), HV.out]
            · rw [if_neg e]
              by_cases h : q < s
              · rw [if_pos h, if_pos (by omega)]
              · rw [if_neg h, if_neg (by omega)]
        case measure => simp [intOf]; omega
      · have HV : Hid (alT cl3 s = f) := hide (by
          show fsT cl3 (s + 1) (cl3 s) = _
          rw [hc]
          exact (if_neg (fun z => hneg (by rw [← hf]; exact z.2))).trans hf)
        have HFs : Hid (∀ x, fsT cl3 (s + 1) x = fsT cl3 s x) := hide (fun x => if_neg (fun z => hneg (by rw [← hf, ← hc, z.1]; exact z.2)))
        clear hc hf
        have HNEG := hide hneg
        go_wp2_with fail
        go_roundw
        case rel =>
          have o2 := only_set wr hA s (.int .i64 f)
          refine ⟨s + 1, by omega, by go_num, hide ⟨(HI.out.1.only o2 HL.out.1).congr (fun x _ => by rw [HFs.out x]), (HI.out.2.1.upd s (.int .i64 f)).congr (fun q _ => ?_), HI.out.2.2.trans (o2.toBelow hb3 (fun k hk => by rw [hk]; exact HL.out.2.2))⟩⟩
          by_cases e : q = s
          · subst e; rw [if_pos rfl, if_pos (by omega), HV.out]
          · rw [if_neg e]
            by_cases h : q < s
            · rw [if_pos h, if_pos (by omega)]
            · rw [if_neg h, if_neg (by omega)]
        case measure => simp [intOf]; omega
    · have l0 : ¬ (s : Int) < (N : Int) := by omega
      have hEs : s = N := by omega
      subst s
      clear hs
      go_wp2_with fail
      go_ret
      refine ⟨hA, rfl, fun s => (alT cl3 s).toNat, hide ⟨HI.out.2.1.congr (fun q hq => ?_), by have := HL.out.2.2; have := HD3.out.size; omega, fun s hs => ?_, HD3.out.trans (HI.out.2.2.mono HD3.out.size)⟩⟩
      · obtain ⟨t, e, _⟩ := alT_spec cl3 q
        show _ = Value.int .i64 (((alT cl3 q).toNat : Nat) : Int)
        rw [if_pos hq, e, Int.toNat_natCast]
      · obtain ⟨t, e, ht, hc, hl⟩ := alT_spec cl3 s
        show (alT cl3 s).toNat ≤ s ∧ Ali Nx fin M s (alT cl3 s).toNat ∧ ∀ x, x < N → Ali Nx fin M s x → (alT cl3 s).toNat ≤ x
        rw [e, Int.toNat_natCast]
        refine ⟨ht, (HX.out.1 s t hs (by omega)).1 hc.symm, fun x hx ha => ?_⟩
        have := (HX.out.1 s x hs hx).2 ha
        exact Nat.le_of_not_lt (fun h => hl x h this.symm)
/-! ### Tell -/
set_option maxRecDepth 100000 in
set_option maxHeartbeats 2000000 in
theorem tell_arg (w : World) (N M st : Nat) (aF aN : Option Addr) (lF cF lN cN : Nat) (Fi Nx : List Int) (hF : RdN w aF Fi) (hN : RdN w aN Nx) (hlF : Fi.length = lF) (hlN : Nx.length = lN) (bF : lF ≤ 4194304) (bN : lN ≤ 4194304) (hv : vd N M st Fi Nx = true) (s t : Int) (hs : ¬ (inB N s = true ∧ inB N t = true)) :
    Calls Try.prog 15 #[.agg #[.int .i64 (N : Int), .int .i64 (M : Int), .int .i64 (st : Int), .slice aF lF cF, .slice aN lN cN], .int .i64 s, .int .i64 t] w fun e w' => e = .returned (.tuple #[.slice none 0 0, .int .i64 1]) ∧ Below w.heap.size w w' := by
  obtain ⟨n, m, s0, en, em, es, n1, n2, m1, s1, e1, i1, i2⟩ := vd_nat hv
  obtain rfl : N = n := by omega
  obtain rfl : M = m := by omega
  obtain rfl : st = s0 := by omega
  clear en em es
  have bNM : N * M ≤ 4194304 := by rw [← e1, hlN]; exact bN
  have eNM : lN = N * M := by rw [← hlN]; exact e1
  obtain ⟨W0, hW0⟩ : ∃ W0, w.alloc (.cells #[.int .i64 (N : Int), .int .i64 (M : Int), .int .i64 (st : Int), .slice aF lF cF, .slice aN lN cN] 24) = W0 := ⟨_, rfl⟩
  have d0 : Below w.heap.size w W0 := by rw [← hW0]; exact (Below.refl _ _).alloc (Nat.le_refl _) _
  have B0 : W0.heap[w.heap.size]? = some (.cells #[.int .i64 (N : Int), .int .i64 (M : Int), .int .i64 (st : Int), .slice aF lF cF, .slice aN lN cN] 24 (0, 0)) := by rw [← hW0]; exact World.alloc_heap_new _ _
  have k0 : W0.cell? ⟨w.heap.size, 0, none⟩ = some (.int .i64 (N : Int)) := cell_of B0 rfl
  have k1 : W0.cell? ⟨w.heap.size, 1, none⟩ = some (.int .i64 (M : Int)) := cell_of B0 rfl
  have k2 : W0.cell? ⟨w.heap.size, 2, none⟩ = some (.int .i64 (st : Int)) := cell_of B0 rfl
  have k3 : W0.cell? ⟨w.heap.size, 3, none⟩ = some (.slice aF lF cF) := cell_of B0 rfl
  have k4 : W0.cell? ⟨w.heap.size, 4, none⟩ = some (.slice aN lN cN) := cell_of B0 rfl
  have TV : Hid (Calls Try.prog 31 #[.agg #[.int .i64 (N : Int), .int .i64 (M : Int), .int .i64 (st : Int), .slice aF lF cF, .slice aN lN cN]] W0 fun e w' => e = .returned (.int .i64 0) ∧ Below W0.heap.size W0 w') := hide (by
    have := valid_any W0 N M st aF aN lF cF lN cN Fi Nx (hF.on d0) (hN.on d0) hlF hlN bF bN
    rw [if_pos hv] at this
    exact this)
  have TO : Hid (∀ W, Below W0.heap.size W0 W → Calls Try.prog 34 #[.agg #[.int .i64 (N : Int), .int .i64 (M : Int), .int .i64 (st : Int), .slice aF lF cF, .slice aN lN cN]] W fun e w' => ∃ gf, e = .returned (.agg #[.int .i64 (M : Int), .slice (some ⟨gf, 0, none⟩) N N, .slice aN lN cN]) ∧ Hid (TbR w' M N gf aN (inF Fi) Nx) ∧ Below W.heap.size W w') := hide (fun W d => (tableOf_any W N M lF cF lN cN st aF aN Fi ((hF.on d0).on d) hlF i2 bF (by omega)).mono (by
    rintro e w' ⟨gf, rfl, H, d'⟩
    exact ⟨gf, rfl, hide ⟨H.out.2, ((hN.on d0).on d).on d', e1, i1⟩, d'⟩))
  have HD := hide (And.intro d0 B0)
  have HNM := hide (And.intro eNM bNM)
  clear d0 B0 hF hN hlF hlN e1 i1 i2 hv bF bN eNM bNM
  go_enter Try.func15, Try.ntmps15
  go_upto_region 4 with (go_at_call 31; refine TV.out.mono ?_; rintro e w2 ⟨rfl, HB⟩)
  have B2 := blk_on HD.out.2 HB
  have HB2 := hide (And.intro HB B2)
  have q0 : w2.cell? ⟨w.heap.size, 0, none⟩ = some (.int .i64 (N : Int)) := cell_of B2 rfl
  have q1 : w2.cell? ⟨w.heap.size, 1, none⟩ = some (.int .i64 (M : Int)) := cell_of B2 rfl
  have q2 : w2.cell? ⟨w.heap.size, 2, none⟩ = some (.int .i64 (st : Int)) := cell_of B2 rfl
  have q3 : w2.cell? ⟨w.heap.size, 3, none⟩ = some (.slice aF lF cF) := cell_of B2 rfl
  have q4 : w2.cell? ⟨w.heap.size, 4, none⟩ = some (.slice aN lN cN) := cell_of B2 rfl
  clear B2 HB TV k0 k1 k2 k3 k4
  have DD := hide (HD.out.1.trans (HB2.out.1.mono HD.out.1.size))
  cases es : inB N s with
  | false =>
    have T1 := withinM_any s N w2
    rw [es] at T1
    have he := hide es
    clear es
    go_wp2_with (go_at_call 41; refine T1.mono ?_; rintro e w9 ⟨rfl, h9⟩; obtain rfl := h9.symm)
    go_ret2
    exact ⟨rfl, DD.out⟩
  | true =>
    cases et : inB N t with
    | true => exact absurd ⟨es, et⟩ hs
    | false =>
      have T1 := withinM_any s N w2
      rw [es] at T1
      have T2 := withinM_any t N w2
      rw [et] at T2
      have he := hide (And.intro es et)
      clear es et
      go_wp2_with fail
      go_at_call 41
      refine T1.mono ?_
      rintro e w9 ⟨rfl, h9⟩
      obtain rfl := h9.symm
      go_wp2_with fail
      go_at_call 41
      refine T2.mono ?_
      rintro e w9 ⟨rfl, h9⟩
      obtain rfl := h9.symm
      go_wp2_with fail
      go_ret2
      exact ⟨rfl, DD.out⟩
set_option maxRecDepth 100000 in
set_option maxHeartbeats 2000000 in
theorem tell_ok (w : World) (N M st : Nat) (aF aN : Option Addr) (lF cF lN cN : Nat) (Fi Nx : List Int) (hF : RdN w aF Fi) (hN : RdN w aN Nx) (hlF : Fi.length = lF) (hlN : Nx.length = lN) (bF : lF ≤ 4194304) (bN : lN ≤ 4194304) (hv : vd N M st Fi Nx = true) (p q : Nat) (hp : p < N) (hq : q < N) :
    Calls Try.prog 15 #[.agg #[.int .i64 (N : Int), .int .i64 (M : Int), .int .i64 (st : Int), .slice aF lF cF, .slice aN lN cN], .int .i64 (p : Int), .int .i64 (q : Int)] w fun e w' => ∃ b n c er, e = .returned (.tuple #[.slice b n c, .int .i64 er]) ∧ Hid (Below w.heap.size w w' ∧ ((er = 60 ∧ b = none ∧ n = 0 ∧ c = 0 ∧ Ali Nx (inF Fi) M p q) ∨ er = 0 ∧ ∃ u, OwI w' w.heap.size (.slice b n c) (natI u) ∧ TlW Nx (inF Fi) N M p q u)) := by
  obtain ⟨n, m, s0, en, em, es, n1, n2, m1, s1, e1, i1, i2⟩ := vd_nat hv
  obtain rfl : N = n := by omega
  obtain rfl : M = m := by omega
  obtain rfl : st = s0 := by omega
  clear en em es
  have bNM : N * M ≤ 4194304 := by rw [← e1, hlN]; exact bN
  have eNM : lN = N * M := by rw [← hlN]; exact e1
  obtain ⟨W0, hW0⟩ : ∃ W0, w.alloc (.cells #[.int .i64 (N : Int), .int .i64 (M : Int), .int .i64 (st : Int), .slice aF lF cF, .slice aN lN cN] 24) = W0 := ⟨_, rfl⟩
  have d0 : Below w.heap.size w W0 := by rw [← hW0]; exact (Below.refl _ _).alloc (Nat.le_refl _) _
  have B0 : W0.heap[w.heap.size]? = some (.cells #[.int .i64 (N : Int), .int .i64 (M : Int), .int .i64 (st : Int), .slice aF lF cF, .slice aN lN cN] 24 (0, 0)) := by rw [← hW0]; exact World.alloc_heap_new _ _
  have k0 : W0.cell? ⟨w.heap.size, 0, none⟩ = some (.int .i64 (N : Int)) := cell_of B0 rfl
  have k1 : W0.cell? ⟨w.heap.size, 1, none⟩ = some (.int .i64 (M : Int)) := cell_of B0 rfl
  have k2 : W0.cell? ⟨w.heap.size, 2, none⟩ = some (.int .i64 (st : Int)) := cell_of B0 rfl
  have k3 : W0.cell? ⟨w.heap.size, 3, none⟩ = some (.slice aF lF cF) := cell_of B0 rfl
  have k4 : W0.cell? ⟨w.heap.size, 4, none⟩ = some (.slice aN lN cN) := cell_of B0 rfl
  have TV : Hid (Calls Try.prog 31 #[.agg #[.int .i64 (N : Int), .int .i64 (M : Int), .int .i64 (st : Int), .slice aF lF cF, .slice aN lN cN]] W0 fun e w' => e = .returned (.int .i64 0) ∧ Below W0.heap.size W0 w') := hide (by
    have := valid_any W0 N M st aF aN lF cF lN cN Fi Nx (hF.on d0) (hN.on d0) hlF hlN bF bN
    rw [if_pos hv] at this
    exact this)
  have TO : Hid (∀ W, Below W0.heap.size W0 W → Calls Try.prog 34 #[.agg #[.int .i64 (N : Int), .int .i64 (M : Int), .int .i64 (st : Int), .slice aF lF cF, .slice aN lN cN]] W fun e w' => ∃ gf, e = .returned (.agg #[.int .i64 (M : Int), .slice (some ⟨gf, 0, none⟩) N N, .slice aN lN cN]) ∧ Hid (TbR w' M N gf aN (inF Fi) Nx) ∧ Below W.heap.size W w') := hide (fun W d => (tableOf_any W N M lF cF lN cN st aF aN Fi ((hF.on d0).on d) hlF i2 bF (by omega)).mono (by
    rintro e w' ⟨gf, rfl, H, d'⟩
    exact ⟨gf, rfl, hide ⟨H.out.2, ((hN.on d0).on d).on d', e1, i1⟩, d'⟩))
  have HD := hide (And.intro d0 B0)
  have HNM := hide (And.intro eNM bNM)
  clear d0 B0 hF hN hlF hlN e1 i1 i2 hv bF bN eNM bNM
  have es : inB N p = true := inB_iff.2 ⟨by omega, by omega⟩
  have et : inB N q = true := inB_iff.2 ⟨by omega, by omega⟩
  go_enter Try.func15, Try.ntmps15
  go_upto_region 4 with (go_at_call 31; refine TV.out.mono ?_; rintro e w2 ⟨rfl, HB⟩)
  have B2 := blk_on HD.out.2 HB
  have HB2 := hide (And.intro HB B2)
  have q0 : w2.cell? ⟨w.heap.size, 0, none⟩ = some (.int .i64 (N : Int)) := cell_of B2 rfl
  have q1 : w2.cell? ⟨w.heap.size, 1, none⟩ = some (.int .i64 (M : Int)) := cell_of B2 rfl
  have q2 : w2.cell? ⟨w.heap.size, 2, none⟩ = some (.int .i64 (st : Int)) := cell_of B2 rfl
  have q3 : w2.cell? ⟨w.heap.size, 3, none⟩ = some (.slice aF lF cF) := cell_of B2 rfl
  have q4 : w2.cell? ⟨w.heap.size, 4, none⟩ = some (.slice aN lN cN) := cell_of B2 rfl
  clear B2 HB TV k0 k1 k2 k3 k4
  have T1 := withinM_any p N w2
  rw [es] at T1
  have T2 := withinM_any q N w2
  rw [et] at T2
  clear es et
  go_wp2_with fail
  go_at_call 41
  refine T1.mono ?_
  rintro e w9 ⟨rfl, h9⟩
  obtain rfl := h9.symm
  go_wp2_with fail
  go_at_call 41
  refine T2.mono ?_
  rintro e w9 ⟨rfl, h9⟩
  obtain rfl := h9.symm
  clear T1 T2
  have TOW := TO.out w2 HB2.out.1
  clear TO
  go_wp2_with fail
  go_at_call 34
  refine TOW.mono ?_
  rintro e w3 ⟨gf, rfl, HT, D3⟩
  have HD3 := hide D3
  have TT := tellT_any w3 N M p q gf lN cN aN Nx (inF Fi) HT.out HNM.out.1 hp hq HNM.out.2 (by omega) (by omega)
  clear D3 TOW q0 q1 q2 q3 q4
  go_wp2_with fail
  go_at_call 42
  refine TT.mono ?_
  rintro e w4 ⟨b, n, c, told, rfl, HA⟩
  clear TT
  have DA : Hid (Below w.heap.size w w3) := hide ((HD.out.1.trans (HB2.out.1.mono HD.out.1.size)).trans (HD3.out.mono (Nat.le_trans HD.out.1.size HB2.out.1.size)))
  cases told with
  | false =>
    have HX := HA.out.2.2 rfl
    have HXX := hide HX
    clear HX
    go_wp2_with fail
    go_ret2
    refine ⟨none, 0, 0, 60, rfl, hide ⟨DA.out.trans (HA.out.1.mono DA.out.size), Or.inl ⟨?_, ?_, ?_, ?_, ?_⟩⟩⟩
    · rfl
    · rfl
    · rfl
    · rfl
    · exact HXX.out.2.2.2
  | true =>
    obtain ⟨u, hu, hw⟩ := HA.out.2.1 rfl
    have HU := hide (And.intro hu hw)
    clear hu hw
    go_wp2_with fail
    go_ret2
    refine ⟨b, n, c, 0, rfl, hide ⟨DA.out.trans (HA.out.1.mono DA.out.size), Or.inr ⟨?_, u, ?_, ?_⟩⟩⟩
    · rfl
    · exact owns_down HU.out.1 DA.out.size
    · exact HU.out.2
/-! ### Classes, and the classes as a function -/
/-- Of each state the least one alike. -/
def ClA (Nx : List Int) (fin : Nat → Bool) (N M : Nat) (al : Nat → Nat) : Prop := ∀ s, s < N → al s ≤ s ∧ Ali Nx fin M s (al s) ∧ ∀ t, t < N → Ali Nx fin M s t → al s ≤ t
theorem ClA.of {Nx : List Int} {fin : Nat → Bool} {N M : Nat} {al : Nat → Nat} (h : ClA Nx fin N M al) {s t : Nat} (hs : s < N) (ht : t < N) : Ali Nx fin M s t ↔ al s = al t := by
  have a := h s hs
  have b := h t ht
  constructor
  · intro q
    have h1 := a.2.2 (al t) (by omega) (q.trans b.2.1)
    have h2 := b.2.2 (al s) (by omega) (q.symm.trans a.2.1)
    omega
  · intro q
    have := a.2.1
    rw [q] at this
    exact this.trans b.2.1.symm
set_option maxRecDepth 100000 in
set_option maxHeartbeats 2000000 in
theorem classes_ok (w : World) (N M st : Nat) (aF aN : Option Addr) (lF cF lN cN : Nat) (Fi Nx : List Int) (hF : RdN w aF Fi) (hN : RdN w aN Nx) (hlF : Fi.length = lF) (hlN : Nx.length = lN) (bF : lF ≤ 4194304) (bN : lN ≤ 4194304) (hv : vd N M st Fi Nx = true) :
    Calls Try.prog 14 #[.agg #[.int .i64 (N : Int), .int .i64 (M : Int), .int .i64 (st : Int), .slice aF lF cF, .slice aN lN cN]] w fun e w' => ∃ h, e = .returned (.tuple #[.slice (some ⟨h, 0, none⟩) N N, .int .i64 0]) ∧ ∃ al, Hid (Mrw w' h 3 N (fun s => .int .i64 ((al s : Nat) : Int)) N ∧ w.heap.size ≤ h ∧ ClA Nx (inF Fi) N M al ∧ Below w.heap.size w w') := by
  obtain ⟨n, m, s0, en, em, es, n1, n2, m1, s1, e1, i1, i2⟩ := vd_nat hv
  obtain rfl : N = n := by omega
  obtain rfl : M = m := by omega
  obtain rfl : st = s0 := by omega
  clear en em es
  have bNM : N * M ≤ 4194304 := by rw [← e1, hlN]; exact bN
  have eNM : lN = N * M := by rw [← hlN]; exact e1
  obtain ⟨W0, hW0⟩ : ∃ W0, w.alloc (.cells #[.int .i64 (N : Int), .int .i64 (M : Int), .int .i64 (st : Int), .slice aF lF cF, .slice aN lN cN] 24) = W0 := ⟨_, rfl⟩
  have d0 : Below w.heap.size w W0 := by rw [← hW0]; exact (Below.refl _ _).alloc (Nat.le_refl _) _
  have B0 : W0.heap[w.heap.size]? = some (.cells #[.int .i64 (N : Int), .int .i64 (M : Int), .int .i64 (st : Int), .slice aF lF cF, .slice aN lN cN] 24 (0, 0)) := by rw [← hW0]; exact World.alloc_heap_new _ _
  have k0 : W0.cell? ⟨w.heap.size, 0, none⟩ = some (.int .i64 (N : Int)) := cell_of B0 rfl
  have k1 : W0.cell? ⟨w.heap.size, 1, none⟩ = some (.int .i64 (M : Int)) := cell_of B0 rfl
  have k2 : W0.cell? ⟨w.heap.size, 2, none⟩ = some (.int .i64 (st : Int)) := cell_of B0 rfl
  have k3 : W0.cell? ⟨w.heap.size, 3, none⟩ = some (.slice aF lF cF) := cell_of B0 rfl
  have k4 : W0.cell? ⟨w.heap.size, 4, none⟩ = some (.slice aN lN cN) := cell_of B0 rfl
  have TV : Hid (Calls Try.prog 31 #[.agg #[.int .i64 (N : Int), .int .i64 (M : Int), .int .i64 (st : Int), .slice aF lF cF, .slice aN lN cN]] W0 fun e w' => e = .returned (.int .i64 0) ∧ Below W0.heap.size W0 w') := hide (by
    have := valid_any W0 N M st aF aN lF cF lN cN Fi Nx (hF.on d0) (hN.on d0) hlF hlN bF bN
    rw [if_pos hv] at this
    exact this)
  have TO : Hid (∀ W, Below W0.heap.size W0 W → Calls Try.prog 34 #[.agg #[.int .i64 (N : Int), .int .i64 (M : Int), .int .i64 (st : Int), .slice aF lF cF, .slice aN lN cN]] W fun e w' => ∃ gf, e = .returned (.agg #[.int .i64 (M : Int), .slice (some ⟨gf, 0, none⟩) N N, .slice aN lN cN]) ∧ Hid (TbR w' M N gf aN (inF Fi) Nx) ∧ Below W.heap.size W w') := hide (fun W d => (tableOf_any W N M lF cF lN cN st aF aN Fi ((hF.on d0).on d) hlF i2 bF (by omega)).mono (by
    rintro e w' ⟨gf, rfl, H, d'⟩
    exact ⟨gf, rfl, hide ⟨H.out.2, ((hN.on d0).on d).on d', e1, i1⟩, d'⟩))
  have HD := hide (And.intro d0 B0)
  have HNM := hide (And.intro eNM bNM)
  clear d0 B0 hF hN hlF hlN e1 i1 i2 hv bF bN eNM bNM
  go_enter Try.func14, Try.ntmps14
  go_upto_region 4 with (go_at_call 31; refine TV.out.mono ?_; rintro e w2 ⟨rfl, HB⟩)
  have B2 := blk_on HD.out.2 HB
  have HB2 := hide (And.intro HB B2)
  have q0 : w2.cell? ⟨w.heap.size, 0, none⟩ = some (.int .i64 (N : Int)) := cell_of B2 rfl
  have q1 : w2.cell? ⟨w.heap.size, 1, none⟩ = some (.int .i64 (M : Int)) := cell_of B2 rfl
  have q2 : w2.cell? ⟨w.heap.size, 2, none⟩ = some (.int .i64 (st : Int)) := cell_of B2 rfl
  have q3 : w2.cell? ⟨w.heap.size, 3, none⟩ = some (.slice aF lF cF) := cell_of B2 rfl
  have q4 : w2.cell? ⟨w.heap.size, 4, none⟩ = some (.slice aN lN cN) := cell_of B2 rfl
  clear B2 HB TV k0 k1 k2 k3 k4
  have TOW := TO.out w2 HB2.out.1
  clear TO
  go_wp2_with fail
  go_at_call 34
  refine TOW.mono ?_
  rintro e w3 ⟨gf, rfl, HT, D3⟩
  have HD3 := hide D3
  have TT := alike_any w3 N M gf lN cN aN Nx (inF Fi) HT.out HNM.out.1 (by have := HNM.out.1; have := HNM.out.2; omega) (by omega) (by omega)
  clear D3 TOW q0 q1 q2 q3 q4
  go_wp2_with fail
  go_at_call 40
  refine TT.mono ?_
  rintro e w4 ⟨h, rfl, al, HA⟩
  clear TT
  have DA : Hid (Below w.heap.size w w3) := hide ((HD.out.1.trans (HB2.out.1.mono HD.out.1.size)).trans (HD3.out.mono (Nat.le_trans HD.out.1.size HB2.out.1.size)))
  go_wp2_with fail
  go_ret2
  refine ⟨h, rfl, al, hide ⟨HA.out.1, by have := HA.out.2.1; have := DA.out.size; omega, HA.out.2.2.1, DA.out.trans (HA.out.2.2.2.mono DA.out.size)⟩⟩
set_option maxRecDepth 100000 in
set_option maxHeartbeats 4000000 in
theorem lst_any (w : World) (N M s a gf h ba bt lN cN : Nat) (aN : Option Addr) (Nx : List Int) (al : Nat → Nat) (hba : w.cell? ⟨ba, 0, none⟩ = some (.slice (some ⟨h, 0, none⟩) N N)) (hbt : w.heap[bt]? = some (.cells #[.int .i64 (M : Int), .slice (some ⟨gf, 0, none⟩) N N, .slice aN lN cN] 60 (0, 0))) (hA : Mrw w h 3 N (fun s => .int .i64 ((al s : Nat) : Int)) N) (hN : RdN w aN Nx) (hl : Nx.length = N * M) (hin : ∀ x ∈ Nx, 0 ≤ x ∧ x < (N : Int)) (hlN : lN = N * M) (hs : s < N) (ha : a < M) (hNM : N * M ≤ 4194304) (bM : M ≤ 4194304) (bN : N ≤ 4194304) :
    Calls Try.prog 53 #[.int .i64 (s : Int), .int .i64 (a : Int), .pointer (some ⟨ba, 0, none⟩), .pointer (some ⟨bt, 0, none⟩)] w fun e w' => e = .returned (.int .i64 ((al (dl Nx M s a) : Nat) : Int)) ∧ Below w.heap.size w w' := by
  have TF : Hid (∀ W, Below w.heap.size w W → Calls Try.prog 35 #[.agg #[.int .i64 (M : Int), .slice (some ⟨gf, 0, none⟩) N N, .slice aN lN cN], .int .i64 (s : Int), .int .i64 (a : Int)] W fun e w' => e = .returned (.int .i64 (dl Nx M s a : Int)) ∧ Below W.heap.size W w') := hide (fun W d => follow_rd W M N s a lN cN (some ⟨gf, 0, none⟩) N N aN Nx (hN.on d) hl hin hlN hs ha hNM bM bN)
  have htN := (dl_spec hl hin hs ha).2.2
  have HA := hide (And.intro hba (And.intro hbt (And.intro hA True.intro)))
  clear hba hbt hA hN hl hin hlN
  obtain ⟨t, ht⟩ : ∃ t, dl Nx M s a = t := ⟨_, rfl⟩
  obtain ⟨r, hr⟩ : ∃ r, al t = r := ⟨_, rfl⟩
  rw [ht] at TF htN
  have HTT := hide (And.intro ht hr)
  clear ht hr
  have l0 : (0 : Int) ≤ (t : Int) := by omega
  have l1 : (t : Int) < (N : Int) := by omega
  go_enter Try.func53, Try.ntmps53
  go_upto_region 1 with fail
  have hmo : MonIL 0 [vI 0 (.slice (some ⟨h, 0, none⟩) N N), vI 1 (.agg #[.int .i64 (M : Int), .slice (some ⟨gf, 0, none⟩) N N, .slice aN lN cN]), vI 2 (.int .i64 (s : Int)), vI 3 (.int .i64 (a : Int)), vI 4 (.int .i64 (t : Int)), vI 5 (.pointer (some ⟨h, t, none⟩)), vI 6 (.int .i64 (r : Int))] := ⟨vI_mono _ _, vI_mono _ _, vI_mono _ _, vI_mono _ _, vI_mono _ _, vI_mono _ _, vI_mono _ _, trivial⟩
  refine wp_region_sl [vI 0 (.slice (some ⟨h, 0, none⟩) N N), vI 1 (.agg #[.int .i64 (M : Int), .slice (some ⟨gf, 0, none⟩) N N, .slice aN lN cN]), vI 2 (.int .i64 (s : Int)), vI 3 (.int .i64 (a : Int)), vI 4 (.int .i64 (t : Int)), vI 5 (.pointer (some ⟨h, t, none⟩)), vI 6 (.int .i64 (r : Int))] (by kernel_rfl) (by kernel_rfl) (by kernel_rfl) (by kernel_rfl) hmo ⟨?o0, ?o1, ?o2, ?o3, ?o4, ?o5, ?o6, trivial⟩ ?fin
  case o0 =>
    intro At yy W hy hb d hd K hK
    have s2 : At.tmps.getD 2 undef = .pointer (some ⟨ba, 0, none⟩) := hb 2 rfl
    have s2' := s2
    rw [Array.getD_eq_getD_getElem?] at s2'
    clear hd hy hb
    have y0 : W.cell? ⟨ba, 0, none⟩ = some (.slice (some ⟨h, 0, none⟩) N N) := (d.cell (World.block_lt_of_cell? w _ HA.out.1)).trans HA.out.1
    go_simp
    exact hK.out _ W (stp_of hmo d (Below.refl _ _)) (if_pos rfl)
  case o1 =>
    intro At yy W hy hb d hd K hK
    have s3 : At.tmps.getD 3 undef = .pointer (some ⟨bt, 0, none⟩) := hb 3 rfl
    have s3' := s3
    rw [Array.getD_eq_getD_getElem?] at s3'
    clear hd hy hb
    have yb0 : W.cell? ⟨bt, 0, none⟩ = some (.int .i64 (M : Int)) := cell_of (blk_on HA.out.2.1 d) rfl
    have yb1 : W.cell? ⟨bt, 1, none⟩ = some (.slice (some ⟨gf, 0, none⟩) N N) := cell_of (blk_on HA.out.2.1 d) rfl
    have yb2 : W.cell? ⟨bt, 2, none⟩ = some (.slice aN lN cN) := cell_of (blk_on HA.out.2.1 d) rfl
    go_simp
    exact hK.out _ W (stp_of hmo d (Below.refl _ _)) (if_pos rfl)
  case o2 =>
    intro At yy W hy hb d hd K hK
    have s0 : At.tmps.getD 0 undef = .int .i64 (s : Int) := hb 0 rfl
    have s0' := s0
    rw [Array.getD_eq_getD_getElem?] at s0'
    clear hd hy hb
    go_simp
    exact hK.out _ W (stp_of hmo d (Below.refl _ _)) (if_pos rfl)
  case o3 =>
    intro At yy W hy hb d hd K hK
    have s1 : At.tmps.getD 1 undef = .int .i64 (a : Int) := hb 1 rfl
    have s1' := s1
    rw [Array.getD_eq_getD_getElem?] at s1'
    clear hd hy hb
    go_simp
    exact hK.out _ W (stp_of hmo d (Below.refl _ _)) (if_pos rfl)
  case o4 =>
    intro At yy W hy hb d hd K hK
    have e1 : yy 1 = .agg #[.int .i64 (M : Int), .slice (some ⟨gf, 0, none⟩) N N, .slice aN lN cN] := by obtain ⟨_, _, _, _, e⟩ := hd ⟨1, .data⟩ (by simp) rfl rfl; exact e
    have e2 : yy 2 = .int .i64 (s : Int) := by obtain ⟨_, _, _, _, e⟩ := hd ⟨2, .data⟩ (by simp) rfl rfl; exact e
    have e3 : yy 3 = .int .i64 (a : Int) := by obtain ⟨_, _, _, _, e⟩ := hd ⟨3, .data⟩ (by simp) rfl rfl; exact e
    have s8 := (hy 1 _ 8 rfl rfl).trans e1
    have s8' := s8
    rw [Array.getD_eq_getD_getElem?] at s8'
    have s9 := (hy 2 _ 9 rfl rfl).trans e2
    have s9' := s9
    rw [Array.getD_eq_getD_getElem?] at s9'
    have s10 := (hy 3 _ 10 rfl rfl).trans e3
    have s10' := s10
    rw [Array.getD_eq_getD_getElem?] at s10'
    clear hd hy hb
    go_simp
    go_wp2_with (go_at_call 35; refine (TF.out _ d).mono ?_; rintro e wa ⟨rfl, da⟩)
    exact hK.out _ wa (stp_of hmo d da) (if_pos rfl)
  case o5 =>
    intro At yy W hy hb d hd K hK
    have e0 : yy 0 = .slice (some ⟨h, 0, none⟩) N N := by obtain ⟨_, _, _, _, e⟩ := hd ⟨0, .data⟩ (by simp) rfl rfl; exact e
    have e4 : yy 4 = .int .i64 (t : Int) := by obtain ⟨_, _, _, _, e⟩ := hd ⟨4, .data⟩ (by simp) rfl rfl; exact e
    have s7 := (hy 0 _ 7 rfl rfl).trans e0
    have s7' := s7
    rw [Array.getD_eq_getD_getElem?] at s7'
    have s11 := (hy 4 _ 11 rfl rfl).trans e4
    have s11' := s11
    rw [Array.getD_eq_getD_getElem?] at s11'
    clear hd hy hb
    go_simp
    exact hK.out _ W (stp_of hmo d (Below.refl _ _)) (if_pos rfl)
  case o6 =>
    intro At yy W hy hb d hd K hK
    have e5 : yy 5 = .pointer (some ⟨h, t, none⟩) := by obtain ⟨_, _, _, _, e⟩ := hd ⟨5, .data⟩ (by simp) rfl rfl; exact e
    have s12 := (hy 5 _ 12 rfl rfl).trans e5
    have s12' := s12
    rw [Array.getD_eq_getD_getElem?] at s12'
    clear hd hy hb
    have y : W.cell? ⟨h, t, none⟩ = some (.int .i64 (r : Int)) := by have := (HA.out.2.2.1.below d HA.out.2.2.1.lt).at t htN; rwa [HTT.out.2] at this
    go_simp
    exact hK.out _ W (stp_of hmo d (Below.refl _ _)) (if_pos rfl)
  case fin =>
    intro yy lo hi W hM
    show wpList _ _ _ [_] _ _
    have e0 : yy 0 = .slice (some ⟨h, 0, none⟩) N N := hM.fact 0 (by simp) rfl (notR_all 0 rfl)
    have e1 : yy 1 = .agg #[.int .i64 (M : Int), .slice (some ⟨gf, 0, none⟩) N N, .slice aN lN cN] := hM.fact 1 (by simp) rfl (notR_all 1 rfl)
    have e2 : yy 2 = .int .i64 (s : Int) := hM.fact 2 (by simp) rfl (notR_all 2 rfl)
    have e3 : yy 3 = .int .i64 (a : Int) := hM.fact 3 (by simp) rfl (notR_all 3 rfl)
    have e4 : yy 4 = .int .i64 (t : Int) := hM.fact 4 (by simp) rfl (notR_all 4 rfl)
    have e5 : yy 5 = .pointer (some ⟨h, t, none⟩) := hM.fact 5 (by simp) rfl (notR_all 5 rfl)
    have e6 : yy 6 = .int .i64 (r : Int) := hM.fact 6 (by simp) rfl (notR_all 6 rfl)
    have dd := hM.d
    simp only [fills, Act.put, List.take, List.length, List.setIfInBounds_toArray, List.set_cons_zero, List.set_cons_succ, e0, e1, e2, e3, e4, e5, e6]
    clear hM hmo e0 e1 e2 e3 e4 e5 e6
    have HDD := hide dd
    clear dd
    go_wp2_with fail
    go_ret
    exact ⟨by rw [HTT.out.1, HTT.out.2]; rfl, HDD.out⟩
end Go.Proofs.Ytocoghljmlpdeaa
