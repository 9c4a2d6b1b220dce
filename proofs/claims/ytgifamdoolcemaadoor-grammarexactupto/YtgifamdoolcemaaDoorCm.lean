import Derived.Test.YtgifamdoolcemaaDoorWy
import Derived.DeepKeys4
import Derived.Carry
namespace Go.Proofs.YtgifamdoolcemaaDoor
open Go.RowKit Go.Maps

def mk4 (m : Mk) : List Value := [.int .u8 (m.sp.1 : Nat), .int .i64 (m.sp.2 : Nat), .int .u8 (m.bt : Nat), .int .i64 (m.fr : Nat)]
def mrkV (M : List Mk) : List Value := M.flatMap mk4
theorem mrkV_get (M : List Mk) (j : Nat) (m : Mk) (h : M[j]? = some m) (c : Nat) (hc : c < 4) : (mrkV M)[j * 4 + c]? = (mk4 m)[c]? := by
  induction M generalizing j with
  | nil => simp at h
  | cons a M ih =>
    unfold mrkV
    rw [List.flatMap_cons]
    cases j with
    | zero =>
      simp at h
      subst h
      rw [List.getElem?_append_left (by simp [mk4]; omega)]
      simp
    | succ j =>
      rw [List.getElem?_append_right (by simp [mk4]; omega)]
      have := ih j (by simpa using h)
      unfold mrkV at this
      rw [← this]
      congr 1
      simp [mk4]
      omega
theorem mrkV_snoc (M : List Mk) (m : Mk) : mrkV (M ++ [m]) = mrkV M ++ mk4 m := by simp [mrkV]
theorem mk4_one (m : Mk) : ∀ u ∈ mk4 m, u.oneCell' = true := by
  intro u hu
  simp only [mk4, List.mem_cons, List.not_mem_nil, or_false] at hu
  rcases hu with rfl | rfl | rfl | rfl <;> rfl
def OwnM (w : World) (B : Nat) (v : Value) (M : List Mk) : Prop := w.ownsRow B 53 4 v M.length (mrkV M)
theorem info53 : (Tryd.prog.info? 53).map (fun i => (i.zero, i.size, i.bytes)) = some (some (.agg #[.int .u8 0, .int .i64 0, .int .u8 0, .int .i64 0]), 4, 32) := by kernel_rfl
theorem OwnM.mrk {w : World} {B g cap : Nat} {M : List Mk} (h : OwnM w B (.slice (some ⟨g, 0, none⟩) M.length cap) M) : MrkAt w g M := by
  intro j m hm
  have hj : j < M.length := (List.getElem?_eq_some_iff.1 hm).1
  have h' : w.ownsRow B 53 4 (.slice (some ⟨g, 0, none⟩) M.length cap) M.length (mrkV M) := h
  refine ⟨?_, ?_, ?_, ?_⟩
  · have := mrkV_get M j m hm 0 (by omega)
    rw [Nat.add_zero] at this
    rw [h'.cellAt (j * 4) (by omega), this]; rfl
  · rw [h'.cellAt (j * 4 + 1) (by omega), mrkV_get M j m hm 1 (by omega)]; rfl
  · rw [h'.cellAt (j * 4 + 2) (by omega), mrkV_get M j m hm 2 (by omega)]; rfl
  · rw [h'.cellAt (j * 4 + 3) (by omega), mrkV_get M j m hm 3 (by omega)]; rfl
theorem cells4_new (w : World) (a b c d : Value) : ∀ (j : Nat) (u : Value), [a, b, c, d][j]? = some u → (w.alloc (.cells #[a, b, c, d] 53)).cell? ((⟨w.heap.size, 0, none⟩ : Addr).add j) = some u := by
  intro j u hu
  rw [Addr.add_lit, Nat.zero_add]
  refine cell_of (MapKept.heap_alloc _ _).1 ?_
  rw [← hu]
  rw [List.getElem?_toArray]

/-! ### The spots that were seen -/
theorem laidOut : laidOutB Tryd.prog = true := by kernel_rfl
theorem row37 : (37 : TypeId) < Tryd.prog.types.size := of_decide_eq_true (by kernel_rfl)
theorem wide37 : (match Tryd.prog.underlying 37 with | some (.array _ _) | some (.struct _) => true | _ => false) = true := by rw [Tryd.underlying37]
theorem law37 : Keyed Tryd.prog 37 := Keyed.of_law (deep_law_laid laidOut (m := 2) (by omega) row37 (by kernel_rfl) wide37)
def kS (s : Nat × Nat) : Lit := .string (keyBytes [.int .u8 (s.1 : Nat), .int .i64 (s.2 : Nat)])
theorem keyTy37 : Tryd.prog.keyType 37 = true := by kernel_rfl
theorem cells37 : Tryd.prog.cellsOf 37 = 2 := by kernel_rfl
theorem cells35 : Tryd.prog.cellsOf 35 = 1 := by kernel_rfl
theorem cells3 : Tryd.prog.cellsOf 3 = 1 := by kernel_rfl
theorem key_two {P : Program} {k a b : TypeId} {f1 f2 : Field} (hu : P.underlying k = some (.struct #[f1, f2])) (n1 : (f1.name != "_") = true) (n2 : (f2.name != "_") = true) (t1 : f1.type = a) (t2 : f2.type = b) (o1 : f1.offset = 0) (o2 : f2.offset = 1)
    (ua : P.underlying a = some (.int .u8)) (ub : P.underlying b = some (.int .i64)) (ca : P.cellsOf a = 1) (cb : P.cellsOf b = 1) (ck : P.cellsOf k = 2) (hkt : P.keyType k = true) (hk0 : k < P.types.size) (p r : Int)
    (w1 : (Lit.int .u8 p).wf = true) (w2 : (Lit.int .i64 r).wf = true) : keyOf P k (.agg #[.int .u8 p, .int .i64 r]) = some (.string (keyBytes [.int .u8 p, .int .i64 r])) := by
  obtain ⟨n, hn⟩ : ∃ n, P.types.size = n + 1 := ⟨P.types.size - 1, (Nat.sub_add_cancel (Nat.lt_of_le_of_lt (Nat.zero_le _) hk0)).symm⟩
  unfold keyOf
  rw [hu]
  simp only [hkt, Value.formed, hu, ck, Value.cells, hn, Program.keyLits]
  simp [n1, n2, t1, t2, o1, o2, ua, ub, ca, cb, w1, w2]
theorem wf_u8 (p : Nat) (h : p < 256) : (Lit.int .u8 (p : Int)).wf = true := by
  have a : IntKind.min .u8 = 0 := by decide
  have b : IntKind.max .u8 = 255 := by decide
  show (decide (IntKind.min .u8 ≤ (p : Int)) && decide ((p : Int) ≤ IntKind.max .u8)) = true
  rw [a, b, decide_eq_true (by omega), decide_eq_true (by omega)]
  rfl
theorem key37 (s : Nat × Nat) (hs : okS s = true) : keyOf Tryd.prog 37 (spV s) = some (kS s) := by
  obtain ⟨_, hp, hr⟩ := ok_bound hs
  obtain ⟨p, r⟩ := s
  simp only at hp hr
  exact key_two Tryd.underlying37 (by decide) (by decide) rfl rfl rfl rfl Tryd.underlying35 Tryd.underlying3 cells35 cells3 cells37 keyTy37 row37 p r (wf_u8 p (by omega)) (WalkArith.wf_i64 (by omega))
theorem zero3 (w : World) : (zeroValue 3).run Tryd.prog w = .ok (.int .i64 0) w := by kernel_rfl


theorem kS_inj {s t : Nat × Nat} (hs : okS s = true) (ht : okS t = true) (h : kS s = kS t) : s = t := by
  have := law37.inj (key37 s hs) (by rw [h]; exact key37 t ht)
  obtain ⟨p, r⟩ := s
  obtain ⟨p', r'⟩ := t
  simp only [spV, Value.agg.injEq, Array.mk.injEq, List.cons.injEq, Value.int.injEq, true_and, and_true] at this
  exact Prod.ext (by simp only; omega) (by simp only; omega)
theorem kLit (s : Nat × Nat) : WideAt.IsKeyLit (kS s) := trivial

structure IsSn (D : DataW Unit) (M : List Mk) : Prop where
  tidy : Tidy D
  has : ∀ s, okS s = true → Maps.has D (kS s) = decide (s ∈ M.map Mk.sp)
theorem isSn_nil : IsSn (.map []) [] := ⟨tidy_empty, fun s _ => by simp; rfl⟩
theorem IsSn.new {D : DataW Unit} {M : List Mk} (h : IsSn D M) (m : Mk) (d : DataW Unit) (hok : okS m.sp = true) : IsSn (D.put (kS m.sp) d) (M ++ [m]) := by
  refine ⟨h.tidy.put (kLit _) _, fun t ht => ?_⟩
  by_cases e : t = m.sp
  · subst e; rw [has_put_same h.tidy.isMap (kLit _)]; simp
  · rw [has_put_other (fun h => e (kS_inj ht hok h)), h.has t ht]
    simp [e]
def Seen (w : World) (b : Nat) (M : List Mk) : Prop := ∃ D n, w.ownsMap Tryd.prog 37 (plainElem Tryd.prog 3) b n D ∧ n ≤ M.length ∧ IsSn D M

/-- The bytes that may follow rise. -/
theorem fol_lt (s : Nat × Nat) (k : Nat) (h : k < (folF s).length) : ∀ x ∈ (folF s).take k, x < (folF s)[k] := by
  have hp : (folF s).Pairwise (· < ·) := List.Pairwise.filter _ List.pairwise_lt_range
  intro x hx
  obtain ⟨j, hj, rfl⟩ := List.getElem_of_mem hx
  rw [List.getElem_take]
  have hj' : j < k := by rw [List.length_take] at hj; omega
  exact List.pairwise_iff_getElem.1 hp j k (by omega) h hj'
theorem fol_len (s : Nat × Nat) : (folF s).length ≤ 256 := folTo_len s 256

/-- The map, made, with the first spot. -/
theorem made_map (w : World) (s : Nat × Nat) (hs : okS s = true) (o1 o2 : Obj) : ∃ w', (Instr.mapUpdate 55 (.map (some (w.heap.size + 1 + 1))) (spV s) (.int .i64 0)).run Tryd.prog (((w.alloc o1).alloc o2).alloc (.map #[] 0)) = .ok () w' ∧
    Seen w' (w.heap.size + 1 + 1) [⟨s, 0, 0, []⟩] ∧ (((w.alloc o1).alloc o2).alloc (.map #[] 0)).grownBy w' (some (w.heap.size + 1 + 1)) := by
  have h0 := World.ownsMap_made ((w.alloc o1).alloc o2) Tryd.prog 37 (plainElem (H := Unit) Tryd.prog 3)
  have e : ((w.alloc o1).alloc o2).heap.size = w.heap.size + 1 + 1 := by simp
  rw [e] at h0
  obtain ⟨w', h1, h2, h3⟩ := h0.update law37 Tryd.underlying55 (by unfold maxLen; omega) (key37 s hs) (plainElem_int Tryd.underlying3 (a := 0) (WalkArith.wf_i64 (by omega)))
  exact ⟨w', h1, ⟨_, _, h2, by simp, isSn_nil.new ⟨s, 0, 0, []⟩ _ hs⟩, h3⟩

/-- What the search holds in memory. -/
structure Srch (w0 w : World) (s0 : Nat × Nat) (v : Value) (M : List Mk) (i : Nat) (D : List Nat) : Prop where
  bfs : Bfs s0 M i D
  own : OwnM w (w0.heap.size + 1) v M
  seen : Seen w (w0.heap.size + 1 + 1) M
  apart : v.ownBlock ≠ some (w0.heap.size + 1 + 1)
  bel : Below w0.heap.size w0 w

theorem grown_of_below {w w' : World} (hb : Below w.heap.size w w') (row : Option Nat) : w.grownBy w' row := ⟨hb.os, hb.tape, hb.output, hb.size, fun k hk _ => hb.block k hk⟩
theorem Srch.below {w0 w w' : World} {s0 : Nat × Nat} {v : Value} {M : List Mk} {i : Nat} {D : List Nat} (h : Srch w0 w s0 v M i D) (hb : Below w.heap.size w w') : Srch w0 w' s0 v M i D := by
  obtain ⟨Dm, n, hm, hn, hs⟩ := h.seen
  exact ⟨h.bfs, World.ownsRow.kept (row := none) h.own (grown_of_below hb none) (by cases v.ownBlock <;> simp), ⟨Dm, n, hm.kept (row := none) (grown_of_below hb none) (by simp), hn, hs⟩, h.apart, h.bel.trans (hb.mono h.bel.size)⟩

end Go.Proofs.YtgifamdoolcemaaDoor
