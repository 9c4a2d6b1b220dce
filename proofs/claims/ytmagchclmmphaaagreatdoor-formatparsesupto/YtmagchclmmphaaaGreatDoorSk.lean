import Derived.Test.YtmagchclmmphaaaGreatDoorSa
namespace Go.Proofs.YtmagchclmmphaaaGreatDoor
open Go.RowKit Go.Maps

theorem laidOut : laidOutB Tryz.prog = true := by kernel_rfl
theorem row51 : (41 : TypeId) < Tryz.prog.types.size := of_decide_eq_true (by kernel_rfl)
theorem wide51 : (match Tryz.prog.underlying 41 with | some (.array _ _) | some (.struct _) => true | _ => false) = true := by rw [Tryz.underlying41]
set_option maxRecDepth 100000 in
theorem law51 : Keyed Tryz.prog 41 := Keyed.of_law (deep_law_laid laidOut (m := 2) (by omega) row51 (by kernel_rfl) wide51)
theorem row53 : (50 : TypeId) < Tryz.prog.types.size := of_decide_eq_true (by kernel_rfl)
theorem wide53 : (match Tryz.prog.underlying 50 with | some (.array _ _) | some (.struct _) => true | _ => false) = true := by rw [Tryz.underlying50]
set_option maxRecDepth 100000 in
theorem law53 : Keyed Tryz.prog 50 := Keyed.of_law (deep_law_laid laidOut (m := 2) (by omega) row53 (by kernel_rfl) wide53)
theorem keyTy51 : Tryz.prog.keyType 41 = true := by kernel_rfl
theorem keyTy53 : Tryz.prog.keyType 50 = true := by kernel_rfl
theorem cells51 : Tryz.prog.cellsOf 41 = 2 := by kernel_rfl
theorem cells53 : Tryz.prog.cellsOf 50 = 3 := by kernel_rfl
theorem cells9 : Tryz.prog.cellsOf 9 = 1 := by kernel_rfl
theorem cells3 : Tryz.prog.cellsOf 3 = 1 := by kernel_rfl
theorem key_op {P : Program} {k a b : TypeId} {f1 f2 : Field} (hu : P.underlying k = some (.struct #[f1, f2])) (n1 : (f1.name != "_") = true) (n2 : (f2.name != "_") = true) (t1 : f1.type = a) (t2 : f2.type = b) (o1 : f1.offset = 0) (o2 : f2.offset = 1)
    (ua : P.underlying a = some .string) (ub : P.underlying b = some (.int .i64)) (ca : P.cellsOf a = 1) (cb : P.cellsOf b = 1) (ck : P.cellsOf k = 2) (hkt : P.keyType k = true) (hk0 : k < P.types.size) (p : ByteArray) (r : Int)
    (w1 : p.size ≤ maxLen) (w2 : (Lit.int .i64 r).wf = true) : keyOf P k (.agg #[.string p, .int .i64 r]) = some (.string (keyBytes [.string p.data.toList, .int .i64 r])) := by
  obtain ⟨n, hn⟩ : ∃ n, P.types.size = n + 1 := ⟨P.types.size - 1, (Nat.sub_add_cancel (Nat.lt_of_le_of_lt (Nat.zero_le _) hk0)).symm⟩
  unfold keyOf
  rw [hu]
  simp only [hkt, Value.formed, hu, ck, Value.cells, hn, Program.keyLits]
  simp [n1, n2, t1, t2, o1, o2, ua, ub, ca, cb, w1, w2]
theorem key_rule {P : Program} {k a : TypeId} {f1 f2 f3 : Field} (hu : P.underlying k = some (.struct #[f1, f2, f3])) (n1 : (f1.name != "_") = true) (n2 : (f2.name != "_") = true) (n3 : (f3.name != "_") = true) (t1 : f1.type = a) (t2 : f2.type = a) (t3 : f3.type = a) (o1 : f1.offset = 0) (o2 : f2.offset = 1) (o3 : f3.offset = 2)
    (ua : P.underlying a = some .string) (ca : P.cellsOf a = 1) (ck : P.cellsOf k = 3) (hkt : P.keyType k = true) (hk0 : k < P.types.size) (p q r : ByteArray)
    (w1 : p.size ≤ maxLen) (w2 : q.size ≤ maxLen) (w3 : r.size ≤ maxLen) : keyOf P k (.agg #[.string p, .string q, .string r]) = some (.string (keyBytes [.string p.data.toList, .string q.data.toList, .string r.data.toList])) := by
  obtain ⟨n, hn⟩ : ∃ n, P.types.size = n + 1 := ⟨P.types.size - 1, (Nat.sub_add_cancel (Nat.lt_of_le_of_lt (Nat.zero_le _) hk0)).symm⟩
  unfold keyOf
  rw [hu]
  simp only [hkt, Value.formed, hu, ck, Value.cells, hn, Program.keyLits]
  simp [n1, n2, n3, t1, t2, t3, o1, o2, o3, ua, ca, w1, w2, w3]
/-- An op: its name and its arity. -/
abbrev OpT := ByteArray × Nat
def opV (s : OpT) : Value := .agg #[.string s.1, .int .i64 (s.2 : Nat)]
def kOp (s : OpT) : Lit := .string (keyBytes [.string s.1.data.toList, .int .i64 (s.2 : Nat)])
def okOp (s : OpT) : Prop := s.1.size ≤ 1048576 ∧ s.2 ≤ 1048576
theorem keyOp (s : OpT) (h : okOp s) : keyOf Tryz.prog 41 (opV s) = some (kOp s) := by
  obtain ⟨p, r⟩ := s
  obtain ⟨h1, h2⟩ := h
  simp only at h1 h2
  exact key_op Tryz.underlying41 (by decide) (by decide) rfl rfl rfl rfl Tryz.underlying9 Tryz.underlying3 cells9 cells3 cells51 keyTy51 row51 p r (by unfold maxLen; omega) (WalkArith.wf_i64 (by omega))
theorem kOp_inj (s t : OpT) (hs : okOp s) (ht : okOp t) (h : kOp s = kOp t) : s = t := by
  have := law51.inj (keyOp s hs) (by rw [h]; exact keyOp t ht)
  obtain ⟨p, r⟩ := s
  obtain ⟨p', r'⟩ := t
  simp only [opV, Value.agg.injEq, Array.mk.injEq, List.cons.injEq, Value.int.injEq, Value.string.injEq, true_and, and_true] at this
  exact Prod.ext this.1 (by simp only; omega)
def kOps : Kd OpT where
  ty := 41
  sz := 2
  val := opV
  cs := fun s => [.string s.1, .int .i64 (s.2 : Nat)]
  key := kOp
  ok := okOp
  kmk := keyOp
  inj := kOp_inj
  lit := fun _ => trivial
  len := fun _ => rfl
  one := fun s u hu => by
    simp only [List.mem_cons, List.not_mem_nil, or_false] at hu
    rcases hu with rfl | rfl <;> rfl
  law := law51
/-- A rule: its op, from where, to where. -/
abbrev RuT := ByteArray × ByteArray × ByteArray
def ruV (s : RuT) : Value := .agg #[.string s.1, .string s.2.1, .string s.2.2]
def kRu (s : RuT) : Lit := .string (keyBytes [.string s.1.data.toList, .string s.2.1.data.toList, .string s.2.2.data.toList])
def okRu (s : RuT) : Prop := s.1.size ≤ 1048576 ∧ s.2.1.size ≤ 1048576 ∧ s.2.2.size ≤ 1048576
theorem keyRu (s : RuT) (h : okRu s) : keyOf Tryz.prog 50 (ruV s) = some (kRu s) := by
  obtain ⟨p, q, r⟩ := s
  obtain ⟨h1, h2, h3⟩ := h
  simp only at h1 h2 h3
  exact key_rule Tryz.underlying50 (by decide) (by decide) (by decide) rfl rfl rfl rfl rfl rfl Tryz.underlying9 cells9 cells53 keyTy53 row53 p q r (by unfold maxLen; omega) (by unfold maxLen; omega) (by unfold maxLen; omega)
theorem kRu_inj (s t : RuT) (hs : okRu s) (ht : okRu t) (h : kRu s = kRu t) : s = t := by
  have := law53.inj (keyRu s hs) (by rw [h]; exact keyRu t ht)
  obtain ⟨p, q, r⟩ := s
  obtain ⟨p', q', r'⟩ := t
  simp only [ruV, Value.agg.injEq, Array.mk.injEq, List.cons.injEq, Value.string.injEq, and_true] at this
  exact Prod.ext this.1 (Prod.ext this.2.1 this.2.2)
def kRules : Kd RuT where
  ty := 50
  sz := 3
  val := ruV
  cs := fun s => [.string s.1, .string s.2.1, .string s.2.2]
  key := kRu
  ok := okRu
  kmk := keyRu
  inj := kRu_inj
  lit := fun _ => trivial
  len := fun _ => rfl
  one := fun s u hu => by
    simp only [List.mem_cons, List.not_mem_nil, or_false] at hu
    rcases hu with rfl | rfl | rfl <;> rfl
  law := law53
theorem info51 : (Tryz.prog.info? 41).map (fun i => (i.zero, i.size, i.bytes)) = some (some (.agg #[.string ⟨#[]⟩, .int .i64 0]), 2, 24) := by kernel_rfl
theorem info53 : (Tryz.prog.info? 50).map (fun i => (i.zero, i.size, i.bytes)) = some (some (.agg #[.string ⟨#[]⟩, .string ⟨#[]⟩, .string ⟨#[]⟩]), 3, 48) := by kernel_rfl
end Go.Proofs.YtmagchclmmphaaaGreatDoor
