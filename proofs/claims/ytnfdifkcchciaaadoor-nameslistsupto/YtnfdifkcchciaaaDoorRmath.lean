import Derived.Test.YtnfdifkcchciaaaDoorMow
namespace Go.Proofs.YtnfdifkcchciaaaDoor
open Go.RowKit Go.Maps

/-- A look-up of a text that stands in the list. -/
theorem lookup_in (w : World) {ops : Array Oper} {rest : List Oper} {o : Oper} {a : Act} {Q : Exit → Act → World → Prop} (hg : o.guard = none) (m x : Operand) (hop : o.op = Op.lookup 71 m x true)
    (b n : Nat) (l : List ByteArray) (s : ByteArray) (i : Nat) (hp : Pls w b n l) (hs : s ∈ l) (hi : l.idxOf s = i) (hz : s.size ≤ 1048576) (hm : a.eval m = .map (some b)) (hx : a.eval x = .string s)
    (hK : wpList Tryd.prog ops Q rest (a.put o.dst (.tuple #[.int .i64 (i : Int), .bool true])) w) : wpList Tryd.prog ops Q (o :: rest) a w := by
  obtain ⟨D, hown, hpl⟩ := hp
  refine wpList_lookup_own_ok_int _ hg m x 71 hop 9 3 .i64 law Tryd.underlying71 Tryd.underlying3 (zero3 _) b n D hm hown _ _ hx (key_mk hz) ?_
  intro c hat hwc
  have h1 := hpl.at_ s hs (.lit (.int .i64 0))
  rw [h1] at hat
  injection hat with e
  injection e with _ e
  rw [hpl.has, mem_c.2 hs, ← e, hi]
  exact hK
theorem lookup_out (w : World) {ops : Array Oper} {rest : List Oper} {o : Oper} {a : Act} {Q : Exit → Act → World → Prop} (hg : o.guard = none) (m x : Operand) (hop : o.op = Op.lookup 71 m x true)
    (b n : Nat) (l : List ByteArray) (s : ByteArray) (hp : Pls w b n l) (hs : s ∉ l) (hz : s.size ≤ 1048576) (hm : a.eval m = .map (some b)) (hx : a.eval x = .string s)
    (hK : ∀ c : Int, wpList Tryd.prog ops Q rest (a.put o.dst (.tuple #[.int .i64 c, .bool false])) w) : wpList Tryd.prog ops Q (o :: rest) a w := by
  obtain ⟨D, hown, hpl⟩ := hp
  refine wpList_lookup_own_ok_int _ hg m x 71 hop 9 3 .i64 law Tryd.underlying71 Tryd.underlying3 (zero3 _) b n D hm hown _ _ hx (key_mk hz) ?_
  intro c hat hwc
  rw [hpl.has, not_mem_c.2 hs]
  exact hK c

/-- One text renamed. -/
def ren1 (f t : List ByteArray) (s : ByteArray) : ByteArray := if f.contains s then t.getD (f.idxOf s) s else s
def renL (l f t : List ByteArray) : List ByteArray := l.map (ren1 f t)
theorem renL_length (l f t : List ByteArray) : (renL l f t).length = l.length := by simp [renL]
theorem ren1_in {f t : List ByteArray} {s : ByteArray} (h : s ∈ f) (hl : f.length = t.length) : ∃ hi : f.idxOf s < t.length, ren1 f t s = t[f.idxOf s] := by
  have hi : f.idxOf s < t.length := by rw [← hl]; exact ix_lt.2 h
  refine ⟨hi, ?_⟩
  unfold ren1
  rw [if_pos (mem_c.2 h), List.getD_eq_getElem?_getD, List.getElem?_eq_getElem hi]
  rfl
theorem ren1_out {f t : List ByteArray} {s : ByteArray} (h : s ∉ f) : ren1 f t s = s := by
  unfold ren1
  rw [if_neg (fun h' => h (mem_c.1 h'))]

/-- The first k of R, then l. -/
def mixS (R l : List ByteArray) (k : Nat) : List ByteArray := R.take k ++ l.drop k
theorem mixS_length {R l : List ByteArray} (h : R.length = l.length) (k : Nat) : (mixS R l k).length = l.length := by simp [mixS, h]; omega
theorem mixS_zero (R l : List ByteArray) : mixS R l 0 = l := by simp [mixS]
theorem mixS_full {R l : List ByteArray} (h : R.length = l.length) : mixS R l l.length = R := by simp [mixS, ← h]
theorem mixS_get {R l : List ByteArray} (h : R.length = l.length) (k j : Nat) : (mixS R l k)[j]? = if j < k then R[j]? else l[j]? := by
  unfold mixS
  by_cases hj : j < k
  · rw [if_pos hj]
    by_cases h2 : j < R.length
    · rw [List.getElem?_append_left (by simp; omega), List.getElem?_take_of_lt hj]
    · rw [List.getElem?_append_right (by simp; omega), List.getElem?_eq_none (by simp; omega), List.getElem?_eq_none (by omega)]
  · rw [if_neg hj]
    by_cases h2 : k ≤ R.length
    · rw [List.getElem?_append_right (by simp; omega), List.getElem?_drop]
      congr 1
      simp; omega
    · rw [List.getElem?_append_right (by simp; omega), List.getElem?_drop, List.getElem?_eq_none (by simp; omega), List.getElem?_eq_none (by omega)]
theorem mixS_set {R l : List ByteArray} (h : R.length = l.length) (k : Nat) (hk : k < R.length) (s : ByteArray) (hs : s = R[k]) : (strV (mixS R l k)).set k (.string s) = strV (mixS R l (k + 1)) := by
  have e : (mixS R l k).set k s = mixS R l (k + 1) := by
    apply List.ext_getElem?
    intro j
    rw [List.getElem?_set, mixS_get h, mixS_get h]
    by_cases hj : k = j
    · subst hj
      rw [if_pos rfl, if_pos (by rw [mixS_length h]; omega), if_pos (by omega), List.getElem?_eq_getElem hk, hs]
    · rw [if_neg hj]
      by_cases h2 : j < k
      · rw [if_pos h2, if_pos (by omega)]
      · rw [if_neg h2, if_neg (by omega)]
  rw [← e]
  simp [strV, List.map_set]
theorem mixS_same {R l : List ByteArray} (h : R.length = l.length) (k : Nat) (hk : k < R.length) (hs : R[k] = l[k]'(by omega)) : mixS R l (k + 1) = mixS R l k := by
  apply List.ext_getElem?
  intro j
  rw [mixS_get h, mixS_get h]
  by_cases hj : k = j
  · subst hj
    rw [if_pos (by omega), if_neg (by omega), List.getElem?_eq_getElem hk, List.getElem?_eq_getElem (by omega), hs]
  · by_cases h2 : j < k
    · rw [if_pos h2, if_pos (by omega)]
    · rw [if_neg h2, if_neg (by omega)]

/-- A renaming that may be undone is. -/
theorem ren_back (l f t : List ByteArray) (hl : f.length = t.length) (_nf : f.Nodup) (nt : t.Nodup) (h : ∀ s ∈ l, s ∉ f → s ∉ t) : renL (renL l f t) t f = l := by
  unfold renL
  rw [List.map_map]
  conv => rhs; rw [← List.map_id l]
  apply List.map_congr_left
  intro s hs
  show ren1 t f (ren1 f t s) = s
  by_cases hf : s ∈ f
  · obtain ⟨hi, e⟩ := ren1_in hf hl
    have hm : ren1 f t s ∈ t := by rw [e]; exact List.getElem_mem hi
    obtain ⟨hi2, e2⟩ := ren1_in (t := f) hm hl.symm
    have hx : t.idxOf (ren1 f t s) = f.idxOf s := by
      rw [e]; exact (nodup_iff t).1 nt _ hi
    rw [e2]
    have : f[f.idxOf s]'(by omega) = s := ix_get (by omega)
    simp only [hx]
    exact this
  · rw [ren1_out hf, ren1_out (h s hs hf)]

end Go.Proofs.YtnfdifkcchciaaaDoor
