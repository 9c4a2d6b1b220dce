import Derived.Test.YtnfdifkcchciaaaDoorCln
import Derived.Maps.AppendAt
namespace Go.Proofs.YtnfdifkcchciaaaDoor
open Go.RowKit Go.Maps

theorem results_tmp4 {fn : Func} {t u v x : Tmp} (h : fn.results = #[.tmp t, .tmp u, .tmp v, .tmp x]) (tmps : Array Value) (P : Program) (w : World) :
    (results fn tmps).run P w = .ok (.tuple #[tmps.getD t undef, tmps.getD u undef, tmps.getD v undef, tmps.getD x undef]) w := by
  simp [results, h]

/-- All names of a, behind them those of b that a has not. -/
def mrg (a b : List ByteArray) : List ByteArray := a ++ b.filter fun s => !a.contains s
def qOf (a b : List ByteArray) : List Nat := b.map fun s => (mrg a b).idxOf s
theorem qOf_length (a b : List ByteArray) : (qOf a b).length = b.length := by simp [qOf]

theorem mrg_nil (a : List ByteArray) : mrg a [] = a := by simp [mrg]
theorem mrg_snoc_old {a c : List ByteArray} {s : ByteArray} (h : s ∈ a) : mrg a (c ++ [s]) = mrg a c := by
  simp [mrg, List.filter_append, mem_c.2 h]
theorem mrg_snoc_new {a c : List ByteArray} {s : ByteArray} (h : s ∉ a) : mrg a (c ++ [s]) = mrg a c ++ [s] := by
  simp [mrg, List.filter_append, not_mem_c.2 h]
theorem mem_mrg {a b : List ByteArray} {s : ByteArray} : s ∈ mrg a b ↔ s ∈ a ∨ s ∈ b := by
  simp only [mrg, List.mem_append, List.mem_filter, Bool.not_eq_true']
  constructor
  · rintro (h | h)
    · exact .inl h
    · exact .inr h.1
  · rintro (h | h)
    · exact .inl h
    · by_cases hs : s ∈ a
      · exact .inl hs
      · exact .inr ⟨h, not_mem_c.2 hs⟩
theorem mrg_len (a b : List ByteArray) : (mrg a b).length ≤ a.length + b.length := by
  have := List.length_filter_le (fun s => !a.contains s) b
  simp [mrg]; exact this
theorem mrg_nodup {a b : List ByteArray} (ha : a.Nodup) (hb : b.Nodup) : (mrg a b).Nodup := by
  rw [mrg, List.nodup_append]
  refine ⟨ha, hb.filter _, ?_⟩
  intro x hx y hy he
  subst he
  rw [List.mem_filter] at hy
  have := mem_c.2 hx
  simp [this] at hy

theorem mrg_split (a c d : List ByteArray) (s : ByteArray) (h : s ∉ a) : mrg a (c ++ ([s] ++ d)) = mrg a c ++ ([s] ++ d.filter fun t => !a.contains t) := by
  simp [mrg, List.filter_append, not_mem_c.2 h]
theorem q_old {a b : List ByteArray} {s : ByteArray} (h : s ∈ a) : (mrg a b).idxOf s = a.idxOf s := ix_app h
theorem q_new {a b : List ByteArray} {k : Nat} (hk : k < b.length) (hb : b.Nodup) (h : b[k] ∉ a) : (mrg a b).idxOf b[k] = (mrg a (b.take k)).length := by
  have e : b = b.take k ++ ([b[k]] ++ b.drop (k + 1)) := by
    rw [List.singleton_append, ← List.drop_eq_getElem_cons hk, List.take_append_drop]
  have e2 : mrg a b = mrg a (b.take k) ++ ([b[k]] ++ (b.drop (k + 1)).filter fun s => !a.contains s) := by
    have := mrg_split a (b.take k) (b.drop (k + 1)) b[k] h
    rw [← e] at this
    exact this
  have hn : b[k] ∉ mrg a (b.take k) := by
    rw [mem_mrg]
    rintro (h1 | h1)
    · exact h h1
    · obtain ⟨j, hj, hje⟩ := List.getElem_of_mem h1
      rw [List.getElem_take] at hje
      have hj' : j < k := by simp at hj; omega
      have := (List.getElem_inj hb).1 hje
      omega
  rw [e2, ix_app_not hn]
  haveI := ba_lawful
  simp

/-- The first k of L, noughts behind. -/
def fillTo (L : List Nat) (k : Nat) : List Nat := L.take k ++ List.replicate (L.length - k) 0
theorem fillTo_length (L : List Nat) (k : Nat) (h : k ≤ L.length) : (fillTo L k).length = L.length := by simp [fillTo]; omega
theorem fillTo_zero (L : List Nat) : intV (fillTo L 0) = List.replicate L.length (.int .i64 0) := by simp [fillTo, intV]
theorem fillTo_full (L : List Nat) : fillTo L L.length = L := by simp [fillTo]
theorem fillTo_set (L : List Nat) (k : Nat) (h : k < L.length) (v : Int) (hv : v = (L[k] : Nat)) : (intV (fillTo L k)).set k (.int .i64 v) = intV (fillTo L (k + 1)) := by
  apply List.ext_getElem?
  intro j
  rw [List.getElem?_set]
  have l1 : (intV (fillTo L k)).length = L.length := by rw [intV_length, fillTo_length L k (by omega)]
  by_cases e : k = j
  · subst e
    rw [if_pos rfl, if_pos (by omega)]
    simp only [intV, fillTo, List.getElem?_map]
    rw [List.getElem?_append_left (by simp; omega), List.getElem?_take_of_lt (by omega), List.getElem?_eq_getElem h]
    simp [hv]
  · rw [if_neg e]
    simp only [intV, fillTo, List.getElem?_map]
    congr 1
    by_cases hj : j < k
    · rw [List.getElem?_append_left (by simp; omega), List.getElem?_append_left (by simp; omega), List.getElem?_take_of_lt hj, List.getElem?_take_of_lt (by omega)]
    · rw [List.getElem?_append_right (by simp; omega), List.getElem?_append_right (by simp; omega), List.getElem?_replicate, List.getElem?_replicate]
      simp only [List.length_take]
      by_cases h2 : j < L.length
      · rw [if_pos (by omega), if_pos (by omega)]
      · rw [if_neg (by omega), if_neg (by omega)]

end Go.Proofs.YtnfdifkcchciaaaDoor
