import Derived.Test.YtnfdifkcchciaaaDoorFm
namespace Go.Proofs.YtnfdifkcchciaaaDoor
open Go.RowKit Go.Maps

/-- append of one text: in its row, or in a new block, and then nothing that was there has turned. -/
theorem app_one (w : World) (ty : TypeId) (v : Value) (l : List ByteArray) (t : ByteArray) (hown : OwnS w 0 v l) (ad : Addr) (hnews : ∀ j u, [Value.string t][j]? = some u → w.cell? (ad.add j) = some u) (hl : l.length ≤ 4194304) :
    ∃ gv cv w', (Builtin.append_ #[22, 22] ty #[v, .slice (some ad) 1 1]).run Tryd.prog w = .ok (.slice (some ⟨gv, 0, none⟩) (l.length + 1) cv) w' ∧ OwnS w' 0 (.slice (some ⟨gv, 0, none⟩) (l.length + 1) cv) (l ++ [t]) ∧
      ((v.ownBlock = some gv ∧ w.grownBy w' (some gv)) ∨ (gv = w.heap.size ∧ w.grownBy w' none)) := by
  obtain ⟨i9, hi9, hz90, hz91, hz92⟩ := info_parts info9
  obtain ⟨v', w', hr, h2, h3, _, h4⟩ := run_append_own_at (P := Tryd.prog) w 0 22 ty 9 i9 _ 1 16 Tryd.underlying22 hi9 hz90 hz91 hz92 rfl (by omega) v l.length (strV l) hown ad 1 1 [.string t] rfl hnews (strV_one [t]) (by unfold maxLen; omega) (by omega) (Nat.zero_le _)
  obtain ⟨gv, cv, rfl, _, _⟩ := h2.form (by omega)
  have ho2 : OwnS w' 0 (.slice (some ⟨gv, 0, none⟩) (l.length + 1) cv) (l ++ [t]) := by
    show w'.ownsRow 0 9 1 _ (l ++ [t]).length (strV (l ++ [t]))
    rw [List.length_append, List.length_singleton]
    simpa [strV] using h2
  refine ⟨gv, cv, w', hr, ho2, ?_⟩
  rcases hown.2 with ⟨rfl, hn⟩ | ⟨g, cap, cur, rfl, hb, hg, hnc, hcm, hcs, htake⟩
  · right
    refine ⟨?_, h3⟩
    rcases h4 with e | e
    · simp [Value.ownBlock] at e
    · simpa [Value.ownBlock] using e
  · by_cases hroom : l.length + 1 ≤ cap
    · left
      have hr2 := run_append_room (P := Tryd.prog) w 22 ty 9 i9 Tryd.underlying22 hi9 g l.length cap cur hg ad 1 1 [.string t] (by rw [hz91]; rfl) hnews (strV_one [t]) hroom (by rw [hz91]; simp; omega)
      rw [hr] at hr2
      simp only [Result.ok.injEq, Value.slice.injEq, Option.some.injEq, Addr.mk.injEq] at hr2
      have e : gv = g := hr2.1.1.1
      subst e
      exact ⟨rfl, h3⟩
    · right
      have holds : ∀ j u, (strV l)[j]? = some u → w.cell? ((⟨g, 0, none⟩ : Addr).add j) = some u := World.ownsRow.cells hown (g := g) rfl
      have hr2 := run_append_grow (P := Tryd.prog) w 22 ty 9 i9 _ Tryd.underlying22 hi9 hz90 ⟨g, 0, none⟩ l.length cap (strV l) (by rw [hz91, strV_length, Nat.mul_one]) holds ad 1 1 [.string t] (by rw [hz91]; rfl) hnews (by omega) (by omega) (growslice_fits (by omega) (by rw [hz92]; omega))
      rw [hr] at hr2
      simp only [Result.ok.injEq, Value.slice.injEq, Option.some.injEq, Addr.mk.injEq] at hr2
      refine ⟨hr2.1.1.1, ?_⟩
      rw [hr2.2]
      exact ⟨rfl, rfl, rfl, by simp, fun k hk _ => Below.heap_alloc w.drew _ k hk⟩

end Go.Proofs.YtnfdifkcchciaaaDoor
