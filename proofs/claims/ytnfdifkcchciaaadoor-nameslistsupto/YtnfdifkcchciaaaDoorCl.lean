import Derived.Test.YtnfdifkcchciaaaDoorRt
namespace Go.Proofs.YtnfdifkcchciaaaDoor
open Go.RowKit Go.Maps

set_option maxRecDepth 100000 in
set_option maxHeartbeats 1000000 in
theorem mapClone_at (b : Nat) (es : Array MapEntry) (ck : Nat) (w : World) (hb : w.heap[b]? = some (.map es ck)) :
    Calls Tryd.prog 49 #[.map (some b)] w fun e w' => e = .returned (.map (some w.heap.size)) ∧ w' = w.alloc (.map es ck) := by
  have hq := fun W => run_eql_map_nil_sl (P := Tryd.prog) W 71 _ _ (some b) Tryd.underlying71
  go_enter Tryd.func49, Tryd.ntmps49
  go_wp2
  rw [run_callFunc_extern Tryd.func54 (by kernel_rfl) (by kernel_rfl) (by kernel_rfl) (e := Extern.MapsClone.clone) (by kernel_rfl), run_maps_clone_sl w 71 hb]
  simp only [Result.andThen]
  rw [Oper.upon_value]
  go_wp2
  rw [run_typeAssert_map_sl _ 71 20 _ _ _ Tryd.underlying71]
  simp only [Result.andThen]
  rw [Oper.upon_value]
  go_wp2
  go_ret
  exact ⟨rfl, rfl⟩

theorem mapClone_pl (b n : Nat) (l : List ByteArray) (w : World) (h : Pls w b n l) :
    Calls Tryd.prog 49 #[.map (some b)] w fun e w' => e = .returned (.map (some w.heap.size)) ∧ Pls w' w.heap.size n l ∧ Below w.heap.size w w' := by
  obtain ⟨D, ⟨es, ck, hb, F, hs, hD⟩, hp⟩ := h
  refine (mapClone_at b es ck w hb).mono fun e w' ⟨he, hw⟩ => ?_
  subst hw
  exact ⟨he, ⟨D, ⟨es, ck, (MapKept.heap_alloc w _).1, F, hs, hD⟩, hp⟩, (Below.refl _ w).alloc (Nat.le_refl _) _⟩

end Go.Proofs.YtnfdifkcchciaaaDoor
