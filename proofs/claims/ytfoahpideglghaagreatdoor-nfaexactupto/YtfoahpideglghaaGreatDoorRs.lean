import Derived.Test.YtfoahpideglghaaGreatDoorMw
import Derived.Test.YtfoahpideglghaaGreatDoorLH
namespace Go.Proofs.YtfoahpideglghaaGreatDoor
open Go.RowKit Go.Maps Go.Shelf
attribute [local go_sem] Oper.semAt_some

/-! ### Reverse -/
/-! ### The law's takes and turned -/
theorem rd_own {W : World} {B n : Nat} {v : Value} {X : List Int} (h : W.ownsRow B 3 1 v n (X.map (Value.int .i64))) : ∃ ao c, v = .slice ao X.length c ∧ RdN W ao X := by
  have hn : n = X.length := by have := h.1; simpa using this.symm
  subst hn
  rcases h.2 with ⟨hv, h0⟩ | ⟨g, cap, cur, hv, _⟩
  · exact ⟨none, 0, by rw [hv, h0], fun j hj => by omega⟩
  · subst hv
    exact ⟨some ⟨g, 0, none⟩, cap, rfl, rdN_own h (List.prefix_refl X)⟩
end Go.Proofs.YtfoahpideglghaaGreatDoor
