import Derived.Test.YtojnlpicgemlaaaDoorTF
namespace Go.Proofs.YtojnlpicgemlaaaDoor
open Go.RowKit Go.Maps
attribute [local go_sem] Oper.semAt_some

/-! ### The statements' lists with marks behind them -/
def numF (l : List Int) (c : Nat) : Value := .int .i64 (if c < l.length then l.getD c 0 else -77)
/-- A list of numbers, 64 marks behind it. -/
def NumL (B : Nat) (w : World) (g : Nat) (l : List Int) : Prop := B ≤ g ∧ Mrw w g 3 (l.length + 64) (numF l) (l.length + 64)
theorem NumL.rd {B : Nat} {w : World} {g : Nat} {l : List Int} (h : NumL B w g l) : RdN w (some ⟨g, 0, none⟩) l := fun j hj => by
  refine ⟨g, 0, rfl, ?_⟩
  have := h.2.at j (by omega)
  rw [Nat.zero_add, this]
  simp [numF, hj]
theorem NumL.below {B : Nat} {w w' : World} {g : Nat} {l : List Int} (h : NumL B w g l) (d : Below w.heap.size w w') : NumL B w' g l := ⟨h.1, h.2.below d h.2.lt⟩
end Go.Proofs.YtojnlpicgemlaaaDoor
