import Derived.Test.YtfoahpideglghaaGreatDoorTv
import Derived.Deep.RegionHeld3
import Derived.Test.YtfoahpideglghaaGreatDoorZE
import Derived.Test.YtfoahpideglghaaGreatDoorBW
namespace Go.Proofs.YtfoahpideglghaaGreatDoor
open Go.RowKit Go.Maps Go.Shelf
attribute [local go_sem] Oper.semAt_some

/-! ### Union -/
end Go.Proofs.YtfoahpideglghaaGreatDoor
namespace Go.Proofs.YtfoahpideglghaaGreatDoor
open Go.RowKit Go.Maps Go.Shelf
attribute [local go_sem] Oper.semAt_some

/-! ### The document's Union -/
/-- What the document's Union holds of what it makes: a box, three rows; what was there is as it was but for R. -/
structure UX (wl : World) (R : Nat → Prop) (B p : Nat) (N m : Int) (v1 v2 v3 : Value) (X1 X2 : List Int) (X3 : List EdT) (w : World) : Prop where
  box : w.heap[p]? = some (.cells #[.int .i64 N, .int .i64 m, v1, v2, v3] 25 (0, 0))
  own : OwnO B w v1 v2 v3 X1 X2 X3
  only : Only wl w R
  r1 : ∀ k, v1.ownBlock = some k → R k ∨ wl.heap.size ≤ k
  r2 : ∀ k, v2.ownBlock = some k → R k ∨ wl.heap.size ≤ k
  r3 : ∀ k, v3.ownBlock = some k → R k ∨ wl.heap.size ≤ k
  rp : R p
theorem UX.on {wl : World} {R : Nat → Prop} {B p : Nat} {N m : Int} {v1 v2 v3 : Value} {X1 X2 : List Int} {X3 : List EdT} {w w' : World} (h : UX wl R B p N m v1 v2 v3 X1 X2 X3 w) (d : Below w.heap.size w w') : UX wl R B p N m v1 v2 v3 X1 X2 X3 w' := ⟨blk_on h.box d, h.own.on d, h.only.trans (Only.ofBelow d), h.r1, h.r2, h.r3, h.rp⟩
end Go.Proofs.YtfoahpideglghaaGreatDoor
namespace Go.Proofs.YtfoahpideglghaaGreatDoor
open Go.RowKit Go.Maps Go.Shelf
attribute [local go_sem] Oper.semAt_some

/-! ### The document's Union: errors -/
end Go.Proofs.YtfoahpideglghaaGreatDoor
namespace Go.Proofs.YtfoahpideglghaaGreatDoor
open Go.RowKit Go.Maps Go.Shelf
attribute [local go_sem] Oper.semAt_some

/-! ### The document's Union -/
end Go.Proofs.YtfoahpideglghaaGreatDoor
