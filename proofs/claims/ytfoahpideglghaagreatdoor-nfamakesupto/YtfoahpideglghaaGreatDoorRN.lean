import Derived.Test.YtfoahpideglghaaGreatDoorPM
namespace Go.Proofs.YtfoahpideglghaaGreatDoor
open Go.RowKit Go.Maps Go.Shelf
attribute [local go_sem] Oper.semAt_some

/-! ### Edges found by their end -/
end Go.Proofs.YtfoahpideglghaaGreatDoor
namespace Go.Proofs.YtfoahpideglghaaGreatDoor
open Go.RowKit Go.Maps Go.Shelf
attribute [local go_sem] Oper.semAt_some

/-! ### Is a list of states a path? -/
end Go.Proofs.YtfoahpideglghaaGreatDoor
namespace Go.Proofs.YtfoahpideglghaaGreatDoor
open Go.RowKit Go.Maps Go.Shelf
attribute [local go_sem] Oper.semAt_some

/-! ### Runs; one list less than another -/
end Go.Proofs.YtfoahpideglghaaGreatDoor
