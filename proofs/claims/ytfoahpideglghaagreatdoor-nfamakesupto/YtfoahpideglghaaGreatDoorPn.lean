import Derived.Test.YtfoahpideglghaaGreatDoorRN
import Derived.Test.YtfoahpideglghaaGreatDoorIm
namespace Go.Proofs.YtfoahpideglghaaGreatDoor
open Go.RowKit Go.Maps Go.Shelf

/-! ### Paths -/
end Go.Proofs.YtfoahpideglghaaGreatDoor
