import Derived.Test.YtojnlpicgemlaaaGreatDoorTA
namespace Go.Proofs.YtojnlpicgemlaaaGreatDoor
open Go.RowKit Go.Maps
attribute [local go_sem] Oper.semAt_some

/-! ### All that can be come to, as the document says it -/
end Go.Proofs.YtojnlpicgemlaaaGreatDoor
