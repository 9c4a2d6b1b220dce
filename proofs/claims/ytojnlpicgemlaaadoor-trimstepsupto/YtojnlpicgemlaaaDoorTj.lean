import Derived.Test.YtojnlpicgemlaaaDoorTi
namespace Go.Proofs.YtojnlpicgemlaaaDoor
open Go.RowKit Go.Maps
attribute [local go_sem] Oper.semAt_some

/-! ### They are as they were laid -/
end Go.Proofs.YtojnlpicgemlaaaDoor
