import Derived.Test.YtojnlpicgemlaaaDoorTA
namespace Go.Proofs.YtojnlpicgemlaaaDoor
open Go.RowKit Go.Maps
attribute [local go_sem] Oper.semAt_some

/-! ### All that can be come to, as the document says it -/
end Go.Proofs.YtojnlpicgemlaaaDoor
