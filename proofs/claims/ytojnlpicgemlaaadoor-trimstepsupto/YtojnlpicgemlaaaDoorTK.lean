import Derived.Test.YtojnlpicgemlaaaDoorTj
namespace Go.Proofs.YtojnlpicgemlaaaDoor
open Go.RowKit Go.Maps
attribute [local go_sem] Oper.semAt_some

/-! ### One step ahead; a state in both -/
def postM (Ed : List EdT) (M : Nat → Bool) (sym : Int) (q : Nat) : Bool := Ed.any fun e => (decide (e.2.1 = sym) && M e.1.toNat) && decide (e.2.2 = (q : Int))
def bothM (N : Nat) (M M' : Nat → Bool) : Bool := (List.range N).any fun q => M q && M' q
end Go.Proofs.YtojnlpicgemlaaaDoor
namespace Go.Proofs.YtojnlpicgemlaaaDoor
open Go.RowKit Go.Maps
attribute [local go_sem] Oper.semAt_some

/-! ### Can so many more symbols lead to a final state? -/
end Go.Proofs.YtojnlpicgemlaaaDoor
namespace Go.Proofs.YtojnlpicgemlaaaDoor
open Go.RowKit Go.Maps
attribute [local go_sem] Oper.semAt_some

/-! ### Is a word taken, as the document says it -/
def wordM (Ed : List EdT) (M : Nat → Bool) (Wd : List Int) : Nat → Bool := Wd.foldl (fun M s => postM Ed M s) M
end Go.Proofs.YtojnlpicgemlaaaDoor
