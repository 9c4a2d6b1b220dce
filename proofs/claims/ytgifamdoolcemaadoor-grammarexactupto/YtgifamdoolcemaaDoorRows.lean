/-
  NARROWER THAN 'FOR EVERY INPUT', by the rows' own cells (each row's printed sentence says how): GrammarEnds: laid · GrammarLines: laid · GrammarFollows: laid · GrammarExact: laid.
  DERIVED. THE GIVEN ROWS OF THIS SEAT. 4 by the template 'for every input the law returns true; each argument reads behind the call as it read before'; 0 by the template 'total and deterministic' (their statements: YtgifamdoolcemaaDoorTotals.lean).
  GIVEN WITH THE SEED: the statements are not yours to turn. If you find one false, say at which input.
  Laid BY PROGRAM, IN A SANDBOX (cutbox-rows.mjs): the forced cells as the released guide's own fill.sh prints them over the translation 505857dbcbc468f4… (all of the seat's roots in one cut). By AI agents, Wed Nov 11 2026. No macro, syntax, notation, axiom, sorry.
-/
import Derived.Test.YtgifamdoolcemaaDoorChecked
import GoSem.Claim
import GoSem.ClaimJoined
import GoSem.ClaimMapViews
import Derived.JoinedTies
import Derived.KernelRfl
namespace Go.Proofs.YtgifamdoolcemaaDoor
/- THE CELL 'sum', in the pinned program and in every row, IS THE sha256 OF THE DUMP (.gsa) THAT YtgifamdoolcemaaDoorProg.lean LOADS. Nothing in Lean hashes anything: it is a label: what it is worth is what the hold of that sum in a sandbox is worth. -/
noncomputable def Tryd.pinned : Pinned := { name := "ytgifamdoolcemaadoor", sum := "505857dbcbc468f487f1cb9ef8bb831dff563f70d13cc034a9af19e97ae7e026", checked := Tryd.checked }
namespace Rows
def none {H : Type} : Left H := { results := [], args := [] }

/- WHAT THE LISTED PACKAGE-LEVEL VARIABLES READ AS WHEN THE CALL BEGINS. Each datum BY PROGRAM (the guide's laid-datum.mjs) off the statement by which the dump's own 'gosem.cut.vars' lays the variable. In a bare row this is a premise. The card (YtgifamdoolcemaaDoorCards.lean) ties it to the program's text. -/
def laid_wordset_grammar_rows {H : Type} : DataW H := .agg [.agg [.lit (.int .u8 0), .lit (.int .u8 0), .lit (.int .u8 0), .lit (.string []), .lit (.string []), .lit (.int .u8 0)], .agg [.lit (.int .u8 2), .lit (.int .u8 1), .lit (.int .u8 0), .lit (.string []), .lit (.string [79, 112, 115]), .lit (.int .u8 3)], .agg [.lit (.int .u8 2), .lit (.int .u8 1), .lit (.int .u8 0), .lit (.string []), .lit (.string []), .lit (.int .u8 0)], .agg [.lit (.int .u8 4), .lit (.int .u8 7), .lit (.int .u8 0), .lit (.string []), .lit (.string []), .lit (.int .u8 0)], .agg [.lit (.int .u8 4), .lit (.int .u8 7), .lit (.int .u8 5), .lit (.string []), .lit (.string []), .lit (.int .u8 0)], .agg [.lit (.int .u8 0), .lit (.int .u8 0), .lit (.int .u8 5), .lit (.string [58]), .lit (.string []), .lit (.int .u8 6)], .agg [.lit (.int .u8 0), .lit (.int .u8 0), .lit (.int .u8 0), .lit (.string [48, 49]), .lit (.string []), .lit (.int .u8 3)], .agg [.lit (.int .u8 8), .lit (.int .u8 7), .lit (.int .u8 0), .lit (.string []), .lit (.string [65, 117, 116, 111, 109, 97, 116, 111, 110]), .lit (.int .u8 9)], .agg [.lit (.int .u8 8), .lit (.int .u8 7), .lit (.int .u8 0), .lit (.string []), .lit (.string []), .lit (.int .u8 0)], .agg [.lit (.int .u8 10), .lit (.int .u8 0), .lit (.int .u8 0), .lit (.string []), .lit (.string []), .lit (.int .u8 0)], .agg [.lit (.int .u8 10), .lit (.int .u8 0), .lit (.int .u8 11), .lit (.string []), .lit (.string []), .lit (.int .u8 0)], .agg [.lit (.int .u8 13), .lit (.int .u8 12), .lit (.int .u8 11), .lit (.string []), .lit (.string []), .lit (.int .u8 0)], .agg [.lit (.int .u8 13), .lit (.int .u8 12), .lit (.int .u8 0), .lit (.string []), .lit (.string [83, 116, 97, 116, 101, 115]), .lit (.int .u8 14)], .agg [.lit (.int .u8 13), .lit (.int .u8 12), .lit (.int .u8 0), .lit (.string []), .lit (.string []), .lit (.int .u8 0)], .agg [.lit (.int .u8 15), .lit (.int .u8 17), .lit (.int .u8 0), .lit (.string []), .lit (.string []), .lit (.int .u8 0)], .agg [.lit (.int .u8 15), .lit (.int .u8 17), .lit (.int .u8 16), .lit (.string []), .lit (.string []), .lit (.int .u8 0)], .agg [.lit (.int .u8 15), .lit (.int .u8 17), .lit (.int .u8 16), .lit (.string []), .lit (.string []), .lit (.int .u8 0)], .agg [.lit (.int .u8 18), .lit (.int .u8 17), .lit (.int .u8 0), .lit (.string []), .lit (.string [70, 105, 110, 97, 108, 32, 83, 116, 97, 116, 101, 115]), .lit (.int .u8 19)], .agg [.lit (.int .u8 18), .lit (.int .u8 17), .lit (.int .u8 0), .lit (.string []), .lit (.string []), .lit (.int .u8 0)], .agg [.lit (.int .u8 20), .lit (.int .u8 22), .lit (.int .u8 0), .lit (.string []), .lit (.string []), .lit (.int .u8 0)], .agg [.lit (.int .u8 20), .lit (.int .u8 22), .lit (.int .u8 21), .lit (.string []), .lit (.string []), .lit (.int .u8 0)], .agg [.lit (.int .u8 20), .lit (.int .u8 22), .lit (.int .u8 21), .lit (.string []), .lit (.string []), .lit (.int .u8 0)], .agg [.lit (.int .u8 23), .lit (.int .u8 22), .lit (.int .u8 0), .lit (.string []), .lit (.string [84, 114, 97, 110, 115, 105, 116, 105, 111, 110, 115]), .lit (.int .u8 25)], .agg [.lit (.int .u8 23), .lit (.int .u8 22), .lit (.int .u8 0), .lit (.string []), .lit (.string []), .lit (.int .u8 0)], .agg [.lit (.int .u8 25), .lit (.int .u8 24), .lit (.int .u8 26), .lit (.string []), .lit (.string []), .lit (.int .u8 0)], .agg [.lit (.int .u8 25), .lit (.int .u8 24), .lit (.int .u8 0), .lit (.string []), .lit (.string []), .lit (.int .u8 0)], .agg [.lit (.int .u8 0), .lit (.int .u8 0), .lit (.int .u8 26), .lit (.string [40]), .lit (.string []), .lit (.int .u8 27)], .agg [.lit (.int .u8 0), .lit (.int .u8 0), .lit (.int .u8 28), .lit (.string [41]), .lit (.string []), .lit (.int .u8 29)], .agg [.lit (.int .u8 0), .lit (.int .u8 0), .lit (.int .u8 28), .lit (.string [41]), .lit (.string []), .lit (.int .u8 29)], .agg [.lit (.int .u8 29), .lit (.int .u8 0), .lit (.int .u8 0), .lit (.string []), .lit (.string [45, 62]), .lit (.int .u8 30)], .agg [.lit (.int .u8 30), .lit (.int .u8 0), .lit (.int .u8 31), .lit (.string []), .lit (.string []), .lit (.int .u8 0)], .agg [.lit (.int .u8 25), .lit (.int .u8 24), .lit (.int .u8 31), .lit (.string []), .lit (.string []), .lit (.int .u8 0)]]

/-- 'wordsetlaw03.GrammarEnds': WHATEVER THE INPUT: true; the input reads as it did. -/
def grammarEndsSpec : ChangeSpec := { name := "grammarEnds", fn := fun _ => fun
  | [d1, d2] => { results := [.lit (.bool true)], args := [d1, d2] }
  | _ => none }
def grammarEndsRow : OpenClaim := { program := "ytgifamdoolcemaadoor", sum := "505857dbcbc468f487f1cb9ef8bb831dff563f70d13cc034a9af19e97ae7e026", func := "wordset/wordsetlaw03.GrammarEnds", spec := "grammarEnds", inPlace := ["internal/bytealg.IndexByteString"], named := ["wordset/grammar.rows"], plainKeys := false, apart := false, laid := [("wordset/grammar.rows", laid_wordset_grammar_rows)] }
def GrammarEndsSaid : Prop := grammarEndsRow.holds Tryd.pinned (OpenSpec.ofChange grammarEndsSpec)

/-- ITS FALSE NEIGHBOUR: 'it returns false'. Refute it at one input. -/
def grammarEndsWrong : ChangeSpec := { name := "grammarEnds", fn := fun _ => fun
  | [d1, d2] => { results := [.lit (.bool false)], args := [d1, d2] }
  | _ => none }
def GrammarEndsWrongFalsely : Prop := grammarEndsRow.holds Tryd.pinned (OpenSpec.ofChange grammarEndsWrong)

/-- 'wordsetlaw03.GrammarLines': WHATEVER THE INPUT: true; the input reads as it did. -/
def grammarLinesSpec : ChangeSpec := { name := "grammarLines", fn := fun _ => fun
  | [d1, d2, d3] => { results := [.lit (.bool true)], args := [d1, d2, d3] }
  | _ => none }
def grammarLinesRow : OpenClaim := { program := "ytgifamdoolcemaadoor", sum := "505857dbcbc468f487f1cb9ef8bb831dff563f70d13cc034a9af19e97ae7e026", func := "wordset/wordsetlaw03.GrammarLines", spec := "grammarLines", inPlace := ["internal/bytealg.IndexByteString"], named := ["wordset/grammar.rows"], plainKeys := false, apart := false, laid := [("wordset/grammar.rows", laid_wordset_grammar_rows)] }
def GrammarLinesSaid : Prop := grammarLinesRow.holds Tryd.pinned (OpenSpec.ofChange grammarLinesSpec)

/-- ITS FALSE NEIGHBOUR: 'it returns false'. Refute it at one input. -/
def grammarLinesWrong : ChangeSpec := { name := "grammarLines", fn := fun _ => fun
  | [d1, d2, d3] => { results := [.lit (.bool false)], args := [d1, d2, d3] }
  | _ => none }
def GrammarLinesWrongFalsely : Prop := grammarLinesRow.holds Tryd.pinned (OpenSpec.ofChange grammarLinesWrong)

/-- 'wordsetlaw03.GrammarFollows': WHATEVER THE INPUT: true; the input reads as it did. -/
def grammarFollowsSpec : ChangeSpec := { name := "grammarFollows", fn := fun _ => fun
  | [d1, d2] => { results := [.lit (.bool true)], args := [d1, d2] }
  | _ => none }
def grammarFollowsRow : OpenClaim := { program := "ytgifamdoolcemaadoor", sum := "505857dbcbc468f487f1cb9ef8bb831dff563f70d13cc034a9af19e97ae7e026", func := "wordset/wordsetlaw03.GrammarFollows", spec := "grammarFollows", inPlace := ["internal/bytealg.IndexByteString"], named := ["wordset/grammar.rows"], plainKeys := false, apart := false, laid := [("wordset/grammar.rows", laid_wordset_grammar_rows)] }
def GrammarFollowsSaid : Prop := grammarFollowsRow.holds Tryd.pinned (OpenSpec.ofChange grammarFollowsSpec)

/-- ITS FALSE NEIGHBOUR: 'it returns false'. Refute it at one input. -/
def grammarFollowsWrong : ChangeSpec := { name := "grammarFollows", fn := fun _ => fun
  | [d1, d2] => { results := [.lit (.bool false)], args := [d1, d2] }
  | _ => none }
def GrammarFollowsWrongFalsely : Prop := grammarFollowsRow.holds Tryd.pinned (OpenSpec.ofChange grammarFollowsWrong)

/-- 'wordsetlaw03.GrammarExact': WHATEVER THE INPUT: true; the input reads as it did. -/
def grammarExactSpec : ChangeSpec := { name := "grammarExact", fn := fun _ => fun
  | [d] => { results := [.lit (.bool true)], args := [d] }
  | _ => none }
def grammarExactRow : OpenClaim := { program := "ytgifamdoolcemaadoor", sum := "505857dbcbc468f487f1cb9ef8bb831dff563f70d13cc034a9af19e97ae7e026", func := "wordset/wordsetlaw03.GrammarExact", spec := "grammarExact", inPlace := ["internal/bytealg.IndexByteString"], named := ["wordset/grammar.rows"], plainKeys := false, apart := false, laid := [("wordset/grammar.rows", laid_wordset_grammar_rows)] }
def GrammarExactSaid : Prop := grammarExactRow.holds Tryd.pinned (OpenSpec.ofChange grammarExactSpec)

/-- ITS FALSE NEIGHBOUR: 'it returns false'. Refute it at one input. -/
def grammarExactWrong : ChangeSpec := { name := "grammarExact", fn := fun _ => fun
  | [d] => { results := [.lit (.bool false)], args := [d] }
  | _ => none }
def GrammarExactWrongFalsely : Prop := grammarExactRow.holds Tryd.pinned (OpenSpec.ofChange grammarExactWrong)

/- THE SECOND FORM. 'bulk': how many values and letters a reading holds, each counted each time it is reached (what is shared counts as often as it is met; a slice's spare places count too). A statement '..UptoSaid' is the law's where the arguments, and the package variables that the reading takes, are together of bulk at most 1048576: NARROWER than '..Said'. Prove '..Said' where nothing that the law and all that it calls make is longer than what came in: it says more and counts as full. Else prove '..UptoSaid'. A law counts once. -/
mutual
def uptoBulk {H : Type} : DataW H → Nat
  | .lit (.string bytes) => bytes.length + 1
  | .lit _ => 1
  | .nil => 1
  | .ptr d => uptoBulk d + 1
  | .slice elems spare => uptoBulkAll elems + uptoBulkAll spare + 1
  | .agg parts => uptoBulkAll parts + 1
  | .iface _ d => uptoBulk d + 1
  | .map entries => uptoBulkEntries entries + 1
  | .held _ => 1
def uptoBulkAll {H : Type} : List (DataW H) → Nat
  | [] => 0
  | d :: r => uptoBulk d + uptoBulkAll r
def uptoBulkEntries {H : Type} : List (Lit × DataW H) → Nat
  | [] => 0
  | x :: r => uptoBulkEntry x + uptoBulkEntries r
def uptoBulkEntry {H : Type} : Lit × DataW H → Nat
  | (.string bytes, d) => bytes.length + uptoBulk d + 1
  | (_, d) => uptoBulk d + 1
 end
def uptoSmall : (H : Type) → List (DataW H) → Bool := fun _ ds => decide (uptoBulkAll ds ≤ 1048576)
def OpenSpec.upto (s : _root_.Go.ChangeSpec) : _root_.Go.OpenSpec := { _root_.Go.OpenSpec.ofChange s with cond := some uptoSmall }

/-- 'wordsetlaw03.GrammarEnds', WHERE WHAT IT READS IS OF BULK AT MOST 1048576: true; the input reads as it did. -/
def grammarEndsUptoRow : OpenClaim := { program := "ytgifamdoolcemaadoor", sum := "505857dbcbc468f487f1cb9ef8bb831dff563f70d13cc034a9af19e97ae7e026", func := "wordset/wordsetlaw03.GrammarEnds", spec := "grammarEnds", inPlace := ["internal/bytealg.IndexByteString"], named := ["wordset/grammar.rows"], plainKeys := false, apart := false, laid := [("wordset/grammar.rows", laid_wordset_grammar_rows)], narrowed := true }
def GrammarEndsUptoSaid : Prop := grammarEndsUptoRow.holds Tryd.pinned (OpenSpec.upto grammarEndsSpec)

/-- 'wordsetlaw03.GrammarLines', WHERE WHAT IT READS IS OF BULK AT MOST 1048576: true; the input reads as it did. -/
def grammarLinesUptoRow : OpenClaim := { program := "ytgifamdoolcemaadoor", sum := "505857dbcbc468f487f1cb9ef8bb831dff563f70d13cc034a9af19e97ae7e026", func := "wordset/wordsetlaw03.GrammarLines", spec := "grammarLines", inPlace := ["internal/bytealg.IndexByteString"], named := ["wordset/grammar.rows"], plainKeys := false, apart := false, laid := [("wordset/grammar.rows", laid_wordset_grammar_rows)], narrowed := true }
def GrammarLinesUptoSaid : Prop := grammarLinesUptoRow.holds Tryd.pinned (OpenSpec.upto grammarLinesSpec)

/-- 'wordsetlaw03.GrammarFollows', WHERE WHAT IT READS IS OF BULK AT MOST 1048576: true; the input reads as it did. -/
def grammarFollowsUptoRow : OpenClaim := { program := "ytgifamdoolcemaadoor", sum := "505857dbcbc468f487f1cb9ef8bb831dff563f70d13cc034a9af19e97ae7e026", func := "wordset/wordsetlaw03.GrammarFollows", spec := "grammarFollows", inPlace := ["internal/bytealg.IndexByteString"], named := ["wordset/grammar.rows"], plainKeys := false, apart := false, laid := [("wordset/grammar.rows", laid_wordset_grammar_rows)], narrowed := true }
def GrammarFollowsUptoSaid : Prop := grammarFollowsUptoRow.holds Tryd.pinned (OpenSpec.upto grammarFollowsSpec)

/-- 'wordsetlaw03.GrammarExact', WHERE WHAT IT READS IS OF BULK AT MOST 1048576: true; the input reads as it did. -/
def grammarExactUptoRow : OpenClaim := { program := "ytgifamdoolcemaadoor", sum := "505857dbcbc468f487f1cb9ef8bb831dff563f70d13cc034a9af19e97ae7e026", func := "wordset/wordsetlaw03.GrammarExact", spec := "grammarExact", inPlace := ["internal/bytealg.IndexByteString"], named := ["wordset/grammar.rows"], plainKeys := false, apart := false, laid := [("wordset/grammar.rows", laid_wordset_grammar_rows)], narrowed := true }
def GrammarExactUptoSaid : Prop := grammarExactUptoRow.holds Tryd.pinned (OpenSpec.upto grammarExactSpec)

end Rows
end Go.Proofs.YtgifamdoolcemaaDoor
