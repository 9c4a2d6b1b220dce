/-
  No cell of these rows narrows 'for every input' (looked for: loops, veiled, ifaces, maps, wideKeys, modest, calm, conditions, laid).
  DERIVED. THE GIVEN ROWS OF THIS SEAT. 4 by the template 'for every input the law returns true; each argument reads behind the call as it read before'; 0 by the template 'total and deterministic' (their statements: YtocoghljmlpdeaaTotals.lean).
  GIVEN WITH THE SEED: the statements are not yours to turn. If you find one false, say at which input.
  Laid BY PROGRAM, IN A SANDBOX (cutbox-rows.mjs): the forced cells as the released guide's own fill.sh prints them over the translation f370aecaa1203160… (all of the seat's roots in one cut). By AI agents, Wed Nov 11 2026. No macro, syntax, notation, axiom, sorry.
-/
import Derived.Test.YtocoghljmlpdeaaChecked
import GoSem.Claim
import GoSem.ClaimJoined
import GoSem.ClaimMapViews
import Derived.JoinedTies
import Derived.KernelRfl
namespace Go.Proofs.Ytocoghljmlpdeaa
/- THE CELL 'sum', in the pinned program and in every row, IS THE sha256 OF THE DUMP (.gsa) THAT YtocoghljmlpdeaaProg.lean LOADS. Nothing in Lean hashes anything: it is a label: what it is worth is what the hold of that sum in a sandbox is worth. -/
noncomputable def Try.pinned : Pinned := { name := "ytocoghljmlpdeaa", sum := "f370aecaa120316046e2e39992918433071171ff52fe7e27fb7acbd1ba541a1b", checked := Try.checked }
namespace Rows
def none {H : Type} : Left H := { results := [], args := [] }

/-- 'wordsetlaw12.MinimalReached': WHATEVER THE INPUT: true; the input reads as it did. -/
def minimalReachedSpec : ChangeSpec := { name := "minimalReached", fn := fun _ => fun
  | [d] => { results := [.lit (.bool true)], args := [d] }
  | _ => none }
def minimalReachedRow : OpenClaim := { program := "ytocoghljmlpdeaa", sum := "f370aecaa120316046e2e39992918433071171ff52fe7e27fb7acbd1ba541a1b", func := "wordset/wordsetlaw12.MinimalReached", spec := "minimalReached", unfollowed := true, recurses := true, plainKeys := false, apart := false }
def MinimalReachedSaid : Prop := minimalReachedRow.holds Try.pinned (OpenSpec.ofChange minimalReachedSpec)

/-- ITS FALSE NEIGHBOUR: 'it returns false'. Refute it at one input. -/
def minimalReachedWrong : ChangeSpec := { name := "minimalReached", fn := fun _ => fun
  | [d] => { results := [.lit (.bool false)], args := [d] }
  | _ => none }
def MinimalReachedWrongFalsely : Prop := minimalReachedRow.holds Try.pinned (OpenSpec.ofChange minimalReachedWrong)

/-- 'wordsetlaw12.MinimalTells': WHATEVER THE INPUT: true; the input reads as it did. -/
def minimalTellsSpec : ChangeSpec := { name := "minimalTells", fn := fun _ => fun
  | [d] => { results := [.lit (.bool true)], args := [d] }
  | _ => none }
def minimalTellsRow : OpenClaim := { program := "ytocoghljmlpdeaa", sum := "f370aecaa120316046e2e39992918433071171ff52fe7e27fb7acbd1ba541a1b", func := "wordset/wordsetlaw12.MinimalTells", spec := "minimalTells", unfollowed := true, recurses := true, plainKeys := false, apart := false }
def MinimalTellsSaid : Prop := minimalTellsRow.holds Try.pinned (OpenSpec.ofChange minimalTellsSpec)

/-- ITS FALSE NEIGHBOUR: 'it returns false'. Refute it at one input. -/
def minimalTellsWrong : ChangeSpec := { name := "minimalTells", fn := fun _ => fun
  | [d] => { results := [.lit (.bool false)], args := [d] }
  | _ => none }
def MinimalTellsWrongFalsely : Prop := minimalTellsRow.holds Try.pinned (OpenSpec.ofChange minimalTellsWrong)

/-- 'wordsetlaw12.MinimalWords': WHATEVER THE INPUT: true; the input reads as it did. -/
def minimalWordsSpec : ChangeSpec := { name := "minimalWords", fn := fun _ => fun
  | [d] => { results := [.lit (.bool true)], args := [d] }
  | _ => none }
def minimalWordsRow : OpenClaim := { program := "ytocoghljmlpdeaa", sum := "f370aecaa120316046e2e39992918433071171ff52fe7e27fb7acbd1ba541a1b", func := "wordset/wordsetlaw12.MinimalWords", spec := "minimalWords", unfollowed := true, recurses := true, plainKeys := false, apart := false }
def MinimalWordsSaid : Prop := minimalWordsRow.holds Try.pinned (OpenSpec.ofChange minimalWordsSpec)

/-- ITS FALSE NEIGHBOUR: 'it returns false'. Refute it at one input. -/
def minimalWordsWrong : ChangeSpec := { name := "minimalWords", fn := fun _ => fun
  | [d] => { results := [.lit (.bool false)], args := [d] }
  | _ => none }
def MinimalWordsWrongFalsely : Prop := minimalWordsRow.holds Try.pinned (OpenSpec.ofChange minimalWordsWrong)

/-- 'wordsetlaw12.MinimalExact': WHATEVER THE INPUT: true; the input reads as it did. -/
def minimalExactSpec : ChangeSpec := { name := "minimalExact", fn := fun _ => fun
  | [d] => { results := [.lit (.bool true)], args := [d] }
  | _ => none }
def minimalExactRow : OpenClaim := { program := "ytocoghljmlpdeaa", sum := "f370aecaa120316046e2e39992918433071171ff52fe7e27fb7acbd1ba541a1b", func := "wordset/wordsetlaw12.MinimalExact", spec := "minimalExact", unfollowed := true, recurses := true, plainKeys := false, apart := false }
def MinimalExactSaid : Prop := minimalExactRow.holds Try.pinned (OpenSpec.ofChange minimalExactSpec)

/-- ITS FALSE NEIGHBOUR: 'it returns false'. Refute it at one input. -/
def minimalExactWrong : ChangeSpec := { name := "minimalExact", fn := fun _ => fun
  | [d] => { results := [.lit (.bool false)], args := [d] }
  | _ => none }
def MinimalExactWrongFalsely : Prop := minimalExactRow.holds Try.pinned (OpenSpec.ofChange minimalExactWrong)

/- THE SECOND FORM. 'bulk': how many values and letters a reading holds, each counted each time it is reached (what is shared counts as often as it is met; a slice's spare places count too). A statement '..UptoSaid' is the law's where the arguments, and the package variables that the reading takes, are together of bulk at most 1048576: NARROWER than '..Said'. Prove '..Said' where nothing that the law and all that it calls make is longer than what came in: it says more and counts as full. Else prove '..UptoSaid'. A law counts once. -/
mutual
def uptoBulk {H : Type} : DataW H → Nat
  | .lit (.string bytes) => bytes.length + 1
  | .lit _ => 1
  | .nil => 1
  | .ptr d => uptoBulk d + 1
  | .slice elems spare => uptoBulkAll elems + uptoBulkAll spare + 1
  | .agg parts => uptoBulkAll parts + 1
  | .iface _ d => uptoBulk d + 1
  | .map entries => uptoBulkEntries entries + 1
  | .held _ => 1
def uptoBulkAll {H : Type} : List (DataW H) → Nat
  | [] => 0
  | d :: r => uptoBulk d + uptoBulkAll r
def uptoBulkEntries {H : Type} : List (Lit × DataW H) → Nat
  | [] => 0
  | x :: r => uptoBulkEntry x + uptoBulkEntries r
def uptoBulkEntry {H : Type} : Lit × DataW H → Nat
  | (.string bytes, d) => bytes.length + uptoBulk d + 1
  | (_, d) => uptoBulk d + 1
 end
def uptoSmall : (H : Type) → List (DataW H) → Bool := fun _ ds => decide (uptoBulkAll ds ≤ 1048576)
def OpenSpec.upto (s : _root_.Go.ChangeSpec) : _root_.Go.OpenSpec := { _root_.Go.OpenSpec.ofChange s with cond := some uptoSmall }

/-- 'wordsetlaw12.MinimalReached', WHERE WHAT IT READS IS OF BULK AT MOST 1048576: true; the input reads as it did. -/
def minimalReachedUptoRow : OpenClaim := { program := "ytocoghljmlpdeaa", sum := "f370aecaa120316046e2e39992918433071171ff52fe7e27fb7acbd1ba541a1b", func := "wordset/wordsetlaw12.MinimalReached", spec := "minimalReached", unfollowed := true, recurses := true, plainKeys := false, apart := false, narrowed := true }
def MinimalReachedUptoSaid : Prop := minimalReachedUptoRow.holds Try.pinned (OpenSpec.upto minimalReachedSpec)

/-- 'wordsetlaw12.MinimalTells', WHERE WHAT IT READS IS OF BULK AT MOST 1048576: true; the input reads as it did. -/
def minimalTellsUptoRow : OpenClaim := { program := "ytocoghljmlpdeaa", sum := "f370aecaa120316046e2e39992918433071171ff52fe7e27fb7acbd1ba541a1b", func := "wordset/wordsetlaw12.MinimalTells", spec := "minimalTells", unfollowed := true, recurses := true, plainKeys := false, apart := false, narrowed := true }
def MinimalTellsUptoSaid : Prop := minimalTellsUptoRow.holds Try.pinned (OpenSpec.upto minimalTellsSpec)

/-- 'wordsetlaw12.MinimalWords', WHERE WHAT IT READS IS OF BULK AT MOST 1048576: true; the input reads as it did. -/
def minimalWordsUptoRow : OpenClaim := { program := "ytocoghljmlpdeaa", sum := "f370aecaa120316046e2e39992918433071171ff52fe7e27fb7acbd1ba541a1b", func := "wordset/wordsetlaw12.MinimalWords", spec := "minimalWords", unfollowed := true, recurses := true, plainKeys := false, apart := false, narrowed := true }
def MinimalWordsUptoSaid : Prop := minimalWordsUptoRow.holds Try.pinned (OpenSpec.upto minimalWordsSpec)

/-- 'wordsetlaw12.MinimalExact', WHERE WHAT IT READS IS OF BULK AT MOST 1048576: true; the input reads as it did. -/
def minimalExactUptoRow : OpenClaim := { program := "ytocoghljmlpdeaa", sum := "f370aecaa120316046e2e39992918433071171ff52fe7e27fb7acbd1ba541a1b", func := "wordset/wordsetlaw12.MinimalExact", spec := "minimalExact", unfollowed := true, recurses := true, plainKeys := false, apart := false, narrowed := true }
def MinimalExactUptoSaid : Prop := minimalExactUptoRow.holds Try.pinned (OpenSpec.upto minimalExactSpec)

end Rows
end Go.Proofs.Ytocoghljmlpdeaa
