/-
  No cell of these rows narrows 'for every input' (looked for: loops, veiled, ifaces, maps, wideKeys, modest, calm, conditions, laid).
  DERIVED. THE GIVEN ROWS OF THIS SEAT. 8 by the template 'for every input the law returns true; each argument reads behind the call as it read before'; 0 by the template 'total and deterministic' (their statements: YtlhmedokpjkjpaaTotals.lean).
  GIVEN WITH THE SEED: the statements are not yours to turn. If you find one false, say at which input.
  Laid BY PROGRAM, IN A SANDBOX (cutbox-rows.mjs): the forced cells as the released guide's own fill.sh prints them over the translation 4b56e52f0cb63a96… (all of the seat's roots in one cut). By AI agents, Wed Nov 11 2026. No macro, syntax, notation, axiom, sorry.
-/
import Derived.Test.YtlhmedokpjkjpaaChecked
import GoSem.Claim
import GoSem.ClaimJoined
import GoSem.ClaimMapViews
import Derived.JoinedTies
import Derived.KernelRfl
namespace Go.Proofs.Ytlhmedokpjkjpaa
/- THE CELL 'sum', in the pinned program and in every row, IS THE sha256 OF THE DUMP (.gsa) THAT YtlhmedokpjkjpaaProg.lean LOADS. Nothing in Lean hashes anything: it is a label: what it is worth is what the hold of that sum in a sandbox is worth. -/
noncomputable def Try.pinned : Pinned := { name := "ytlhmedokpjkjpaa", sum := "4b56e52f0cb63a9668e3c4200a8e59d8bdfdb9a37fcc89f259c9b60b73999b16", checked := Try.checked }
namespace Rows
def none {H : Type} : Left H := { results := [], args := [] }

/-- 'laws.FnMazes': WHATEVER THE INPUT: true; the input reads as it did. -/
def fnMazesSpec : ChangeSpec := { name := "fnMazes", fn := fun _ => fun
  | [d] => { results := [.lit (.bool true)], args := [d] }
  | _ => none }
def fnMazesRow : OpenClaim := { program := "ytlhmedokpjkjpaa", sum := "4b56e52f0cb63a9668e3c4200a8e59d8bdfdb9a37fcc89f259c9b60b73999b16", func := "loop.example/g00990/laws.FnMazes", spec := "fnMazes", apart := false }
def FnMazesSaid : Prop := fnMazesRow.holds Try.pinned (OpenSpec.ofChange fnMazesSpec)

/-- ITS FALSE NEIGHBOUR: 'it returns false'. Refute it at one input. -/
def fnMazesWrong : ChangeSpec := { name := "fnMazes", fn := fun _ => fun
  | [d] => { results := [.lit (.bool false)], args := [d] }
  | _ => none }
def FnMazesWrongFalsely : Prop := fnMazesRow.holds Try.pinned (OpenSpec.ofChange fnMazesWrong)

/-- 'laws.FnExactMazeOk': WHATEVER THE INPUT: true; the input reads as it did. -/
def fnExactMazeOkSpec : ChangeSpec := { name := "fnExactMazeOk", fn := fun _ => fun
  | [d] => { results := [.lit (.bool true)], args := [d] }
  | _ => none }
def fnExactMazeOkRow : OpenClaim := { program := "ytlhmedokpjkjpaa", sum := "4b56e52f0cb63a9668e3c4200a8e59d8bdfdb9a37fcc89f259c9b60b73999b16", func := "loop.example/g00990/laws.FnExactMazeOk", spec := "fnExactMazeOk", apart := false }
def FnExactMazeOkSaid : Prop := fnExactMazeOkRow.holds Try.pinned (OpenSpec.ofChange fnExactMazeOkSpec)

/-- ITS FALSE NEIGHBOUR: 'it returns false'. Refute it at one input. -/
def fnExactMazeOkWrong : ChangeSpec := { name := "fnExactMazeOk", fn := fun _ => fun
  | [d] => { results := [.lit (.bool false)], args := [d] }
  | _ => none }
def FnExactMazeOkWrongFalsely : Prop := fnExactMazeOkRow.holds Try.pinned (OpenSpec.ofChange fnExactMazeOkWrong)

/-- 'laws.FnExactIsPassage': WHATEVER THE INPUT: true; the input reads as it did. -/
def fnExactIsPassageSpec : ChangeSpec := { name := "fnExactIsPassage", fn := fun _ => fun
  | [d1, d2] => { results := [.lit (.bool true)], args := [d1, d2] }
  | _ => none }
def fnExactIsPassageRow : OpenClaim := { program := "ytlhmedokpjkjpaa", sum := "4b56e52f0cb63a9668e3c4200a8e59d8bdfdb9a37fcc89f259c9b60b73999b16", func := "loop.example/g00990/laws.FnExactIsPassage", spec := "fnExactIsPassage", apart := false }
def FnExactIsPassageSaid : Prop := fnExactIsPassageRow.holds Try.pinned (OpenSpec.ofChange fnExactIsPassageSpec)

/-- ITS FALSE NEIGHBOUR: 'it returns false'. Refute it at one input. -/
def fnExactIsPassageWrong : ChangeSpec := { name := "fnExactIsPassage", fn := fun _ => fun
  | [d1, d2] => { results := [.lit (.bool false)], args := [d1, d2] }
  | _ => none }
def FnExactIsPassageWrongFalsely : Prop := fnExactIsPassageRow.holds Try.pinned (OpenSpec.ofChange fnExactIsPassageWrong)

/-- 'laws.FnExactStep': WHATEVER THE INPUT: true; the input reads as it did. -/
def fnExactStepSpec : ChangeSpec := { name := "fnExactStep", fn := fun _ => fun
  | [d1, d2, d3] => { results := [.lit (.bool true)], args := [d1, d2, d3] }
  | _ => none }
def fnExactStepRow : OpenClaim := { program := "ytlhmedokpjkjpaa", sum := "4b56e52f0cb63a9668e3c4200a8e59d8bdfdb9a37fcc89f259c9b60b73999b16", func := "loop.example/g00990/laws.FnExactStep", spec := "fnExactStep", apart := false }
def FnExactStepSaid : Prop := fnExactStepRow.holds Try.pinned (OpenSpec.ofChange fnExactStepSpec)

/-- ITS FALSE NEIGHBOUR: 'it returns false'. Refute it at one input. -/
def fnExactStepWrong : ChangeSpec := { name := "fnExactStep", fn := fun _ => fun
  | [d1, d2, d3] => { results := [.lit (.bool false)], args := [d1, d2, d3] }
  | _ => none }
def FnExactStepWrongFalsely : Prop := fnExactStepRow.holds Try.pinned (OpenSpec.ofChange fnExactStepWrong)

/-- 'laws.FnExactWaysFrom': WHATEVER THE INPUT: true; the input reads as it did. -/
def fnExactWaysFromSpec : ChangeSpec := { name := "fnExactWaysFrom", fn := fun _ => fun
  | [d1, d2] => { results := [.lit (.bool true)], args := [d1, d2] }
  | _ => none }
def fnExactWaysFromRow : OpenClaim := { program := "ytlhmedokpjkjpaa", sum := "4b56e52f0cb63a9668e3c4200a8e59d8bdfdb9a37fcc89f259c9b60b73999b16", func := "loop.example/g00990/laws.FnExactWaysFrom", spec := "fnExactWaysFrom", apart := false }
def FnExactWaysFromSaid : Prop := fnExactWaysFromRow.holds Try.pinned (OpenSpec.ofChange fnExactWaysFromSpec)

/-- ITS FALSE NEIGHBOUR: 'it returns false'. Refute it at one input. -/
def fnExactWaysFromWrong : ChangeSpec := { name := "fnExactWaysFrom", fn := fun _ => fun
  | [d1, d2] => { results := [.lit (.bool false)], args := [d1, d2] }
  | _ => none }
def FnExactWaysFromWrongFalsely : Prop := fnExactWaysFromRow.holds Try.pinned (OpenSpec.ofChange fnExactWaysFromWrong)

/-- 'laws.FnExactCountPassages': WHATEVER THE INPUT: true; the input reads as it did. -/
def fnExactCountPassagesSpec : ChangeSpec := { name := "fnExactCountPassages", fn := fun _ => fun
  | [d] => { results := [.lit (.bool true)], args := [d] }
  | _ => none }
def fnExactCountPassagesRow : OpenClaim := { program := "ytlhmedokpjkjpaa", sum := "4b56e52f0cb63a9668e3c4200a8e59d8bdfdb9a37fcc89f259c9b60b73999b16", func := "loop.example/g00990/laws.FnExactCountPassages", spec := "fnExactCountPassages", apart := false }
def FnExactCountPassagesSaid : Prop := fnExactCountPassagesRow.holds Try.pinned (OpenSpec.ofChange fnExactCountPassagesSpec)

/-- ITS FALSE NEIGHBOUR: 'it returns false'. Refute it at one input. -/
def fnExactCountPassagesWrong : ChangeSpec := { name := "fnExactCountPassages", fn := fun _ => fun
  | [d] => { results := [.lit (.bool false)], args := [d] }
  | _ => none }
def FnExactCountPassagesWrongFalsely : Prop := fnExactCountPassagesRow.holds Try.pinned (OpenSpec.ofChange fnExactCountPassagesWrong)

/-- 'laws.FnExactSetGap': WHATEVER THE INPUT: true; the input reads as it did. -/
def fnExactSetGapSpec : ChangeSpec := { name := "fnExactSetGap", fn := fun _ => fun
  | [d1, d2, d3] => { results := [.lit (.bool true)], args := [d1, d2, d3] }
  | _ => none }
def fnExactSetGapRow : OpenClaim := { program := "ytlhmedokpjkjpaa", sum := "4b56e52f0cb63a9668e3c4200a8e59d8bdfdb9a37fcc89f259c9b60b73999b16", func := "loop.example/g00990/laws.FnExactSetGap", spec := "fnExactSetGap", apart := false }
def FnExactSetGapSaid : Prop := fnExactSetGapRow.holds Try.pinned (OpenSpec.ofChange fnExactSetGapSpec)

/-- ITS FALSE NEIGHBOUR: 'it returns false'. Refute it at one input. -/
def fnExactSetGapWrong : ChangeSpec := { name := "fnExactSetGap", fn := fun _ => fun
  | [d1, d2, d3] => { results := [.lit (.bool false)], args := [d1, d2, d3] }
  | _ => none }
def FnExactSetGapWrongFalsely : Prop := fnExactSetGapRow.holds Try.pinned (OpenSpec.ofChange fnExactSetGapWrong)

/-- 'laws.FnExactFullMaze': WHATEVER THE INPUT: true; the input reads as it did. -/
def fnExactFullMazeSpec : ChangeSpec := { name := "fnExactFullMaze", fn := fun _ => fun
  | [d] => { results := [.lit (.bool true)], args := [d] }
  | _ => none }
def fnExactFullMazeRow : OpenClaim := { program := "ytlhmedokpjkjpaa", sum := "4b56e52f0cb63a9668e3c4200a8e59d8bdfdb9a37fcc89f259c9b60b73999b16", func := "loop.example/g00990/laws.FnExactFullMaze", spec := "fnExactFullMaze", apart := false }
def FnExactFullMazeSaid : Prop := fnExactFullMazeRow.holds Try.pinned (OpenSpec.ofChange fnExactFullMazeSpec)

/-- ITS FALSE NEIGHBOUR: 'it returns false'. Refute it at one input. -/
def fnExactFullMazeWrong : ChangeSpec := { name := "fnExactFullMaze", fn := fun _ => fun
  | [d] => { results := [.lit (.bool false)], args := [d] }
  | _ => none }
def FnExactFullMazeWrongFalsely : Prop := fnExactFullMazeRow.holds Try.pinned (OpenSpec.ofChange fnExactFullMazeWrong)

/- THE SECOND FORM. 'bulk': how many values and letters a reading holds, each counted each time it is reached (what is shared counts as often as it is met; a slice's spare places count too). A statement '..UptoSaid' is the law's where the arguments, and the package variables that the reading takes, are together of bulk at most 1048576: NARROWER than '..Said'. Prove '..Said' where nothing that the law and all that it calls make is longer than what came in: it says more and counts as full. Else prove '..UptoSaid'. A law counts once. -/
mutual
def uptoBulk {H : Type} : DataW H → Nat
  | .lit (.string bytes) => bytes.length + 1
  | .lit _ => 1
  | .nil => 1
  | .ptr d => uptoBulk d + 1
  | .slice elems spare => uptoBulkAll elems + uptoBulkAll spare + 1
  | .agg parts => uptoBulkAll parts + 1
  | .iface _ d => uptoBulk d + 1
  | .map entries => uptoBulkEntries entries + 1
  | .held _ => 1
def uptoBulkAll {H : Type} : List (DataW H) → Nat
  | [] => 0
  | d :: r => uptoBulk d + uptoBulkAll r
def uptoBulkEntries {H : Type} : List (Lit × DataW H) → Nat
  | [] => 0
  | x :: r => uptoBulkEntry x + uptoBulkEntries r
def uptoBulkEntry {H : Type} : Lit × DataW H → Nat
  | (.string bytes, d) => bytes.length + uptoBulk d + 1
  | (_, d) => uptoBulk d + 1
 end
def uptoSmall : (H : Type) → List (DataW H) → Bool := fun _ ds => decide (uptoBulkAll ds ≤ 1048576)
def OpenSpec.upto (s : _root_.Go.ChangeSpec) : _root_.Go.OpenSpec := { _root_.Go.OpenSpec.ofChange s with cond := some uptoSmall }

/-- 'laws.FnMazes', WHERE WHAT IT READS IS OF BULK AT MOST 1048576: true; the input reads as it did. -/
def fnMazesUptoRow : OpenClaim := { program := "ytlhmedokpjkjpaa", sum := "4b56e52f0cb63a9668e3c4200a8e59d8bdfdb9a37fcc89f259c9b60b73999b16", func := "loop.example/g00990/laws.FnMazes", spec := "fnMazes", apart := false, narrowed := true }
def FnMazesUptoSaid : Prop := fnMazesUptoRow.holds Try.pinned (OpenSpec.upto fnMazesSpec)

/-- 'laws.FnExactMazeOk', WHERE WHAT IT READS IS OF BULK AT MOST 1048576: true; the input reads as it did. -/
def fnExactMazeOkUptoRow : OpenClaim := { program := "ytlhmedokpjkjpaa", sum := "4b56e52f0cb63a9668e3c4200a8e59d8bdfdb9a37fcc89f259c9b60b73999b16", func := "loop.example/g00990/laws.FnExactMazeOk", spec := "fnExactMazeOk", apart := false, narrowed := true }
def FnExactMazeOkUptoSaid : Prop := fnExactMazeOkUptoRow.holds Try.pinned (OpenSpec.upto fnExactMazeOkSpec)

/-- 'laws.FnExactIsPassage', WHERE WHAT IT READS IS OF BULK AT MOST 1048576: true; the input reads as it did. -/
def fnExactIsPassageUptoRow : OpenClaim := { program := "ytlhmedokpjkjpaa", sum := "4b56e52f0cb63a9668e3c4200a8e59d8bdfdb9a37fcc89f259c9b60b73999b16", func := "loop.example/g00990/laws.FnExactIsPassage", spec := "fnExactIsPassage", apart := false, narrowed := true }
def FnExactIsPassageUptoSaid : Prop := fnExactIsPassageUptoRow.holds Try.pinned (OpenSpec.upto fnExactIsPassageSpec)

/-- 'laws.FnExactStep', WHERE WHAT IT READS IS OF BULK AT MOST 1048576: true; the input reads as it did. -/
def fnExactStepUptoRow : OpenClaim := { program := "ytlhmedokpjkjpaa", sum := "4b56e52f0cb63a9668e3c4200a8e59d8bdfdb9a37fcc89f259c9b60b73999b16", func := "loop.example/g00990/laws.FnExactStep", spec := "fnExactStep", apart := false, narrowed := true }
def FnExactStepUptoSaid : Prop := fnExactStepUptoRow.holds Try.pinned (OpenSpec.upto fnExactStepSpec)

/-- 'laws.FnExactWaysFrom', WHERE WHAT IT READS IS OF BULK AT MOST 1048576: true; the input reads as it did. -/
def fnExactWaysFromUptoRow : OpenClaim := { program := "ytlhmedokpjkjpaa", sum := "4b56e52f0cb63a9668e3c4200a8e59d8bdfdb9a37fcc89f259c9b60b73999b16", func := "loop.example/g00990/laws.FnExactWaysFrom", spec := "fnExactWaysFrom", apart := false, narrowed := true }
def FnExactWaysFromUptoSaid : Prop := fnExactWaysFromUptoRow.holds Try.pinned (OpenSpec.upto fnExactWaysFromSpec)

/-- 'laws.FnExactCountPassages', WHERE WHAT IT READS IS OF BULK AT MOST 1048576: true; the input reads as it did. -/
def fnExactCountPassagesUptoRow : OpenClaim := { program := "ytlhmedokpjkjpaa", sum := "4b56e52f0cb63a9668e3c4200a8e59d8bdfdb9a37fcc89f259c9b60b73999b16", func := "loop.example/g00990/laws.FnExactCountPassages", spec := "fnExactCountPassages", apart := false, narrowed := true }
def FnExactCountPassagesUptoSaid : Prop := fnExactCountPassagesUptoRow.holds Try.pinned (OpenSpec.upto fnExactCountPassagesSpec)

/-- 'laws.FnExactSetGap', WHERE WHAT IT READS IS OF BULK AT MOST 1048576: true; the input reads as it did. -/
def fnExactSetGapUptoRow : OpenClaim := { program := "ytlhmedokpjkjpaa", sum := "4b56e52f0cb63a9668e3c4200a8e59d8bdfdb9a37fcc89f259c9b60b73999b16", func := "loop.example/g00990/laws.FnExactSetGap", spec := "fnExactSetGap", apart := false, narrowed := true }
def FnExactSetGapUptoSaid : Prop := fnExactSetGapUptoRow.holds Try.pinned (OpenSpec.upto fnExactSetGapSpec)

/-- 'laws.FnExactFullMaze', WHERE WHAT IT READS IS OF BULK AT MOST 1048576: true; the input reads as it did. -/
def fnExactFullMazeUptoRow : OpenClaim := { program := "ytlhmedokpjkjpaa", sum := "4b56e52f0cb63a9668e3c4200a8e59d8bdfdb9a37fcc89f259c9b60b73999b16", func := "loop.example/g00990/laws.FnExactFullMaze", spec := "fnExactFullMaze", apart := false, narrowed := true }
def FnExactFullMazeUptoSaid : Prop := fnExactFullMazeUptoRow.holds Try.pinned (OpenSpec.upto fnExactFullMazeSpec)

end Rows
end Go.Proofs.Ytlhmedokpjkjpaa
