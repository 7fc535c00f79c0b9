/-
  No cell of these rows narrows 'for every input' (looked for: loops, veiled, ifaces, maps, wideKeys, modest, calm, conditions, laid).
  DERIVED. THE GIVEN ROWS OF THIS SEAT. 5 by the template 'for every input the law returns true; each argument reads behind the call as it read before'; 0 by the template 'total and deterministic' (their statements: YtgocbnnhhpmndaaTotals.lean).
  GIVEN WITH THE SEED: the statements are not yours to turn. If you find one false, say at which input.
  Laid BY PROGRAM, IN A SANDBOX (cutbox-rows.mjs): the forced cells as the released guide's own fill.sh prints them over the translation 5814880618a436c6… (all of the seat's roots in one cut). By AI agents, Wed Nov 11 2026. No macro, syntax, notation, axiom, sorry.
-/
import Derived.Test.YtgocbnnhhpmndaaChecked
import GoSem.Claim
import GoSem.ClaimJoined
import GoSem.ClaimMapViews
import Derived.JoinedTies
import Derived.KernelRfl
namespace Go.Proofs.Ytgocbnnhhpmndaa
/- THE CELL 'sum', in the pinned program and in every row, IS THE sha256 OF THE DUMP (.gsa) THAT YtgocbnnhhpmndaaProg.lean LOADS. Nothing in Lean hashes anything: it is a label: what it is worth is what the hold of that sum in a sandbox is worth. -/
noncomputable def Try.pinned : Pinned := { name := "ytgocbnnhhpmndaa", sum := "5814880618a436c69b333f063e14eb7fd70835a90c7c0508767390c3692b2e03", checked := Try.checked }
namespace Rows
def none {H : Type} : Left H := { results := [], args := [] }

/-- 'laws.FnEntries': WHATEVER THE INPUT: true; the input reads as it did. -/
def fnEntriesSpec : ChangeSpec := { name := "fnEntries", fn := fun _ => fun
  | [d] => { results := [.lit (.bool true)], args := [d] }
  | _ => none }
def fnEntriesRow : OpenClaim := { program := "ytgocbnnhhpmndaa", sum := "5814880618a436c69b333f063e14eb7fd70835a90c7c0508767390c3692b2e03", func := "loop.example/g00990/laws.FnEntries", spec := "fnEntries", apart := false }
def FnEntriesSaid : Prop := fnEntriesRow.holds Try.pinned (OpenSpec.ofChange fnEntriesSpec)

/-- ITS FALSE NEIGHBOUR: 'it returns false'. Refute it at one input. -/
def fnEntriesWrong : ChangeSpec := { name := "fnEntries", fn := fun _ => fun
  | [d] => { results := [.lit (.bool false)], args := [d] }
  | _ => none }
def FnEntriesWrongFalsely : Prop := fnEntriesRow.holds Try.pinned (OpenSpec.ofChange fnEntriesWrong)

/-- 'laws.FnExactFirstEntryMaze': WHATEVER THE INPUT: true; the input reads as it did. -/
def fnExactFirstEntryMazeSpec : ChangeSpec := { name := "fnExactFirstEntryMaze", fn := fun _ => fun
  | [d1, d2, d3] => { results := [.lit (.bool true)], args := [d1, d2, d3] }
  | _ => none }
def fnExactFirstEntryMazeRow : OpenClaim := { program := "ytgocbnnhhpmndaa", sum := "5814880618a436c69b333f063e14eb7fd70835a90c7c0508767390c3692b2e03", func := "loop.example/g00990/laws.FnExactFirstEntryMaze", spec := "fnExactFirstEntryMaze", apart := false }
def FnExactFirstEntryMazeSaid : Prop := fnExactFirstEntryMazeRow.holds Try.pinned (OpenSpec.ofChange fnExactFirstEntryMazeSpec)

/-- ITS FALSE NEIGHBOUR: 'it returns false'. Refute it at one input. -/
def fnExactFirstEntryMazeWrong : ChangeSpec := { name := "fnExactFirstEntryMaze", fn := fun _ => fun
  | [d1, d2, d3] => { results := [.lit (.bool false)], args := [d1, d2, d3] }
  | _ => none }
def FnExactFirstEntryMazeWrongFalsely : Prop := fnExactFirstEntryMazeRow.holds Try.pinned (OpenSpec.ofChange fnExactFirstEntryMazeWrong)

/-- 'laws.FnExactLastExitMaze': WHATEVER THE INPUT: true; the input reads as it did. -/
def fnExactLastExitMazeSpec : ChangeSpec := { name := "fnExactLastExitMaze", fn := fun _ => fun
  | [d1, d2, d3] => { results := [.lit (.bool true)], args := [d1, d2, d3] }
  | _ => none }
def fnExactLastExitMazeRow : OpenClaim := { program := "ytgocbnnhhpmndaa", sum := "5814880618a436c69b333f063e14eb7fd70835a90c7c0508767390c3692b2e03", func := "loop.example/g00990/laws.FnExactLastExitMaze", spec := "fnExactLastExitMaze", apart := false }
def FnExactLastExitMazeSaid : Prop := fnExactLastExitMazeRow.holds Try.pinned (OpenSpec.ofChange fnExactLastExitMazeSpec)

/-- ITS FALSE NEIGHBOUR: 'it returns false'. Refute it at one input. -/
def fnExactLastExitMazeWrong : ChangeSpec := { name := "fnExactLastExitMaze", fn := fun _ => fun
  | [d1, d2, d3] => { results := [.lit (.bool false)], args := [d1, d2, d3] }
  | _ => none }
def FnExactLastExitMazeWrongFalsely : Prop := fnExactLastExitMazeRow.holds Try.pinned (OpenSpec.ofChange fnExactLastExitMazeWrong)

/-- 'laws.FnExactCoverTime': WHATEVER THE INPUT: true; the input reads as it did. -/
def fnExactCoverTimeSpec : ChangeSpec := { name := "fnExactCoverTime", fn := fun _ => fun
  | [d1, d2, d3] => { results := [.lit (.bool true)], args := [d1, d2, d3] }
  | _ => none }
def fnExactCoverTimeRow : OpenClaim := { program := "ytgocbnnhhpmndaa", sum := "5814880618a436c69b333f063e14eb7fd70835a90c7c0508767390c3692b2e03", func := "loop.example/g00990/laws.FnExactCoverTime", spec := "fnExactCoverTime", apart := false }
def FnExactCoverTimeSaid : Prop := fnExactCoverTimeRow.holds Try.pinned (OpenSpec.ofChange fnExactCoverTimeSpec)

/-- ITS FALSE NEIGHBOUR: 'it returns false'. Refute it at one input. -/
def fnExactCoverTimeWrong : ChangeSpec := { name := "fnExactCoverTime", fn := fun _ => fun
  | [d1, d2, d3] => { results := [.lit (.bool false)], args := [d1, d2, d3] }
  | _ => none }
def FnExactCoverTimeWrongFalsely : Prop := fnExactCoverTimeRow.holds Try.pinned (OpenSpec.ofChange fnExactCoverTimeWrong)

/-- 'laws.FnExactSnakeWay': WHATEVER THE INPUT: true; the input reads as it did. -/
def fnExactSnakeWaySpec : ChangeSpec := { name := "fnExactSnakeWay", fn := fun _ => fun
  | [d] => { results := [.lit (.bool true)], args := [d] }
  | _ => none }
def fnExactSnakeWayRow : OpenClaim := { program := "ytgocbnnhhpmndaa", sum := "5814880618a436c69b333f063e14eb7fd70835a90c7c0508767390c3692b2e03", func := "loop.example/g00990/laws.FnExactSnakeWay", spec := "fnExactSnakeWay", apart := false }
def FnExactSnakeWaySaid : Prop := fnExactSnakeWayRow.holds Try.pinned (OpenSpec.ofChange fnExactSnakeWaySpec)

/-- ITS FALSE NEIGHBOUR: 'it returns false'. Refute it at one input. -/
def fnExactSnakeWayWrong : ChangeSpec := { name := "fnExactSnakeWay", fn := fun _ => fun
  | [d] => { results := [.lit (.bool false)], args := [d] }
  | _ => none }
def FnExactSnakeWayWrongFalsely : Prop := fnExactSnakeWayRow.holds Try.pinned (OpenSpec.ofChange fnExactSnakeWayWrong)

/- THE SECOND FORM. 'bulk': how many values and letters a reading holds, each counted each time it is reached (what is shared counts as often as it is met; a slice's spare places count too). A statement '..UptoSaid' is the law's where the arguments, and the package variables that the reading takes, are together of bulk at most 1048576: NARROWER than '..Said'. Prove '..Said' where nothing that the law and all that it calls make is longer than what came in: it says more and counts as full. Else prove '..UptoSaid'. A law counts once. -/
mutual
def uptoBulk {H : Type} : DataW H → Nat
  | .lit (.string bytes) => bytes.length + 1
  | .lit _ => 1
  | .nil => 1
  | .ptr d => uptoBulk d + 1
  | .slice elems spare => uptoBulkAll elems + uptoBulkAll spare + 1
  | .agg parts => uptoBulkAll parts + 1
  | .iface _ d => uptoBulk d + 1
  | .map entries => uptoBulkEntries entries + 1
  | .held _ => 1
def uptoBulkAll {H : Type} : List (DataW H) → Nat
  | [] => 0
  | d :: r => uptoBulk d + uptoBulkAll r
def uptoBulkEntries {H : Type} : List (Lit × DataW H) → Nat
  | [] => 0
  | x :: r => uptoBulkEntry x + uptoBulkEntries r
def uptoBulkEntry {H : Type} : Lit × DataW H → Nat
  | (.string bytes, d) => bytes.length + uptoBulk d + 1
  | (_, d) => uptoBulk d + 1
 end
def uptoSmall : (H : Type) → List (DataW H) → Bool := fun _ ds => decide (uptoBulkAll ds ≤ 1048576)
def OpenSpec.upto (s : _root_.Go.ChangeSpec) : _root_.Go.OpenSpec := { _root_.Go.OpenSpec.ofChange s with cond := some uptoSmall }

/-- 'laws.FnEntries', WHERE WHAT IT READS IS OF BULK AT MOST 1048576: true; the input reads as it did. -/
def fnEntriesUptoRow : OpenClaim := { program := "ytgocbnnhhpmndaa", sum := "5814880618a436c69b333f063e14eb7fd70835a90c7c0508767390c3692b2e03", func := "loop.example/g00990/laws.FnEntries", spec := "fnEntries", apart := false, narrowed := true }
def FnEntriesUptoSaid : Prop := fnEntriesUptoRow.holds Try.pinned (OpenSpec.upto fnEntriesSpec)

/-- 'laws.FnExactFirstEntryMaze', WHERE WHAT IT READS IS OF BULK AT MOST 1048576: true; the input reads as it did. -/
def fnExactFirstEntryMazeUptoRow : OpenClaim := { program := "ytgocbnnhhpmndaa", sum := "5814880618a436c69b333f063e14eb7fd70835a90c7c0508767390c3692b2e03", func := "loop.example/g00990/laws.FnExactFirstEntryMaze", spec := "fnExactFirstEntryMaze", apart := false, narrowed := true }
def FnExactFirstEntryMazeUptoSaid : Prop := fnExactFirstEntryMazeUptoRow.holds Try.pinned (OpenSpec.upto fnExactFirstEntryMazeSpec)

/-- 'laws.FnExactLastExitMaze', WHERE WHAT IT READS IS OF BULK AT MOST 1048576: true; the input reads as it did. -/
def fnExactLastExitMazeUptoRow : OpenClaim := { program := "ytgocbnnhhpmndaa", sum := "5814880618a436c69b333f063e14eb7fd70835a90c7c0508767390c3692b2e03", func := "loop.example/g00990/laws.FnExactLastExitMaze", spec := "fnExactLastExitMaze", apart := false, narrowed := true }
def FnExactLastExitMazeUptoSaid : Prop := fnExactLastExitMazeUptoRow.holds Try.pinned (OpenSpec.upto fnExactLastExitMazeSpec)

/-- 'laws.FnExactCoverTime', WHERE WHAT IT READS IS OF BULK AT MOST 1048576: true; the input reads as it did. -/
def fnExactCoverTimeUptoRow : OpenClaim := { program := "ytgocbnnhhpmndaa", sum := "5814880618a436c69b333f063e14eb7fd70835a90c7c0508767390c3692b2e03", func := "loop.example/g00990/laws.FnExactCoverTime", spec := "fnExactCoverTime", apart := false, narrowed := true }
def FnExactCoverTimeUptoSaid : Prop := fnExactCoverTimeUptoRow.holds Try.pinned (OpenSpec.upto fnExactCoverTimeSpec)

/-- 'laws.FnExactSnakeWay', WHERE WHAT IT READS IS OF BULK AT MOST 1048576: true; the input reads as it did. -/
def fnExactSnakeWayUptoRow : OpenClaim := { program := "ytgocbnnhhpmndaa", sum := "5814880618a436c69b333f063e14eb7fd70835a90c7c0508767390c3692b2e03", func := "loop.example/g00990/laws.FnExactSnakeWay", spec := "fnExactSnakeWay", apart := false, narrowed := true }
def FnExactSnakeWayUptoSaid : Prop := fnExactSnakeWayUptoRow.holds Try.pinned (OpenSpec.upto fnExactSnakeWaySpec)

end Rows
end Go.Proofs.Ytgocbnnhhpmndaa
