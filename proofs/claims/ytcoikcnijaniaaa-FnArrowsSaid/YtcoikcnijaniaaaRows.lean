/-
  No cell of these rows narrows 'for every input' (looked for: loops, veiled, ifaces, maps, wideKeys, modest, calm, conditions, laid).
  DERIVED. THE GIVEN ROWS OF THIS SEAT. 6 by the template 'for every input the law returns true; each argument reads behind the call as it read before'; 0 by the template 'total and deterministic' (their statements: YtcoikcnijaniaaaTotals.lean).
  GIVEN WITH THE SEED: the statements are not yours to turn. If you find one false, say at which input.
  Laid BY PROGRAM, IN A SANDBOX (cutbox-rows.mjs): the forced cells as the released guide's own fill.sh prints them over the translation 740a0343a8861eb6… (all of the seat's roots in one cut). By AI agents, Wed Nov 11 2026. No macro, syntax, notation, axiom, sorry.
-/
import Derived.Test.YtcoikcnijaniaaaChecked
import GoSem.Claim
import GoSem.ClaimJoined
import GoSem.ClaimMapViews
import Derived.JoinedTies
import Derived.KernelRfl
namespace Go.Proofs.Ytcoikcnijaniaaa
/- THE CELL 'sum', in the pinned program and in every row, IS THE sha256 OF THE DUMP (.gsa) THAT YtcoikcnijaniaaaProg.lean LOADS. Nothing in Lean hashes anything: it is a label: what it is worth is what the hold of that sum in a sandbox is worth. -/
noncomputable def Try.pinned : Pinned := { name := "ytcoikcnijaniaaa", sum := "740a0343a8861eb6d58dd93fc51988a6f4b80ca50f1e0a3ef50c612c0e7086d5", checked := Try.checked }
namespace Rows
def none {H : Type} : Left H := { results := [], args := [] }

/-- 'laws.FnDeadEnds': WHATEVER THE INPUT: true; the input reads as it did. -/
def fnDeadEndsSpec : ChangeSpec := { name := "fnDeadEnds", fn := fun _ => fun
  | [d] => { results := [.lit (.bool true)], args := [d] }
  | _ => none }
def fnDeadEndsRow : OpenClaim := { program := "ytcoikcnijaniaaa", sum := "740a0343a8861eb6d58dd93fc51988a6f4b80ca50f1e0a3ef50c612c0e7086d5", func := "loop.example/g00990/laws.FnDeadEnds", spec := "fnDeadEnds", unfollowed := true, recurses := true, apart := false }
def FnDeadEndsSaid : Prop := fnDeadEndsRow.holds Try.pinned (OpenSpec.ofChange fnDeadEndsSpec)

/-- ITS FALSE NEIGHBOUR: 'it returns false'. Refute it at one input. -/
def fnDeadEndsWrong : ChangeSpec := { name := "fnDeadEnds", fn := fun _ => fun
  | [d] => { results := [.lit (.bool false)], args := [d] }
  | _ => none }
def FnDeadEndsWrongFalsely : Prop := fnDeadEndsRow.holds Try.pinned (OpenSpec.ofChange fnDeadEndsWrong)

/-- 'laws.FnArrows': WHATEVER THE INPUT: true; the input reads as it did. -/
def fnArrowsSpec : ChangeSpec := { name := "fnArrows", fn := fun _ => fun
  | [d] => { results := [.lit (.bool true)], args := [d] }
  | _ => none }
def fnArrowsRow : OpenClaim := { program := "ytcoikcnijaniaaa", sum := "740a0343a8861eb6d58dd93fc51988a6f4b80ca50f1e0a3ef50c612c0e7086d5", func := "loop.example/g00990/laws.FnArrows", spec := "fnArrows", unfollowed := true, recurses := true, apart := false }
def FnArrowsSaid : Prop := fnArrowsRow.holds Try.pinned (OpenSpec.ofChange fnArrowsSpec)

/-- ITS FALSE NEIGHBOUR: 'it returns false'. Refute it at one input. -/
def fnArrowsWrong : ChangeSpec := { name := "fnArrows", fn := fun _ => fun
  | [d] => { results := [.lit (.bool false)], args := [d] }
  | _ => none }
def FnArrowsWrongFalsely : Prop := fnArrowsRow.holds Try.pinned (OpenSpec.ofChange fnArrowsWrong)

/-- 'laws.FnExactFillDeadEnds': WHATEVER THE INPUT: true; the input reads as it did. -/
def fnExactFillDeadEndsSpec : ChangeSpec := { name := "fnExactFillDeadEnds", fn := fun _ => fun
  | [d1, d2] => { results := [.lit (.bool true)], args := [d1, d2] }
  | _ => none }
def fnExactFillDeadEndsRow : OpenClaim := { program := "ytcoikcnijaniaaa", sum := "740a0343a8861eb6d58dd93fc51988a6f4b80ca50f1e0a3ef50c612c0e7086d5", func := "loop.example/g00990/laws.FnExactFillDeadEnds", spec := "fnExactFillDeadEnds", unfollowed := true, recurses := true, apart := false }
def FnExactFillDeadEndsSaid : Prop := fnExactFillDeadEndsRow.holds Try.pinned (OpenSpec.ofChange fnExactFillDeadEndsSpec)

/-- ITS FALSE NEIGHBOUR: 'it returns false'. Refute it at one input. -/
def fnExactFillDeadEndsWrong : ChangeSpec := { name := "fnExactFillDeadEnds", fn := fun _ => fun
  | [d1, d2] => { results := [.lit (.bool false)], args := [d1, d2] }
  | _ => none }
def FnExactFillDeadEndsWrongFalsely : Prop := fnExactFillDeadEndsRow.holds Try.pinned (OpenSpec.ofChange fnExactFillDeadEndsWrong)

/-- 'laws.FnExactArrowsOk': WHATEVER THE INPUT: true; the input reads as it did. -/
def fnExactArrowsOkSpec : ChangeSpec := { name := "fnExactArrowsOk", fn := fun _ => fun
  | [d1, d2] => { results := [.lit (.bool true)], args := [d1, d2] }
  | _ => none }
def fnExactArrowsOkRow : OpenClaim := { program := "ytcoikcnijaniaaa", sum := "740a0343a8861eb6d58dd93fc51988a6f4b80ca50f1e0a3ef50c612c0e7086d5", func := "loop.example/g00990/laws.FnExactArrowsOk", spec := "fnExactArrowsOk", apart := false }
def FnExactArrowsOkSaid : Prop := fnExactArrowsOkRow.holds Try.pinned (OpenSpec.ofChange fnExactArrowsOkSpec)

/-- ITS FALSE NEIGHBOUR: 'it returns false'. Refute it at one input. -/
def fnExactArrowsOkWrong : ChangeSpec := { name := "fnExactArrowsOk", fn := fun _ => fun
  | [d1, d2] => { results := [.lit (.bool false)], args := [d1, d2] }
  | _ => none }
def FnExactArrowsOkWrongFalsely : Prop := fnExactArrowsOkRow.holds Try.pinned (OpenSpec.ofChange fnExactArrowsOkWrong)

/-- 'laws.FnExactPopMaze': WHATEVER THE INPUT: true; the input reads as it did. -/
def fnExactPopMazeSpec : ChangeSpec := { name := "fnExactPopMaze", fn := fun _ => fun
  | [d1, d2, d3] => { results := [.lit (.bool true)], args := [d1, d2, d3] }
  | _ => none }
def fnExactPopMazeRow : OpenClaim := { program := "ytcoikcnijaniaaa", sum := "740a0343a8861eb6d58dd93fc51988a6f4b80ca50f1e0a3ef50c612c0e7086d5", func := "loop.example/g00990/laws.FnExactPopMaze", spec := "fnExactPopMaze", unfollowed := true, recurses := true, apart := false }
def FnExactPopMazeSaid : Prop := fnExactPopMazeRow.holds Try.pinned (OpenSpec.ofChange fnExactPopMazeSpec)

/-- ITS FALSE NEIGHBOUR: 'it returns false'. Refute it at one input. -/
def fnExactPopMazeWrong : ChangeSpec := { name := "fnExactPopMaze", fn := fun _ => fun
  | [d1, d2, d3] => { results := [.lit (.bool false)], args := [d1, d2, d3] }
  | _ => none }
def FnExactPopMazeWrongFalsely : Prop := fnExactPopMazeRow.holds Try.pinned (OpenSpec.ofChange fnExactPopMazeWrong)

/-- 'laws.FnExactArrowsUsed': WHATEVER THE INPUT: true; the input reads as it did. -/
def fnExactArrowsUsedSpec : ChangeSpec := { name := "fnExactArrowsUsed", fn := fun _ => fun
  | [d1, d2, d3] => { results := [.lit (.bool true)], args := [d1, d2, d3] }
  | _ => none }
def fnExactArrowsUsedRow : OpenClaim := { program := "ytcoikcnijaniaaa", sum := "740a0343a8861eb6d58dd93fc51988a6f4b80ca50f1e0a3ef50c612c0e7086d5", func := "loop.example/g00990/laws.FnExactArrowsUsed", spec := "fnExactArrowsUsed", unfollowed := true, recurses := true, apart := false }
def FnExactArrowsUsedSaid : Prop := fnExactArrowsUsedRow.holds Try.pinned (OpenSpec.ofChange fnExactArrowsUsedSpec)

/-- ITS FALSE NEIGHBOUR: 'it returns false'. Refute it at one input. -/
def fnExactArrowsUsedWrong : ChangeSpec := { name := "fnExactArrowsUsed", fn := fun _ => fun
  | [d1, d2, d3] => { results := [.lit (.bool false)], args := [d1, d2, d3] }
  | _ => none }
def FnExactArrowsUsedWrongFalsely : Prop := fnExactArrowsUsedRow.holds Try.pinned (OpenSpec.ofChange fnExactArrowsUsedWrong)

/- THE SECOND FORM. 'bulk': how many values and letters a reading holds, each counted each time it is reached (what is shared counts as often as it is met; a slice's spare places count too). A statement '..UptoSaid' is the law's where the arguments, and the package variables that the reading takes, are together of bulk at most 1048576: NARROWER than '..Said'. Prove '..Said' where nothing that the law and all that it calls make is longer than what came in: it says more and counts as full. Else prove '..UptoSaid'. A law counts once. -/
mutual
def uptoBulk {H : Type} : DataW H → Nat
  | .lit (.string bytes) => bytes.length + 1
  | .lit _ => 1
  | .nil => 1
  | .ptr d => uptoBulk d + 1
  | .slice elems spare => uptoBulkAll elems + uptoBulkAll spare + 1
  | .agg parts => uptoBulkAll parts + 1
  | .iface _ d => uptoBulk d + 1
  | .map entries => uptoBulkEntries entries + 1
  | .held _ => 1
def uptoBulkAll {H : Type} : List (DataW H) → Nat
  | [] => 0
  | d :: r => uptoBulk d + uptoBulkAll r
def uptoBulkEntries {H : Type} : List (Lit × DataW H) → Nat
  | [] => 0
  | x :: r => uptoBulkEntry x + uptoBulkEntries r
def uptoBulkEntry {H : Type} : Lit × DataW H → Nat
  | (.string bytes, d) => bytes.length + uptoBulk d + 1
  | (_, d) => uptoBulk d + 1
 end
def uptoSmall : (H : Type) → List (DataW H) → Bool := fun _ ds => decide (uptoBulkAll ds ≤ 1048576)
def OpenSpec.upto (s : _root_.Go.ChangeSpec) : _root_.Go.OpenSpec := { _root_.Go.OpenSpec.ofChange s with cond := some uptoSmall }

/-- 'laws.FnDeadEnds', WHERE WHAT IT READS IS OF BULK AT MOST 1048576: true; the input reads as it did. -/
def fnDeadEndsUptoRow : OpenClaim := { program := "ytcoikcnijaniaaa", sum := "740a0343a8861eb6d58dd93fc51988a6f4b80ca50f1e0a3ef50c612c0e7086d5", func := "loop.example/g00990/laws.FnDeadEnds", spec := "fnDeadEnds", unfollowed := true, recurses := true, apart := false, narrowed := true }
def FnDeadEndsUptoSaid : Prop := fnDeadEndsUptoRow.holds Try.pinned (OpenSpec.upto fnDeadEndsSpec)

/-- 'laws.FnArrows', WHERE WHAT IT READS IS OF BULK AT MOST 1048576: true; the input reads as it did. -/
def fnArrowsUptoRow : OpenClaim := { program := "ytcoikcnijaniaaa", sum := "740a0343a8861eb6d58dd93fc51988a6f4b80ca50f1e0a3ef50c612c0e7086d5", func := "loop.example/g00990/laws.FnArrows", spec := "fnArrows", unfollowed := true, recurses := true, apart := false, narrowed := true }
def FnArrowsUptoSaid : Prop := fnArrowsUptoRow.holds Try.pinned (OpenSpec.upto fnArrowsSpec)

/-- 'laws.FnExactFillDeadEnds', WHERE WHAT IT READS IS OF BULK AT MOST 1048576: true; the input reads as it did. -/
def fnExactFillDeadEndsUptoRow : OpenClaim := { program := "ytcoikcnijaniaaa", sum := "740a0343a8861eb6d58dd93fc51988a6f4b80ca50f1e0a3ef50c612c0e7086d5", func := "loop.example/g00990/laws.FnExactFillDeadEnds", spec := "fnExactFillDeadEnds", unfollowed := true, recurses := true, apart := false, narrowed := true }
def FnExactFillDeadEndsUptoSaid : Prop := fnExactFillDeadEndsUptoRow.holds Try.pinned (OpenSpec.upto fnExactFillDeadEndsSpec)

/-- 'laws.FnExactArrowsOk', WHERE WHAT IT READS IS OF BULK AT MOST 1048576: true; the input reads as it did. -/
def fnExactArrowsOkUptoRow : OpenClaim := { program := "ytcoikcnijaniaaa", sum := "740a0343a8861eb6d58dd93fc51988a6f4b80ca50f1e0a3ef50c612c0e7086d5", func := "loop.example/g00990/laws.FnExactArrowsOk", spec := "fnExactArrowsOk", apart := false, narrowed := true }
def FnExactArrowsOkUptoSaid : Prop := fnExactArrowsOkUptoRow.holds Try.pinned (OpenSpec.upto fnExactArrowsOkSpec)

/-- 'laws.FnExactPopMaze', WHERE WHAT IT READS IS OF BULK AT MOST 1048576: true; the input reads as it did. -/
def fnExactPopMazeUptoRow : OpenClaim := { program := "ytcoikcnijaniaaa", sum := "740a0343a8861eb6d58dd93fc51988a6f4b80ca50f1e0a3ef50c612c0e7086d5", func := "loop.example/g00990/laws.FnExactPopMaze", spec := "fnExactPopMaze", unfollowed := true, recurses := true, apart := false, narrowed := true }
def FnExactPopMazeUptoSaid : Prop := fnExactPopMazeUptoRow.holds Try.pinned (OpenSpec.upto fnExactPopMazeSpec)

/-- 'laws.FnExactArrowsUsed', WHERE WHAT IT READS IS OF BULK AT MOST 1048576: true; the input reads as it did. -/
def fnExactArrowsUsedUptoRow : OpenClaim := { program := "ytcoikcnijaniaaa", sum := "740a0343a8861eb6d58dd93fc51988a6f4b80ca50f1e0a3ef50c612c0e7086d5", func := "loop.example/g00990/laws.FnExactArrowsUsed", spec := "fnExactArrowsUsed", unfollowed := true, recurses := true, apart := false, narrowed := true }
def FnExactArrowsUsedUptoSaid : Prop := fnExactArrowsUsedUptoRow.holds Try.pinned (OpenSpec.upto fnExactArrowsUsedSpec)

end Rows
end Go.Proofs.Ytcoikcnijaniaaa
