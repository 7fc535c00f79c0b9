/-
  No cell of these rows narrows 'for every input' (looked for: loops, veiled, ifaces, maps, wideKeys, modest, calm, conditions, laid).
  DERIVED. THE GIVEN ROWS OF THIS SEAT. 7 by the template 'for every input the law returns true; each argument reads behind the call as it read before'; 0 by the template 'total and deterministic' (their statements: YtcangdidglfcjaaTotals.lean).
  GIVEN WITH THE SEED: the statements are not yours to turn. If you find one false, say at which input.
  Laid BY PROGRAM, IN A SANDBOX (cutbox-rows.mjs): the forced cells as the released guide's own fill.sh prints them over the translation 073c5638b905ed29… (all of the seat's roots in one cut). By AI agents, Wed Nov 11 2026. No macro, syntax, notation, axiom, sorry.
-/
import Derived.Test.YtcangdidglfcjaaChecked
import GoSem.Claim
import GoSem.ClaimJoined
import GoSem.ClaimMapViews
import Derived.JoinedTies
import Derived.KernelRfl
namespace Go.Proofs.Ytcangdidglfcjaa
/- THE CELL 'sum', in the pinned program and in every row, IS THE sha256 OF THE DUMP (.gsa) THAT YtcangdidglfcjaaProg.lean LOADS. Nothing in Lean hashes anything: it is a label: what it is worth is what the hold of that sum in a sandbox is worth. -/
noncomputable def Try.pinned : Pinned := { name := "ytcangdidglfcjaa", sum := "073c5638b905ed29b80996b8a1980372807199a8dd9537de2d81f19616c94394", checked := Try.checked }
namespace Rows
def none {H : Type} : Left H := { results := [], args := [] }

/-- 'laws.FnPerfects': WHATEVER THE INPUT: true; the input reads as it did. -/
def fnPerfectsSpec : ChangeSpec := { name := "fnPerfects", fn := fun _ => fun
  | [d] => { results := [.lit (.bool true)], args := [d] }
  | _ => none }
def fnPerfectsRow : OpenClaim := { program := "ytcangdidglfcjaa", sum := "073c5638b905ed29b80996b8a1980372807199a8dd9537de2d81f19616c94394", func := "loop.example/g00990/laws.FnPerfects", spec := "fnPerfects", apart := false }
def FnPerfectsSaid : Prop := fnPerfectsRow.holds Try.pinned (OpenSpec.ofChange fnPerfectsSpec)

/-- ITS FALSE NEIGHBOUR: 'it returns false'. Refute it at one input. -/
def fnPerfectsWrong : ChangeSpec := { name := "fnPerfects", fn := fun _ => fun
  | [d] => { results := [.lit (.bool false)], args := [d] }
  | _ => none }
def FnPerfectsWrongFalsely : Prop := fnPerfectsRow.holds Try.pinned (OpenSpec.ofChange fnPerfectsWrong)

/-- 'laws.FnKruskals': WHATEVER THE INPUT: true; the input reads as it did. -/
def fnKruskalsSpec : ChangeSpec := { name := "fnKruskals", fn := fun _ => fun
  | [d] => { results := [.lit (.bool true)], args := [d] }
  | _ => none }
def fnKruskalsRow : OpenClaim := { program := "ytcangdidglfcjaa", sum := "073c5638b905ed29b80996b8a1980372807199a8dd9537de2d81f19616c94394", func := "loop.example/g00990/laws.FnKruskals", spec := "fnKruskals", apart := false }
def FnKruskalsSaid : Prop := fnKruskalsRow.holds Try.pinned (OpenSpec.ofChange fnKruskalsSpec)

/-- ITS FALSE NEIGHBOUR: 'it returns false'. Refute it at one input. -/
def fnKruskalsWrong : ChangeSpec := { name := "fnKruskals", fn := fun _ => fun
  | [d] => { results := [.lit (.bool false)], args := [d] }
  | _ => none }
def FnKruskalsWrongFalsely : Prop := fnKruskalsRow.holds Try.pinned (OpenSpec.ofChange fnKruskalsWrong)

/-- 'laws.FnExactIsPerfect': WHATEVER THE INPUT: true; the input reads as it did. -/
def fnExactIsPerfectSpec : ChangeSpec := { name := "fnExactIsPerfect", fn := fun _ => fun
  | [d] => { results := [.lit (.bool true)], args := [d] }
  | _ => none }
def fnExactIsPerfectRow : OpenClaim := { program := "ytcangdidglfcjaa", sum := "073c5638b905ed29b80996b8a1980372807199a8dd9537de2d81f19616c94394", func := "loop.example/g00990/laws.FnExactIsPerfect", spec := "fnExactIsPerfect", apart := false }
def FnExactIsPerfectSaid : Prop := fnExactIsPerfectRow.holds Try.pinned (OpenSpec.ofChange fnExactIsPerfectSpec)

/-- ITS FALSE NEIGHBOUR: 'it returns false'. Refute it at one input. -/
def fnExactIsPerfectWrong : ChangeSpec := { name := "fnExactIsPerfect", fn := fun _ => fun
  | [d] => { results := [.lit (.bool false)], args := [d] }
  | _ => none }
def FnExactIsPerfectWrongFalsely : Prop := fnExactIsPerfectRow.holds Try.pinned (OpenSpec.ofChange fnExactIsPerfectWrong)

/-- 'laws.FnExactCountLoops': WHATEVER THE INPUT: true; the input reads as it did. -/
def fnExactCountLoopsSpec : ChangeSpec := { name := "fnExactCountLoops", fn := fun _ => fun
  | [d] => { results := [.lit (.bool true)], args := [d] }
  | _ => none }
def fnExactCountLoopsRow : OpenClaim := { program := "ytcangdidglfcjaa", sum := "073c5638b905ed29b80996b8a1980372807199a8dd9537de2d81f19616c94394", func := "loop.example/g00990/laws.FnExactCountLoops", spec := "fnExactCountLoops", apart := false }
def FnExactCountLoopsSaid : Prop := fnExactCountLoopsRow.holds Try.pinned (OpenSpec.ofChange fnExactCountLoopsSpec)

/-- ITS FALSE NEIGHBOUR: 'it returns false'. Refute it at one input. -/
def fnExactCountLoopsWrong : ChangeSpec := { name := "fnExactCountLoops", fn := fun _ => fun
  | [d] => { results := [.lit (.bool false)], args := [d] }
  | _ => none }
def FnExactCountLoopsWrongFalsely : Prop := fnExactCountLoopsRow.holds Try.pinned (OpenSpec.ofChange fnExactCountLoopsWrong)

/-- 'laws.FnExactWouldJoin': WHATEVER THE INPUT: true; the input reads as it did. -/
def fnExactWouldJoinSpec : ChangeSpec := { name := "fnExactWouldJoin", fn := fun _ => fun
  | [d1, d2] => { results := [.lit (.bool true)], args := [d1, d2] }
  | _ => none }
def fnExactWouldJoinRow : OpenClaim := { program := "ytcangdidglfcjaa", sum := "073c5638b905ed29b80996b8a1980372807199a8dd9537de2d81f19616c94394", func := "loop.example/g00990/laws.FnExactWouldJoin", spec := "fnExactWouldJoin", apart := false }
def FnExactWouldJoinSaid : Prop := fnExactWouldJoinRow.holds Try.pinned (OpenSpec.ofChange fnExactWouldJoinSpec)

/-- ITS FALSE NEIGHBOUR: 'it returns false'. Refute it at one input. -/
def fnExactWouldJoinWrong : ChangeSpec := { name := "fnExactWouldJoin", fn := fun _ => fun
  | [d1, d2] => { results := [.lit (.bool false)], args := [d1, d2] }
  | _ => none }
def FnExactWouldJoinWrongFalsely : Prop := fnExactWouldJoinRow.holds Try.pinned (OpenSpec.ofChange fnExactWouldJoinWrong)

/-- 'laws.FnExactIsBridge': WHATEVER THE INPUT: true; the input reads as it did. -/
def fnExactIsBridgeSpec : ChangeSpec := { name := "fnExactIsBridge", fn := fun _ => fun
  | [d1, d2] => { results := [.lit (.bool true)], args := [d1, d2] }
  | _ => none }
def fnExactIsBridgeRow : OpenClaim := { program := "ytcangdidglfcjaa", sum := "073c5638b905ed29b80996b8a1980372807199a8dd9537de2d81f19616c94394", func := "loop.example/g00990/laws.FnExactIsBridge", spec := "fnExactIsBridge", apart := false }
def FnExactIsBridgeSaid : Prop := fnExactIsBridgeRow.holds Try.pinned (OpenSpec.ofChange fnExactIsBridgeSpec)

/-- ITS FALSE NEIGHBOUR: 'it returns false'. Refute it at one input. -/
def fnExactIsBridgeWrong : ChangeSpec := { name := "fnExactIsBridge", fn := fun _ => fun
  | [d1, d2] => { results := [.lit (.bool false)], args := [d1, d2] }
  | _ => none }
def FnExactIsBridgeWrongFalsely : Prop := fnExactIsBridgeRow.holds Try.pinned (OpenSpec.ofChange fnExactIsBridgeWrong)

/-- 'laws.FnExactKruskalMaze': WHATEVER THE INPUT: true; the input reads as it did. -/
def fnExactKruskalMazeSpec : ChangeSpec := { name := "fnExactKruskalMaze", fn := fun _ => fun
  | [d1, d2] => { results := [.lit (.bool true)], args := [d1, d2] }
  | _ => none }
def fnExactKruskalMazeRow : OpenClaim := { program := "ytcangdidglfcjaa", sum := "073c5638b905ed29b80996b8a1980372807199a8dd9537de2d81f19616c94394", func := "loop.example/g00990/laws.FnExactKruskalMaze", spec := "fnExactKruskalMaze", apart := false }
def FnExactKruskalMazeSaid : Prop := fnExactKruskalMazeRow.holds Try.pinned (OpenSpec.ofChange fnExactKruskalMazeSpec)

/-- ITS FALSE NEIGHBOUR: 'it returns false'. Refute it at one input. -/
def fnExactKruskalMazeWrong : ChangeSpec := { name := "fnExactKruskalMaze", fn := fun _ => fun
  | [d1, d2] => { results := [.lit (.bool false)], args := [d1, d2] }
  | _ => none }
def FnExactKruskalMazeWrongFalsely : Prop := fnExactKruskalMazeRow.holds Try.pinned (OpenSpec.ofChange fnExactKruskalMazeWrong)

/- THE SECOND FORM. 'bulk': how many values and letters a reading holds, each counted each time it is reached (what is shared counts as often as it is met; a slice's spare places count too). A statement '..UptoSaid' is the law's where the arguments, and the package variables that the reading takes, are together of bulk at most 1048576: NARROWER than '..Said'. Prove '..Said' where nothing that the law and all that it calls make is longer than what came in: it says more and counts as full. Else prove '..UptoSaid'. A law counts once. -/
mutual
def uptoBulk {H : Type} : DataW H → Nat
  | .lit (.string bytes) => bytes.length + 1
  | .lit _ => 1
  | .nil => 1
  | .ptr d => uptoBulk d + 1
  | .slice elems spare => uptoBulkAll elems + uptoBulkAll spare + 1
  | .agg parts => uptoBulkAll parts + 1
  | .iface _ d => uptoBulk d + 1
  | .map entries => uptoBulkEntries entries + 1
  | .held _ => 1
def uptoBulkAll {H : Type} : List (DataW H) → Nat
  | [] => 0
  | d :: r => uptoBulk d + uptoBulkAll r
def uptoBulkEntries {H : Type} : List (Lit × DataW H) → Nat
  | [] => 0
  | x :: r => uptoBulkEntry x + uptoBulkEntries r
def uptoBulkEntry {H : Type} : Lit × DataW H → Nat
  | (.string bytes, d) => bytes.length + uptoBulk d + 1
  | (_, d) => uptoBulk d + 1
 end
def uptoSmall : (H : Type) → List (DataW H) → Bool := fun _ ds => decide (uptoBulkAll ds ≤ 1048576)
def OpenSpec.upto (s : _root_.Go.ChangeSpec) : _root_.Go.OpenSpec := { _root_.Go.OpenSpec.ofChange s with cond := some uptoSmall }

/-- 'laws.FnPerfects', WHERE WHAT IT READS IS OF BULK AT MOST 1048576: true; the input reads as it did. -/
def fnPerfectsUptoRow : OpenClaim := { program := "ytcangdidglfcjaa", sum := "073c5638b905ed29b80996b8a1980372807199a8dd9537de2d81f19616c94394", func := "loop.example/g00990/laws.FnPerfects", spec := "fnPerfects", apart := false, narrowed := true }
def FnPerfectsUptoSaid : Prop := fnPerfectsUptoRow.holds Try.pinned (OpenSpec.upto fnPerfectsSpec)

/-- 'laws.FnKruskals', WHERE WHAT IT READS IS OF BULK AT MOST 1048576: true; the input reads as it did. -/
def fnKruskalsUptoRow : OpenClaim := { program := "ytcangdidglfcjaa", sum := "073c5638b905ed29b80996b8a1980372807199a8dd9537de2d81f19616c94394", func := "loop.example/g00990/laws.FnKruskals", spec := "fnKruskals", apart := false, narrowed := true }
def FnKruskalsUptoSaid : Prop := fnKruskalsUptoRow.holds Try.pinned (OpenSpec.upto fnKruskalsSpec)

/-- 'laws.FnExactIsPerfect', WHERE WHAT IT READS IS OF BULK AT MOST 1048576: true; the input reads as it did. -/
def fnExactIsPerfectUptoRow : OpenClaim := { program := "ytcangdidglfcjaa", sum := "073c5638b905ed29b80996b8a1980372807199a8dd9537de2d81f19616c94394", func := "loop.example/g00990/laws.FnExactIsPerfect", spec := "fnExactIsPerfect", apart := false, narrowed := true }
def FnExactIsPerfectUptoSaid : Prop := fnExactIsPerfectUptoRow.holds Try.pinned (OpenSpec.upto fnExactIsPerfectSpec)

/-- 'laws.FnExactCountLoops', WHERE WHAT IT READS IS OF BULK AT MOST 1048576: true; the input reads as it did. -/
def fnExactCountLoopsUptoRow : OpenClaim := { program := "ytcangdidglfcjaa", sum := "073c5638b905ed29b80996b8a1980372807199a8dd9537de2d81f19616c94394", func := "loop.example/g00990/laws.FnExactCountLoops", spec := "fnExactCountLoops", apart := false, narrowed := true }
def FnExactCountLoopsUptoSaid : Prop := fnExactCountLoopsUptoRow.holds Try.pinned (OpenSpec.upto fnExactCountLoopsSpec)

/-- 'laws.FnExactWouldJoin', WHERE WHAT IT READS IS OF BULK AT MOST 1048576: true; the input reads as it did. -/
def fnExactWouldJoinUptoRow : OpenClaim := { program := "ytcangdidglfcjaa", sum := "073c5638b905ed29b80996b8a1980372807199a8dd9537de2d81f19616c94394", func := "loop.example/g00990/laws.FnExactWouldJoin", spec := "fnExactWouldJoin", apart := false, narrowed := true }
def FnExactWouldJoinUptoSaid : Prop := fnExactWouldJoinUptoRow.holds Try.pinned (OpenSpec.upto fnExactWouldJoinSpec)

/-- 'laws.FnExactIsBridge', WHERE WHAT IT READS IS OF BULK AT MOST 1048576: true; the input reads as it did. -/
def fnExactIsBridgeUptoRow : OpenClaim := { program := "ytcangdidglfcjaa", sum := "073c5638b905ed29b80996b8a1980372807199a8dd9537de2d81f19616c94394", func := "loop.example/g00990/laws.FnExactIsBridge", spec := "fnExactIsBridge", apart := false, narrowed := true }
def FnExactIsBridgeUptoSaid : Prop := fnExactIsBridgeUptoRow.holds Try.pinned (OpenSpec.upto fnExactIsBridgeSpec)

/-- 'laws.FnExactKruskalMaze', WHERE WHAT IT READS IS OF BULK AT MOST 1048576: true; the input reads as it did. -/
def fnExactKruskalMazeUptoRow : OpenClaim := { program := "ytcangdidglfcjaa", sum := "073c5638b905ed29b80996b8a1980372807199a8dd9537de2d81f19616c94394", func := "loop.example/g00990/laws.FnExactKruskalMaze", spec := "fnExactKruskalMaze", apart := false, narrowed := true }
def FnExactKruskalMazeUptoSaid : Prop := fnExactKruskalMazeUptoRow.holds Try.pinned (OpenSpec.upto fnExactKruskalMazeSpec)

end Rows
end Go.Proofs.Ytcangdidglfcjaa
