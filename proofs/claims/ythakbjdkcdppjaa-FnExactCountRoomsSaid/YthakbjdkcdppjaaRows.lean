/-
  No cell of these rows narrows 'for every input' (looked for: loops, veiled, ifaces, maps, wideKeys, modest, calm, conditions, laid).
  DERIVED. THE GIVEN ROWS OF THIS SEAT. 4 by the template 'for every input the law returns true; each argument reads behind the call as it read before'; 0 by the template 'total and deterministic' (their statements: YthakbjdkcdppjaaTotals.lean).
  GIVEN WITH THE SEED: the statements are not yours to turn. If you find one false, say at which input.
  Laid BY PROGRAM, IN A SANDBOX (cutbox-rows.mjs): the forced cells as the released guide's own fill.sh prints them over the translation c1e42eafbb945d58… (all of the seat's roots in one cut). By AI agents, Wed Nov 11 2026. No macro, syntax, notation, axiom, sorry.
-/
import Derived.Test.YthakbjdkcdppjaaChecked
import GoSem.Claim
import GoSem.ClaimJoined
import GoSem.ClaimMapViews
import Derived.JoinedTies
import Derived.KernelRfl
namespace Go.Proofs.Ythakbjdkcdppjaa
/- THE CELL 'sum', in the pinned program and in every row, IS THE sha256 OF THE DUMP (.gsa) THAT YthakbjdkcdppjaaProg.lean LOADS. Nothing in Lean hashes anything: it is a label: what it is worth is what the hold of that sum in a sandbox is worth. -/
noncomputable def Try.pinned : Pinned := { name := "ythakbjdkcdppjaa", sum := "c1e42eafbb945d586173282c7b99d4a153ed6d91c85235294640e7f6316ac2af", checked := Try.checked }
namespace Rows
def none {H : Type} : Left H := { results := [], args := [] }

/-- 'laws.FnGrown': WHATEVER THE INPUT: true; the input reads as it did. -/
def fnGrownSpec : ChangeSpec := { name := "fnGrown", fn := fun _ => fun
  | [d] => { results := [.lit (.bool true)], args := [d] }
  | _ => none }
def fnGrownRow : OpenClaim := { program := "ythakbjdkcdppjaa", sum := "c1e42eafbb945d586173282c7b99d4a153ed6d91c85235294640e7f6316ac2af", func := "loop.example/g00990/laws.FnGrown", spec := "fnGrown", recurses := true, apart := false }
def FnGrownSaid : Prop := fnGrownRow.holds Try.pinned (OpenSpec.ofChange fnGrownSpec)

/-- ITS FALSE NEIGHBOUR: 'it returns false'. Refute it at one input. -/
def fnGrownWrong : ChangeSpec := { name := "fnGrown", fn := fun _ => fun
  | [d] => { results := [.lit (.bool false)], args := [d] }
  | _ => none }
def FnGrownWrongFalsely : Prop := fnGrownRow.holds Try.pinned (OpenSpec.ofChange fnGrownWrong)

/-- 'laws.FnExactGrowMaze': WHATEVER THE INPUT: true; the input reads as it did. -/
def fnExactGrowMazeSpec : ChangeSpec := { name := "fnExactGrowMaze", fn := fun _ => fun
  | [d1, d2] => { results := [.lit (.bool true)], args := [d1, d2] }
  | _ => none }
def fnExactGrowMazeRow : OpenClaim := { program := "ythakbjdkcdppjaa", sum := "c1e42eafbb945d586173282c7b99d4a153ed6d91c85235294640e7f6316ac2af", func := "loop.example/g00990/laws.FnExactGrowMaze", spec := "fnExactGrowMaze", apart := false }
def FnExactGrowMazeSaid : Prop := fnExactGrowMazeRow.holds Try.pinned (OpenSpec.ofChange fnExactGrowMazeSpec)

/-- ITS FALSE NEIGHBOUR: 'it returns false'. Refute it at one input. -/
def fnExactGrowMazeWrong : ChangeSpec := { name := "fnExactGrowMaze", fn := fun _ => fun
  | [d1, d2] => { results := [.lit (.bool false)], args := [d1, d2] }
  | _ => none }
def FnExactGrowMazeWrongFalsely : Prop := fnExactGrowMazeRow.holds Try.pinned (OpenSpec.ofChange fnExactGrowMazeWrong)

/-- 'laws.FnExactDivideMaze': WHATEVER THE INPUT: true; the input reads as it did. -/
def fnExactDivideMazeSpec : ChangeSpec := { name := "fnExactDivideMaze", fn := fun _ => fun
  | [d1, d2] => { results := [.lit (.bool true)], args := [d1, d2] }
  | _ => none }
def fnExactDivideMazeRow : OpenClaim := { program := "ythakbjdkcdppjaa", sum := "c1e42eafbb945d586173282c7b99d4a153ed6d91c85235294640e7f6316ac2af", func := "loop.example/g00990/laws.FnExactDivideMaze", spec := "fnExactDivideMaze", recurses := true, apart := false }
def FnExactDivideMazeSaid : Prop := fnExactDivideMazeRow.holds Try.pinned (OpenSpec.ofChange fnExactDivideMazeSpec)

/-- ITS FALSE NEIGHBOUR: 'it returns false'. Refute it at one input. -/
def fnExactDivideMazeWrong : ChangeSpec := { name := "fnExactDivideMaze", fn := fun _ => fun
  | [d1, d2] => { results := [.lit (.bool false)], args := [d1, d2] }
  | _ => none }
def FnExactDivideMazeWrongFalsely : Prop := fnExactDivideMazeRow.holds Try.pinned (OpenSpec.ofChange fnExactDivideMazeWrong)

/-- 'laws.FnExactCountRooms': WHATEVER THE INPUT: true; the input reads as it did. -/
def fnExactCountRoomsSpec : ChangeSpec := { name := "fnExactCountRooms", fn := fun _ => fun
  | [d] => { results := [.lit (.bool true)], args := [d] }
  | _ => none }
def fnExactCountRoomsRow : OpenClaim := { program := "ythakbjdkcdppjaa", sum := "c1e42eafbb945d586173282c7b99d4a153ed6d91c85235294640e7f6316ac2af", func := "loop.example/g00990/laws.FnExactCountRooms", spec := "fnExactCountRooms", recurses := true, apart := false }
def FnExactCountRoomsSaid : Prop := fnExactCountRoomsRow.holds Try.pinned (OpenSpec.ofChange fnExactCountRoomsSpec)

/-- ITS FALSE NEIGHBOUR: 'it returns false'. Refute it at one input. -/
def fnExactCountRoomsWrong : ChangeSpec := { name := "fnExactCountRooms", fn := fun _ => fun
  | [d] => { results := [.lit (.bool false)], args := [d] }
  | _ => none }
def FnExactCountRoomsWrongFalsely : Prop := fnExactCountRoomsRow.holds Try.pinned (OpenSpec.ofChange fnExactCountRoomsWrong)

/- THE SECOND FORM. 'bulk': how many values and letters a reading holds, each counted each time it is reached (what is shared counts as often as it is met; a slice's spare places count too). A statement '..UptoSaid' is the law's where the arguments, and the package variables that the reading takes, are together of bulk at most 1048576: NARROWER than '..Said'. Prove '..Said' where nothing that the law and all that it calls make is longer than what came in: it says more and counts as full. Else prove '..UptoSaid'. A law counts once. -/
mutual
def uptoBulk {H : Type} : DataW H → Nat
  | .lit (.string bytes) => bytes.length + 1
  | .lit _ => 1
  | .nil => 1
  | .ptr d => uptoBulk d + 1
  | .slice elems spare => uptoBulkAll elems + uptoBulkAll spare + 1
  | .agg parts => uptoBulkAll parts + 1
  | .iface _ d => uptoBulk d + 1
  | .map entries => uptoBulkEntries entries + 1
  | .held _ => 1
def uptoBulkAll {H : Type} : List (DataW H) → Nat
  | [] => 0
  | d :: r => uptoBulk d + uptoBulkAll r
def uptoBulkEntries {H : Type} : List (Lit × DataW H) → Nat
  | [] => 0
  | x :: r => uptoBulkEntry x + uptoBulkEntries r
def uptoBulkEntry {H : Type} : Lit × DataW H → Nat
  | (.string bytes, d) => bytes.length + uptoBulk d + 1
  | (_, d) => uptoBulk d + 1
 end
def uptoSmall : (H : Type) → List (DataW H) → Bool := fun _ ds => decide (uptoBulkAll ds ≤ 1048576)
def OpenSpec.upto (s : _root_.Go.ChangeSpec) : _root_.Go.OpenSpec := { _root_.Go.OpenSpec.ofChange s with cond := some uptoSmall }

/-- 'laws.FnGrown', WHERE WHAT IT READS IS OF BULK AT MOST 1048576: true; the input reads as it did. -/
def fnGrownUptoRow : OpenClaim := { program := "ythakbjdkcdppjaa", sum := "c1e42eafbb945d586173282c7b99d4a153ed6d91c85235294640e7f6316ac2af", func := "loop.example/g00990/laws.FnGrown", spec := "fnGrown", recurses := true, apart := false, narrowed := true }
def FnGrownUptoSaid : Prop := fnGrownUptoRow.holds Try.pinned (OpenSpec.upto fnGrownSpec)

/-- 'laws.FnExactGrowMaze', WHERE WHAT IT READS IS OF BULK AT MOST 1048576: true; the input reads as it did. -/
def fnExactGrowMazeUptoRow : OpenClaim := { program := "ythakbjdkcdppjaa", sum := "c1e42eafbb945d586173282c7b99d4a153ed6d91c85235294640e7f6316ac2af", func := "loop.example/g00990/laws.FnExactGrowMaze", spec := "fnExactGrowMaze", apart := false, narrowed := true }
def FnExactGrowMazeUptoSaid : Prop := fnExactGrowMazeUptoRow.holds Try.pinned (OpenSpec.upto fnExactGrowMazeSpec)

/-- 'laws.FnExactDivideMaze', WHERE WHAT IT READS IS OF BULK AT MOST 1048576: true; the input reads as it did. -/
def fnExactDivideMazeUptoRow : OpenClaim := { program := "ythakbjdkcdppjaa", sum := "c1e42eafbb945d586173282c7b99d4a153ed6d91c85235294640e7f6316ac2af", func := "loop.example/g00990/laws.FnExactDivideMaze", spec := "fnExactDivideMaze", recurses := true, apart := false, narrowed := true }
def FnExactDivideMazeUptoSaid : Prop := fnExactDivideMazeUptoRow.holds Try.pinned (OpenSpec.upto fnExactDivideMazeSpec)

/-- 'laws.FnExactCountRooms', WHERE WHAT IT READS IS OF BULK AT MOST 1048576: true; the input reads as it did. -/
def fnExactCountRoomsUptoRow : OpenClaim := { program := "ythakbjdkcdppjaa", sum := "c1e42eafbb945d586173282c7b99d4a153ed6d91c85235294640e7f6316ac2af", func := "loop.example/g00990/laws.FnExactCountRooms", spec := "fnExactCountRooms", recurses := true, apart := false, narrowed := true }
def FnExactCountRoomsUptoSaid : Prop := fnExactCountRoomsUptoRow.holds Try.pinned (OpenSpec.upto fnExactCountRoomsSpec)

end Rows
end Go.Proofs.Ythakbjdkcdppjaa
