/-
  No cell of these rows narrows 'for every input' (looked for: loops, veiled, ifaces, maps, wideKeys, modest, calm, conditions, laid).
  DERIVED. THE GIVEN ROWS OF THIS SEAT. 5 by the template 'for every input the law returns true; each argument reads behind the call as it read before'; 0 by the template 'total and deterministic' (their statements: YtnfnandpcjgmmaaTotals.lean).
  GIVEN WITH THE SEED: the statements are not yours to turn. If you find one false, say at which input.
  Laid BY PROGRAM, IN A SANDBOX (cutbox-rows.mjs): the forced cells as the released guide's own fill.sh prints them over the translation 7d0967bf35f3d275… (all of the seat's roots in one cut). By AI agents, Wed Nov 11 2026. No macro, syntax, notation, axiom, sorry.
-/
import Derived.Test.YtnfnandpcjgmmaaChecked
import GoSem.Claim
import GoSem.ClaimJoined
import GoSem.ClaimMapViews
import Derived.JoinedTies
import Derived.KernelRfl
namespace Go.Proofs.Ytnfnandpcjgmmaa
/- THE CELL 'sum', in the pinned program and in every row, IS THE sha256 OF THE DUMP (.gsa) THAT YtnfnandpcjgmmaaProg.lean LOADS. Nothing in Lean hashes anything: it is a label: what it is worth is what the hold of that sum in a sandbox is worth. -/
noncomputable def Try.pinned : Pinned := { name := "ytnfnandpcjgmmaa", sum := "7d0967bf35f3d275169083a5f7ab037047504952fab0d9ad91632be3086b6b8c", checked := Try.checked }
namespace Rows
def none {H : Type} : Left H := { results := [], args := [] }

/-- 'laws.FnNumbered': WHATEVER THE INPUT: true; the input reads as it did. -/
def fnNumberedSpec : ChangeSpec := { name := "fnNumbered", fn := fun _ => fun
  | [d] => { results := [.lit (.bool true)], args := [d] }
  | _ => none }
def fnNumberedRow : OpenClaim := { program := "ytnfnandpcjgmmaa", sum := "7d0967bf35f3d275169083a5f7ab037047504952fab0d9ad91632be3086b6b8c", func := "loop.example/g00990/laws.FnNumbered", spec := "fnNumbered", unfollowed := true, recurses := true, apart := false }
def FnNumberedSaid : Prop := fnNumberedRow.holds Try.pinned (OpenSpec.ofChange fnNumberedSpec)

/-- ITS FALSE NEIGHBOUR: 'it returns false'. Refute it at one input. -/
def fnNumberedWrong : ChangeSpec := { name := "fnNumbered", fn := fun _ => fun
  | [d] => { results := [.lit (.bool false)], args := [d] }
  | _ => none }
def FnNumberedWrongFalsely : Prop := fnNumberedRow.holds Try.pinned (OpenSpec.ofChange fnNumberedWrong)

/-- 'laws.FnExactCountAll': WHATEVER THE INPUT: true; the input reads as it did. -/
def fnExactCountAllSpec : ChangeSpec := { name := "fnExactCountAll", fn := fun _ => fun
  | [d] => { results := [.lit (.bool true)], args := [d] }
  | _ => none }
def fnExactCountAllRow : OpenClaim := { program := "ytnfnandpcjgmmaa", sum := "7d0967bf35f3d275169083a5f7ab037047504952fab0d9ad91632be3086b6b8c", func := "loop.example/g00990/laws.FnExactCountAll", spec := "fnExactCountAll", unfollowed := true, recurses := true, apart := false }
def FnExactCountAllSaid : Prop := fnExactCountAllRow.holds Try.pinned (OpenSpec.ofChange fnExactCountAllSpec)

/-- ITS FALSE NEIGHBOUR: 'it returns false'. Refute it at one input. -/
def fnExactCountAllWrong : ChangeSpec := { name := "fnExactCountAll", fn := fun _ => fun
  | [d] => { results := [.lit (.bool false)], args := [d] }
  | _ => none }
def FnExactCountAllWrongFalsely : Prop := fnExactCountAllRow.holds Try.pinned (OpenSpec.ofChange fnExactCountAllWrong)

/-- 'laws.FnExactNumberOf': WHATEVER THE INPUT: true; the input reads as it did. -/
def fnExactNumberOfSpec : ChangeSpec := { name := "fnExactNumberOf", fn := fun _ => fun
  | [d] => { results := [.lit (.bool true)], args := [d] }
  | _ => none }
def fnExactNumberOfRow : OpenClaim := { program := "ytnfnandpcjgmmaa", sum := "7d0967bf35f3d275169083a5f7ab037047504952fab0d9ad91632be3086b6b8c", func := "loop.example/g00990/laws.FnExactNumberOf", spec := "fnExactNumberOf", unfollowed := true, recurses := true, apart := false }
def FnExactNumberOfSaid : Prop := fnExactNumberOfRow.holds Try.pinned (OpenSpec.ofChange fnExactNumberOfSpec)

/-- ITS FALSE NEIGHBOUR: 'it returns false'. Refute it at one input. -/
def fnExactNumberOfWrong : ChangeSpec := { name := "fnExactNumberOf", fn := fun _ => fun
  | [d] => { results := [.lit (.bool false)], args := [d] }
  | _ => none }
def FnExactNumberOfWrongFalsely : Prop := fnExactNumberOfRow.holds Try.pinned (OpenSpec.ofChange fnExactNumberOfWrong)

/-- 'laws.FnExactMazeAt': WHATEVER THE INPUT: true; the input reads as it did. -/
def fnExactMazeAtSpec : ChangeSpec := { name := "fnExactMazeAt", fn := fun _ => fun
  | [d1, d2] => { results := [.lit (.bool true)], args := [d1, d2] }
  | _ => none }
def fnExactMazeAtRow : OpenClaim := { program := "ytnfnandpcjgmmaa", sum := "7d0967bf35f3d275169083a5f7ab037047504952fab0d9ad91632be3086b6b8c", func := "loop.example/g00990/laws.FnExactMazeAt", spec := "fnExactMazeAt", unfollowed := true, recurses := true, apart := false }
def FnExactMazeAtSaid : Prop := fnExactMazeAtRow.holds Try.pinned (OpenSpec.ofChange fnExactMazeAtSpec)

/-- ITS FALSE NEIGHBOUR: 'it returns false'. Refute it at one input. -/
def fnExactMazeAtWrong : ChangeSpec := { name := "fnExactMazeAt", fn := fun _ => fun
  | [d1, d2] => { results := [.lit (.bool false)], args := [d1, d2] }
  | _ => none }
def FnExactMazeAtWrongFalsely : Prop := fnExactMazeAtRow.holds Try.pinned (OpenSpec.ofChange fnExactMazeAtWrong)

/-- 'laws.FnExactNextMaze': WHATEVER THE INPUT: true; the input reads as it did. -/
def fnExactNextMazeSpec : ChangeSpec := { name := "fnExactNextMaze", fn := fun _ => fun
  | [d] => { results := [.lit (.bool true)], args := [d] }
  | _ => none }
def fnExactNextMazeRow : OpenClaim := { program := "ytnfnandpcjgmmaa", sum := "7d0967bf35f3d275169083a5f7ab037047504952fab0d9ad91632be3086b6b8c", func := "loop.example/g00990/laws.FnExactNextMaze", spec := "fnExactNextMaze", unfollowed := true, recurses := true, apart := false }
def FnExactNextMazeSaid : Prop := fnExactNextMazeRow.holds Try.pinned (OpenSpec.ofChange fnExactNextMazeSpec)

/-- ITS FALSE NEIGHBOUR: 'it returns false'. Refute it at one input. -/
def fnExactNextMazeWrong : ChangeSpec := { name := "fnExactNextMaze", fn := fun _ => fun
  | [d] => { results := [.lit (.bool false)], args := [d] }
  | _ => none }
def FnExactNextMazeWrongFalsely : Prop := fnExactNextMazeRow.holds Try.pinned (OpenSpec.ofChange fnExactNextMazeWrong)

/- THE SECOND FORM. 'bulk': how many values and letters a reading holds, each counted each time it is reached (what is shared counts as often as it is met; a slice's spare places count too). A statement '..UptoSaid' is the law's where the arguments, and the package variables that the reading takes, are together of bulk at most 1048576: NARROWER than '..Said'. Prove '..Said' where nothing that the law and all that it calls make is longer than what came in: it says more and counts as full. Else prove '..UptoSaid'. A law counts once. -/
mutual
def uptoBulk {H : Type} : DataW H → Nat
  | .lit (.string bytes) => bytes.length + 1
  | .lit _ => 1
  | .nil => 1
  | .ptr d => uptoBulk d + 1
  | .slice elems spare => uptoBulkAll elems + uptoBulkAll spare + 1
  | .agg parts => uptoBulkAll parts + 1
  | .iface _ d => uptoBulk d + 1
  | .map entries => uptoBulkEntries entries + 1
  | .held _ => 1
def uptoBulkAll {H : Type} : List (DataW H) → Nat
  | [] => 0
  | d :: r => uptoBulk d + uptoBulkAll r
def uptoBulkEntries {H : Type} : List (Lit × DataW H) → Nat
  | [] => 0
  | x :: r => uptoBulkEntry x + uptoBulkEntries r
def uptoBulkEntry {H : Type} : Lit × DataW H → Nat
  | (.string bytes, d) => bytes.length + uptoBulk d + 1
  | (_, d) => uptoBulk d + 1
 end
def uptoSmall : (H : Type) → List (DataW H) → Bool := fun _ ds => decide (uptoBulkAll ds ≤ 1048576)
def OpenSpec.upto (s : _root_.Go.ChangeSpec) : _root_.Go.OpenSpec := { _root_.Go.OpenSpec.ofChange s with cond := some uptoSmall }

/-- 'laws.FnNumbered', WHERE WHAT IT READS IS OF BULK AT MOST 1048576: true; the input reads as it did. -/
def fnNumberedUptoRow : OpenClaim := { program := "ytnfnandpcjgmmaa", sum := "7d0967bf35f3d275169083a5f7ab037047504952fab0d9ad91632be3086b6b8c", func := "loop.example/g00990/laws.FnNumbered", spec := "fnNumbered", unfollowed := true, recurses := true, apart := false, narrowed := true }
def FnNumberedUptoSaid : Prop := fnNumberedUptoRow.holds Try.pinned (OpenSpec.upto fnNumberedSpec)

/-- 'laws.FnExactCountAll', WHERE WHAT IT READS IS OF BULK AT MOST 1048576: true; the input reads as it did. -/
def fnExactCountAllUptoRow : OpenClaim := { program := "ytnfnandpcjgmmaa", sum := "7d0967bf35f3d275169083a5f7ab037047504952fab0d9ad91632be3086b6b8c", func := "loop.example/g00990/laws.FnExactCountAll", spec := "fnExactCountAll", unfollowed := true, recurses := true, apart := false, narrowed := true }
def FnExactCountAllUptoSaid : Prop := fnExactCountAllUptoRow.holds Try.pinned (OpenSpec.upto fnExactCountAllSpec)

/-- 'laws.FnExactNumberOf', WHERE WHAT IT READS IS OF BULK AT MOST 1048576: true; the input reads as it did. -/
def fnExactNumberOfUptoRow : OpenClaim := { program := "ytnfnandpcjgmmaa", sum := "7d0967bf35f3d275169083a5f7ab037047504952fab0d9ad91632be3086b6b8c", func := "loop.example/g00990/laws.FnExactNumberOf", spec := "fnExactNumberOf", unfollowed := true, recurses := true, apart := false, narrowed := true }
def FnExactNumberOfUptoSaid : Prop := fnExactNumberOfUptoRow.holds Try.pinned (OpenSpec.upto fnExactNumberOfSpec)

/-- 'laws.FnExactMazeAt', WHERE WHAT IT READS IS OF BULK AT MOST 1048576: true; the input reads as it did. -/
def fnExactMazeAtUptoRow : OpenClaim := { program := "ytnfnandpcjgmmaa", sum := "7d0967bf35f3d275169083a5f7ab037047504952fab0d9ad91632be3086b6b8c", func := "loop.example/g00990/laws.FnExactMazeAt", spec := "fnExactMazeAt", unfollowed := true, recurses := true, apart := false, narrowed := true }
def FnExactMazeAtUptoSaid : Prop := fnExactMazeAtUptoRow.holds Try.pinned (OpenSpec.upto fnExactMazeAtSpec)

/-- 'laws.FnExactNextMaze', WHERE WHAT IT READS IS OF BULK AT MOST 1048576: true; the input reads as it did. -/
def fnExactNextMazeUptoRow : OpenClaim := { program := "ytnfnandpcjgmmaa", sum := "7d0967bf35f3d275169083a5f7ab037047504952fab0d9ad91632be3086b6b8c", func := "loop.example/g00990/laws.FnExactNextMaze", spec := "fnExactNextMaze", unfollowed := true, recurses := true, apart := false, narrowed := true }
def FnExactNextMazeUptoSaid : Prop := fnExactNextMazeUptoRow.holds Try.pinned (OpenSpec.upto fnExactNextMazeSpec)

end Rows
end Go.Proofs.Ytnfnandpcjgmmaa
