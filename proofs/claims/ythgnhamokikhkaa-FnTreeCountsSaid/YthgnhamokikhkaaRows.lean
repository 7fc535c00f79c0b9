/-
  No cell of these rows narrows 'for every input' (looked for: loops, veiled, ifaces, maps, wideKeys, modest, calm, conditions, laid).
  DERIVED. THE GIVEN ROWS OF THIS SEAT. 14 by the template 'for every input the law returns true; each argument reads behind the call as it read before'; 0 by the template 'total and deterministic' (their statements: YthgnhamokikhkaaTotals.lean).
  GIVEN WITH THE SEED: the statements are not yours to turn. If you find one false, say at which input.
  Laid BY PROGRAM, IN A SANDBOX (cutbox-rows.mjs): the forced cells as the released guide's own fill.sh prints them over the translation 2f8cddb4dc133802… (all of the seat's roots in one cut). By AI agents, Wed Nov 11 2026. No macro, syntax, notation, axiom, sorry.
-/
import Derived.Test.YthgnhamokikhkaaChecked
import GoSem.Claim
import GoSem.ClaimJoined
import GoSem.ClaimMapViews
import Derived.JoinedTies
import Derived.KernelRfl
namespace Go.Proofs.Ythgnhamokikhkaa
/- THE CELL 'sum', in the pinned program and in every row, IS THE sha256 OF THE DUMP (.gsa) THAT YthgnhamokikhkaaProg.lean LOADS. Nothing in Lean hashes anything: it is a label: what it is worth is what the hold of that sum in a sandbox is worth. -/
noncomputable def Try.pinned : Pinned := { name := "ythgnhamokikhkaa", sum := "2f8cddb4dc133802868e72a2bdd66c835dea468d8a5285bba3bd2ee501302889", checked := Try.checked }
namespace Rows
def none {H : Type} : Left H := { results := [], args := [] }

/-- 'laws.FnPerfects': WHATEVER THE INPUT: true; the input reads as it did. -/
def fnPerfectsSpec : ChangeSpec := { name := "fnPerfects", fn := fun _ => fun
  | [d] => { results := [.lit (.bool true)], args := [d] }
  | _ => none }
def fnPerfectsRow : OpenClaim := { program := "ythgnhamokikhkaa", sum := "2f8cddb4dc133802868e72a2bdd66c835dea468d8a5285bba3bd2ee501302889", func := "loop.example/g00990/laws.FnPerfects", spec := "fnPerfects", apart := false }
def FnPerfectsSaid : Prop := fnPerfectsRow.holds Try.pinned (OpenSpec.ofChange fnPerfectsSpec)

/-- ITS FALSE NEIGHBOUR: 'it returns false'. Refute it at one input. -/
def fnPerfectsWrong : ChangeSpec := { name := "fnPerfects", fn := fun _ => fun
  | [d] => { results := [.lit (.bool false)], args := [d] }
  | _ => none }
def FnPerfectsWrongFalsely : Prop := fnPerfectsRow.holds Try.pinned (OpenSpec.ofChange fnPerfectsWrong)

/-- 'laws.FnKruskals': WHATEVER THE INPUT: true; the input reads as it did. -/
def fnKruskalsSpec : ChangeSpec := { name := "fnKruskals", fn := fun _ => fun
  | [d] => { results := [.lit (.bool true)], args := [d] }
  | _ => none }
def fnKruskalsRow : OpenClaim := { program := "ythgnhamokikhkaa", sum := "2f8cddb4dc133802868e72a2bdd66c835dea468d8a5285bba3bd2ee501302889", func := "loop.example/g00990/laws.FnKruskals", spec := "fnKruskals", apart := false }
def FnKruskalsSaid : Prop := fnKruskalsRow.holds Try.pinned (OpenSpec.ofChange fnKruskalsSpec)

/-- ITS FALSE NEIGHBOUR: 'it returns false'. Refute it at one input. -/
def fnKruskalsWrong : ChangeSpec := { name := "fnKruskals", fn := fun _ => fun
  | [d] => { results := [.lit (.bool false)], args := [d] }
  | _ => none }
def FnKruskalsWrongFalsely : Prop := fnKruskalsRow.holds Try.pinned (OpenSpec.ofChange fnKruskalsWrong)

/-- 'laws.FnWalls': WHATEVER THE INPUT: true; the input reads as it did. -/
def fnWallsSpec : ChangeSpec := { name := "fnWalls", fn := fun _ => fun
  | [d] => { results := [.lit (.bool true)], args := [d] }
  | _ => none }
def fnWallsRow : OpenClaim := { program := "ythgnhamokikhkaa", sum := "2f8cddb4dc133802868e72a2bdd66c835dea468d8a5285bba3bd2ee501302889", func := "loop.example/g00990/laws.FnWalls", spec := "fnWalls", apart := false }
def FnWallsSaid : Prop := fnWallsRow.holds Try.pinned (OpenSpec.ofChange fnWallsSpec)

/-- ITS FALSE NEIGHBOUR: 'it returns false'. Refute it at one input. -/
def fnWallsWrong : ChangeSpec := { name := "fnWalls", fn := fun _ => fun
  | [d] => { results := [.lit (.bool false)], args := [d] }
  | _ => none }
def FnWallsWrongFalsely : Prop := fnWallsRow.holds Try.pinned (OpenSpec.ofChange fnWallsWrong)

/-- 'laws.FnDeterminants': WHATEVER THE INPUT: true; the input reads as it did. -/
def fnDeterminantsSpec : ChangeSpec := { name := "fnDeterminants", fn := fun _ => fun
  | [d] => { results := [.lit (.bool true)], args := [d] }
  | _ => none }
def fnDeterminantsRow : OpenClaim := { program := "ythgnhamokikhkaa", sum := "2f8cddb4dc133802868e72a2bdd66c835dea468d8a5285bba3bd2ee501302889", func := "loop.example/g00990/laws.FnDeterminants", spec := "fnDeterminants", unfollowed := true, recurses := true, apart := false }
def FnDeterminantsSaid : Prop := fnDeterminantsRow.holds Try.pinned (OpenSpec.ofChange fnDeterminantsSpec)

/-- ITS FALSE NEIGHBOUR: 'it returns false'. Refute it at one input. -/
def fnDeterminantsWrong : ChangeSpec := { name := "fnDeterminants", fn := fun _ => fun
  | [d] => { results := [.lit (.bool false)], args := [d] }
  | _ => none }
def FnDeterminantsWrongFalsely : Prop := fnDeterminantsRow.holds Try.pinned (OpenSpec.ofChange fnDeterminantsWrong)

/-- 'laws.FnTreeCounts': WHATEVER THE INPUT: true; the input reads as it did. -/
def fnTreeCountsSpec : ChangeSpec := { name := "fnTreeCounts", fn := fun _ => fun
  | [d] => { results := [.lit (.bool true)], args := [d] }
  | _ => none }
def fnTreeCountsRow : OpenClaim := { program := "ythgnhamokikhkaa", sum := "2f8cddb4dc133802868e72a2bdd66c835dea468d8a5285bba3bd2ee501302889", func := "loop.example/g00990/laws.FnTreeCounts", spec := "fnTreeCounts", unfollowed := true, recurses := true, apart := false }
def FnTreeCountsSaid : Prop := fnTreeCountsRow.holds Try.pinned (OpenSpec.ofChange fnTreeCountsSpec)

/-- ITS FALSE NEIGHBOUR: 'it returns false'. Refute it at one input. -/
def fnTreeCountsWrong : ChangeSpec := { name := "fnTreeCounts", fn := fun _ => fun
  | [d] => { results := [.lit (.bool false)], args := [d] }
  | _ => none }
def FnTreeCountsWrongFalsely : Prop := fnTreeCountsRow.holds Try.pinned (OpenSpec.ofChange fnTreeCountsWrong)

/-- 'laws.FnCounts': WHATEVER THE INPUT: true; the input reads as it did. -/
def fnCountsSpec : ChangeSpec := { name := "fnCounts", fn := fun _ => fun
  | [d] => { results := [.lit (.bool true)], args := [d] }
  | _ => none }
def fnCountsRow : OpenClaim := { program := "ythgnhamokikhkaa", sum := "2f8cddb4dc133802868e72a2bdd66c835dea468d8a5285bba3bd2ee501302889", func := "loop.example/g00990/laws.FnCounts", spec := "fnCounts", unfollowed := true, recurses := true, apart := false }
def FnCountsSaid : Prop := fnCountsRow.holds Try.pinned (OpenSpec.ofChange fnCountsSpec)

/-- ITS FALSE NEIGHBOUR: 'it returns false'. Refute it at one input. -/
def fnCountsWrong : ChangeSpec := { name := "fnCounts", fn := fun _ => fun
  | [d] => { results := [.lit (.bool false)], args := [d] }
  | _ => none }
def FnCountsWrongFalsely : Prop := fnCountsRow.holds Try.pinned (OpenSpec.ofChange fnCountsWrong)

/-- 'laws.FnExactIsPerfect': WHATEVER THE INPUT: true; the input reads as it did. -/
def fnExactIsPerfectSpec : ChangeSpec := { name := "fnExactIsPerfect", fn := fun _ => fun
  | [d] => { results := [.lit (.bool true)], args := [d] }
  | _ => none }
def fnExactIsPerfectRow : OpenClaim := { program := "ythgnhamokikhkaa", sum := "2f8cddb4dc133802868e72a2bdd66c835dea468d8a5285bba3bd2ee501302889", func := "loop.example/g00990/laws.FnExactIsPerfect", spec := "fnExactIsPerfect", apart := false }
def FnExactIsPerfectSaid : Prop := fnExactIsPerfectRow.holds Try.pinned (OpenSpec.ofChange fnExactIsPerfectSpec)

/-- ITS FALSE NEIGHBOUR: 'it returns false'. Refute it at one input. -/
def fnExactIsPerfectWrong : ChangeSpec := { name := "fnExactIsPerfect", fn := fun _ => fun
  | [d] => { results := [.lit (.bool false)], args := [d] }
  | _ => none }
def FnExactIsPerfectWrongFalsely : Prop := fnExactIsPerfectRow.holds Try.pinned (OpenSpec.ofChange fnExactIsPerfectWrong)

/-- 'laws.FnExactKruskalMaze': WHATEVER THE INPUT: true; the input reads as it did. -/
def fnExactKruskalMazeSpec : ChangeSpec := { name := "fnExactKruskalMaze", fn := fun _ => fun
  | [d1, d2] => { results := [.lit (.bool true)], args := [d1, d2] }
  | _ => none }
def fnExactKruskalMazeRow : OpenClaim := { program := "ythgnhamokikhkaa", sum := "2f8cddb4dc133802868e72a2bdd66c835dea468d8a5285bba3bd2ee501302889", func := "loop.example/g00990/laws.FnExactKruskalMaze", spec := "fnExactKruskalMaze", apart := false }
def FnExactKruskalMazeSaid : Prop := fnExactKruskalMazeRow.holds Try.pinned (OpenSpec.ofChange fnExactKruskalMazeSpec)

/-- ITS FALSE NEIGHBOUR: 'it returns false'. Refute it at one input. -/
def fnExactKruskalMazeWrong : ChangeSpec := { name := "fnExactKruskalMaze", fn := fun _ => fun
  | [d1, d2] => { results := [.lit (.bool false)], args := [d1, d2] }
  | _ => none }
def FnExactKruskalMazeWrongFalsely : Prop := fnExactKruskalMazeRow.holds Try.pinned (OpenSpec.ofChange fnExactKruskalMazeWrong)

/-- 'laws.FnExactDeterminant': WHATEVER THE INPUT: true; the input reads as it did. -/
def fnExactDeterminantSpec : ChangeSpec := { name := "fnExactDeterminant", fn := fun _ => fun
  | [d] => { results := [.lit (.bool true)], args := [d] }
  | _ => none }
def fnExactDeterminantRow : OpenClaim := { program := "ythgnhamokikhkaa", sum := "2f8cddb4dc133802868e72a2bdd66c835dea468d8a5285bba3bd2ee501302889", func := "loop.example/g00990/laws.FnExactDeterminant", spec := "fnExactDeterminant", unfollowed := true, recurses := true, apart := false }
def FnExactDeterminantSaid : Prop := fnExactDeterminantRow.holds Try.pinned (OpenSpec.ofChange fnExactDeterminantSpec)

/-- ITS FALSE NEIGHBOUR: 'it returns false'. Refute it at one input. -/
def fnExactDeterminantWrong : ChangeSpec := { name := "fnExactDeterminant", fn := fun _ => fun
  | [d] => { results := [.lit (.bool false)], args := [d] }
  | _ => none }
def FnExactDeterminantWrongFalsely : Prop := fnExactDeterminantRow.holds Try.pinned (OpenSpec.ofChange fnExactDeterminantWrong)

/-- 'laws.FnExactWithoutRow': WHATEVER THE INPUT: true; the input reads as it did. -/
def fnExactWithoutRowSpec : ChangeSpec := { name := "fnExactWithoutRow", fn := fun _ => fun
  | [d1, d2] => { results := [.lit (.bool true)], args := [d1, d2] }
  | _ => none }
def fnExactWithoutRowRow : OpenClaim := { program := "ythgnhamokikhkaa", sum := "2f8cddb4dc133802868e72a2bdd66c835dea468d8a5285bba3bd2ee501302889", func := "loop.example/g00990/laws.FnExactWithoutRow", spec := "fnExactWithoutRow", unfollowed := true, recurses := true, apart := false }
def FnExactWithoutRowSaid : Prop := fnExactWithoutRowRow.holds Try.pinned (OpenSpec.ofChange fnExactWithoutRowSpec)

/-- ITS FALSE NEIGHBOUR: 'it returns false'. Refute it at one input. -/
def fnExactWithoutRowWrong : ChangeSpec := { name := "fnExactWithoutRow", fn := fun _ => fun
  | [d1, d2] => { results := [.lit (.bool false)], args := [d1, d2] }
  | _ => none }
def FnExactWithoutRowWrongFalsely : Prop := fnExactWithoutRowRow.holds Try.pinned (OpenSpec.ofChange fnExactWithoutRowWrong)

/-- 'laws.FnExactCountTrees': WHATEVER THE INPUT: true; the input reads as it did. -/
def fnExactCountTreesSpec : ChangeSpec := { name := "fnExactCountTrees", fn := fun _ => fun
  | [d] => { results := [.lit (.bool true)], args := [d] }
  | _ => none }
def fnExactCountTreesRow : OpenClaim := { program := "ythgnhamokikhkaa", sum := "2f8cddb4dc133802868e72a2bdd66c835dea468d8a5285bba3bd2ee501302889", func := "loop.example/g00990/laws.FnExactCountTrees", spec := "fnExactCountTrees", unfollowed := true, recurses := true, apart := false }
def FnExactCountTreesSaid : Prop := fnExactCountTreesRow.holds Try.pinned (OpenSpec.ofChange fnExactCountTreesSpec)

/-- ITS FALSE NEIGHBOUR: 'it returns false'. Refute it at one input. -/
def fnExactCountTreesWrong : ChangeSpec := { name := "fnExactCountTrees", fn := fun _ => fun
  | [d] => { results := [.lit (.bool false)], args := [d] }
  | _ => none }
def FnExactCountTreesWrongFalsely : Prop := fnExactCountTreesRow.holds Try.pinned (OpenSpec.ofChange fnExactCountTreesWrong)

/-- 'laws.FnExactCountWith': WHATEVER THE INPUT: true; the input reads as it did. -/
def fnExactCountWithSpec : ChangeSpec := { name := "fnExactCountWith", fn := fun _ => fun
  | [d1, d2] => { results := [.lit (.bool true)], args := [d1, d2] }
  | _ => none }
def fnExactCountWithRow : OpenClaim := { program := "ythgnhamokikhkaa", sum := "2f8cddb4dc133802868e72a2bdd66c835dea468d8a5285bba3bd2ee501302889", func := "loop.example/g00990/laws.FnExactCountWith", spec := "fnExactCountWith", unfollowed := true, recurses := true, apart := false }
def FnExactCountWithSaid : Prop := fnExactCountWithRow.holds Try.pinned (OpenSpec.ofChange fnExactCountWithSpec)

/-- ITS FALSE NEIGHBOUR: 'it returns false'. Refute it at one input. -/
def fnExactCountWithWrong : ChangeSpec := { name := "fnExactCountWith", fn := fun _ => fun
  | [d1, d2] => { results := [.lit (.bool false)], args := [d1, d2] }
  | _ => none }
def FnExactCountWithWrongFalsely : Prop := fnExactCountWithRow.holds Try.pinned (OpenSpec.ofChange fnExactCountWithWrong)

/-- 'laws.FnExactCountFixed': WHATEVER THE INPUT: true; the input reads as it did. -/
def fnExactCountFixedSpec : ChangeSpec := { name := "fnExactCountFixed", fn := fun _ => fun
  | [d1, d2, d3] => { results := [.lit (.bool true)], args := [d1, d2, d3] }
  | _ => none }
def fnExactCountFixedRow : OpenClaim := { program := "ythgnhamokikhkaa", sum := "2f8cddb4dc133802868e72a2bdd66c835dea468d8a5285bba3bd2ee501302889", func := "loop.example/g00990/laws.FnExactCountFixed", spec := "fnExactCountFixed", unfollowed := true, recurses := true, apart := false }
def FnExactCountFixedSaid : Prop := fnExactCountFixedRow.holds Try.pinned (OpenSpec.ofChange fnExactCountFixedSpec)

/-- ITS FALSE NEIGHBOUR: 'it returns false'. Refute it at one input. -/
def fnExactCountFixedWrong : ChangeSpec := { name := "fnExactCountFixed", fn := fun _ => fun
  | [d1, d2, d3] => { results := [.lit (.bool false)], args := [d1, d2, d3] }
  | _ => none }
def FnExactCountFixedWrongFalsely : Prop := fnExactCountFixedRow.holds Try.pinned (OpenSpec.ofChange fnExactCountFixedWrong)

/-- 'laws.FnExactListTrees': WHATEVER THE INPUT: true; the input reads as it did. -/
def fnExactListTreesSpec : ChangeSpec := { name := "fnExactListTrees", fn := fun _ => fun
  | [d] => { results := [.lit (.bool true)], args := [d] }
  | _ => none }
def fnExactListTreesRow : OpenClaim := { program := "ythgnhamokikhkaa", sum := "2f8cddb4dc133802868e72a2bdd66c835dea468d8a5285bba3bd2ee501302889", func := "loop.example/g00990/laws.FnExactListTrees", spec := "fnExactListTrees", recurses := true, apart := false }
def FnExactListTreesSaid : Prop := fnExactListTreesRow.holds Try.pinned (OpenSpec.ofChange fnExactListTreesSpec)

/-- ITS FALSE NEIGHBOUR: 'it returns false'. Refute it at one input. -/
def fnExactListTreesWrong : ChangeSpec := { name := "fnExactListTrees", fn := fun _ => fun
  | [d] => { results := [.lit (.bool false)], args := [d] }
  | _ => none }
def FnExactListTreesWrongFalsely : Prop := fnExactListTreesRow.holds Try.pinned (OpenSpec.ofChange fnExactListTreesWrong)

/- THE SECOND FORM. 'bulk': how many values and letters a reading holds, each counted each time it is reached (what is shared counts as often as it is met; a slice's spare places count too). A statement '..UptoSaid' is the law's where the arguments, and the package variables that the reading takes, are together of bulk at most 1048576: NARROWER than '..Said'. Prove '..Said' where nothing that the law and all that it calls make is longer than what came in: it says more and counts as full. Else prove '..UptoSaid'. A law counts once. -/
mutual
def uptoBulk {H : Type} : DataW H → Nat
  | .lit (.string bytes) => bytes.length + 1
  | .lit _ => 1
  | .nil => 1
  | .ptr d => uptoBulk d + 1
  | .slice elems spare => uptoBulkAll elems + uptoBulkAll spare + 1
  | .agg parts => uptoBulkAll parts + 1
  | .iface _ d => uptoBulk d + 1
  | .map entries => uptoBulkEntries entries + 1
  | .held _ => 1
def uptoBulkAll {H : Type} : List (DataW H) → Nat
  | [] => 0
  | d :: r => uptoBulk d + uptoBulkAll r
def uptoBulkEntries {H : Type} : List (Lit × DataW H) → Nat
  | [] => 0
  | x :: r => uptoBulkEntry x + uptoBulkEntries r
def uptoBulkEntry {H : Type} : Lit × DataW H → Nat
  | (.string bytes, d) => bytes.length + uptoBulk d + 1
  | (_, d) => uptoBulk d + 1
 end
def uptoSmall : (H : Type) → List (DataW H) → Bool := fun _ ds => decide (uptoBulkAll ds ≤ 1048576)
def OpenSpec.upto (s : _root_.Go.ChangeSpec) : _root_.Go.OpenSpec := { _root_.Go.OpenSpec.ofChange s with cond := some uptoSmall }

/-- 'laws.FnPerfects', WHERE WHAT IT READS IS OF BULK AT MOST 1048576: true; the input reads as it did. -/
def fnPerfectsUptoRow : OpenClaim := { program := "ythgnhamokikhkaa", sum := "2f8cddb4dc133802868e72a2bdd66c835dea468d8a5285bba3bd2ee501302889", func := "loop.example/g00990/laws.FnPerfects", spec := "fnPerfects", apart := false, narrowed := true }
def FnPerfectsUptoSaid : Prop := fnPerfectsUptoRow.holds Try.pinned (OpenSpec.upto fnPerfectsSpec)

/-- 'laws.FnKruskals', WHERE WHAT IT READS IS OF BULK AT MOST 1048576: true; the input reads as it did. -/
def fnKruskalsUptoRow : OpenClaim := { program := "ythgnhamokikhkaa", sum := "2f8cddb4dc133802868e72a2bdd66c835dea468d8a5285bba3bd2ee501302889", func := "loop.example/g00990/laws.FnKruskals", spec := "fnKruskals", apart := false, narrowed := true }
def FnKruskalsUptoSaid : Prop := fnKruskalsUptoRow.holds Try.pinned (OpenSpec.upto fnKruskalsSpec)

/-- 'laws.FnWalls', WHERE WHAT IT READS IS OF BULK AT MOST 1048576: true; the input reads as it did. -/
def fnWallsUptoRow : OpenClaim := { program := "ythgnhamokikhkaa", sum := "2f8cddb4dc133802868e72a2bdd66c835dea468d8a5285bba3bd2ee501302889", func := "loop.example/g00990/laws.FnWalls", spec := "fnWalls", apart := false, narrowed := true }
def FnWallsUptoSaid : Prop := fnWallsUptoRow.holds Try.pinned (OpenSpec.upto fnWallsSpec)

/-- 'laws.FnDeterminants', WHERE WHAT IT READS IS OF BULK AT MOST 1048576: true; the input reads as it did. -/
def fnDeterminantsUptoRow : OpenClaim := { program := "ythgnhamokikhkaa", sum := "2f8cddb4dc133802868e72a2bdd66c835dea468d8a5285bba3bd2ee501302889", func := "loop.example/g00990/laws.FnDeterminants", spec := "fnDeterminants", unfollowed := true, recurses := true, apart := false, narrowed := true }
def FnDeterminantsUptoSaid : Prop := fnDeterminantsUptoRow.holds Try.pinned (OpenSpec.upto fnDeterminantsSpec)

/-- 'laws.FnTreeCounts', WHERE WHAT IT READS IS OF BULK AT MOST 1048576: true; the input reads as it did. -/
def fnTreeCountsUptoRow : OpenClaim := { program := "ythgnhamokikhkaa", sum := "2f8cddb4dc133802868e72a2bdd66c835dea468d8a5285bba3bd2ee501302889", func := "loop.example/g00990/laws.FnTreeCounts", spec := "fnTreeCounts", unfollowed := true, recurses := true, apart := false, narrowed := true }
def FnTreeCountsUptoSaid : Prop := fnTreeCountsUptoRow.holds Try.pinned (OpenSpec.upto fnTreeCountsSpec)

/-- 'laws.FnCounts', WHERE WHAT IT READS IS OF BULK AT MOST 1048576: true; the input reads as it did. -/
def fnCountsUptoRow : OpenClaim := { program := "ythgnhamokikhkaa", sum := "2f8cddb4dc133802868e72a2bdd66c835dea468d8a5285bba3bd2ee501302889", func := "loop.example/g00990/laws.FnCounts", spec := "fnCounts", unfollowed := true, recurses := true, apart := false, narrowed := true }
def FnCountsUptoSaid : Prop := fnCountsUptoRow.holds Try.pinned (OpenSpec.upto fnCountsSpec)

/-- 'laws.FnExactIsPerfect', WHERE WHAT IT READS IS OF BULK AT MOST 1048576: true; the input reads as it did. -/
def fnExactIsPerfectUptoRow : OpenClaim := { program := "ythgnhamokikhkaa", sum := "2f8cddb4dc133802868e72a2bdd66c835dea468d8a5285bba3bd2ee501302889", func := "loop.example/g00990/laws.FnExactIsPerfect", spec := "fnExactIsPerfect", apart := false, narrowed := true }
def FnExactIsPerfectUptoSaid : Prop := fnExactIsPerfectUptoRow.holds Try.pinned (OpenSpec.upto fnExactIsPerfectSpec)

/-- 'laws.FnExactKruskalMaze', WHERE WHAT IT READS IS OF BULK AT MOST 1048576: true; the input reads as it did. -/
def fnExactKruskalMazeUptoRow : OpenClaim := { program := "ythgnhamokikhkaa", sum := "2f8cddb4dc133802868e72a2bdd66c835dea468d8a5285bba3bd2ee501302889", func := "loop.example/g00990/laws.FnExactKruskalMaze", spec := "fnExactKruskalMaze", apart := false, narrowed := true }
def FnExactKruskalMazeUptoSaid : Prop := fnExactKruskalMazeUptoRow.holds Try.pinned (OpenSpec.upto fnExactKruskalMazeSpec)

/-- 'laws.FnExactDeterminant', WHERE WHAT IT READS IS OF BULK AT MOST 1048576: true; the input reads as it did. -/
def fnExactDeterminantUptoRow : OpenClaim := { program := "ythgnhamokikhkaa", sum := "2f8cddb4dc133802868e72a2bdd66c835dea468d8a5285bba3bd2ee501302889", func := "loop.example/g00990/laws.FnExactDeterminant", spec := "fnExactDeterminant", unfollowed := true, recurses := true, apart := false, narrowed := true }
def FnExactDeterminantUptoSaid : Prop := fnExactDeterminantUptoRow.holds Try.pinned (OpenSpec.upto fnExactDeterminantSpec)

/-- 'laws.FnExactWithoutRow', WHERE WHAT IT READS IS OF BULK AT MOST 1048576: true; the input reads as it did. -/
def fnExactWithoutRowUptoRow : OpenClaim := { program := "ythgnhamokikhkaa", sum := "2f8cddb4dc133802868e72a2bdd66c835dea468d8a5285bba3bd2ee501302889", func := "loop.example/g00990/laws.FnExactWithoutRow", spec := "fnExactWithoutRow", unfollowed := true, recurses := true, apart := false, narrowed := true }
def FnExactWithoutRowUptoSaid : Prop := fnExactWithoutRowUptoRow.holds Try.pinned (OpenSpec.upto fnExactWithoutRowSpec)

/-- 'laws.FnExactCountTrees', WHERE WHAT IT READS IS OF BULK AT MOST 1048576: true; the input reads as it did. -/
def fnExactCountTreesUptoRow : OpenClaim := { program := "ythgnhamokikhkaa", sum := "2f8cddb4dc133802868e72a2bdd66c835dea468d8a5285bba3bd2ee501302889", func := "loop.example/g00990/laws.FnExactCountTrees", spec := "fnExactCountTrees", unfollowed := true, recurses := true, apart := false, narrowed := true }
def FnExactCountTreesUptoSaid : Prop := fnExactCountTreesUptoRow.holds Try.pinned (OpenSpec.upto fnExactCountTreesSpec)

/-- 'laws.FnExactCountWith', WHERE WHAT IT READS IS OF BULK AT MOST 1048576: true; the input reads as it did. -/
def fnExactCountWithUptoRow : OpenClaim := { program := "ythgnhamokikhkaa", sum := "2f8cddb4dc133802868e72a2bdd66c835dea468d8a5285bba3bd2ee501302889", func := "loop.example/g00990/laws.FnExactCountWith", spec := "fnExactCountWith", unfollowed := true, recurses := true, apart := false, narrowed := true }
def FnExactCountWithUptoSaid : Prop := fnExactCountWithUptoRow.holds Try.pinned (OpenSpec.upto fnExactCountWithSpec)

/-- 'laws.FnExactCountFixed', WHERE WHAT IT READS IS OF BULK AT MOST 1048576: true; the input reads as it did. -/
def fnExactCountFixedUptoRow : OpenClaim := { program := "ythgnhamokikhkaa", sum := "2f8cddb4dc133802868e72a2bdd66c835dea468d8a5285bba3bd2ee501302889", func := "loop.example/g00990/laws.FnExactCountFixed", spec := "fnExactCountFixed", unfollowed := true, recurses := true, apart := false, narrowed := true }
def FnExactCountFixedUptoSaid : Prop := fnExactCountFixedUptoRow.holds Try.pinned (OpenSpec.upto fnExactCountFixedSpec)

/-- 'laws.FnExactListTrees', WHERE WHAT IT READS IS OF BULK AT MOST 1048576: true; the input reads as it did. -/
def fnExactListTreesUptoRow : OpenClaim := { program := "ythgnhamokikhkaa", sum := "2f8cddb4dc133802868e72a2bdd66c835dea468d8a5285bba3bd2ee501302889", func := "loop.example/g00990/laws.FnExactListTrees", spec := "fnExactListTrees", recurses := true, apart := false, narrowed := true }
def FnExactListTreesUptoSaid : Prop := fnExactListTreesUptoRow.holds Try.pinned (OpenSpec.upto fnExactListTreesSpec)

end Rows
end Go.Proofs.Ythgnhamokikhkaa
