/-
  No cell of these rows narrows 'for every input' (looked for: loops, veiled, ifaces, maps, wideKeys, modest, calm, conditions, laid).
  DERIVED. THE GIVEN ROWS OF THIS SEAT. 7 by the template 'for every input the law returns true; each argument reads behind the call as it read before'; 0 by the template 'total and deterministic' (their statements: YtkknnikhpembiaaTotals.lean).
  GIVEN WITH THE SEED: the statements are not yours to turn. If you find one false, say at which input.
  Laid BY PROGRAM, IN A SANDBOX (cutbox-rows.mjs): the forced cells as the released guide's own fill.sh prints them over the translation af44ff9f83c6b3b1… (all of the seat's roots in one cut). By AI agents, Wed Nov 11 2026. No macro, syntax, notation, axiom, sorry.
-/
import Derived.Test.YtkknnikhpembiaaChecked
import GoSem.Claim
import GoSem.ClaimJoined
import GoSem.ClaimMapViews
import Derived.JoinedTies
import Derived.KernelRfl
namespace Go.Proofs.Ytkknnikhpembiaa
/- THE CELL 'sum', in the pinned program and in every row, IS THE sha256 OF THE DUMP (.gsa) THAT YtkknnikhpembiaaProg.lean LOADS. Nothing in Lean hashes anything: it is a label: what it is worth is what the hold of that sum in a sandbox is worth. -/
noncomputable def Try.pinned : Pinned := { name := "ytkknnikhpembiaa", sum := "af44ff9f83c6b3b1fa676274b13e8fdcbfdd07cfe9bd98748e819c7a8d614929", checked := Try.checked }
namespace Rows
def none {H : Type} : Left H := { results := [], args := [] }

/-- 'laws.FnHands': WHATEVER THE INPUT: true; the input reads as it did. -/
def fnHandsSpec : ChangeSpec := { name := "fnHands", fn := fun _ => fun
  | [d] => { results := [.lit (.bool true)], args := [d] }
  | _ => none }
def fnHandsRow : OpenClaim := { program := "ytkknnikhpembiaa", sum := "af44ff9f83c6b3b1fa676274b13e8fdcbfdd07cfe9bd98748e819c7a8d614929", func := "loop.example/g00990/laws.FnHands", spec := "fnHands", unfollowed := true, recurses := true, apart := false }
def FnHandsSaid : Prop := fnHandsRow.holds Try.pinned (OpenSpec.ofChange fnHandsSpec)

/-- ITS FALSE NEIGHBOUR: 'it returns false'. Refute it at one input. -/
def fnHandsWrong : ChangeSpec := { name := "fnHands", fn := fun _ => fun
  | [d] => { results := [.lit (.bool false)], args := [d] }
  | _ => none }
def FnHandsWrongFalsely : Prop := fnHandsRow.holds Try.pinned (OpenSpec.ofChange fnHandsWrong)

/-- 'laws.FnExactWalkerOk': WHATEVER THE INPUT: true; the input reads as it did. -/
def fnExactWalkerOkSpec : ChangeSpec := { name := "fnExactWalkerOk", fn := fun _ => fun
  | [d1, d2] => { results := [.lit (.bool true)], args := [d1, d2] }
  | _ => none }
def fnExactWalkerOkRow : OpenClaim := { program := "ytkknnikhpembiaa", sum := "af44ff9f83c6b3b1fa676274b13e8fdcbfdd07cfe9bd98748e819c7a8d614929", func := "loop.example/g00990/laws.FnExactWalkerOk", spec := "fnExactWalkerOk", apart := false }
def FnExactWalkerOkSaid : Prop := fnExactWalkerOkRow.holds Try.pinned (OpenSpec.ofChange fnExactWalkerOkSpec)

/-- ITS FALSE NEIGHBOUR: 'it returns false'. Refute it at one input. -/
def fnExactWalkerOkWrong : ChangeSpec := { name := "fnExactWalkerOk", fn := fun _ => fun
  | [d1, d2] => { results := [.lit (.bool false)], args := [d1, d2] }
  | _ => none }
def FnExactWalkerOkWrongFalsely : Prop := fnExactWalkerOkRow.holds Try.pinned (OpenSpec.ofChange fnExactWalkerOkWrong)

/-- 'laws.FnExactHandStep': WHATEVER THE INPUT: true; the input reads as it did. -/
def fnExactHandStepSpec : ChangeSpec := { name := "fnExactHandStep", fn := fun _ => fun
  | [d1, d2] => { results := [.lit (.bool true)], args := [d1, d2] }
  | _ => none }
def fnExactHandStepRow : OpenClaim := { program := "ytkknnikhpembiaa", sum := "af44ff9f83c6b3b1fa676274b13e8fdcbfdd07cfe9bd98748e819c7a8d614929", func := "loop.example/g00990/laws.FnExactHandStep", spec := "fnExactHandStep", apart := false }
def FnExactHandStepSaid : Prop := fnExactHandStepRow.holds Try.pinned (OpenSpec.ofChange fnExactHandStepSpec)

/-- ITS FALSE NEIGHBOUR: 'it returns false'. Refute it at one input. -/
def fnExactHandStepWrong : ChangeSpec := { name := "fnExactHandStep", fn := fun _ => fun
  | [d1, d2] => { results := [.lit (.bool false)], args := [d1, d2] }
  | _ => none }
def FnExactHandStepWrongFalsely : Prop := fnExactHandStepRow.holds Try.pinned (OpenSpec.ofChange fnExactHandStepWrong)

/-- 'laws.FnExactHandWalk': WHATEVER THE INPUT: true; the input reads as it did. -/
def fnExactHandWalkSpec : ChangeSpec := { name := "fnExactHandWalk", fn := fun _ => fun
  | [d1, d2, d3] => { results := [.lit (.bool true)], args := [d1, d2, d3] }
  | _ => none }
def fnExactHandWalkRow : OpenClaim := { program := "ytkknnikhpembiaa", sum := "af44ff9f83c6b3b1fa676274b13e8fdcbfdd07cfe9bd98748e819c7a8d614929", func := "loop.example/g00990/laws.FnExactHandWalk", spec := "fnExactHandWalk", apart := false }
def FnExactHandWalkSaid : Prop := fnExactHandWalkRow.holds Try.pinned (OpenSpec.ofChange fnExactHandWalkSpec)

/-- ITS FALSE NEIGHBOUR: 'it returns false'. Refute it at one input. -/
def fnExactHandWalkWrong : ChangeSpec := { name := "fnExactHandWalk", fn := fun _ => fun
  | [d1, d2, d3] => { results := [.lit (.bool false)], args := [d1, d2, d3] }
  | _ => none }
def FnExactHandWalkWrongFalsely : Prop := fnExactHandWalkRow.holds Try.pinned (OpenSpec.ofChange fnExactHandWalkWrong)

/-- 'laws.FnExactHandCycle': WHATEVER THE INPUT: true; the input reads as it did. -/
def fnExactHandCycleSpec : ChangeSpec := { name := "fnExactHandCycle", fn := fun _ => fun
  | [d1, d2] => { results := [.lit (.bool true)], args := [d1, d2] }
  | _ => none }
def fnExactHandCycleRow : OpenClaim := { program := "ytkknnikhpembiaa", sum := "af44ff9f83c6b3b1fa676274b13e8fdcbfdd07cfe9bd98748e819c7a8d614929", func := "loop.example/g00990/laws.FnExactHandCycle", spec := "fnExactHandCycle", apart := false }
def FnExactHandCycleSaid : Prop := fnExactHandCycleRow.holds Try.pinned (OpenSpec.ofChange fnExactHandCycleSpec)

/-- ITS FALSE NEIGHBOUR: 'it returns false'. Refute it at one input. -/
def fnExactHandCycleWrong : ChangeSpec := { name := "fnExactHandCycle", fn := fun _ => fun
  | [d1, d2] => { results := [.lit (.bool false)], args := [d1, d2] }
  | _ => none }
def FnExactHandCycleWrongFalsely : Prop := fnExactHandCycleRow.holds Try.pinned (OpenSpec.ofChange fnExactHandCycleWrong)

/-- 'laws.FnExactHandReaches': WHATEVER THE INPUT: true; the input reads as it did. -/
def fnExactHandReachesSpec : ChangeSpec := { name := "fnExactHandReaches", fn := fun _ => fun
  | [d1, d2, d3] => { results := [.lit (.bool true)], args := [d1, d2, d3] }
  | _ => none }
def fnExactHandReachesRow : OpenClaim := { program := "ytkknnikhpembiaa", sum := "af44ff9f83c6b3b1fa676274b13e8fdcbfdd07cfe9bd98748e819c7a8d614929", func := "loop.example/g00990/laws.FnExactHandReaches", spec := "fnExactHandReaches", unfollowed := true, recurses := true, apart := false }
def FnExactHandReachesSaid : Prop := fnExactHandReachesRow.holds Try.pinned (OpenSpec.ofChange fnExactHandReachesSpec)

/-- ITS FALSE NEIGHBOUR: 'it returns false'. Refute it at one input. -/
def fnExactHandReachesWrong : ChangeSpec := { name := "fnExactHandReaches", fn := fun _ => fun
  | [d1, d2, d3] => { results := [.lit (.bool false)], args := [d1, d2, d3] }
  | _ => none }
def FnExactHandReachesWrongFalsely : Prop := fnExactHandReachesRow.holds Try.pinned (OpenSpec.ofChange fnExactHandReachesWrong)

/-- 'laws.FnExactCellsVisited': WHATEVER THE INPUT: true; the input reads as it did. -/
def fnExactCellsVisitedSpec : ChangeSpec := { name := "fnExactCellsVisited", fn := fun _ => fun
  | [d1, d2] => { results := [.lit (.bool true)], args := [d1, d2] }
  | _ => none }
def fnExactCellsVisitedRow : OpenClaim := { program := "ytkknnikhpembiaa", sum := "af44ff9f83c6b3b1fa676274b13e8fdcbfdd07cfe9bd98748e819c7a8d614929", func := "loop.example/g00990/laws.FnExactCellsVisited", spec := "fnExactCellsVisited", recurses := true, apart := false }
def FnExactCellsVisitedSaid : Prop := fnExactCellsVisitedRow.holds Try.pinned (OpenSpec.ofChange fnExactCellsVisitedSpec)

/-- ITS FALSE NEIGHBOUR: 'it returns false'. Refute it at one input. -/
def fnExactCellsVisitedWrong : ChangeSpec := { name := "fnExactCellsVisited", fn := fun _ => fun
  | [d1, d2] => { results := [.lit (.bool false)], args := [d1, d2] }
  | _ => none }
def FnExactCellsVisitedWrongFalsely : Prop := fnExactCellsVisitedRow.holds Try.pinned (OpenSpec.ofChange fnExactCellsVisitedWrong)

/- THE SECOND FORM. 'bulk': how many values and letters a reading holds, each counted each time it is reached (what is shared counts as often as it is met; a slice's spare places count too). A statement '..UptoSaid' is the law's where the arguments, and the package variables that the reading takes, are together of bulk at most 1048576: NARROWER than '..Said'. Prove '..Said' where nothing that the law and all that it calls make is longer than what came in: it says more and counts as full. Else prove '..UptoSaid'. A law counts once. -/
mutual
def uptoBulk {H : Type} : DataW H → Nat
  | .lit (.string bytes) => bytes.length + 1
  | .lit _ => 1
  | .nil => 1
  | .ptr d => uptoBulk d + 1
  | .slice elems spare => uptoBulkAll elems + uptoBulkAll spare + 1
  | .agg parts => uptoBulkAll parts + 1
  | .iface _ d => uptoBulk d + 1
  | .map entries => uptoBulkEntries entries + 1
  | .held _ => 1
def uptoBulkAll {H : Type} : List (DataW H) → Nat
  | [] => 0
  | d :: r => uptoBulk d + uptoBulkAll r
def uptoBulkEntries {H : Type} : List (Lit × DataW H) → Nat
  | [] => 0
  | x :: r => uptoBulkEntry x + uptoBulkEntries r
def uptoBulkEntry {H : Type} : Lit × DataW H → Nat
  | (.string bytes, d) => bytes.length + uptoBulk d + 1
  | (_, d) => uptoBulk d + 1
 end
def uptoSmall : (H : Type) → List (DataW H) → Bool := fun _ ds => decide (uptoBulkAll ds ≤ 1048576)
def OpenSpec.upto (s : _root_.Go.ChangeSpec) : _root_.Go.OpenSpec := { _root_.Go.OpenSpec.ofChange s with cond := some uptoSmall }

/-- 'laws.FnHands', WHERE WHAT IT READS IS OF BULK AT MOST 1048576: true; the input reads as it did. -/
def fnHandsUptoRow : OpenClaim := { program := "ytkknnikhpembiaa", sum := "af44ff9f83c6b3b1fa676274b13e8fdcbfdd07cfe9bd98748e819c7a8d614929", func := "loop.example/g00990/laws.FnHands", spec := "fnHands", unfollowed := true, recurses := true, apart := false, narrowed := true }
def FnHandsUptoSaid : Prop := fnHandsUptoRow.holds Try.pinned (OpenSpec.upto fnHandsSpec)

/-- 'laws.FnExactWalkerOk', WHERE WHAT IT READS IS OF BULK AT MOST 1048576: true; the input reads as it did. -/
def fnExactWalkerOkUptoRow : OpenClaim := { program := "ytkknnikhpembiaa", sum := "af44ff9f83c6b3b1fa676274b13e8fdcbfdd07cfe9bd98748e819c7a8d614929", func := "loop.example/g00990/laws.FnExactWalkerOk", spec := "fnExactWalkerOk", apart := false, narrowed := true }
def FnExactWalkerOkUptoSaid : Prop := fnExactWalkerOkUptoRow.holds Try.pinned (OpenSpec.upto fnExactWalkerOkSpec)

/-- 'laws.FnExactHandStep', WHERE WHAT IT READS IS OF BULK AT MOST 1048576: true; the input reads as it did. -/
def fnExactHandStepUptoRow : OpenClaim := { program := "ytkknnikhpembiaa", sum := "af44ff9f83c6b3b1fa676274b13e8fdcbfdd07cfe9bd98748e819c7a8d614929", func := "loop.example/g00990/laws.FnExactHandStep", spec := "fnExactHandStep", apart := false, narrowed := true }
def FnExactHandStepUptoSaid : Prop := fnExactHandStepUptoRow.holds Try.pinned (OpenSpec.upto fnExactHandStepSpec)

/-- 'laws.FnExactHandWalk', WHERE WHAT IT READS IS OF BULK AT MOST 1048576: true; the input reads as it did. -/
def fnExactHandWalkUptoRow : OpenClaim := { program := "ytkknnikhpembiaa", sum := "af44ff9f83c6b3b1fa676274b13e8fdcbfdd07cfe9bd98748e819c7a8d614929", func := "loop.example/g00990/laws.FnExactHandWalk", spec := "fnExactHandWalk", apart := false, narrowed := true }
def FnExactHandWalkUptoSaid : Prop := fnExactHandWalkUptoRow.holds Try.pinned (OpenSpec.upto fnExactHandWalkSpec)

/-- 'laws.FnExactHandCycle', WHERE WHAT IT READS IS OF BULK AT MOST 1048576: true; the input reads as it did. -/
def fnExactHandCycleUptoRow : OpenClaim := { program := "ytkknnikhpembiaa", sum := "af44ff9f83c6b3b1fa676274b13e8fdcbfdd07cfe9bd98748e819c7a8d614929", func := "loop.example/g00990/laws.FnExactHandCycle", spec := "fnExactHandCycle", apart := false, narrowed := true }
def FnExactHandCycleUptoSaid : Prop := fnExactHandCycleUptoRow.holds Try.pinned (OpenSpec.upto fnExactHandCycleSpec)

/-- 'laws.FnExactHandReaches', WHERE WHAT IT READS IS OF BULK AT MOST 1048576: true; the input reads as it did. -/
def fnExactHandReachesUptoRow : OpenClaim := { program := "ytkknnikhpembiaa", sum := "af44ff9f83c6b3b1fa676274b13e8fdcbfdd07cfe9bd98748e819c7a8d614929", func := "loop.example/g00990/laws.FnExactHandReaches", spec := "fnExactHandReaches", unfollowed := true, recurses := true, apart := false, narrowed := true }
def FnExactHandReachesUptoSaid : Prop := fnExactHandReachesUptoRow.holds Try.pinned (OpenSpec.upto fnExactHandReachesSpec)

/-- 'laws.FnExactCellsVisited', WHERE WHAT IT READS IS OF BULK AT MOST 1048576: true; the input reads as it did. -/
def fnExactCellsVisitedUptoRow : OpenClaim := { program := "ytkknnikhpembiaa", sum := "af44ff9f83c6b3b1fa676274b13e8fdcbfdd07cfe9bd98748e819c7a8d614929", func := "loop.example/g00990/laws.FnExactCellsVisited", spec := "fnExactCellsVisited", recurses := true, apart := false, narrowed := true }
def FnExactCellsVisitedUptoSaid : Prop := fnExactCellsVisitedUptoRow.holds Try.pinned (OpenSpec.upto fnExactCellsVisitedSpec)

end Rows
end Go.Proofs.Ytkknnikhpembiaa
