/-
  No cell of these rows narrows 'for every input' (looked for: loops, veiled, ifaces, maps, wideKeys, modest, calm, conditions, laid).
  DERIVED. THE GIVEN ROWS OF THIS SEAT. 7 by the template 'for every input the law returns true; each argument reads behind the call as it read before'; 0 by the template 'total and deterministic' (their statements: YteigidafabnjpaaTotals.lean).
  GIVEN WITH THE SEED: the statements are not yours to turn. If you find one false, say at which input.
  Laid BY PROGRAM, IN A SANDBOX (cutbox-rows.mjs): the forced cells as the released guide's own fill.sh prints them over the translation 978d61d34ab361cc… (all of the seat's roots in one cut). By AI agents, Wed Nov 11 2026. No macro, syntax, notation, axiom, sorry.
-/
import Derived.Test.YteigidafabnjpaaChecked
import GoSem.Claim
import GoSem.ClaimJoined
import GoSem.ClaimMapViews
import Derived.JoinedTies
import Derived.KernelRfl
namespace Go.Proofs.Yteigidafabnjpaa
/- THE CELL 'sum', in the pinned program and in every row, IS THE sha256 OF THE DUMP (.gsa) THAT YteigidafabnjpaaProg.lean LOADS. Nothing in Lean hashes anything: it is a label: what it is worth is what the hold of that sum in a sandbox is worth. -/
noncomputable def Try.pinned : Pinned := { name := "yteigidafabnjpaa", sum := "978d61d34ab361cc69cca141715c321a2b2134248c0c3f8f77a3067c1f78341a", checked := Try.checked }
namespace Rows
def none {H : Type} : Left H := { results := [], args := [] }

/-- 'laws.FnWays': WHATEVER THE INPUT: true; the input reads as it did. -/
def fnWaysSpec : ChangeSpec := { name := "fnWays", fn := fun _ => fun
  | [d] => { results := [.lit (.bool true)], args := [d] }
  | _ => none }
def fnWaysRow : OpenClaim := { program := "yteigidafabnjpaa", sum := "978d61d34ab361cc69cca141715c321a2b2134248c0c3f8f77a3067c1f78341a", func := "loop.example/g00990/laws.FnWays", spec := "fnWays", inPlace := ["internal/abi.NoEscape", "internal/bytealg.IndexByteString"], apart := false }
def FnWaysSaid : Prop := fnWaysRow.holds Try.pinned (OpenSpec.ofChange fnWaysSpec)

/-- ITS FALSE NEIGHBOUR: 'it returns false'. Refute it at one input. -/
def fnWaysWrong : ChangeSpec := { name := "fnWays", fn := fun _ => fun
  | [d] => { results := [.lit (.bool false)], args := [d] }
  | _ => none }
def FnWaysWrongFalsely : Prop := fnWaysRow.holds Try.pinned (OpenSpec.ofChange fnWaysWrong)

/-- 'laws.FnExactWayBetween': WHATEVER THE INPUT: true; the input reads as it did. -/
def fnExactWayBetweenSpec : ChangeSpec := { name := "fnExactWayBetween", fn := fun _ => fun
  | [d1, d2, d3] => { results := [.lit (.bool true)], args := [d1, d2, d3] }
  | _ => none }
def fnExactWayBetweenRow : OpenClaim := { program := "yteigidafabnjpaa", sum := "978d61d34ab361cc69cca141715c321a2b2134248c0c3f8f77a3067c1f78341a", func := "loop.example/g00990/laws.FnExactWayBetween", spec := "fnExactWayBetween", apart := false }
def FnExactWayBetweenSaid : Prop := fnExactWayBetweenRow.holds Try.pinned (OpenSpec.ofChange fnExactWayBetweenSpec)

/-- ITS FALSE NEIGHBOUR: 'it returns false'. Refute it at one input. -/
def fnExactWayBetweenWrong : ChangeSpec := { name := "fnExactWayBetween", fn := fun _ => fun
  | [d1, d2, d3] => { results := [.lit (.bool false)], args := [d1, d2, d3] }
  | _ => none }
def FnExactWayBetweenWrongFalsely : Prop := fnExactWayBetweenRow.holds Try.pinned (OpenSpec.ofChange fnExactWayBetweenWrong)

/-- 'laws.FnExactWalkWay': WHATEVER THE INPUT: true; the input reads as it did. -/
def fnExactWalkWaySpec : ChangeSpec := { name := "fnExactWalkWay", fn := fun _ => fun
  | [d1, d2, d3] => { results := [.lit (.bool true)], args := [d1, d2, d3] }
  | _ => none }
def fnExactWalkWayRow : OpenClaim := { program := "yteigidafabnjpaa", sum := "978d61d34ab361cc69cca141715c321a2b2134248c0c3f8f77a3067c1f78341a", func := "loop.example/g00990/laws.FnExactWalkWay", spec := "fnExactWalkWay", apart := false }
def FnExactWalkWaySaid : Prop := fnExactWalkWayRow.holds Try.pinned (OpenSpec.ofChange fnExactWalkWaySpec)

/-- ITS FALSE NEIGHBOUR: 'it returns false'. Refute it at one input. -/
def fnExactWalkWayWrong : ChangeSpec := { name := "fnExactWalkWay", fn := fun _ => fun
  | [d1, d2, d3] => { results := [.lit (.bool false)], args := [d1, d2, d3] }
  | _ => none }
def FnExactWalkWayWrongFalsely : Prop := fnExactWalkWayRow.holds Try.pinned (OpenSpec.ofChange fnExactWalkWayWrong)

/-- 'laws.FnExactReverseWay': WHATEVER THE INPUT: true; the input reads as it did. -/
def fnExactReverseWaySpec : ChangeSpec := { name := "fnExactReverseWay", fn := fun _ => fun
  | [d] => { results := [.lit (.bool true)], args := [d] }
  | _ => none }
def fnExactReverseWayRow : OpenClaim := { program := "yteigidafabnjpaa", sum := "978d61d34ab361cc69cca141715c321a2b2134248c0c3f8f77a3067c1f78341a", func := "loop.example/g00990/laws.FnExactReverseWay", spec := "fnExactReverseWay", apart := false }
def FnExactReverseWaySaid : Prop := fnExactReverseWayRow.holds Try.pinned (OpenSpec.ofChange fnExactReverseWaySpec)

/-- ITS FALSE NEIGHBOUR: 'it returns false'. Refute it at one input. -/
def fnExactReverseWayWrong : ChangeSpec := { name := "fnExactReverseWay", fn := fun _ => fun
  | [d] => { results := [.lit (.bool false)], args := [d] }
  | _ => none }
def FnExactReverseWayWrongFalsely : Prop := fnExactReverseWayRow.holds Try.pinned (OpenSpec.ofChange fnExactReverseWayWrong)

/-- 'laws.FnExactCellsOn': WHATEVER THE INPUT: true; the input reads as it did. -/
def fnExactCellsOnSpec : ChangeSpec := { name := "fnExactCellsOn", fn := fun _ => fun
  | [d1, d2, d3] => { results := [.lit (.bool true)], args := [d1, d2, d3] }
  | _ => none }
def fnExactCellsOnRow : OpenClaim := { program := "yteigidafabnjpaa", sum := "978d61d34ab361cc69cca141715c321a2b2134248c0c3f8f77a3067c1f78341a", func := "loop.example/g00990/laws.FnExactCellsOn", spec := "fnExactCellsOn", apart := false }
def FnExactCellsOnSaid : Prop := fnExactCellsOnRow.holds Try.pinned (OpenSpec.ofChange fnExactCellsOnSpec)

/-- ITS FALSE NEIGHBOUR: 'it returns false'. Refute it at one input. -/
def fnExactCellsOnWrong : ChangeSpec := { name := "fnExactCellsOn", fn := fun _ => fun
  | [d1, d2, d3] => { results := [.lit (.bool false)], args := [d1, d2, d3] }
  | _ => none }
def FnExactCellsOnWrongFalsely : Prop := fnExactCellsOnRow.holds Try.pinned (OpenSpec.ofChange fnExactCellsOnWrong)

/-- 'laws.FnExactWayText': WHATEVER THE INPUT: true; the input reads as it did. -/
def fnExactWayTextSpec : ChangeSpec := { name := "fnExactWayText", fn := fun _ => fun
  | [d] => { results := [.lit (.bool true)], args := [d] }
  | _ => none }
def fnExactWayTextRow : OpenClaim := { program := "yteigidafabnjpaa", sum := "978d61d34ab361cc69cca141715c321a2b2134248c0c3f8f77a3067c1f78341a", func := "loop.example/g00990/laws.FnExactWayText", spec := "fnExactWayText", inPlace := ["internal/abi.NoEscape"], apart := false }
def FnExactWayTextSaid : Prop := fnExactWayTextRow.holds Try.pinned (OpenSpec.ofChange fnExactWayTextSpec)

/-- ITS FALSE NEIGHBOUR: 'it returns false'. Refute it at one input. -/
def fnExactWayTextWrong : ChangeSpec := { name := "fnExactWayText", fn := fun _ => fun
  | [d] => { results := [.lit (.bool false)], args := [d] }
  | _ => none }
def FnExactWayTextWrongFalsely : Prop := fnExactWayTextRow.holds Try.pinned (OpenSpec.ofChange fnExactWayTextWrong)

/-- 'laws.FnExactParseWay': WHATEVER THE INPUT: true; the input reads as it did. -/
def fnExactParseWaySpec : ChangeSpec := { name := "fnExactParseWay", fn := fun _ => fun
  | [d] => { results := [.lit (.bool true)], args := [d] }
  | _ => none }
def fnExactParseWayRow : OpenClaim := { program := "yteigidafabnjpaa", sum := "978d61d34ab361cc69cca141715c321a2b2134248c0c3f8f77a3067c1f78341a", func := "loop.example/g00990/laws.FnExactParseWay", spec := "fnExactParseWay", inPlace := ["internal/bytealg.IndexByteString"], apart := false }
def FnExactParseWaySaid : Prop := fnExactParseWayRow.holds Try.pinned (OpenSpec.ofChange fnExactParseWaySpec)

/-- ITS FALSE NEIGHBOUR: 'it returns false'. Refute it at one input. -/
def fnExactParseWayWrong : ChangeSpec := { name := "fnExactParseWay", fn := fun _ => fun
  | [d] => { results := [.lit (.bool false)], args := [d] }
  | _ => none }
def FnExactParseWayWrongFalsely : Prop := fnExactParseWayRow.holds Try.pinned (OpenSpec.ofChange fnExactParseWayWrong)

/- THE SECOND FORM. 'bulk': how many values and letters a reading holds, each counted each time it is reached (what is shared counts as often as it is met; a slice's spare places count too). A statement '..UptoSaid' is the law's where the arguments, and the package variables that the reading takes, are together of bulk at most 1048576: NARROWER than '..Said'. Prove '..Said' where nothing that the law and all that it calls make is longer than what came in: it says more and counts as full. Else prove '..UptoSaid'. A law counts once. -/
mutual
def uptoBulk {H : Type} : DataW H → Nat
  | .lit (.string bytes) => bytes.length + 1
  | .lit _ => 1
  | .nil => 1
  | .ptr d => uptoBulk d + 1
  | .slice elems spare => uptoBulkAll elems + uptoBulkAll spare + 1
  | .agg parts => uptoBulkAll parts + 1
  | .iface _ d => uptoBulk d + 1
  | .map entries => uptoBulkEntries entries + 1
  | .held _ => 1
def uptoBulkAll {H : Type} : List (DataW H) → Nat
  | [] => 0
  | d :: r => uptoBulk d + uptoBulkAll r
def uptoBulkEntries {H : Type} : List (Lit × DataW H) → Nat
  | [] => 0
  | x :: r => uptoBulkEntry x + uptoBulkEntries r
def uptoBulkEntry {H : Type} : Lit × DataW H → Nat
  | (.string bytes, d) => bytes.length + uptoBulk d + 1
  | (_, d) => uptoBulk d + 1
 end
def uptoSmall : (H : Type) → List (DataW H) → Bool := fun _ ds => decide (uptoBulkAll ds ≤ 1048576)
def OpenSpec.upto (s : _root_.Go.ChangeSpec) : _root_.Go.OpenSpec := { _root_.Go.OpenSpec.ofChange s with cond := some uptoSmall }

/-- 'laws.FnWays', WHERE WHAT IT READS IS OF BULK AT MOST 1048576: true; the input reads as it did. -/
def fnWaysUptoRow : OpenClaim := { program := "yteigidafabnjpaa", sum := "978d61d34ab361cc69cca141715c321a2b2134248c0c3f8f77a3067c1f78341a", func := "loop.example/g00990/laws.FnWays", spec := "fnWays", inPlace := ["internal/abi.NoEscape", "internal/bytealg.IndexByteString"], apart := false, narrowed := true }
def FnWaysUptoSaid : Prop := fnWaysUptoRow.holds Try.pinned (OpenSpec.upto fnWaysSpec)

/-- 'laws.FnExactWayBetween', WHERE WHAT IT READS IS OF BULK AT MOST 1048576: true; the input reads as it did. -/
def fnExactWayBetweenUptoRow : OpenClaim := { program := "yteigidafabnjpaa", sum := "978d61d34ab361cc69cca141715c321a2b2134248c0c3f8f77a3067c1f78341a", func := "loop.example/g00990/laws.FnExactWayBetween", spec := "fnExactWayBetween", apart := false, narrowed := true }
def FnExactWayBetweenUptoSaid : Prop := fnExactWayBetweenUptoRow.holds Try.pinned (OpenSpec.upto fnExactWayBetweenSpec)

/-- 'laws.FnExactWalkWay', WHERE WHAT IT READS IS OF BULK AT MOST 1048576: true; the input reads as it did. -/
def fnExactWalkWayUptoRow : OpenClaim := { program := "yteigidafabnjpaa", sum := "978d61d34ab361cc69cca141715c321a2b2134248c0c3f8f77a3067c1f78341a", func := "loop.example/g00990/laws.FnExactWalkWay", spec := "fnExactWalkWay", apart := false, narrowed := true }
def FnExactWalkWayUptoSaid : Prop := fnExactWalkWayUptoRow.holds Try.pinned (OpenSpec.upto fnExactWalkWaySpec)

/-- 'laws.FnExactReverseWay', WHERE WHAT IT READS IS OF BULK AT MOST 1048576: true; the input reads as it did. -/
def fnExactReverseWayUptoRow : OpenClaim := { program := "yteigidafabnjpaa", sum := "978d61d34ab361cc69cca141715c321a2b2134248c0c3f8f77a3067c1f78341a", func := "loop.example/g00990/laws.FnExactReverseWay", spec := "fnExactReverseWay", apart := false, narrowed := true }
def FnExactReverseWayUptoSaid : Prop := fnExactReverseWayUptoRow.holds Try.pinned (OpenSpec.upto fnExactReverseWaySpec)

/-- 'laws.FnExactCellsOn', WHERE WHAT IT READS IS OF BULK AT MOST 1048576: true; the input reads as it did. -/
def fnExactCellsOnUptoRow : OpenClaim := { program := "yteigidafabnjpaa", sum := "978d61d34ab361cc69cca141715c321a2b2134248c0c3f8f77a3067c1f78341a", func := "loop.example/g00990/laws.FnExactCellsOn", spec := "fnExactCellsOn", apart := false, narrowed := true }
def FnExactCellsOnUptoSaid : Prop := fnExactCellsOnUptoRow.holds Try.pinned (OpenSpec.upto fnExactCellsOnSpec)

/-- 'laws.FnExactWayText', WHERE WHAT IT READS IS OF BULK AT MOST 1048576: true; the input reads as it did. -/
def fnExactWayTextUptoRow : OpenClaim := { program := "yteigidafabnjpaa", sum := "978d61d34ab361cc69cca141715c321a2b2134248c0c3f8f77a3067c1f78341a", func := "loop.example/g00990/laws.FnExactWayText", spec := "fnExactWayText", inPlace := ["internal/abi.NoEscape"], apart := false, narrowed := true }
def FnExactWayTextUptoSaid : Prop := fnExactWayTextUptoRow.holds Try.pinned (OpenSpec.upto fnExactWayTextSpec)

/-- 'laws.FnExactParseWay', WHERE WHAT IT READS IS OF BULK AT MOST 1048576: true; the input reads as it did. -/
def fnExactParseWayUptoRow : OpenClaim := { program := "yteigidafabnjpaa", sum := "978d61d34ab361cc69cca141715c321a2b2134248c0c3f8f77a3067c1f78341a", func := "loop.example/g00990/laws.FnExactParseWay", spec := "fnExactParseWay", inPlace := ["internal/bytealg.IndexByteString"], apart := false, narrowed := true }
def FnExactParseWayUptoSaid : Prop := fnExactParseWayUptoRow.holds Try.pinned (OpenSpec.upto fnExactParseWaySpec)

end Rows
end Go.Proofs.Yteigidafabnjpaa
