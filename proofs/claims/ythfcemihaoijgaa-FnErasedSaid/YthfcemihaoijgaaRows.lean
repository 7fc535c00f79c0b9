/-
  No cell of these rows narrows 'for every input' (looked for: loops, veiled, ifaces, maps, wideKeys, modest, calm, conditions, laid).
  DERIVED. THE GIVEN ROWS OF THIS SEAT. 5 by the template 'for every input the law returns true; each argument reads behind the call as it read before'; 0 by the template 'total and deterministic' (their statements: YthfcemihaoijgaaTotals.lean).
  GIVEN WITH THE SEED: the statements are not yours to turn. If you find one false, say at which input.
  Laid BY PROGRAM, IN A SANDBOX (cutbox-rows.mjs): the forced cells as the released guide's own fill.sh prints them over the translation 851bfd0082f2ca72… (all of the seat's roots in one cut). By AI agents, Wed Nov 11 2026. No macro, syntax, notation, axiom, sorry.
-/
import Derived.Test.YthfcemihaoijgaaChecked
import GoSem.Claim
import GoSem.ClaimJoined
import GoSem.ClaimMapViews
import Derived.JoinedTies
import Derived.KernelRfl
namespace Go.Proofs.Ythfcemihaoijgaa
/- THE CELL 'sum', in the pinned program and in every row, IS THE sha256 OF THE DUMP (.gsa) THAT YthfcemihaoijgaaProg.lean LOADS. Nothing in Lean hashes anything: it is a label: what it is worth is what the hold of that sum in a sandbox is worth. -/
noncomputable def Try.pinned : Pinned := { name := "ythfcemihaoijgaa", sum := "851bfd0082f2ca729222a1b21a2e472664c0762d5d0a9ebe4197188a90542d12", checked := Try.checked }
namespace Rows
def none {H : Type} : Left H := { results := [], args := [] }

/-- 'laws.FnErased': WHATEVER THE INPUT: true; the input reads as it did. -/
def fnErasedSpec : ChangeSpec := { name := "fnErased", fn := fun _ => fun
  | [d] => { results := [.lit (.bool true)], args := [d] }
  | _ => none }
def fnErasedRow : OpenClaim := { program := "ythfcemihaoijgaa", sum := "851bfd0082f2ca729222a1b21a2e472664c0762d5d0a9ebe4197188a90542d12", func := "loop.example/g00990/laws.FnErased", spec := "fnErased", apart := false }
def FnErasedSaid : Prop := fnErasedRow.holds Try.pinned (OpenSpec.ofChange fnErasedSpec)

/-- ITS FALSE NEIGHBOUR: 'it returns false'. Refute it at one input. -/
def fnErasedWrong : ChangeSpec := { name := "fnErased", fn := fun _ => fun
  | [d] => { results := [.lit (.bool false)], args := [d] }
  | _ => none }
def FnErasedWrongFalsely : Prop := fnErasedRow.holds Try.pinned (OpenSpec.ofChange fnErasedWrong)

/-- 'laws.FnExactEraseLoops': WHATEVER THE INPUT: true; the input reads as it did. -/
def fnExactEraseLoopsSpec : ChangeSpec := { name := "fnExactEraseLoops", fn := fun _ => fun
  | [d] => { results := [.lit (.bool true)], args := [d] }
  | _ => none }
def fnExactEraseLoopsRow : OpenClaim := { program := "ythfcemihaoijgaa", sum := "851bfd0082f2ca729222a1b21a2e472664c0762d5d0a9ebe4197188a90542d12", func := "loop.example/g00990/laws.FnExactEraseLoops", spec := "fnExactEraseLoops", apart := false }
def FnExactEraseLoopsSaid : Prop := fnExactEraseLoopsRow.holds Try.pinned (OpenSpec.ofChange fnExactEraseLoopsSpec)

/-- ITS FALSE NEIGHBOUR: 'it returns false'. Refute it at one input. -/
def fnExactEraseLoopsWrong : ChangeSpec := { name := "fnExactEraseLoops", fn := fun _ => fun
  | [d] => { results := [.lit (.bool false)], args := [d] }
  | _ => none }
def FnExactEraseLoopsWrongFalsely : Prop := fnExactEraseLoopsRow.holds Try.pinned (OpenSpec.ofChange fnExactEraseLoopsWrong)

/-- 'laws.FnExactIsSimple': WHATEVER THE INPUT: true; the input reads as it did. -/
def fnExactIsSimpleSpec : ChangeSpec := { name := "fnExactIsSimple", fn := fun _ => fun
  | [d] => { results := [.lit (.bool true)], args := [d] }
  | _ => none }
def fnExactIsSimpleRow : OpenClaim := { program := "ythfcemihaoijgaa", sum := "851bfd0082f2ca729222a1b21a2e472664c0762d5d0a9ebe4197188a90542d12", func := "loop.example/g00990/laws.FnExactIsSimple", spec := "fnExactIsSimple", apart := false }
def FnExactIsSimpleSaid : Prop := fnExactIsSimpleRow.holds Try.pinned (OpenSpec.ofChange fnExactIsSimpleSpec)

/-- ITS FALSE NEIGHBOUR: 'it returns false'. Refute it at one input. -/
def fnExactIsSimpleWrong : ChangeSpec := { name := "fnExactIsSimple", fn := fun _ => fun
  | [d] => { results := [.lit (.bool false)], args := [d] }
  | _ => none }
def FnExactIsSimpleWrongFalsely : Prop := fnExactIsSimpleRow.holds Try.pinned (OpenSpec.ofChange fnExactIsSimpleWrong)

/-- 'laws.FnExactCountErased': WHATEVER THE INPUT: true; the input reads as it did. -/
def fnExactCountErasedSpec : ChangeSpec := { name := "fnExactCountErased", fn := fun _ => fun
  | [d] => { results := [.lit (.bool true)], args := [d] }
  | _ => none }
def fnExactCountErasedRow : OpenClaim := { program := "ythfcemihaoijgaa", sum := "851bfd0082f2ca729222a1b21a2e472664c0762d5d0a9ebe4197188a90542d12", func := "loop.example/g00990/laws.FnExactCountErased", spec := "fnExactCountErased", apart := false }
def FnExactCountErasedSaid : Prop := fnExactCountErasedRow.holds Try.pinned (OpenSpec.ofChange fnExactCountErasedSpec)

/-- ITS FALSE NEIGHBOUR: 'it returns false'. Refute it at one input. -/
def fnExactCountErasedWrong : ChangeSpec := { name := "fnExactCountErased", fn := fun _ => fun
  | [d] => { results := [.lit (.bool false)], args := [d] }
  | _ => none }
def FnExactCountErasedWrongFalsely : Prop := fnExactCountErasedRow.holds Try.pinned (OpenSpec.ofChange fnExactCountErasedWrong)

/-- 'laws.FnExactEraseWay': WHATEVER THE INPUT: true; the input reads as it did. -/
def fnExactEraseWaySpec : ChangeSpec := { name := "fnExactEraseWay", fn := fun _ => fun
  | [d1, d2, d3] => { results := [.lit (.bool true)], args := [d1, d2, d3] }
  | _ => none }
def fnExactEraseWayRow : OpenClaim := { program := "ythfcemihaoijgaa", sum := "851bfd0082f2ca729222a1b21a2e472664c0762d5d0a9ebe4197188a90542d12", func := "loop.example/g00990/laws.FnExactEraseWay", spec := "fnExactEraseWay", apart := false }
def FnExactEraseWaySaid : Prop := fnExactEraseWayRow.holds Try.pinned (OpenSpec.ofChange fnExactEraseWaySpec)

/-- ITS FALSE NEIGHBOUR: 'it returns false'. Refute it at one input. -/
def fnExactEraseWayWrong : ChangeSpec := { name := "fnExactEraseWay", fn := fun _ => fun
  | [d1, d2, d3] => { results := [.lit (.bool false)], args := [d1, d2, d3] }
  | _ => none }
def FnExactEraseWayWrongFalsely : Prop := fnExactEraseWayRow.holds Try.pinned (OpenSpec.ofChange fnExactEraseWayWrong)

/- THE SECOND FORM. 'bulk': how many values and letters a reading holds, each counted each time it is reached (what is shared counts as often as it is met; a slice's spare places count too). A statement '..UptoSaid' is the law's where the arguments, and the package variables that the reading takes, are together of bulk at most 1048576: NARROWER than '..Said'. Prove '..Said' where nothing that the law and all that it calls make is longer than what came in: it says more and counts as full. Else prove '..UptoSaid'. A law counts once. -/
mutual
def uptoBulk {H : Type} : DataW H → Nat
  | .lit (.string bytes) => bytes.length + 1
  | .lit _ => 1
  | .nil => 1
  | .ptr d => uptoBulk d + 1
  | .slice elems spare => uptoBulkAll elems + uptoBulkAll spare + 1
  | .agg parts => uptoBulkAll parts + 1
  | .iface _ d => uptoBulk d + 1
  | .map entries => uptoBulkEntries entries + 1
  | .held _ => 1
def uptoBulkAll {H : Type} : List (DataW H) → Nat
  | [] => 0
  | d :: r => uptoBulk d + uptoBulkAll r
def uptoBulkEntries {H : Type} : List (Lit × DataW H) → Nat
  | [] => 0
  | x :: r => uptoBulkEntry x + uptoBulkEntries r
def uptoBulkEntry {H : Type} : Lit × DataW H → Nat
  | (.string bytes, d) => bytes.length + uptoBulk d + 1
  | (_, d) => uptoBulk d + 1
 end
def uptoSmall : (H : Type) → List (DataW H) → Bool := fun _ ds => decide (uptoBulkAll ds ≤ 1048576)
def OpenSpec.upto (s : _root_.Go.ChangeSpec) : _root_.Go.OpenSpec := { _root_.Go.OpenSpec.ofChange s with cond := some uptoSmall }

/-- 'laws.FnErased', WHERE WHAT IT READS IS OF BULK AT MOST 1048576: true; the input reads as it did. -/
def fnErasedUptoRow : OpenClaim := { program := "ythfcemihaoijgaa", sum := "851bfd0082f2ca729222a1b21a2e472664c0762d5d0a9ebe4197188a90542d12", func := "loop.example/g00990/laws.FnErased", spec := "fnErased", apart := false, narrowed := true }
def FnErasedUptoSaid : Prop := fnErasedUptoRow.holds Try.pinned (OpenSpec.upto fnErasedSpec)

/-- 'laws.FnExactEraseLoops', WHERE WHAT IT READS IS OF BULK AT MOST 1048576: true; the input reads as it did. -/
def fnExactEraseLoopsUptoRow : OpenClaim := { program := "ythfcemihaoijgaa", sum := "851bfd0082f2ca729222a1b21a2e472664c0762d5d0a9ebe4197188a90542d12", func := "loop.example/g00990/laws.FnExactEraseLoops", spec := "fnExactEraseLoops", apart := false, narrowed := true }
def FnExactEraseLoopsUptoSaid : Prop := fnExactEraseLoopsUptoRow.holds Try.pinned (OpenSpec.upto fnExactEraseLoopsSpec)

/-- 'laws.FnExactIsSimple', WHERE WHAT IT READS IS OF BULK AT MOST 1048576: true; the input reads as it did. -/
def fnExactIsSimpleUptoRow : OpenClaim := { program := "ythfcemihaoijgaa", sum := "851bfd0082f2ca729222a1b21a2e472664c0762d5d0a9ebe4197188a90542d12", func := "loop.example/g00990/laws.FnExactIsSimple", spec := "fnExactIsSimple", apart := false, narrowed := true }
def FnExactIsSimpleUptoSaid : Prop := fnExactIsSimpleUptoRow.holds Try.pinned (OpenSpec.upto fnExactIsSimpleSpec)

/-- 'laws.FnExactCountErased', WHERE WHAT IT READS IS OF BULK AT MOST 1048576: true; the input reads as it did. -/
def fnExactCountErasedUptoRow : OpenClaim := { program := "ythfcemihaoijgaa", sum := "851bfd0082f2ca729222a1b21a2e472664c0762d5d0a9ebe4197188a90542d12", func := "loop.example/g00990/laws.FnExactCountErased", spec := "fnExactCountErased", apart := false, narrowed := true }
def FnExactCountErasedUptoSaid : Prop := fnExactCountErasedUptoRow.holds Try.pinned (OpenSpec.upto fnExactCountErasedSpec)

/-- 'laws.FnExactEraseWay', WHERE WHAT IT READS IS OF BULK AT MOST 1048576: true; the input reads as it did. -/
def fnExactEraseWayUptoRow : OpenClaim := { program := "ythfcemihaoijgaa", sum := "851bfd0082f2ca729222a1b21a2e472664c0762d5d0a9ebe4197188a90542d12", func := "loop.example/g00990/laws.FnExactEraseWay", spec := "fnExactEraseWay", apart := false, narrowed := true }
def FnExactEraseWayUptoSaid : Prop := fnExactEraseWayUptoRow.holds Try.pinned (OpenSpec.upto fnExactEraseWaySpec)

end Rows
end Go.Proofs.Ythfcemihaoijgaa
