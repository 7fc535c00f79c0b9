/-
  No cell of these rows narrows 'for every input' (looked for: loops, veiled, ifaces, maps, wideKeys, modest, calm, conditions, laid).
  DERIVED. THE GIVEN ROWS OF THIS SEAT. 6 by the template 'for every input the law returns true; each argument reads behind the call as it read before'; 0 by the template 'total and deterministic' (their statements: YtakfnhclemmmpaaTotals.lean).
  GIVEN WITH THE SEED: the statements are not yours to turn. If you find one false, say at which input.
  Laid BY PROGRAM, IN A SANDBOX (cutbox-rows.mjs): the forced cells as the released guide's own fill.sh prints them over the translation 5093c8876dc695fe… (all of the seat's roots in one cut). By AI agents, Wed Nov 11 2026. No macro, syntax, notation, axiom, sorry.
-/
import Derived.Test.YtakfnhclemmmpaaChecked
import GoSem.Claim
import GoSem.ClaimJoined
import GoSem.ClaimMapViews
import Derived.JoinedTies
import Derived.KernelRfl
namespace Go.Proofs.Ytakfnhclemmmpaa
/- THE CELL 'sum', in the pinned program and in every row, IS THE sha256 OF THE DUMP (.gsa) THAT YtakfnhclemmmpaaProg.lean LOADS. Nothing in Lean hashes anything: it is a label: what it is worth is what the hold of that sum in a sandbox is worth. -/
noncomputable def Try.pinned : Pinned := { name := "ytakfnhclemmmpaa", sum := "5093c8876dc695fec279a99eb54498212e313b38823ff141896453481fbed589", checked := Try.checked }
namespace Rows
def none {H : Type} : Left H := { results := [], args := [] }

/-- 'laws.FnDeadEnds': WHATEVER THE INPUT: true; the input reads as it did. -/
def fnDeadEndsSpec : ChangeSpec := { name := "fnDeadEnds", fn := fun _ => fun
  | [d] => { results := [.lit (.bool true)], args := [d] }
  | _ => none }
def fnDeadEndsRow : OpenClaim := { program := "ytakfnhclemmmpaa", sum := "5093c8876dc695fec279a99eb54498212e313b38823ff141896453481fbed589", func := "loop.example/g00990/laws.FnDeadEnds", spec := "fnDeadEnds", unfollowed := true, recurses := true, apart := false }
def FnDeadEndsSaid : Prop := fnDeadEndsRow.holds Try.pinned (OpenSpec.ofChange fnDeadEndsSpec)

/-- ITS FALSE NEIGHBOUR: 'it returns false'. Refute it at one input. -/
def fnDeadEndsWrong : ChangeSpec := { name := "fnDeadEnds", fn := fun _ => fun
  | [d] => { results := [.lit (.bool false)], args := [d] }
  | _ => none }
def FnDeadEndsWrongFalsely : Prop := fnDeadEndsRow.holds Try.pinned (OpenSpec.ofChange fnDeadEndsWrong)

/-- 'laws.FnExactDeadEnds': WHATEVER THE INPUT: true; the input reads as it did. -/
def fnExactDeadEndsSpec : ChangeSpec := { name := "fnExactDeadEnds", fn := fun _ => fun
  | [d] => { results := [.lit (.bool true)], args := [d] }
  | _ => none }
def fnExactDeadEndsRow : OpenClaim := { program := "ytakfnhclemmmpaa", sum := "5093c8876dc695fec279a99eb54498212e313b38823ff141896453481fbed589", func := "loop.example/g00990/laws.FnExactDeadEnds", spec := "fnExactDeadEnds", unfollowed := true, recurses := true, apart := false }
def FnExactDeadEndsSaid : Prop := fnExactDeadEndsRow.holds Try.pinned (OpenSpec.ofChange fnExactDeadEndsSpec)

/-- ITS FALSE NEIGHBOUR: 'it returns false'. Refute it at one input. -/
def fnExactDeadEndsWrong : ChangeSpec := { name := "fnExactDeadEnds", fn := fun _ => fun
  | [d] => { results := [.lit (.bool false)], args := [d] }
  | _ => none }
def FnExactDeadEndsWrongFalsely : Prop := fnExactDeadEndsRow.holds Try.pinned (OpenSpec.ofChange fnExactDeadEndsWrong)

/-- 'laws.FnExactJunctions': WHATEVER THE INPUT: true; the input reads as it did. -/
def fnExactJunctionsSpec : ChangeSpec := { name := "fnExactJunctions", fn := fun _ => fun
  | [d] => { results := [.lit (.bool true)], args := [d] }
  | _ => none }
def fnExactJunctionsRow : OpenClaim := { program := "ytakfnhclemmmpaa", sum := "5093c8876dc695fec279a99eb54498212e313b38823ff141896453481fbed589", func := "loop.example/g00990/laws.FnExactJunctions", spec := "fnExactJunctions", unfollowed := true, recurses := true, apart := false }
def FnExactJunctionsSaid : Prop := fnExactJunctionsRow.holds Try.pinned (OpenSpec.ofChange fnExactJunctionsSpec)

/-- ITS FALSE NEIGHBOUR: 'it returns false'. Refute it at one input. -/
def fnExactJunctionsWrong : ChangeSpec := { name := "fnExactJunctions", fn := fun _ => fun
  | [d] => { results := [.lit (.bool false)], args := [d] }
  | _ => none }
def FnExactJunctionsWrongFalsely : Prop := fnExactJunctionsRow.holds Try.pinned (OpenSpec.ofChange fnExactJunctionsWrong)

/-- 'laws.FnExactCountStraight': WHATEVER THE INPUT: true; the input reads as it did. -/
def fnExactCountStraightSpec : ChangeSpec := { name := "fnExactCountStraight", fn := fun _ => fun
  | [d] => { results := [.lit (.bool true)], args := [d] }
  | _ => none }
def fnExactCountStraightRow : OpenClaim := { program := "ytakfnhclemmmpaa", sum := "5093c8876dc695fec279a99eb54498212e313b38823ff141896453481fbed589", func := "loop.example/g00990/laws.FnExactCountStraight", spec := "fnExactCountStraight", unfollowed := true, recurses := true, apart := false }
def FnExactCountStraightSaid : Prop := fnExactCountStraightRow.holds Try.pinned (OpenSpec.ofChange fnExactCountStraightSpec)

/-- ITS FALSE NEIGHBOUR: 'it returns false'. Refute it at one input. -/
def fnExactCountStraightWrong : ChangeSpec := { name := "fnExactCountStraight", fn := fun _ => fun
  | [d] => { results := [.lit (.bool false)], args := [d] }
  | _ => none }
def FnExactCountStraightWrongFalsely : Prop := fnExactCountStraightRow.holds Try.pinned (OpenSpec.ofChange fnExactCountStraightWrong)

/-- 'laws.FnExactBranchSum': WHATEVER THE INPUT: true; the input reads as it did. -/
def fnExactBranchSumSpec : ChangeSpec := { name := "fnExactBranchSum", fn := fun _ => fun
  | [d] => { results := [.lit (.bool true)], args := [d] }
  | _ => none }
def fnExactBranchSumRow : OpenClaim := { program := "ytakfnhclemmmpaa", sum := "5093c8876dc695fec279a99eb54498212e313b38823ff141896453481fbed589", func := "loop.example/g00990/laws.FnExactBranchSum", spec := "fnExactBranchSum", apart := false }
def FnExactBranchSumSaid : Prop := fnExactBranchSumRow.holds Try.pinned (OpenSpec.ofChange fnExactBranchSumSpec)

/-- ITS FALSE NEIGHBOUR: 'it returns false'. Refute it at one input. -/
def fnExactBranchSumWrong : ChangeSpec := { name := "fnExactBranchSum", fn := fun _ => fun
  | [d] => { results := [.lit (.bool false)], args := [d] }
  | _ => none }
def FnExactBranchSumWrongFalsely : Prop := fnExactBranchSumRow.holds Try.pinned (OpenSpec.ofChange fnExactBranchSumWrong)

/-- 'laws.FnExactFillDeadEnds': WHATEVER THE INPUT: true; the input reads as it did. -/
def fnExactFillDeadEndsSpec : ChangeSpec := { name := "fnExactFillDeadEnds", fn := fun _ => fun
  | [d1, d2] => { results := [.lit (.bool true)], args := [d1, d2] }
  | _ => none }
def fnExactFillDeadEndsRow : OpenClaim := { program := "ytakfnhclemmmpaa", sum := "5093c8876dc695fec279a99eb54498212e313b38823ff141896453481fbed589", func := "loop.example/g00990/laws.FnExactFillDeadEnds", spec := "fnExactFillDeadEnds", unfollowed := true, recurses := true, apart := false }
def FnExactFillDeadEndsSaid : Prop := fnExactFillDeadEndsRow.holds Try.pinned (OpenSpec.ofChange fnExactFillDeadEndsSpec)

/-- ITS FALSE NEIGHBOUR: 'it returns false'. Refute it at one input. -/
def fnExactFillDeadEndsWrong : ChangeSpec := { name := "fnExactFillDeadEnds", fn := fun _ => fun
  | [d1, d2] => { results := [.lit (.bool false)], args := [d1, d2] }
  | _ => none }
def FnExactFillDeadEndsWrongFalsely : Prop := fnExactFillDeadEndsRow.holds Try.pinned (OpenSpec.ofChange fnExactFillDeadEndsWrong)

/- THE SECOND FORM. 'bulk': how many values and letters a reading holds, each counted each time it is reached (what is shared counts as often as it is met; a slice's spare places count too). A statement '..UptoSaid' is the law's where the arguments, and the package variables that the reading takes, are together of bulk at most 1048576: NARROWER than '..Said'. Prove '..Said' where nothing that the law and all that it calls make is longer than what came in: it says more and counts as full. Else prove '..UptoSaid'. A law counts once. -/
mutual
def uptoBulk {H : Type} : DataW H → Nat
  | .lit (.string bytes) => bytes.length + 1
  | .lit _ => 1
  | .nil => 1
  | .ptr d => uptoBulk d + 1
  | .slice elems spare => uptoBulkAll elems + uptoBulkAll spare + 1
  | .agg parts => uptoBulkAll parts + 1
  | .iface _ d => uptoBulk d + 1
  | .map entries => uptoBulkEntries entries + 1
  | .held _ => 1
def uptoBulkAll {H : Type} : List (DataW H) → Nat
  | [] => 0
  | d :: r => uptoBulk d + uptoBulkAll r
def uptoBulkEntries {H : Type} : List (Lit × DataW H) → Nat
  | [] => 0
  | x :: r => uptoBulkEntry x + uptoBulkEntries r
def uptoBulkEntry {H : Type} : Lit × DataW H → Nat
  | (.string bytes, d) => bytes.length + uptoBulk d + 1
  | (_, d) => uptoBulk d + 1
 end
def uptoSmall : (H : Type) → List (DataW H) → Bool := fun _ ds => decide (uptoBulkAll ds ≤ 1048576)
def OpenSpec.upto (s : _root_.Go.ChangeSpec) : _root_.Go.OpenSpec := { _root_.Go.OpenSpec.ofChange s with cond := some uptoSmall }

/-- 'laws.FnDeadEnds', WHERE WHAT IT READS IS OF BULK AT MOST 1048576: true; the input reads as it did. -/
def fnDeadEndsUptoRow : OpenClaim := { program := "ytakfnhclemmmpaa", sum := "5093c8876dc695fec279a99eb54498212e313b38823ff141896453481fbed589", func := "loop.example/g00990/laws.FnDeadEnds", spec := "fnDeadEnds", unfollowed := true, recurses := true, apart := false, narrowed := true }
def FnDeadEndsUptoSaid : Prop := fnDeadEndsUptoRow.holds Try.pinned (OpenSpec.upto fnDeadEndsSpec)

/-- 'laws.FnExactDeadEnds', WHERE WHAT IT READS IS OF BULK AT MOST 1048576: true; the input reads as it did. -/
def fnExactDeadEndsUptoRow : OpenClaim := { program := "ytakfnhclemmmpaa", sum := "5093c8876dc695fec279a99eb54498212e313b38823ff141896453481fbed589", func := "loop.example/g00990/laws.FnExactDeadEnds", spec := "fnExactDeadEnds", unfollowed := true, recurses := true, apart := false, narrowed := true }
def FnExactDeadEndsUptoSaid : Prop := fnExactDeadEndsUptoRow.holds Try.pinned (OpenSpec.upto fnExactDeadEndsSpec)

/-- 'laws.FnExactJunctions', WHERE WHAT IT READS IS OF BULK AT MOST 1048576: true; the input reads as it did. -/
def fnExactJunctionsUptoRow : OpenClaim := { program := "ytakfnhclemmmpaa", sum := "5093c8876dc695fec279a99eb54498212e313b38823ff141896453481fbed589", func := "loop.example/g00990/laws.FnExactJunctions", spec := "fnExactJunctions", unfollowed := true, recurses := true, apart := false, narrowed := true }
def FnExactJunctionsUptoSaid : Prop := fnExactJunctionsUptoRow.holds Try.pinned (OpenSpec.upto fnExactJunctionsSpec)

/-- 'laws.FnExactCountStraight', WHERE WHAT IT READS IS OF BULK AT MOST 1048576: true; the input reads as it did. -/
def fnExactCountStraightUptoRow : OpenClaim := { program := "ytakfnhclemmmpaa", sum := "5093c8876dc695fec279a99eb54498212e313b38823ff141896453481fbed589", func := "loop.example/g00990/laws.FnExactCountStraight", spec := "fnExactCountStraight", unfollowed := true, recurses := true, apart := false, narrowed := true }
def FnExactCountStraightUptoSaid : Prop := fnExactCountStraightUptoRow.holds Try.pinned (OpenSpec.upto fnExactCountStraightSpec)

/-- 'laws.FnExactBranchSum', WHERE WHAT IT READS IS OF BULK AT MOST 1048576: true; the input reads as it did. -/
def fnExactBranchSumUptoRow : OpenClaim := { program := "ytakfnhclemmmpaa", sum := "5093c8876dc695fec279a99eb54498212e313b38823ff141896453481fbed589", func := "loop.example/g00990/laws.FnExactBranchSum", spec := "fnExactBranchSum", apart := false, narrowed := true }
def FnExactBranchSumUptoSaid : Prop := fnExactBranchSumUptoRow.holds Try.pinned (OpenSpec.upto fnExactBranchSumSpec)

/-- 'laws.FnExactFillDeadEnds', WHERE WHAT IT READS IS OF BULK AT MOST 1048576: true; the input reads as it did. -/
def fnExactFillDeadEndsUptoRow : OpenClaim := { program := "ytakfnhclemmmpaa", sum := "5093c8876dc695fec279a99eb54498212e313b38823ff141896453481fbed589", func := "loop.example/g00990/laws.FnExactFillDeadEnds", spec := "fnExactFillDeadEnds", unfollowed := true, recurses := true, apart := false, narrowed := true }
def FnExactFillDeadEndsUptoSaid : Prop := fnExactFillDeadEndsUptoRow.holds Try.pinned (OpenSpec.upto fnExactFillDeadEndsSpec)

end Rows
end Go.Proofs.Ytakfnhclemmmpaa
