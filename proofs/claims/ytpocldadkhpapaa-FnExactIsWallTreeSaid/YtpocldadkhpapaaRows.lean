/-
  No cell of these rows narrows 'for every input' (looked for: loops, veiled, ifaces, maps, wideKeys, modest, calm, conditions, laid).
  DERIVED. THE GIVEN ROWS OF THIS SEAT. 8 by the template 'for every input the law returns true; each argument reads behind the call as it read before'; 0 by the template 'total and deterministic' (their statements: YtpocldadkhpapaaTotals.lean).
  GIVEN WITH THE SEED: the statements are not yours to turn. If you find one false, say at which input.
  Laid BY PROGRAM, IN A SANDBOX (cutbox-rows.mjs): the forced cells as the released guide's own fill.sh prints them over the translation 1bc4f30b66265f40… (all of the seat's roots in one cut). By AI agents, Wed Nov 11 2026. No macro, syntax, notation, axiom, sorry.
-/
import Derived.Test.YtpocldadkhpapaaChecked
import GoSem.Claim
import GoSem.ClaimJoined
import GoSem.ClaimMapViews
import Derived.JoinedTies
import Derived.KernelRfl
namespace Go.Proofs.Ytpocldadkhpapaa
/- THE CELL 'sum', in the pinned program and in every row, IS THE sha256 OF THE DUMP (.gsa) THAT YtpocldadkhpapaaProg.lean LOADS. Nothing in Lean hashes anything: it is a label: what it is worth is what the hold of that sum in a sandbox is worth. -/
noncomputable def Try.pinned : Pinned := { name := "ytpocldadkhpapaa", sum := "1bc4f30b66265f408c8685bfccca14c85660d5c8c049fcd5ef6b0eac44a002a2", checked := Try.checked }
namespace Rows
def none {H : Type} : Left H := { results := [], args := [] }

/-- 'laws.FnWalls': WHATEVER THE INPUT: true; the input reads as it did. -/
def fnWallsSpec : ChangeSpec := { name := "fnWalls", fn := fun _ => fun
  | [d] => { results := [.lit (.bool true)], args := [d] }
  | _ => none }
def fnWallsRow : OpenClaim := { program := "ytpocldadkhpapaa", sum := "1bc4f30b66265f408c8685bfccca14c85660d5c8c049fcd5ef6b0eac44a002a2", func := "loop.example/g00990/laws.FnWalls", spec := "fnWalls", apart := false }
def FnWallsSaid : Prop := fnWallsRow.holds Try.pinned (OpenSpec.ofChange fnWallsSpec)

/-- ITS FALSE NEIGHBOUR: 'it returns false'. Refute it at one input. -/
def fnWallsWrong : ChangeSpec := { name := "fnWalls", fn := fun _ => fun
  | [d] => { results := [.lit (.bool false)], args := [d] }
  | _ => none }
def FnWallsWrongFalsely : Prop := fnWallsRow.holds Try.pinned (OpenSpec.ofChange fnWallsWrong)

/-- 'laws.FnCorners': WHATEVER THE INPUT: true; the input reads as it did. -/
def fnCornersSpec : ChangeSpec := { name := "fnCorners", fn := fun _ => fun
  | [d] => { results := [.lit (.bool true)], args := [d] }
  | _ => none }
def fnCornersRow : OpenClaim := { program := "ytpocldadkhpapaa", sum := "1bc4f30b66265f408c8685bfccca14c85660d5c8c049fcd5ef6b0eac44a002a2", func := "loop.example/g00990/laws.FnCorners", spec := "fnCorners", apart := false }
def FnCornersSaid : Prop := fnCornersRow.holds Try.pinned (OpenSpec.ofChange fnCornersSpec)

/-- ITS FALSE NEIGHBOUR: 'it returns false'. Refute it at one input. -/
def fnCornersWrong : ChangeSpec := { name := "fnCorners", fn := fun _ => fun
  | [d] => { results := [.lit (.bool false)], args := [d] }
  | _ => none }
def FnCornersWrongFalsely : Prop := fnCornersRow.holds Try.pinned (OpenSpec.ofChange fnCornersWrong)

/-- 'laws.FnExactCountCorners': WHATEVER THE INPUT: true; the input reads as it did. -/
def fnExactCountCornersSpec : ChangeSpec := { name := "fnExactCountCorners", fn := fun _ => fun
  | [d] => { results := [.lit (.bool true)], args := [d] }
  | _ => none }
def fnExactCountCornersRow : OpenClaim := { program := "ytpocldadkhpapaa", sum := "1bc4f30b66265f408c8685bfccca14c85660d5c8c049fcd5ef6b0eac44a002a2", func := "loop.example/g00990/laws.FnExactCountCorners", spec := "fnExactCountCorners", apart := false }
def FnExactCountCornersSaid : Prop := fnExactCountCornersRow.holds Try.pinned (OpenSpec.ofChange fnExactCountCornersSpec)

/-- ITS FALSE NEIGHBOUR: 'it returns false'. Refute it at one input. -/
def fnExactCountCornersWrong : ChangeSpec := { name := "fnExactCountCorners", fn := fun _ => fun
  | [d] => { results := [.lit (.bool false)], args := [d] }
  | _ => none }
def FnExactCountCornersWrongFalsely : Prop := fnExactCountCornersRow.holds Try.pinned (OpenSpec.ofChange fnExactCountCornersWrong)

/-- 'laws.FnExactCornersOf': WHATEVER THE INPUT: true; the input reads as it did. -/
def fnExactCornersOfSpec : ChangeSpec := { name := "fnExactCornersOf", fn := fun _ => fun
  | [d1, d2] => { results := [.lit (.bool true)], args := [d1, d2] }
  | _ => none }
def fnExactCornersOfRow : OpenClaim := { program := "ytpocldadkhpapaa", sum := "1bc4f30b66265f408c8685bfccca14c85660d5c8c049fcd5ef6b0eac44a002a2", func := "loop.example/g00990/laws.FnExactCornersOf", spec := "fnExactCornersOf", apart := false }
def FnExactCornersOfSaid : Prop := fnExactCornersOfRow.holds Try.pinned (OpenSpec.ofChange fnExactCornersOfSpec)

/-- ITS FALSE NEIGHBOUR: 'it returns false'. Refute it at one input. -/
def fnExactCornersOfWrong : ChangeSpec := { name := "fnExactCornersOf", fn := fun _ => fun
  | [d1, d2] => { results := [.lit (.bool false)], args := [d1, d2] }
  | _ => none }
def FnExactCornersOfWrongFalsely : Prop := fnExactCornersOfRow.holds Try.pinned (OpenSpec.ofChange fnExactCornersOfWrong)

/-- 'laws.FnExactIsEdgeCorner': WHATEVER THE INPUT: true; the input reads as it did. -/
def fnExactIsEdgeCornerSpec : ChangeSpec := { name := "fnExactIsEdgeCorner", fn := fun _ => fun
  | [d1, d2] => { results := [.lit (.bool true)], args := [d1, d2] }
  | _ => none }
def fnExactIsEdgeCornerRow : OpenClaim := { program := "ytpocldadkhpapaa", sum := "1bc4f30b66265f408c8685bfccca14c85660d5c8c049fcd5ef6b0eac44a002a2", func := "loop.example/g00990/laws.FnExactIsEdgeCorner", spec := "fnExactIsEdgeCorner", apart := false }
def FnExactIsEdgeCornerSaid : Prop := fnExactIsEdgeCornerRow.holds Try.pinned (OpenSpec.ofChange fnExactIsEdgeCornerSpec)

/-- ITS FALSE NEIGHBOUR: 'it returns false'. Refute it at one input. -/
def fnExactIsEdgeCornerWrong : ChangeSpec := { name := "fnExactIsEdgeCorner", fn := fun _ => fun
  | [d1, d2] => { results := [.lit (.bool false)], args := [d1, d2] }
  | _ => none }
def FnExactIsEdgeCornerWrongFalsely : Prop := fnExactIsEdgeCornerRow.holds Try.pinned (OpenSpec.ofChange fnExactIsEdgeCornerWrong)

/-- 'laws.FnExactWallParts': WHATEVER THE INPUT: true; the input reads as it did. -/
def fnExactWallPartsSpec : ChangeSpec := { name := "fnExactWallParts", fn := fun _ => fun
  | [d] => { results := [.lit (.bool true)], args := [d] }
  | _ => none }
def fnExactWallPartsRow : OpenClaim := { program := "ytpocldadkhpapaa", sum := "1bc4f30b66265f408c8685bfccca14c85660d5c8c049fcd5ef6b0eac44a002a2", func := "loop.example/g00990/laws.FnExactWallParts", spec := "fnExactWallParts", apart := false }
def FnExactWallPartsSaid : Prop := fnExactWallPartsRow.holds Try.pinned (OpenSpec.ofChange fnExactWallPartsSpec)

/-- ITS FALSE NEIGHBOUR: 'it returns false'. Refute it at one input. -/
def fnExactWallPartsWrong : ChangeSpec := { name := "fnExactWallParts", fn := fun _ => fun
  | [d] => { results := [.lit (.bool false)], args := [d] }
  | _ => none }
def FnExactWallPartsWrongFalsely : Prop := fnExactWallPartsRow.holds Try.pinned (OpenSpec.ofChange fnExactWallPartsWrong)

/-- 'laws.FnExactWallLoops': WHATEVER THE INPUT: true; the input reads as it did. -/
def fnExactWallLoopsSpec : ChangeSpec := { name := "fnExactWallLoops", fn := fun _ => fun
  | [d] => { results := [.lit (.bool true)], args := [d] }
  | _ => none }
def fnExactWallLoopsRow : OpenClaim := { program := "ytpocldadkhpapaa", sum := "1bc4f30b66265f408c8685bfccca14c85660d5c8c049fcd5ef6b0eac44a002a2", func := "loop.example/g00990/laws.FnExactWallLoops", spec := "fnExactWallLoops", apart := false }
def FnExactWallLoopsSaid : Prop := fnExactWallLoopsRow.holds Try.pinned (OpenSpec.ofChange fnExactWallLoopsSpec)

/-- ITS FALSE NEIGHBOUR: 'it returns false'. Refute it at one input. -/
def fnExactWallLoopsWrong : ChangeSpec := { name := "fnExactWallLoops", fn := fun _ => fun
  | [d] => { results := [.lit (.bool false)], args := [d] }
  | _ => none }
def FnExactWallLoopsWrongFalsely : Prop := fnExactWallLoopsRow.holds Try.pinned (OpenSpec.ofChange fnExactWallLoopsWrong)

/-- 'laws.FnExactIsWallTree': WHATEVER THE INPUT: true; the input reads as it did. -/
def fnExactIsWallTreeSpec : ChangeSpec := { name := "fnExactIsWallTree", fn := fun _ => fun
  | [d] => { results := [.lit (.bool true)], args := [d] }
  | _ => none }
def fnExactIsWallTreeRow : OpenClaim := { program := "ytpocldadkhpapaa", sum := "1bc4f30b66265f408c8685bfccca14c85660d5c8c049fcd5ef6b0eac44a002a2", func := "loop.example/g00990/laws.FnExactIsWallTree", spec := "fnExactIsWallTree", apart := false }
def FnExactIsWallTreeSaid : Prop := fnExactIsWallTreeRow.holds Try.pinned (OpenSpec.ofChange fnExactIsWallTreeSpec)

/-- ITS FALSE NEIGHBOUR: 'it returns false'. Refute it at one input. -/
def fnExactIsWallTreeWrong : ChangeSpec := { name := "fnExactIsWallTree", fn := fun _ => fun
  | [d] => { results := [.lit (.bool false)], args := [d] }
  | _ => none }
def FnExactIsWallTreeWrongFalsely : Prop := fnExactIsWallTreeRow.holds Try.pinned (OpenSpec.ofChange fnExactIsWallTreeWrong)

/- THE SECOND FORM. 'bulk': how many values and letters a reading holds, each counted each time it is reached (what is shared counts as often as it is met; a slice's spare places count too). A statement '..UptoSaid' is the law's where the arguments, and the package variables that the reading takes, are together of bulk at most 1048576: NARROWER than '..Said'. Prove '..Said' where nothing that the law and all that it calls make is longer than what came in: it says more and counts as full. Else prove '..UptoSaid'. A law counts once. -/
mutual
def uptoBulk {H : Type} : DataW H → Nat
  | .lit (.string bytes) => bytes.length + 1
  | .lit _ => 1
  | .nil => 1
  | .ptr d => uptoBulk d + 1
  | .slice elems spare => uptoBulkAll elems + uptoBulkAll spare + 1
  | .agg parts => uptoBulkAll parts + 1
  | .iface _ d => uptoBulk d + 1
  | .map entries => uptoBulkEntries entries + 1
  | .held _ => 1
def uptoBulkAll {H : Type} : List (DataW H) → Nat
  | [] => 0
  | d :: r => uptoBulk d + uptoBulkAll r
def uptoBulkEntries {H : Type} : List (Lit × DataW H) → Nat
  | [] => 0
  | x :: r => uptoBulkEntry x + uptoBulkEntries r
def uptoBulkEntry {H : Type} : Lit × DataW H → Nat
  | (.string bytes, d) => bytes.length + uptoBulk d + 1
  | (_, d) => uptoBulk d + 1
 end
def uptoSmall : (H : Type) → List (DataW H) → Bool := fun _ ds => decide (uptoBulkAll ds ≤ 1048576)
def OpenSpec.upto (s : _root_.Go.ChangeSpec) : _root_.Go.OpenSpec := { _root_.Go.OpenSpec.ofChange s with cond := some uptoSmall }

/-- 'laws.FnWalls', WHERE WHAT IT READS IS OF BULK AT MOST 1048576: true; the input reads as it did. -/
def fnWallsUptoRow : OpenClaim := { program := "ytpocldadkhpapaa", sum := "1bc4f30b66265f408c8685bfccca14c85660d5c8c049fcd5ef6b0eac44a002a2", func := "loop.example/g00990/laws.FnWalls", spec := "fnWalls", apart := false, narrowed := true }
def FnWallsUptoSaid : Prop := fnWallsUptoRow.holds Try.pinned (OpenSpec.upto fnWallsSpec)

/-- 'laws.FnCorners', WHERE WHAT IT READS IS OF BULK AT MOST 1048576: true; the input reads as it did. -/
def fnCornersUptoRow : OpenClaim := { program := "ytpocldadkhpapaa", sum := "1bc4f30b66265f408c8685bfccca14c85660d5c8c049fcd5ef6b0eac44a002a2", func := "loop.example/g00990/laws.FnCorners", spec := "fnCorners", apart := false, narrowed := true }
def FnCornersUptoSaid : Prop := fnCornersUptoRow.holds Try.pinned (OpenSpec.upto fnCornersSpec)

/-- 'laws.FnExactCountCorners', WHERE WHAT IT READS IS OF BULK AT MOST 1048576: true; the input reads as it did. -/
def fnExactCountCornersUptoRow : OpenClaim := { program := "ytpocldadkhpapaa", sum := "1bc4f30b66265f408c8685bfccca14c85660d5c8c049fcd5ef6b0eac44a002a2", func := "loop.example/g00990/laws.FnExactCountCorners", spec := "fnExactCountCorners", apart := false, narrowed := true }
def FnExactCountCornersUptoSaid : Prop := fnExactCountCornersUptoRow.holds Try.pinned (OpenSpec.upto fnExactCountCornersSpec)

/-- 'laws.FnExactCornersOf', WHERE WHAT IT READS IS OF BULK AT MOST 1048576: true; the input reads as it did. -/
def fnExactCornersOfUptoRow : OpenClaim := { program := "ytpocldadkhpapaa", sum := "1bc4f30b66265f408c8685bfccca14c85660d5c8c049fcd5ef6b0eac44a002a2", func := "loop.example/g00990/laws.FnExactCornersOf", spec := "fnExactCornersOf", apart := false, narrowed := true }
def FnExactCornersOfUptoSaid : Prop := fnExactCornersOfUptoRow.holds Try.pinned (OpenSpec.upto fnExactCornersOfSpec)

/-- 'laws.FnExactIsEdgeCorner', WHERE WHAT IT READS IS OF BULK AT MOST 1048576: true; the input reads as it did. -/
def fnExactIsEdgeCornerUptoRow : OpenClaim := { program := "ytpocldadkhpapaa", sum := "1bc4f30b66265f408c8685bfccca14c85660d5c8c049fcd5ef6b0eac44a002a2", func := "loop.example/g00990/laws.FnExactIsEdgeCorner", spec := "fnExactIsEdgeCorner", apart := false, narrowed := true }
def FnExactIsEdgeCornerUptoSaid : Prop := fnExactIsEdgeCornerUptoRow.holds Try.pinned (OpenSpec.upto fnExactIsEdgeCornerSpec)

/-- 'laws.FnExactWallParts', WHERE WHAT IT READS IS OF BULK AT MOST 1048576: true; the input reads as it did. -/
def fnExactWallPartsUptoRow : OpenClaim := { program := "ytpocldadkhpapaa", sum := "1bc4f30b66265f408c8685bfccca14c85660d5c8c049fcd5ef6b0eac44a002a2", func := "loop.example/g00990/laws.FnExactWallParts", spec := "fnExactWallParts", apart := false, narrowed := true }
def FnExactWallPartsUptoSaid : Prop := fnExactWallPartsUptoRow.holds Try.pinned (OpenSpec.upto fnExactWallPartsSpec)

/-- 'laws.FnExactWallLoops', WHERE WHAT IT READS IS OF BULK AT MOST 1048576: true; the input reads as it did. -/
def fnExactWallLoopsUptoRow : OpenClaim := { program := "ytpocldadkhpapaa", sum := "1bc4f30b66265f408c8685bfccca14c85660d5c8c049fcd5ef6b0eac44a002a2", func := "loop.example/g00990/laws.FnExactWallLoops", spec := "fnExactWallLoops", apart := false, narrowed := true }
def FnExactWallLoopsUptoSaid : Prop := fnExactWallLoopsUptoRow.holds Try.pinned (OpenSpec.upto fnExactWallLoopsSpec)

/-- 'laws.FnExactIsWallTree', WHERE WHAT IT READS IS OF BULK AT MOST 1048576: true; the input reads as it did. -/
def fnExactIsWallTreeUptoRow : OpenClaim := { program := "ytpocldadkhpapaa", sum := "1bc4f30b66265f408c8685bfccca14c85660d5c8c049fcd5ef6b0eac44a002a2", func := "loop.example/g00990/laws.FnExactIsWallTree", spec := "fnExactIsWallTree", apart := false, narrowed := true }
def FnExactIsWallTreeUptoSaid : Prop := fnExactIsWallTreeUptoRow.holds Try.pinned (OpenSpec.upto fnExactIsWallTreeSpec)

end Rows
end Go.Proofs.Ytpocldadkhpapaa
