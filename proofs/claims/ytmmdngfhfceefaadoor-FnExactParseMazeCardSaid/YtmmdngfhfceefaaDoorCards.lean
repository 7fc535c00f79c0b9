/-
  DERIVED. GIVEN WITH THE SEED: THE CARDS: each row of YtmmdngfhfceefaaDoorRows.lean that lists a variable, with what it lists TIED to the program's text (the seventh form; the later family's looks); each row that meets fmt, with fmt's text TOLD by the authors' own Lean function (tested against real Go, not proved from fmt's source: count such statements apart). THE CARD IS WHAT COUNTS. Prove the row's statement (the work); the ties are given (YtmmdngfhfceefaaDoorTie.lean); close each card by the builder's one call (the guide's Derived/Test/ToyasCard.lean, 'card_holds'). Laid BY PROGRAM, IN A SANDBOX (cutbox-door.mjs). By AI agents, Wed Nov 11 2026. No macro, syntax, notation, axiom, sorry.
-/
import Derived.Test.YtmmdngfhfceefaaDoorRows
import GoSem.ClaimSeven
namespace Go.Proofs.YtmmdngfhfceefaaDoor
namespace Rows

/-- THE TIED CARD OF 'laws.FnDrawings'. -/
def fnDrawingsCard : Claim7 := { stood := { row := fnDrawingsRow, standIns := [], harness := (true, "b2238a785b9fb1d9da1a7052a5302919b63de70d8173653b595aaea9ab228266"), looks := true }, kinds := [], alts := [], laidByText := true, laidKinds := [.data, .data, .data, .sentinel, .sentinel], laidTests := true, laidLooks := .later }
def FnDrawingsCardSaid : Prop := Claim7.holds Tryd.pinned (.plain (OpenSpec.ofChange fnDrawingsSpec)) fnDrawingsCard

/-- THE TIED CARD OF 'laws.FnExactMazeText'. -/
def fnExactMazeTextCard : Claim7 := { stood := { row := fnExactMazeTextRow, standIns := [], harness := (true, "b2238a785b9fb1d9da1a7052a5302919b63de70d8173653b595aaea9ab228266"), looks := true }, kinds := [], alts := [], laidByText := true, laidKinds := [.data, .data, .data], laidTests := true, laidLooks := .later }
def FnExactMazeTextCardSaid : Prop := Claim7.holds Tryd.pinned (.plain (OpenSpec.ofChange fnExactMazeTextSpec)) fnExactMazeTextCard

/-- THE TIED CARD OF 'laws.FnExactParseMaze'. -/
def fnExactParseMazeCard : Claim7 := { stood := { row := fnExactParseMazeRow, standIns := [], harness := (true, "b2238a785b9fb1d9da1a7052a5302919b63de70d8173653b595aaea9ab228266"), looks := true }, kinds := [], alts := [], laidByText := true, laidKinds := [.data, .data, .data, .sentinel, .sentinel], laidTests := true, laidLooks := .later }
def FnExactParseMazeCardSaid : Prop := Claim7.holds Tryd.pinned (.plain (OpenSpec.ofChange fnExactParseMazeSpec)) fnExactParseMazeCard

/-- THE SECOND FORM's CARD OF 'laws.FnDrawings'. -/
def fnDrawingsUptoCard : Claim7 := { stood := { row := fnDrawingsUptoRow, standIns := [], harness := (true, "b2238a785b9fb1d9da1a7052a5302919b63de70d8173653b595aaea9ab228266"), looks := true }, kinds := [], alts := [], laidByText := true, laidKinds := [.data, .data, .data, .sentinel, .sentinel], laidTests := true, laidLooks := .later }
def FnDrawingsUptoCardSaid : Prop := Claim7.holds Tryd.pinned (.plain (OpenSpec.upto fnDrawingsSpec)) fnDrawingsUptoCard

/-- THE SECOND FORM's CARD OF 'laws.FnExactMazeText'. -/
def fnExactMazeTextUptoCard : Claim7 := { stood := { row := fnExactMazeTextUptoRow, standIns := [], harness := (true, "b2238a785b9fb1d9da1a7052a5302919b63de70d8173653b595aaea9ab228266"), looks := true }, kinds := [], alts := [], laidByText := true, laidKinds := [.data, .data, .data], laidTests := true, laidLooks := .later }
def FnExactMazeTextUptoCardSaid : Prop := Claim7.holds Tryd.pinned (.plain (OpenSpec.upto fnExactMazeTextSpec)) fnExactMazeTextUptoCard

/-- THE SECOND FORM's CARD OF 'laws.FnExactParseMaze'. -/
def fnExactParseMazeUptoCard : Claim7 := { stood := { row := fnExactParseMazeUptoRow, standIns := [], harness := (true, "b2238a785b9fb1d9da1a7052a5302919b63de70d8173653b595aaea9ab228266"), looks := true }, kinds := [], alts := [], laidByText := true, laidKinds := [.data, .data, .data, .sentinel, .sentinel], laidTests := true, laidLooks := .later }
def FnExactParseMazeUptoCardSaid : Prop := Claim7.holds Tryd.pinned (.plain (OpenSpec.upto fnExactParseMazeSpec)) fnExactParseMazeUptoCard
end Rows
end Go.Proofs.YtmmdngfhfceefaaDoor
