/- The library's count of the places that are 1, for numbers below 2 to the power of 24. -/
import Derived.Test.YtomjfcmaoeoigaaGridC
import Derived.Test.YtomjfcmaoeoigaaBitP
import Derived.Outline
namespace Go.Proofs.Ytomjfcmaoeoigaa.mazeO
open Go.ChangeShapes Go.WideShapes Go.ChangeAt Go.RowKit
open bitP
set_option linter.unusedVariables false

end Go.Proofs.Ytomjfcmaoeoigaa.mazeO
