/- The contracts of the program's exported functions on grids: each answers the plain number or truth value, and leaves all that was there as it was. -/
import Derived.Test.YtomjfcmaoeoigaaGridC
namespace Go.Proofs.Ytomjfcmaoeoigaa.gridI
open Go.ChangeShapes Go.WideShapes Go.ChangeAt Go.RowKit
open draw gridP gridC
set_option linter.unusedVariables false

end Go.Proofs.Ytomjfcmaoeoigaa.gridI
