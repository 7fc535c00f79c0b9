/- The contracts of the model's search: whether a maze has a cell, and the distances of all cells from one. -/
import Derived.Test.YtpocldadkhpapaaMzB
import Derived.Test.YtpocldadkhpapaaModM

namespace Go.Proofs.Ytpocldadkhpapaa.reachS
open Go.ChangeShapes Go.WideShapes Go.ChangeAt Go.RowKit
open draw gridP gridC bitP mazeP mazeC mazeM mazeS intsP reachP reachM reachN reachD
set_option linter.unusedVariables false

end Go.Proofs.Ytpocldadkhpapaa.reachS

/- The contracts of the model's exported functions on reaching cells. -/
namespace Go.Proofs.Ytpocldadkhpapaa.reachS
open Go.ChangeShapes Go.WideShapes Go.ChangeAt Go.RowKit
open draw gridP gridC bitP mazeP mazeC mazeM mazeS intsP reachP reachM reachN reachD
set_option linter.unusedVariables false

end Go.Proofs.Ytpocldadkhpapaa.reachS

/- The contracts of the model's count of parts and of its farthest cell. -/
namespace Go.Proofs.Ytpocldadkhpapaa.reachS
open Go.ChangeShapes Go.WideShapes Go.ChangeAt Go.RowKit
open draw gridP gridC bitP mazeP mazeC mazeM mazeS intsP reachP reachM reachN reachD
set_option linter.unusedVariables false

end Go.Proofs.Ytpocldadkhpapaa.reachS
