/- The contracts of the model's functions on perfect mazes. -/
import Derived.Test.YtpocldadkhpapaaPerfP
import Derived.Test.YtpocldadkhpapaaRchM
namespace Go.Proofs.Ytpocldadkhpapaa.perfM
open Go.ChangeShapes Go.WideShapes Go.ChangeAt Go.RowKit
open draw gridP gridC gridE bitP mazeP mazeC mazeM mazeS intsP reachP reachM reachN reachD forest perfP
set_option linter.unusedVariables false

end Go.Proofs.Ytpocldadkhpapaa.perfM
