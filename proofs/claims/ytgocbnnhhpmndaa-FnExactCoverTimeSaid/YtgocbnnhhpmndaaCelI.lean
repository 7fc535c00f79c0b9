/- How many cells an int has. -/
import Derived.Test.YtgocbnnhhpmndaaBase
namespace Go.Proofs.Ytgocbnnhhpmndaa.celI
set_option maxRecDepth 100000 in
theorem cellsInt : Try.prog.cellsOf 3 = 1 := by kernel_rfl
end Go.Proofs.Ytgocbnnhhpmndaa.celI
