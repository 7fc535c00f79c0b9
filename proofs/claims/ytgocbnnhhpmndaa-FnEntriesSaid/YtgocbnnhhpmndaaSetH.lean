/- Whether a set of integers has one. -/
import Derived.Test.YtgocbnnhhpmndaaSetI

namespace Go.Proofs.Ytgocbnnhhpmndaa.setI
open Go.ChangeShapes Go.WideShapes Go.ChangeAt Go.RowKit Go.Maps
open draw gridP gridC intsP reachD intA
set_option linter.unusedVariables false

/-- Whether an integer is in a set. -/
theorem has_any (b n : Nat) (l : List Int) (u : Int) (W : World) (hs : SetR b n l W) (hu : -9223372036854775808 ≤ u ∧ u ≤ 9223372036854775807) :
    Calls Try.prog 61 #[.map (some b), .int .i64 u] W (Bl (decide (u ∈ l)) W) := by
  have HK := @Lib.hid _ (fun w' h => @bl_mk (decide (u ∈ l)) (decide (u ∈ l)) W w' rfl h)
  have hl := lookup_bool hs lawI Try.underlying72 Try.underlying4 (zeroB _) (key_int hu) (sd_at l u)
  have HR := Lib.hid (Below.refl W.heap.size W)
  generalize decide (u ∈ l) = v at *
  clear hs
  go_enter Try.func61, Try.ntmps61
  go_wp2_with fail
  go_ret
  exact HK.out _ HR.out
end Go.Proofs.Ytgocbnnhhpmndaa.setI
