/- Whether a set of integers has one. -/
import Derived.Test.YthakbjdkcdppjaaSetI

namespace Go.Proofs.Ythakbjdkcdppjaa.setI
open Go.ChangeShapes Go.WideShapes Go.ChangeAt Go.RowKit Go.Maps
open draw gridP gridC intsP reachD intA
set_option linter.unusedVariables false

/-- Whether an integer is in a set. -/
theorem has_any (b n : Nat) (l : List Int) (u : Int) (W : World) (hs : SetR b n l W) (hu : -9223372036854775808 ≤ u ∧ u ≤ 9223372036854775807) :
    Calls Try.prog 47 #[.map (some b), .int .i64 u] W (Bl (decide (u ∈ l)) W) := by
  have HK := @Lib.hid _ (fun w' h => @bl_mk (decide (u ∈ l)) (decide (u ∈ l)) W w' rfl h)
  have hl := lookup_bool hs lawI Try.underlying47 Try.underlying4 (zeroB _) (key_int hu) (sd_at l u)
  have HR := Lib.hid (Below.refl W.heap.size W)
  generalize decide (u ∈ l) = v at *
  clear hs
  go_enter Try.func47, Try.ntmps47
  go_wp2_with fail
  go_ret
  exact HK.out _ HR.out
end Go.Proofs.Ythakbjdkcdppjaa.setI
