/- The contracts of the two functions Clamp: the program's and the model's answer the same number. -/
import Derived.Test.YtijpbjnghkkdeaaRows
import Derived.WalkKit
import Derived.ProofKit
import Derived.OpenShut
import Derived.WalkLawsBesides
namespace Go.Proofs.Ytijpbjnghkkdeaa.clampC
open Go.ChangeShapes Go.WideShapes Go.ChangeAt Go.RowKit

/-- The clamped number: the least where the range is empty or the number is below it. -/
def clampZ (n lo hi : Int) : Int := if hi < lo then lo else if n < lo then lo else if hi < n then hi else n

theorem ret_int {k : IntKind} {a b : Int} (h : a = b) : Ending.returned (.int k a) = .returned (.int k b) := by rw [h]

theorem impl_clamp (n lo hi : Int) (w : World) :
    Calls Try.prog 10 #[.int .i64 n, .int .i64 lo, .int .i64 hi] w fun e w' => e = .returned (.int .i64 (clampZ n lo hi)) ∧ w = w' := by
  go_enter Try.func10, Try.ntmps10
  go_wp2
  all_goals
    go_ret
    refine ⟨ret_int ?_, rfl⟩
    unfold clampZ
    repeat' split
    all_goals omega

theorem spec_clamp (n lo hi : Int) (w : World) :
    Calls Try.prog 20 #[.int .i64 n, .int .i64 lo, .int .i64 hi] w fun e w' => e = .returned (.int .i64 (clampZ n lo hi)) ∧ w = w' := by
  by_cases h1 : hi < lo
  · have e : clampZ n lo hi = lo := by unfold clampZ; simp [h1]
    rw [e]; clear e
    go_enter Try.func20, Try.ntmps20
    go_wp2
    go_ret
    exact ⟨rfl, rfl⟩
  · by_cases h2 : n < lo
    · have e : clampZ n lo hi = lo := by unfold clampZ; simp [h1, h2]
      rw [e]; clear e
      go_enter Try.func20, Try.ntmps20
      go_wp2
      go_ret
      exact ⟨rfl, rfl⟩
    · by_cases h3 : hi < n
      · have e : clampZ n lo hi = hi := by unfold clampZ; simp [h1, h2, h3]
        rw [e]; clear e
        go_enter Try.func20, Try.ntmps20
        go_wp2
        go_ret
        exact ⟨rfl, rfl⟩
      · have e : clampZ n lo hi = n := by unfold clampZ; simp [h1, h2, h3]
        rw [e]; clear e
        go_enter Try.func20, Try.ntmps20
        go_wp2
        go_ret
        exact ⟨rfl, rfl⟩
end Go.Proofs.Ytijpbjnghkkdeaa.clampC
