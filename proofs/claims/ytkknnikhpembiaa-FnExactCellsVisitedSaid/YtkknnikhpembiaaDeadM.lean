/- The contracts of the model's functions on dead ends. -/
import Derived.Test.YtkknnikhpembiaaDeadR
import Derived.Test.YtkknnikhpembiaaRchM
import Derived.Test.YtkknnikhpembiaaListK
namespace Go.Proofs.Ytkknnikhpembiaa.deadM
open Go.ChangeShapes Go.WideShapes Go.ChangeAt Go.RowKit
open draw gridP gridC gridE bitP mazeP mazeC mazeM mazeR mazeS intsP reachP reachM reachN reachD intA listK forest deadP deadR
set_option linter.unusedVariables false

/-- How many cells a grid has, 0 where there is no such grid. -/
def clO (x y : Int) : Int := if OkZ x y then x * y else 0
theorem cellsO (x y : Int) (X : World) : Calls Try.prog 12 #[.agg #[.int .i64 x, .int .i64 y]] X (Nm (clO x y) X) := by
  unfold clO; split
  · rename_i h; exact gridS.countCells_yes x y X h.1 h.2.1 h.2.2.1 h.2.2.2
  · rename_i h; exact gridS.countCells_no x y X h
theorem clO_yes {x y : Int} (hk : OkZ x y) : clO x y = (cN x y : Int) := by unfold clO; rw [if_pos hk]; exact (nn3 hk).1
/-- The rounds that are left are enough. -/
def FQ (x y z : Int) (f : Nat) : Prop := OkM x y z → pcN z.toNat (gN x y) ≤ f
theorem fq_start (x y z : Int) : FQ x y z 24 := fun h => by
  obtain ⟨h1, h2, h3, h4⟩ := h.1
  have := gps_bd h1 h2 h3 h4
  have := pcN_le z.toNat (gN x y)
  unfold gN at *
  omega
theorem wl_le4 (x y z k : Int) : (wlZ x y z k).length ≤ 4 := wlN_len x y z k 4

theorem bs_bd (x y z : Int) : ∀ k : Nat, -(2 * (k : Int)) ≤ bsN x y z k ∧ bsN x y z k ≤ 4 * (k : Int)
  | 0 => by unfold bsN; omega
  | k + 1 => by
    have h1 := bs_bd x y z k
    have h2 := wl_le4 x y z k
    unfold bsN
    split <;> omega

theorem wl_dir (x y z k : Int) : ∀ d ∈ wlZ x y z k, 0 ≤ d ∧ d ≤ 3 := by
  have key : ∀ n : Nat, ∀ d ∈ wlN x y z k n, 0 ≤ d ∧ d < n := by
    intro n
    induction n with
    | zero => intro d hd; cases hd
    | succ n ih =>
      intro d hd
      unfold wlN at hd
      split at hd
      · rcases List.mem_append.1 hd with h | h
        · have := ih d h; omega
        · have : d = (n : Int) := by simpa using h
          omega
      · have := ih d hd; omega
  intro d hd
  have := key 4 d hd
  omega

end Go.Proofs.Ytkknnikhpembiaa.deadM
