/- How many perfect mazes have a passage at a gap; bounds: without the program. -/
import Derived.Test.YtnfnandpcjgmmaaCntF
namespace Go.Proofs.Ytnfnandpcjgmmaa.cntN
open gridP gridC gridE bitP mazeP mazeQ mazeC mazeM mazeR reachD reachM forest deadP detP trsP barP trcP cntP cntQ
set_option linter.unusedVariables false

/-- How many of the perfect mazes of a maze have a passage at a gap. -/
def cwZ (x y z g : Int) : Int := if psB x y z g = true then ctZ x y z - ctZ x y (sgZ x y z g false) else 0
theorem ctz_bd (x y z : Int) : 0 ≤ ctZ x y z ∧ ctZ x y z ≤ 16777216 := by
  unfold ctZ
  split
  · rename_i hv
    have h1 := ct_bd x y z.toNat
    have h2 : 2 ^ gN x y ≤ 2 ^ 24 := Nat.pow_le_pow_right (by decide) (by have := gps_bd hv.1.1 hv.1.2.1 hv.1.2.2.1 hv.1.2.2.2; unfold gN; omega)
    have e2 : (2 ^ 24 : Nat) = 16777216 := rfl
    omega
  · omega
end Go.Proofs.Ytnfnandpcjgmmaa.cntN
namespace Go.Proofs.Ytnfnandpcjgmmaa.cntU
open gridP gridC gridE bitP mazeP mazeQ mazeC mazeM mazeR reachD reachM forest deadP detP trsP barP trcP cntP cntQ cntF
set_option linter.unusedVariables false

theorem cf_bd (x y c b : Int) : 0 ≤ cfZ x y c b ∧ cfZ x y c b ≤ 16777216 := by
  unfold cfZ
  split
  · rename_i h
    have h1 : tcN x y c.toNat b.toNat ≤ 2 ^ gN x y := cnt_most _ _
    have hk : OkZ x y := by
      unfold cfB at h
      rw [Bool.and_eq_true, Bool.and_eq_true, Bool.and_eq_true] at h
      exact of_decide_eq_true h.1.1.1
    have h2 : 2 ^ gN x y ≤ 2 ^ 24 := Nat.pow_le_pow_right (by decide) (by have := gps_bd hk.1 hk.2.1 hk.2.2.1 hk.2.2.2; unfold gN; omega)
    have e2 : (2 ^ 24 : Nat) = 16777216 := rfl
    omega
  · omega
end Go.Proofs.Ytnfnandpcjgmmaa.cntU
