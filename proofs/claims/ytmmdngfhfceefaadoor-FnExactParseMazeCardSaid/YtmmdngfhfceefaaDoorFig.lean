/- The model's digit of a half byte. -/
import Derived.Test.YtmmdngfhfceefaaDoorHexP
import Derived.WalkKit
import Derived.ProofKit
import Derived.OpenShut
import Derived.Below
import Derived.LoopTactic
import Derived.OwnWalk
import Derived.Deep.RegionHeld3
import Derived.Deep.AppendLies
import Derived.Lib.Hide
import Derived.Outline
import Derived.Laws.BytesArg
import Derived.Laws.BitsLemmas
import Derived.Laws.MakeOwn
import Derived.Laws.IdiomStrings
namespace Go.Proofs.YtmmdngfhfceefaaDoor.fig
open Go.ChangeShapes Go.WideShapes Go.ChangeAt Go.RowKit
open hexP
set_option linter.unusedVariables false


theorem ret_u8 {a b : Int} (h : a = b) : Ending.returned (.int .u8 a) = .returned (.int .u8 b) := by rw [h]

/-- The model's digit of a half byte. -/
theorem figure_any (x : Int) (w : World) (h0 : 0 ≤ x) (h1 : x < 16) :
    Calls Tryd.prog 56 #[.int .i64 x] w fun e w' => e = .returned (.int .u8 ((fig x.toNat).toNat : Int)) ∧ w = w' := by
  have hf := fig_lt x.toNat (by omega)
  have HF := Lib.hid hf
  clear hf
  by_cases h : x < 10
  · go_enter Tryd.func56, Tryd.ntmps56
    go_wp2
    go_ret
    refine ⟨ret_u8 ?_, rfl⟩
    rw [HF.out, if_pos (by omega)]
    omega
  · go_enter Tryd.func56, Tryd.ntmps56
    go_wp2
    go_ret
    refine ⟨ret_u8 ?_, rfl⟩
    rw [HF.out, if_neg (by omega)]
    omega

end Go.Proofs.YtmmdngfhfceefaaDoor.fig
