/- The contracts of the model's search: whether a maze has a cell, and the distances of all cells from one. -/
import Derived.Test.YtcoikcnijaniaaaMzB
import Derived.Test.YtcoikcnijaniaaaModM

namespace Go.Proofs.Ytcoikcnijaniaaa.reachS
open Go.ChangeShapes Go.WideShapes Go.ChangeAt Go.RowKit
open draw gridP gridC bitP mazeP mazeC mazeM mazeS intsP reachP reachM reachN reachD
set_option linter.unusedVariables false

theorem has_any (x y z a : Int) (W : World) :
    Calls Try.prog 64 #[.agg #[.int .i64 x, .int .i64 y, .int .i64 z], .int .i64 a] W (Bl (hasB x y z a) W) := by
  have HB := Lib.hid below_box
  have HO := Lib.hid (fun X => ok_any x y z X)
  by_cases hv : OkM x y z
  · rw [show okB x y z = true from decide_eq_true hv] at HO
    obtain ⟨⟨h1, h2, h3, h4⟩, -, -⟩ := id hv
    have HC : Hid (∀ X, Calls Try.prog 11 #[.agg #[.int .i64 x, .int .i64 y]] X (Nm (x * y) X)) := fun X => gridS.countCells_yes x y X h1 h2 h3 h4
    have hcc := (mul_bd x y h1 h2 h3 h4).1
    have he : inB a 0 (x * y - 1) = hasB x y z a := by unfold inB hasB; rw [Bool.eq_iff_iff]; simp [hv]; omega
    have HK := @Lib.hid _ (fun w' b => @bl_mk _ (hasB x y z a) W w' he b)
    clear hv he h1 h2 h3 h4
    generalize x * y = N at *
    go_enter Try.func64, Try.ntmps64
    go_wp2_with fail
    refine (HO.out _).mono ?_
    rintro e w1 ⟨rfl, hb⟩
    have hbl1 := Lib.hid (below_call (HB.out _ _) hb)
    have hxc1 := Lib.hid ((mbox_new x y z W _).call hb)
    clear hb
    obtain ⟨c0, c1, c2⟩ := hxc1.out.1
    go_wp2_with fail
    refine (HC.out _).mono ?_
    rintro e w2 ⟨rfl, hb⟩
    have hbl2 := Lib.hid (below_call hbl1.out hb)
    have hxc2 := Lib.hid (hxc1.out.call hb)
    clear hb hbl1  hxc1 c0 c1 c2
    obtain ⟨c0, c1, c2⟩ := hxc2.out.1
    go_wp2_with fail
    refine (in_b _ _ _ _).mono ?_
    rintro e w' ⟨rfl, rfl⟩
    go_wp2_with fail
    go_ret
    exact HK.out _ hbl2.out
  · rw [show okB x y z = false from decide_eq_false hv] at HO
    have he : false = hasB x y z a := by unfold hasB; symm; rw [decide_eq_false_iff_not]; exact fun e => hv e.1
    have HK := @Lib.hid _ (fun w' b => @bl_mk _ (hasB x y z a) W w' he b)
    clear hv he
    go_enter Try.func64, Try.ntmps64
    go_wp2_with fail
    refine (HO.out _).mono ?_
    rintro e w1 ⟨rfl, hb⟩
    have hbl1 := Lib.hid (below_call (HB.out _ _) hb)
    have hxc1 := Lib.hid ((mbox_new x y z W _).call hb)
    clear hb
    obtain ⟨c0, c1, c2⟩ := hxc1.out.1
    go_wp2_with fail
    go_ret
    exact HK.out _ hbl1.out

end Go.Proofs.Ytcoikcnijaniaaa.reachS

/- The contracts of the model's exported functions on reaching cells. -/
namespace Go.Proofs.Ytcoikcnijaniaaa.reachS
open Go.ChangeShapes Go.WideShapes Go.ChangeAt Go.RowKit
open draw gridP gridC bitP mazeP mazeC mazeM mazeS intsP reachP reachM reachN reachD
set_option linter.unusedVariables false

end Go.Proofs.Ytcoikcnijaniaaa.reachS

/- The contracts of the model's count of parts and of its farthest cell. -/
namespace Go.Proofs.Ytcoikcnijaniaaa.reachS
open Go.ChangeShapes Go.WideShapes Go.ChangeAt Go.RowKit
open draw gridP gridC bitP mazeP mazeC mazeM mazeS intsP reachP reachM reachN reachD
set_option linter.unusedVariables false

end Go.Proofs.Ytcoikcnijaniaaa.reachS
