/- Whether a grid has a gap of a number. -/
import Derived.Test.YthakbjdkcdppjaaBase
namespace Go.Proofs.Ythakbjdkcdppjaa.gridH
open Go.ChangeShapes Go.WideShapes Go.ChangeAt Go.RowKit
open draw gridP gridC
set_option linter.unusedVariables false

theorem hasGap_yes (w h g : Int) (W : World) (h1 : 1 ≤ w) (h2 : w ≤ 4) (h3 : 1 ≤ h) (h4 : h ≤ 4) (g0 : 0 ≤ g) (g1 : g < ((w - 1) * h + w * (h - 1))) :
    Calls Try.prog 49 #[.agg #[.int .i64 w, .int .i64 h], .int .i64 g] W (Bl true W) := by
  have HK := @Lib.hid _ (fun w' b => @bl_mk true true W w' rfl b)
  have HB := Lib.hid below_box
  have HG : Hid (∀ X, Calls Try.prog 46 #[.agg #[.int .i64 w, .int .i64 h]] X (Nm (((w - 1) * h + w * (h - 1))) X)) := fun X => gaps_any w h X h1 h2 h3 h4
  go_enter Try.func49, Try.ntmps49
  go_wp2_with fail
  refine (HG.out _).mono ?_
  rintro e w1 ⟨rfl, hb⟩
  have hbl1 := Lib.hid (below_call (HB.out _ _) hb)
  clear hb
  go_wp2_with fail
  go_ret
  exact HK.out _ hbl1.out

theorem hasGap_no (w h g : Int) (W : World) (h1 : 1 ≤ w) (h2 : w ≤ 4) (h3 : 1 ≤ h) (h4 : h ≤ 4) (hn : ¬ (0 ≤ g ∧ g < ((w - 1) * h + w * (h - 1)))) :
    Calls Try.prog 49 #[.agg #[.int .i64 w, .int .i64 h], .int .i64 g] W (Bl false W) := by
  have HK := @Lib.hid _ (fun w' b => @bl_mk false false W w' rfl b)
  have HB := Lib.hid below_box
  have HG : Hid (∀ X, Calls Try.prog 46 #[.agg #[.int .i64 w, .int .i64 h]] X (Nm (((w - 1) * h + w * (h - 1))) X)) := fun X => gaps_any w h X h1 h2 h3 h4
  by_cases k0 : 0 ≤ g
  · have k1 : decide (g < ((w - 1) * h + w * (h - 1))) = false := by rw [decide_eq_false_iff_not]; exact fun e => hn ⟨k0, e⟩
    clear hn
    go_enter Try.func49, Try.ntmps49
    go_wp2_with fail
    refine (HG.out _).mono ?_
    rintro e w1 ⟨rfl, hb⟩
    have hbl1 := Lib.hid (below_call (HB.out _ _) hb)
    clear hb
    go_wp2_with fail
    go_ret
    exact HK.out _ hbl1.out
  · clear hn
    go_enter Try.func49, Try.ntmps49
    go_wp2_with fail
    go_ret
    exact HK.out _ (HB.out _ _)
end Go.Proofs.Ythakbjdkcdppjaa.gridH
