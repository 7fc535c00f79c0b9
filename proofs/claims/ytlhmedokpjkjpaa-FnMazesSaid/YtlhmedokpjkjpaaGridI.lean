/- The contracts of the program's exported functions on grids: each answers the plain number or truth value, and leaves all that was there as it was. -/
import Derived.Test.YtlhmedokpjkjpaaGridC
namespace Go.Proofs.Ytlhmedokpjkjpaa.gridI
open Go.ChangeShapes Go.WideShapes Go.ChangeAt Go.RowKit
open draw gridP gridC
set_option linter.unusedVariables false

theorem countGaps_yes (w h : Int) (W : World) (h1 : 1 ≤ w) (h2 : w ≤ 4) (h3 : 1 ≤ h) (h4 : h ≤ 4) :
    Calls Try.prog 22 #[.agg #[.int .i64 w, .int .i64 h]] W (Nm ((w - 1) * h + w * (h - 1)) W) := by
  have HK := @Lib.hid _ (fun w' b => @nm_mk ((w - 1) * h + w * (h - 1)) ((w - 1) * h + w * (h - 1)) W w' rfl b)
  have HB := Lib.hid below_box
  go_enter Try.func22, Try.ntmps22
  go_wp2_with fail
  refine (ok_yes w h _ h1 h2 h3 h4).mono ?_
  rintro e w1 ⟨rfl, hb⟩
  have hb1 := below_call (HB.out _ _) hb
  obtain ⟨hc, hf⟩ := bcell hb
  go_wp2_with fail
  refine (gaps_any w h _ h1 h2 h3 h4).mono ?_
  rintro e w2 ⟨rfl, hb'⟩
  have hb2 := below_call hb1 hb'
  go_wp2_with fail
  go_ret
  exact HK.out _ hb2

theorem countGaps_no (w h : Int) (W : World) (hn : ¬ (1 ≤ w ∧ w ≤ 4 ∧ 1 ≤ h ∧ h ≤ 4)) :
    Calls Try.prog 22 #[.agg #[.int .i64 w, .int .i64 h]] W (Nm 0 W) := by
  have HK := @Lib.hid _ (fun w' b => @nm_mk 0 0 W w' rfl b)
  have HB := Lib.hid below_box
  have HN := Lib.hid hn
  clear hn
  go_enter Try.func22, Try.ntmps22
  go_wp2_with fail
  refine (ok_no w h _ HN.out).mono ?_
  rintro e w1 ⟨rfl, hb⟩
  have hb1 := below_call (HB.out _ _) hb
  go_wp2_with fail
  go_ret
  exact HK.out _ hb1

end Go.Proofs.Ytlhmedokpjkjpaa.gridI
