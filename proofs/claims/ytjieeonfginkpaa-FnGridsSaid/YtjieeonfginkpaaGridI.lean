/- The contracts of the program's exported functions on grids: each answers the plain number or truth value, and leaves all that was there as it was. -/
import Derived.Test.YtjieeonfginkpaaGridC
namespace Go.Proofs.Ytjieeonfginkpaa.gridI
open Go.ChangeShapes Go.WideShapes Go.ChangeAt Go.RowKit
open draw gridP gridC
set_option linter.unusedVariables false

theorem gridOk_yes (w h : Int) (W : World) (h1 : 1 ≤ w) (h2 : w ≤ 4) (h3 : 1 ≤ h) (h4 : h ≤ 4) :
    Calls Try.prog 23 #[.agg #[.int .i64 w, .int .i64 h]] W (Bl true W) := by
  have HK := @Lib.hid _ (fun w' b => @bl_mk true true W w' rfl b)
  have HB := Lib.hid below_box
  go_enter Try.func23, Try.ntmps23
  go_wp2_with fail
  refine (ok_yes w h _ h1 h2 h3 h4).mono ?_
  rintro e w1 ⟨rfl, hb⟩
  have hb1 := below_call (HB.out _ _) hb
  go_wp2_with fail
  go_ret
  exact HK.out _ hb1

theorem gridOk_no (w h : Int) (W : World) (hn : ¬ (1 ≤ w ∧ w ≤ 4 ∧ 1 ≤ h ∧ h ≤ 4)) :
    Calls Try.prog 23 #[.agg #[.int .i64 w, .int .i64 h]] W (Bl false W) := by
  have HK := @Lib.hid _ (fun w' b => @bl_mk false false W w' rfl b)
  have HB := Lib.hid below_box
  have HN := Lib.hid hn
  clear hn
  go_enter Try.func23, Try.ntmps23
  go_wp2_with fail
  refine (ok_no w h _ HN.out).mono ?_
  rintro e w1 ⟨rfl, hb⟩
  have hb1 := below_call (HB.out _ _) hb
  go_wp2_with fail
  go_ret
  exact HK.out _ hb1

theorem countCells_yes (w h : Int) (W : World) (h1 : 1 ≤ w) (h2 : w ≤ 4) (h3 : 1 ≤ h) (h4 : h ≤ 4) :
    Calls Try.prog 20 #[.agg #[.int .i64 w, .int .i64 h]] W (Nm (w * h) W) := by
  have HK := @Lib.hid _ (fun w' b => @nm_mk (w * h) (w * h) W w' rfl b)
  have HB := Lib.hid below_box
  go_enter Try.func20, Try.ntmps20
  go_wp2_with fail
  refine (ok_yes w h _ h1 h2 h3 h4).mono ?_
  rintro e w1 ⟨rfl, hb⟩
  have hb1 := below_call (HB.out _ _) hb
  obtain ⟨hc, hf⟩ := bcell hb
  go_wp2_with fail
  refine (cells_any w h _ h1 h2 h3 h4).mono ?_
  rintro e w2 ⟨rfl, hb'⟩
  have hb2 := below_call hb1 hb'
  go_wp2_with fail
  go_ret
  exact HK.out _ hb2

theorem countCells_no (w h : Int) (W : World) (hn : ¬ (1 ≤ w ∧ w ≤ 4 ∧ 1 ≤ h ∧ h ≤ 4)) :
    Calls Try.prog 20 #[.agg #[.int .i64 w, .int .i64 h]] W (Nm 0 W) := by
  have HK := @Lib.hid _ (fun w' b => @nm_mk 0 0 W w' rfl b)
  have HB := Lib.hid below_box
  have HN := Lib.hid hn
  clear hn
  go_enter Try.func20, Try.ntmps20
  go_wp2_with fail
  refine (ok_no w h _ HN.out).mono ?_
  rintro e w1 ⟨rfl, hb⟩
  have hb1 := below_call (HB.out _ _) hb
  go_wp2_with fail
  go_ret
  exact HK.out _ hb1

theorem countGaps_yes (w h : Int) (W : World) (h1 : 1 ≤ w) (h2 : w ≤ 4) (h3 : 1 ≤ h) (h4 : h ≤ 4) :
    Calls Try.prog 18 #[.agg #[.int .i64 w, .int .i64 h]] W (Nm ((w - 1) * h + w * (h - 1)) W) := by
  have HK := @Lib.hid _ (fun w' b => @nm_mk ((w - 1) * h + w * (h - 1)) ((w - 1) * h + w * (h - 1)) W w' rfl b)
  have HB := Lib.hid below_box
  go_enter Try.func18, Try.ntmps18
  go_wp2_with fail
  refine (ok_yes w h _ h1 h2 h3 h4).mono ?_
  rintro e w1 ⟨rfl, hb⟩
  have hb1 := below_call (HB.out _ _) hb
  obtain ⟨hc, hf⟩ := bcell hb
  go_wp2_with fail
  refine (gaps_any w h _ h1 h2 h3 h4).mono ?_
  rintro e w2 ⟨rfl, hb'⟩
  have hb2 := below_call hb1 hb'
  go_wp2_with fail
  go_ret
  exact HK.out _ hb2

theorem countGaps_no (w h : Int) (W : World) (hn : ¬ (1 ≤ w ∧ w ≤ 4 ∧ 1 ≤ h ∧ h ≤ 4)) :
    Calls Try.prog 18 #[.agg #[.int .i64 w, .int .i64 h]] W (Nm 0 W) := by
  have HK := @Lib.hid _ (fun w' b => @nm_mk 0 0 W w' rfl b)
  have HB := Lib.hid below_box
  have HN := Lib.hid hn
  clear hn
  go_enter Try.func18, Try.ntmps18
  go_wp2_with fail
  refine (ok_no w h _ HN.out).mono ?_
  rintro e w1 ⟨rfl, hb⟩
  have hb1 := below_call (HB.out _ _) hb
  go_wp2_with fail
  go_ret
  exact HK.out _ hb1

theorem turnRight_any (d : Int) (W : World) :
    Calls Try.prog 19 #[.int .i64 d] W fun e w' => e = .returned (.int .i64 (trZ d)) ∧ W = w' := by
  by_cases h0 : 0 ≤ d
  · by_cases h3 : d ≤ 3
    · have e : trZ d = (d + 1) % 4 := by unfold trZ; rw [if_pos ⟨h0, h3⟩]
      rw [e]; clear e
      go_enter Try.func19, Try.ntmps19
      go_wp2
      go_ret
      exact ⟨rfl, rfl⟩
    · have e : trZ d = -1 := by unfold trZ; rw [if_neg (by omega)]
      rw [e]; clear e
      go_enter Try.func19, Try.ntmps19
      go_wp2
      go_ret
      exact ⟨rfl, rfl⟩
  · have e : trZ d = -1 := by unfold trZ; rw [if_neg (by omega)]
    rw [e]; clear e
    go_enter Try.func19, Try.ntmps19
    go_wp2
    go_ret
    exact ⟨rfl, rfl⟩
end Go.Proofs.Ytjieeonfginkpaa.gridI
