/- FullMaze: for every argument the program's answer is the model's, and the arguments read as before. -/
import Derived.Test.YtlhmedokpjkjpaaMazeJ
import Derived.Test.YtlhmedokpjkjpaaMazeU
import Derived.Test.YtlhmedokpjkjpaaMazeR
namespace Go.Proofs.Ytlhmedokpjkjpaa.fnExactFullMaze
open Go.ChangeShapes Go.WideShapes Go.ChangeAt Go.RowKit
open gridC mazeP mazeC mazeM gridR mazeR lawKit draw
set_option linter.unusedVariables false

/-- The law's answer. -/
def Yes (w : World) (e : Ending) (w' : World) : Prop := e = .returned (.bool true) ∧ Below w.heap.size w w'
theorem yes_mk {w w' : World} (h : Below w.heap.size w w') : Yes w (.returned (.bool true)) w' := ⟨rfl, h⟩

theorem walk_at (x0 y0 : Int) (r0 : Int) (r1 : Int) (r2 : Int) (W : World) (HS : Hid (∀ X, Calls Try.prog 35 #[.agg #[.int .i64 x0, .int .i64 y0]] X (Mz r0 r1 r2 X))) (HI : Hid (∀ X, Calls Try.prog 21 #[.agg #[.int .i64 x0, .int .i64 y0]] X (Mz r0 r1 r2 X))) :
    Calls Try.prog 10 #[.agg #[.int .i64 x0, .int .i64 y0]] W (Yes W) := by
  have HK := @Lib.hid _ (fun w' b => @yes_mk W w' b)
  have HB := Lib.hid below_box
  go_enter Try.func10, Try.ntmps10
  go_wp2_with fail
  refine (toGrid_any x0 y0 _).mono ?_
  rintro e w1 ⟨rfl, hb⟩
  have hbl1 := Lib.hid (below_call (HB.out _ _) hb)
  have hxc01 := Lib.hid ((box_new x0 y0 W _).call hb)
  clear hb
  obtain ⟨c00, c01⟩ := hxc01.out.1
  go_wp2_with fail
  refine (HS.out _).mono ?_
  rintro e w2 ⟨rfl, hb⟩
  have hbl2 := Lib.hid (below_call hbl1.out hb)
  have hxc02 := Lib.hid (hxc01.out.call hb)
  clear hb hbl1 hxc01 c00 c01
  obtain ⟨c00, c01⟩ := hxc02.out.1
  have hz2 := hxc02.out.2
  go_wp2_with fail
  refine (toGrid_any x0 y0 _).mono ?_
  rintro e w3 ⟨rfl, hb⟩
  have hbl3 := Lib.hid (below_call (below_call hbl2.out (below_box _ _)) hb)
  have hxc03 := Lib.hid ((hxc02.out.call (below_box _ _)).call hb)
  have hr3 := Lib.hid (Row3.call (row3_new r0 r1 r2 w2 _) hb)
  clear hb hbl2 hxc02 c00 c01 hz2
  obtain ⟨c00, c01⟩ := hxc03.out.1
  go_wp2_with fail
  refine (HI.out _).mono ?_
  rintro e w4 ⟨rfl, hb⟩
  have hbl4 := Lib.hid (below_call hbl3.out hb)
  have hr4 := Lib.hid (Row3.call hr3.out hb)
  obtain ⟨⟨d0, d1, d2⟩, -⟩ := row3_cells hr4.out
  have hz4 := row3_lt hr4.out
  clear hb hbl3 hxc03 hr3 c00 c01
  go_wp2_with fail
  refine (mazeR.eqMaze_same r0 r1 r2 _).mono ?_
  rintro e w5 ⟨rfl, hb⟩
  have hbl5 := Lib.hid (below_call (below_call hbl4.out (below_box _ _)) hb)
  clear hb
  go_wp2_with fail
  go_ret
  exact HK.out _ hbl5.out

theorem walk (x0 y0 : Int) (W : World) (wx0 : (Lit.int .i64 x0).wf = true) (wy0 : (Lit.int .i64 y0).wf = true) :
    Calls Try.prog 10 #[.agg #[.int .i64 x0, .int .i64 y0]] W (Yes W) :=
  walk_at x0 y0 (fmX x0 y0) (fmY x0 y0) (fmO x0 y0) W (Lib.hid (fun X => mazeS.fullMaze_any x0 y0 X)) (Lib.hid (fun X => mazeI.fullMaze_any x0 y0 X))

set_option maxRecDepth 100000 in
theorem lifted (os : Os) (started : os.Started) (H : Type) (enc : TypeId × Value → H) :
    ReturnsInHanded {} Try.checked os 10 .any (Rows.fnExactFullMazeSpec.pre6 enc Try.prog Try.f10 Rows.fnExactFullMazeRow.domain false) (Rows.fnExactFullMazeSpec.post enc Try.prog Try.f10 false true false false) := by
  refine returnsInHanded_of_change (C := Try.checked) own started (by kernel_rfl) Try.func10
    (ChangeSpec.witness6 (enc := enc) (C := Try.checked) false ⟨#[], #[.agg #[.int .i64 0, .int .i64 0]], []⟩ 8 (by kernel_rfl) (by kernel_rfl) (by kernel_rfl) (by kernel_rfl)) ?_
  intro W base args ds gs before hval0 hW _ _
  have hval : ∀ (j : Nat) t v, Try.f10.params[j]? = some t → args[j]? = some v → Value.okWide Try.prog W .any base t v := hval0
  have hW' := hW
  obtain ⟨p, q, hA0, hV, rfl, hfz, hnd⟩ := hW
  have hA : DataW.TrodAll enc Try.prog W 0 (fun _ => true) true Try.f10.params.toList args.toList ds p := hA0
  rw [Try.params10] at hA hval
  obtain ⟨v0, d0, rfl, rfl, h0⟩ := trodAll_one hA
  obtain ⟨rfl, rfl⟩ := trodVars_none hV
  clear hA0 hval0
  simp only [List.append_nil] at hW'
  obtain ⟨x0, y0, rfl, rfl, rfl, wx0, wy0⟩ := gridR.open_grid (hval 0 39 v0 rfl rfl) h0
  refine (walk x0 y0 W wx0 wy0).mono fun e W' ⟨he, hg⟩ => ?_
  subst he
  exact ⟨_, rfl, post_below (pa := []) (pv := []) hW' (fun _ _ _ => (trodAll_cons_mk (shut_bool Try.underlying4 _) trodAll_mk0)) (fun sp _ => (trodAll_cons_mk (gridR.shut_grid wx0 wy0) trodAll_mk0)) (fun _ _ => rfl) (by simp)
    hg (ok_one (by kernel_rfl) rfl (okWide_bool_mk Try.underlying4 _))⟩

theorem over : Rows.fnExactFullMazeRow.holds Try.pinned (OpenSpec.ofChange Rows.fnExactFullMazeSpec) :=
  OpenClaim.holds_of_wide 10 Try.f10 rfl rfl rfl rfl rfl rfl rfl ⟨rfl, rfl, rfl, rfl, rfl⟩ rfl rfl rfl rfl rfl (by kernel_rfl) Try.func10 (by kernel_rfl)
    (of_decide_eq_true (by kernel_rfl)) (by unfold Func.isWrapper; first | (rw [if_pos (by decide +kernel)]; kernel_rfl) | (rw [if_neg (by decide +kernel)]; exact ⟨rfl, rfl⟩))
    (fun os started H enc _ => lifted os started H enc)

theorem proved : Rows.FnExactFullMazeSaid :=
  over
end Go.Proofs.Ytlhmedokpjkjpaa.fnExactFullMaze
