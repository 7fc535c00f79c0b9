/- NextMaze: for every argument the program's answer is the model's, and the arguments read as before. -/
import Derived.Test.YtnfnandpcjgmmaaNbrM
import Derived.Test.YtnfnandpcjgmmaaNbrI
import Derived.Test.YtnfnandpcjgmmaaMzB
import Derived.Test.YtnfnandpcjgmmaaBase
namespace Go.Proofs.Ytnfnandpcjgmmaa.fnExactNextMaze
open Go.ChangeShapes Go.WideShapes Go.ChangeAt Go.RowKit
open gridC gridR mazeP mazeC mazeM mazeR nbrP gridE intsP intK intA listK lawKit reachD draw
set_option linter.unusedVariables false

/-- The law's answer. -/
def Yes (w : World) (e : Ending) (w' : World) : Prop := e = .returned (.bool true) ∧ Below w.heap.size w w'
theorem yes_mk {w w' : World} (h : Below w.heap.size w w') : Yes w (.returned (.bool true)) w' := ⟨rfl, h⟩

set_option maxRecDepth 100000 in
set_option maxHeartbeats 2000000 in
theorem walk_at (x0 y0 z0 : Int) (r0x r0y r0z : Int) (r1 : Bool) (W : World) 
    (HS : Hid (∀  X, Calls Try.prog 23 #[.agg #[.int .i64 x0, .int .i64 y0, .int .i64 z0]] X (MzB r0x r0y r0z r1 X)))
    (HI : Hid (∀  X, Calls Try.prog 13 #[.agg #[.int .i64 x0, .int .i64 y0, .int .i64 z0]] X (MzB r0x r0y r0z r1 X))) :
    Calls Try.prog 7 #[.agg #[.int .i64 x0, .int .i64 y0, .int .i64 z0]] W (Yes W) := by
  have HK := @Lib.hid _ (fun w' b => @yes_mk W w' b)
  have er1 : (r1 != r1) = false := by cases r1 <;> rfl
  go_enter Try.func7, Try.ntmps7
  have hbl := Lib.hid (below_box W (.cells #[.int .i64 x0, .int .i64 y0, .int .i64 z0] 40))
  have hxc0 := Lib.hid (mbox_new x0 y0 z0 W 40)
  obtain ⟨c00, c01, c02⟩ := hxc0.out.1
  go_wp2_with fail
  refine (toMaze_any x0 y0 z0 _).mono ?_
  rintro e w1 ⟨rfl, hb⟩
  clear c00 c01 c02
  replace hbl := Lib.hid (below_call hbl.out hb)
  replace hxc0 := Lib.hid (hxc0.out.call hb)
  clear hb
  obtain ⟨c00, c01, c02⟩ := hxc0.out.1
  go_wp2_with fail
  refine (HS.out _).mono ?_
  rintro e w2 ⟨rfl, hb⟩
  clear c00 c01 c02
  replace hbl := Lib.hid (below_call hbl.out hb)
  replace hxc0 := Lib.hid (hxc0.out.call hb)
  clear hb
  have hb := below_box w2 (.cells #[.int .i64 r0x, .int .i64 r0y, .int .i64 r0z] 27)
  replace hbl := Lib.hid (below_call hbl.out hb)
  replace hxc0 := Lib.hid (hxc0.out.call hb)
  clear hb
  have hr_w0 := Lib.hid (row3_new r0x r0y r0z w2 27)
  obtain ⟨c00, c01, c02⟩ := hxc0.out.1
  obtain ⟨⟨dw00, dw01, dw02⟩, -⟩ := row3_cells hr_w0.out
  go_wp2_with fail
  generalize w2.alloc (.cells #[.int .i64 r0x, .int .i64 r0y, .int .i64 r0z] 27) = X2 at *
  generalize w2.heap.size = B2 at *
  refine (toMaze_any x0 y0 z0 _).mono ?_
  rintro e w3 ⟨rfl, hb⟩
  clear c00 c01 c02
  clear dw00 dw01 dw02
  replace hbl := Lib.hid (below_call hbl.out hb)
  replace hxc0 := Lib.hid (hxc0.out.call hb)
  replace hr_w0 := Lib.hid (Row3.call hr_w0.out hb)
  clear hb
  obtain ⟨c00, c01, c02⟩ := hxc0.out.1
  obtain ⟨⟨dw00, dw01, dw02⟩, -⟩ := row3_cells hr_w0.out
  go_wp2_with fail
  refine (HI.out _).mono ?_
  rintro e w4 ⟨rfl, hb⟩
  clear c00 c01 c02
  clear dw00 dw01 dw02
  replace hbl := Lib.hid (below_call hbl.out hb)
  replace hxc0 := Lib.hid (hxc0.out.call hb)
  replace hr_w0 := Lib.hid (Row3.call hr_w0.out hb)
  clear hb
  have hb := below_box w4 (.cells #[.int .i64 r0x, .int .i64 r0y, .int .i64 r0z] 27)
  replace hbl := Lib.hid (below_call hbl.out hb)
  replace hxc0 := Lib.hid (hxc0.out.call hb)
  replace hr_w0 := Lib.hid (Row3.call hr_w0.out hb)
  clear hb
  have hr_g0 := Lib.hid (row3_new r0x r0y r0z w4 27)
  obtain ⟨c00, c01, c02⟩ := hxc0.out.1
  obtain ⟨⟨dw00, dw01, dw02⟩, -⟩ := row3_cells hr_w0.out
  obtain ⟨⟨dg00, dg01, dg02⟩, -⟩ := row3_cells hr_g0.out
  go_wp2_with fail
  generalize w4.alloc (.cells #[.int .i64 r0x, .int .i64 r0y, .int .i64 r0z] 27) = X4 at *
  generalize w4.heap.size = B4 at *
  refine (mazeR.eqMaze_same r0x r0y r0z _).mono ?_
  rintro e w5 ⟨rfl, hb⟩
  clear c00 c01 c02
  clear dw00 dw01 dw02
  clear dg00 dg01 dg02
  replace hbl := Lib.hid (below_call hbl.out hb)
  replace hxc0 := Lib.hid (hxc0.out.call hb)
  replace hr_w0 := Lib.hid (Row3.call hr_w0.out hb)
  replace hr_g0 := Lib.hid (Row3.call hr_g0.out hb)
  clear hb
  go_wp2_with fail
  go_ret
  exact HK.out _ hbl.out

set_option maxRecDepth 100000 in
theorem walk (x0 y0 z0 : Int) (W : World) (wx0 : (Lit.int .i64 x0).wf = true) (wy0 : (Lit.int .i64 y0).wf = true) (wz0 : (Lit.int .i64 z0).wf = true) :
    Calls Try.prog 7 #[.agg #[.int .i64 x0, .int .i64 y0, .int .i64 z0]] W (Yes W) := by
  exact walk_at x0 y0 z0 (x0) (y0) (nmO x0 y0 z0) (nmB x0 y0 z0) W
    (Lib.hid (fun  X => nbrM.nextMaze_any x0 y0 z0 X ))
    (Lib.hid (fun  X => nbrI.nextMazeI_any x0 y0 z0 X ))

set_option maxRecDepth 100000 in
theorem lifted (os : Os) (started : os.Started) (H : Type) (enc : TypeId × Value → H) :
    ReturnsInHanded {} Try.checked os 7 .any (Rows.fnExactNextMazeSpec.pre6 enc Try.prog Try.f7 Rows.fnExactNextMazeRow.domain false) (Rows.fnExactNextMazeSpec.post enc Try.prog Try.f7 false true false false) := by
  refine returnsInHanded_of_change (C := Try.checked) own started (by kernel_rfl) Try.func7
    (ChangeSpec.witness6 (enc := enc) (C := Try.checked) false ⟨#[], #[.agg #[.int .i64 0, .int .i64 0, .int .i64 0]], []⟩ 8 (by kernel_rfl) (by kernel_rfl) (by kernel_rfl) (by kernel_rfl)) ?_
  intro W base args ds gs before hval0 hW _ _
  have hval : ∀ (j : Nat) t v, Try.f7.params[j]? = some t → args[j]? = some v → Value.okWide Try.prog W .any base t v := hval0
  have hW' := hW
  obtain ⟨p, q, hA0, hV, rfl, hfz, hnd⟩ := hW
  have hA : DataW.TrodAll enc Try.prog W 0 (fun _ => true) true Try.f7.params.toList args.toList ds p := hA0
  rw [Try.params7] at hA hval
  obtain ⟨v0, d0, rfl, rfl, h0⟩ := trodAll_one hA
  obtain ⟨rfl, rfl⟩ := trodVars_none hV
  clear hA0 hval0
  simp only [List.append_nil] at hW'
  obtain ⟨x0, y0, z0, rfl, rfl, rfl, wx0, wy0, wz0⟩ := mazeR.open_maze (hval 0 40 v0 rfl rfl) h0
  refine (walk x0 y0 z0 W wx0 wy0 wz0).mono fun e W' ⟨he, hg⟩ => ?_
  subst he
  exact ⟨_, rfl, post_below (pa := []) (pv := []) hW' (fun _ _ _ => (trodAll_cons_mk (shut_bool Try.underlying4 _) trodAll_mk0)) (fun sp _ => (trodAll_cons_mk (mazeR.shut_maze wx0 wy0 wz0) trodAll_mk0)) (fun _ _ => rfl) (by simp)
    hg (ok_one (by kernel_rfl) rfl (okWide_bool_mk Try.underlying4 _))⟩

theorem over : Rows.fnExactNextMazeRow.holds Try.pinned (OpenSpec.ofChange Rows.fnExactNextMazeSpec) :=
  OpenClaim.holds_of_wide 7 Try.f7 rfl rfl rfl rfl rfl rfl rfl ⟨rfl, rfl, rfl, rfl, rfl⟩ rfl rfl rfl rfl rfl (by kernel_rfl) Try.func7 (by kernel_rfl)
    (of_decide_eq_true (by kernel_rfl)) (by unfold Func.isWrapper; first | (rw [if_pos (by decide +kernel)]; kernel_rfl) | (rw [if_neg (by decide +kernel)]; exact ⟨rfl, rfl⟩))
    (fun os started H enc _ => lifted os started H enc)

theorem proved : Rows.FnExactNextMazeSaid :=
  over
end Go.Proofs.Ytnfnandpcjgmmaa.fnExactNextMaze
