/- CountRooms: for every argument the program's answer is the model's, and the arguments read as before. -/
import Derived.Test.YthakbjdkcdppjaaGrwC
import Derived.Test.YthakbjdkcdppjaaGrwJ4
import Derived.Test.YthakbjdkcdppjaaMzB
import Derived.Test.YthakbjdkcdppjaaListK
import Derived.Test.YthakbjdkcdppjaaBase
namespace Go.Proofs.Ythakbjdkcdppjaa.fnExactCountRooms
open Go.ChangeShapes Go.WideShapes Go.ChangeAt Go.RowKit
open gridC gridR mazeP mazeC mazeM mazeR grwP gridE intsP intK intA listK lawKit reachD draw
set_option linter.unusedVariables false

/-- The law's answer. -/
def Yes (w : World) (e : Ending) (w' : World) : Prop := e = .returned (.bool true) ∧ Below w.heap.size w w'
theorem yes_mk {w w' : World} (h : Below w.heap.size w w') : Yes w (.returned (.bool true)) w' := ⟨rfl, h⟩

set_option maxRecDepth 100000 in
set_option maxHeartbeats 2000000 in
theorem walk_at (x0 y0 : Int) (r0 : Int) (W : World) 
    (HS : Hid (∀  X, Calls Try.prog 19 #[.agg #[.int .i64 x0, .int .i64 y0]] X (Nm r0 X)))
    (HI : Hid (∀  X, Calls Try.prog 12 #[.agg #[.int .i64 x0, .int .i64 y0]] X (Nm r0 X))) :
    Calls Try.prog 6 #[.agg #[.int .i64 x0, .int .i64 y0]] W (Yes W) := by
  have HK := @Lib.hid _ (fun w' b => @yes_mk W w' b)
  have er0 : (r0 != r0) = false := by simp
  go_enter Try.func6, Try.ntmps6
  have hbl := Lib.hid (below_box W (.cells #[.int .i64 x0, .int .i64 y0] 34))
  have hxc0 := Lib.hid (box_new x0 y0 W 34)
  obtain ⟨c00, c01⟩ := hxc0.out.1
  go_wp2_with fail
  refine (toGrid_any x0 y0 _).mono ?_
  rintro e w1 ⟨rfl, hb⟩
  clear c00 c01
  replace hbl := Lib.hid (below_call hbl.out hb)
  replace hxc0 := Lib.hid (hxc0.out.call hb)
  clear hb
  obtain ⟨c00, c01⟩ := hxc0.out.1
  go_wp2_with fail
  refine (HS.out _).mono ?_
  rintro e w2 ⟨rfl, hb⟩
  clear c00 c01
  replace hbl := Lib.hid (below_call hbl.out hb)
  replace hxc0 := Lib.hid (hxc0.out.call hb)
  clear hb
  obtain ⟨c00, c01⟩ := hxc0.out.1
  go_wp2_with fail
  refine (toGrid_any x0 y0 _).mono ?_
  rintro e w3 ⟨rfl, hb⟩
  clear c00 c01
  replace hbl := Lib.hid (below_call hbl.out hb)
  replace hxc0 := Lib.hid (hxc0.out.call hb)
  clear hb
  obtain ⟨c00, c01⟩ := hxc0.out.1
  go_wp2_with fail
  refine (HI.out _).mono ?_
  rintro e w4 ⟨rfl, hb⟩
  clear c00 c01
  replace hbl := Lib.hid (below_call hbl.out hb)
  replace hxc0 := Lib.hid (hxc0.out.call hb)
  clear hb
  go_wp2_with fail
  go_ret
  exact HK.out _ hbl.out

set_option maxRecDepth 100000 in
theorem walk (x0 y0 : Int) (W : World) (wx0 : (Lit.int .i64 x0).wf = true) (wy0 : (Lit.int .i64 y0).wf = true) :
    Calls Try.prog 6 #[.agg #[.int .i64 x0, .int .i64 y0]] W (Yes W) := by
  exact walk_at x0 y0 (crZ x0 y0) W
    (Lib.hid (fun  X => grwC.countRooms_any x0 y0 X ))
    (Lib.hid (fun  X => grwJ.countRoomsI_any x0 y0 X ))

set_option maxRecDepth 100000 in
theorem lifted (os : Os) (started : os.Started) (H : Type) (enc : TypeId × Value → H) :
    ReturnsInHanded {} Try.checked os 6 .any (Rows.fnExactCountRoomsSpec.pre6 enc Try.prog Try.f6 Rows.fnExactCountRoomsRow.domain false) (Rows.fnExactCountRoomsSpec.post enc Try.prog Try.f6 false true false false) := by
  refine returnsInHanded_of_change (C := Try.checked) own started (by kernel_rfl) Try.func6
    (ChangeSpec.witness6 (enc := enc) (C := Try.checked) false ⟨#[], #[.agg #[.int .i64 0, .int .i64 0]], []⟩ 8 (by kernel_rfl) (by kernel_rfl) (by kernel_rfl) (by kernel_rfl)) ?_
  intro W base args ds gs before hval0 hW _ _
  have hval : ∀ (j : Nat) t v, Try.f6.params[j]? = some t → args[j]? = some v → Value.okWide Try.prog W .any base t v := hval0
  have hW' := hW
  obtain ⟨p, q, hA0, hV, rfl, hfz, hnd⟩ := hW
  have hA : DataW.TrodAll enc Try.prog W 0 (fun _ => true) true Try.f6.params.toList args.toList ds p := hA0
  rw [Try.params6] at hA hval
  obtain ⟨v0, d0, rfl, rfl, h0⟩ := trodAll_one hA
  obtain ⟨rfl, rfl⟩ := trodVars_none hV
  clear hA0 hval0
  simp only [List.append_nil] at hW'
  obtain ⟨x0, y0, rfl, rfl, rfl, wx0, wy0⟩ := gridR.open_grid (hval 0 34 v0 rfl rfl) h0
  refine (walk x0 y0 W wx0 wy0).mono fun e W' ⟨he, hg⟩ => ?_
  subst he
  exact ⟨_, rfl, post_below (pa := []) (pv := []) hW' (fun _ _ _ => (trodAll_cons_mk (shut_bool Try.underlying4 _) trodAll_mk0)) (fun sp _ => (trodAll_cons_mk (gridR.shut_grid wx0 wy0) trodAll_mk0)) (fun _ _ => rfl) (by simp)
    hg (ok_one (by kernel_rfl) rfl (okWide_bool_mk Try.underlying4 _))⟩

theorem over : Rows.fnExactCountRoomsRow.holds Try.pinned (OpenSpec.ofChange Rows.fnExactCountRoomsSpec) :=
  OpenClaim.holds_of_wide 6 Try.f6 rfl rfl rfl rfl rfl rfl rfl ⟨rfl, rfl, rfl, rfl, rfl⟩ rfl rfl rfl rfl rfl (by kernel_rfl) Try.func6 (by kernel_rfl)
    (of_decide_eq_true (by kernel_rfl)) (by unfold Func.isWrapper; first | (rw [if_pos (by decide +kernel)]; kernel_rfl) | (rw [if_neg (by decide +kernel)]; exact ⟨rfl, rfl⟩))
    (fun os started H enc _ => lifted os started H enc)

theorem proved : Rows.FnExactCountRoomsSaid :=
  over
end Go.Proofs.Ythakbjdkcdppjaa.fnExactCountRooms
