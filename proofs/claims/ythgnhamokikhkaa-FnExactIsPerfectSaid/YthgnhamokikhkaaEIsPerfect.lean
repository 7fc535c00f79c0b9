/- IsPerfect: for every argument the program's answer is the model's, and the arguments read as before. -/
import Derived.Test.YthgnhamokikhkaaPerfM
import Derived.Test.YthgnhamokikhkaaPerfI
import Derived.Test.YthgnhamokikhkaaMzB
namespace Go.Proofs.Ythgnhamokikhkaa.fnExactIsPerfect
open Go.ChangeShapes Go.WideShapes Go.ChangeAt Go.RowKit
open gridC mazeP mazeC mazeM mazeR perfP lawKit draw
set_option linter.unusedVariables false

/-- The law's answer. -/
def Yes (w : World) (e : Ending) (w' : World) : Prop := e = .returned (.bool true) ∧ Below w.heap.size w w'
theorem yes_mk {w w' : World} (h : Below w.heap.size w w') : Yes w (.returned (.bool true)) w' := ⟨rfl, h⟩

theorem walk_at (x0 y0 z0 : Int) (r0 : Bool) (W : World) (HS : Hid (∀ X, Calls Try.prog 46 #[.agg #[.int .i64 x0, .int .i64 y0, .int .i64 z0]] X (Bl r0 X))) (HI : Hid (∀ X, Calls Try.prog 24 #[.agg #[.int .i64 x0, .int .i64 y0, .int .i64 z0]] X (Bl r0 X))) :
    Calls Try.prog 9 #[.agg #[.int .i64 x0, .int .i64 y0, .int .i64 z0]] W (Yes W) := by
  have HK := @Lib.hid _ (fun w' b => @yes_mk W w' b)
  have HB := Lib.hid below_box
  have er0 : (r0 != r0) = false := by cases r0 <;> rfl
  go_enter Try.func9, Try.ntmps9
  go_wp2_with fail
  refine (toMaze_any x0 y0 z0 _).mono ?_
  rintro e w1 ⟨rfl, hb⟩
  have hbl1 := Lib.hid (below_call (HB.out _ _) hb)
  have hxc01 := Lib.hid ((mbox_new x0 y0 z0 W _).call hb)
  clear hb
  obtain ⟨c00, c01, c02⟩ := hxc01.out.1
  go_wp2_with fail
  refine (HS.out _).mono ?_
  rintro e w2 ⟨rfl, hb⟩
  have hbl2 := Lib.hid (below_call hbl1.out hb)
  have hxc02 := Lib.hid (hxc01.out.call hb)
  clear hb hbl1  hxc01 c00 c01 c02
  obtain ⟨c00, c01, c02⟩ := hxc02.out.1
  go_wp2_with fail
  refine (toMaze_any x0 y0 z0 _).mono ?_
  rintro e w3 ⟨rfl, hb⟩
  have hbl3 := Lib.hid (below_call hbl2.out hb)
  have hxc03 := Lib.hid (hxc02.out.call hb)
  clear hb hbl2  hxc02 c00 c01 c02
  obtain ⟨c00, c01, c02⟩ := hxc03.out.1
  go_wp2_with fail
  refine (HI.out _).mono ?_
  rintro e w4 ⟨rfl, hb⟩
  have hbl4 := Lib.hid (below_call hbl3.out hb)
  have hxc04 := Lib.hid (hxc03.out.call hb)
  clear hb hbl3  hxc03 c00 c01 c02
  obtain ⟨c00, c01, c02⟩ := hxc04.out.1
  go_wp2_with fail
  go_ret
  exact HK.out _ hbl4.out

theorem walk (x0 y0 z0 : Int) (W : World) (wx0 : (Lit.int .i64 x0).wf = true) (wy0 : (Lit.int .i64 y0).wf = true) (wz0 : (Lit.int .i64 z0).wf = true) :
    Calls Try.prog 9 #[.agg #[.int .i64 x0, .int .i64 y0, .int .i64 z0]] W (Yes W) :=
  walk_at x0 y0 z0 (ipB x0 y0 z0) W (Lib.hid (fun X => perfM.isPerfect_any x0 y0 z0 X)) (Lib.hid (fun X => perfI.isPerfect_any x0 y0 z0 X))

set_option maxRecDepth 100000 in
theorem lifted (os : Os) (started : os.Started) (H : Type) (enc : TypeId × Value → H) :
    ReturnsInHanded {} Try.checked os 9 .any (Rows.fnExactIsPerfectSpec.pre6 enc Try.prog Try.f9 Rows.fnExactIsPerfectRow.domain false) (Rows.fnExactIsPerfectSpec.post enc Try.prog Try.f9 false true false false) := by
  refine returnsInHanded_of_change (C := Try.checked) own started (by kernel_rfl) Try.func9
    (ChangeSpec.witness6 (enc := enc) (C := Try.checked) false ⟨#[], #[.agg #[.int .i64 0, .int .i64 0, .int .i64 0]], []⟩ 8 (by kernel_rfl) (by kernel_rfl) (by kernel_rfl) (by kernel_rfl)) ?_
  intro W base args ds gs before hval0 hW _ _
  have hval : ∀ (j : Nat) t v, Try.f9.params[j]? = some t → args[j]? = some v → Value.okWide Try.prog W .any base t v := hval0
  have hW' := hW
  obtain ⟨p, q, hA0, hV, rfl, hfz, hnd⟩ := hW
  have hA : DataW.TrodAll enc Try.prog W 0 (fun _ => true) true Try.f9.params.toList args.toList ds p := hA0
  rw [Try.params9] at hA hval
  obtain ⟨v0, d0, rfl, rfl, h0⟩ := trodAll_one hA
  obtain ⟨rfl, rfl⟩ := trodVars_none hV
  clear hA0 hval0
  simp only [List.append_nil] at hW'
  obtain ⟨x0, y0, z0, rfl, rfl, rfl, wx0, wy0, wz0⟩ := mazeR.open_maze (hval 0 51 v0 rfl rfl) h0
  refine (walk x0 y0 z0 W wx0 wy0 wz0).mono fun e W' ⟨he, hg⟩ => ?_
  subst he
  exact ⟨_, rfl, post_below (pa := []) (pv := []) hW' (fun _ _ _ => (trodAll_cons_mk (shut_bool Try.underlying4 _) trodAll_mk0)) (fun sp _ => (trodAll_cons_mk (mazeR.shut_maze wx0 wy0 wz0) trodAll_mk0)) (fun _ _ => rfl) (by simp)
    hg (ok_one (by kernel_rfl) rfl (okWide_bool_mk Try.underlying4 _))⟩

theorem over : Rows.fnExactIsPerfectRow.holds Try.pinned (OpenSpec.ofChange Rows.fnExactIsPerfectSpec) :=
  OpenClaim.holds_of_wide 9 Try.f9 rfl rfl rfl rfl rfl rfl rfl ⟨rfl, rfl, rfl, rfl, rfl⟩ rfl rfl rfl rfl rfl (by kernel_rfl) Try.func9 (by kernel_rfl)
    (of_decide_eq_true (by kernel_rfl)) (by unfold Func.isWrapper; first | (rw [if_pos (by decide +kernel)]; kernel_rfl) | (rw [if_neg (by decide +kernel)]; exact ⟨rfl, rfl⟩))
    (fun os started H enc _ => lifted os started H enc)

theorem proved : Rows.FnExactIsPerfectSaid :=
  over
end Go.Proofs.Ythgnhamokikhkaa.fnExactIsPerfect
