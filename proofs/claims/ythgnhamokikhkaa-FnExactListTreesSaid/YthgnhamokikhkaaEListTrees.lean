/- ListTrees: for every argument the program's answer is the model's and owns its memory, and the arguments read as before. -/
import Derived.Test.YthgnhamokikhkaaMzsL
import Derived.Test.YthgnhamokikhkaaCouL
import Derived.Test.YthgnhamokikhkaaMzB
import Derived.Test.YthgnhamokikhkaaBase
namespace Go.Proofs.Ythgnhamokikhkaa.fnExactListTrees
open Go.ChangeShapes Go.WideShapes Go.ChangeAt Go.RowKit
open gridC gridR mazeP mazeC mazeM mazeR listZ cntV cntW couL gridE intsP intK intA listK lawKit reachD draw
set_option linter.unusedVariables false

/-- The law's answer. -/
def Yes (w : World) (e : Ending) (w' : World) : Prop := e = .returned (.bool true) ∧ Below w.heap.size w w'
theorem yes_mk {w w' : World} (h : Below w.heap.size w w') : Yes w (.returned (.bool true)) w' := ⟨rfl, h⟩

set_option maxRecDepth 100000 in
set_option maxHeartbeats 2000000 in
theorem walk_at (x0 y0 z0 : Int) (r0 : List (Int × Int × Int)) (W : World)  (hl0 : r0.length ≤ 900000)
    (HS : Hid (∀  X, Calls Try.prog 63 #[.agg #[.int .i64 x0, .int .i64 y0, .int .i64 z0]] X (Mzs r0 X)))
    (HI : Hid (∀  X, Calls Try.prog 40 #[.agg #[.int .i64 x0, .int .i64 y0, .int .i64 z0]] X (Mzs r0 X))) :
    Calls Try.prog 16 #[.agg #[.int .i64 x0, .int .i64 y0, .int .i64 z0]] W (Yes W) := by
  have HK := @Lib.hid _ (fun w' b => @yes_mk W w' b)
  have er0 : ((r0.length : Int) != (r0.length : Int)) = false := by simp
  go_enter Try.func16, Try.ntmps16
  have hbl := Lib.hid (below_box W (.cells #[.int .i64 x0, .int .i64 y0, .int .i64 z0] 51))
  have hxc0 := Lib.hid (mbox_new x0 y0 z0 W 51)
  obtain ⟨c00, c01, c02⟩ := hxc0.out.1
  go_wp2_with fail
  refine (toMaze_any x0 y0 z0 _).mono ?_
  rintro e w1 ⟨rfl, hb⟩
  clear c00 c01 c02
  replace hbl := Lib.hid (below_call hbl.out hb)
  replace hxc0 := Lib.hid (hxc0.out.call hb)
  clear hb
  obtain ⟨c00, c01, c02⟩ := hxc0.out.1
  go_wp2_with fail
  refine (HS.out _).mono ?_
  rintro e w2 ⟨vw0, rfl, ho, hb⟩
  clear c00 c01 c02
  have h_w0 := Lib.hid ho
  clear ho
  replace hbl := Lib.hid (below_call hbl.out hb)
  replace hxc0 := Lib.hid (hxc0.out.call hb)
  clear hb
  obtain ⟨A_w0, k_w0, rfl⟩ := intsP.own_form h_w0.out
  obtain ⟨c00, c01, c02⟩ := hxc0.out.1
  go_wp2_with fail
  refine (toMaze_any x0 y0 z0 _).mono ?_
  rintro e w3 ⟨rfl, hb⟩
  clear c00 c01 c02
  replace hbl := Lib.hid (below_call hbl.out hb)
  replace hxc0 := Lib.hid (hxc0.out.call hb)
  replace h_w0 := Lib.hid (own_call h_w0.out hb)
  clear hb
  obtain ⟨c00, c01, c02⟩ := hxc0.out.1
  go_wp2_with fail
  refine (HI.out _).mono ?_
  rintro e w4 ⟨vg0, rfl, ho, hb⟩
  clear c00 c01 c02
  have NE_w0_g0 := Lib.hid (own_apart h_w0.out ho)
  have h_g0 := Lib.hid ho
  have U_g0 := Lib.hid (fun g e => (ho.lt g e))
  have UW_g0 := Lib.hid hbl.out.size
  have UBc0_g0 := Lib.hid hxc0.out.2
  clear ho
  replace hbl := Lib.hid (below_call hbl.out hb)
  replace hxc0 := Lib.hid (hxc0.out.call hb)
  replace h_w0 := Lib.hid (own_call h_w0.out hb)
  clear hb
  obtain ⟨A_g0, k_g0, rfl⟩ := intsP.own_form h_g0.out
  obtain ⟨c00, c01, c02⟩ := hxc0.out.1
  go_wp2_with fail
  refine (mzsL.eq_b _ _ _ _ r0.length r0 _ rfl (by omega) h_g0.out h_w0.out).mono ?_
  rintro e w5 ⟨rfl, hb⟩
  clear c00 c01 c02
  replace hbl := Lib.hid (below_call hbl.out hb)
  replace hxc0 := Lib.hid (hxc0.out.call hb)
  replace h_w0 := Lib.hid (own_call h_w0.out hb)
  replace h_g0 := Lib.hid (own_call h_g0.out hb)
  clear hb
  obtain ⟨c00, c01, c02⟩ := hxc0.out.1
  go_wp2_with fail
  refine (mzsL.mark_one (.slice A_g0 r0.length k_g0) _ r0.length 1 1 _ _ rfl (by omega) (by omega) h_g0.out).mono ?_
  rintro e w6 ⟨rfl, ho, hg⟩
  clear c00 c01 c02
  replace h_g0 := Lib.hid ho
  clear ho
  replace hbl := Lib.hid (below_marked hbl.out hg (fun g e => Nat.le_trans UW_g0.out (U_g0.out g e).1))
  replace hxc0 := Lib.hid (mbox_marked hxc0.out hg (fun g e => Nat.lt_of_lt_of_le UBc0_g0.out (U_g0.out g e).1))
  replace h_w0 := Lib.hid (row_marked h_w0.out hg NE_w0_g0.out)
  clear hg
  obtain ⟨c00, c01, c02⟩ := hxc0.out.1
  go_wp2_with fail
  refine (mzsL.held_any (.slice A_g0 r0.length k_g0) _ r0.length 1 1 _ rfl (by omega) (by omega) h_g0.out).mono ?_
  rintro e w7 ⟨rfl, hb⟩
  clear c00 c01 c02
  replace hbl := Lib.hid (below_call hbl.out hb)
  replace hxc0 := Lib.hid (hxc0.out.call hb)
  replace h_w0 := Lib.hid (own_call h_w0.out hb)
  replace h_g0 := Lib.hid (own_call h_g0.out hb)
  clear hb
  have hne : (((1 + r0.length * 3 : Nat) : Int) != ((1 + r0.length * 3 : Nat) : Int)) = false := by simp
  have hne2 : ((1 : Int) + (r0.length : Int) * 3 != (1 : Int) + (r0.length : Int) * 3) = false := by simp
  obtain ⟨c00, c01, c02⟩ := hxc0.out.1
  go_wp2_with fail
  refine (toMaze_any x0 y0 z0 _).mono ?_
  rintro e w8 ⟨rfl, hb⟩
  clear c00 c01 c02
  replace hbl := Lib.hid (below_call hbl.out hb)
  replace hxc0 := Lib.hid (hxc0.out.call hb)
  replace h_w0 := Lib.hid (own_call h_w0.out hb)
  replace h_g0 := Lib.hid (own_call h_g0.out hb)
  clear hb
  obtain ⟨c00, c01, c02⟩ := hxc0.out.1
  go_wp2_with fail
  refine (HI.out _).mono ?_
  rintro e w9 ⟨vh0, rfl, ho, hb⟩
  clear c00 c01 c02
  have NE_w0_h0 := Lib.hid (own_apart h_w0.out ho)
  have NE_g0_h0 := Lib.hid (own_apart h_g0.out ho)
  have h_h0 := Lib.hid ho
  clear ho
  replace hbl := Lib.hid (below_call hbl.out hb)
  replace hxc0 := Lib.hid (hxc0.out.call hb)
  replace h_w0 := Lib.hid (own_call h_w0.out hb)
  replace h_g0 := Lib.hid (own_call h_g0.out hb)
  clear hb
  obtain ⟨A_h0, k_h0, rfl⟩ := intsP.own_form h_h0.out
  obtain ⟨c00, c01, c02⟩ := hxc0.out.1
  go_wp2_with fail
  refine (mzsL.eq_b _ _ _ _ r0.length r0 _ rfl (by omega) h_h0.out h_w0.out).mono ?_
  rintro e w10 ⟨rfl, hb⟩
  clear c00 c01 c02
  replace hbl := Lib.hid (below_call hbl.out hb)
  replace hxc0 := Lib.hid (hxc0.out.call hb)
  replace h_w0 := Lib.hid (own_call h_w0.out hb)
  replace h_g0 := Lib.hid (own_call h_g0.out hb)
  replace h_h0 := Lib.hid (own_call h_h0.out hb)
  clear hb
  obtain ⟨c00, c01, c02⟩ := hxc0.out.1
  go_wp2_with fail
  refine (mzsL.held_any (.slice A_g0 r0.length k_g0) _ r0.length 1 1 _ rfl (by omega) (by omega) h_g0.out).mono ?_
  rintro e w11 ⟨rfl, hb⟩
  clear c00 c01 c02
  replace hbl := Lib.hid (below_call hbl.out hb)
  replace hxc0 := Lib.hid (hxc0.out.call hb)
  replace h_w0 := Lib.hid (own_call h_w0.out hb)
  replace h_g0 := Lib.hid (own_call h_g0.out hb)
  replace h_h0 := Lib.hid (own_call h_h0.out hb)
  clear hb
  go_wp2_with fail
  go_ret
  exact HK.out _ hbl.out

set_option maxRecDepth 100000 in
theorem walk (x0 y0 z0 : Int) (W : World) (wx0 : (Lit.int .i64 x0).wf = true) (wy0 : (Lit.int .i64 y0).wf = true) (wz0 : (Lit.int .i64 z0).wf = true) :
    Calls Try.prog 16 #[.agg #[.int .i64 x0, .int .i64 y0, .int .i64 z0]] W (Yes W) := by
  exact walk_at x0 y0 z0 (mzL x0 y0 (ltZ x0 y0 z0)) W (mzsL.lt_bd x0 y0 z0)
    (Lib.hid (fun  X => cntW.listTrees_any x0 y0 z0 X ))
    (Lib.hid (fun  X => couL.listTreesI_any x0 y0 z0 X ))

set_option maxRecDepth 100000 in
theorem lifted (os : Os) (started : os.Started) (H : Type) (enc : TypeId × Value → H) :
    ReturnsInHanded {} Try.checked os 16 .any (Rows.fnExactListTreesSpec.pre6 enc Try.prog Try.f16 Rows.fnExactListTreesRow.domain false) (Rows.fnExactListTreesSpec.post enc Try.prog Try.f16 false true false false) := by
  refine returnsInHanded_of_change (C := Try.checked) own started (by kernel_rfl) Try.func16
    (ChangeSpec.witness6 (enc := enc) (C := Try.checked) false ⟨#[], #[.agg #[.int .i64 0, .int .i64 0, .int .i64 0]], []⟩ 8 (by kernel_rfl) (by kernel_rfl) (by kernel_rfl) (by kernel_rfl)) ?_
  intro W base args ds gs before hval0 hW _ _
  have hval : ∀ (j : Nat) t v, Try.f16.params[j]? = some t → args[j]? = some v → Value.okWide Try.prog W .any base t v := hval0
  have hW' := hW
  obtain ⟨p, q, hA0, hV, rfl, hfz, hnd⟩ := hW
  have hA : DataW.TrodAll enc Try.prog W 0 (fun _ => true) true Try.f16.params.toList args.toList ds p := hA0
  rw [Try.params16] at hA hval
  obtain ⟨v0, d0, rfl, rfl, h0⟩ := trodAll_one hA
  obtain ⟨rfl, rfl⟩ := trodVars_none hV
  clear hA0 hval0
  simp only [List.append_nil] at hW'
  obtain ⟨x0, y0, z0, rfl, rfl, rfl, wx0, wy0, wz0⟩ := mazeR.open_maze (hval 0 51 v0 rfl rfl) h0
  refine (walk x0 y0 z0 W wx0 wy0 wz0).mono fun e W' ⟨he, hg⟩ => ?_
  subst he
  exact ⟨_, rfl, post_below (pa := []) (pv := []) hW' (fun _ _ _ => (trodAll_cons_mk (shut_bool Try.underlying4 _) trodAll_mk0)) (fun sp _ => (trodAll_cons_mk (mazeR.shut_maze wx0 wy0 wz0) trodAll_mk0)) (fun _ _ => rfl) (by simp)
    hg (ok_one (by kernel_rfl) rfl (okWide_bool_mk Try.underlying4 _))⟩

theorem over : Rows.fnExactListTreesRow.holds Try.pinned (OpenSpec.ofChange Rows.fnExactListTreesSpec) :=
  OpenClaim.holds_of_wide 16 Try.f16 rfl rfl rfl rfl rfl rfl rfl ⟨rfl, rfl, rfl, rfl, rfl⟩ rfl rfl rfl rfl rfl (by kernel_rfl) Try.func16 (by kernel_rfl)
    (of_decide_eq_true (by kernel_rfl)) (by unfold Func.isWrapper; first | (rw [if_pos (by decide +kernel)]; kernel_rfl) | (rw [if_neg (by decide +kernel)]; exact ⟨rfl, rfl⟩))
    (fun os started H enc _ => lifted os started H enc)

theorem proved : Rows.FnExactListTreesSaid :=
  over
end Go.Proofs.Ythgnhamokikhkaa.fnExactListTrees
