/- SnakeWay: for every argument the program's answer is the model's and owns its memory, and the arguments read as before. -/
import Derived.Test.YtgocbnnhhpmndaaEntT
import Derived.Test.YtgocbnnhhpmndaaEntI5
import Derived.Test.YtgocbnnhhpmndaaMzB
import Derived.Test.YtgocbnnhhpmndaaListK
import Derived.Test.YtgocbnnhhpmndaaBase
namespace Go.Proofs.Ytgocbnnhhpmndaa.fnExactSnakeWay
open Go.ChangeShapes Go.WideShapes Go.ChangeAt Go.RowKit
open gridC gridR mazeP mazeC mazeM mazeR wayP entP gridE intsP intK intA listK lawKit reachD draw
set_option linter.unusedVariables false

/-- The law's answer. -/
def Yes (w : World) (e : Ending) (w' : World) : Prop := e = .returned (.bool true) ∧ Below w.heap.size w w'
theorem yes_mk {w w' : World} (h : Below w.heap.size w w') : Yes w (.returned (.bool true)) w' := ⟨rfl, h⟩

set_option maxRecDepth 100000 in
set_option maxHeartbeats 2000000 in
theorem walk_at (x0 y0 : Int) (r0 : List Int) (W : World)  (hl0 : r0.length ≤ 2000000)
    (HS : Hid (∀  X, Calls Try.prog 25 #[.agg #[.int .i64 x0, .int .i64 y0]] X (Ints r0 X)))
    (HI : Hid (∀  X, Calls Try.prog 17 #[.agg #[.int .i64 x0, .int .i64 y0]] X (Ints r0 X))) :
    Calls Try.prog 7 #[.agg #[.int .i64 x0, .int .i64 y0]] W (Yes W) := by
  have HK := @Lib.hid _ (fun w' b => @yes_mk W w' b)
  have er0 : ((r0.length : Int) != (r0.length : Int)) = false := by simp
  go_enter Try.func7, Try.ntmps7
  have hbl := Lib.hid (below_box W (.cells #[.int .i64 x0, .int .i64 y0] 40))
  have hxc0 := Lib.hid (box_new x0 y0 W 40)
  obtain ⟨c00, c01⟩ := hxc0.out.1
  go_wp2_with fail
  refine (toGrid_any x0 y0 _).mono ?_
  rintro e w1 ⟨rfl, hb⟩
  clear c00 c01
  replace hbl := Lib.hid (below_call hbl.out hb)
  replace hxc0 := Lib.hid (hxc0.out.call hb)
  clear hb
  obtain ⟨c00, c01⟩ := hxc0.out.1
  go_wp2_with fail
  refine (HS.out _).mono ?_
  rintro e w2 ⟨vw0, rfl, ho, hb⟩
  clear c00 c01
  have h_w0 := Lib.hid ho
  clear ho
  replace hbl := Lib.hid (below_call hbl.out hb)
  replace hxc0 := Lib.hid (hxc0.out.call hb)
  clear hb
  obtain ⟨A_w0, k_w0, rfl⟩ := intsP.own_form h_w0.out
  obtain ⟨c00, c01⟩ := hxc0.out.1
  go_wp2_with fail
  refine (toGrid_any x0 y0 _).mono ?_
  rintro e w3 ⟨rfl, hb⟩
  clear c00 c01
  replace hbl := Lib.hid (below_call hbl.out hb)
  replace hxc0 := Lib.hid (hxc0.out.call hb)
  replace h_w0 := Lib.hid (own_call h_w0.out hb)
  clear hb
  obtain ⟨c00, c01⟩ := hxc0.out.1
  go_wp2_with fail
  refine (HI.out _).mono ?_
  rintro e w4 ⟨vg0, rfl, ho, hb⟩
  clear c00 c01
  have NE_w0_g0 := Lib.hid (own_apart h_w0.out ho)
  have h_g0 := Lib.hid ho
  have U_g0 := Lib.hid (fun g e => (ho.lt g e))
  have UW_g0 := Lib.hid hbl.out.size
  have UBc0_g0 := Lib.hid hxc0.out.2
  clear ho
  replace hbl := Lib.hid (below_call hbl.out hb)
  replace hxc0 := Lib.hid (hxc0.out.call hb)
  replace h_w0 := Lib.hid (own_call h_w0.out hb)
  clear hb
  obtain ⟨A_g0, k_g0, rfl⟩ := intsP.own_form h_g0.out
  obtain ⟨c00, c01⟩ := hxc0.out.1
  go_wp2_with fail
  refine (eq_b _ _ _ _ r0.length r0 _ rfl (by omega) h_g0.out h_w0.out).mono ?_
  rintro e w5 ⟨rfl, hb⟩
  clear c00 c01
  replace hbl := Lib.hid (below_call hbl.out hb)
  replace hxc0 := Lib.hid (hxc0.out.call hb)
  replace h_w0 := Lib.hid (own_call h_w0.out hb)
  replace h_g0 := Lib.hid (own_call h_g0.out hb)
  clear hb
  obtain ⟨c00, c01⟩ := hxc0.out.1
  go_wp2_with fail
  refine (mark_one (.slice A_g0 r0.length k_g0) _ r0.length 1 1 _ _ rfl (by omega) (by omega) h_g0.out).mono ?_
  rintro e w6 ⟨rfl, ho, hg⟩
  clear c00 c01
  replace h_g0 := Lib.hid ho
  clear ho
  replace hbl := Lib.hid (below_marked hbl.out hg (fun g e => Nat.le_trans UW_g0.out (U_g0.out g e).1))
  replace hxc0 := Lib.hid (box_marked hxc0.out hg (fun g e => Nat.lt_of_lt_of_le UBc0_g0.out (U_g0.out g e).1))
  replace h_w0 := Lib.hid (row_marked h_w0.out hg NE_w0_g0.out)
  clear hg
  obtain ⟨c00, c01⟩ := hxc0.out.1
  go_wp2_with fail
  refine (held_any (.slice A_g0 r0.length k_g0) _ r0.length 1 1 _ rfl (by omega) (by omega) h_g0.out).mono ?_
  rintro e w7 ⟨rfl, hb⟩
  clear c00 c01
  replace hbl := Lib.hid (below_call hbl.out hb)
  replace hxc0 := Lib.hid (hxc0.out.call hb)
  replace h_w0 := Lib.hid (own_call h_w0.out hb)
  replace h_g0 := Lib.hid (own_call h_g0.out hb)
  clear hb
  have hne : (((1 + r0.length : Nat) : Int) != ((1 + r0.length : Nat) : Int)) = false := by simp
  have hne2 : ((1 : Int) + (r0.length : Int) != (1 : Int) + (r0.length : Int)) = false := by simp
  obtain ⟨c00, c01⟩ := hxc0.out.1
  go_wp2_with fail
  refine (toGrid_any x0 y0 _).mono ?_
  rintro e w8 ⟨rfl, hb⟩
  clear c00 c01
  replace hbl := Lib.hid (below_call hbl.out hb)
  replace hxc0 := Lib.hid (hxc0.out.call hb)
  replace h_w0 := Lib.hid (own_call h_w0.out hb)
  replace h_g0 := Lib.hid (own_call h_g0.out hb)
  clear hb
  obtain ⟨c00, c01⟩ := hxc0.out.1
  go_wp2_with fail
  refine (HI.out _).mono ?_
  rintro e w9 ⟨vh0, rfl, ho, hb⟩
  clear c00 c01
  have NE_w0_h0 := Lib.hid (own_apart h_w0.out ho)
  have NE_g0_h0 := Lib.hid (own_apart h_g0.out ho)
  have h_h0 := Lib.hid ho
  clear ho
  replace hbl := Lib.hid (below_call hbl.out hb)
  replace hxc0 := Lib.hid (hxc0.out.call hb)
  replace h_w0 := Lib.hid (own_call h_w0.out hb)
  replace h_g0 := Lib.hid (own_call h_g0.out hb)
  clear hb
  obtain ⟨A_h0, k_h0, rfl⟩ := intsP.own_form h_h0.out
  obtain ⟨c00, c01⟩ := hxc0.out.1
  go_wp2_with fail
  refine (eq_b _ _ _ _ r0.length r0 _ rfl (by omega) h_h0.out h_w0.out).mono ?_
  rintro e w10 ⟨rfl, hb⟩
  clear c00 c01
  replace hbl := Lib.hid (below_call hbl.out hb)
  replace hxc0 := Lib.hid (hxc0.out.call hb)
  replace h_w0 := Lib.hid (own_call h_w0.out hb)
  replace h_g0 := Lib.hid (own_call h_g0.out hb)
  replace h_h0 := Lib.hid (own_call h_h0.out hb)
  clear hb
  obtain ⟨c00, c01⟩ := hxc0.out.1
  go_wp2_with fail
  refine (held_any (.slice A_g0 r0.length k_g0) _ r0.length 1 1 _ rfl (by omega) (by omega) h_g0.out).mono ?_
  rintro e w11 ⟨rfl, hb⟩
  clear c00 c01
  replace hbl := Lib.hid (below_call hbl.out hb)
  replace hxc0 := Lib.hid (hxc0.out.call hb)
  replace h_w0 := Lib.hid (own_call h_w0.out hb)
  replace h_g0 := Lib.hid (own_call h_g0.out hb)
  replace h_h0 := Lib.hid (own_call h_h0.out hb)
  clear hb
  go_wp2_with fail
  go_ret
  exact HK.out _ hbl.out

set_option maxRecDepth 100000 in
theorem walk (x0 y0 : Int) (W : World) (wx0 : (Lit.int .i64 x0).wf = true) (wy0 : (Lit.int .i64 y0).wf = true) :
    Calls Try.prog 7 #[.agg #[.int .i64 x0, .int .i64 y0]] W (Yes W) := by
  exact walk_at x0 y0 (snL x0 y0) W (Nat.le_trans (sn_most x0 y0) (by decide))
    (Lib.hid (fun  X => entT.snakeWay_any x0 y0 X ))
    (Lib.hid (fun  X => entI.snakeWay_any x0 y0 X ))

set_option maxRecDepth 100000 in
theorem lifted (os : Os) (started : os.Started) (H : Type) (enc : TypeId × Value → H) :
    ReturnsInHanded {} Try.checked os 7 .any (Rows.fnExactSnakeWaySpec.pre6 enc Try.prog Try.f7 Rows.fnExactSnakeWayRow.domain false) (Rows.fnExactSnakeWaySpec.post enc Try.prog Try.f7 false true false false) := by
  refine returnsInHanded_of_change (C := Try.checked) own started (by kernel_rfl) Try.func7
    (ChangeSpec.witness6 (enc := enc) (C := Try.checked) false ⟨#[], #[.agg #[.int .i64 0, .int .i64 0]], []⟩ 8 (by kernel_rfl) (by kernel_rfl) (by kernel_rfl) (by kernel_rfl)) ?_
  intro W base args ds gs before hval0 hW _ _
  have hval : ∀ (j : Nat) t v, Try.f7.params[j]? = some t → args[j]? = some v → Value.okWide Try.prog W .any base t v := hval0
  have hW' := hW
  obtain ⟨p, q, hA0, hV, rfl, hfz, hnd⟩ := hW
  have hA : DataW.TrodAll enc Try.prog W 0 (fun _ => true) true Try.f7.params.toList args.toList ds p := hA0
  rw [Try.params7] at hA hval
  obtain ⟨v0, d0, rfl, rfl, h0⟩ := trodAll_one hA
  obtain ⟨rfl, rfl⟩ := trodVars_none hV
  clear hA0 hval0
  simp only [List.append_nil] at hW'
  obtain ⟨x0, y0, rfl, rfl, rfl, wx0, wy0⟩ := gridR.open_grid (hval 0 40 v0 rfl rfl) h0
  refine (walk x0 y0 W wx0 wy0).mono fun e W' ⟨he, hg⟩ => ?_
  subst he
  exact ⟨_, rfl, post_below (pa := []) (pv := []) hW' (fun _ _ _ => (trodAll_cons_mk (shut_bool Try.underlying4 _) trodAll_mk0)) (fun sp _ => (trodAll_cons_mk (gridR.shut_grid wx0 wy0) trodAll_mk0)) (fun _ _ => rfl) (by simp)
    hg (ok_one (by kernel_rfl) rfl (okWide_bool_mk Try.underlying4 _))⟩

theorem over : Rows.fnExactSnakeWayRow.holds Try.pinned (OpenSpec.ofChange Rows.fnExactSnakeWaySpec) :=
  OpenClaim.holds_of_wide 7 Try.f7 rfl rfl rfl rfl rfl rfl rfl ⟨rfl, rfl, rfl, rfl, rfl⟩ rfl rfl rfl rfl rfl (by kernel_rfl) Try.func7 (by kernel_rfl)
    (of_decide_eq_true (by kernel_rfl)) (by unfold Func.isWrapper; first | (rw [if_pos (by decide +kernel)]; kernel_rfl) | (rw [if_neg (by decide +kernel)]; exact ⟨rfl, rfl⟩))
    (fun os started H enc _ => lifted os started H enc)

theorem proved : Rows.FnExactSnakeWaySaid :=
  over
end Go.Proofs.Ytgocbnnhhpmndaa.fnExactSnakeWay
