/- DivideMaze: for every argument the program's answer is the model's, and the arguments read as before. -/
import Derived.Test.YthakbjdkcdppjaaGrwD
import Derived.Test.YthakbjdkcdppjaaGrwJ4
import Derived.Test.YthakbjdkcdppjaaErsO
import Derived.Test.YthakbjdkcdppjaaMzB
import Derived.Test.YthakbjdkcdppjaaListK
import Derived.Test.YthakbjdkcdppjaaBase
namespace Go.Proofs.Ythakbjdkcdppjaa.fnExactDivideMaze
open Go.ChangeShapes Go.WideShapes Go.ChangeAt Go.RowKit
open gridC gridR mazeP mazeC mazeM mazeR grwP gridE intsP intK intA listK lawKit reachD draw
set_option linter.unusedVariables false

/-- The law's answer. -/
def Yes (w : World) (e : Ending) (w' : World) : Prop := e = .returned (.bool true) ∧ Below w.heap.size w w'
theorem yes_mk {w w' : World} (h : Below w.heap.size w w') : Yes w (.returned (.bool true)) w' := ⟨rfl, h⟩

set_option maxRecDepth 100000 in
set_option maxHeartbeats 2000000 in
theorem walk_at (x0 y0 : Int) (A1 : Option Addr) (n1 c1 : Nat) (l1 : List Int) (r0x r0y r0z : Int) (W : World) (hn1 : l1.length = n1) (hi1 : IntsIn W W.heap.size A1 l1) (hm1 : n1 ≤ 1048576)
    (HS : Hid (∀ A1 n1 c1 X, l1.length = n1 → n1 ≤ 1048576 → IntsIn X X.heap.size A1 l1 → Calls Try.prog 18 #[.agg #[.int .i64 x0, .int .i64 y0], .slice A1 n1 c1] X (Mz r0x r0y r0z X)))
    (HI : Hid (∀ A1 n1 c1 X, l1.length = n1 → n1 ≤ 1048576 → IntsIn X X.heap.size A1 l1 → n1 ≤ c1 → Calls Try.prog 10 #[.agg #[.int .i64 x0, .int .i64 y0], .slice A1 n1 c1] X (Mz r0x r0y r0z X))) :
    Calls Try.prog 5 #[.agg #[.int .i64 x0, .int .i64 y0], .slice A1 n1 c1] W (Yes W) := by
  have HK := @Lib.hid _ (fun w' b => @yes_mk W w' b)
  have HY1 := Lib.hid hi1
  have Hn1 := Lib.hid hn1
  have hb1 : decide ((1048576 : Int) < (n1 : Int)) = false := by simp; omega
  clear hi1 hn1
  go_enter Try.func5, Try.ntmps5
  have hbl := Lib.hid (below_box W (.cells #[.int .i64 x0, .int .i64 y0] 34))
  have hxc0 := Lib.hid (box_new x0 y0 W 34)
  obtain ⟨c00, c01⟩ := hxc0.out.1
  go_wp2_with fail
  refine (toGrid_any x0 y0 _).mono ?_
  rintro e w1 ⟨rfl, hb⟩
  clear c00 c01
  replace hbl := Lib.hid (below_call hbl.out hb)
  replace hxc0 := Lib.hid (hxc0.out.call hb)
  clear hb
  obtain ⟨c00, c01⟩ := hxc0.out.1
  go_wp2_with fail
  refine (toIntS_any A1 n1 c1 l1 _ Hn1.out.symm hm1 ((HY1.out.below hbl.out).more hbl.out.size)).mono ?_
  rintro e w2 ⟨vt0, rfl, ho, hb⟩
  clear c00 c01
  have h_t0 := Lib.hid ho
  clear ho
  replace hbl := Lib.hid (below_call hbl.out hb)
  replace hxc0 := Lib.hid (hxc0.out.call hb)
  clear hb
  obtain ⟨A_t0, k_t0, rfl⟩ := intsP.own_form h_t0.out
  obtain ⟨c00, c01⟩ := hxc0.out.1
  go_wp2_with fail
  refine (HS.out A_t0 _ k_t0 _ rfl (by have := Hn1.out; omega) (ints_own h_t0.out).1).mono ?_
  rintro e w3 ⟨rfl, hb⟩
  clear c00 c01
  replace hbl := Lib.hid (below_call hbl.out hb)
  replace hxc0 := Lib.hid (hxc0.out.call hb)
  replace h_t0 := Lib.hid (own_call h_t0.out hb)
  clear hb
  have hb := below_box w3 (.cells #[.int .i64 r0x, .int .i64 r0y, .int .i64 r0z] 30)
  replace hbl := Lib.hid (below_call hbl.out hb)
  replace hxc0 := Lib.hid (hxc0.out.call hb)
  replace h_t0 := Lib.hid (own_call h_t0.out hb)
  clear hb
  have hr_w0 := Lib.hid (row3_new r0x r0y r0z w3 30)
  obtain ⟨c00, c01⟩ := hxc0.out.1
  obtain ⟨⟨dw00, dw01, dw02⟩, -⟩ := row3_cells hr_w0.out
  go_wp2_with fail
  generalize w3.alloc (.cells #[.int .i64 r0x, .int .i64 r0y, .int .i64 r0z] 30) = X3 at *
  generalize w3.heap.size = B3 at *
  refine (toIntS_any A1 n1 c1 l1 _ Hn1.out.symm hm1 ((HY1.out.below hbl.out).more hbl.out.size)).mono ?_
  rintro e w4 ⟨vx1, rfl, ho, hb⟩
  clear c00 c01
  clear dw00 dw01 dw02
  have NE_t0_x1 := Lib.hid (own_apart h_t0.out ho)
  have h_x1 := Lib.hid ho
  clear ho
  replace hbl := Lib.hid (below_call hbl.out hb)
  replace hxc0 := Lib.hid (hxc0.out.call hb)
  replace h_t0 := Lib.hid (own_call h_t0.out hb)
  replace hr_w0 := Lib.hid (Row3.call hr_w0.out hb)
  clear hb
  obtain ⟨A_x1, k_x1, rfl⟩ := intsP.own_form h_x1.out
  obtain ⟨c00, c01⟩ := hxc0.out.1
  obtain ⟨⟨dw00, dw01, dw02⟩, -⟩ := row3_cells hr_w0.out
  go_wp2_with fail
  refine (toGrid_any x0 y0 _).mono ?_
  rintro e w5 ⟨rfl, hb⟩
  clear c00 c01
  clear dw00 dw01 dw02
  replace hbl := Lib.hid (below_call hbl.out hb)
  replace hxc0 := Lib.hid (hxc0.out.call hb)
  replace h_t0 := Lib.hid (own_call h_t0.out hb)
  replace h_x1 := Lib.hid (own_call h_x1.out hb)
  replace hr_w0 := Lib.hid (Row3.call hr_w0.out hb)
  clear hb
  obtain ⟨c00, c01⟩ := hxc0.out.1
  obtain ⟨⟨dw00, dw01, dw02⟩, -⟩ := row3_cells hr_w0.out
  go_wp2_with fail
  refine (HI.out A_x1 _ k_x1 _ rfl (by have := Hn1.out; omega) (ints_own h_x1.out).1 (ersO.own_cap h_x1.out).1).mono ?_
  rintro e w6 ⟨rfl, hb⟩
  clear c00 c01
  clear dw00 dw01 dw02
  replace hbl := Lib.hid (below_call hbl.out hb)
  replace hxc0 := Lib.hid (hxc0.out.call hb)
  replace h_t0 := Lib.hid (own_call h_t0.out hb)
  replace h_x1 := Lib.hid (own_call h_x1.out hb)
  replace hr_w0 := Lib.hid (Row3.call hr_w0.out hb)
  clear hb
  have hb := below_box w6 (.cells #[.int .i64 r0x, .int .i64 r0y, .int .i64 r0z] 30)
  replace hbl := Lib.hid (below_call hbl.out hb)
  replace hxc0 := Lib.hid (hxc0.out.call hb)
  replace h_t0 := Lib.hid (own_call h_t0.out hb)
  replace h_x1 := Lib.hid (own_call h_x1.out hb)
  replace hr_w0 := Lib.hid (Row3.call hr_w0.out hb)
  clear hb
  have hr_g0 := Lib.hid (row3_new r0x r0y r0z w6 30)
  obtain ⟨c00, c01⟩ := hxc0.out.1
  obtain ⟨⟨dw00, dw01, dw02⟩, -⟩ := row3_cells hr_w0.out
  obtain ⟨⟨dg00, dg01, dg02⟩, -⟩ := row3_cells hr_g0.out
  go_wp2_with fail
  generalize w6.alloc (.cells #[.int .i64 r0x, .int .i64 r0y, .int .i64 r0z] 30) = X6 at *
  generalize w6.heap.size = B6 at *
  refine (mazeR.eqMaze_same r0x r0y r0z _).mono ?_
  rintro e w7 ⟨rfl, hb⟩
  clear c00 c01
  clear dw00 dw01 dw02
  clear dg00 dg01 dg02
  replace hbl := Lib.hid (below_call hbl.out hb)
  replace hxc0 := Lib.hid (hxc0.out.call hb)
  replace h_t0 := Lib.hid (own_call h_t0.out hb)
  replace h_x1 := Lib.hid (own_call h_x1.out hb)
  replace hr_w0 := Lib.hid (Row3.call hr_w0.out hb)
  replace hr_g0 := Lib.hid (Row3.call hr_g0.out hb)
  clear hb
  clear h_t0
  obtain ⟨c00, c01⟩ := hxc0.out.1
  obtain ⟨⟨dw00, dw01, dw02⟩, -⟩ := row3_cells hr_w0.out
  obtain ⟨⟨dg00, dg01, dg02⟩, -⟩ := row3_cells hr_g0.out
  go_wp2_with fail
  refine (toIntS_any A1 n1 c1 l1 _ Hn1.out.symm hm1 ((HY1.out.below hbl.out).more hbl.out.size)).mono ?_
  rintro e w8 ⟨vt2, rfl, ho, hb⟩
  clear c00 c01
  clear dw00 dw01 dw02
  clear dg00 dg01 dg02
  have NE_x1_t2 := Lib.hid (own_apart h_x1.out ho)
  have h_t2 := Lib.hid ho
  clear ho
  replace hbl := Lib.hid (below_call hbl.out hb)
  replace hxc0 := Lib.hid (hxc0.out.call hb)
  replace h_x1 := Lib.hid (own_call h_x1.out hb)
  replace hr_w0 := Lib.hid (Row3.call hr_w0.out hb)
  replace hr_g0 := Lib.hid (Row3.call hr_g0.out hb)
  clear hb
  obtain ⟨A_t2, k_t2, rfl⟩ := intsP.own_form h_t2.out
  obtain ⟨c00, c01⟩ := hxc0.out.1
  obtain ⟨⟨dw00, dw01, dw02⟩, -⟩ := row3_cells hr_w0.out
  obtain ⟨⟨dg00, dg01, dg02⟩, -⟩ := row3_cells hr_g0.out
  go_wp2_with fail
  refine (eq_b _ _ _ _ l1.length l1 _ rfl (by have := Hn1.out; omega) h_x1.out h_t2.out).mono ?_
  rintro e w9 ⟨rfl, hb⟩
  clear c00 c01
  clear dw00 dw01 dw02
  clear dg00 dg01 dg02
  replace hbl := Lib.hid (below_call hbl.out hb)
  replace hxc0 := Lib.hid (hxc0.out.call hb)
  replace h_x1 := Lib.hid (own_call h_x1.out hb)
  replace h_t2 := Lib.hid (own_call h_t2.out hb)
  replace hr_w0 := Lib.hid (Row3.call hr_w0.out hb)
  replace hr_g0 := Lib.hid (Row3.call hr_g0.out hb)
  clear hb
  clear h_t2
  go_wp2_with fail
  go_ret
  exact HK.out _ hbl.out

set_option maxRecDepth 100000 in
theorem walk (x0 y0 : Int) (A1 : Option Addr) (n1 c1 : Nat) (l1 : List Int) (W : World) (wx0 : (Lit.int .i64 x0).wf = true) (wy0 : (Lit.int .i64 y0).wf = true) (hn1 : l1.length = n1) (hmx1 : n1 ≤ maxLen) (hi1 : IntsIn W W.heap.size A1 l1) :
    Calls Try.prog 5 #[.agg #[.int .i64 x0, .int .i64 y0], .slice A1 n1 c1] W (Yes W) := by
  by_cases hbig : 1048576 < n1
  · have hb1 : decide ((1048576 : Int) < (n1 : Int)) = true := by simp; omega
    have HB := Lib.hid below_box
    have HR := Lib.hid (Below.refl W.heap.size W)
    have HK := @Lib.hid _ (fun w' b => @yes_mk W w' b)
    clear hn1 hi1
    go_enter Try.func5, Try.ntmps5
    go_wp2_with fail
    go_ret
    exact HK.out _ (HB.out _ _)
  · have hm1 : n1 ≤ 1048576 := by omega
    exact walk_at x0 y0 A1 n1 c1 l1 (fmX x0 y0) (fmY x0 y0) (dmO x0 y0 l1) W hn1 hi1 hm1
      (Lib.hid (fun A1 n1 c1 X e1 m1 y1 => grwD.divideMaze_any x0 y0 A1 n1 c1 l1 X e1 m1 y1))
      (Lib.hid (fun A1 n1 c1 X e1 m1 y1 z1 => grwJ.divideMazeI_any x0 y0 A1 n1 c1 l1 X e1 m1 y1 z1))

set_option maxRecDepth 100000 in
theorem lifted (os : Os) (started : os.Started) (H : Type) (enc : TypeId × Value → H) :
    ReturnsInHanded {} Try.checked os 5 .any (Rows.fnExactDivideMazeSpec.pre6 enc Try.prog Try.f5 Rows.fnExactDivideMazeRow.domain false) (Rows.fnExactDivideMazeSpec.post enc Try.prog Try.f5 false true false false) := by
  refine returnsInHanded_of_change (C := Try.checked) own started (by kernel_rfl) Try.func5
    (ChangeSpec.witness6 (enc := enc) (C := Try.checked) false ⟨#[], #[.agg #[.int .i64 0, .int .i64 0], .slice none 0 0], []⟩ 8 (by kernel_rfl) (by kernel_rfl) (by kernel_rfl) (by kernel_rfl)) ?_
  intro W base args ds gs before hval0 hW _ _
  have hval : ∀ (j : Nat) t v, Try.f5.params[j]? = some t → args[j]? = some v → Value.okWide Try.prog W .any base t v := hval0
  have hW' := hW
  obtain ⟨p, q, hA0, hV, rfl, hfz, hnd⟩ := hW
  have hA : DataW.TrodAll enc Try.prog W 0 (fun _ => true) true Try.f5.params.toList args.toList ds p := hA0
  rw [Try.params5] at hA hval
  obtain ⟨v0, vs0, d0, ds0, p0, q0, hargs, rfl, rfl, h0, r0⟩ := trodAll_cons hA
  obtain ⟨v1, vs1, d1, ds1, p1, q1, rfl, rfl, rfl, h1, r1⟩ := trodAll_cons r0
  obtain ⟨rfl, rfl, rfl⟩ := trodAll_nil r1
  obtain rfl : args = #[v0, v1] := by cases args; simp_all
  obtain ⟨rfl, rfl⟩ := trodVars_none hV
  clear hA0 hval0
  simp only [List.append_nil] at hW'
  obtain ⟨x0, y0, rfl, rfl, rfl, wx0, wy0⟩ := gridR.open_grid (hval 0 34 v0 rfl rfl) h0
  have hlt1 : ∀ x ∈ p1, x.block < W.heap.size := fun x hx => by simpa using hW'.lt x (by simp [hx])
  obtain ⟨A1, c1, l1, rfl, hn1, hb1⟩ := intA.open_intS Try.underlying26 Try.underlying3 mazeR.cellsInt (hval 1 26 v1 rfl rfl) h1 hlt1
  refine (walk x0 y0 A1 l1.length c1 l1 W wx0 wy0 rfl hn1 hb1).mono fun e W' ⟨he, hg⟩ => ?_
  subst he
  exact ⟨_, rfl, post_below (pa := _) (pv := []) hW' (fun _ _ _ => (trodAll_cons_mk (shut_bool Try.underlying4 _) trodAll_mk0)) (fun sp hsp => (trodAll_cons_mk (gridR.shut_grid wx0 wy0) (trodAll_cons_mk (WideElems.Trod_stays laidOut (by kernel_rfl) (of_decide_eq_true (by kernel_rfl)) h1 (fun x hx => hg.same (hlt1 x hx)) (fun p hp => hsp p (by simp [hp]))) trodAll_mk0))) (fun _ _ => rfl) (by simp)
    hg (ok_one (by kernel_rfl) rfl (okWide_bool_mk Try.underlying4 _))⟩

theorem over : Rows.fnExactDivideMazeRow.holds Try.pinned (OpenSpec.ofChange Rows.fnExactDivideMazeSpec) :=
  OpenClaim.holds_of_wide 5 Try.f5 rfl rfl rfl rfl rfl rfl rfl ⟨rfl, rfl, rfl, rfl, rfl⟩ rfl rfl rfl rfl rfl (by kernel_rfl) Try.func5 (by kernel_rfl)
    (of_decide_eq_true (by kernel_rfl)) (by unfold Func.isWrapper; first | (rw [if_pos (by decide +kernel)]; kernel_rfl) | (rw [if_neg (by decide +kernel)]; exact ⟨rfl, rfl⟩))
    (fun os started H enc _ => lifted os started H enc)

theorem proved : Rows.FnExactDivideMazeSaid :=
  over
end Go.Proofs.Ythakbjdkcdppjaa.fnExactDivideMaze
