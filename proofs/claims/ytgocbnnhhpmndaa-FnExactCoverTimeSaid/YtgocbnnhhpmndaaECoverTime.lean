/- CoverTime: for every argument the program's answer is the model's, and the arguments read as before. -/
import Derived.Test.YtgocbnnhhpmndaaEntT
import Derived.Test.YtgocbnnhhpmndaaEntI3
import Derived.Test.YtgocbnnhhpmndaaMzB
import Derived.Test.YtgocbnnhhpmndaaListK
import Derived.Test.YtgocbnnhhpmndaaBase
import Derived.Test.YtgocbnnhhpmndaaCelI
namespace Go.Proofs.Ytgocbnnhhpmndaa.fnExactCoverTime
open Go.ChangeShapes Go.WideShapes Go.ChangeAt Go.RowKit
open gridC gridR mazeP mazeC mazeM mazeR wayP entP gridE intsP intK intA listK lawKit reachD draw
set_option linter.unusedVariables false

/-- The law's answer. -/
def Yes (w : World) (e : Ending) (w' : World) : Prop := e = .returned (.bool true) ∧ Below w.heap.size w w'
theorem yes_mk {w w' : World} (h : Below w.heap.size w w') : Yes w (.returned (.bool true)) w' := ⟨rfl, h⟩

set_option maxRecDepth 100000 in
set_option maxHeartbeats 2000000 in
theorem walk_at (x0 y0 : Int) (a1 : Int) (A2 : Option Addr) (n2 c2 : Nat) (l2 : List Int) (r0 : Int) (W : World) (hn2 : l2.length = n2) (hi2 : IntsIn W W.heap.size A2 l2) (hm2 : n2 ≤ 1048576)
    (HS : Hid (∀ A2 n2 c2 X, l2.length = n2 → n2 ≤ 1048576 → IntsIn X X.heap.size A2 l2 → Calls Try.prog 24 #[.agg #[.int .i64 x0, .int .i64 y0], .int .i64 a1, .slice A2 n2 c2] X (Nm r0 X)))
    (HI : Hid (∀ A2 n2 c2 X, l2.length = n2 → n2 ≤ 1048576 → IntsIn X X.heap.size A2 l2 → Calls Try.prog 11 #[.agg #[.int .i64 x0, .int .i64 y0], .int .i64 a1, .slice A2 n2 c2] X (Nm r0 X))) :
    Calls Try.prog 6 #[.agg #[.int .i64 x0, .int .i64 y0], .int .i64 a1, .slice A2 n2 c2] W (Yes W) := by
  have HK := @Lib.hid _ (fun w' b => @yes_mk W w' b)
  have HY2 := Lib.hid hi2
  have Hn2 := Lib.hid hn2
  have hb2 : decide ((1048576 : Int) < (n2 : Int)) = false := by simp; omega
  have er0 : (r0 != r0) = false := by simp
  clear hi2 hn2
  go_enter Try.func6, Try.ntmps6
  have hbl := Lib.hid (below_box W (.cells #[.int .i64 x0, .int .i64 y0] 40))
  have hxc0 := Lib.hid (box_new x0 y0 W 40)
  obtain ⟨c00, c01⟩ := hxc0.out.1
  go_wp2_with fail
  refine (toGrid_any x0 y0 _).mono ?_
  rintro e w1 ⟨rfl, hb⟩
  clear c00 c01
  replace hbl := Lib.hid (below_call hbl.out hb)
  replace hxc0 := Lib.hid (hxc0.out.call hb)
  clear hb
  obtain ⟨c00, c01⟩ := hxc0.out.1
  go_wp2_with fail
  refine (toIntS_any A2 n2 c2 l2 _ Hn2.out.symm hm2 ((HY2.out.below hbl.out).more hbl.out.size)).mono ?_
  rintro e w2 ⟨vt0, rfl, ho, hb⟩
  clear c00 c01
  have h_t0 := Lib.hid ho
  clear ho
  replace hbl := Lib.hid (below_call hbl.out hb)
  replace hxc0 := Lib.hid (hxc0.out.call hb)
  clear hb
  obtain ⟨A_t0, k_t0, rfl⟩ := intsP.own_form h_t0.out
  obtain ⟨c00, c01⟩ := hxc0.out.1
  go_wp2_with fail
  refine (HS.out A_t0 _ k_t0 _ rfl (by have := Hn2.out; omega) (ints_own h_t0.out).1).mono ?_
  rintro e w3 ⟨rfl, hb⟩
  clear c00 c01
  replace hbl := Lib.hid (below_call hbl.out hb)
  replace hxc0 := Lib.hid (hxc0.out.call hb)
  replace h_t0 := Lib.hid (own_call h_t0.out hb)
  clear hb
  obtain ⟨c00, c01⟩ := hxc0.out.1
  go_wp2_with fail
  refine (toIntS_any A2 n2 c2 l2 _ Hn2.out.symm hm2 ((HY2.out.below hbl.out).more hbl.out.size)).mono ?_
  rintro e w4 ⟨vx2, rfl, ho, hb⟩
  clear c00 c01
  have NE_t0_x2 := Lib.hid (own_apart h_t0.out ho)
  have h_x2 := Lib.hid ho
  clear ho
  replace hbl := Lib.hid (below_call hbl.out hb)
  replace hxc0 := Lib.hid (hxc0.out.call hb)
  replace h_t0 := Lib.hid (own_call h_t0.out hb)
  clear hb
  obtain ⟨A_x2, k_x2, rfl⟩ := intsP.own_form h_x2.out
  obtain ⟨c00, c01⟩ := hxc0.out.1
  go_wp2_with fail
  refine (toGrid_any x0 y0 _).mono ?_
  rintro e w5 ⟨rfl, hb⟩
  clear c00 c01
  replace hbl := Lib.hid (below_call hbl.out hb)
  replace hxc0 := Lib.hid (hxc0.out.call hb)
  replace h_t0 := Lib.hid (own_call h_t0.out hb)
  replace h_x2 := Lib.hid (own_call h_x2.out hb)
  clear hb
  obtain ⟨c00, c01⟩ := hxc0.out.1
  go_wp2_with fail
  refine (HI.out A_x2 _ k_x2 _ rfl (by have := Hn2.out; omega) (ints_own h_x2.out).1).mono ?_
  rintro e w6 ⟨rfl, hb⟩
  clear c00 c01
  replace hbl := Lib.hid (below_call hbl.out hb)
  replace hxc0 := Lib.hid (hxc0.out.call hb)
  replace h_t0 := Lib.hid (own_call h_t0.out hb)
  replace h_x2 := Lib.hid (own_call h_x2.out hb)
  clear hb
  clear h_t0
  obtain ⟨c00, c01⟩ := hxc0.out.1
  go_wp2_with fail
  refine (toIntS_any A2 n2 c2 l2 _ Hn2.out.symm hm2 ((HY2.out.below hbl.out).more hbl.out.size)).mono ?_
  rintro e w7 ⟨vt2, rfl, ho, hb⟩
  clear c00 c01
  have NE_x2_t2 := Lib.hid (own_apart h_x2.out ho)
  have h_t2 := Lib.hid ho
  clear ho
  replace hbl := Lib.hid (below_call hbl.out hb)
  replace hxc0 := Lib.hid (hxc0.out.call hb)
  replace h_x2 := Lib.hid (own_call h_x2.out hb)
  clear hb
  obtain ⟨A_t2, k_t2, rfl⟩ := intsP.own_form h_t2.out
  obtain ⟨c00, c01⟩ := hxc0.out.1
  go_wp2_with fail
  refine (eq_b _ _ _ _ l2.length l2 _ rfl (by have := Hn2.out; omega) h_x2.out h_t2.out).mono ?_
  rintro e w8 ⟨rfl, hb⟩
  clear c00 c01
  replace hbl := Lib.hid (below_call hbl.out hb)
  replace hxc0 := Lib.hid (hxc0.out.call hb)
  replace h_x2 := Lib.hid (own_call h_x2.out hb)
  replace h_t2 := Lib.hid (own_call h_t2.out hb)
  clear hb
  clear h_t2
  go_wp2_with fail
  go_ret
  exact HK.out _ hbl.out

set_option maxRecDepth 100000 in
theorem walk (x0 y0 : Int) (a1 : Int) (A2 : Option Addr) (n2 c2 : Nat) (l2 : List Int) (W : World) (wx0 : (Lit.int .i64 x0).wf = true) (wy0 : (Lit.int .i64 y0).wf = true) (w1 : (Lit.int .i64 a1).wf = true) (hn2 : l2.length = n2) (hmx2 : n2 ≤ maxLen) (hi2 : IntsIn W W.heap.size A2 l2) :
    Calls Try.prog 6 #[.agg #[.int .i64 x0, .int .i64 y0], .int .i64 a1, .slice A2 n2 c2] W (Yes W) := by
  by_cases hbig : 1048576 < n2
  · have hb1 : decide ((1048576 : Int) < (n2 : Int)) = true := by simp; omega
    have HB := Lib.hid below_box
    have HR := Lib.hid (Below.refl W.heap.size W)
    have HK := @Lib.hid _ (fun w' b => @yes_mk W w' b)
    clear hn2 hi2
    go_enter Try.func6, Try.ntmps6
    go_wp2_with fail
    go_ret
    exact HK.out _ (HB.out _ _)
  · have hm2 : n2 ≤ 1048576 := by omega
    exact walk_at x0 y0 a1 A2 n2 c2 l2 (ctZ x0 y0 a1 l2) W hn2 hi2 hm2
      (Lib.hid (fun A2 n2 c2 X e2 m2 y2 => entT.coverTime_any x0 y0 a1 A2 n2 c2 l2 X e2 m2 y2))
      (Lib.hid (fun A2 n2 c2 X e2 m2 y2 => entI.coverTime_any x0 y0 a1 A2 n2 c2 l2 X e2 m2 y2))

set_option maxRecDepth 100000 in
theorem lifted (os : Os) (started : os.Started) (H : Type) (enc : TypeId × Value → H) :
    ReturnsInHanded {} Try.checked os 6 .any (Rows.fnExactCoverTimeSpec.pre6 enc Try.prog Try.f6 Rows.fnExactCoverTimeRow.domain false) (Rows.fnExactCoverTimeSpec.post enc Try.prog Try.f6 false true false false) := by
  refine returnsInHanded_of_change (C := Try.checked) own started (by kernel_rfl) Try.func6
    (ChangeSpec.witness6 (enc := enc) (C := Try.checked) false ⟨#[], #[.agg #[.int .i64 0, .int .i64 0], .int .i64 0, .slice none 0 0], []⟩ 8 (by kernel_rfl) (by kernel_rfl) (by kernel_rfl) (by kernel_rfl)) ?_
  intro W base args ds gs before hval0 hW _ _
  have hval : ∀ (j : Nat) t v, Try.f6.params[j]? = some t → args[j]? = some v → Value.okWide Try.prog W .any base t v := hval0
  have hW' := hW
  obtain ⟨p, q, hA0, hV, rfl, hfz, hnd⟩ := hW
  have hA : DataW.TrodAll enc Try.prog W 0 (fun _ => true) true Try.f6.params.toList args.toList ds p := hA0
  rw [Try.params6] at hA hval
  obtain ⟨v0, vs0, d0, ds0, p0, q0, hargs, rfl, rfl, h0, r0⟩ := trodAll_cons hA
  obtain ⟨v1, vs1, d1, ds1, p1, q1, rfl, rfl, rfl, h1, r1⟩ := trodAll_cons r0
  obtain ⟨v2, vs2, d2, ds2, p2, q2, rfl, rfl, rfl, h2, r2⟩ := trodAll_cons r1
  obtain ⟨rfl, rfl, rfl⟩ := trodAll_nil r2
  obtain rfl : args = #[v0, v1, v2] := by cases args; simp_all
  obtain ⟨rfl, rfl⟩ := trodVars_none hV
  clear hA0 hval0
  simp only [List.append_nil] at hW'
  obtain ⟨x0, y0, rfl, rfl, rfl, wx0, wy0⟩ := gridR.open_grid (hval 0 40 v0 rfl rfl) h0
  obtain ⟨a1, rfl, rfl, rfl, w1⟩ := open_int Try.underlying3 (hval 1 3 v1 rfl rfl) h1
  have hlt2 : ∀ x ∈ p2, x.block < W.heap.size := fun x hx => by simpa using hW'.lt x (by simp [hx])
  obtain ⟨A2, c2, l2, rfl, hn2, hb2⟩ := intA.open_intS Try.underlying26 Try.underlying3 celI.cellsInt (hval 2 26 v2 rfl rfl) h2 hlt2
  refine (walk x0 y0 a1 A2 l2.length c2 l2 W wx0 wy0 w1 rfl hn2 hb2).mono fun e W' ⟨he, hg⟩ => ?_
  subst he
  exact ⟨_, rfl, post_below (pa := _) (pv := []) hW' (fun _ _ _ => (trodAll_cons_mk (shut_bool Try.underlying4 _) trodAll_mk0)) (fun sp hsp => (trodAll_cons_mk (gridR.shut_grid wx0 wy0) (trodAll_cons_mk (shut_int Try.underlying3 w1) (trodAll_cons_mk (WideElems.Trod_stays laidOut (by kernel_rfl) (of_decide_eq_true (by kernel_rfl)) h2 (fun x hx => hg.same (hlt2 x hx)) (fun p hp => hsp p (by simp [hp]))) trodAll_mk0)))) (fun _ _ => rfl) (by simp)
    hg (ok_one (by kernel_rfl) rfl (okWide_bool_mk Try.underlying4 _))⟩

theorem over : Rows.fnExactCoverTimeRow.holds Try.pinned (OpenSpec.ofChange Rows.fnExactCoverTimeSpec) :=
  OpenClaim.holds_of_wide 6 Try.f6 rfl rfl rfl rfl rfl rfl rfl ⟨rfl, rfl, rfl, rfl, rfl⟩ rfl rfl rfl rfl rfl (by kernel_rfl) Try.func6 (by kernel_rfl)
    (of_decide_eq_true (by kernel_rfl)) (by unfold Func.isWrapper; first | (rw [if_pos (by decide +kernel)]; kernel_rfl) | (rw [if_neg (by decide +kernel)]; exact ⟨rfl, rfl⟩))
    (fun os started H enc _ => lifted os started H enc)

theorem proved : Rows.FnExactCoverTimeSaid :=
  over
end Go.Proofs.Ytgocbnnhhpmndaa.fnExactCoverTime
