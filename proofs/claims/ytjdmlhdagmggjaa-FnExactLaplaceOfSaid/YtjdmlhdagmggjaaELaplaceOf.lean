/- LaplaceOf: for every argument the program's answer is the model's and owns its memory, and the arguments read as before. -/
import Derived.Test.YtjdmlhdagmggjaaRowsL
import Derived.Test.YtjdmlhdagmggjaaMatR
import Derived.Test.YtjdmlhdagmggjaaDetI7
namespace Go.Proofs.Ytjdmlhdagmggjaa.fnExactLaplaceOf
open Go.ChangeShapes Go.WideShapes Go.ChangeAt Go.RowKit
open gridC mazeC mazeR gridR rowsP rowsL matP matR matQ matM matO detI intsP intK intA listK lawKit reachD draw
set_option linter.unusedVariables false

/-- The law's answer. -/
def Yes (w : World) (e : Ending) (w' : World) : Prop := e = .returned (.bool true) ∧ Below w.heap.size w w'
theorem yes_mk {w w' : World} (h : Below w.heap.size w w') : Yes w (.returned (.bool true)) w' := ⟨rfl, h⟩

set_option maxRecDepth 100000 in
set_option maxHeartbeats 2000000 in
theorem walk_at (x0 y0 z0 : Int) (r0 : List (List Int)) (W : World)  (hl0 : r0.length ≤ 1000 ∧ ∀ l ∈ r0, l.length ≤ 1000)
    (HS : Hid (∀  X, Calls Try.prog 19 #[.agg #[.int .i64 x0, .int .i64 y0, .int .i64 z0]] X (Mtx r0 X)))
    (HI : Hid (∀  X, Calls Try.prog 21 #[.agg #[.int .i64 x0, .int .i64 y0, .int .i64 z0]] X (Mtx r0 X))) :
    Calls Try.prog 6 #[.agg #[.int .i64 x0, .int .i64 y0, .int .i64 z0]] W (Yes W) := by
  have HK := @Lib.hid _ (fun w' b => @yes_mk W w' b)
  have HL0 := Lib.hid hl0
  clear hl0
  have HT0 : Hid (1 + toN r0 ≤ 3000000) := Lib.hid (by have h1 := toN_bd HL0.out.2; have h2 : r0.length * 1000 ≤ 1000 * 1000 := Nat.mul_le_mul_right 1000 HL0.out.1; omega)
  go_enter Try.func6, Try.ntmps6
  have hbl := Lib.hid (below_box W (.cells #[.int .i64 x0, .int .i64 y0, .int .i64 z0] 37))
  have hxc0 := Lib.hid (mbox_new x0 y0 z0 W 37)
  obtain ⟨c00, c01, c02⟩ := hxc0.out.1
  go_wp2_with fail
  refine (toMaze_any x0 y0 z0 _).mono ?_
  rintro e w1 ⟨rfl, hb⟩
  clear c00 c01 c02
  replace hbl := Lib.hid (below_call hbl.out hb)
  replace hxc0 := Lib.hid (hxc0.out.call hb)
  clear hb
  obtain ⟨c00, c01, c02⟩ := hxc0.out.1
  go_wp2_with fail
  refine (HS.out _).mono ?_
  rintro e w2 ⟨vw0, rfl, ho, hb⟩
  clear c00 c01 c02
  have h_w0 := Lib.hid ho
  clear ho
  have UW_w0 := Lib.hid hbl.out.size
  have UBc0_w0 := Lib.hid hxc0.out.2
  replace hbl := Lib.hid (below_call hbl.out hb)
  replace hxc0 := Lib.hid (hxc0.out.call hb)
  clear hb
  have LT_w0 := Lib.hid (Nat.le_refl w2.heap.size)
  obtain ⟨A_w0, k_w0, rfl⟩ := h_w0.out.form
  obtain ⟨c00, c01, c02⟩ := hxc0.out.1
  go_wp2_with fail
  refine (toMaze_any x0 y0 z0 _).mono ?_
  rintro e w3 ⟨rfl, hb⟩
  clear c00 c01 c02
  replace hbl := Lib.hid (below_call hbl.out hb)
  replace hxc0 := Lib.hid (hxc0.out.call hb)
  replace h_w0 := Lib.hid (MxOw.call h_w0.out hb)
  replace LT_w0 := Lib.hid (Nat.le_trans LT_w0.out hb.size)
  clear hb
  obtain ⟨c00, c01, c02⟩ := hxc0.out.1
  go_wp2_with fail
  refine (HI.out _).mono ?_
  rintro e w4 ⟨vg0, rfl, ho, hb⟩
  clear c00 c01 c02
  have LE_w0_g0 := LT_w0
  have h_g0 := Lib.hid ho
  clear ho
  have UW_g0 := Lib.hid hbl.out.size
  have UBc0_g0 := Lib.hid hxc0.out.2
  replace hbl := Lib.hid (below_call hbl.out hb)
  replace hxc0 := Lib.hid (hxc0.out.call hb)
  replace h_w0 := Lib.hid (MxOw.call h_w0.out hb)
  replace LT_w0 := Lib.hid (Nat.le_trans LT_w0.out hb.size)
  clear hb
  have LT_g0 := Lib.hid (Nat.le_refl w4.heap.size)
  obtain ⟨A_g0, k_g0, rfl⟩ := h_g0.out.form
  obtain ⟨c00, c01, c02⟩ := hxc0.out.1
  go_wp2_with fail
  refine (rowsL.eq_b _ _ _ _ _ _ r0.length r0 _ rfl (Nat.le_trans HL0.out.1 (by decide)) (fun l h => Nat.le_trans (HL0.out.2 l h) (by decide)) h_g0.out h_w0.out).mono ?_
  rintro e w5 ⟨rfl, hb⟩
  clear c00 c01 c02
  replace hbl := Lib.hid (below_call hbl.out hb)
  replace hxc0 := Lib.hid (hxc0.out.call hb)
  replace h_w0 := Lib.hid (MxOw.call h_w0.out hb)
  replace LT_w0 := Lib.hid (Nat.le_trans LT_w0.out hb.size)
  replace h_g0 := Lib.hid (MxOw.call h_g0.out hb)
  replace LT_g0 := Lib.hid (Nat.le_trans LT_g0.out hb.size)
  clear hb
  obtain ⟨c00, c01, c02⟩ := hxc0.out.1
  go_wp2_with fail
  refine (rowsL.mark_one (.slice A_g0 r0.length k_g0) _ _ r0.length 1 1 r0 _ rfl rfl (by decide) (Nat.le_trans HL0.out.1 (by decide)) HT0.out h_g0.out).mono ?_
  rintro e w6 ⟨rfl, ho, hg⟩
  clear c00 c01 c02
  replace h_g0 := Lib.hid ho
  clear ho
  replace hbl := Lib.hid (KeptO.below hg hbl.out UW_g0.out hbl.out.size)
  replace hxc0 := Lib.hid (KeptO.mbox hg hxc0.out UBc0_g0.out)
  replace h_w0 := Lib.hid (KeptO.mx hg h_w0.out (.inl LE_w0_g0.out))
  replace LT_w0 := Lib.hid (Nat.le_trans LT_w0.out hg.2.2.2.1)
  replace LT_g0 := Lib.hid (Nat.le_trans LT_g0.out hg.2.2.2.1)
  clear hg
  obtain ⟨c00, c01, c02⟩ := hxc0.out.1
  go_wp2_with fail
  refine (rowsL.held_any (.slice A_g0 r0.length k_g0) _ _ r0.length 1 1 r0 _ rfl rfl (by decide) (Nat.le_trans HL0.out.1 (by decide)) HT0.out h_g0.out).mono ?_
  rintro e w7 ⟨rfl, hb⟩
  clear c00 c01 c02
  replace hbl := Lib.hid (below_call hbl.out hb)
  replace hxc0 := Lib.hid (hxc0.out.call hb)
  replace h_w0 := Lib.hid (MxOw.call h_w0.out hb)
  replace LT_w0 := Lib.hid (Nat.le_trans LT_w0.out hb.size)
  replace h_g0 := Lib.hid (MxOw.call h_g0.out hb)
  replace LT_g0 := Lib.hid (Nat.le_trans LT_g0.out hb.size)
  clear hb
  have hne : (((1 + toN r0 : Nat) : Int) != ((1 + toN r0 : Nat) : Int)) = false := by simp
  have hne2 : ((1 : Int) + (toN r0 : Int) != (1 : Int) + (toN r0 : Int)) = false := by simp
  obtain ⟨c00, c01, c02⟩ := hxc0.out.1
  go_wp2_with fail
  refine (toMaze_any x0 y0 z0 _).mono ?_
  rintro e w8 ⟨rfl, hb⟩
  clear c00 c01 c02
  replace hbl := Lib.hid (below_call hbl.out hb)
  replace hxc0 := Lib.hid (hxc0.out.call hb)
  replace h_w0 := Lib.hid (MxOw.call h_w0.out hb)
  replace LT_w0 := Lib.hid (Nat.le_trans LT_w0.out hb.size)
  replace h_g0 := Lib.hid (MxOw.call h_g0.out hb)
  replace LT_g0 := Lib.hid (Nat.le_trans LT_g0.out hb.size)
  clear hb
  obtain ⟨c00, c01, c02⟩ := hxc0.out.1
  go_wp2_with fail
  refine (HI.out _).mono ?_
  rintro e w9 ⟨vh0, rfl, ho, hb⟩
  clear c00 c01 c02
  have LE_w0_h0 := LT_w0
  have LE_g0_h0 := LT_g0
  have h_h0 := Lib.hid ho
  clear ho
  have UW_h0 := Lib.hid hbl.out.size
  have UBc0_h0 := Lib.hid hxc0.out.2
  replace hbl := Lib.hid (below_call hbl.out hb)
  replace hxc0 := Lib.hid (hxc0.out.call hb)
  replace h_w0 := Lib.hid (MxOw.call h_w0.out hb)
  replace LT_w0 := Lib.hid (Nat.le_trans LT_w0.out hb.size)
  replace h_g0 := Lib.hid (MxOw.call h_g0.out hb)
  replace LT_g0 := Lib.hid (Nat.le_trans LT_g0.out hb.size)
  clear hb
  have LT_h0 := Lib.hid (Nat.le_refl w9.heap.size)
  obtain ⟨A_h0, k_h0, rfl⟩ := h_h0.out.form
  obtain ⟨c00, c01, c02⟩ := hxc0.out.1
  go_wp2_with fail
  refine (rowsL.eq_b _ _ _ _ _ _ r0.length r0 _ rfl (Nat.le_trans HL0.out.1 (by decide)) (fun l h => Nat.le_trans (HL0.out.2 l h) (by decide)) h_h0.out h_w0.out).mono ?_
  rintro e w10 ⟨rfl, hb⟩
  clear c00 c01 c02
  replace hbl := Lib.hid (below_call hbl.out hb)
  replace hxc0 := Lib.hid (hxc0.out.call hb)
  replace h_w0 := Lib.hid (MxOw.call h_w0.out hb)
  replace LT_w0 := Lib.hid (Nat.le_trans LT_w0.out hb.size)
  replace h_g0 := Lib.hid (MxOw.call h_g0.out hb)
  replace LT_g0 := Lib.hid (Nat.le_trans LT_g0.out hb.size)
  replace h_h0 := Lib.hid (MxOw.call h_h0.out hb)
  replace LT_h0 := Lib.hid (Nat.le_trans LT_h0.out hb.size)
  clear hb
  obtain ⟨c00, c01, c02⟩ := hxc0.out.1
  go_wp2_with fail
  refine (rowsL.held_any (.slice A_g0 r0.length k_g0) _ _ r0.length 1 1 r0 _ rfl rfl (by decide) (Nat.le_trans HL0.out.1 (by decide)) HT0.out h_g0.out).mono ?_
  rintro e w11 ⟨rfl, hb⟩
  clear c00 c01 c02
  replace hbl := Lib.hid (below_call hbl.out hb)
  replace hxc0 := Lib.hid (hxc0.out.call hb)
  replace h_w0 := Lib.hid (MxOw.call h_w0.out hb)
  replace LT_w0 := Lib.hid (Nat.le_trans LT_w0.out hb.size)
  replace h_g0 := Lib.hid (MxOw.call h_g0.out hb)
  replace LT_g0 := Lib.hid (Nat.le_trans LT_g0.out hb.size)
  replace h_h0 := Lib.hid (MxOw.call h_h0.out hb)
  replace LT_h0 := Lib.hid (Nat.le_trans LT_h0.out hb.size)
  clear hb
  go_wp2_with fail
  go_ret
  exact HK.out _ hbl.out

set_option maxRecDepth 100000 in
theorem walk (x0 y0 z0 : Int) (W : World) (wx0 : (Lit.int .i64 x0).wf = true) (wy0 : (Lit.int .i64 y0).wf = true) (wz0 : (Lit.int .i64 z0).wf = true) :
    Calls Try.prog 6 #[.agg #[.int .i64 x0, .int .i64 y0, .int .i64 z0]] W (Yes W) := by
  exact walk_at x0 y0 z0 (lpZ x0 y0 z0) W (lp_len x0 y0 z0)
    (Lib.hid (fun  X => laplaceOf_any x0 y0 z0 X ))
    (Lib.hid (fun  X => laplaceOfI_any x0 y0 z0 X ))

set_option maxRecDepth 100000 in
theorem lifted (os : Os) (started : os.Started) (H : Type) (enc : TypeId × Value → H) :
    ReturnsInHanded {} Try.checked os 6 .any (Rows.fnExactLaplaceOfSpec.pre6 enc Try.prog Try.f6 Rows.fnExactLaplaceOfRow.domain false) (Rows.fnExactLaplaceOfSpec.post enc Try.prog Try.f6 false true false false) := by
  refine returnsInHanded_of_change (C := Try.checked) own started (by kernel_rfl) Try.func6
    (ChangeSpec.witness6 (enc := enc) (C := Try.checked) false ⟨#[], #[.agg #[.int .i64 0, .int .i64 0, .int .i64 0]], []⟩ 8 (by kernel_rfl) (by kernel_rfl) (by kernel_rfl) (by kernel_rfl)) ?_
  intro W base args ds gs before hval0 hW _ _
  have hval : ∀ (j : Nat) t v, Try.f6.params[j]? = some t → args[j]? = some v → Value.okWide Try.prog W .any base t v := hval0
  have hW' := hW
  obtain ⟨p, q, hA0, hV, rfl, hfz, hnd⟩ := hW
  have hA : DataW.TrodAll enc Try.prog W 0 (fun _ => true) true Try.f6.params.toList args.toList ds p := hA0
  rw [Try.params6] at hA hval
  obtain ⟨v0, d0, rfl, rfl, h0⟩ := trodAll_one hA
  obtain ⟨rfl, rfl⟩ := trodVars_none hV
  clear hA0 hval0
  simp only [List.append_nil] at hW'
  obtain ⟨x0, y0, z0, rfl, rfl, rfl, wx0, wy0, wz0⟩ := mazeR.open_maze (hval 0 37 v0 rfl rfl) h0
  refine (walk x0 y0 z0 W wx0 wy0 wz0).mono fun e W' ⟨he, hg⟩ => ?_
  subst he
  exact ⟨_, rfl, post_below (pa := []) (pv := []) hW' (fun _ _ _ => (trodAll_cons_mk (shut_bool Try.underlying4 _) trodAll_mk0)) (fun sp _ => (trodAll_cons_mk (mazeR.shut_maze wx0 wy0 wz0) trodAll_mk0)) (fun _ _ => rfl) (by simp)
    hg (ok_one (by kernel_rfl) rfl (okWide_bool_mk Try.underlying4 _))⟩

theorem over : Rows.fnExactLaplaceOfRow.holds Try.pinned (OpenSpec.ofChange Rows.fnExactLaplaceOfSpec) :=
  OpenClaim.holds_of_wide 6 Try.f6 rfl rfl rfl rfl rfl rfl rfl ⟨rfl, rfl, rfl, rfl, rfl⟩ rfl rfl rfl rfl rfl (by kernel_rfl) Try.func6 (by kernel_rfl)
    (of_decide_eq_true (by kernel_rfl)) (by unfold Func.isWrapper; first | (rw [if_pos (by decide +kernel)]; kernel_rfl) | (rw [if_neg (by decide +kernel)]; exact ⟨rfl, rfl⟩))
    (fun os started H enc _ => lifted os started H enc)

theorem proved : Rows.FnExactLaplaceOfSaid :=
  over
end Go.Proofs.Ytjdmlhdagmggjaa.fnExactLaplaceOf
