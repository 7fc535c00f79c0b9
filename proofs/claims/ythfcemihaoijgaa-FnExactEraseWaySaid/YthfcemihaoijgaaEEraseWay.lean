/- EraseWay: for every argument the program's answer is the model's and owns its memory, and the arguments read as before. -/
import Derived.Test.YthfcemihaoijgaaErsM
import Derived.Test.YthfcemihaoijgaaErsI
import Derived.Test.YthfcemihaoijgaaListK
import Derived.Test.YthfcemihaoijgaaBase
import Derived.Test.YthfcemihaoijgaaMzB
namespace Go.Proofs.Ythfcemihaoijgaa.fnExactEraseWay
open Go.ChangeShapes Go.WideShapes Go.ChangeAt Go.RowKit
open gridC gridR mazeP mazeC mazeM mazeR wayP ersP ersO gridE intsP intK intA listK lawKit reachD draw
set_option linter.unusedVariables false

/-- The law's answer. -/
def Yes (w : World) (e : Ending) (w' : World) : Prop := e = .returned (.bool true) ∧ Below w.heap.size w w'
theorem yes_mk {w w' : World} (h : Below w.heap.size w w') : Yes w (.returned (.bool true)) w' := ⟨rfl, h⟩

set_option maxRecDepth 100000 in
set_option maxHeartbeats 2000000 in
theorem walk_at (x0 y0 z0 : Int) (a1 : Int) (A2 : Option Addr) (n2 c2 : Nat) (l2 : List Int) (r0 : List Int) (r1 : Bool) (W : World) (hn2 : l2.length = n2) (hi2 : IntsIn W W.heap.size A2 l2) (hm2 : n2 ≤ 1048576) (hl0 : r0.length ≤ 2000000)
    (HS : Hid (∀ A2 n2 c2 X, l2.length = n2 → n2 ≤ 1048576 → IntsIn X X.heap.size A2 l2 → Calls Try.prog 26 #[.agg #[.int .i64 x0, .int .i64 y0, .int .i64 z0], .int .i64 a1, .slice A2 n2 c2] X (IntsB r0 r1 X)))
    (HI : Hid (∀ A2 n2 c2 X, l2.length = n2 → n2 ≤ 1048576 → IntsIn X X.heap.size A2 l2 → Calls Try.prog 12 #[.agg #[.int .i64 x0, .int .i64 y0, .int .i64 z0], .int .i64 a1, .slice A2 n2 c2] X (IntsB r0 r1 X))) :
    Calls Try.prog 7 #[.agg #[.int .i64 x0, .int .i64 y0, .int .i64 z0], .int .i64 a1, .slice A2 n2 c2] W (Yes W) := by
  have HK := @Lib.hid _ (fun w' b => @yes_mk W w' b)
  have HY2 := Lib.hid hi2
  have Hn2 := Lib.hid hn2
  have hb2 : decide ((1048576 : Int) < (n2 : Int)) = false := by simp; omega
  have er0 : ((r0.length : Int) != (r0.length : Int)) = false := by simp
  have er1 : (r1 != r1) = false := by cases r1 <;> rfl
  clear hi2 hn2
  go_enter Try.func7, Try.ntmps7
  have hbl := Lib.hid (below_box W (.cells #[.int .i64 x0, .int .i64 y0, .int .i64 z0] 45))
  have hxc0 := Lib.hid (mbox_new x0 y0 z0 W 45)
  obtain ⟨c00, c01, c02⟩ := hxc0.out.1
  go_wp2_with fail
  refine (toMaze_any x0 y0 z0 _).mono ?_
  rintro e w1 ⟨rfl, hb⟩
  clear c00 c01 c02
  replace hbl := Lib.hid (below_call hbl.out hb)
  replace hxc0 := Lib.hid (hxc0.out.call hb)
  clear hb
  obtain ⟨c00, c01, c02⟩ := hxc0.out.1
  go_wp2_with fail
  refine (toIntS_any A2 n2 c2 l2 _ Hn2.out.symm hm2 ((HY2.out.below hbl.out).more hbl.out.size)).mono ?_
  rintro e w2 ⟨vt0, rfl, ho, hb⟩
  clear c00 c01 c02
  have h_t0 := Lib.hid ho
  clear ho
  replace hbl := Lib.hid (below_call hbl.out hb)
  replace hxc0 := Lib.hid (hxc0.out.call hb)
  clear hb
  obtain ⟨A_t0, k_t0, rfl⟩ := intsP.own_form h_t0.out
  obtain ⟨c00, c01, c02⟩ := hxc0.out.1
  go_wp2_with fail
  refine (HS.out A_t0 _ k_t0 _ rfl (by have := Hn2.out; omega) (ints_own h_t0.out).1).mono ?_
  rintro e w3 ⟨vw0, rfl, ho, hb⟩
  clear c00 c01 c02
  have NE_t0_w0 := Lib.hid (own_apart h_t0.out ho)
  have h_w0 := Lib.hid ho
  clear ho
  replace hbl := Lib.hid (below_call hbl.out hb)
  replace hxc0 := Lib.hid (hxc0.out.call hb)
  replace h_t0 := Lib.hid (own_call h_t0.out hb)
  clear hb
  obtain ⟨A_w0, k_w0, rfl⟩ := intsP.own_form h_w0.out
  obtain ⟨c00, c01, c02⟩ := hxc0.out.1
  go_wp2_with fail
  refine (toIntS_any A2 n2 c2 l2 _ Hn2.out.symm hm2 ((HY2.out.below hbl.out).more hbl.out.size)).mono ?_
  rintro e w4 ⟨vx2, rfl, ho, hb⟩
  clear c00 c01 c02
  have NE_t0_x2 := Lib.hid (own_apart h_t0.out ho)
  have NE_w0_x2 := Lib.hid (own_apart h_w0.out ho)
  have h_x2 := Lib.hid ho
  have U_x2 := Lib.hid (fun g e => (ho.lt g e))
  have UW_x2 := Lib.hid hbl.out.size
  have UBc0_x2 := Lib.hid hxc0.out.2
  clear ho
  replace hbl := Lib.hid (below_call hbl.out hb)
  replace hxc0 := Lib.hid (hxc0.out.call hb)
  replace h_t0 := Lib.hid (own_call h_t0.out hb)
  replace h_w0 := Lib.hid (own_call h_w0.out hb)
  clear hb
  obtain ⟨A_x2, k_x2, rfl⟩ := intsP.own_form h_x2.out
  obtain ⟨c00, c01, c02⟩ := hxc0.out.1
  go_wp2_with fail
  refine (toMaze_any x0 y0 z0 _).mono ?_
  rintro e w5 ⟨rfl, hb⟩
  clear c00 c01 c02
  replace hbl := Lib.hid (below_call hbl.out hb)
  replace hxc0 := Lib.hid (hxc0.out.call hb)
  replace h_t0 := Lib.hid (own_call h_t0.out hb)
  replace h_w0 := Lib.hid (own_call h_w0.out hb)
  replace h_x2 := Lib.hid (own_call h_x2.out hb)
  clear hb
  obtain ⟨c00, c01, c02⟩ := hxc0.out.1
  go_wp2_with fail
  refine (HI.out A_x2 _ k_x2 _ rfl (by have := Hn2.out; omega) (ints_own h_x2.out).1).mono ?_
  rintro e w6 ⟨vg0, rfl, ho, hb⟩
  clear c00 c01 c02
  have NE_t0_g0 := Lib.hid (own_apart h_t0.out ho)
  have NE_w0_g0 := Lib.hid (own_apart h_w0.out ho)
  have NE_x2_g0 := Lib.hid (own_apart h_x2.out ho)
  have h_g0 := Lib.hid ho
  have U_g0 := Lib.hid (fun g e => (ho.lt g e))
  have UW_g0 := Lib.hid hbl.out.size
  have UBc0_g0 := Lib.hid hxc0.out.2
  clear ho
  replace hbl := Lib.hid (below_call hbl.out hb)
  replace hxc0 := Lib.hid (hxc0.out.call hb)
  replace h_t0 := Lib.hid (own_call h_t0.out hb)
  replace h_w0 := Lib.hid (own_call h_w0.out hb)
  replace h_x2 := Lib.hid (own_call h_x2.out hb)
  clear hb
  obtain ⟨A_g0, k_g0, rfl⟩ := intsP.own_form h_g0.out
  obtain ⟨c00, c01, c02⟩ := hxc0.out.1
  go_wp2_with fail
  refine (eq_b _ _ _ _ r0.length r0 _ rfl (by omega) h_g0.out h_w0.out).mono ?_
  rintro e w7 ⟨rfl, hb⟩
  clear c00 c01 c02
  replace hbl := Lib.hid (below_call hbl.out hb)
  replace hxc0 := Lib.hid (hxc0.out.call hb)
  replace h_t0 := Lib.hid (own_call h_t0.out hb)
  replace h_w0 := Lib.hid (own_call h_w0.out hb)
  replace h_x2 := Lib.hid (own_call h_x2.out hb)
  replace h_g0 := Lib.hid (own_call h_g0.out hb)
  clear hb
  clear h_t0
  obtain ⟨c00, c01, c02⟩ := hxc0.out.1
  go_wp2_with fail
  refine (toIntS_any A2 n2 c2 l2 _ Hn2.out.symm hm2 ((HY2.out.below hbl.out).more hbl.out.size)).mono ?_
  rintro e w8 ⟨vt2, rfl, ho, hb⟩
  clear c00 c01 c02
  have NE_w0_t2 := Lib.hid (own_apart h_w0.out ho)
  have NE_x2_t2 := Lib.hid (own_apart h_x2.out ho)
  have NE_g0_t2 := Lib.hid (own_apart h_g0.out ho)
  have h_t2 := Lib.hid ho
  clear ho
  replace hbl := Lib.hid (below_call hbl.out hb)
  replace hxc0 := Lib.hid (hxc0.out.call hb)
  replace h_w0 := Lib.hid (own_call h_w0.out hb)
  replace h_x2 := Lib.hid (own_call h_x2.out hb)
  replace h_g0 := Lib.hid (own_call h_g0.out hb)
  clear hb
  obtain ⟨A_t2, k_t2, rfl⟩ := intsP.own_form h_t2.out
  obtain ⟨c00, c01, c02⟩ := hxc0.out.1
  go_wp2_with fail
  refine (eq_b _ _ _ _ l2.length l2 _ rfl (by have := Hn2.out; omega) h_x2.out h_t2.out).mono ?_
  rintro e w9 ⟨rfl, hb⟩
  clear c00 c01 c02
  replace hbl := Lib.hid (below_call hbl.out hb)
  replace hxc0 := Lib.hid (hxc0.out.call hb)
  replace h_w0 := Lib.hid (own_call h_w0.out hb)
  replace h_x2 := Lib.hid (own_call h_x2.out hb)
  replace h_g0 := Lib.hid (own_call h_g0.out hb)
  replace h_t2 := Lib.hid (own_call h_t2.out hb)
  clear hb
  clear h_t2
  obtain ⟨c00, c01, c02⟩ := hxc0.out.1
  go_wp2_with fail
  refine (mark_one (.slice A_x2 l2.length k_x2) _ l2.length 1 1 _ _ rfl (by omega) (by have := Hn2.out; omega) h_x2.out).mono ?_
  rintro e w10 ⟨rfl, ho, hg⟩
  clear c00 c01 c02
  replace h_x2 := Lib.hid ho
  clear ho
  replace hbl := Lib.hid (below_marked hbl.out hg (fun g e => Nat.le_trans UW_x2.out (U_x2.out g e).1))
  replace hxc0 := Lib.hid (mbox_marked hxc0.out hg (fun g e => Nat.lt_of_lt_of_le UBc0_x2.out (U_x2.out g e).1))
  replace h_w0 := Lib.hid (row_marked h_w0.out hg NE_w0_x2.out)
  replace h_g0 := Lib.hid (row_marked h_g0.out hg (ne_symm NE_x2_g0.out))
  clear hg
  obtain ⟨c00, c01, c02⟩ := hxc0.out.1
  go_wp2_with fail
  refine (eq_b _ _ _ _ r0.length r0 _ rfl (by omega) h_g0.out h_w0.out).mono ?_
  rintro e w11 ⟨rfl, hb⟩
  clear c00 c01 c02
  replace hbl := Lib.hid (below_call hbl.out hb)
  replace hxc0 := Lib.hid (hxc0.out.call hb)
  replace h_w0 := Lib.hid (own_call h_w0.out hb)
  replace h_x2 := Lib.hid (own_call h_x2.out hb)
  replace h_g0 := Lib.hid (own_call h_g0.out hb)
  clear hb
  obtain ⟨c00, c01, c02⟩ := hxc0.out.1
  go_wp2_with fail
  refine (mark_one (.slice A_g0 r0.length k_g0) _ r0.length 1 1 _ _ rfl (by omega) (by omega) h_g0.out).mono ?_
  rintro e w12 ⟨rfl, ho, hg⟩
  clear c00 c01 c02
  replace h_g0 := Lib.hid ho
  clear ho
  replace hbl := Lib.hid (below_marked hbl.out hg (fun g e => Nat.le_trans UW_g0.out (U_g0.out g e).1))
  replace hxc0 := Lib.hid (mbox_marked hxc0.out hg (fun g e => Nat.lt_of_lt_of_le UBc0_g0.out (U_g0.out g e).1))
  replace h_w0 := Lib.hid (row_marked h_w0.out hg NE_w0_g0.out)
  replace h_x2 := Lib.hid (row_marked h_x2.out hg NE_x2_g0.out)
  clear hg
  obtain ⟨c00, c01, c02⟩ := hxc0.out.1
  go_wp2_with fail
  refine (held_any (.slice A_g0 r0.length k_g0) _ r0.length 1 1 _ rfl (by omega) (by omega) h_g0.out).mono ?_
  rintro e w13 ⟨rfl, hb⟩
  clear c00 c01 c02
  replace hbl := Lib.hid (below_call hbl.out hb)
  replace hxc0 := Lib.hid (hxc0.out.call hb)
  replace h_w0 := Lib.hid (own_call h_w0.out hb)
  replace h_x2 := Lib.hid (own_call h_x2.out hb)
  replace h_g0 := Lib.hid (own_call h_g0.out hb)
  clear hb
  have hne : (((1 + r0.length : Nat) : Int) != ((1 + r0.length : Nat) : Int)) = false := by simp
  have hne2 : ((1 : Int) + (r0.length : Int) != (1 : Int) + (r0.length : Int)) = false := by simp
  obtain ⟨c00, c01, c02⟩ := hxc0.out.1
  go_wp2_with fail
  refine (toMaze_any x0 y0 z0 _).mono ?_
  rintro e w14 ⟨rfl, hb⟩
  clear c00 c01 c02
  replace hbl := Lib.hid (below_call hbl.out hb)
  replace hxc0 := Lib.hid (hxc0.out.call hb)
  replace h_w0 := Lib.hid (own_call h_w0.out hb)
  replace h_x2 := Lib.hid (own_call h_x2.out hb)
  replace h_g0 := Lib.hid (own_call h_g0.out hb)
  clear hb
  obtain ⟨c00, c01, c02⟩ := hxc0.out.1
  go_wp2_with fail
  refine (toIntS_any A2 n2 c2 l2 _ Hn2.out.symm hm2 ((HY2.out.below hbl.out).more hbl.out.size)).mono ?_
  rintro e w15 ⟨vt3, rfl, ho, hb⟩
  clear c00 c01 c02
  have NE_w0_t3 := Lib.hid (own_apart h_w0.out ho)
  have NE_x2_t3 := Lib.hid (own_apart h_x2.out ho)
  have NE_g0_t3 := Lib.hid (own_apart h_g0.out ho)
  have h_t3 := Lib.hid ho
  clear ho
  replace hbl := Lib.hid (below_call hbl.out hb)
  replace hxc0 := Lib.hid (hxc0.out.call hb)
  replace h_w0 := Lib.hid (own_call h_w0.out hb)
  replace h_x2 := Lib.hid (own_call h_x2.out hb)
  replace h_g0 := Lib.hid (own_call h_g0.out hb)
  clear hb
  obtain ⟨A_t3, k_t3, rfl⟩ := intsP.own_form h_t3.out
  obtain ⟨c00, c01, c02⟩ := hxc0.out.1
  go_wp2_with fail
  refine (HI.out A_t3 _ k_t3 _ rfl (by have := Hn2.out; omega) (ints_own h_t3.out).1).mono ?_
  rintro e w16 ⟨vh0, rfl, ho, hb⟩
  clear c00 c01 c02
  have NE_w0_h0 := Lib.hid (own_apart h_w0.out ho)
  have NE_x2_h0 := Lib.hid (own_apart h_x2.out ho)
  have NE_g0_h0 := Lib.hid (own_apart h_g0.out ho)
  have NE_t3_h0 := Lib.hid (own_apart h_t3.out ho)
  have h_h0 := Lib.hid ho
  clear ho
  replace hbl := Lib.hid (below_call hbl.out hb)
  replace hxc0 := Lib.hid (hxc0.out.call hb)
  replace h_w0 := Lib.hid (own_call h_w0.out hb)
  replace h_x2 := Lib.hid (own_call h_x2.out hb)
  replace h_g0 := Lib.hid (own_call h_g0.out hb)
  replace h_t3 := Lib.hid (own_call h_t3.out hb)
  clear hb
  obtain ⟨A_h0, k_h0, rfl⟩ := intsP.own_form h_h0.out
  obtain ⟨c00, c01, c02⟩ := hxc0.out.1
  go_wp2_with fail
  refine (eq_b _ _ _ _ r0.length r0 _ rfl (by omega) h_h0.out h_w0.out).mono ?_
  rintro e w17 ⟨rfl, hb⟩
  clear c00 c01 c02
  replace hbl := Lib.hid (below_call hbl.out hb)
  replace hxc0 := Lib.hid (hxc0.out.call hb)
  replace h_w0 := Lib.hid (own_call h_w0.out hb)
  replace h_x2 := Lib.hid (own_call h_x2.out hb)
  replace h_g0 := Lib.hid (own_call h_g0.out hb)
  replace h_t3 := Lib.hid (own_call h_t3.out hb)
  replace h_h0 := Lib.hid (own_call h_h0.out hb)
  clear hb
  clear h_t3
  obtain ⟨c00, c01, c02⟩ := hxc0.out.1
  go_wp2_with fail
  refine (held_any (.slice A_g0 r0.length k_g0) _ r0.length 1 1 _ rfl (by omega) (by omega) h_g0.out).mono ?_
  rintro e w18 ⟨rfl, hb⟩
  clear c00 c01 c02
  replace hbl := Lib.hid (below_call hbl.out hb)
  replace hxc0 := Lib.hid (hxc0.out.call hb)
  replace h_w0 := Lib.hid (own_call h_w0.out hb)
  replace h_x2 := Lib.hid (own_call h_x2.out hb)
  replace h_g0 := Lib.hid (own_call h_g0.out hb)
  replace h_h0 := Lib.hid (own_call h_h0.out hb)
  clear hb
  go_wp2_with fail
  go_ret
  exact HK.out _ hbl.out

set_option maxRecDepth 100000 in
theorem walk (x0 y0 z0 : Int) (a1 : Int) (A2 : Option Addr) (n2 c2 : Nat) (l2 : List Int) (W : World) (wx0 : (Lit.int .i64 x0).wf = true) (wy0 : (Lit.int .i64 y0).wf = true) (wz0 : (Lit.int .i64 z0).wf = true) (w1 : (Lit.int .i64 a1).wf = true) (hn2 : l2.length = n2) (hmx2 : n2 ≤ maxLen) (hi2 : IntsIn W W.heap.size A2 l2) :
    Calls Try.prog 7 #[.agg #[.int .i64 x0, .int .i64 y0, .int .i64 z0], .int .i64 a1, .slice A2 n2 c2] W (Yes W) := by
  by_cases hbig : 1048576 < n2
  · have hb1 : decide ((1048576 : Int) < (n2 : Int)) = true := by simp; omega
    have HB := Lib.hid below_box
    have HR := Lib.hid (Below.refl W.heap.size W)
    have HK := @Lib.hid _ (fun w' b => @yes_mk W w' b)
    clear hn2 hi2
    go_enter Try.func7, Try.ntmps7
    go_wp2_with fail
    go_ret
    exact HK.out _ (HB.out _ _)
  · have hm2 : n2 ≤ 1048576 := by omega
    exact walk_at x0 y0 z0 a1 A2 n2 c2 l2 (ewL x0 y0 z0 a1 l2) (ewB x0 y0 z0 a1 l2) W hn2 hi2 hm2 (by have := ew_len x0 y0 z0 a1 l2; omega)
      (Lib.hid (fun A2 n2 c2 X e2 m2 y2 => ersM.eraseWay_any x0 y0 z0 a1 A2 n2 c2 l2 X e2 m2 y2))
      (Lib.hid (fun A2 n2 c2 X e2 m2 y2 => ersI.eraseWay_any x0 y0 z0 a1 A2 n2 c2 l2 X e2 m2 y2))

set_option maxRecDepth 100000 in
theorem lifted (os : Os) (started : os.Started) (H : Type) (enc : TypeId × Value → H) :
    ReturnsInHanded {} Try.checked os 7 .any (Rows.fnExactEraseWaySpec.pre6 enc Try.prog Try.f7 Rows.fnExactEraseWayRow.domain false) (Rows.fnExactEraseWaySpec.post enc Try.prog Try.f7 false true false false) := by
  refine returnsInHanded_of_change (C := Try.checked) own started (by kernel_rfl) Try.func7
    (ChangeSpec.witness6 (enc := enc) (C := Try.checked) false ⟨#[], #[.agg #[.int .i64 0, .int .i64 0, .int .i64 0], .int .i64 0, .slice none 0 0], []⟩ 8 (by kernel_rfl) (by kernel_rfl) (by kernel_rfl) (by kernel_rfl)) ?_
  intro W base args ds gs before hval0 hW _ _
  have hval : ∀ (j : Nat) t v, Try.f7.params[j]? = some t → args[j]? = some v → Value.okWide Try.prog W .any base t v := hval0
  have hW' := hW
  obtain ⟨p, q, hA0, hV, rfl, hfz, hnd⟩ := hW
  have hA : DataW.TrodAll enc Try.prog W 0 (fun _ => true) true Try.f7.params.toList args.toList ds p := hA0
  rw [Try.params7] at hA hval
  obtain ⟨v0, vs0, d0, ds0, p0, q0, hargs, rfl, rfl, h0, r0⟩ := trodAll_cons hA
  obtain ⟨v1, vs1, d1, ds1, p1, q1, rfl, rfl, rfl, h1, r1⟩ := trodAll_cons r0
  obtain ⟨v2, vs2, d2, ds2, p2, q2, rfl, rfl, rfl, h2, r2⟩ := trodAll_cons r1
  obtain ⟨rfl, rfl, rfl⟩ := trodAll_nil r2
  obtain rfl : args = #[v0, v1, v2] := by cases args; simp_all
  obtain ⟨rfl, rfl⟩ := trodVars_none hV
  clear hA0 hval0
  simp only [List.append_nil] at hW'
  obtain ⟨x0, y0, z0, rfl, rfl, rfl, wx0, wy0, wz0⟩ := mazeR.open_maze (hval 0 45 v0 rfl rfl) h0
  obtain ⟨a1, rfl, rfl, rfl, w1⟩ := open_int Try.underlying3 (hval 1 3 v1 rfl rfl) h1
  have hlt2 : ∀ x ∈ p2, x.block < W.heap.size := fun x hx => by simpa using hW'.lt x (by simp [hx])
  obtain ⟨A2, c2, l2, rfl, hn2, hb2⟩ := intA.open_intS Try.underlying28 Try.underlying3 mazeR.cellsInt (hval 2 28 v2 rfl rfl) h2 hlt2
  refine (walk x0 y0 z0 a1 A2 l2.length c2 l2 W wx0 wy0 wz0 w1 rfl hn2 hb2).mono fun e W' ⟨he, hg⟩ => ?_
  subst he
  exact ⟨_, rfl, post_below (pa := _) (pv := []) hW' (fun _ _ _ => (trodAll_cons_mk (shut_bool Try.underlying4 _) trodAll_mk0)) (fun sp hsp => (trodAll_cons_mk (mazeR.shut_maze wx0 wy0 wz0) (trodAll_cons_mk (shut_int Try.underlying3 w1) (trodAll_cons_mk (WideElems.Trod_stays laidOut (by kernel_rfl) (of_decide_eq_true (by kernel_rfl)) h2 (fun x hx => hg.same (hlt2 x hx)) (fun p hp => hsp p (by simp [hp]))) trodAll_mk0)))) (fun _ _ => rfl) (by simp)
    hg (ok_one (by kernel_rfl) rfl (okWide_bool_mk Try.underlying4 _))⟩

theorem over : Rows.fnExactEraseWayRow.holds Try.pinned (OpenSpec.ofChange Rows.fnExactEraseWaySpec) :=
  OpenClaim.holds_of_wide 7 Try.f7 rfl rfl rfl rfl rfl rfl rfl ⟨rfl, rfl, rfl, rfl, rfl⟩ rfl rfl rfl rfl rfl (by kernel_rfl) Try.func7 (by kernel_rfl)
    (of_decide_eq_true (by kernel_rfl)) (by unfold Func.isWrapper; first | (rw [if_pos (by decide +kernel)]; kernel_rfl) | (rw [if_neg (by decide +kernel)]; exact ⟨rfl, rfl⟩))
    (fun os started H enc _ => lifted os started H enc)

theorem proved : Rows.FnExactEraseWaySaid :=
  over
end Go.Proofs.Ythfcemihaoijgaa.fnExactEraseWay
