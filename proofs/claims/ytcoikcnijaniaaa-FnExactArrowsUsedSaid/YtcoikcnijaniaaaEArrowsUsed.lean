/- ArrowsUsed: for every argument the program's answer is the model's, and the arguments read as before. -/
import Derived.Test.YtcoikcnijaniaaaRowsL
import Derived.Test.YtcoikcnijaniaaaPopS
import Derived.Test.YtcoikcnijaniaaaPopI6
import Derived.Test.YtcoikcnijaniaaaMzB
import Derived.Test.YtcoikcnijaniaaaBase
namespace Go.Proofs.Ytcoikcnijaniaaa.fnExactArrowsUsed
open Go.ChangeShapes Go.WideShapes Go.ChangeAt Go.RowKit
open gridC mazeP mazeC mazeM mazeR gridR rowsP rowsL popP gridE intsP intK intA listK lawKit reachD draw
set_option linter.unusedVariables false

/-- The law's answer. -/
def Yes (w : World) (e : Ending) (w' : World) : Prop := e = .returned (.bool true) ∧ Below w.heap.size w w'
theorem yes_mk {w w' : World} (h : Below w.heap.size w w') : Yes w (.returned (.bool true)) w' := ⟨rfl, h⟩

set_option maxRecDepth 100000 in
set_option maxHeartbeats 2000000 in
theorem walk_at (x0 y0 : Int) (A1 : Option Addr) (n1 c1 : Nat) (l1 : List (List Int)) (A2 : Option Addr) (n2 c2 : Nat) (l2 : List Int) (r0 : Int) (W : World) (hn1 : l1.length = n1) (hmx1 : n1 ≤ maxLen) (hsx1 : ∀ u ∈ l1, u.length ≤ maxLen) (hi1 : MxIn W W.heap.size A1 l1) (hn2 : l2.length = n2) (hi2 : IntsIn W W.heap.size A2 l2) (hm2 : n2 ≤ 1048576)
    (HS : Hid (∀ A1 n1 c1 A2 n2 c2 X, l1.length = n1 → n1 ≤ 1048576 → (∀ u ∈ l1, u.length ≤ 1048576) → MxIn X X.heap.size A1 l1 → l2.length = n2 → n2 ≤ 1048576 → IntsIn X X.heap.size A2 l2 → Calls Try.prog 37 #[.agg #[.int .i64 x0, .int .i64 y0], .slice A1 n1 c1, .slice A2 n2 c2] X (Nm r0 X)))
    (HI : Hid (∀ A1 n1 c1 A2 n2 c2 X, l1.length = n1 → n1 ≤ 1048576 → (∀ u ∈ l1, u.length ≤ 1048576) → MxIn X X.heap.size A1 l1 → l2.length = n2 → n2 ≤ 1048576 → IntsIn X X.heap.size A2 l2 → Calls Try.prog 23 #[.agg #[.int .i64 x0, .int .i64 y0], .slice A1 n1 c1, .slice A2 n2 c2] X (Nm r0 X))) :
    Calls Try.prog 8 #[.agg #[.int .i64 x0, .int .i64 y0], .slice A1 n1 c1, .slice A2 n2 c2] W (Yes W) := by
  have HK := @Lib.hid _ (fun w' b => @yes_mk W w' b)
  have HY1 := Lib.hid hi1
  have Hn1 := Lib.hid hn1
  have HX1 := Lib.hid hsx1
  clear hsx1
  have HY2 := Lib.hid hi2
  have Hn2 := Lib.hid hn2
  have hb2 : decide ((1048576 : Int) < (n2 : Int)) = false := by simp; omega
  have er0 : (r0 != r0) = false := by simp
  clear hi1 hn1 hi2 hn2
  go_enter Try.func8, Try.ntmps8
  have hbl := Lib.hid (below_box W (.cells #[.int .i64 x0, .int .i64 y0] 45))
  have hxc0 := Lib.hid (box_new x0 y0 W 45)
  obtain ⟨c00, c01⟩ := hxc0.out.1
  go_wp2_with fail
  refine (rowsL.szIntSS_any A1 n1 c1 l1 1048576 _ Hn1.out hmx1 HX1.out (by decide) ((HY1.out.below hbl.out).more hbl.out.size)).mono ?_
  rintro e w1 ⟨q, rfl, hb, hq⟩
  clear c00 c01
  replace hbl := Lib.hid (below_call hbl.out hb)
  replace hxc0 := Lib.hid (hxc0.out.call hb)
  clear hb
  rcases hq with hq | ⟨hq, hsz⟩
  · have hq2 : decide (q < 0) = true := decide_eq_true hq
    clear hq
    go_wp2_with fail
    go_ret
    exact HK.out _ hbl.out
  have hq2 : decide (q < 0) = false := decide_eq_false (by omega)
  have hm1 : n1 ≤ 1048576 := by omega
  have hs1 : Hid (∀ u ∈ l1, u.length ≤ 1048576) := Lib.hid fun u hu => by have := len_toN hu; omega
  have HT1l : Hid (1 + toN l1 ≤ 3000000) := Lib.hid (by omega)
  clear hsz hq
  obtain ⟨c00, c01⟩ := hxc0.out.1
  go_wp2_with fail
  refine (toGrid_any x0 y0 _).mono ?_
  rintro e w2 ⟨rfl, hb⟩
  clear c00 c01
  replace hbl := Lib.hid (below_call hbl.out hb)
  replace hxc0 := Lib.hid (hxc0.out.call hb)
  clear hb
  obtain ⟨c00, c01⟩ := hxc0.out.1
  go_wp2_with fail
  refine (rowsL.toIntSS_any A1 n1 c1 l1 _ Hn1.out.symm hm1 hs1.out ((HY1.out.below hbl.out).more hbl.out.size)).mono ?_
  rintro e w3 ⟨vt0, rfl, ho, hb⟩
  clear c00 c01
  have h_t0 := Lib.hid ho
  clear ho
  have UW_t0 := Lib.hid hbl.out.size
  have UBc0_t0 := Lib.hid hxc0.out.2
  replace hbl := Lib.hid (below_call hbl.out hb)
  replace hxc0 := Lib.hid (hxc0.out.call hb)
  clear hb
  have LT_t0 := Lib.hid (Nat.le_refl w3.heap.size)
  obtain ⟨A_t0, k_t0, rfl⟩ := h_t0.out.form
  obtain ⟨c00, c01⟩ := hxc0.out.1
  go_wp2_with fail
  refine (toIntS_any A2 n2 c2 l2 _ Hn2.out.symm hm2 ((HY2.out.below hbl.out).more hbl.out.size)).mono ?_
  rintro e w4 ⟨vt1, rfl, ho, hb⟩
  clear c00 c01
  have h_t1 := Lib.hid ho
  clear ho
  replace hbl := Lib.hid (below_call hbl.out hb)
  replace hxc0 := Lib.hid (hxc0.out.call hb)
  replace h_t0 := Lib.hid (MxOw.call h_t0.out hb)
  replace LT_t0 := Lib.hid (Nat.le_trans LT_t0.out hb.size)
  clear hb
  obtain ⟨A_t1, k_t1, rfl⟩ := intsP.own_form h_t1.out
  obtain ⟨c00, c01⟩ := hxc0.out.1
  go_wp2_with fail
  refine (HS.out A_t0 _ k_t0 A_t1 _ k_t1 _ rfl (by have := Hn1.out; omega) hs1.out (MxOw.read h_t0.out) rfl (by have := Hn2.out; omega) (ints_own h_t1.out).1).mono ?_
  rintro e w5 ⟨rfl, hb⟩
  clear c00 c01
  replace hbl := Lib.hid (below_call hbl.out hb)
  replace hxc0 := Lib.hid (hxc0.out.call hb)
  replace h_t0 := Lib.hid (MxOw.call h_t0.out hb)
  replace LT_t0 := Lib.hid (Nat.le_trans LT_t0.out hb.size)
  replace h_t1 := Lib.hid (own_call h_t1.out hb)
  clear hb
  obtain ⟨c00, c01⟩ := hxc0.out.1
  go_wp2_with fail
  refine (rowsL.toIntSS_any A1 n1 c1 l1 _ Hn1.out.symm hm1 hs1.out ((HY1.out.below hbl.out).more hbl.out.size)).mono ?_
  rintro e w6 ⟨vx1, rfl, ho, hb⟩
  clear c00 c01
  have LE_t0_x1 := LT_t0
  have h_x1 := Lib.hid ho
  clear ho
  have UW_x1 := Lib.hid hbl.out.size
  have UBc0_x1 := Lib.hid hxc0.out.2
  replace hbl := Lib.hid (below_call hbl.out hb)
  replace hxc0 := Lib.hid (hxc0.out.call hb)
  replace h_t0 := Lib.hid (MxOw.call h_t0.out hb)
  replace LT_t0 := Lib.hid (Nat.le_trans LT_t0.out hb.size)
  replace h_t1 := Lib.hid (own_call h_t1.out hb)
  clear hb
  have LT_x1 := Lib.hid (Nat.le_refl w6.heap.size)
  obtain ⟨A_x1, k_x1, rfl⟩ := h_x1.out.form
  obtain ⟨c00, c01⟩ := hxc0.out.1
  go_wp2_with fail
  refine (toIntS_any A2 n2 c2 l2 _ Hn2.out.symm hm2 ((HY2.out.below hbl.out).more hbl.out.size)).mono ?_
  rintro e w7 ⟨vx2, rfl, ho, hb⟩
  clear c00 c01
  have NE_t1_x2 := Lib.hid (own_apart h_t1.out ho)
  have h_x2 := Lib.hid ho
  clear ho
  replace hbl := Lib.hid (below_call hbl.out hb)
  replace hxc0 := Lib.hid (hxc0.out.call hb)
  replace h_t0 := Lib.hid (MxOw.call h_t0.out hb)
  replace LT_t0 := Lib.hid (Nat.le_trans LT_t0.out hb.size)
  replace h_t1 := Lib.hid (own_call h_t1.out hb)
  replace h_x1 := Lib.hid (MxOw.call h_x1.out hb)
  replace LT_x1 := Lib.hid (Nat.le_trans LT_x1.out hb.size)
  clear hb
  obtain ⟨A_x2, k_x2, rfl⟩ := intsP.own_form h_x2.out
  obtain ⟨c00, c01⟩ := hxc0.out.1
  go_wp2_with fail
  refine (toGrid_any x0 y0 _).mono ?_
  rintro e w8 ⟨rfl, hb⟩
  clear c00 c01
  replace hbl := Lib.hid (below_call hbl.out hb)
  replace hxc0 := Lib.hid (hxc0.out.call hb)
  replace h_t0 := Lib.hid (MxOw.call h_t0.out hb)
  replace LT_t0 := Lib.hid (Nat.le_trans LT_t0.out hb.size)
  replace h_t1 := Lib.hid (own_call h_t1.out hb)
  replace h_x1 := Lib.hid (MxOw.call h_x1.out hb)
  replace LT_x1 := Lib.hid (Nat.le_trans LT_x1.out hb.size)
  replace h_x2 := Lib.hid (own_call h_x2.out hb)
  clear hb
  obtain ⟨c00, c01⟩ := hxc0.out.1
  go_wp2_with fail
  refine (HI.out A_x1 _ k_x1 A_x2 _ k_x2 _ rfl (by have := Hn1.out; omega) hs1.out (MxOw.read h_x1.out) rfl (by have := Hn2.out; omega) (ints_own h_x2.out).1).mono ?_
  rintro e w9 ⟨rfl, hb⟩
  clear c00 c01
  replace hbl := Lib.hid (below_call hbl.out hb)
  replace hxc0 := Lib.hid (hxc0.out.call hb)
  replace h_t0 := Lib.hid (MxOw.call h_t0.out hb)
  replace LT_t0 := Lib.hid (Nat.le_trans LT_t0.out hb.size)
  replace h_t1 := Lib.hid (own_call h_t1.out hb)
  replace h_x1 := Lib.hid (MxOw.call h_x1.out hb)
  replace LT_x1 := Lib.hid (Nat.le_trans LT_x1.out hb.size)
  replace h_x2 := Lib.hid (own_call h_x2.out hb)
  clear hb
  clear h_t0 LT_t0
  clear h_t1
  obtain ⟨c00, c01⟩ := hxc0.out.1
  go_wp2_with fail
  refine (rowsL.toIntSS_any A1 n1 c1 l1 _ Hn1.out.symm hm1 hs1.out ((HY1.out.below hbl.out).more hbl.out.size)).mono ?_
  rintro e w10 ⟨vt4, rfl, ho, hb⟩
  clear c00 c01
  have LE_x1_t4 := LT_x1
  have h_t4 := Lib.hid ho
  clear ho
  have UW_t4 := Lib.hid hbl.out.size
  have UBc0_t4 := Lib.hid hxc0.out.2
  replace hbl := Lib.hid (below_call hbl.out hb)
  replace hxc0 := Lib.hid (hxc0.out.call hb)
  replace h_x1 := Lib.hid (MxOw.call h_x1.out hb)
  replace LT_x1 := Lib.hid (Nat.le_trans LT_x1.out hb.size)
  replace h_x2 := Lib.hid (own_call h_x2.out hb)
  clear hb
  have LT_t4 := Lib.hid (Nat.le_refl w10.heap.size)
  obtain ⟨A_t4, k_t4, rfl⟩ := h_t4.out.form
  obtain ⟨c00, c01⟩ := hxc0.out.1
  go_wp2_with fail
  refine (rowsL.eq_b _ _ _ _ _ _ l1.length l1 _ rfl (by have := Hn1.out; omega) (fun l h => Nat.le_trans (hs1.out l h) (by decide)) h_x1.out h_t4.out).mono ?_
  rintro e w11 ⟨rfl, hb⟩
  clear c00 c01
  replace hbl := Lib.hid (below_call hbl.out hb)
  replace hxc0 := Lib.hid (hxc0.out.call hb)
  replace h_x1 := Lib.hid (MxOw.call h_x1.out hb)
  replace LT_x1 := Lib.hid (Nat.le_trans LT_x1.out hb.size)
  replace h_x2 := Lib.hid (own_call h_x2.out hb)
  replace h_t4 := Lib.hid (MxOw.call h_t4.out hb)
  replace LT_t4 := Lib.hid (Nat.le_trans LT_t4.out hb.size)
  clear hb
  clear h_t4 LT_t4
  obtain ⟨c00, c01⟩ := hxc0.out.1
  go_wp2_with fail
  refine (toIntS_any A2 n2 c2 l2 _ Hn2.out.symm hm2 ((HY2.out.below hbl.out).more hbl.out.size)).mono ?_
  rintro e w12 ⟨vt5, rfl, ho, hb⟩
  clear c00 c01
  have NE_x2_t5 := Lib.hid (own_apart h_x2.out ho)
  have h_t5 := Lib.hid ho
  clear ho
  replace hbl := Lib.hid (below_call hbl.out hb)
  replace hxc0 := Lib.hid (hxc0.out.call hb)
  replace h_x1 := Lib.hid (MxOw.call h_x1.out hb)
  replace LT_x1 := Lib.hid (Nat.le_trans LT_x1.out hb.size)
  replace h_x2 := Lib.hid (own_call h_x2.out hb)
  clear hb
  obtain ⟨A_t5, k_t5, rfl⟩ := intsP.own_form h_t5.out
  obtain ⟨c00, c01⟩ := hxc0.out.1
  go_wp2_with fail
  refine (eq_b _ _ _ _ l2.length l2 _ rfl (by have := Hn2.out; omega) h_x2.out h_t5.out).mono ?_
  rintro e w13 ⟨rfl, hb⟩
  clear c00 c01
  replace hbl := Lib.hid (below_call hbl.out hb)
  replace hxc0 := Lib.hid (hxc0.out.call hb)
  replace h_x1 := Lib.hid (MxOw.call h_x1.out hb)
  replace LT_x1 := Lib.hid (Nat.le_trans LT_x1.out hb.size)
  replace h_x2 := Lib.hid (own_call h_x2.out hb)
  replace h_t5 := Lib.hid (own_call h_t5.out hb)
  clear hb
  clear h_t5
  go_wp2_with fail
  go_ret
  exact HK.out _ hbl.out

set_option maxRecDepth 100000 in
theorem walk (x0 y0 : Int) (A1 : Option Addr) (n1 c1 : Nat) (l1 : List (List Int)) (A2 : Option Addr) (n2 c2 : Nat) (l2 : List Int) (W : World) (wx0 : (Lit.int .i64 x0).wf = true) (wy0 : (Lit.int .i64 y0).wf = true) (hn1 : l1.length = n1) (hmx1 : n1 ≤ maxLen) (hsx1 : ∀ u ∈ l1, u.length ≤ maxLen) (hi1 : MxIn W W.heap.size A1 l1) (hn2 : l2.length = n2) (hmx2 : n2 ≤ maxLen) (hi2 : IntsIn W W.heap.size A2 l2) :
    Calls Try.prog 8 #[.agg #[.int .i64 x0, .int .i64 y0], .slice A1 n1 c1, .slice A2 n2 c2] W (Yes W) := by
  by_cases hbig : 1048576 < n2
  · have hb1 : decide ((1048576 : Int) < (n2 : Int)) = true := by simp; omega
    have HB := Lib.hid below_box
    have HR := Lib.hid (Below.refl W.heap.size W)
    have HK := @Lib.hid _ (fun w' b => @yes_mk W w' b)
    clear hn1 hi1 hn2 hi2
    go_enter Try.func8, Try.ntmps8
    go_wp2_with fail
    go_ret
    exact HK.out _ (HB.out _ _)
  · have hm2 : n2 ≤ 1048576 := by omega
    exact walk_at x0 y0 A1 n1 c1 l1 A2 n2 c2 l2 (auZ x0 y0 l1 l2) W hn1 hmx1 hsx1 hi1 hn2 hi2 hm2
      (Lib.hid (fun A1 n1 c1 A2 n2 c2 X e1 m1 z1 y1 e2 m2 y2 => popM.arrowsUsed_any x0 y0 A1 n1 c1 l1 A2 n2 c2 l2 X e1 m1 z1 y1 e2 m2 y2))
      (Lib.hid (fun A1 n1 c1 A2 n2 c2 X e1 m1 z1 y1 e2 m2 y2 => popI.arrowsUsed_any x0 y0 A1 n1 c1 l1 A2 n2 c2 l2 X e1 m1 z1 y1 e2 m2 y2))

set_option maxRecDepth 100000 in
theorem lifted (os : Os) (started : os.Started) (H : Type) (enc : TypeId × Value → H) :
    ReturnsInHanded {} Try.checked os 8 .any (Rows.fnExactArrowsUsedSpec.pre6 enc Try.prog Try.f8 Rows.fnExactArrowsUsedRow.domain false) (Rows.fnExactArrowsUsedSpec.post enc Try.prog Try.f8 false true false false) := by
  refine returnsInHanded_of_change (C := Try.checked) own started (by kernel_rfl) Try.func8
    (ChangeSpec.witness6 (enc := enc) (C := Try.checked) false ⟨#[], #[.agg #[.int .i64 0, .int .i64 0], .slice none 0 0, .slice none 0 0], []⟩ 8 (by kernel_rfl) (by kernel_rfl) (by kernel_rfl) (by kernel_rfl)) ?_
  intro W base args ds gs before hval0 hW _ _
  have hval : ∀ (j : Nat) t v, Try.f8.params[j]? = some t → args[j]? = some v → Value.okWide Try.prog W .any base t v := hval0
  have hW' := hW
  obtain ⟨p, q, hA0, hV, rfl, hfz, hnd⟩ := hW
  have hA : DataW.TrodAll enc Try.prog W 0 (fun _ => true) true Try.f8.params.toList args.toList ds p := hA0
  rw [Try.params8] at hA hval
  obtain ⟨v0, vs0, d0, ds0, p0, q0, hargs, rfl, rfl, h0, r0⟩ := trodAll_cons hA
  obtain ⟨v1, vs1, d1, ds1, p1, q1, rfl, rfl, rfl, h1, r1⟩ := trodAll_cons r0
  obtain ⟨v2, vs2, d2, ds2, p2, q2, rfl, rfl, rfl, h2, r2⟩ := trodAll_cons r1
  obtain ⟨rfl, rfl, rfl⟩ := trodAll_nil r2
  obtain rfl : args = #[v0, v1, v2] := by cases args; simp_all
  obtain ⟨rfl, rfl⟩ := trodVars_none hV
  clear hA0 hval0
  simp only [List.append_nil] at hW'
  obtain ⟨x0, y0, rfl, rfl, rfl, wx0, wy0⟩ := gridR.open_grid (hval 0 45 v0 rfl rfl) h0
  have hlt1 : ∀ x ∈ p1, x.block < W.heap.size := fun x hx => by simpa using hW'.lt x (by simp [hx])
  obtain ⟨A1, c1, l1, rfl, hn1, hu1, hb1⟩ := rowsP.open_rowS Try.underlying37 Try.underlying32 Try.underlying3 rowsL.cellsRow mazeR.cellsInt (hval 1 37 v1 rfl rfl) h1 hlt1
  have hlt2 : ∀ x ∈ p2, x.block < W.heap.size := fun x hx => by simpa using hW'.lt x (by simp [hx])
  obtain ⟨A2, c2, l2, rfl, hn2, hb2⟩ := intA.open_intS Try.underlying32 Try.underlying3 mazeR.cellsInt (hval 2 32 v2 rfl rfl) h2 hlt2
  refine (walk x0 y0 A1 l1.length c1 l1 A2 l2.length c2 l2 W wx0 wy0 rfl hn1 hu1 hb1 rfl hn2 hb2).mono fun e W' ⟨he, hg⟩ => ?_
  subst he
  exact ⟨_, rfl, post_below (pa := _) (pv := []) hW' (fun _ _ _ => (trodAll_cons_mk (shut_bool Try.underlying4 _) trodAll_mk0)) (fun sp hsp => (trodAll_cons_mk (gridR.shut_grid wx0 wy0) (trodAll_cons_mk (WideElems.Trod_stays laidOut (by kernel_rfl) (of_decide_eq_true (by kernel_rfl)) h1 (fun x hx => hg.same (hlt1 x hx)) (fun p hp => hsp p (by simp [hp]))) (trodAll_cons_mk (WideElems.Trod_stays laidOut (by kernel_rfl) (of_decide_eq_true (by kernel_rfl)) h2 (fun x hx => hg.same (hlt2 x hx)) (fun p hp => hsp p (by simp [hp]))) trodAll_mk0)))) (fun _ _ => rfl) (by simp)
    hg (ok_one (by kernel_rfl) rfl (okWide_bool_mk Try.underlying4 _))⟩

theorem over : Rows.fnExactArrowsUsedRow.holds Try.pinned (OpenSpec.ofChange Rows.fnExactArrowsUsedSpec) :=
  OpenClaim.holds_of_wide 8 Try.f8 rfl rfl rfl rfl rfl rfl rfl ⟨rfl, rfl, rfl, rfl, rfl⟩ rfl rfl rfl rfl rfl (by kernel_rfl) Try.func8 (by kernel_rfl)
    (of_decide_eq_true (by kernel_rfl)) (by unfold Func.isWrapper; first | (rw [if_pos (by decide +kernel)]; kernel_rfl) | (rw [if_neg (by decide +kernel)]; exact ⟨rfl, rfl⟩))
    (fun os started H enc _ => lifted os started H enc)

theorem proved : Rows.FnExactArrowsUsedSaid :=
  over
end Go.Proofs.Ytcoikcnijaniaaa.fnExactArrowsUsed
