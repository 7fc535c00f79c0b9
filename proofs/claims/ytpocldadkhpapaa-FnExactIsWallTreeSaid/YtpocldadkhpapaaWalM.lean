/- The contracts of the model's functions on walls. -/
import Derived.Test.YtpocldadkhpapaaWalR
import Derived.Test.YtpocldadkhpapaaRchM
import Derived.Test.YtpocldadkhpapaaListK
namespace Go.Proofs.Ytpocldadkhpapaa.walM
open Go.ChangeShapes Go.WideShapes Go.ChangeAt Go.RowKit
open draw gridP gridQ gridC gridE bitP mazeP mazeQ mazeC mazeM mazeR mazeS intsP reachP reachM reachN reachD intA listK forest perfP walP walR
set_option linter.unusedVariables false

theorem countCorners_any (x y : Int) (W : World) :
    Calls Try.prog 20 #[.agg #[.int .i64 x, .int .i64 y]] W (Nm (cosZ x y) W) := by
  have HB := Lib.hid below_box
  by_cases hk : OkZ x y
  · obtain ⟨e1, e2, e3, e4⟩ := co_pos hk
    obtain ⟨h1, h2, h3, h4⟩ := id hk
    have he : (x + 1) * (y + 1) = cosZ x y := by unfold cosZ; rw [if_pos ⟨h1, h2, h3, h4⟩]
    have HK := @Lib.hid _ (fun w' b => @nm_mk ((x + 1) * (y + 1)) (cosZ x y) W w' he b)
    have q1 : IntKind.i64.wrap (x + 1) = x + 1 := IntWalk.i64_in _ (by omega)
    have q2 : IntKind.i64.wrap (y + 1) = y + 1 := IntWalk.i64_in _ (by omega)
    have q3 : IntKind.i64.wrap ((x + 1) * (y + 1)) = (x + 1) * (y + 1) := IntWalk.i64_in _ (by omega)
    clear he e1 e2 e3 e4 hk
    go_enter Try.func20, Try.ntmps20
    go_wp2_with fail
    refine (gridS.gridOk_yes x y _ h1 h2 h3 h4).mono ?_
    rintro e w1 ⟨rfl, hb⟩
    have hb1 := Lib.hid (below_call (HB.out _ _) hb)
    have hx := Lib.hid ((box_new x y W _).call hb)
    obtain ⟨c0, c1⟩ := hx.out.1
    clear hb
    go_wp2_with fail
    go_ret
    exact HK.out _ hb1.out
  · have he : 0 = cosZ x y := by unfold cosZ; rw [if_neg (show ¬ (1 ≤ x ∧ x ≤ 4 ∧ 1 ≤ y ∧ y ≤ 4) from hk)]
    have HK := @Lib.hid _ (fun w' b => @nm_mk 0 (cosZ x y) W w' he b)
    have Hk := Lib.hid hk
    clear he hk
    go_enter Try.func20, Try.ntmps20
    go_wp2_with fail
    refine (gridS.gridOk_no x y _ Hk.out).mono ?_
    rintro e w1 ⟨rfl, hb⟩
    have hb1 := Lib.hid (below_call (HB.out _ _) hb)
    clear hb
    go_wp2_with fail
    go_ret
    exact HK.out _ hb1.out

/-- The gaps of a grid have ends. -/
theorem ea_in {x y g : Int} (h : ¬ eaZ x y g < 0) : OkZ x y ∧ 0 ≤ g ∧ g < gpsZ x y := by
  unfold eaZ at h
  split at h
  · rename_i hk
    split at h
    · rename_i hg; exact ⟨hk, hg⟩
    · omega
  · omega
theorem cornersOf_any (x y g : Int) (W : World) :
    Calls Try.prog 27 #[.agg #[.int .i64 x, .int .i64 y], .int .i64 g] W (Nm2 (c1Z x y g) (c2Z x y g) W) := by
  have HB := Lib.hid below_box
  have HE := Lib.hid (fun X => gridS.endsOf_any x y g X)
  by_cases hn : eaZ x y g < 0
  · have e1 : -1 = c1Z x y g := by unfold c1Z; rw [if_pos hn]
    have e2 : -1 = c2Z x y g := by unfold c2Z; rw [if_pos hn]
    have HK := @Lib.hid _ (fun w' b => @nm2_mk (-1) (-1) _ _ W w' e1 e2 b)
    have hd : decide (eaZ x y g < 0) = true := decide_eq_true hn
    clear e1 e2 hn
    generalize eaZ x y g = ea at *
    generalize ebZ x y g = eb at *
    go_enter Try.func27, Try.ntmps27
    go_wp2_with fail
    refine (HE.out _).mono ?_
    rintro e w1 ⟨rfl, hb⟩
    have hb1 := Lib.hid (below_call (HB.out _ _) hb)
    clear hb
    go_wp2_with fail
    go_ret2
    exact HK.out _ hb1.out
  · obtain ⟨hk, g0, g1⟩ := ea_in hn
    obtain ⟨h1, h2, h3, h4⟩ := id hk
    have HA := Lib.hid (fun X => gridS.east_any x y X h1 h2 h3 h4)
    have hc1 : c1Z x y g = ebZ x y g / x * (x + 1) + ebZ x y g % x := by unfold c1Z; rw [if_neg hn]
    have hc2 : c2Z x y g = if g < (x - 1) * y then c1Z x y g + x + 1 else c1Z x y g + 1 := by unfold c2Z; rw [if_neg hn]
    have hend := (ends (x := x) (y := y) (g := g.toNat) hk (by unfold gN; omega)).1
    rw [show ((g.toNat : Nat) : Int) = g by omega] at hend
    have hxy := (mul_bd x y h1 h2 h3 h4).1
    have hd : decide (eaZ x y g < 0) = false := decide_eq_false hn
    have hc1b : 0 ≤ c1Z x y g ∧ c1Z x y g ≤ 100 := by
      rw [hc1]
      rcases (by omega : x = 1 ∨ x = 2 ∨ x = 3 ∨ x = 4) with rfl | rfl | rfl | rfl <;> omega
    have hmod := Int.emod_nonneg (ebZ x y g) (show x ≠ 0 by omega)
    have hmod2 := Int.emod_lt_of_pos (ebZ x y g) (show 0 < x by omega)
    have hdiv := Int.ediv_nonneg (show 0 ≤ ebZ x y g by omega) (show 0 ≤ x by omega)
    have hdiv2 : ebZ x y g / x ≤ 16 := by
      rcases (by omega : x = 1 ∨ x = 2 ∨ x = 3 ∨ x = 4) with rfl | rfl | rfl | rfl <;> omega
    have t1 : (ebZ x y g).tmod x = ebZ x y g % x := IntWalk.rem_in _ _ (by omega)
    have t2 : (ebZ x y g).tdiv x = ebZ x y g / x := by rw [Int.tdiv_eq_ediv_of_nonneg (by omega)]
    have hx0 : (x = 0) = False := by simp; omega
    have q1 : IntKind.i64.wrap (ebZ x y g / x) = ebZ x y g / x := IntWalk.i64_in _ (by omega)
    have q2 : IntKind.i64.wrap (x + 1) = x + 1 := IntWalk.i64_in _ (by omega)
    have q3 : IntKind.i64.wrap (ebZ x y g / x * (x + 1)) = ebZ x y g / x * (x + 1) := IntWalk.i64_in _ (by omega)
    have q4 : IntKind.i64.wrap (ebZ x y g / x * (x + 1) + ebZ x y g % x) = c1Z x y g := by rw [hc1]; exact IntWalk.i64_in _ (by omega)
    have q5 : IntKind.i64.wrap (c1Z x y g + x) = c1Z x y g + x := IntWalk.i64_in _ (by omega)
    have q6 : IntKind.i64.wrap (c1Z x y g + x + 1) = c1Z x y g + x + 1 := IntWalk.i64_in _ (by omega)
    have q7 : IntKind.i64.wrap (c1Z x y g + 1) = c1Z x y g + 1 := IntWalk.i64_in _ (by omega)
    by_cases hge : g < (x - 1) * y
    · rw [if_pos hge] at hc2
      have HK := @Lib.hid _ (fun w' b => @nm2_mk (c1Z x y g) (c1Z x y g + x + 1) _ _ W w' rfl hc2.symm b)
      have hd2 : decide (g < (x - 1) * y) = true := decide_eq_true hge
      clear hc1 hc2 hend hmod hmod2 hdiv hdiv2 hn hge hc1b hxy g0 g1
      generalize (x - 1) * y = E at *
      generalize c1Z x y g = c1 at *
      generalize c2Z x y g = c2 at *
      generalize eaZ x y g = ea at *
      generalize ebZ x y g = eb at *
      generalize eb / x = dv at *
      generalize eb % x = md at *
      go_enter Try.func27, Try.ntmps27
      go_wp2_with fail
      refine (HE.out _).mono ?_
      rintro e w1 ⟨rfl, hb⟩
      have hb1 := Lib.hid (below_call (HB.out _ _) hb)
      have hx1 := Lib.hid ((box_new x y W _).call hb)
      obtain ⟨c0, c1'⟩ := hx1.out.1
      clear hb
      go_wp2_with fail
      refine (HA.out _).mono ?_
      rintro e w2 ⟨rfl, hb⟩
      have hb2 := Lib.hid (below_call hb1.out hb)
      have hx2 := Lib.hid (hx1.out.call hb)
      clear hb hb1 hx1 c0 c1'
      obtain ⟨c0, c1'⟩ := hx2.out.1
      go_wp2_with fail
      go_quiet (fail)
      go_wp2_with fail
      go_ret2
      exact HK.out _ (below_draws hb2.out _)
    · rw [if_neg hge] at hc2
      have HK := @Lib.hid _ (fun w' b => @nm2_mk (c1Z x y g) (c1Z x y g + 1) _ _ W w' rfl hc2.symm b)
      have hd2 : decide (g < (x - 1) * y) = false := decide_eq_false hge
      clear hc1 hc2 hend hmod hmod2 hdiv hdiv2 hn hge hc1b hxy g0 g1
      generalize (x - 1) * y = E at *
      generalize c1Z x y g = c1 at *
      generalize c2Z x y g = c2 at *
      generalize eaZ x y g = ea at *
      generalize ebZ x y g = eb at *
      generalize eb / x = dv at *
      generalize eb % x = md at *
      go_enter Try.func27, Try.ntmps27
      go_wp2_with fail
      refine (HE.out _).mono ?_
      rintro e w1 ⟨rfl, hb⟩
      have hb1 := Lib.hid (below_call (HB.out _ _) hb)
      have hx1 := Lib.hid ((box_new x y W _).call hb)
      obtain ⟨c0, c1'⟩ := hx1.out.1
      clear hb
      go_wp2_with fail
      refine (HA.out _).mono ?_
      rintro e w2 ⟨rfl, hb⟩
      have hb2 := Lib.hid (below_call hb1.out hb)
      clear hb hb1 hx1 c0 c1'
      go_wp2_with fail
      go_ret2
      exact HK.out _ hb2.out

theorem isEdge_any (x y c : Int) (W : World) :
    Calls Try.prog 28 #[.agg #[.int .i64 x, .int .i64 y], .int .i64 c] W (Bl (edB x y c) W) := by
  have HB := Lib.hid below_box
  have HC := Lib.hid (fun X => countCorners_any x y X)
  have hcb : 0 ≤ cosZ x y ∧ cosZ x y ≤ 25 := by
    by_cases hk : OkZ x y
    · have := co_pos hk; omega
    · unfold cosZ; rw [if_neg (show ¬ (1 ≤ x ∧ x ≤ 4 ∧ 1 ≤ y ∧ y ≤ 4) from hk)]; omega
  have q0 : IntKind.i64.wrap (cosZ x y - 1) = cosZ x y - 1 := IntWalk.i64_in _ (by omega)
  by_cases hr : 0 ≤ c ∧ c ≤ cosZ x y - 1
  · have hk : OkZ x y := by
      apply Classical.byContradiction
      intro hk
      unfold cosZ at hr; rw [if_neg (show ¬ (1 ≤ x ∧ x ≤ 4 ∧ 1 ≤ y ∧ y ≤ 4) from hk)] at hr; omega
    obtain ⟨h1, h2, h3, h4⟩ := hk
    have he : (c % (x + 1) == 0 || c % (x + 1) == x || c / (x + 1) == 0 || c / (x + 1) == y) = edB x y c := by
      unfold edB; rw [decide_eq_true hr, Bool.true_and]
    have hI := Lib.hid (fun X => gridS.in_yes c 0 (cosZ x y - 1) X hr.1 hr.2)
    have t1 : c.tmod (x + 1) = c % (x + 1) := IntWalk.rem_in _ _ (by omega)
    have t2 : c.tdiv (x + 1) = c / (x + 1) := by rw [Int.tdiv_eq_ediv_of_nonneg (by omega)]
    have hx0 : (x + 1 = 0) = False := by simp; omega
    have q1 : IntKind.i64.wrap (x + 1) = x + 1 := IntWalk.i64_in _ (by omega)
    have hdv := Int.ediv_nonneg (show 0 ≤ c by omega) (show 0 ≤ x + 1 by omega)
    have hdl : c / (x + 1) ≤ c := Int.ediv_le_self _ (by omega)
    have q2 : IntKind.i64.wrap (c / (x + 1)) = c / (x + 1) := IntWalk.i64_in _ (by omega)
    obtain ⟨b1, e1⟩ : ∃ b, (c % (x + 1) == 0) = b := ⟨_, rfl⟩
    obtain ⟨b2, e2⟩ : ∃ b, (c % (x + 1) == x) = b := ⟨_, rfl⟩
    obtain ⟨b3, e3⟩ : ∃ b, (c / (x + 1) == 0) = b := ⟨_, rfl⟩
    obtain ⟨b4, e4⟩ : ∃ b, (c / (x + 1) == y) = b := ⟨_, rfl⟩
    rw [e1, e2, e3, e4] at he
    have HK := @Lib.hid _ (fun w' b => @bl_mk (b1 || b2 || b3 || b4) (edB x y c) W w' he b)
    clear he hr hcb hdv hdl h2 h4
    generalize c % (x + 1) = u at *
    generalize c / (x + 1) = v at *
    generalize cosZ x y = n at *
    go_enter Try.func28, Try.ntmps28
    go_wp2_with fail
    refine (HC.out _).mono ?_
    rintro e w1 ⟨rfl, hb⟩
    have hb1 := Lib.hid (below_call (HB.out _ _) hb)
    have hx := Lib.hid ((box_new x y W _).call hb)
    obtain ⟨c0, c1⟩ := hx.out.1
    clear hb
    go_wp2_with fail
    refine (hI.out _).mono ?_
    rintro e w' ⟨rfl, rfl⟩
    cases b1
    · cases b2
      · cases b3
        · cases b4
          · go_wp2_with fail
            go_ret
            exact HK.out _ hb1.out
          · go_wp2_with fail
            go_ret
            exact HK.out _ hb1.out
        · go_wp2_with fail
          go_ret
          exact HK.out _ hb1.out
      · go_wp2_with fail
        go_ret
        exact HK.out _ hb1.out
    · go_wp2_with fail
      go_ret
      exact HK.out _ hb1.out
  · have he : false = edB x y c := by unfold edB; rw [decide_eq_false hr, Bool.false_and]
    have hI := Lib.hid (fun X => gridS.in_no c 0 (cosZ x y - 1) X hr)
    have HK := @Lib.hid _ (fun w' b => @bl_mk false (edB x y c) W w' he b)
    clear he hr
    generalize cosZ x y = n at *
    go_enter Try.func28, Try.ntmps28
    go_wp2_with fail
    refine (HC.out _).mono ?_
    rintro e w1 ⟨rfl, hb⟩
    have hb1 := Lib.hid (below_call (HB.out _ _) hb)
    clear hb
    go_wp2_with fail
    refine (hI.out _).mono ?_
    rintro e w' ⟨rfl, rfl⟩
    go_wp2_with fail
    go_ret
    exact HK.out _ hb1.out

theorem bt_btB {o k : Nat} : btB (o : Int) (k : Int) = decide (bt o k = 1) := by
  unfold btB
  rw [bitZ_bt (by omega) (by omega), Int.toNat_natCast, Int.toNat_natCast, decide_eq_decide]
  omega
theorem all_succ (p : Nat → Bool) (i : Nat) : (List.range (i + 1)).all p = ((List.range i).all p && p i) := by
  rw [List.range_succ, List.all_append]; simp
set_option maxRecDepth 100000 in
set_option maxHeartbeats 4000000 in
theorem wallParts_good (x y : Int) (o : Nat) (W : World) (hk : OkZ x y) (ho : o < 2 ^ gN x y) :
    Calls Try.prog 29 #[.agg #[.int .i64 x, .int .i64 y, .int .i64 o]] W (Nm (wpN x y o : Int) W) := by
  obtain ⟨i0, hi0, hz0, hz1, hz2⟩ := info_parts info_int
  have hv := okm hk ho
  have HO := Lib.hid (fun X => mazeS.ok_any x y o X)
  rw [show okB x y o = true from decide_eq_true hv] at HO
  obtain ⟨cp1, cp2, cp3, cp4⟩ := co_pos hk
  have HC := Lib.hid (fun X => countCorners_any x y X)
  rw [cp4] at HC
  have HE := Lib.hid (fun c X => isEdge_any x y c X)
  have HCs := Lib.hid (fun g X => cornersOf_any x y g X)
  obtain ⟨h1, h2, h3, h4⟩ := id hk
  obtain ⟨q0, q1⟩ := gps_bd h1 h2 h3 h4
  have hG : gpsZ x y = (gN x y : Int) := by unfold gN; omega
  have HG : Hid (∀ X, Calls Try.prog 23 #[.agg #[.int .i64 x, .int .i64 y]] X (Nm (gN x y : Int) X)) := fun X => by rw [← hG]; exact gridS.countGaps_yes x y X h1 h2 h3 h4
  have hg24 : gN x y ≤ 24 := by omega
  have hlt := hv.lt
  have HT := Lib.hid (fun (k : Nat) X (h : k < 24) => bit_b o k X hlt.1 hlt.2 (by omega) (by omega))
  have HF := Lib.hid (fun k (h : k < gN x y) => f3 hk h)
  have HL := Lib.hid (wlb_lt hk o)
  have HLe := Lib.hid (wp_le x y o)
  have HWy := Lib.hid (fun k h => @wlb_yes x y o k h)
  have HWn := Lib.hid (fun k h => @wlb_no x y o k h)
  have hW0 : wlbN x y o 0 = l0N x y := rfl
  have HW0 := Lib.hid hW0
  have hl0 : ∀ c : Nat, l0N x y c = if edB x y c = true then 0 else c := fun c => rfl
  have HL0 := Lib.hid hl0
  have hwp : wpN x y o = nD (wlbN x y o (gN x y)) (coN x y) := rfl
  have HWp := Lib.hid hwp
  have HK := @Lib.hid _ (fun v w' h b => @nm_mk v (wpN x y o : Int) W w' h b)
  have HX0 := Lib.hid (mbox_new x y o W 27)
  have HB0 := Lib.hid (below_box W (.cells #[.int .i64 x, .int .i64 y, .int .i64 o] 27))
  clear hv cp1 cp4 h1 h2 h3 h4 q0 q1 hG hlt hW0 hl0 hwp ho
  generalize coN x y = N at *
  generalize gN x y = G at *
  go_enter Try.func29, Try.ntmps29
  go_wp2_with fail
  refine (HO.out _).mono ?_
  rintro e w1 ⟨rfl, hb⟩
  have hbl1 := Lib.hid (below_call HB0.out hb)
  have hxm1 := Lib.hid (HX0.out.call hb)
  obtain ⟨m0, m1, m2⟩ := hxm1.out.1
  clear hb HX0 HB0
  go_wp2_with fail
  refine (HC.out _).mono ?_
  rintro e w2 ⟨rfl, hb⟩
  have hbl2 := Lib.hid (below_call hbl1.out hb)
  have hxm2 := Lib.hid (hxm1.out.call hb)
  have hbQ := hxm2.out.2
  have hWQ := hbl2.out.size
  have ds1 := Lib.hid (ds_make (N := N) hbl2.out hxm2.out hWQ (by unfold maxLen; omega))
  have hmk := run_make (P := Try.prog) w2 56 3 i0 (.int .i64 0) Try.underlying56 hi0 hz0 .i64 .i64 (N : Int) (N : Int) (by omega) (by omega) (by rw [hz2]; omega) (by omega)
  rw [hz1] at hmk
  simp only [Int.toNat_natCast, Nat.mul_one] at hmk
  rw [lbl_zero] at ds1
  clear hb hbl1 hxm1 m0 m1 m2
  go_wp2_with fail
  clear hmk
  go_loopw [4] (fun u4 wr => ∃ k : Nat, k ≤ N ∧ u4 = .int .i64 k ∧ DS W W.heap.size x y o w2.heap.size N (lbl (i0N (l0N x y) k) N) wr) (fun u4 _ => N - (intOf u4).toNat)
  case atStart => exact ⟨0, Nat.zero_le _, rfl, by rw [show i0N (l0N x y) 0 = (fun _ => 0) from by funext c; simp [i0N]]; exact ds1.out⟩
  case round =>
    clear ds1 hbl2 hxm2
    obtain ⟨k, hk', rfl, hds0⟩ := hrel
    have hds := Lib.hid hds0
    obtain ⟨m0, m1, m2⟩ := hds0.2.1.1
    clear hds0
    by_cases hkN : k < N
    · obtain ⟨cu, fu⟩ := hds.out.cell (lbl_len _ _) k hkN
      have hk0 : (0 : Int) ≤ (k : Int) := Int.natCast_nonneg _
      have hk1 : (k : Int) < (N : Int) := by omega
      have HP := Lib.hid (hds.out.put hbQ (Nat.le_refl _) k (k : Int))
      have HE1 := Lib.hid (fun X => HE.out (k : Int) X)
      have hz := HL0.out k
      go_wp2_with fail
      generalize wr.setCell ⟨w2.heap.size, k, none⟩ (.int .i64 (k : Int)) = wr1 at HP ⊢
      obtain ⟨m0, m1, m2⟩ := HP.out.2.1.1
      go_wp2_with fail
      refine (HE1.out _).mono ?_
      rintro e w3 ⟨rfl, hb⟩
      have hds1 := Lib.hid (HP.out.call hb)
      clear hb HP hds m0 m1 m2 cu fu
      cases hed : edB x y (k : Int) with
      | true =>
        rw [hed, if_pos rfl] at hz
        obtain ⟨cu, fu⟩ := hds1.out.cell (by rw [List.length_set, lbl_len]) k hkN
        have hN0 := hds1.out.put hbQ (Nat.le_refl _) k 0
        rw [List.set_set, show (0 : Int) = ((0 : Nat) : Int) from rfl, lbl_set (i0N (l0N x y) k) (L' := i0N (l0N x y) (k + 1)) hkN (by rw [i0_at, hz]) fun j hj hne => i0_far hne] at hN0
        have HN := Lib.hid hN0
        clear hN0 hz hed
        go_wp2_with fail
        go_roundw
        case rel => exact ⟨k + 1, by omega, by go_num, HN.out⟩
        case measure => simp [intOf]; omega
      | false =>
        rw [hed, if_neg (by simp)] at hz
        have hN0 := hds1.out
        rw [lbl_set (i0N (l0N x y) k) (L' := i0N (l0N x y) (k + 1)) hkN (by rw [i0_at, hz]) fun j hj hne => i0_far hne] at hN0
        have HN := Lib.hid hN0
        clear hN0 hz hed
        go_wp2_with fail
        go_roundw
        case rel => exact ⟨k + 1, by omega, by go_num, HN.out⟩
        case measure => simp [intOf]; omega
    · obtain rfl : k = N := by omega
      have hds1 := hds.out
      rw [i0_all, ← HW0.out] at hds1
      have hds2 := Lib.hid hds1
      clear hds1 hds m0 m1 m2 HE HL0 HW0
      go_wp2_with fail
      go_loopw [5] (fun u5 wr => ∃ g : Nat, g ≤ G ∧ u5 = .int .i64 g ∧ DS W W.heap.size x y o w2.heap.size k (lbl (wlbN x y o g) k) wr) (fun u5 _ => G - (intOf u5).toNat)
      case atStart => exact ⟨0, Nat.zero_le _, rfl, hds2.out⟩
      case round =>
        clear hds2
        obtain ⟨g, hg, rfl, hds0⟩ := hrel
        have hds := Lib.hid hds0
        obtain ⟨m0, m1, m2⟩ := hds0.2.1.1
        clear hds0
        go_wp2_with fail
        refine (HG _).mono ?_
        rintro e w3 ⟨rfl, hb⟩
        have hds1 := Lib.hid (hds.out.call hb)
        clear hb hds m0 m1 m2
        obtain ⟨m0, m1, m2⟩ := hds1.out.2.1.1
        by_cases hgG : g < G
        · have hd : decide ((g : Int) < (G : Int)) = true := decide_eq_true (by omega)
          obtain ⟨f1, f2, f3, f4⟩ := HF.out g hgG
          have HC1 := Lib.hid (fun X => HCs.out g X)
          rw [f1, f2] at HC1
          have HT1 := Lib.hid (fun X => HT.out g X (by omega))
          have hwy := HWy.out g
          have hwn := HWn.out g
          have HLg := Lib.hid (HL.out g (by omega))
          rw [bt_btB] at HT1
          generalize hb0 : c2N x y g = b at *
          generalize ha0 : c1N x y g = a at *
          have ha1 : a < k := by omega
          go_wp2_with fail
          refine (HC1.out _).mono ?_
          rintro e w4 ⟨rfl, hb⟩
          have hds2 := Lib.hid (hds1.out.call hb)
          clear hb hds1 m0 m1 m2 hb0 ha0 f1 f2
          obtain ⟨m0, m1, m2⟩ := hds2.out.2.1.1
          generalize hLd : wlbN x y o g = L at *
          generalize hL' : wlbN x y o (g + 1) = L' at *
          obtain ⟨cb, fb⟩ := hds2.out.cell (lbl_len _ _) b f4
          rw [lbl_getD _ f4] at cb
          have hb1 : (0 : Int) ≤ (b : Int) := Int.natCast_nonneg _
          have hb2 : (b : Int) < (k : Int) := by omega
          have ha2 : (0 : Int) ≤ (a : Int) := Int.natCast_nonneg _
          have ha3 : (a : Int) < (k : Int) := by omega
          by_cases hbt : bt o g = 0
          · have hw := hwy hbt
            have HW1 := Lib.hid hw
            rw [show decide (bt o g = 1) = false from decide_eq_false (by omega)] at HT1
            clear hwy hwn hw hLd hbt
            go_wp2_with fail
            go_loopw [9] (fun u9 wq => ∃ i : Nat, i ≤ k ∧ u9 = .int .i64 i ∧ DS W W.heap.size x y o w2.heap.size k (lbl (miN L a b i) k) wq) (fun u9 _ => k - (intOf u9).toNat)
            case atStart => exact ⟨0, Nat.zero_le _, rfl, by rw [mi_zero]; exact hds2.out⟩
            case round =>
              clear hds2 m0 m1 m2 cb fb
              obtain ⟨i, hi, rfl, hds0⟩ := hrel
              have hds := Lib.hid hds0
              obtain ⟨m0, m1, m2⟩ := hds0.2.1.1
              clear hds0
              by_cases hik : i < k
              · have hi0 : (0 : Int) ≤ (i : Int) := Int.natCast_nonneg _
                have hi1 : (i : Int) < (k : Int) := by omega
                have hd2 : decide ((i : Int) < (k : Int)) = true := decide_eq_true (by omega)
                obtain ⟨ci, fi⟩ := hds.out.cell (lbl_len _ _) i hik
                rw [lbl_getD _ hik, mi_here] at ci
                obtain ⟨ca, fa⟩ := hds.out.cell (lbl_len _ _) a ha1
                rw [lbl_getD _ ha1, mi_a] at ca
                by_cases he : L i = L b
                · have hN0 := hds.out.put hbQ (Nat.le_refl _) i ((L a : Nat) : Int)
                  rw [lbl_set (miN L a b i) (L' := miN L a b (i + 1)) hik (by rw [mi_step, if_pos he]) fun j hj hne => mi_far hne] at hN0
                  have HN := Lib.hid hN0
                  have hc : (((L i : Nat) : Int) == ((L b : Nat) : Int)) = true := by rw [he]; simp
                  clear hN0 he
                  go_wp2_with fail
                  refine (HT1.out _).mono ?_
                  rintro e w' ⟨rfl, rfl⟩
                  go_wp2_with fail
                  go_roundw
                  case rel => exact ⟨i + 1, by omega, by go_num, HN.out⟩
                  case measure => simp [intOf]; omega
                · have hN0 := hds.out
                  rw [← mi_keep he] at hN0
                  have HN := Lib.hid hN0
                  have hc : (((L i : Nat) : Int) == ((L b : Nat) : Int)) = false := by rw [beq_eq_false_iff_ne]; omega
                  clear hN0 he
                  go_wp2_with fail
                  refine (HT1.out _).mono ?_
                  rintro e w' ⟨rfl, rfl⟩
                  go_wp2_with fail
                  go_roundw
                  case rel => exact ⟨i + 1, by omega, by go_num, HN.out⟩
                  case measure => simp [intOf]; omega
              · obtain rfl : i = k := by omega
                have hd2 : decide ((i : Int) < (i : Int)) = false := by simp
                have hN0 := hds.out
                rw [mi_all, ← HW1.out] at hN0
                have HN := Lib.hid hN0
                clear hN0 hds
                go_wp2_with fail
                go_roundw
                case rel => exact ⟨g + 1, by omega, by go_num, by rw [hL']; exact HN.out⟩
                case measure => simp [intOf]; omega
          · have hw := hwn hbt
            have hN0 := hds2.out
            rw [← hw] at hN0
            have HN := Lib.hid hN0
            rw [show decide (bt o g = 1) = true from decide_eq_true (by have := bt_le o g; omega)] at HT1
            clear hwy hwn hw hLd hbt hN0
            have hk00 : (0 : Int) < (k : Int) := by omega
            have hd2 : decide ((0 : Int) < (k : Int)) = true := decide_eq_true hk00
            go_wp2_with fail
            go_loopw [9] (fun u9 wq => u9 = .int .i64 0 ∧ DS W W.heap.size x y o w2.heap.size k (lbl L' k) wq) (fun _ _ => 0)
            case atStart => exact ⟨rfl, HN.out⟩
            case round =>
              clear hds2 m0 m1 m2 cb fb HN
              obtain ⟨rfl, hds0⟩ := hrel
              have hds := Lib.hid hds0
              obtain ⟨m0, m1, m2⟩ := hds0.2.1.1
              clear hds0
              go_wp2_with fail
              refine (HT1.out _).mono ?_
              rintro e w' ⟨rfl, rfl⟩
              go_wp2_with fail
              go_roundw
              case rel => exact ⟨g + 1, by omega, by go_num, by rw [hL']; exact hds.out⟩
              case measure => simp [intOf]; omega
        · obtain rfl : g = G := by omega
          have hd : decide ((g : Int) < (g : Int)) = false := by simp
          clear HF HL HWy HWn HT HC HCs
          have hwp := HWp.out
          generalize wlbN x y o g = L at *
          have hcs : ∀ m, cnt (frB L) (m + 1) = cnt (frB L) m + if frB L m = true then 1 else 0 := fun m => rfl
          have HCs := Lib.hid hcs
          have hcl : ∀ m, cnt (frB L) m ≤ m := fun m => by
            induction m with
            | zero => exact Nat.le_refl _
            | succ m ih => rw [hcs]; split <;> omega
          have HCl := Lib.hid hcl
          have HEn : Hid (((cnt (frB L) k : Nat) : Int) = (wpN x y o : Int)) := Lib.hid (by rw [hwp]; rfl)
          clear hcs hcl hwp HWp HLe hk' hkN hg hgG
          go_wp2_with fail
          go_loopw [10, 11] (fun u10 u11 wr => ∃ m : Nat, m ≤ k ∧ u11 = .int .i64 m ∧ u10 = .int .i64 (cnt (frB L) m : Nat) ∧ DS W W.heap.size x y o w2.heap.size k (lbl L k) wr) (fun _ u11 _ => k - (intOf u11).toNat)
          case atStart => exact ⟨0, Nat.zero_le _, rfl, rfl, hds1.out⟩
          case round =>
            clear hds1 m0 m1 m2
            obtain ⟨m, hm, rfl, rfl, hds0⟩ := hrel
            have hds := Lib.hid hds0
            clear hds0
            have hcm := HCl.out m
            have HCm := Lib.hid (HCs.out m)
            by_cases hmk : m < k
            · have hd3 : decide ((m : Int) < (k : Int)) = true := decide_eq_true (by omega)
              have hm0 : (0 : Int) ≤ (m : Int) := Int.natCast_nonneg _
              have hm1 : (m : Int) < (k : Int) := by omega
              have hfr : frB L m = (List.range m).all fun i => L i != L m := rfl
              generalize hcd : cnt (frB L) m = d at *
              go_wp2_with fail
              go_loopw [12, 13] (fun u12 u13 wq => ∃ i : Nat, i ≤ m ∧ u13 = .int .i64 i ∧ u12 = .bool ((List.range i).all fun i => L i != L m) ∧ DS W W.heap.size x y o w2.heap.size k (lbl L k) wq) (fun _ u13 _ => m - (intOf u13).toNat)
              case atStart => exact ⟨0, Nat.zero_le _, rfl, rfl, hds.out⟩
              case round =>
                clear hds
                obtain ⟨i, hi, rfl, rfl, hds0⟩ := hrel
                have hds := Lib.hid hds0
                clear hds0
                have HAs := Lib.hid (all_succ (fun i => L i != L m) i)
                by_cases him : i < m
                · have hd4 : decide ((i : Int) < (m : Int)) = true := decide_eq_true (by omega)
                  have hi0 : (0 : Int) ≤ (i : Int) := Int.natCast_nonneg _
                  have hi1 : (i : Int) < (k : Int) := by omega
                  obtain ⟨ci, fi⟩ := hds.out.cell (lbl_len _ _) i (by omega)
                  rw [lbl_getD _ (by omega)] at ci
                  obtain ⟨cm, fm⟩ := hds.out.cell (lbl_len _ _) m hmk
                  rw [lbl_getD _ hmk] at cm
                  have hne : (((L i : Nat) : Int) != ((L m : Nat) : Int)) = (L i != L m) := by rw [Bool.eq_iff_iff]; simp; omega
                  generalize hA : (List.range i).all (fun i => L i != L m) = A at *
                  clear hfr
                  cases A with
                  | true =>
                    have HA2 : Hid ((List.range (i + 1)).all (fun i => L i != L m) = (L i != L m)) := Lib.hid (HAs.out.trans (Bool.true_and _))
                    clear HAs
                    generalize (L i != L m) = bb at *
                    go_wp2_with fail
                    try simp only [List.cons_append, List.nil_append, List.append_eq]
                    refine wp_region_held_drew (S := (fun w' => w'.cell? ⟨w2.heap.size, i, none⟩ = some (.int .i64 ((L i : Nat) : Int)) ∧ w'.cell? ⟨w2.heap.size, m, none⟩ = some (.int .i64 ((L m : Nat) : Int)))) (by kernel_rfl) ?_ (fun hHeld0 => ?_)
                    · (try dsimp only); go_keep
                    refine wpAnyH_take (i := 0) (oi := { dst := some 93, op := Go.Op.move (Go.Operand.tmp 12), type := 4, pos := "l09_wall.go:59", after := #[], guard := none }) (v := ?_) rfl (by kernel_rfl) (by kernel_rfl) (by kernel_rfl) (fun _ _ _ h => h) (Or.inl ⟨by rfl, ?_⟩) (by assumption) ?_
                    rotate_left
                    · (intro w hSw; (try dsimp only at hSw); go_simp; try with_reducible rfl)
                    try simp only [Act.put, List.setIfInBounds_toArray, List.set_cons_zero, List.set_cons_succ]
                    refine wpAnyH_take (i := 1) (oi := { dst := some 94, op := Go.Op.move (Go.Operand.tmp 93), type := 4, pos := "l09_wall.go:59", after := #[{ on := 0, ground := Go.Ground.data }], guard := none }) (v := ?_) rfl (by kernel_rfl) (by kernel_rfl) (by kernel_rfl) (fun _ _ _ h => h) (Or.inl ⟨by rfl, ?_⟩) (by assumption) ?_
                    rotate_left
                    · (intro w hSw; (try dsimp only at hSw); go_simp; try with_reducible rfl)
                    try simp only [Act.put, List.setIfInBounds_toArray, List.set_cons_zero, List.set_cons_succ]
                    refine wpAnyH_take (i := 2) (oi := { dst := some 95, op := Go.Op.move (Go.Operand.tmp 3), type := 56, pos := "l09_wall.go:59", after := #[{ on := 1, ground := Go.Ground.guard }], guard := some (1, true) }) (v := ?_) rfl (by kernel_rfl) (by kernel_rfl) (by kernel_rfl) (fun _ _ _ h => h) (Or.inl ⟨by rfl, ?_⟩) (by assumption) ?_
                    rotate_left
                    · (intro w hSw; (try dsimp only at hSw); go_simp; try with_reducible rfl)
                    try simp only [Act.put, List.setIfInBounds_toArray, List.set_cons_zero, List.set_cons_succ]
                    refine wpAnyH_take (i := 3) (oi := { dst := some 96, op := Go.Op.move (Go.Operand.tmp 13), type := 3, pos := "l09_wall.go:59", after := #[{ on := 1, ground := Go.Ground.guard }], guard := some (1, true) }) (v := ?_) rfl (by kernel_rfl) (by kernel_rfl) (by kernel_rfl) (fun _ _ _ h => h) (Or.inl ⟨by rfl, ?_⟩) (by assumption) ?_
                    rotate_left
                    · (intro w hSw; (try dsimp only at hSw); go_simp; try with_reducible rfl)
                    try simp only [Act.put, List.setIfInBounds_toArray, List.set_cons_zero, List.set_cons_succ]
                    refine wpAnyH_take (i := 4) (oi := { dst := some 97, op := Go.Op.indexAddr 56 (Go.Operand.tmp 95) (Go.Operand.tmp 96), type := 0, pos := "l09_wall.go:59", after := #[{ on := 2, ground := Go.Ground.data }, { on := 3, ground := Go.Ground.data }, { on := 1, ground := Go.Ground.guard }], guard := some (1, true) }) (v := ?_) rfl (by kernel_rfl) (by kernel_rfl) (by kernel_rfl) (fun _ _ _ h => h) (Or.inl ⟨by rfl, ?_⟩) (by assumption) ?_
                    rotate_left
                    · (intro w hSw; (try dsimp only at hSw); go_simp; try with_reducible rfl)
                    try simp only [Act.put, List.setIfInBounds_toArray, List.set_cons_zero, List.set_cons_succ]
                    refine wpAnyH_take (i := 5) (oi := { dst := some 98, op := Go.Op.load 3 (Go.Operand.tmp 97), type := 3, pos := "l09_wall.go:59", after := #[{ on := 4, ground := Go.Ground.data }, { on := 1, ground := Go.Ground.guard }], guard := some (1, true) }) (v := ?_) rfl (by kernel_rfl) (by kernel_rfl) (by kernel_rfl) (fun _ _ _ h => h) (Or.inl ⟨by rfl, ?_⟩) (by assumption) ?_
                    rotate_left
                    · (intro w hSw; (try dsimp only at hSw); go_simp; try with_reducible rfl)
                    try simp only [Act.put, List.setIfInBounds_toArray, List.set_cons_zero, List.set_cons_succ]
                    refine wpAnyH_take (i := 6) (oi := { dst := some 99, op := Go.Op.move (Go.Operand.tmp 3), type := 56, pos := "l09_wall.go:59", after := #[{ on := 1, ground := Go.Ground.guard }], guard := some (1, true) }) (v := ?_) rfl (by kernel_rfl) (by kernel_rfl) (by kernel_rfl) (fun _ _ _ h => h) (Or.inl ⟨by rfl, ?_⟩) (by assumption) ?_
                    rotate_left
                    · (intro w hSw; (try dsimp only at hSw); go_simp; try with_reducible rfl)
                    try simp only [Act.put, List.setIfInBounds_toArray, List.set_cons_zero, List.set_cons_succ]
                    refine wpAnyH_take (i := 7) (oi := { dst := some 100, op := Go.Op.move (Go.Operand.tmp 11), type := 3, pos := "l09_wall.go:59", after := #[{ on := 1, ground := Go.Ground.guard }], guard := some (1, true) }) (v := ?_) rfl (by kernel_rfl) (by kernel_rfl) (by kernel_rfl) (fun _ _ _ h => h) (Or.inl ⟨by rfl, ?_⟩) (by assumption) ?_
                    rotate_left
                    · (intro w hSw; (try dsimp only at hSw); go_simp; try with_reducible rfl)
                    try simp only [Act.put, List.setIfInBounds_toArray, List.set_cons_zero, List.set_cons_succ]
                    refine wpAnyH_take (i := 8) (oi := { dst := some 101, op := Go.Op.indexAddr 56 (Go.Operand.tmp 99) (Go.Operand.tmp 100), type := 0, pos := "l09_wall.go:59", after := #[{ on := 6, ground := Go.Ground.data }, { on := 7, ground := Go.Ground.data }, { on := 1, ground := Go.Ground.guard }], guard := some (1, true) }) (v := ?_) rfl (by kernel_rfl) (by kernel_rfl) (by kernel_rfl) (fun _ _ _ h => h) (Or.inl ⟨by rfl, ?_⟩) (by assumption) ?_
                    rotate_left
                    · (intro w hSw; (try dsimp only at hSw); go_simp; try with_reducible rfl)
                    try simp only [Act.put, List.setIfInBounds_toArray, List.set_cons_zero, List.set_cons_succ]
                    refine wpAnyH_take (i := 9) (oi := { dst := some 102, op := Go.Op.load 3 (Go.Operand.tmp 101), type := 3, pos := "l09_wall.go:59", after := #[{ on := 8, ground := Go.Ground.data }, { on := 1, ground := Go.Ground.guard }], guard := some (1, true) }) (v := ?_) rfl (by kernel_rfl) (by kernel_rfl) (by kernel_rfl) (fun _ _ _ h => h) (Or.inl ⟨by rfl, ?_⟩) (by assumption) ?_
                    rotate_left
                    · (intro w hSw; (try dsimp only at hSw); go_simp; try with_reducible rfl)
                    try simp only [Act.put, List.setIfInBounds_toArray, List.set_cons_zero, List.set_cons_succ]
                    refine wpAnyH_take (i := 10) (oi := { dst := some 103, op := Go.Op.binOp Go.BinOp.neq 3 (Go.Operand.tmp 98) (Go.Operand.tmp 102) 3, type := 4, pos := "l09_wall.go:59", after := #[{ on := 5, ground := Go.Ground.data }, { on := 9, ground := Go.Ground.data }, { on := 1, ground := Go.Ground.guard }], guard := some (1, true) }) (v := ?_) rfl (by kernel_rfl) (by kernel_rfl) (by kernel_rfl) (fun _ _ _ h => h) (Or.inl ⟨by rfl, ?_⟩) (by assumption) ?_
                    rotate_left
                    · (intro w hSw; (try dsimp only at hSw); go_simp; try with_reducible rfl)
                    try simp only [Act.put, List.setIfInBounds_toArray, List.set_cons_zero, List.set_cons_succ]
                    refine wpAnyH_take (i := 11) (oi := { dst := some 104, op := Go.Op.pick (Go.Operand.tmp 94) (Go.Operand.tmp 103) (Go.Operand.const (Go.Value.bool false)), type := 4, pos := "l09_wall.go:59", after := #[{ on := 1, ground := Go.Ground.data }, { on := 10, ground := Go.Ground.data }], guard := none }) (v := ?_) rfl (by kernel_rfl) (by kernel_rfl) (by kernel_rfl) (fun _ _ _ h => h) (Or.inl ⟨by rfl, ?_⟩) (by assumption) ?_
                    rotate_left
                    · (intro w hSw; (try dsimp only at hSw); go_simp; try with_reducible rfl)
                    try simp only [Act.put, List.setIfInBounds_toArray, List.set_cons_zero, List.set_cons_succ]
                    refine wpAnyH_take (i := 12) (oi := { dst := some 12, op := Go.Op.assign (Go.Operand.tmp 104), type := 4, pos := "l09_wall.go:59", after := #[{ on := 11, ground := Go.Ground.data }, { on := 1, ground := Go.Ground.chain }, { on := 0, ground := Go.Ground.phase }, { on := 1, ground := Go.Ground.phase }, { on := 2, ground := Go.Ground.phase }, { on := 3, ground := Go.Ground.phase }, { on := 4, ground := Go.Ground.phase }, { on := 5, ground := Go.Ground.phase }, { on := 6, ground := Go.Ground.phase }, { on := 7, ground := Go.Ground.phase }, { on := 8, ground := Go.Ground.phase }, { on := 9, ground := Go.Ground.phase }, { on := 10, ground := Go.Ground.phase }, { on := 11, ground := Go.Ground.phase }], guard := none }) (v := ?_) rfl (by kernel_rfl) (by kernel_rfl) (by kernel_rfl) (fun _ _ _ h => h) (Or.inl ⟨by rfl, ?_⟩) (by assumption) ?_
                    rotate_left
                    · (intro w hSw; (try dsimp only at hSw); go_simp; try with_reducible rfl)
                    try simp only [Act.put, List.setIfInBounds_toArray, List.set_cons_zero, List.set_cons_succ]
                    refine wpAnyH_done (by kernel_rfl) ?_ _
                    all_goals go_wp2_with fail
                    all_goals go_roundw
                    case rel => exact ⟨i + 1, by omega, by go_num, by rw [HA2.out], hds.out.dr1⟩
                    case measure => simp [intOf]; omega
                  | false =>
                    have HA2 : Hid ((List.range (i + 1)).all (fun i => L i != L m) = false) := Lib.hid (HAs.out.trans (Bool.false_and _))
                    clear HAs
                    go_wp2_with fail
                    go_quiet (fail)
                    go_wp2_with fail
                    go_roundw
                    case rel => exact ⟨i + 1, by omega, by go_num, by rw [HA2.out], hds.out.dr _⟩
                    case measure => simp [intOf]; omega
                · obtain rfl : i = m := by omega
                  have hd4 : decide ((i : Int) < (i : Int)) = false := by simp
                  rw [← hfr]
                  clear hfr HAs
                  generalize frB L i = fb at *
                  cases fb with
                  | true =>
                    have HC2 := HCm.out
                    rw [if_pos rfl] at HC2
                    have HC3 := Lib.hid HC2
                    clear HC2 HCm
                    go_wp2_with fail
                    go_roundw
                    case rel => exact ⟨i + 1, by omega, by go_num, by rw [HC3.out]; exact congrArg (Value.int .i64) (by omega), hds.out⟩
                    case measure => simp [intOf]; omega
                  | false =>
                    have HC2 := HCm.out
                    rw [if_neg (by simp)] at HC2
                    have HC3 := Lib.hid HC2
                    clear HC2 HCm
                    go_wp2_with fail
                    go_roundw
                    case rel => exact ⟨i + 1, by omega, by go_num, by rw [HC3.out]; exact congrArg (Value.int .i64) (by omega), hds.out⟩
                    case measure => simp [intOf]; omega
            · obtain rfl : m = k := by omega
              have hd3 : decide ((m : Int) < (m : Int)) = false := by simp
              go_wp2_with fail
              go_ret
              exact HK.out _ _ HEn.out hds.out.1

theorem wallParts_any (x y z : Int) (W : World) :
    Calls Try.prog 29 #[.agg #[.int .i64 x, .int .i64 y, .int .i64 z]] W (Nm (wpZ x y z) W) := by
  by_cases hv : OkM x y z
  · obtain ⟨hk, o, rfl, ho⟩ := okm_of hv
    have := wallParts_good x y o W hk ho
    unfold wpZ; rw [if_pos hv, Int.toNat_natCast]; exact this
  · have HO := Lib.hid (fun X => mazeS.ok_any x y z X)
    rw [show okB x y z = false from decide_eq_false hv] at HO
    have he : 0 = wpZ x y z := by unfold wpZ; rw [if_neg hv]
    have HK := @Lib.hid _ (fun w' b => @nm_mk 0 (wpZ x y z) W w' he b)
    have HB := Lib.hid below_box
    clear he hv
    go_enter Try.func29, Try.ntmps29
    go_wp2_with fail
    refine (HO.out _).mono ?_
    rintro e w1 ⟨rfl, hb⟩
    have hbl1 := Lib.hid (below_call (HB.out _ _) hb)
    clear hb
    go_wp2_with fail
    go_ret
    exact HK.out _ hbl1.out

theorem wp_bd (x y z : Int) : 0 ≤ wpZ x y z ∧ wpZ x y z ≤ 25 := by
  unfold wpZ; split
  · rename_i h
    have := wp_le x y z.toNat
    have := (co_pos h.1).2.2.1
    omega
  · omega
theorem cp_bd2 (x y z : Int) : 0 ≤ cpZ x y z ∧ cpZ x y z ≤ 24 := by
  unfold cpZ; split
  · have := pcN_le z.toNat 24; omega
  · omega
theorem wallLoops_any (x y z : Int) (W : World) :
    Calls Try.prog 31 #[.agg #[.int .i64 x, .int .i64 y, .int .i64 z]] W (Nm (wlpZ x y z) W) := by
  have HO := Lib.hid (fun X => mazeS.ok_any x y z X)
  have HB := Lib.hid below_box
  by_cases hv : OkM x y z
  · rw [show okB x y z = true from decide_eq_true hv] at HO
    obtain ⟨h1, h2, h3, h4⟩ := id hv.1
    have he : gpsZ x y - cpZ x y z - (x - 1) * (y - 1) - 1 + wpZ x y z = wlpZ x y z := by unfold wlpZ; rw [if_pos hv]
    have HK := @Lib.hid _ (fun w' b => @nm_mk (gpsZ x y - cpZ x y z - (x - 1) * (y - 1) - 1 + wpZ x y z) (wlpZ x y z) W w' he b)
    have HG : Hid (∀ X, Calls Try.prog 23 #[.agg #[.int .i64 x, .int .i64 y]] X (Nm (gpsZ x y) X)) := fun X => gridS.countGaps_yes x y X h1 h2 h3 h4
    have HP := Lib.hid (fun X => mazeS.countPassages_any x y z X)
    have HW := Lib.hid (fun X => wallParts_any x y z X)
    have hg := gps_bd h1 h2 h3 h4
    have hc := cp_bd2 x y z
    have hw := wp_bd x y z
    have hi : 0 ≤ (x - 1) * (y - 1) ∧ (x - 1) * (y - 1) ≤ 9 := by
      rcases (by omega : x = 1 ∨ x = 2 ∨ x = 3 ∨ x = 4) with rfl | rfl | rfl | rfl <;> omega
    have q1 : IntKind.i64.wrap (x - 1) = x - 1 := IntWalk.i64_in _ (by omega)
    have q2 : IntKind.i64.wrap (y - 1) = y - 1 := IntWalk.i64_in _ (by omega)
    obtain ⟨I, hI⟩ : ∃ I, (x - 1) * (y - 1) = I := ⟨_, rfl⟩
    rw [hI] at HK hi
    have q3 : IntKind.i64.wrap ((x - 1) * (y - 1)) = I := by rw [hI]; exact IntWalk.i64_in _ (by omega)
    clear he hv h1 h2 h3 h4 hI
    generalize gpsZ x y = G at *
    generalize cpZ x y z = c at *
    generalize wpZ x y z = p at *
    have q4 : IntKind.i64.wrap (G - c) = G - c := IntWalk.i64_in _ (by omega)
    have q5 : IntKind.i64.wrap (G - c - I) = G - c - I := IntWalk.i64_in _ (by omega)
    have q6 : IntKind.i64.wrap (G - c - I - 1) = G - c - I - 1 := IntWalk.i64_in _ (by omega)
    have q7 : IntKind.i64.wrap (G - c - I - 1 + p) = G - c - I - 1 + p := IntWalk.i64_in _ (by omega)
    go_enter Try.func31, Try.ntmps31
    go_wp2_with fail
    refine (HO.out _).mono ?_
    rintro e w1 ⟨rfl, hb⟩
    have hbl1 := Lib.hid (below_call (HB.out _ _) hb)
    have hxc1 := Lib.hid ((mbox_new x y z W _).call hb)
    clear hb
    obtain ⟨c0, c1, c2⟩ := hxc1.out.1
    go_wp2_with fail
    try simp only [List.cons_append, List.nil_append, List.append_eq]
    refine wp_region_held_drew (S := (fun w' => w'.cell? ⟨W.heap.size, 0, none⟩ = some (.int .i64 x) ∧ w'.cell? ⟨W.heap.size, 1, none⟩ = some (.int .i64 y) ∧ w'.cell? ⟨W.heap.size, 2, none⟩ = some (.int .i64 z))) (by kernel_rfl) ?_ (fun hHeld0 => ?_)
    · (try dsimp only); go_keep
    refine wpAnyH_take (i := 0) (oi := { dst := some 16, op := Go.Op.fieldAddr 27 (Go.Operand.tmp 1) 0, type := 0, pos := "l09_wall.go:73", after := #[], guard := none }) (v := ?_) rfl (by kernel_rfl) (by kernel_rfl) (by kernel_rfl) (fun _ _ _ h => h) (Or.inl ⟨by rfl, ?_⟩) (by assumption) ?_
    rotate_left
    · (intro w hSw; (try dsimp only at hSw); go_simp; try with_reducible rfl)
    try simp only [Act.put, List.setIfInBounds_toArray, List.set_cons_zero, List.set_cons_succ]
    refine wpAnyH_take (i := 1) (oi := { dst := some 17, op := Go.Op.load 25 (Go.Operand.tmp 16), type := 25, pos := "l09_wall.go:73", after := #[{ on := 0, ground := Go.Ground.data }], guard := none }) (v := ?_) rfl (by kernel_rfl) (by kernel_rfl) (by kernel_rfl) (fun _ _ _ h => h) (Or.inl ⟨by rfl, ?_⟩) (by assumption) ?_
    rotate_left
    · (intro w hSw; (try dsimp only at hSw); go_simp; try with_reducible rfl)
    try simp only [Act.put, List.setIfInBounds_toArray, List.set_cons_zero, List.set_cons_succ]
    refine wpAnyH_take (i := 3) (oi := { dst := some 19, op := Go.Op.load 27 (Go.Operand.tmp 1), type := 27, pos := "l09_wall.go:73", after := #[], guard := none }) (v := ?_) rfl (by kernel_rfl) (by kernel_rfl) (by kernel_rfl) (fun _ _ _ h => h) (Or.inl ⟨by rfl, ?_⟩) (by assumption) ?_
    rotate_left
    · (intro w hSw; (try dsimp only at hSw); go_simp; try with_reducible rfl)
    try simp only [Act.put, List.setIfInBounds_toArray, List.set_cons_zero, List.set_cons_succ]
    refine wpAnyH_take (i := 6) (oi := { dst := some 22, op := Go.Op.move (Go.Operand.tmp 3), type := 3, pos := "l09_wall.go:73", after := #[], guard := none }) (v := ?_) rfl (by kernel_rfl) (by kernel_rfl) (by kernel_rfl) (fun _ _ _ h => h) (Or.inl ⟨by rfl, ?_⟩) (by assumption) ?_
    rotate_left
    · (intro w hSw; (try dsimp only at hSw); go_simp; try with_reducible rfl)
    try simp only [Act.put, List.setIfInBounds_toArray, List.set_cons_zero, List.set_cons_succ]
    refine wpAnyH_take (i := 9) (oi := { dst := some 25, op := Go.Op.load 27 (Go.Operand.tmp 1), type := 27, pos := "l09_wall.go:73", after := #[], guard := none }) (v := ?_) rfl (by kernel_rfl) (by kernel_rfl) (by kernel_rfl) (fun _ _ _ h => h) (Or.inl ⟨by rfl, ?_⟩) (by assumption) ?_
    rotate_left
    · (intro w hSw; (try dsimp only at hSw); go_simp; try with_reducible rfl)
    try simp only [Act.put, List.setIfInBounds_toArray, List.set_cons_zero, List.set_cons_succ]
    refine wpAnyH_ready (rs := [2]) (by kernel_rfl) (by simp) ?_
    refine AllReadyH.cons (o := { dst := some 18, op := Go.Op.call { callee := Go.Callee.value (Go.Operand.func 23), args := #[Go.Operand.tmp 17], argTypes := #[25] }, type := 3, pos := "l09_wall.go:73", after := #[{ on := 1, ground := Go.Ground.data }], guard := none }) rfl (fun K2 hK2 => ?_) AllReadyH.nil
    go_simp
    (refine (HG _).mono ?_; rintro e v1 ⟨rfl, hb1⟩; have hM1 := Lib.hid (mbox_after hb1 hxc1.out); obtain ⟨p1, q1, r1⟩ := hM1.out.1)
    go_wp2_with fail
    refine hK2.out _ _ ?_ (fun hHeld1 => ?_)
    · (try dsimp only); go_keep
    clear hK2 K2 hHeld0
    try simp only [Act.put, List.setIfInBounds_toArray, List.set_cons_zero, List.set_cons_succ]
    refine wpAnyH_ready (rs := [4]) (by kernel_rfl) (by simp) ?_
    refine AllReadyH.cons (o := { dst := some 20, op := Go.Op.call { callee := Go.Callee.value (Go.Operand.func 61), args := #[Go.Operand.tmp 19], argTypes := #[27] }, type := 3, pos := "l09_wall.go:73", after := #[{ on := 3, ground := Go.Ground.data }, { on := 2, ground := Go.Ground.chain }], guard := none }) rfl (fun K4 hK4 => ?_) AllReadyH.nil
    go_simp
    (refine (HP.out _).mono ?_; rintro e v2 ⟨rfl, hb2⟩; have hM2 := Lib.hid (mbox_after hb2 hM1.out); obtain ⟨p2, q2, r2⟩ := hM2.out.1)
    go_wp2_with fail
    refine hK4.out _ _ ?_ (fun hHeld2 => ?_)
    · (try dsimp only); go_keep
    clear hK4 K4 hHeld1
    try simp only [Act.put, List.setIfInBounds_toArray, List.set_cons_zero, List.set_cons_succ]
    refine wpAnyH_take (i := 5) (oi := { dst := some 21, op := Go.Op.binOp Go.BinOp.sub 3 (Go.Operand.tmp 18) (Go.Operand.tmp 20) 3, type := 3, pos := "l09_wall.go:73", after := #[{ on := 2, ground := Go.Ground.data }, { on := 4, ground := Go.Ground.data }], guard := none }) (v := ?_) rfl (by kernel_rfl) (by kernel_rfl) (by kernel_rfl) (fun _ _ _ h => h) (Or.inl ⟨by rfl, ?_⟩) (by assumption) ?_
    rotate_left
    · (intro w hSw; (try dsimp only at hSw); go_simp; try with_reducible rfl)
    try simp only [Act.put, List.setIfInBounds_toArray, List.set_cons_zero, List.set_cons_succ]
    refine wpAnyH_take (i := 7) (oi := { dst := some 23, op := Go.Op.binOp Go.BinOp.sub 3 (Go.Operand.tmp 21) (Go.Operand.tmp 22) 3, type := 3, pos := "l09_wall.go:73", after := #[{ on := 5, ground := Go.Ground.data }, { on := 6, ground := Go.Ground.data }], guard := none }) (v := ?_) rfl (by kernel_rfl) (by kernel_rfl) (by kernel_rfl) (fun _ _ _ h => h) (Or.inl ⟨by rfl, ?_⟩) (by assumption) ?_
    rotate_left
    · (intro w hSw; (try dsimp only at hSw); go_simp; try with_reducible rfl)
    try simp only [Act.put, List.setIfInBounds_toArray, List.set_cons_zero, List.set_cons_succ]
    refine wpAnyH_take (i := 8) (oi := { dst := some 24, op := Go.Op.binOp Go.BinOp.sub 3 (Go.Operand.tmp 23) (Go.Operand.const (Go.Value.int Go.IntKind.i64 1)) 3, type := 3, pos := "l09_wall.go:73", after := #[{ on := 7, ground := Go.Ground.data }], guard := none }) (v := ?_) rfl (by kernel_rfl) (by kernel_rfl) (by kernel_rfl) (fun _ _ _ h => h) (Or.inl ⟨by rfl, ?_⟩) (by assumption) ?_
    rotate_left
    · (intro w hSw; (try dsimp only at hSw); go_simp; try with_reducible rfl)
    try simp only [Act.put, List.setIfInBounds_toArray, List.set_cons_zero, List.set_cons_succ]
    refine wpAnyH_ready (rs := [10]) (by kernel_rfl) (by simp) ?_
    refine AllReadyH.cons (o := { dst := some 26, op := Go.Op.call { callee := Go.Callee.value (Go.Operand.func 29), args := #[Go.Operand.tmp 25], argTypes := #[27] }, type := 3, pos := "l09_wall.go:73", after := #[{ on := 9, ground := Go.Ground.data }, { on := 4, ground := Go.Ground.chain }], guard := none }) rfl (fun K10 hK10 => ?_) AllReadyH.nil
    go_simp
    (refine (HW.out _).mono ?_; rintro e v3 ⟨rfl, hb3⟩; have hM3 := Lib.hid (mbox_after hb3 hM2.out); obtain ⟨p3, q3, r3⟩ := hM3.out.1)
    go_wp2_with fail
    refine hK10.out _ _ ?_ (fun hHeld3 => ?_)
    · (try dsimp only); go_keep
    clear hK10 K10 hHeld2
    try simp only [Act.put, List.setIfInBounds_toArray, List.set_cons_zero, List.set_cons_succ]
    refine wpAnyH_take (i := 11) (oi := { dst := some 27, op := Go.Op.binOp Go.BinOp.add 3 (Go.Operand.tmp 24) (Go.Operand.tmp 26) 3, type := 3, pos := "l09_wall.go:73", after := #[{ on := 8, ground := Go.Ground.data }, { on := 10, ground := Go.Ground.data }], guard := none }) (v := ?_) rfl (by kernel_rfl) (by kernel_rfl) (by kernel_rfl) (fun _ _ _ h => h) (Or.inl ⟨by rfl, ?_⟩) (by assumption) ?_
    rotate_left
    · (intro w hSw; (try dsimp only at hSw); go_simp; try with_reducible rfl)
    try simp only [Act.put, List.setIfInBounds_toArray, List.set_cons_zero, List.set_cons_succ]
    refine wpAnyH_take (i := 12) (oi := { dst := some 2, op := Go.Op.assign (Go.Operand.tmp 27), type := 3, pos := "l09_wall.go:73", after := #[{ on := 11, ground := Go.Ground.data }, { on := 10, ground := Go.Ground.chain }, { on := 0, ground := Go.Ground.phase }, { on := 1, ground := Go.Ground.phase }, { on := 2, ground := Go.Ground.phase }, { on := 3, ground := Go.Ground.phase }, { on := 4, ground := Go.Ground.phase }, { on := 5, ground := Go.Ground.phase }, { on := 6, ground := Go.Ground.phase }, { on := 7, ground := Go.Ground.phase }, { on := 8, ground := Go.Ground.phase }, { on := 9, ground := Go.Ground.phase }, { on := 10, ground := Go.Ground.phase }, { on := 11, ground := Go.Ground.phase }], guard := none }) (v := ?_) rfl (by kernel_rfl) (by kernel_rfl) (by kernel_rfl) (fun _ _ _ h => h) (Or.inl ⟨by rfl, ?_⟩) (by assumption) ?_
    rotate_left
    · (intro w hSw; (try dsimp only at hSw); go_simp; try with_reducible rfl)
    try simp only [Act.put, List.setIfInBounds_toArray, List.set_cons_zero, List.set_cons_succ]
    refine wpAnyH_done (by kernel_rfl) ?_ _
    go_wp2_with fail
    go_ret
    exact HK.out _ (below_call (below_call (below_call (below_dr hbl1.out) hb1) hb2) hb3)
  · rw [show okB x y z = false from decide_eq_false hv] at HO
    have he : 0 = wlpZ x y z := by unfold wlpZ; rw [if_neg hv]
    have HK := @Lib.hid _ (fun w' b => @nm_mk 0 (wlpZ x y z) W w' he b)
    clear he hv
    go_enter Try.func31, Try.ntmps31
    go_wp2_with fail
    refine (HO.out _).mono ?_
    rintro e w1 ⟨rfl, hb⟩
    have hbl1 := Lib.hid (below_call (HB.out _ _) hb)
    have hxc1 := Lib.hid ((mbox_new x y z W _).call hb)
    clear hb
    obtain ⟨c0, c1, c2⟩ := hxc1.out.1
    go_wp2_with fail
    go_ret
    exact HK.out _ hbl1.out

theorem isWallTree_any (x y z : Int) (W : World) :
    Calls Try.prog 32 #[.agg #[.int .i64 x, .int .i64 y, .int .i64 z]] W (Bl (wtB x y z) W) := by
  have HO := Lib.hid (fun X => mazeS.ok_any x y z X)
  have HB := Lib.hid below_box
  have HW := Lib.hid (fun X => wallParts_any x y z X)
  have HL := Lib.hid (fun X => wallLoops_any x y z X)
  have he : wtB x y z = (decide (OkM x y z) && wpZ x y z == 1 && wlpZ x y z == 0) := rfl
  rw [show okB x y z = decide (OkM x y z) from rfl] at HO
  have HK := @Lib.hid _ (fun b w' h c => @bl_mk b (wtB x y z) W w' h c)
  have HE := Lib.hid he
  clear he
  generalize wtB x y z = wt at *
  generalize hd1 : decide (OkM x y z) = d1 at *
  generalize wpZ x y z = p at *
  generalize wlpZ x y z = l at *
  clear hd1
  cases d1 with
  | false =>
    go_enter Try.func32, Try.ntmps32
    go_wp2_with fail
    refine (HO.out _).mono ?_
    rintro e w1 ⟨rfl, hb⟩
    have hbl1 := Lib.hid (below_call (HB.out _ _) hb)
    clear hb
    go_wp2_with fail
    go_ret
    exact HK.out _ _ (by rw [HE.out]; rfl) hbl1.out
  | true =>
    cases hp : (p == 1) with
    | false =>
      rw [hp] at HE
      go_enter Try.func32, Try.ntmps32
      go_wp2_with fail
      refine (HO.out _).mono ?_
      rintro e w1 ⟨rfl, hb⟩
      have hbl1 := Lib.hid (below_call (HB.out _ _) hb)
      have hxc1 := Lib.hid ((mbox_new x y z W _).call hb)
      clear hb
      obtain ⟨c0, c1, c2⟩ := hxc1.out.1
      go_wp2_with fail
      refine (HW.out _).mono ?_
      rintro e w2 ⟨rfl, hb⟩
      have hbl2 := Lib.hid (below_call hbl1.out hb)
      have hxc2 := Lib.hid (hxc1.out.call hb)
      clear hb hbl1  hxc1 c0 c1 c2
      obtain ⟨c0, c1, c2⟩ := hxc2.out.1
      go_wp2_with fail
      go_ret
      exact HK.out _ _ (by rw [HE.out]; rfl) hbl2.out
    | true =>
      rw [hp] at HE
      obtain ⟨bl, hbl⟩ : ∃ b, (l == 0) = b := ⟨_, rfl⟩
      rw [hbl] at HE
      go_enter Try.func32, Try.ntmps32
      go_wp2_with fail
      refine (HO.out _).mono ?_
      rintro e w1 ⟨rfl, hb⟩
      have hbl1 := Lib.hid (below_call (HB.out _ _) hb)
      have hxc1 := Lib.hid ((mbox_new x y z W _).call hb)
      clear hb
      obtain ⟨c0, c1, c2⟩ := hxc1.out.1
      go_wp2_with fail
      refine (HW.out _).mono ?_
      rintro e w2 ⟨rfl, hb⟩
      have hbl2 := Lib.hid (below_call hbl1.out hb)
      have hxc2 := Lib.hid (hxc1.out.call hb)
      clear hb hbl1  hxc1 c0 c1 c2
      obtain ⟨c0, c1, c2⟩ := hxc2.out.1
      go_wp2_with fail
      refine (HL.out _).mono ?_
      rintro e w3 ⟨rfl, hb⟩
      have hbl3 := Lib.hid (below_call hbl2.out hb)
      have hxc3 := Lib.hid (hxc2.out.call hb)
      clear hb hbl2  hxc2 c0 c1 c2
      obtain ⟨c0, c1, c2⟩ := hxc3.out.1
      go_wp2_with fail
      go_ret
      exact HK.out _ _ (by rw [HE.out]; simp) hbl3.out
end Go.Proofs.Ytpocldadkhpapaa.walM
