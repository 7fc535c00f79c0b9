/- The contracts of the program's functions on walkers: whether one is in a maze, and a step. -/
import Derived.Test.YtkknnikhpembiaaHandM1
import Derived.Test.YtkknnikhpembiaaRchI
namespace Go.Proofs.Ytkknnikhpembiaa.handI
open Go.ChangeShapes Go.WideShapes Go.ChangeAt Go.RowKit
open draw gridP gridC gridE bitP mazeP mazeC mazeM mazeR mazeI intsP reachP reachM reachN reachD intA listK forest handP handQ listW handM
set_option linter.unusedVariables false

theorem wa_bad {x y z : Int} (c f : Int) (h : okB x y z = false) : false = waB x y z c f := by
  unfold waB hasB
  rw [decide_eq_false fun h' => by rw [show okB x y z = true from decide_eq_true h'.1] at h; cases h]
  rfl
theorem wa_ok {x y z : Int} (c f : Int) (h : okB x y z = true) : (decide (0 ≤ c ∧ c < x * y) && (decide (0 ≤ f) && decide (f ≤ 3))) = waB x y z c f := by
  have hv : OkM x y z := of_decide_eq_true h
  unfold waB hasB
  rw [Bool.eq_iff_iff]
  simp only [Bool.and_eq_true, decide_eq_true_iff]
  constructor
  · rintro ⟨a, b, c⟩; exact ⟨⟨hv, a⟩, b, c⟩
  · rintro ⟨⟨-, a⟩, b, c⟩; exact ⟨a, b, c⟩

theorem walkerOk_any (x y z c f : Int) (W : World) :
    Calls Try.prog 22 #[.agg #[.int .i64 x, .int .i64 y, .int .i64 z], .agg #[.int .i64 c, .int .i64 f]] W (Bl (waB x y z c f) W) := by
  have HO := Lib.hid (fun X => ok_any x y z X)
  have HW := Lib.hid (box2_new x y z c f W)
  have HK := @Lib.hid _ (fun b w' h c' => @bl_mk b (waB x y z c f) W w' h c')
  cases hv : okB x y z with
  | false =>
    have HE := Lib.hid (wa_bad c f hv)
    rw [hv] at HO
    clear hv
    generalize waB x y z c f = wb at *
    go_enter Try.func22, Try.ntmps22
    go_wp2_with fail
    obtain ⟨hx0, hr0, hb0⟩ := HW.out 27 29
    have hb0 := Lib.hid hb0
    obtain ⟨⟨m0, m1, m2⟩, -⟩ := hx0
    obtain ⟨⟨r0, r1⟩, -⟩ := row2_cells hr0
    clear HW hr0
    go_wp2_with fail
    refine (HO.out _).mono ?_
    rintro e w1 ⟨rfl, hb⟩
    have hb1 := Lib.hid (below_call hb0.out hb)
    clear hb hb0 m0 m1 m2 r0 r1
    go_wp2_with fail
    go_ret
    exact HK.out _ _ HE.out hb1.out
  | true =>
    have HE := Lib.hid (wa_ok c f hv)
    obtain ⟨⟨h1, h2, h3, h4⟩, -⟩ : OkM x y z := of_decide_eq_true hv
    have HC := Lib.hid (fun X => reachV.hasCell_any x y c X h1 h2 h3 h4)
    rw [hv] at HO
    clear hv h1 h2 h3 h4
    generalize waB x y z c f = wb at *
    generalize decide (0 ≤ c ∧ c < x * y) = cb at *
    go_enter Try.func22, Try.ntmps22
    go_wp2_with fail
    obtain ⟨hx0, hr0, hb0⟩ := HW.out 27 29
    have hb0 := Lib.hid hb0
    have hx0 := Lib.hid hx0
    have hr0 := Lib.hid hr0
    obtain ⟨⟨m0, m1, m2⟩, -⟩ := hx0.out
    obtain ⟨⟨r0, r1⟩, -⟩ := row2_cells hr0.out
    clear HW
    go_wp2_with fail
    refine (HO.out _).mono ?_
    rintro e w1 ⟨rfl, hb⟩
    have hb1 := Lib.hid (below_call hb0.out hb)
    have hr1 := Lib.hid (hr0.out.call hb)
    have hx1 := Lib.hid (hx0.out.call hb)
    clear hb hb0 hr0 hx0 m0 m1 m2 r0 r1
    obtain ⟨⟨m0, m1, m2⟩, -⟩ := hx1.out
    obtain ⟨⟨r0, r1⟩, -⟩ := row2_cells hr1.out
    go_wp2_with fail
    refine (HC.out _).mono ?_
    rintro e w2 ⟨rfl, hb⟩
    have hb2 := Lib.hid (below_call hb1.out hb)
    have hr2 := Lib.hid (hr1.out.call hb)
    clear hb hb1 hr1 hx1 m0 m1 m2 r0 r1
    obtain ⟨⟨r0, r1⟩, -⟩ := row2_cells hr2.out
    cases cb with
    | false =>
      go_wp2_with fail
      go_ret
      exact HK.out _ _ (by rw [← HE.out]; rfl) hb2.out
    | true =>
      by_cases hf0 : 0 ≤ f
      · have hd : decide (0 ≤ f) = true := decide_eq_true hf0
        rw [hd] at HE
        by_cases hf3 : f ≤ 3
        · have hd3 : decide (f ≤ 3) = true := decide_eq_true hf3
          rw [hd3] at HE
          clear hf0 hf3
          go_wp2_with fail
          go_ret
          exact HK.out _ _ (by rw [← HE.out]; rfl) hb2.out
        · have hd3 : decide (f ≤ 3) = false := decide_eq_false hf3
          rw [hd3] at HE
          clear hf0 hf3
          go_wp2_with fail
          go_ret
          exact HK.out _ _ (by rw [← HE.out]; rfl) hb2.out
      · have hd : decide (0 ≤ f) = false := decide_eq_false hf0
        rw [hd] at HE
        clear hf0
        go_wp2_with fail
        go_ret
        exact HK.out _ _ (by rw [← HE.out]; rfl) hb2.out

/-! ### one step -/
theorem st_m1 (x y z k d : Int) (h : stZ x y z k d < 0) : stZ x y z k d = -1 := by
  unfold stZ at h ⊢
  split
  · rename_i h0
    rw [if_pos h0] at h
    revert h
    unfold nbZ
    split
    · split
      · repeat' split
        all_goals intro h; omega
      · intro _; rfl
    · intro _; rfl
  · rfl
theorem tr_f {f : Nat} (hf : f < 4) : trZ (f : Int) = (tnN f 0 : Int) ∧ trZ (tnN f 0 : Int) = (tnN f 3 : Int) ∧ trZ (tnN f 3 : Int) = (tnN f 2 : Int) ∧ (f : Int) = (tnN f 1 : Int) := by
  have t : ∀ d : Nat, d < 4 → trZ (d : Int) = (((d + 1) % 4 : Nat) : Int) := fun d hd => by unfold trZ; rw [if_pos ⟨by omega, by omega⟩]; omega
  rw [t f hf, t (tnN f 0) (tn_lt f 0), t (tnN f 3) (tn_lt f 3), tn_0, tn_1, tn_2, tn_3]
  refine ⟨rfl, ?_, ?_, ?_⟩ <;> omega
theorem index4 (f : Nat) {k : Nat} (hk : k < 4) (hf : f < 4) (X : World) : (Instr.index 61 (.agg #[.int .i64 (tnN f 0 : Int), .int .i64 (f : Int), .int .i64 (tnN f 2 : Int), .int .i64 (tnN f 3 : Int)]) (.int .i64 (k : Int))).run Try.prog X = .ok (.int .i64 (tnN f k : Int)) X := by
  have e := (tr_f hf).2.2.2
  rcases (by omega : k = 0 ∨ k = 1 ∨ k = 2 ∨ k = 3) with rfl | rfl | rfl | rfl
  · simp [Instr.index, asIntOf, part, go_sem]
  · rw [e]; simp [Instr.index, asIntOf, part, go_sem]
  · simp [Instr.index, asIntOf, part, go_sem]
  · simp [Instr.index, asIntOf, part, go_sem]

set_option maxRecDepth 100000 in
theorem handStep_any (x y z c f : Int) (W : World) :
    Calls Try.prog 13 #[.agg #[.int .i64 x, .int .i64 y, .int .i64 z], .agg #[.int .i64 c, .int .i64 f]] W (Wk (hsC x y z c f) (hsF x y z c f) W) := by
  have HO := Lib.hid (fun X => walkerOk_any x y z c f X)
  have HW := Lib.hid (fun T1 T2 T3 => sw_new W x y z c f T1 T2 T3)
  cases hw : waB x y z c f with
  | false =>
    rw [hw] at HO
    have e1 : c = hsC x y z c f := by unfold hsC; rw [hw]; rfl
    have e2 : f = hsF x y z c f := by unfold hsF; rw [hw]; rfl
    have HE1 := Lib.hid e1
    have HE2 := Lib.hid e2
    clear e1 e2 hw
    generalize hsC x y z c f = C at *
    generalize hsF x y z c f = F at *
    go_enter Try.func13, Try.ntmps13
    go_wp2_with fail
    have hs0 := Lib.hid (HW.out 27 29 29)
    obtain ⟨⟨m0, m1, m2⟩, -⟩ := hs0.out.2.1
    obtain ⟨⟨r0, r1⟩, -⟩ := row2_cells hs0.out.2.2.1
    clear HW
    go_wp2_with fail
    refine (HO.out _).mono ?_
    rintro e w1 ⟨rfl, hb⟩
    have hs1 := Lib.hid (hs0.out.call hb)
    clear hb hs0 m0 m1 m2 r0 r1
    obtain ⟨⟨r0, r1⟩, -⟩ := row2_cells hs1.out.2.2.1
    obtain ⟨⟨a0, a1⟩, fa0, fa1⟩ := row2_cells hs1.out.2.2.2
    go_wp2_with fail
    refine ret_set2 a0 a1 fun Y g0 g1 hY => ?_
    exact bodyPost_ret (v := .agg #[.int .i64 c, .int .i64 f]) (by simp [results, Try.results13, go_sem, g0, g1]) rfl (sw_end hs1.out HE1.out HE2.out hY)
  | true =>
    rw [hw] at HO
    obtain ⟨hv, c', f', rfl, rfl, hc, hf⟩ := wk_form hw
    have HS := Lib.hid (fun q X => step_any x y z c' q X)
    have hC : hsC x y z c' f' = ((hsP (stN x y z) (c', f')).1 : Int) := by unfold hsC; rw [if_pos hw]; unfold hkN; rw [Int.toNat_natCast, Int.toNat_natCast]; rfl
    have hF : hsF x y z c' f' = ((hsP (stN x y z) (c', f')).2 : Int) := by unfold hsF; rw [if_pos hw]; unfold hkN; rw [Int.toNat_natCast, Int.toNat_natCast]; rfl
    have HEy := Lib.hid (fun k (hk : k < 4) (h0 : ∀ j, j < k → stN x y z c' (tnN f' j) < 0) (h : 0 ≤ stN x y z c' (tnN f' k)) => show stN x y z c' (tnN f' k) = hsC x y z c' f' ∧ (tnN f' k : Int) = hsF x y z c' f' from by
      have := hs_first (st := stN x y z) (c := c') hf hk (fun j hj => by have := h0 j hj; omega) h
      rw [hC, hF, this]
      exact ⟨by simp only; omega, rfl⟩)
    have HEn := Lib.hid (fun (h0 : ∀ j, j < 4 → stN x y z c' (tnN f' j) < 0) => show (c' : Int) = hsC x y z c' f' ∧ (tnN f' 3 : Int) = hsF x y z c' f' from by
      have := hs_last (st := stN x y z) (c := c') hf (fun j hj => by have := h0 j hj; omega)
      rw [hC, hF, this]
      exact ⟨rfl, rfl⟩)
    have HSt : Hid (∀ q : Nat, stZ x y z c' q = stN x y z c' q) := fun q => rfl
    have HM1 : Hid (∀ q : Nat, stN x y z c' q < 0 → stN x y z c' q = -1) := fun q h => st_m1 x y z c' q h
    obtain ⟨t1, t2, t3, -⟩ := tr_f hf
    have HT1 := Lib.hid (fun X => gridI.turnRight_any (f' : Int) X)
    have HT2 := Lib.hid (fun X => gridI.turnRight_any (tnN f' 0 : Int) X)
    have HT3 := Lib.hid (fun X => gridI.turnRight_any (tnN f' 3 : Int) X)
    rw [t1] at HT1
    rw [t2] at HT2
    rw [t3] at HT3
    have HIx := Lib.hid (fun k hk X => @index4 f' k hk hf X)
    clear hC hF hw hv hc t1 t2 t3
    generalize hsC x y z c' f' = C at *
    generalize hsF x y z c' f' = F at *
    go_enter Try.func13, Try.ntmps13
    go_wp2_with fail
    have hs0 := Lib.hid (HW.out 27 29 29)
    obtain ⟨⟨m0, m1, m2⟩, -⟩ := hs0.out.2.1
    obtain ⟨⟨r0, r1⟩, -⟩ := row2_cells hs0.out.2.2.1
    clear HW
    go_wp2_with fail
    refine (HO.out _).mono ?_
    rintro e w1 ⟨rfl, hb⟩
    have hs1 := Lib.hid (hs0.out.call hb)
    clear hb hs0 m0 m1 m2 r0 r1
    obtain ⟨⟨r0, r1⟩, -⟩ := row2_cells hs1.out.2.2.1
    go_wp2_with fail
    refine (HT1.out _).mono ?_
    rintro e w' ⟨rfl, rfl⟩
    go_wp2_with fail
    refine (HT2.out _).mono ?_
    rintro e w' ⟨rfl, rfl⟩
    go_wp2_with fail
    refine (HT3.out _).mono ?_
    rintro e w' ⟨rfl, rfl⟩
    clear HT1 HT2 HT3
    go_wp2_with fail
    clear r0 r1
    go_loopw [29] (fun u29 wr => ∃ k : Nat, k ≤ 4 ∧ u29 = .int .i64 k ∧ (∀ j, j < k → stN x y z c' (tnN f' j) < 0) ∧ SW W x y z c' f' wr) (fun u29 _ => 4 - (intOf u29).toNat)
    case atStart => exact ⟨0, by omega, rfl, fun j hj => absurd hj (by omega), hs1.out⟩
    case round =>
      clear hs1
      obtain ⟨k, hk, rfl, hno, hsw0⟩ := hrel
      have hsw := Lib.hid hsw0
      have HNo := Lib.hid hno
      clear hsw0 hno
      obtain ⟨⟨m0, m1, m2⟩, -⟩ := hsw.out.2.1
      obtain ⟨⟨r0, r1⟩, -⟩ := row2_cells hsw.out.2.2.1
      by_cases hk4 : k < 4
      · have hk0 : (0 : Int) ≤ (k : Int) := Int.natCast_nonneg _
        have hk1 : (k : Int) < 4 := by omega
        have hix := HIx.out k hk4 wr
        have HS1 := Lib.hid (fun X => HS.out (tnN f' k : Nat) X)
        rw [HSt.out] at HS1
        have HE1 := Lib.hid (fun h => HEy.out k hk4 HNo.out h)
        have HM2 := Lib.hid (HM1.out (tnN f' k))
        have HN2 : Hid (stN x y z c' (tnN f' k) < 0 → ∀ j, j < k + 1 → stN x y z c' (tnN f' j) < 0) := Lib.hid fun hs j hj => by
          rcases Nat.lt_or_ge j k with h | h
          · exact HNo.out j h
          · obtain rfl : j = k := by omega
            exact hs
        clear HIx HEy HEn HM1 HS HNo
        generalize hd : tnN f' k = d at *
        go_wp2_with fail
        refine (HS1.out _).mono ?_
        rintro e w2 ⟨rfl, hb⟩
        have hsw2 := Lib.hid (hsw.out.call hb)
        clear hb hsw m0 m1 m2 r0 r1 hix
        by_cases hst : 0 ≤ stN x y z c' d
        · have hq : (stN x y z c' d == -1) = false := by simp; omega
          obtain ⟨e1, e2⟩ := HE1.out hst
          have HE2 := Lib.hid e1
          have HE3 := Lib.hid e2
          obtain ⟨⟨a0, a1⟩, fa0, fa1⟩ := row2_cells hsw2.out.2.2.2
          clear e1 e2 hst HE1 HM2 HN2 hd HS1 HSt
          generalize stN x y z c' d = sv at *
          go_wp2_with fail
          refine ret_set2 a0 a1 fun Y g0 g1 hY => ?_
          exact bodyPost_ret (v := .agg #[.int .i64 sv, .int .i64 (d : Int)]) (by simp [results, Try.results13, go_sem, g0, g1]) rfl (sw_end hsw2.out HE2.out HE3.out hY)
        · have hsm : stN x y z c' d = -1 := HM2.out (by omega)
          have HN3 := Lib.hid (HN2.out (by omega))
          rw [hsm]
          clear hst HE1 HM2 HN2 hd HS1 HSt hsm
          go_wp2_with fail
          go_roundw
          case rel => exact ⟨k + 1, by omega, by go_num, HN3.out, hsw2.out⟩
          case measure => simp [intOf]; omega
      · obtain rfl : k = 4 := by omega
        obtain ⟨e1, e2⟩ := HEn.out HNo.out
        have HE2 := Lib.hid e1
        have HE3 := Lib.hid e2
        obtain ⟨⟨a0, a1⟩, fa0, fa1⟩ := row2_cells hsw.out.2.2.2
        clear e1 e2 HIx HEy HEn HM1 HNo
        generalize tnN f' 3 = d at *
        go_wp2_with fail
        refine ret_set2 a0 a1 fun Y g0 g1 hY => ?_
        exact bodyPost_ret (v := .agg #[.int .i64 (c' : Int), .int .i64 (d : Int)]) (by simp [results, Try.results13, go_sem, g0, g1]) rfl (sw_end hsw.out HE2.out HE3.out hY)
end Go.Proofs.Ytkknnikhpembiaa.handI
