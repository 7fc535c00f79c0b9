/- The contract of the model's dividing of a room. -/
import Derived.Test.YthakbjdkcdppjaaGrwN1
namespace Go.Proofs.Ythakbjdkcdppjaa.grwN
open Go.ChangeShapes Go.WideShapes Go.ChangeAt Go.RowKit
open draw gridP gridC gridE bitP mazeP mazeC mazeM mazeR mazeS intsP boolP reachP reachM reachN reachD forest intA listK wayP ersP ersO entO grwP grwQ grwO grwM
set_option linter.unusedVariables false

set_option maxRecDepth 100000 in
set_option maxHeartbeats 2000000 in
theorem divide_any (x y : Int) (hk : 1 ≤ x ∧ x ≤ 4 ∧ 1 ≤ y ∧ y ≤ 4) (A : Option Addr) (n c : Nat) (cs : List Int) (hn : cs.length = n) (hm : n ≤ 1048576) :
    ∀ (f : Nat) (o : Int) (k x0 y0 wd ht : Nat) (X0 Y0 Wd Ht Kk : Int) (W : World), X0 = (x0 : Int) → Y0 = (y0 : Int) → Wd = (wd : Int) → Ht = (ht : Int) → Kk = (k : Int) → IntsIn W W.heap.size A cs →
      1 ≤ wd → 1 ≤ ht → wd + ht ≤ f + 1 → x0 + wd ≤ 4 → y0 + ht ≤ 4 → k + 2 * (wd * ht) ≤ 64 →
      Calls Try.prog 41 #[.agg #[.int .i64 x, .int .i64 y, .int .i64 o], .int .i64 X0, .int .i64 Y0, .int .i64 Wd, .int .i64 Ht, .slice A n c, .int .i64 Kk] W (MzI x y (dvF x y cs f (o, k) x0 y0 wd ht) W) := by
  intro f
  induction f with
  | zero => intro o k x0 y0 wd ht X0 Y0 Wd Ht Kk W _ _ _ _ _ _ h1 h2 h3; omega
  | succ f ih =>
    intro o k x0 y0 wd ht X0 Y0 Wd Ht Kk W e1 e2 e3 e4 e5 hi h1 h2 h3 h4 h5 h6
    subst e1; subst e2; subst e3; subst e4; subst e5
    have HW := Lib.hid (fun T1 T2 => @dw_new W x y o A cs hi T1 T2)
    have HCh := Lib.hid (fun k X h => choice_any A n c k cs X hn hm h)
    clear hi
    by_cases hb : wd = 1 ∨ ht = 1
    · rw [dv_base hb]
      clear ih HCh hn h6
      by_cases hw1 : wd = 1
      · subst hw1
        go_enter Try.func41, Try.ntmps41
        go_wp2_with fail
        obtain ⟨hr3, hbl⟩ := dw_base x y o W 30 30
        obtain ⟨⟨g0, g1, g2⟩, -⟩ := row3_cells hr3
        refine bodyPost_ret (v := .tuple #[.agg #[.int .i64 x, .int .i64 y, .int .i64 o], .int .i64 (k : Int)]) (by simp [results, Try.results41, go_sem, g0, g1, g2]) rfl ?_
        exact ⟨rfl, hbl⟩
      · obtain rfl : ht = 1 := by omega
        have hw2 : ¬ (wd : Int) = 1 := by omega
        go_enter Try.func41, Try.ntmps41
        go_wp2_with fail
        obtain ⟨hr3, hbl⟩ := dw_base x y o W 30 30
        obtain ⟨⟨g0, g1, g2⟩, -⟩ := row3_cells hr3
        refine bodyPost_ret (v := .tuple #[.agg #[.int .i64 x, .int .i64 y, .int .i64 o], .int .i64 (k : Int)]) (by simp [results, Try.results41, go_sem, g0, g1, g2]) rfl ?_
        exact ⟨rfl, hbl⟩
    · have hw2 : 2 ≤ wd := by omega
      have ht2 : 2 ≤ ht := by omega
      have hwn : ¬ (wd : Int) = 1 := by omega
      have htn : ¬ (ht : Int) = 1 := by omega
      have hwb : ((wd : Int) == 1) = false := by simpa using hwn
      have htb : ((ht : Int) == 1) = false := by simpa using htn
      have hwz : ¬ wd = 0 := by omega
      have htz : ¬ ht = 0 := by omega
      have HC1 := Lib.hid (HCh.out k)
      have HC2 : Hid (∀ X, IntsIn X X.heap.size A cs → Calls Try.prog 38 #[.slice A n c, .int .i64 ((k : Int) + 1)] X fun e w' => e = .returned (.int .i64 (chZ cs (k + 1))) ∧ X = w') := Lib.hid fun X h => by
        have := HCh.out (k + 1) X h
        rwa [Int.natCast_add] at this
      have hkk : k ≤ 64 := by omega
      by_cases hl : wd ≤ ht
      · have hli : (wd : Int) ≤ (ht : Int) := by omega
        obtain ⟨hr1, hr2⟩ := rem_is (cs := cs) (k := k) (show 0 < ht - 1 by omega) (show (ht : Int) - 1 = ((ht - 1 : Nat) : Int) by omega) rfl
        obtain ⟨hp1, hp2⟩ := rem_is (cs := cs) (k := k + 1) (show 0 < wd by omega) rfl rfl
        have HE := Lib.hid (@dv_rows x y cs f o k x0 y0 wd ht hb hl _ _ rfl rfl)
        have hga := ch_ge cs k
        have hgb := ch_ge cs (k + 1)
        generalize (chZ cs k).toNat % (ht - 1) = r at *
        generalize (chZ cs (k + 1)).toNat % wd = p at *
        generalize chZ cs k = va at *
        generalize chZ cs (k + 1) = vb at *
        have hmu : wd * ht = wd * (r + 1) + wd * (ht - r - 1) := by rw [← Nat.mul_add]; congr 1; omega
        have hm1 : 1 ≤ wd * (ht - r - 1) := Nat.mul_pos (by omega) (by omega)
        have hus := dv_used (x := x) (y := y) (cs := cs) f (wlH x y o x0 (y0 + r) p wd) (k + 2) x0 y0 wd (r + 1) (by omega) (by omega)
        have HSu : Hid (∀ i : Nat, wlH x y o x0 (y0 + r) p (i + 1) = sgZ x y (wlH x y o x0 (y0 + r) p i) (gpZ x y (((y0 : Int) + (r : Int)) * x + (x0 : Int) + (i : Int)) 2) (decide (i = p))) := Lib.hid fun i => by
          rw [← Int.natCast_add]; rfl
        have HF0 : Hid (wlH x y o x0 (y0 + r) p 0 = o) := Lib.hid rfl
        have HI1 : Hid (∀ X, IntsIn X X.heap.size A cs → Calls Try.prog 41 #[.agg #[.int .i64 x, .int .i64 y, .int .i64 (wlH x y o x0 (y0 + r) p wd)], .int .i64 (x0 : Int), .int .i64 (y0 : Int), .int .i64 (wd : Int), .int .i64 ((r : Int) + 1), .slice A n c, .int .i64 ((k : Int) + 2)] X (MzI x y (dvF x y cs f (wlH x y o x0 (y0 + r) p wd, k + 2) x0 y0 wd (r + 1)) X)) := Lib.hid fun X h =>
          ih _ (k + 2) x0 y0 wd (r + 1) _ _ _ _ _ X rfl rfl rfl (by omega) (by omega) h (by omega) (by omega) (by omega) (by omega) (by omega) (by omega)
        generalize wlH x y o x0 (y0 + r) p = F at *
        generalize hs1 : dvF x y cs f (F wd, k + 2) x0 y0 wd (r + 1) = s1 at *
        obtain ⟨o1, k1⟩ := s1
        simp only at hus
        have HI2 : Hid (∀ X, IntsIn X X.heap.size A cs → Calls Try.prog 41 #[.agg #[.int .i64 x, .int .i64 y, .int .i64 o1], .int .i64 (x0 : Int), .int .i64 ((y0 : Int) + (r : Int) + 1), .int .i64 (wd : Int), .int .i64 ((ht : Int) - (r : Int) - 1), .slice A n c, .int .i64 (k1 : Int)] X (MzI x y (dvF x y cs f (o1, k1) x0 (y0 + r + 1) wd (ht - r - 1)) X)) := Lib.hid fun X h =>
          ih _ k1 x0 (y0 + r + 1) wd (ht - r - 1) _ _ _ _ _ X rfl (by omega) rfl (by omega) rfl h (by omega) (by omega) (by omega) (by omega) (by omega) (by omega)
        have HE2 : Hid (dvF x y cs (f + 1) (o, k) x0 y0 wd ht = dvF x y cs f (o1, k1) x0 (y0 + r + 1) wd (ht - r - 1)) := Lib.hid HE.out
        generalize dvF x y cs f (o1, k1) x0 (y0 + r + 1) wd (ht - r - 1) = s2 at *
        obtain ⟨o2, k2⟩ := s2
        rw [HE2.out]
        have hq0 : 0 ≤ ((y0 : Int) + (r : Int)) * x := Int.mul_nonneg (by omega) (by omega)
        have hq1 : ((y0 : Int) + (r : Int)) * x ≤ 4 * 4 := Int.mul_le_mul (by omega) (by omega) (by omega) (by omega)
        generalize hq : ((y0 : Int) + (r : Int)) * x = q at *
        have hqw : IntKind.i64.wrap (((y0 : Int) + (r : Int)) * x) = q := by rw [hq]; exact IntWalk.i64_in _ (by omega)
        have hk1w : k1 ≤ 64 := by omega
        have HGp := Lib.hid (fun i d X => gridS.gapAt_any x y (q + (x0 : Int) + i) d X)
        have HSg := Lib.hid (fun z g b X => setGap_any x y z g b X)
        have hy0 : (0 : Int) ≤ (y0 : Int) := Int.natCast_nonneg _
        have hx0 : (0 : Int) ≤ (x0 : Int) := Int.natCast_nonneg _
        have hrn : (0 : Int) ≤ (r : Int) := Int.natCast_nonneg _
        clear ih HCh hn h6 hb HE HE2 hs1 hmu hm1 hus hq
        go_enter Try.func41, Try.ntmps41
        go_wp2_with fail
        have hdw := Lib.hid (HW.out 30 30)
        refine (HC1.out _ hdw.out.ints).mono ?_
        rintro e w1 ⟨rfl, rfl⟩
        go_wp2_with fail
        refine (HC2.out _ hdw.out.ints).mono ?_
        rintro e w1 ⟨rfl, rfl⟩
        clear HC1 HC2 HW
        go_wp2_with fail
        go_loopw [19] (fun u19 wr => ∃ i : Nat, i ≤ wd ∧ u19 = .int .i64 (i : Int) ∧ DW W x y (F i) A cs wr) (fun u19 _ => wd - (intOf u19).toNat)
        case atStart => exact ⟨0, Nat.zero_le _, rfl, by rw [HF0.out]; exact hdw.out⟩
        case round =>
          clear hdw
          obtain ⟨i, hi, rfl, hdw0⟩ := hrel
          have hdw := Lib.hid hdw0
          obtain ⟨⟨m0, m1, m2⟩, f0, f1, f2⟩ := row3_cells hdw0.2.1
          clear hdw0
          have hi0 : (0 : Int) ≤ (i : Int) := Int.natCast_nonneg _
          by_cases hiw : i < wd
          · have hi1 : (i : Int) < (wd : Int) := by omega
            have HS1 := Lib.hid (HSu.out i)
            have hdc : ((i : Int) == (p : Int)) = decide (i = p) := by rw [Bool.eq_iff_iff, beq_iff_eq, decide_eq_true_iff]; omega
            generalize decide (i = p) = bb at *
            have HG1 := Lib.hid (fun X => HGp.out i 2 X)
            generalize gpZ x y (q + (x0 : Int) + (i : Int)) 2 = g at *
            have HSg1 := Lib.hid (fun X => HSg.out (F i) g bb X)
            rw [← HS1.out] at HSg1
            generalize sgB x y (F i) g = sb at *
            generalize hO3 : F (i + 1) = o3 at *
            have HO3 := Lib.hid hO3
            clear hO3
            go_wp2_with fail
            refine wallH_round W _ x y (F i) o3 x0 y0 wd r i vb p q g bb sb A cs _ _ _ _ _ _ _ _ _ _ _ _ _ _ _ _ _ _ _ _ _ _ _ _ _ _ _ _ _ _ _ _ _ _ _ _ _ _ _ _ _ _ _ _ _ _ _ _ _ _ _ _ _ _ _ _ _ _ _ _ _ _ _ _ _ _ _ _ _ _ _ _ _ _ _ _ _ _ _ _ _ _ _ _ _ _ _ _ _ _ _ _ _ _ _ _ _ _ _ _ _ _ _ _ _ _ _ _ _ _ _ _ _ _ _ _ _ _ _ _ _ _ _ _ _ _ _ _ _ _ _ _ _ _ _ _ _ _ _ _ _ _ _ _ _ _ _ _ _ _ _ _ _ _ _ _ _ _ hdw.out ⟨by omega, by omega⟩ ⟨by omega, by omega⟩ ⟨by omega, by omega⟩ ⟨by omega, by omega⟩ ⟨by omega, by omega⟩ (IntWalk.i64_in _ (by omega)) hqw (IntWalk.i64_in _ (by omega)) (IntWalk.i64_in _ (by omega)) (by omega) hp1 hdc HG1 HSg1 (fun d v c a w h => by cases d <;> exact h) (Lib.hid fun v51 v52 v53 v54 v55 v56 v57 v58 v59 v60 v61 v62 v63 v64 v65 v66 v67 v68 v69 v70 v71 v72 v73 v74 X hX => ?_)
            have hdw4 := Lib.hid hX
            clear hX
            go_wp2_with fail
            go_roundw
            case rel => exact ⟨i + 1, by omega, by go_num, by rw [HO3.out]; exact hdw4.out⟩
            case measure => (try simp [intOf]); omega
          · obtain rfl : i = wd := by omega
            go_wp2_with fail
            refine (HI1.out _ hdw.out.ints).mono ?_
            rintro e w2 ⟨rfl, hb⟩
            have hdw2 := Lib.hid (hdw.out.call hb)
            clear hb hdw m0 m1 m2 f0 f1 f2
            obtain ⟨⟨m0, m1, m2⟩, f0, f1, f2⟩ := row3_cells hdw2.out.2.1
            have hdw3 := Lib.hid (hdw2.out.put o1)
            go_wp2_with fail
            refine (HI2.out _ hdw3.out.ints).mono ?_
            rintro e w4 ⟨rfl, hb⟩
            have hdw4 := Lib.hid (hdw3.out.call hb)
            clear hb hdw2 hdw3
            obtain ⟨⟨b0, b1, b2⟩, t0, t1, t2⟩ := row3_cells hdw4.out.2.2.1
            go_wp2_with fail
            refine ret_set3 b0 b1 b2 fun Y g0 g1 g2 hY => ?_
            refine bodyPost_ret (v := .tuple #[.agg #[.int .i64 x, .int .i64 y, .int .i64 o2], .int .i64 (k2 : Int)]) (by simp [results, Try.results41, go_sem, g0, g1, g2]) rfl ?_
            subst hY
            exact ⟨rfl, hdw4.out.ending _ _ _⟩
      · have hli : ¬ (wd : Int) ≤ (ht : Int) := by omega
        obtain ⟨hr1, hr2⟩ := rem_is (cs := cs) (k := k) (show 0 < wd - 1 by omega) (show (wd : Int) - 1 = ((wd - 1 : Nat) : Int) by omega) rfl
        obtain ⟨hp1, hp2⟩ := rem_is (cs := cs) (k := k + 1) (show 0 < ht by omega) rfl rfl
        have HE := Lib.hid (@dv_cols x y cs f o k x0 y0 wd ht hb hl _ _ rfl rfl)
        have hga := ch_ge cs k
        have hgb := ch_ge cs (k + 1)
        generalize (chZ cs k).toNat % (wd - 1) = r at *
        generalize (chZ cs (k + 1)).toNat % ht = p at *
        generalize chZ cs k = va at *
        generalize chZ cs (k + 1) = vb at *
        have hmu : wd * ht = (r + 1) * ht + (wd - r - 1) * ht := by rw [← Nat.add_mul]; congr 1; omega
        have hm1 : 1 ≤ (wd - r - 1) * ht := Nat.mul_pos (by omega) (by omega)
        have hus := dv_used (x := x) (y := y) (cs := cs) f (wlV x y o (x0 + r) y0 p ht) (k + 2) x0 y0 (r + 1) ht (by omega) (by omega)
        have HSu : Hid (∀ i : Nat, wlV x y o (x0 + r) y0 p (i + 1) = sgZ x y (wlV x y o (x0 + r) y0 p i) (gpZ x y (((y0 : Int) + (i : Int)) * x + (x0 : Int) + (r : Int)) 1) (decide (i = p))) := Lib.hid fun i => by
          rw [← Int.natCast_add, Int.add_assoc, ← Int.natCast_add]; rfl
        have HF0 : Hid (wlV x y o (x0 + r) y0 p 0 = o) := Lib.hid rfl
        have HI1 : Hid (∀ X, IntsIn X X.heap.size A cs → Calls Try.prog 41 #[.agg #[.int .i64 x, .int .i64 y, .int .i64 (wlV x y o (x0 + r) y0 p ht)], .int .i64 (x0 : Int), .int .i64 (y0 : Int), .int .i64 ((r : Int) + 1), .int .i64 (ht : Int), .slice A n c, .int .i64 ((k : Int) + 2)] X (MzI x y (dvF x y cs f (wlV x y o (x0 + r) y0 p ht, k + 2) x0 y0 (r + 1) ht) X)) := Lib.hid fun X h =>
          ih _ (k + 2) x0 y0 (r + 1) ht _ _ _ _ _ X rfl rfl (by omega) rfl (by omega) h (by omega) (by omega) (by omega) (by omega) (by omega) (by omega)
        generalize wlV x y o (x0 + r) y0 p = F at *
        generalize hs1 : dvF x y cs f (F ht, k + 2) x0 y0 (r + 1) ht = s1 at *
        obtain ⟨o1, k1⟩ := s1
        simp only at hus
        have HI2 : Hid (∀ X, IntsIn X X.heap.size A cs → Calls Try.prog 41 #[.agg #[.int .i64 x, .int .i64 y, .int .i64 o1], .int .i64 ((x0 : Int) + (r : Int) + 1), .int .i64 (y0 : Int), .int .i64 ((wd : Int) - (r : Int) - 1), .int .i64 (ht : Int), .slice A n c, .int .i64 (k1 : Int)] X (MzI x y (dvF x y cs f (o1, k1) (x0 + r + 1) y0 (wd - r - 1) ht) X)) := Lib.hid fun X h =>
          ih _ k1 (x0 + r + 1) y0 (wd - r - 1) ht _ _ _ _ _ X (by omega) rfl (by omega) rfl rfl h (by omega) (by omega) (by omega) (by omega) (by omega) (by omega)
        have HE2 : Hid (dvF x y cs (f + 1) (o, k) x0 y0 wd ht = dvF x y cs f (o1, k1) (x0 + r + 1) y0 (wd - r - 1) ht) := Lib.hid HE.out
        generalize dvF x y cs f (o1, k1) (x0 + r + 1) y0 (wd - r - 1) ht = s2 at *
        obtain ⟨o2, k2⟩ := s2
        rw [HE2.out]
        have hk1w : k1 ≤ 64 := by omega
        have HGp := Lib.hid (fun z d X => gridS.gapAt_any x y z d X)
        have HQ := Lib.hid (fun (i : Nat) (hi : i < ht) => show 0 ≤ ((y0 : Int) + (i : Int)) * x ∧ ((y0 : Int) + (i : Int)) * x ≤ 4 * 4 from ⟨Int.mul_nonneg (by omega) (by omega), Int.mul_le_mul (by omega) (by omega) (by omega) (by omega)⟩)
        have HSg := Lib.hid (fun z g b X => setGap_any x y z g b X)
        have hy0 : (0 : Int) ≤ (y0 : Int) := Int.natCast_nonneg _
        have hx0 : (0 : Int) ≤ (x0 : Int) := Int.natCast_nonneg _
        have hrn : (0 : Int) ≤ (r : Int) := Int.natCast_nonneg _
        clear ih HCh hn h6 hb HE HE2 hs1 hmu hm1 hus
        go_enter Try.func41, Try.ntmps41
        go_wp2_with fail
        have hdw := Lib.hid (HW.out 30 30)
        refine (HC1.out _ hdw.out.ints).mono ?_
        rintro e w1 ⟨rfl, rfl⟩
        go_wp2_with fail
        refine (HC2.out _ hdw.out.ints).mono ?_
        rintro e w1 ⟨rfl, rfl⟩
        clear HC1 HC2 HW
        go_wp2_with fail
        go_loopw [21] (fun u19 wr => ∃ i : Nat, i ≤ ht ∧ u19 = .int .i64 (i : Int) ∧ DW W x y (F i) A cs wr) (fun u19 _ => ht - (intOf u19).toNat)
        case atStart => exact ⟨0, Nat.zero_le _, rfl, by rw [HF0.out]; exact hdw.out⟩
        case round =>
          clear hdw
          obtain ⟨i, hi, rfl, hdw0⟩ := hrel
          have hdw := Lib.hid hdw0
          obtain ⟨⟨m0, m1, m2⟩, f0, f1, f2⟩ := row3_cells hdw0.2.1
          clear hdw0
          have hi0 : (0 : Int) ≤ (i : Int) := Int.natCast_nonneg _
          by_cases hiw : i < ht
          · have hi1 : (i : Int) < (ht : Int) := by omega
            have HS1 := Lib.hid (HSu.out i)
            have hdc : ((i : Int) == (p : Int)) = decide (i = p) := by rw [Bool.eq_iff_iff, beq_iff_eq, decide_eq_true_iff]; omega
            generalize decide (i = p) = bb at *
            obtain ⟨hq0, hq1⟩ := HQ.out i hiw
            generalize hq : ((y0 : Int) + (i : Int)) * x = q at *
            have hqw : IntKind.i64.wrap (((y0 : Int) + (i : Int)) * x) = q := by rw [hq]; exact IntWalk.i64_in _ (by omega)
            clear hq
            have HG1 := Lib.hid (fun X => HGp.out (q + (x0 : Int) + (r : Int)) 1 X)
            generalize gpZ x y (q + (x0 : Int) + (r : Int)) 1 = g at *
            have HSg1 := Lib.hid (fun X => HSg.out (F i) g bb X)
            rw [← HS1.out] at HSg1
            generalize sgB x y (F i) g = sb at *
            generalize hO3 : F (i + 1) = o3 at *
            have HO3 := Lib.hid hO3
            clear hO3
            go_wp2_with fail
            refine wallV_round W _ x y (F i) o3 x0 y0 ht r i vb p q g bb sb A cs _ _ _ _ _ _ _ _ _ _ _ _ _ _ _ _ _ _ _ _ _ _ _ _ _ _ _ _ _ _ _ _ _ _ _ _ _ _ _ _ _ _ _ _ _ _ _ _ _ _ _ _ _ _ _ _ _ _ _ _ _ _ _ _ _ _ _ _ _ _ _ _ _ _ _ _ _ _ _ _ _ _ _ _ _ _ _ _ _ _ _ _ _ _ _ _ _ _ _ _ _ _ _ _ _ _ _ _ _ _ _ _ _ _ _ _ _ _ _ _ _ _ _ _ _ _ _ _ _ _ _ _ _ _ _ _ _ _ _ _ _ _ _ _ _ _ _ _ _ _ _ _ _ _ _ _ _ _ hdw.out ⟨by omega, by omega⟩ ⟨by omega, by omega⟩ ⟨by omega, by omega⟩ ⟨by omega, by omega⟩ ⟨by omega, by omega⟩ (IntWalk.i64_in _ (by omega)) hqw (IntWalk.i64_in _ (by omega)) (IntWalk.i64_in _ (by omega)) (by omega) hp1 hdc HG1 HSg1 (fun d v c a w h => by cases d <;> exact h) (Lib.hid fun v112 v113 v114 v115 v116 v117 v118 v119 v120 v121 v122 v123 v124 v125 v126 v127 v128 v129 v130 v131 v132 v133 v134 v135 X hX => ?_)
            have hdw4 := Lib.hid hX
            clear hX
            go_wp2_with fail
            go_roundw
            case rel => exact ⟨i + 1, by omega, by go_num, by rw [HO3.out]; exact hdw4.out⟩
            case measure => (try simp [intOf]); omega
          · obtain rfl : i = ht := by omega
            go_wp2_with fail
            refine (HI1.out _ hdw.out.ints).mono ?_
            rintro e w2 ⟨rfl, hb⟩
            have hdw2 := Lib.hid (hdw.out.call hb)
            clear hb hdw m0 m1 m2 f0 f1 f2
            obtain ⟨⟨m0, m1, m2⟩, f0, f1, f2⟩ := row3_cells hdw2.out.2.1
            have hdw3 := Lib.hid (hdw2.out.put o1)
            go_wp2_with fail
            refine (HI2.out _ hdw3.out.ints).mono ?_
            rintro e w4 ⟨rfl, hb⟩
            have hdw4 := Lib.hid (hdw3.out.call hb)
            clear hb hdw2 hdw3
            obtain ⟨⟨b0, b1, b2⟩, t0, t1, t2⟩ := row3_cells hdw4.out.2.2.1
            go_wp2_with fail
            refine ret_set3 b0 b1 b2 fun Y g0 g1 g2 hY => ?_
            refine bodyPost_ret (v := .tuple #[.agg #[.int .i64 x, .int .i64 y, .int .i64 o2], .int .i64 (k2 : Int)]) (by simp [results, Try.results41, go_sem, g0, g1, g2]) rfl ?_
            subst hY
            exact ⟨rfl, hdw4.out.ending _ _ _⟩
end Go.Proofs.Ythakbjdkcdppjaa.grwN
