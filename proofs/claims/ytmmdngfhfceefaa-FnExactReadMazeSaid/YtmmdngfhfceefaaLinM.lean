/- The contract of the model's lines of a maze. -/
import Derived.Test.YtmmdngfhfceefaaLinP
import Derived.Test.YtmmdngfhfceefaaListT
import Derived.Test.YtmmdngfhfceefaaModM
namespace Go.Proofs.Ytmmdngfhfceefaa.linM
open Go.ChangeShapes Go.WideShapes Go.ChangeAt Go.RowKit
open draw gridP gridC gridE bitP mazeP mazeC mazeM mazeR mazeS intsP reachP reachM reachN reachD intA listK forest deadP linP splP listT
set_option linter.unusedVariables false

/-- The lines that are written, the places of a line that are written. -/
def LK (x y z : Int) (k : Nat) : List (List UInt8) := (List.range k).map (lnL x y z)
def RK (x y z : Int) (r n c : Nat) : List UInt8 := (List.range c).map (fun c => chU (chB x y z r c)) ++ List.replicate (n - c) 0
theorem lk_succ (x y z : Int) (k : Nat) : LK x y z (k + 1) = LK x y z k ++ [lnL x y z k] := by unfold LK; rw [List.range_succ, List.map_append]; rfl
theorem lk_len (x y z : Int) (k : Nat) : (LK x y z k).length = k := by unfold LK; simp
theorem rk_zero (x y z : Int) (r n : Nat) : RK x y z r n 0 = List.replicate n 0 := by unfold RK; simp
theorem rk_all (x y z : Int) (r : Nat) : RK x y z r (cW x) (cW x) = lnL x y z r := by unfold RK lnL; simp
theorem rk_set (x y z : Int) (r n c : Nat) (h : c < n) : (RK x y z r n c).set c (chU (chB x y z r c)) = RK x y z r n (c + 1) := by
  unfold RK
  rw [List.range_succ, List.map_append, List.set_append_right c _ (by simp), show n - c = (n - (c + 1)) + 1 from by omega, List.replicate_succ]
  simp
theorem rk_35 {x y z : Int} {r n c : Nat} (h : c < n) (e : chB x y z r c = false) : (RK x y z r n c).set c 35 = RK x y z r n (c + 1) := by rw [← rk_set x y z r n c h, e]; rfl
theorem rk_32 {x y z : Int} {r n c : Nat} (h : c < n) (e : chB x y z r c = true) : ((RK x y z r n c).set c 35).set c 32 = RK x y z r n (c + 1) := by rw [← rk_set x y z r n c h, e, List.set_set]; rfl
theorem ch_a {x y z : Int} {r c : Nat} (hr : r % 2 = 1) (hc : ¬ c % 2 = 1) : chB x y z r c = (decide (0 < c ∧ (c : Int) < 2 * x) && decide (0 ≤ stZ x y z ((r : Int) / 2 * x + (c : Int) / 2 - 1) 1)) := by
  unfold chB; rw [if_pos hr, if_neg hc]
  rw [show ((r / 2 : Nat) : Int) = (r : Int) / 2 from by omega, show ((c / 2 : Nat) : Int) = (c : Int) / 2 from by omega]
theorem ch_b {x y z : Int} {r c : Nat} (hr : ¬ r % 2 = 1) : chB x y z r c = (decide (c % 2 = 1 ∧ 0 < r ∧ (r : Int) < 2 * y) && decide (0 ≤ stZ x y z ((r : Int) / 2 * x + (c : Int) / 2 - x) 2)) := by
  unfold chB; rw [if_neg hr]
  rw [show ((r / 2 : Nat) : Int) = (r : Int) / 2 from by omega, show ((c / 2 : Nat) : Int) = (c : Int) / 2 from by omega]
theorem ch_c {x y z : Int} {r c : Nat} (hr : r % 2 = 1) (hc : c % 2 = 1) : chB x y z r c = true := by
  unfold chB; rw [if_pos hr, if_pos hc]
theorem half_bd {x : Int} {r : Nat} (h1 : 1 ≤ x) (h2 : x ≤ 4) (hr : r ≤ 9) : 0 ≤ (r : Int) / 2 * x ∧ (r : Int) / 2 * x ≤ 16 := by
  have h : (r : Int) / 2 ≤ 4 := by omega
  have h0 : 0 ≤ (r : Int) / 2 := by omega
  constructor
  · exact Int.mul_nonneg h0 (by omega)
  · exact Int.le_trans (Int.mul_le_mul h h2 (by omega) (by decide)) (by decide)

set_option maxRecDepth 100000 in
theorem mazeLines_bad (x y z : Int) (W : World) (hv : ¬ OkM x y z) :
    Calls Try.prog 5 #[.agg #[.int .i64 x, .int .i64 y, .int .i64 z]] W (Txs (mlL x y z) W) := by
  have HO := Lib.hid (fun X => ok_any x y z X)
  rw [show okB x y z = false from decide_eq_false hv] at HO
  have hend : Hid (mlL x y z = []) := Lib.hid (by unfold mlL; rw [if_neg hv])
  have HK := @Lib.hid _ (fun w' v n base => @txs_mk (mlL x y z) W w' v n base)
  have HOl := Lib.hid (fun T => @tl_new W (W.alloc (.cells #[.int .i64 x, .int .i64 y, .int .i64 z] T)) (below_box _ _) (by simp))
  clear hv
  go_enter Try.func5, Try.ntmps5
  go_wp2_with fail
  have hbs : (W.alloc (.cells #[.int .i64 x, .int .i64 y, .int .i64 z] 30)).heap.size = W.heap.size + 1 := by simp
  have hol0 := Lib.hid (HOl.out 30)
  rw [hbs] at hol0
  clear HOl hbs
  refine (HO.out _).mono ?_
  rintro e w1 ⟨rfl, hb⟩
  have hol1 := Lib.hid (hol0.out.call hb)
  clear hb hol0
  go_wp2_with fail
  go_ret
  exact HK.out _ _ _ _ (by rw [hend.out]) (by rw [hend.out]; exact hol1.out.2.2.2) hol1.out.2.1 hol1.out.1

set_option maxRecDepth 100000 in
set_option maxHeartbeats 4000000 in
theorem mazeLines_good (x y z : Int) (W : World) (hv : OkM x y z) :
    Calls Try.prog 5 #[.agg #[.int .i64 x, .int .i64 y, .int .i64 z]] W (Txs (mlL x y z) W) := by
  obtain ⟨i0, hi0, hz0, hz1, hz2⟩ := info_parts info_u8
  obtain ⟨j0, hj0, hy0, hy1, hy2⟩ := info_parts info_str
  obtain ⟨⟨h1, h2, h3, h4⟩, -, -⟩ := id hv
  have HO := Lib.hid (fun X => ok_any x y z X)
  rw [show okB x y z = true from decide_eq_true hv] at HO
  have HSt := Lib.hid (fun u q X => step_any x y z u q X)
  have hend : Hid (mlL x y z = LK x y z (cW y)) := Lib.hid (by unfold mlL LK; rw [if_pos hv])
  have HK := @Lib.hid _ (fun w' v n base => @txs_mk (mlL x y z) W w' v n base)
  have HOl := Lib.hid (fun T => @tl_new W (W.alloc (.cells #[.int .i64 x, .int .i64 y, .int .i64 z] T)) (below_box _ _) (by simp))
  have HX := Lib.hid (fun T => mbox_new x y z W T)
  have HLs := Lib.hid (lk_succ x y z)
  have HLl := Lib.hid (lk_len x y z)
  have HRz := Lib.hid (fun r => rk_zero x y z r (cW x))
  have HRa := Lib.hid (rk_all x y z)
  have HR5 := @Lib.hid _ (fun r c => @rk_35 x y z r (cW x) c)
  have HR2 := @Lib.hid _ (fun r c => @rk_32 x y z r (cW x) c)
  have HCa := @Lib.hid _ (fun r c => @ch_a x y z r c)
  have HCb := @Lib.hid _ (fun r c => @ch_b x y z r c)
  have HCc := @Lib.hid _ (fun r c => @ch_c x y z r c)
  have HLk0 : Hid (LK x y z 0 = []) := Lib.hid rfl
  have hnI : (cW x : Int) = 2 * x + 1 := by unfold cW; omega
  have hmI : (cW y : Int) = 2 * y + 1 := by unfold cW; omega
  clear hv
  generalize cW x = n at *
  generalize cW y = m at *
  generalize stZ x y z = st at *
  generalize chB x y z = ch at *
  generalize RK x y z = rk at *
  generalize LK x y z = lk at *
  generalize lnL x y z = ln at *
  generalize mlL x y z = ml at *
  go_enter Try.func5, Try.ntmps5
  go_wp2_with fail
  have hbs : (W.alloc (.cells #[.int .i64 x, .int .i64 y, .int .i64 z] 30)).heap.size = W.heap.size + 1 := by simp
  have hol0 := Lib.hid (HOl.out 30)
  have hx0 := Lib.hid ((HX.out 30).call (below_box _ (.cells #[] 9)))
  rw [hbs] at hol0
  clear HOl HX hbs
  refine (HO.out _).mono ?_
  rintro e w1 ⟨rfl, hb⟩
  have hol1 := Lib.hid (hol0.out.call hb)
  have hx1 := Lib.hid (hx0.out.call hb)
  clear hb hol0 hx0 HO
  go_wp2_with fail
  go_loopw [3, 4] (fun u3 u4 wr => ∃ k : Nat, k ≤ m ∧ u4 = .int .i64 k ∧ TL W (W.heap.size + 1) (lk k) u3 wr ∧ MBox W.heap.size x y z wr) (fun _ u4 _ => m - (intOf u4).toNat)
  case atStart => exact ⟨0, Nat.zero_le _, rfl, by rw [HLk0.out]; exact hol1.out, hx1.out⟩
  case round =>
    clear hol1 hx1
    obtain ⟨k, hk, rfl, hol0, hx0⟩ := hrel
    have hol := Lib.hid hol0
    have hx := Lib.hid hx0
    obtain ⟨A3, c3, rfl⟩ := hol0.form
    have hll : (lk k).length ≤ 9 := by have := HLl.out k; omega
    have hbz := hol.out.2.2.1
    obtain ⟨m0, m1, m2⟩ := hx0.1
    clear hol0 hx0
    have hk0 : (0 : Int) ≤ (k : Int) := Int.natCast_nonneg _
    by_cases hkm : k < m
    · have hd1 : (k : Int) ≤ 2 * y := by omega
      have hk9 : k ≤ 9 := by omega
      have hmk := run_make (P := Try.prog) wr 41 5 i0 _ Try.underlying41 hi0 hz0 .i64 .i64 (2 * x + 1) (2 * x + 1) (by omega) (by omega) (by rw [hz2]; omega) (by omega)
      rw [hz1, show (2 * x + 1).toNat = n from by omega] at hmk
      simp only [Nat.mul_one] at hmk
      have hT0 := Lib.hid (tr_new hol.out hx.out (Nat.le_refl _) (Nat.lt_succ_self _) n (by unfold maxLen; omega))
      have HL1 := Lib.hid (HLs.out k)
      generalize hL : lk k = L at *
      go_wp2_with fail
      clear hmk m0 m1 m2
      go_loopw [6] (fun u6 wq => ∃ c : Nat, c ≤ n ∧ u6 = .int .i64 c ∧ TR W W.heap.size (W.heap.size + 1) x y z L (.slice A3 L.length c3) wr.heap.size n (rk k n c) wq) (fun u6 _ => n - (intOf u6).toNat)
      case atStart => exact ⟨0, Nat.zero_le _, rfl, by rw [HRz.out]; exact hT0.out⟩
      case round =>
        clear hT0 hol hx
        obtain ⟨c, hc, rfl, hT00⟩ := hrel
        have hT := Lib.hid hT00
        clear hT00
        have hc0 : (0 : Int) ≤ (c : Int) := Int.natCast_nonneg _
        by_cases hcn : c < n
        · have hc1 : (c : Int) < (n : Int) := by omega
          obtain ⟨⟨old, hcell⟩, hfz⟩ := hT.out.cell c hcn
          have hT2 := Lib.hid (hT.out.put c 35 35 rfl)
          obtain ⟨m0, m1, m2⟩ := hT2.out.2.1.1
          obtain ⟨⟨old2, hcell2⟩, hfz2⟩ := hT2.out.cell c hcn
          obtain ⟨hm0, hm1⟩ := half_bd h1 h2 hk9
          have hT9 := Lib.hid (hT2.out.put c 32 32 rfl)
          by_cases hkp : k % 2 = 1
          · have hkI : ((k : Int) % 2 == 1) = true := by rw [beq_iff_eq]; omega
            by_cases hcp : c % 2 = 1
            · have hcI : ((c : Int) % 2 == 1) = true := by rw [beq_iff_eq]; omega
              have HE := Lib.hid (HR2.out k c hcn (HCc.out k c hkp hcp))
              clear hkp hcp
              go_wp2_with fail
              go_roundw
              case rel => exact ⟨c + 1, by omega, by go_num, by rw [← HE.out]; exact hT9.out⟩
              case measure => simp [intOf]; omega
            · have hcI : ((c : Int) % 2 == 1) = false := by rw [beq_eq_false_iff_ne]; omega
              have hch := HCa.out k c hkp hcp
              clear hkp hcp
              by_cases hc2 : 0 < c
              · have e0 : decide (0 < (c : Int)) = true := by simp; omega
                by_cases hc3 : (c : Int) < (n : Int) - 1
                · have e1 : decide ((c : Int) < (n : Int) - 1) = true := by simp; omega
                  have HS1 := Lib.hid (fun X => HSt.out ((k : Int) / 2 * x + (c : Int) / 2 - 1) 1 X)
                  rw [show decide (0 < c ∧ (c : Int) < 2 * x) = true from decide_eq_true ⟨hc2, by omega⟩, Bool.true_and] at hch
                  generalize st ((k : Int) / 2 * x + (c : Int) / 2 - 1) 1 = s at HS1 hch
                  have Hch := Lib.hid hch
                  clear hch
                  go_wp2_with fail
                  refine (HS1.out _).mono ?_
                  rintro e v1 ⟨rfl, hb1⟩
                  have hT3 := Lib.hid (hT2.out.call hb1)
                  obtain ⟨p1, q1, r1⟩ := hT3.out.2.1.1
                  obtain ⟨⟨old3, hcell3⟩, hfz3⟩ := hT3.out.cell c hcn
                  by_cases hs : 0 ≤ s
                  · have hsI : decide (0 ≤ s) = true := decide_eq_true hs
                    have HE := Lib.hid (HR2.out k c hcn (Hch.out.trans hsI))
                    have hT4 := Lib.hid (hT3.out.put c 32 32 rfl)
                    go_wp2_with fail
                    go_roundw
                    case rel => exact ⟨c + 1, by omega, by go_num, by rw [← HE.out]; exact hT4.out⟩
                    case measure => simp [intOf]; omega
                  · have hsI : decide (0 ≤ s) = false := decide_eq_false hs
                    have HE := Lib.hid (HR5.out k c hcn (Hch.out.trans hsI))
                    go_wp2_with fail
                    go_roundw
                    case rel => exact ⟨c + 1, by omega, by go_num, by rw [← HE.out]; exact hT3.out⟩
                    case measure => simp [intOf]; omega
                · have e1 : decide ((c : Int) < (n : Int) - 1) = false := by simp; omega
                  rw [show decide (0 < c ∧ (c : Int) < 2 * x) = false from decide_eq_false (by omega), Bool.false_and] at hch
                  have HE := Lib.hid (HR5.out k c hcn hch)
                  clear hch
                  go_wp2_with fail
                  go_roundw
                  case rel => exact ⟨c + 1, by omega, by go_num, by rw [← HE.out]; exact hT2.out⟩
                  case measure => simp [intOf]; omega
              · have e0 : decide (0 < (c : Int)) = false := by simp; omega
                rw [show decide (0 < c ∧ (c : Int) < 2 * x) = false from decide_eq_false (by omega), Bool.false_and] at hch
                have HE := Lib.hid (HR5.out k c hcn hch)
                clear hch
                go_wp2_with fail
                go_roundw
                case rel => exact ⟨c + 1, by omega, by go_num, by rw [← HE.out]; exact hT2.out⟩
                case measure => simp [intOf]; omega
          · have hkI : ((k : Int) % 2 == 1) = false := by rw [beq_eq_false_iff_ne]; omega
            have hch := HCb.out k c hkp
            clear hkp
            by_cases hcp : c % 2 = 1
            · have hcI : ((c : Int) % 2 == 1) = true := by rw [beq_iff_eq]; omega
              by_cases hc2 : 0 < k
              · have e0 : decide (0 < (k : Int)) = true := by simp; omega
                by_cases hc3 : (k : Int) < 2 * y
                · have e1 : decide ((k : Int) < 2 * y) = true := by simp; omega
                  have HS1 := Lib.hid (fun X => HSt.out ((k : Int) / 2 * x + (c : Int) / 2 - x) 2 X)
                  rw [show decide (c % 2 = 1 ∧ 0 < k ∧ (k : Int) < 2 * y) = true from decide_eq_true ⟨hcp, hc2, hc3⟩, Bool.true_and] at hch
                  generalize st ((k : Int) / 2 * x + (c : Int) / 2 - x) 2 = s at HS1 hch
                  have Hch := Lib.hid hch
                  clear hch hcp
                  go_wp2_with fail
                  refine (HS1.out _).mono ?_
                  rintro e v1 ⟨rfl, hb1⟩
                  have hT3 := Lib.hid (hT2.out.call hb1)
                  obtain ⟨p1, q1, r1⟩ := hT3.out.2.1.1
                  obtain ⟨⟨old3, hcell3⟩, hfz3⟩ := hT3.out.cell c hcn
                  by_cases hs : 0 ≤ s
                  · have hsI : decide (0 ≤ s) = true := decide_eq_true hs
                    have HE := Lib.hid (HR2.out k c hcn (Hch.out.trans hsI))
                    have hT4 := Lib.hid (hT3.out.put c 32 32 rfl)
                    go_wp2_with fail
                    go_roundw
                    case rel => exact ⟨c + 1, by omega, by go_num, by rw [← HE.out]; exact hT4.out⟩
                    case measure => simp [intOf]; omega
                  · have hsI : decide (0 ≤ s) = false := decide_eq_false hs
                    have HE := Lib.hid (HR5.out k c hcn (Hch.out.trans hsI))
                    go_wp2_with fail
                    go_roundw
                    case rel => exact ⟨c + 1, by omega, by go_num, by rw [← HE.out]; exact hT3.out⟩
                    case measure => simp [intOf]; omega
                · have e1 : decide ((k : Int) < 2 * y) = false := by simp; omega
                  rw [show decide (c % 2 = 1 ∧ 0 < k ∧ (k : Int) < 2 * y) = false from decide_eq_false (by omega), Bool.false_and] at hch
                  have HE := Lib.hid (HR5.out k c hcn hch)
                  clear hch hcp
                  go_wp2_with fail
                  go_roundw
                  case rel => exact ⟨c + 1, by omega, by go_num, by rw [← HE.out]; exact hT2.out⟩
                  case measure => simp [intOf]; omega
              · have e0 : decide (0 < (k : Int)) = false := by simp; omega
                rw [show decide (c % 2 = 1 ∧ 0 < k ∧ (k : Int) < 2 * y) = false from decide_eq_false (by omega), Bool.false_and] at hch
                have HE := Lib.hid (HR5.out k c hcn hch)
                clear hch hcp
                go_wp2_with fail
                go_roundw
                case rel => exact ⟨c + 1, by omega, by go_num, by rw [← HE.out]; exact hT2.out⟩
                case measure => simp [intOf]; omega
            · have hcI : ((c : Int) % 2 == 1) = false := by rw [beq_eq_false_iff_ne]; omega
              rw [show decide (c % 2 = 1 ∧ 0 < k ∧ (k : Int) < 2 * y) = false from decide_eq_false (by omega), Bool.false_and] at hch
              have HE := Lib.hid (HR5.out k c hcn hch)
              clear hch hcp
              go_wp2_with fail
              go_roundw
              case rel => exact ⟨c + 1, by omega, by go_num, by rw [← HE.out]; exact hT2.out⟩
              case measure => simp [intOf]; omega
        · obtain rfl : c = n := by omega
          have hcv := hT.out.conv
          rw [HRa.out] at hcv
          have hown := hT.out.1.2.2.2
          have hbz2 := hT.out.1.2.2.1
          have hxe := Lib.hid hT.out.2.1
          have hTL := Lib.hid hT.out.1
          go_wp2_with (at_builtin; refine wpList_append_lies _ rfl (.tmp 111) (.tmp 114) 26 rfl (W.heap.size + 1) 9 j0 _ 1 16 Try.underlying26 hj0 hy0 hy1 hy2 rfl (by omega) _ L.length _ rfl (hown.alloc _) ⟨wr.heap.size, 0, none⟩ 1 1 (scells [ln k]) rfl rfl (hexP.news_eq (str_cell rfl) (heap_alloc_new wr _)) (oneCellS _) (by omega) (by unfold maxLen; omega) (by omega) (by simp; omega) (wr.heap.size + 1) (by simp) ?_; intro gg cap w3 hown' hgrow hat hlt2; clear hat hlt2)
          have hnx := hTL.out.app hown' hgrow
          go_roundw
          case rel => exact ⟨k + 1, by omega, by go_num, by rw [HL1.out]; exact hnx.1, mbox_keep hxe.out (Nat.lt_succ_self _) hnx.2⟩
          case measure => simp [intOf]; omega
    · obtain rfl : k = m := by omega
      have hd1 : 2 * y < (k : Int) := by omega
      go_wp2_with fail
      go_ret
      exact HK.out _ _ _ _ (by rw [hend.out]) (by rw [hend.out]; exact hol.out.2.2.2) hol.out.2.1 hol.out.1
theorem mazeLines_any (x y z : Int) (W : World) :
    Calls Try.prog 5 #[.agg #[.int .i64 x, .int .i64 y, .int .i64 z]] W (Txs (mlL x y z) W) := by
  by_cases hv : OkM x y z
  · exact mazeLines_good x y z W hv
  · exact mazeLines_bad x y z W hv
end Go.Proofs.Ytmmdngfhfceefaa.linM
