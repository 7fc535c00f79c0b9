/- The contracts of the model's functions on dead ends. -/
import Derived.Test.YtcoikcnijaniaaaDeads
import Derived.Test.YtcoikcnijaniaaaRchM
import Derived.Test.YtcoikcnijaniaaaListK
namespace Go.Proofs.Ytcoikcnijaniaaa.deadM
open Go.ChangeShapes Go.WideShapes Go.ChangeAt Go.RowKit
open draw gridP gridC gridE bitP mazeP mazeC mazeM mazeR mazeS intsP reachP reachM reachN reachD intA listK forest deadP deadR
set_option linter.unusedVariables false

/-- How many cells a grid has, 0 where there is no such grid. -/
def clO (x y : Int) : Int := if OkZ x y then x * y else 0
theorem cellsO (x y : Int) (X : World) : Calls Try.prog 11 #[.agg #[.int .i64 x, .int .i64 y]] X (Nm (clO x y) X) := by
  unfold clO; split
  · rename_i h; exact gridS.countCells_yes x y X h.1 h.2.1 h.2.2.1 h.2.2.2
  · rename_i h; exact gridS.countCells_no x y X h
theorem clO_yes {x y : Int} (hk : OkZ x y) : clO x y = (cN x y : Int) := by unfold clO; rw [if_pos hk]; exact (nn3 hk).1
/-- The rounds that are left are enough. -/
def FQ (x y z : Int) (f : Nat) : Prop := OkM x y z → pcN z.toNat (gN x y) ≤ f
theorem fq_start (x y z : Int) : FQ x y z 24 := fun h => by
  obtain ⟨h1, h2, h3, h4⟩ := h.1
  have := gps_bd h1 h2 h3 h4
  have := pcN_le z.toNat (gN x y)
  unfold gN at *
  omega
theorem wl_le4 (x y z k : Int) : (wlZ x y z k).length ≤ 4 := wlN_len x y z k 4

theorem deadEnds_bad (x y z : Int) (W : World) (hv : ¬ OkM x y z) :
    Calls Try.prog 65 #[.agg #[.int .i64 x, .int .i64 y, .int .i64 z]] W (Ints (deL x y z) W) := by
  have HO := Lib.hid (fun X => ok_any x y z X)
  rw [show okB x y z = false from decide_eq_false hv] at HO
  have HC := Lib.hid (fun X => cellsO x y X)
  have hend : Hid (deL x y z = []) := Lib.hid (by unfold deL; rw [if_neg hv])
  have HK := @Lib.hid _ (fun w' v n base => @ints_mk (deL x y z) W w' v n base)
  have HOl := Lib.hid (fun T => @ol_new W (W.alloc (.cells #[.int .i64 x, .int .i64 y, .int .i64 z] T)) (below_box _ _) (by simp))
  have HX := Lib.hid (fun T => mbox_new x y z W T)
  clear hv
  generalize clO x y = C at *
  go_enter Try.func65, Try.ntmps65
  go_wp2_with fail
  have hbs : (W.alloc (.cells #[.int .i64 x, .int .i64 y, .int .i64 z] 27)).heap.size = W.heap.size + 1 := by simp
  have hol0 := Lib.hid (HOl.out 27)
  have hx0 := Lib.hid ((HX.out 27).call (below_box _ (.cells #[] 3)))
  rw [hbs] at hol0
  clear HOl HX hbs
  go_loopw [3, 4] (fun u3 u4 wr => u3 = .slice (some ⟨W.heap.size + 1, 0, none⟩) 0 0 ∧ u4 = .int .i64 0 ∧ OL W (W.heap.size + 1) [] (.slice (some ⟨W.heap.size + 1, 0, none⟩) 0 0) wr ∧ MBox W.heap.size x y z wr) (fun _ _ _ => 0)
  case atStart => exact ⟨rfl, rfl, hol0.out, hx0.out⟩
  case round =>
    clear hol0 hx0
    obtain ⟨rfl, rfl, hol0, hx0⟩ := hrel
    have hol := Lib.hid hol0
    have hx := Lib.hid hx0
    obtain ⟨m0, m1, m2⟩ := hx0.1
    clear hol0 hx0
    go_wp2_with fail
    refine (HC.out _).mono ?_
    rintro e w1 ⟨rfl, hb⟩
    have hol1 := Lib.hid (hol.out.call hb)
    have hx1 := Lib.hid (hx.out.call hb)
    clear hb hol hx m0 m1 m2
    obtain ⟨m0, m1, m2⟩ := hx1.out.1
    by_cases hC : 0 < C
    · have hd : decide (0 < C) = true := decide_eq_true hC
      go_wp2_with fail
      refine (HO.out _).mono ?_
      rintro e w2 ⟨rfl, hb⟩
      have hol2 := Lib.hid (hol1.out.call hb)
      clear hb hol1 hx1
      go_wp2_with fail
      go_ret
      exact HK.out _ _ _ _ (by rw [hend.out]) (by rw [hend.out]; exact hol2.out.2.2.2) hol2.out.2.1 hol2.out.1
    · have hd : decide (0 < C) = false := decide_eq_false hC
      go_wp2_with fail
      go_ret
      exact HK.out _ _ _ _ (by rw [hend.out]) (by rw [hend.out]; exact hol1.out.2.2.2) hol1.out.2.1 hol1.out.1

set_option maxRecDepth 100000 in
theorem deadEnds_good (x y z : Int) (W : World) (hv : OkM x y z) :
    Calls Try.prog 65 #[.agg #[.int .i64 x, .int .i64 y, .int .i64 z]] W (Ints (deL x y z) W) := by
  obtain ⟨i0, hi0, hz0, hz1, hz2⟩ := info_parts info_int
  have HO := Lib.hid (fun X => ok_any x y z X)
  rw [show okB x y z = true from decide_eq_true hv] at HO
  have HC := Lib.hid (fun X => cellsO x y X)
  rw [clO_yes hv.1] at HC
  have HWs := Lib.hid (fun k X => waysFrom_any x y z k X)
  have hend : Hid (deL x y z = clN (deB x y z) (cN x y)) := Lib.hid (by unfold deL; rw [if_pos hv])
  have HK := @Lib.hid _ (fun w' v n base => @ints_mk (deL x y z) W w' v n base)
  have HOl := Lib.hid (fun T => @ol_new W (W.alloc (.cells #[.int .i64 x, .int .i64 y, .int .i64 z] T)) (below_box _ _) (by simp))
  have HX := Lib.hid (fun T => mbox_new x y z W T)
  have hN16 := (nn3 hv.1).2.2
  have hN1 := (nn3 hv.1).2.1
  have HStep : Hid (∀ k : Nat, clN (deB x y z) (k + 1) = if deB x y z k = true then clN (deB x y z) k ++ [(k : Int)] else clN (deB x y z) k) := fun k => rfl
  have HLen := Lib.hid (fun k => clN_len (deB x y z) k)
  have HMax := Lib.hid (fun k => cnt_max (deB x y z) k)
  have HDec : Hid (∀ k : Nat, (((wlZ x y z k).length : Int) == 1) = deB x y z k) := fun k => by unfold deB; rw [Bool.eq_iff_iff]; simp <;> omega
  have HW4 := Lib.hid (fun k => wl_le4 x y z k)
  clear hv
  generalize cN x y = N at *
  go_enter Try.func65, Try.ntmps65
  go_wp2_with fail
  have hbs : (W.alloc (.cells #[.int .i64 x, .int .i64 y, .int .i64 z] 27)).heap.size = W.heap.size + 1 := by simp
  have hol0 := Lib.hid (HOl.out 27)
  have hx0 := Lib.hid ((HX.out 27).call (below_box _ (.cells #[] 3)))
  rw [hbs] at hol0
  clear HOl HX hbs
  go_loopw [3, 4] (fun u3 u4 wr => ∃ k : Nat, k ≤ N ∧ u4 = .int .i64 k ∧ OL W (W.heap.size + 1) (clN (deB x y z) k) u3 wr ∧ MBox W.heap.size x y z wr) (fun _ u4 _ => N - (intOf u4).toNat)
  case atStart => exact ⟨0, Nat.zero_le _, rfl, hol0.out, hx0.out⟩
  case round =>
    clear hol0 hx0
    obtain ⟨k, hk, rfl, hol0, hx0⟩ := hrel
    have hol := Lib.hid hol0
    have hx := Lib.hid hx0
    obtain ⟨A3, c3, rfl⟩ := hol0.form
    have hll : (clN (deB x y z) k).length ≤ 16 := by have := HLen.out k; have := HMax.out k; omega
    obtain ⟨m0, m1, m2⟩ := hx0.1
    clear hol0 hx0
    have HS1 := Lib.hid (HStep.out k)
    have HD1 := Lib.hid (HDec.out k)
    have HW1 := Lib.hid (HWs.out k)
    have h4 := HW4.out k
    go_wp2_with fail
    refine (HC.out _).mono ?_
    rintro e w1 ⟨rfl, hb⟩
    have hol1 := Lib.hid (hol.out.call hb)
    have hx1 := Lib.hid (hx.out.call hb)
    clear hb hol hx m0 m1 m2
    obtain ⟨m0, m1, m2⟩ := hx1.out.1
    by_cases hkN : k < N
    · have hd : decide ((k : Int) < (N : Int)) = true := by simp; omega
      go_wp2_with fail
      refine (HO.out _).mono ?_
      rintro e w2 ⟨rfl, hb⟩
      have hol2 := Lib.hid (hol1.out.call hb)
      have hx2 := Lib.hid (hx1.out.call hb)
      clear hb hol1 hx1 m0 m1 m2
      obtain ⟨m0, m1, m2⟩ := hx2.out.1
      go_wp2_with fail
      refine (HW1.out _).mono ?_
      rintro e w3 ⟨vw, rfl, ho, hb⟩
      have hol3 := Lib.hid (hol2.out.call hb)
      have hx3 := Lib.hid (hx2.out.call hb)
      obtain ⟨Aw, cw, rfl⟩ := own_form ho
      have hbz := hol3.out.2.2.1
      clear hb ho hol2 hx2 m0 m1 m2 HDec HStep HLen HMax HW4
      generalize (wlZ x y z k).length = n at *
      generalize deB x y z k = bp at *
      generalize hL : clN (deB x y z) k = L at *
      cases bp with
      | true =>
        have hcond := HD1.out
        have hS2 := HS1.out
        rw [if_pos rfl] at hS2
        have HS2 := Lib.hid hS2
        clear hS2 HS1 HD1
        go_wp2_with (at_builtin; refine wpList_append_lies _ rfl (.tmp 22) (.tmp 24) 32 rfl (W.heap.size + 1) 3 i0 _ 1 8 Try.underlying32 hi0 hz0 hz1 hz2 rfl (by omega) _ (L.length) _ rfl (hol3.out.2.2.2.alloc _) ⟨w3.heap.size, 0, none⟩ 1 1 (icells [(k : Int)]) rfl rfl (news_eqI rfl (heap_alloc_new w3 _)) (oneCellI _) (by omega) (by unfold maxLen; omega) (by omega) (by simp; omega) (w3.heap.size + 1) (by simp) ?_; intro gg cap w3 hown' hgrow hat hlt2; clear hlt2; have HAt := Lib.hid hat; clear hat)
        have hn2 := hol3.out.app hown' hgrow
        go_roundw
        case rel => exact ⟨k + 1, by omega, by go_num, by rw [HS2.out]; exact hn2.1, mbox_keep hx3.out (Nat.lt_succ_self _) hn2.2⟩
        case measure => simp [intOf]; omega
      | false =>
        have hcond := HD1.out
        have hS2 := HS1.out
        rw [if_neg (by simp)] at hS2
        have HS2 := Lib.hid hS2
        clear hS2 HS1 HD1
        go_wp2_with fail
        go_roundw
        case rel => exact ⟨k + 1, by omega, by go_num, by rw [HS2.out]; exact hol3.out, hx3.out⟩
        case measure => simp [intOf]; omega
    · obtain rfl : k = N := by omega
      have hd : decide ((k : Int) < (k : Int)) = false := by simp
      rw [← hend.out] at hol1 ⊢
      clear HS1 HD1 hll
      go_wp2_with fail
      go_ret
      exact HK.out _ _ _ _ rfl hol1.out.2.2.2 hol1.out.2.1 hol1.out.1

theorem deadEnds_any (x y z : Int) (W : World) :
    Calls Try.prog 65 #[.agg #[.int .i64 x, .int .i64 y, .int .i64 z]] W (Ints (deL x y z) W) := by
  by_cases hv : OkM x y z
  · exact deadEnds_good x y z W hv
  · exact deadEnds_bad x y z W hv

theorem bs_bd (x y z : Int) : ∀ k : Nat, -(2 * (k : Int)) ≤ bsN x y z k ∧ bsN x y z k ≤ 4 * (k : Int)
  | 0 => by unfold bsN; omega
  | k + 1 => by
    have h1 := bs_bd x y z k
    have h2 := wl_le4 x y z k
    unfold bsN
    split <;> omega

theorem wl_dir (x y z k : Int) : ∀ d ∈ wlZ x y z k, 0 ≤ d ∧ d ≤ 3 := by
  have key : ∀ n : Nat, ∀ d ∈ wlN x y z k n, 0 ≤ d ∧ d < n := by
    intro n
    induction n with
    | zero => intro d hd; cases hd
    | succ n ih =>
      intro d hd
      unfold wlN at hd
      split at hd
      · rcases List.mem_append.1 hd with h | h
        · have := ih d h; omega
        · have : d = (n : Int) := by simpa using h
          omega
      · have := ih d hd; omega
  intro d hd
  have := key 4 d hd
  omega

end Go.Proofs.Ytcoikcnijaniaaa.deadM
