/- The contract of the program's neighbor of a cell. -/
import Derived.Test.YtomjfcmaoeoigaaGridI
namespace Go.Proofs.Ytomjfcmaoeoigaa.gridI
open Go.ChangeShapes Go.WideShapes Go.ChangeAt Go.RowKit
open draw gridP gridC
set_option linter.unusedVariables false

theorem neighbor_bad (w h k d : Int) (W : World) (hn : ¬ (1 ≤ w ∧ w ≤ 4 ∧ 1 ≤ h ∧ h ≤ 4)) :
    Calls Try.prog 56 #[.agg #[.int .i64 w, .int .i64 h], .int .i64 k, .int .i64 d] W (Nm (-1) W) := by
  have HK := @Lib.hid _ (fun w' b => @nm_mk (-1) (-1) W w' rfl b)
  have HB := Lib.hid below_box
  have HN := Lib.hid hn
  clear hn
  go_enter Try.func56, Try.ntmps56
  go_wp2_with fail
  refine (ok_no w h _ HN.out).mono ?_
  rintro e w1 ⟨rfl, hb⟩
  have hb1 := below_call (HB.out _ _) hb
  go_wp2_with fail
  go_ret
  exact HK.out _ hb1

theorem neighbor_out (w h k d : Int) (W : World) (h1 : 1 ≤ w) (h2 : w ≤ 4) (h3 : 1 ≤ h) (h4 : h ≤ 4) (hn : ¬ (0 ≤ k ∧ k < w * h)) :
    Calls Try.prog 56 #[.agg #[.int .i64 w, .int .i64 h], .int .i64 k, .int .i64 d] W (Nm (-1) W) := by
  have HK := @Lib.hid _ (fun w' b => @nm_mk (-1) (-1) W w' rfl b)
  have HB := Lib.hid below_box
  have HN := Lib.hid hn
  clear hn
  go_enter Try.func56, Try.ntmps56
  go_wp2_with fail
  refine (ok_yes w h _ h1 h2 h3 h4).mono ?_
  rintro e w1 ⟨rfl, hb⟩
  have hb1 := below_call (HB.out _ _) hb
  obtain ⟨hc, hf⟩ := bcell hb
  go_wp2_with fail
  refine (hasCell_no w h k _ h1 h2 h3 h4 HN.out).mono ?_
  rintro e w2 ⟨rfl, hb'⟩
  have hb2 := below_call hb1 hb'
  go_wp2_with fail
  go_ret
  exact HK.out _ hb2

set_option maxHeartbeats 1000000 in
theorem neighbor_off (w h k d : Int) (W : World) (h1 : 1 ≤ w) (h2 : w ≤ 4) (h3 : 1 ≤ h) (h4 : h ≤ 4) (k0 : 0 ≤ k) (k1 : k < w * h) (hd : ¬ (0 ≤ d ∧ d ≤ 3)) :
    Calls Try.prog 56 #[.agg #[.int .i64 w, .int .i64 h], .int .i64 k, .int .i64 d] W (Nm (-1) W) := by
  have HK := @Lib.hid _ (fun w' b => @nm_mk (-1) (-1) W w' rfl b)
  have HB := Lib.hid below_box
  have d0 : (d == 0) = false := by simp; omega
  have d1 : (d == 1) = false := by simp; omega
  have d2 : (d == 2) = false := by simp; omega
  have d3 : (d == 3) = false := by simp; omega
  clear hd
  obtain rfl | rfl | rfl | rfl : w = 1 ∨ w = 2 ∨ w = 3 ∨ w = 4 := by omega
  all_goals
    go_enter Try.func56, Try.ntmps56
    go_wp2_with fail
    refine (ok_yes _ h _ h1 h2 h3 h4).mono ?_
    rintro e w1 ⟨rfl, hb⟩
    have hb1 := below_call (HB.out _ _) hb
    have hx := Lib.hid ((box_new _ h W _).call hb)
    clear hb
    obtain ⟨c0, c1⟩ := hx.out.1
    go_wp2_with fail
    refine (hasCell_yes _ h k _ h1 h2 h3 h4 k0 k1).mono ?_
    rintro e w2 ⟨rfl, hb'⟩
    have hb2 := below_call hb1 hb'
    have hx' := Lib.hid (hx.out.call hb')
    clear hb' hb1 hx c0 c1
    obtain ⟨c0, c1⟩ := hx'.out.1
    clear hx'
    go_wp2_with fail
    go_quiet (fail)
    go_wp2_with fail
    go_ret
    exact HK.out _ (below_draws hb2 _)

set_option maxHeartbeats 2000000 in
theorem neighbor_on (w h k d : Int) (W : World) (h1 : 1 ≤ w) (h2 : w ≤ 4) (h3 : 1 ≤ h) (h4 : h ≤ 4) (k0 : 0 ≤ k) (k1 : k < w * h) (hd : 0 ≤ d ∧ d ≤ 3) :
    Calls Try.prog 56 #[.agg #[.int .i64 w, .int .i64 h], .int .i64 k, .int .i64 d] W (Nm (nbZ w h k d) W) := by
  have HK := @Lib.hid _ (fun w' a (e : a = nbZ w h k d) b => @nm_mk a (nbZ w h k d) W w' e b)
  have HB := Lib.hid below_box
  obtain rfl | rfl | rfl | rfl : w = 1 ∨ w = 2 ∨ w = 3 ∨ w = 4 := by omega
  all_goals
    obtain rfl | rfl | rfl | rfl : d = 0 ∨ d = 1 ∨ d = 2 ∨ d = 3 := by omega
    all_goals
      clear hd
      go_enter Try.func56, Try.ntmps56
      go_wp2_with fail
      refine (ok_yes _ h _ h1 h2 h3 h4).mono ?_
      rintro e w1 ⟨rfl, hb⟩
      have hb1 := below_call (HB.out _ _) hb
      have hx := Lib.hid ((box_new _ h W _).call hb)
      clear hb
      obtain ⟨c0, c1⟩ := hx.out.1
      go_wp2_with fail
      refine (hasCell_yes _ h k _ h1 h2 h3 h4 k0 k1).mono ?_
      rintro e w2 ⟨rfl, hb'⟩
      have hb2 := below_call hb1 hb'
      have hx' := Lib.hid (hx.out.call hb')
      clear hb' hb1 hx c0 c1
      obtain ⟨c0, c1⟩ := hx'.out.1
      go_wp2_with fail
      go_quiet (fail)
      go_wp2_with fail
      refine (hasPlace_any _ h _ _ _).mono ?_
      rintro e w3 (⟨hp, rfl, hb'⟩ | ⟨hp, rfl, hb'⟩)
      all_goals
        have hb3 := below_call (below_draws hb2 _) hb'
        have hx'' := Lib.hid ((hx'.out.draws _).call hb')
        clear c0 c1 hb' hb2 hx'
        obtain ⟨c0, c1⟩ := hx''.out.1
        go_wp2_with fail
        go_ret
        refine HK.out _ _ ?_ hb3
        have hp' := hp.out
        unfold nbZ
        repeat' split
        all_goals omega
end Go.Proofs.Ytomjfcmaoeoigaa.gridI
