/- The contracts of the program's ends of a gap. -/
import Derived.Test.YthakbjdkcdppjaaPrgG
import Derived.Test.YthakbjdkcdppjaaBase
import Derived.Test.YthakbjdkcdppjaaGridH
namespace Go.Proofs.Ythakbjdkcdppjaa.gridI
open Go.ChangeShapes Go.WideShapes Go.ChangeAt Go.RowKit
open draw gridP gridC gridE gridH
set_option linter.unusedVariables false

theorem endsOf_bad (w h g : Int) (W : World) (hn : ¬ (1 ≤ w ∧ w ≤ 4 ∧ 1 ≤ h ∧ h ≤ 4)) :
    Calls Try.prog 29 #[.agg #[.int .i64 w, .int .i64 h], .int .i64 g] W (Nm2 (-1) (-1) W) := by
  have HK := @Lib.hid _ (fun w' b => @nm2_mk (-1) (-1) (-1) (-1) W w' rfl rfl b)
  have HB := Lib.hid below_box
  have HN := Lib.hid hn
  clear hn
  go_enter Try.func29, Try.ntmps29
  go_wp2_with fail
  refine (ok_no w h _ HN.out).mono ?_
  rintro e w1 ⟨rfl, hb⟩
  have hb1 := below_call (HB.out _ _) hb
  go_wp2_with fail
  go_ret2
  exact HK.out _ hb1

theorem endsOf_out (w h g : Int) (W : World) (h1 : 1 ≤ w) (h2 : w ≤ 4) (h3 : 1 ≤ h) (h4 : h ≤ 4) (hn : ¬ (0 ≤ g ∧ g < (w - 1) * h + w * (h - 1))) :
    Calls Try.prog 29 #[.agg #[.int .i64 w, .int .i64 h], .int .i64 g] W (Nm2 (-1) (-1) W) := by
  have HK := @Lib.hid _ (fun w' b => @nm2_mk (-1) (-1) (-1) (-1) W w' rfl rfl b)
  have HB := Lib.hid below_box
  have HN := Lib.hid (fun X => hasGap_no w h g X h1 h2 h3 h4 hn)
  clear hn
  go_enter Try.func29, Try.ntmps29
  go_wp2_with fail
  refine (ok_yes w h _ h1 h2 h3 h4).mono ?_
  rintro e w1 ⟨rfl, hb⟩
  have hb1 := below_call (HB.out _ _) hb
  have hx := Lib.hid ((box_new w h W _).call hb)
  obtain ⟨c0, c1⟩ := hx.out.1
  clear hb
  go_wp2_with fail
  refine (HN.out _).mono ?_
  rintro e w2 ⟨rfl, hb⟩
  have hb2 := below_call hb1 hb
  go_wp2_with fail
  go_ret2
  exact HK.out _ hb2

theorem endsOf_in (w h g : Int) (W : World) (h1 : 1 ≤ w) (h2 : w ≤ 4) (h3 : 1 ≤ h) (h4 : h ≤ 4) (g0 : 0 ≤ g) (g1 : g < (w - 1) * h + w * (h - 1)) :
    Calls Try.prog 29 #[.agg #[.int .i64 w, .int .i64 h], .int .i64 g] W (Nm2 (eaZ w h g) (ebZ w h g) W) := by
  have HK := @Lib.hid _ (fun w' a b (e : a = eaZ w h g) (e' : b = ebZ w h g) c => @nm2_mk a b _ _ W w' e e' c)
  have HB := Lib.hid below_box
  obtain ⟨-, ⟨p1, p2⟩, ⟨p3, p4⟩⟩ := mul_bd w h h1 h2 h3 h4
  by_cases ge : (w - 1) * h ≤ g
  · have HA := Lib.hid (show eaZ w h g = g - (w - 1) * h by unfold eaZ; rw [if_pos ⟨h1, h2, h3, h4⟩, if_pos ⟨g0, g1⟩, if_neg (by omega)])
    have HZ := Lib.hid (show ebZ w h g = g - (w - 1) * h + w by unfold ebZ; rw [if_pos ⟨h1, h2, h3, h4⟩, if_pos ⟨g0, g1⟩, if_neg (by omega)])
    go_enter Try.func29, Try.ntmps29
    go_wp2_with fail
    refine (ok_yes w h _ h1 h2 h3 h4).mono ?_
    rintro e w1 ⟨rfl, hb⟩
    have hb1 := below_call (HB.out _ _) hb
    have hx := Lib.hid ((box_new w h W _).call hb)
    obtain ⟨c0, c1⟩ := hx.out.1
    clear hb
    go_wp2_with fail
    refine (hasGap_yes w h g _ h1 h2 h3 h4 g0 g1).mono ?_
    rintro e w2 ⟨rfl, hb⟩
    have hb2 := below_call hb1 hb
    have hx2 := Lib.hid (hx.out.call hb)
    clear hb hx c0 c1 hb1
    obtain ⟨c0, c1⟩ := hx2.out.1
    go_wp2_with fail
    refine (eastGaps_any w h _ h1 h2 h3 h4).mono ?_
    rintro e w3 ⟨rfl, hb⟩
    have hb3 := below_call hb2 hb
    have hx3 := Lib.hid (hx2.out.call hb)
    clear hb hx2 c0 c1 hb2
    obtain ⟨c0, c1⟩ := hx3.out.1
    go_wp2_with fail
    refine (eastGaps_any w h _ h1 h2 h3 h4).mono ?_
    rintro e w4 ⟨rfl, hb⟩
    have hb4 := below_call hb3 hb
    have hx4 := Lib.hid (hx3.out.call hb)
    clear hb hx3 c0 c1 hb3
    obtain ⟨c0, c1⟩ := hx4.out.1
    go_wp2_with fail
    go_quiet (fail)
    go_wp2_with fail
    go_ret2
    exact HK.out _ _ _ HA.out.symm (by rw [HZ.out]; try rw [IntWalk.i64_in _ (by omega)]) (below_draws hb4 _)
  · have HA := Lib.hid (show eaZ w h g = g + g / (w - 1) by unfold eaZ; rw [if_pos ⟨h1, h2, h3, h4⟩, if_pos ⟨g0, g1⟩, if_pos (by omega)])
    have HZ := Lib.hid (show ebZ w h g = g + g / (w - 1) + 1 by unfold ebZ; rw [if_pos ⟨h1, h2, h3, h4⟩, if_pos ⟨g0, g1⟩, if_pos (by omega)])
    have w1 : w ≠ 1 := by rintro rfl; omega
    obtain rfl | rfl | rfl : w = 2 ∨ w = 3 ∨ w = 4 := by omega
    all_goals
      clear w1
      go_enter Try.func29, Try.ntmps29
      go_wp2_with fail
      refine (ok_yes _ h _ h1 h2 h3 h4).mono ?_
      rintro e w1 ⟨rfl, hb⟩
      have hb1 := below_call (HB.out _ _) hb
      have hx := Lib.hid ((box_new _ h W _).call hb)
      obtain ⟨c0, c1⟩ := hx.out.1
      clear hb
      go_wp2_with fail
      refine (hasGap_yes _ h g _ h1 h2 h3 h4 g0 g1).mono ?_
      rintro e w2 ⟨rfl, hb⟩
      have hb2 := below_call hb1 hb
      have hx2 := Lib.hid (hx.out.call hb)
      clear hb hx c0 c1 hb1
      obtain ⟨c0, c1⟩ := hx2.out.1
      go_wp2_with fail
      refine (eastGaps_any _ h _ h1 h2 h3 h4).mono ?_
      rintro e w3 ⟨rfl, hb⟩
      have hb3 := below_call hb2 hb
      have hx3 := Lib.hid (hx2.out.call hb)
      clear hb hx2 c0 c1 hb2
      obtain ⟨c0, c1⟩ := hx3.out.1
      go_wp2_with fail
      go_ret2
      exact HK.out _ _ _ (by rw [HA.out]; try omega) (by rw [HZ.out]; try omega) hb3

theorem endsOf_any (w h g : Int) (W : World) :
    Calls Try.prog 29 #[.agg #[.int .i64 w, .int .i64 h], .int .i64 g] W (Nm2 (eaZ w h g) (ebZ w h g) W) := by
  by_cases h1 : 1 ≤ w ∧ w ≤ 4 ∧ 1 ≤ h ∧ h ≤ 4
  · by_cases h2 : 0 ≤ g ∧ g < (w - 1) * h + w * (h - 1)
    · exact endsOf_in w h g W h1.1 h1.2.1 h1.2.2.1 h1.2.2.2 h2.1 h2.2
    · rw [show eaZ w h g = -1 by unfold eaZ; rw [if_pos h1, if_neg h2], show ebZ w h g = -1 by unfold ebZ; rw [if_pos h1, if_neg h2]]
      exact endsOf_out w h g W h1.1 h1.2.1 h1.2.2.1 h1.2.2.2 h2
  · rw [show eaZ w h g = -1 by unfold eaZ; rw [if_neg h1], show ebZ w h g = -1 by unfold ebZ; rw [if_neg h1]]
    exact endsOf_bad w h g W h1
end Go.Proofs.Ythakbjdkcdppjaa.gridI
