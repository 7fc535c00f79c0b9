/- The contracts of the model's gap of a cell and ends of a gap. -/
import Derived.Test.YtomjfcmaoeoigaaGridT
import Derived.Test.YtomjfcmaoeoigaaGridE
namespace Go.Proofs.Ytomjfcmaoeoigaa.gridS
open Go.ChangeShapes Go.WideShapes Go.ChangeAt Go.RowKit
open draw gridP gridC gridE
set_option linter.unusedVariables false

theorem gapAt_none (w h k d v : Int) (W : World) (hv : nbZ w h k d = v) (hn : v < 0) :
    Calls Try.prog 59 #[.agg #[.int .i64 w, .int .i64 h], .int .i64 k, .int .i64 d] W (Nm (-1) W) := by
  have HK := @Lib.hid _ (fun w' b => @nm_mk (-1) (-1) W w' rfl b)
  have HB := Lib.hid below_box
  have HN := Lib.hid (fun X => neighbor_any w h k d X)
  rw [hv] at HN
  clear hv
  go_enter Try.func59, Try.ntmps59
  go_wp2_with fail
  refine (HN.out _).mono ?_
  rintro e w1 ⟨rfl, hb⟩
  have hb1 := below_call (HB.out _ _) hb
  go_wp2_with fail
  go_ret
  exact HK.out _ hb1

set_option maxHeartbeats 2000000 in
theorem gapAt_some (w h k d v : Int) (W : World) (hv : nbZ w h k d = v) (hn : 0 ≤ v) (hn' : v < 16) (k0 : 0 ≤ k) (k1 : k < 16) (h1 : 1 ≤ w) (h2 : w ≤ 4) (h3 : 1 ≤ h) (h4 : h ≤ 4) :
    Calls Try.prog 59 #[.agg #[.int .i64 w, .int .i64 h], .int .i64 k, .int .i64 d] W (Nm (gpZ w h k d) W) := by
  have HK := @Lib.hid _ (fun w' a (e : a = gpZ w h k d) b => @nm_mk a (gpZ w h k d) W w' e b)
  have HB := Lib.hid below_box
  have HN := Lib.hid (fun X => neighbor_any w h k d X)
  rw [hv] at HN
  have HE : Hid ((d = 1 ∨ d = 3) → gpZ w h k d = min k v - min k v / w) := fun h => by unfold gpZ; rw [hv, if_neg (by omega), if_pos h]
  have HS : Hid (¬ (d = 1 ∨ d = 3) → gpZ w h k d = (w - 1) * h + min k v) := fun h => by unfold gpZ; rw [hv, if_neg (by omega), if_neg h]
  obtain ⟨-, ⟨p1, p2⟩, ⟨p3, p4⟩⟩ := mul_bd w h h1 h2 h3 h4
  clear hv
  by_cases d1 : d = 1
  · have d1' : (d == 1) = true := by simpa using d1
    have D := Lib.hid d1
    clear d1
    obtain rfl | rfl | rfl | rfl : w = 1 ∨ w = 2 ∨ w = 3 ∨ w = 4 := by omega
    all_goals
      go_enter Try.func59, Try.ntmps59
      go_wp2_with fail
      refine (HN.out _).mono ?_
      rintro e w1 ⟨rfl, hb⟩
      have hb1 := below_call (HB.out _ _) hb
      have hx := Lib.hid ((box_new _ h W _).call hb)
      obtain ⟨c0, c1⟩ := hx.out.1
      clear hb
      go_wp2_with fail
      all_goals
        go_quiet (fail)
        go_wp2_with fail
        go_ret
        exact HK.out _ _ (by rw [HE.out (.inl D.out)]; omega) (below_draws hb1 _)
  · have d1' : (d == 1) = false := by simpa using d1
    by_cases d3 : d = 3
    · have d3' : (d == 3) = true := by simpa using d3
      have D := Lib.hid d3
      clear d3 d1
      obtain rfl | rfl | rfl | rfl : w = 1 ∨ w = 2 ∨ w = 3 ∨ w = 4 := by omega
      all_goals
        go_enter Try.func59, Try.ntmps59
        go_wp2_with fail
        refine (HN.out _).mono ?_
        rintro e w1 ⟨rfl, hb⟩
        have hb1 := below_call (HB.out _ _) hb
        have hx := Lib.hid ((box_new _ h W _).call hb)
        obtain ⟨c0, c1⟩ := hx.out.1
        clear hb
        go_wp2_with fail
        all_goals
          go_quiet (fail)
          go_wp2_with fail
          go_ret
          exact HK.out _ _ (by rw [HE.out (.inr D.out)]; omega) (below_draws hb1 _)
    · have d3' : (d == 3) = false := by simpa using d3
      have D := Lib.hid (fun h : d = 1 ∨ d = 3 => h.elim d1 d3)
      clear d3 d1
      have CE := Lib.hid (fun X => east_any w h X h1 h2 h3 h4)
      go_enter Try.func59, Try.ntmps59
      go_wp2_with fail
      refine (HN.out _).mono ?_
      rintro e w1 ⟨rfl, hb⟩
      have hb1 := below_call (HB.out _ _) hb
      have hx := Lib.hid ((box_new w h W _).call hb)
      obtain ⟨c0, c1⟩ := hx.out.1
      clear hb
      go_wp2_with fail
      all_goals
        refine (CE.out _).mono ?_
        rintro e w2 ⟨rfl, hb⟩
        have hb2 := below_call hb1 hb
        go_wp2_with fail
        go_ret
        exact HK.out _ _ (by rw [HS.out D.out]; omega) hb2

theorem gapAt_any (w h k d : Int) (W : World) :
    Calls Try.prog 59 #[.agg #[.int .i64 w, .int .i64 h], .int .i64 k, .int .i64 d] W (Nm (gpZ w h k d) W) := by
  by_cases hn : nbZ w h k d < 0
  · have e : gpZ w h k d = -1 := by unfold gpZ; rw [if_pos hn]
    rw [e]; exact gapAt_none w h k d _ W rfl hn
  · obtain ⟨⟨a, b, c, e⟩, ⟨k0, k1⟩, hd, n0, n1⟩ := nb_some hn
    have hm := (mul_bd w h a b c e).1
    exact gapAt_some w h k d _ W rfl n0 (by omega) k0 (by omega) a b c e

theorem endsOf_bad (w h g : Int) (W : World) (hn : ¬ (1 ≤ w ∧ w ≤ 4 ∧ 1 ≤ h ∧ h ≤ 4)) :
    Calls Try.prog 52 #[.agg #[.int .i64 w, .int .i64 h], .int .i64 g] W (Nm2 (-1) (-1) W) := by
  have HK := @Lib.hid _ (fun w' b => @nm2_mk (-1) (-1) (-1) (-1) W w' rfl rfl b)
  have HB := Lib.hid below_box
  have HN := Lib.hid hn
  clear hn
  go_enter Try.func52, Try.ntmps52
  go_wp2_with fail
  refine (countGaps_no w h _ HN.out).mono ?_
  rintro e w1 ⟨rfl, hb⟩
  have hb1 := below_call (HB.out _ _) hb
  go_wp2_with fail
  refine (in_no g 0 (-1) _ (by omega)).mono ?_
  rintro e w1 ⟨rfl, rfl⟩
  go_wp2_with fail
  go_ret2
  exact HK.out _ hb1

theorem endsOf_out (w h g : Int) (W : World) (h1 : 1 ≤ w) (h2 : w ≤ 4) (h3 : 1 ≤ h) (h4 : h ≤ 4) (hn : ¬ (0 ≤ g ∧ g < (w - 1) * h + w * (h - 1))) :
    Calls Try.prog 52 #[.agg #[.int .i64 w, .int .i64 h], .int .i64 g] W (Nm2 (-1) (-1) W) := by
  have HK := @Lib.hid _ (fun w' b => @nm2_mk (-1) (-1) (-1) (-1) W w' rfl rfl b)
  have HB := Lib.hid below_box
  obtain ⟨-, ⟨p1, p2⟩, ⟨p3, p4⟩⟩ := mul_bd w h h1 h2 h3 h4
  have HN := Lib.hid (show ¬ (0 ≤ g ∧ g ≤ (w - 1) * h + w * (h - 1) - 1) by omega)
  clear hn
  go_enter Try.func52, Try.ntmps52
  go_wp2_with fail
  refine (countGaps_yes w h _ h1 h2 h3 h4).mono ?_
  rintro e w1 ⟨rfl, hb⟩
  have hb1 := below_call (HB.out _ _) hb
  go_wp2_with fail
  refine (in_no g 0 ((w - 1) * h + w * (h - 1) - 1) _ HN.out).mono ?_
  rintro e w1 ⟨rfl, rfl⟩
  go_wp2_with fail
  go_ret2
  exact HK.out _ hb1

theorem endsOf_in (w h g : Int) (W : World) (h1 : 1 ≤ w) (h2 : w ≤ 4) (h3 : 1 ≤ h) (h4 : h ≤ 4) (g0 : 0 ≤ g) (g1 : g < (w - 1) * h + w * (h - 1)) :
    Calls Try.prog 52 #[.agg #[.int .i64 w, .int .i64 h], .int .i64 g] W (Nm2 (eaZ w h g) (ebZ w h g) W) := by
  have HK := @Lib.hid _ (fun w' a b (e : a = eaZ w h g) (e' : b = ebZ w h g) c => @nm2_mk a b _ _ W w' e e' c)
  have HB := Lib.hid below_box
  obtain ⟨-, ⟨p1, p2⟩, ⟨p3, p4⟩⟩ := mul_bd w h h1 h2 h3 h4
  by_cases ge : (w - 1) * h ≤ g
  · have HA := Lib.hid (show eaZ w h g = g - (w - 1) * h by unfold eaZ; rw [if_pos ⟨h1, h2, h3, h4⟩, if_pos ⟨g0, g1⟩, if_neg (by omega)])
    have HZ := Lib.hid (show ebZ w h g = g - (w - 1) * h + w by unfold ebZ; rw [if_pos ⟨h1, h2, h3, h4⟩, if_pos ⟨g0, g1⟩, if_neg (by omega)])
    go_enter Try.func52, Try.ntmps52
    go_wp2_with fail
    refine (countGaps_yes w h _ h1 h2 h3 h4).mono ?_
    rintro e w1 ⟨rfl, hb⟩
    have hb1 := below_call (HB.out _ _) hb
    have hx := Lib.hid ((box_new w h W _).call hb)
    obtain ⟨c0, c1⟩ := hx.out.1
    clear hb
    go_wp2_with fail
    refine (in_yes g 0 _ _ g0 (by omega)).mono ?_
    rintro e w2 ⟨rfl, rfl⟩
    go_wp2_with fail
    refine (east_any w h _ h1 h2 h3 h4).mono ?_
    rintro e w2 ⟨rfl, hb⟩
    have hb2 := below_call hb1 hb
    have hx2 := Lib.hid (hx.out.call hb)
    clear hb hx c0 c1 hb1
    obtain ⟨c0, c1⟩ := hx2.out.1
    go_wp2_with fail
    refine (east_any w h _ h1 h2 h3 h4).mono ?_
    rintro e w3 ⟨rfl, hb⟩
    have hb3 := below_call hb2 hb
    have hx3 := Lib.hid (hx2.out.call hb)
    clear hb hx2 c0 c1 hb2
    obtain ⟨c0, c1⟩ := hx3.out.1
    go_wp2_with fail
    go_quiet (fail)
    go_wp2_with fail
    go_ret2
    exact HK.out _ _ _ HA.out.symm (by rw [HZ.out]; try rw [IntWalk.i64_in _ (by omega)]) (below_draws hb3 _)
  · have HA := Lib.hid (show eaZ w h g = g + g / (w - 1) by unfold eaZ; rw [if_pos ⟨h1, h2, h3, h4⟩, if_pos ⟨g0, g1⟩, if_pos (by omega)])
    have HZ := Lib.hid (show ebZ w h g = g + g / (w - 1) + 1 by unfold ebZ; rw [if_pos ⟨h1, h2, h3, h4⟩, if_pos ⟨g0, g1⟩, if_pos (by omega)])
    have w1 : w ≠ 1 := by rintro rfl; omega
    obtain rfl | rfl | rfl : w = 2 ∨ w = 3 ∨ w = 4 := by omega
    all_goals
      clear w1
      go_enter Try.func52, Try.ntmps52
      go_wp2_with fail
      refine (countGaps_yes _ h _ h1 h2 h3 h4).mono ?_
      rintro e w1 ⟨rfl, hb⟩
      have hb1 := below_call (HB.out _ _) hb
      have hx := Lib.hid ((box_new _ h W _).call hb)
      obtain ⟨c0, c1⟩ := hx.out.1
      clear hb
      go_wp2_with fail
      refine (in_yes g 0 _ _ g0 (by omega)).mono ?_
      rintro e w2 ⟨rfl, rfl⟩
      go_wp2_with fail
      refine (east_any _ h _ h1 h2 h3 h4).mono ?_
      rintro e w2 ⟨rfl, hb⟩
      have hb2 := below_call hb1 hb
      have hx2 := Lib.hid (hx.out.call hb)
      clear hb hx c0 c1 hb1
      obtain ⟨c0, c1⟩ := hx2.out.1
      go_wp2_with fail
      go_quiet (fail)
      go_wp2_with fail
      go_ret2
      exact HK.out _ _ _ (by rw [HA.out]; omega) (by rw [HZ.out]; omega) (below_draws hb2 _)

theorem endsOf_any (w h g : Int) (W : World) :
    Calls Try.prog 52 #[.agg #[.int .i64 w, .int .i64 h], .int .i64 g] W (Nm2 (eaZ w h g) (ebZ w h g) W) := by
  by_cases h1 : 1 ≤ w ∧ w ≤ 4 ∧ 1 ≤ h ∧ h ≤ 4
  · by_cases h2 : 0 ≤ g ∧ g < (w - 1) * h + w * (h - 1)
    · exact endsOf_in w h g W h1.1 h1.2.1 h1.2.2.1 h1.2.2.2 h2.1 h2.2
    · rw [show eaZ w h g = -1 by unfold eaZ; rw [if_pos h1, if_neg h2], show ebZ w h g = -1 by unfold ebZ; rw [if_pos h1, if_neg h2]]
      exact endsOf_out w h g W h1.1 h1.2.1 h1.2.2.1 h1.2.2.2 h2
  · rw [show eaZ w h g = -1 by unfold eaZ; rw [if_neg h1], show ebZ w h g = -1 by unfold ebZ; rw [if_neg h1]]
    exact endsOf_bad w h g W h1
end Go.Proofs.Ytomjfcmaoeoigaa.gridS
