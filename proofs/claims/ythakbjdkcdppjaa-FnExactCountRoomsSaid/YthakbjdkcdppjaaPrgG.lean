/- The contracts of the program's exported functions on grids: each answers the plain number or truth value, and leaves all that was there as it was. -/
import Derived.Test.YthakbjdkcdppjaaBase

namespace Go.Proofs.Ythakbjdkcdppjaa.gridI
open Go.ChangeShapes Go.WideShapes Go.ChangeAt Go.RowKit
open draw gridP gridC
set_option linter.unusedVariables false

theorem countCells_yes (w h : Int) (W : World) (h1 : 1 ≤ w) (h2 : w ≤ 4) (h3 : 1 ≤ h) (h4 : h ≤ 4) :
    Calls Try.prog 32 #[.agg #[.int .i64 w, .int .i64 h]] W (Nm (w * h) W) := by
  have HK := @Lib.hid _ (fun w' b => @nm_mk (w * h) (w * h) W w' rfl b)
  have HB := Lib.hid below_box
  go_enter Try.func32, Try.ntmps32
  go_wp2_with fail
  refine (ok_yes w h _ h1 h2 h3 h4).mono ?_
  rintro e w1 ⟨rfl, hb⟩
  have hb1 := below_call (HB.out _ _) hb
  obtain ⟨hc, hf⟩ := bcell hb
  go_wp2_with fail
  refine (cells_any w h _ h1 h2 h3 h4).mono ?_
  rintro e w2 ⟨rfl, hb'⟩
  have hb2 := below_call hb1 hb'
  go_wp2_with fail
  go_ret
  exact HK.out _ hb2

theorem countCells_no (w h : Int) (W : World) (hn : ¬ (1 ≤ w ∧ w ≤ 4 ∧ 1 ≤ h ∧ h ≤ 4)) :
    Calls Try.prog 32 #[.agg #[.int .i64 w, .int .i64 h]] W (Nm 0 W) := by
  have HK := @Lib.hid _ (fun w' b => @nm_mk 0 0 W w' rfl b)
  have HB := Lib.hid below_box
  have HN := Lib.hid hn
  clear hn
  go_enter Try.func32, Try.ntmps32
  go_wp2_with fail
  refine (ok_no w h _ HN.out).mono ?_
  rintro e w1 ⟨rfl, hb⟩
  have hb1 := below_call (HB.out _ _) hb
  go_wp2_with fail
  go_ret
  exact HK.out _ hb1

end Go.Proofs.Ythakbjdkcdppjaa.gridI

/- The contract of the program's neighbor of a cell. -/
namespace Go.Proofs.Ythakbjdkcdppjaa.gridI
open Go.ChangeShapes Go.WideShapes Go.ChangeAt Go.RowKit
open draw gridP gridC
set_option linter.unusedVariables false

theorem neighbor_bad (w h k d : Int) (W : World) (hn : ¬ (1 ≤ w ∧ w ≤ 4 ∧ 1 ≤ h ∧ h ≤ 4)) :
    Calls Try.prog 73 #[.agg #[.int .i64 w, .int .i64 h], .int .i64 k, .int .i64 d] W (Nm (-1) W) := by
  have HK := @Lib.hid _ (fun w' b => @nm_mk (-1) (-1) W w' rfl b)
  have HB := Lib.hid below_box
  have HN := Lib.hid hn
  clear hn
  go_enter Try.func73, Try.ntmps73
  go_wp2_with fail
  refine (ok_no w h _ HN.out).mono ?_
  rintro e w1 ⟨rfl, hb⟩
  have hb1 := below_call (HB.out _ _) hb
  go_wp2_with fail
  go_ret
  exact HK.out _ hb1

theorem neighbor_out (w h k d : Int) (W : World) (h1 : 1 ≤ w) (h2 : w ≤ 4) (h3 : 1 ≤ h) (h4 : h ≤ 4) (hn : ¬ (0 ≤ k ∧ k < w * h)) :
    Calls Try.prog 73 #[.agg #[.int .i64 w, .int .i64 h], .int .i64 k, .int .i64 d] W (Nm (-1) W) := by
  have HK := @Lib.hid _ (fun w' b => @nm_mk (-1) (-1) W w' rfl b)
  have HB := Lib.hid below_box
  have HN := Lib.hid hn
  clear hn
  go_enter Try.func73, Try.ntmps73
  go_wp2_with fail
  refine (ok_yes w h _ h1 h2 h3 h4).mono ?_
  rintro e w1 ⟨rfl, hb⟩
  have hb1 := below_call (HB.out _ _) hb
  obtain ⟨hc, hf⟩ := bcell hb
  go_wp2_with fail
  refine (hasCell_no w h k _ h1 h2 h3 h4 HN.out).mono ?_
  rintro e w2 ⟨rfl, hb'⟩
  have hb2 := below_call hb1 hb'
  go_wp2_with fail
  go_ret
  exact HK.out _ hb2

set_option maxHeartbeats 1000000 in
theorem neighbor_off (w h k d : Int) (W : World) (h1 : 1 ≤ w) (h2 : w ≤ 4) (h3 : 1 ≤ h) (h4 : h ≤ 4) (k0 : 0 ≤ k) (k1 : k < w * h) (hd : ¬ (0 ≤ d ∧ d ≤ 3)) :
    Calls Try.prog 73 #[.agg #[.int .i64 w, .int .i64 h], .int .i64 k, .int .i64 d] W (Nm (-1) W) := by
  have HK := @Lib.hid _ (fun w' b => @nm_mk (-1) (-1) W w' rfl b)
  have HB := Lib.hid below_box
  have d0 : (d == 0) = false := by simp; omega
  have d1 : (d == 1) = false := by simp; omega
  have d2 : (d == 2) = false := by simp; omega
  have d3 : (d == 3) = false := by simp; omega
  clear hd
  obtain rfl | rfl | rfl | rfl : w = 1 ∨ w = 2 ∨ w = 3 ∨ w = 4 := by omega
  all_goals
    go_enter Try.func73, Try.ntmps73
    go_wp2_with fail
    refine (ok_yes _ h _ h1 h2 h3 h4).mono ?_
    rintro e w1 ⟨rfl, hb⟩
    have hb1 := below_call (HB.out _ _) hb
    have hx := Lib.hid ((box_new _ h W _).call hb)
    clear hb
    obtain ⟨c0, c1⟩ := hx.out.1
    go_wp2_with fail
    refine (hasCell_yes _ h k _ h1 h2 h3 h4 k0 k1).mono ?_
    rintro e w2 ⟨rfl, hb'⟩
    have hb2 := below_call hb1 hb'
    have hx' := Lib.hid (hx.out.call hb')
    clear hb' hb1 hx c0 c1
    obtain ⟨c0, c1⟩ := hx'.out.1
    clear hx'
    go_wp2_with fail
    go_quiet (fail)
    go_wp2_with fail
    go_ret
    exact HK.out _ (below_draws hb2 _)

set_option maxHeartbeats 2000000 in
theorem neighbor_on (w h k d : Int) (W : World) (h1 : 1 ≤ w) (h2 : w ≤ 4) (h3 : 1 ≤ h) (h4 : h ≤ 4) (k0 : 0 ≤ k) (k1 : k < w * h) (hd : 0 ≤ d ∧ d ≤ 3) :
    Calls Try.prog 73 #[.agg #[.int .i64 w, .int .i64 h], .int .i64 k, .int .i64 d] W (Nm (nbZ w h k d) W) := by
  have HK := @Lib.hid _ (fun w' a (e : a = nbZ w h k d) b => @nm_mk a (nbZ w h k d) W w' e b)
  have HB := Lib.hid below_box
  obtain rfl | rfl | rfl | rfl : w = 1 ∨ w = 2 ∨ w = 3 ∨ w = 4 := by omega
  all_goals
    obtain rfl | rfl | rfl | rfl : d = 0 ∨ d = 1 ∨ d = 2 ∨ d = 3 := by omega
    all_goals
      clear hd
      go_enter Try.func73, Try.ntmps73
      go_wp2_with fail
      refine (ok_yes _ h _ h1 h2 h3 h4).mono ?_
      rintro e w1 ⟨rfl, hb⟩
      have hb1 := below_call (HB.out _ _) hb
      have hx := Lib.hid ((box_new _ h W _).call hb)
      clear hb
      obtain ⟨c0, c1⟩ := hx.out.1
      go_wp2_with fail
      refine (hasCell_yes _ h k _ h1 h2 h3 h4 k0 k1).mono ?_
      rintro e w2 ⟨rfl, hb'⟩
      have hb2 := below_call hb1 hb'
      have hx' := Lib.hid (hx.out.call hb')
      clear hb' hb1 hx c0 c1
      obtain ⟨c0, c1⟩ := hx'.out.1
      go_wp2_with fail
      go_quiet (fail)
      go_wp2_with fail
      refine (hasPlace_any _ h _ _ _).mono ?_
      rintro e w3 (⟨hp, rfl, hb'⟩ | ⟨hp, rfl, hb'⟩)
      all_goals
        have hb3 := below_call (below_draws hb2 _) hb'
        have hx'' := Lib.hid ((hx'.out.draws _).call hb')
        clear c0 c1 hb' hb2 hx'
        obtain ⟨c0, c1⟩ := hx''.out.1
        go_wp2_with fail
        go_ret
        refine HK.out _ _ ?_ hb3
        have hp' := hp.out
        unfold nbZ
        repeat' split
        all_goals omega
end Go.Proofs.Ythakbjdkcdppjaa.gridI

/- The contract of the program's gap of a cell. -/
namespace Go.Proofs.Ythakbjdkcdppjaa.gridI
open Go.ChangeShapes Go.WideShapes Go.ChangeAt Go.RowKit
open draw gridP gridC gridE
set_option linter.unusedVariables false

theorem neighbor_any (w h k d : Int) (W : World) :
    Calls Try.prog 73 #[.agg #[.int .i64 w, .int .i64 h], .int .i64 k, .int .i64 d] W (Nm (nbZ w h k d) W) := by
  by_cases h1 : 1 ≤ w ∧ w ≤ 4 ∧ 1 ≤ h ∧ h ≤ 4
  · by_cases h2 : 0 ≤ k ∧ k < w * h
    · by_cases h3 : 0 ≤ d ∧ d ≤ 3
      · exact neighbor_on w h k d W h1.1 h1.2.1 h1.2.2.1 h1.2.2.2 h2.1 h2.2 h3
      · rw [nb_off h3]; exact neighbor_off w h k d W h1.1 h1.2.1 h1.2.2.1 h1.2.2.2 h2.1 h2.2 h3
    · rw [nb_out h2]; exact neighbor_out w h k d W h1.1 h1.2.1 h1.2.2.1 h1.2.2.2 h2
  · rw [nb_bad h1]; exact neighbor_bad w h k d W h1

theorem gapAt_none (w h k d v : Int) (W : World) (hv : nbZ w h k d = v) (hn : v < 0) :
    Calls Try.prog 71 #[.agg #[.int .i64 w, .int .i64 h], .int .i64 k, .int .i64 d] W (Nm (-1) W) := by
  have HK := @Lib.hid _ (fun w' b => @nm_mk (-1) (-1) W w' rfl b)
  have HB := Lib.hid below_box
  have HN := Lib.hid (fun X => neighbor_any w h k d X)
  rw [hv] at HN
  clear hv
  go_enter Try.func71, Try.ntmps71
  go_wp2_with fail
  refine (HN.out _).mono ?_
  rintro e w1 ⟨rfl, hb⟩
  have hb1 := below_call (HB.out _ _) hb
  go_wp2_with fail
  go_ret
  exact HK.out _ hb1

theorem gapAt_some (w h k d v : Int) (W : World) (hv : nbZ w h k d = v) (hn : 0 ≤ v) (hn' : v < 16) (k0 : 0 ≤ k) (k1 : k < 16) (h1 : 1 ≤ w) (h2 : w ≤ 4) (h3 : 1 ≤ h) (h4 : h ≤ 4) :
    Calls Try.prog 71 #[.agg #[.int .i64 w, .int .i64 h], .int .i64 k, .int .i64 d] W (Nm (gpZ w h k d) W) := by
  have HK := @Lib.hid _ (fun w' a (e : a = gpZ w h k d) b => @nm_mk a (gpZ w h k d) W w' e b)
  have HB := Lib.hid below_box
  have HN := Lib.hid (fun X => neighbor_any w h k d X)
  rw [hv] at HN
  have HE : Hid ((d = 1 ∨ d = 3) → gpZ w h k d = min k v - min k v / w) := fun h => by unfold gpZ; rw [hv, if_neg (by omega), if_pos h]
  have CE := Lib.hid (fun x X a b => eastGap_any w h x X h1 h2 a b)
  have CS := Lib.hid (fun x X a b => southGap_any w h x X h1 h2 h3 h4 a b)
  have HS : Hid (¬ (d = 1 ∨ d = 3) → gpZ w h k d = (w - 1) * h + min k v) := fun h => by unfold gpZ; rw [hv, if_neg (by omega), if_neg h]
  clear hv
  by_cases d1 : d = 1
  · have d1' : (d == 1) = true := by simpa using d1
    have D := Lib.hid d1
    clear d1
    go_enter Try.func71, Try.ntmps71
    go_wp2_with fail
    refine (HN.out _).mono ?_
    rintro e w1 ⟨rfl, hb⟩
    have hb1 := below_call (HB.out _ _) hb
    have hx := Lib.hid ((box_new w h W _).call hb)
    obtain ⟨c0, c1⟩ := hx.out.1
    clear hb
    go_wp2_with fail
    · refine (CE.out v _ hn hn').mono ?_
      rintro e w2 ⟨rfl, hb⟩
      have hb2 := below_call hb1 hb
      go_wp2_with fail
      go_ret
      exact HK.out _ _ (by rw [HE.out (.inl D.out)]; first | rw [Int.min_eq_right (by omega)] | rw [Int.min_eq_left (by omega)]) hb2
    · refine (CE.out k _ k0 k1).mono ?_
      rintro e w2 ⟨rfl, hb⟩
      have hb2 := below_call hb1 hb
      go_wp2_with fail
      go_ret
      exact HK.out _ _ (by rw [HE.out (.inl D.out)]; first | rw [Int.min_eq_left (by omega)] | rw [Int.min_eq_right (by omega)]) hb2
  · have d1' : (d == 1) = false := by simpa using d1
    by_cases d3 : d = 3
    · have d3' : (d == 3) = true := by simpa using d3
      have D := Lib.hid d3
      clear d3 d1
      go_enter Try.func71, Try.ntmps71
      go_wp2_with fail
      refine (HN.out _).mono ?_
      rintro e w1 ⟨rfl, hb⟩
      have hb1 := below_call (HB.out _ _) hb
      have hx := Lib.hid ((box_new w h W _).call hb)
      obtain ⟨c0, c1⟩ := hx.out.1
      clear hb
      go_wp2_with fail
      · refine (CE.out v _ hn hn').mono ?_
        rintro e w2 ⟨rfl, hb⟩
        have hb2 := below_call hb1 hb
        go_wp2_with fail
        go_ret
        exact HK.out _ _ (by rw [HE.out (.inr D.out)]; first | rw [Int.min_eq_right (by omega)] | rw [Int.min_eq_left (by omega)]) hb2
      · refine (CE.out k _ k0 k1).mono ?_
        rintro e w2 ⟨rfl, hb⟩
        have hb2 := below_call hb1 hb
        go_wp2_with fail
        go_ret
        exact HK.out _ _ (by rw [HE.out (.inr D.out)]; first | rw [Int.min_eq_left (by omega)] | rw [Int.min_eq_right (by omega)]) hb2
    · have d3' : (d == 3) = false := by simpa using d3
      have D : Hid (¬ (d = 1 ∨ d = 3)) := fun h => h.elim d1 d3
      clear d3 d1
      go_enter Try.func71, Try.ntmps71
      go_wp2_with fail
      refine (HN.out _).mono ?_
      rintro e w1 ⟨rfl, hb⟩
      have hb1 := below_call (HB.out _ _) hb
      have hx := Lib.hid ((box_new w h W _).call hb)
      obtain ⟨c0, c1⟩ := hx.out.1
      clear hb
      go_wp2_with fail
      · refine (CS.out v _ hn hn').mono ?_
        rintro e w2 ⟨rfl, hb⟩
        have hb2 := below_call hb1 hb
        go_wp2_with fail
        go_ret
        exact HK.out _ _ (by rw [HS.out D.out]; first | rw [Int.min_eq_right (by omega)] | rw [Int.min_eq_left (by omega)]) hb2
      · refine (CS.out k _ k0 k1).mono ?_
        rintro e w2 ⟨rfl, hb⟩
        have hb2 := below_call hb1 hb
        go_wp2_with fail
        go_ret
        exact HK.out _ _ (by rw [HS.out D.out]; first | rw [Int.min_eq_left (by omega)] | rw [Int.min_eq_right (by omega)]) hb2

theorem gapAt_any (w h k d : Int) (W : World) :
    Calls Try.prog 71 #[.agg #[.int .i64 w, .int .i64 h], .int .i64 k, .int .i64 d] W (Nm (gpZ w h k d) W) := by
  by_cases hn : nbZ w h k d < 0
  · have e : gpZ w h k d = -1 := by unfold gpZ; rw [if_pos hn]
    rw [e]; exact gapAt_none w h k d _ W rfl hn
  · obtain ⟨⟨a, b, c, e⟩, ⟨k0, k1⟩, hd, n0, n1⟩ := nb_some hn
    have hm := (mul_bd w h a b c e).1
    exact gapAt_some w h k d _ W rfl n0 (by omega) k0 (by omega) a b c e
end Go.Proofs.Ythakbjdkcdppjaa.gridI
