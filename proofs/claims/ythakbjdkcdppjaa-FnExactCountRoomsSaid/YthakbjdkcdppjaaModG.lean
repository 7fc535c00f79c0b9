/- The contracts of the model's functions on grids: each answers the plain number or truth value, and leaves all that was there as it was. -/
import Derived.Test.YthakbjdkcdppjaaBase

namespace Go.Proofs.Ythakbjdkcdppjaa.gridS
open Go.ChangeShapes Go.WideShapes Go.ChangeAt Go.RowKit
open draw gridP gridC
set_option linter.unusedVariables false

theorem box_after {b : Nat} {w h : Int} {X X' : World} (hb : Below X.heap.size X X') (hx : Box b w h X) : X'.cell? ⟨b, 0, none⟩ = some (.int .i64 w) ∧ X'.cell? ⟨b, 1, none⟩ = some (.int .i64 h) := (hx.call hb).1

theorem in_yes (x a b : Int) (W : World) (h1 : a ≤ x) (h2 : x ≤ b) :
    Calls Try.prog 55 #[.int .i64 x, .int .i64 a, .int .i64 b] W fun e w' => e = .returned (.bool true) ∧ W = w' := by
  go_enter Try.func55, Try.ntmps55
  go_wp2
  go_ret
  exact ⟨rfl, rfl⟩

theorem in_no (x a b : Int) (W : World) (hn : ¬ (a ≤ x ∧ x ≤ b)) :
    Calls Try.prog 55 #[.int .i64 x, .int .i64 a, .int .i64 b] W fun e w' => e = .returned (.bool false) ∧ W = w' := by
  by_cases h1 : a ≤ x
  · have h2 : ¬ x ≤ b := fun h => hn ⟨h1, h⟩
    clear hn
    go_enter Try.func55, Try.ntmps55
    go_wp2
    go_ret
    exact ⟨rfl, rfl⟩
  · clear hn
    go_enter Try.func55, Try.ntmps55
    go_wp2
    go_ret
    exact ⟨rfl, rfl⟩

theorem gridOk_yes (w h : Int) (W : World) (h1 : 1 ≤ w) (h2 : w ≤ 4) (h3 : 1 ≤ h) (h4 : h ≤ 4) :
    Calls Try.prog 34 #[.agg #[.int .i64 w, .int .i64 h]] W (Bl true W) := by
  have HK := @Lib.hid _ (fun w' b => @bl_mk true true W w' rfl b)
  have HB := Lib.hid below_box
  go_enter Try.func34, Try.ntmps34
  go_wp2_with fail
  refine (in_yes w 1 4 _ h1 h2).mono ?_
  rintro e w1 ⟨rfl, rfl⟩
  go_wp2_with fail
  refine (in_yes h 1 4 _ h3 h4).mono ?_
  rintro e w1 ⟨rfl, rfl⟩
  go_wp2_with fail
  go_ret
  exact HK.out _ (HB.out _ _)

theorem gridOk_no (w h : Int) (W : World) (hn : ¬ (1 ≤ w ∧ w ≤ 4 ∧ 1 ≤ h ∧ h ≤ 4)) :
    Calls Try.prog 34 #[.agg #[.int .i64 w, .int .i64 h]] W (Bl false W) := by
  have HK := @Lib.hid _ (fun w' b => @bl_mk false false W w' rfl b)
  have HB := Lib.hid below_box
  by_cases hw : 1 ≤ w ∧ w ≤ 4
  · have hh := Lib.hid (fun e : 1 ≤ h ∧ h ≤ 4 => hn ⟨hw.1, hw.2, e⟩)
    have HW := Lib.hid hw
    clear hn hw
    go_enter Try.func34, Try.ntmps34
    go_wp2_with fail
    refine (in_yes w 1 4 _ HW.out.1 HW.out.2).mono ?_
    rintro e w1 ⟨rfl, rfl⟩
    go_wp2_with fail
    refine (in_no h 1 4 _ hh.out).mono ?_
    rintro e w1 ⟨rfl, rfl⟩
    go_wp2_with fail
    go_ret
    exact HK.out _ (HB.out _ _)
  · have HW := Lib.hid hw
    clear hn hw
    go_enter Try.func34, Try.ntmps34
    go_wp2_with fail
    refine (in_no w 1 4 _ HW.out).mono ?_
    rintro e w1 ⟨rfl, rfl⟩
    go_wp2_with fail
    go_ret
    exact HK.out _ (HB.out _ _)

theorem east_any (w h : Int) (W : World) (h1 : 1 ≤ w) (h2 : w ≤ 4) (h3 : 1 ≤ h) (h4 : h ≤ 4) :
    Calls Try.prog 56 #[.agg #[.int .i64 w, .int .i64 h]] W (Nm ((w - 1) * h) W) := by
  have HK := @Lib.hid _ (fun w' a (e : a = (w - 1) * h) b => @nm_mk a ((w - 1) * h) W w' e b)
  obtain rfl | rfl | rfl | rfl : w = 1 ∨ w = 2 ∨ w = 3 ∨ w = 4 := by omega
  all_goals
    go_enter Try.func56, Try.ntmps56
    go_wp2
    go_ret
    exact HK.out _ _ (by omega) (below_box _ _)

theorem countCells_yes (w h : Int) (W : World) (h1 : 1 ≤ w) (h2 : w ≤ 4) (h3 : 1 ≤ h) (h4 : h ≤ 4) :
    Calls Try.prog 35 #[.agg #[.int .i64 w, .int .i64 h]] W (Nm (w * h) W) := by
  have HK := @Lib.hid _ (fun w' a (e : a = w * h) b => @nm_mk a (w * h) W w' e b)
  have HB := Lib.hid below_box
  obtain ⟨⟨p1, p2⟩, -, -⟩ := mul_bd w h h1 h2 h3 h4
  go_enter Try.func35, Try.ntmps35
  go_wp2_with fail
  refine (gridOk_yes w h _ h1 h2 h3 h4).mono ?_
  rintro e w1 ⟨rfl, hb⟩
  have hb1 := below_call (HB.out _ _) hb
  have hx := Lib.hid ((box_new w h W _).call hb)
  obtain ⟨c0, c1⟩ := hx.out.1
  clear hb
  go_wp2_with fail
  go_ret
  exact HK.out _ _ (by omega) hb1

theorem countCells_no (w h : Int) (W : World) (hn : ¬ (1 ≤ w ∧ w ≤ 4 ∧ 1 ≤ h ∧ h ≤ 4)) :
    Calls Try.prog 35 #[.agg #[.int .i64 w, .int .i64 h]] W (Nm 0 W) := by
  have HK := @Lib.hid _ (fun w' b => @nm_mk 0 0 W w' rfl b)
  have HB := Lib.hid below_box
  have HN := Lib.hid hn
  clear hn
  go_enter Try.func35, Try.ntmps35
  go_wp2_with fail
  refine (gridOk_no w h _ HN.out).mono ?_
  rintro e w1 ⟨rfl, hb⟩
  have hb1 := below_call (HB.out _ _) hb
  go_wp2_with fail
  go_ret
  exact HK.out _ hb1

theorem countGaps_no (w h : Int) (W : World) (hn : ¬ (1 ≤ w ∧ w ≤ 4 ∧ 1 ≤ h ∧ h ≤ 4)) :
    Calls Try.prog 36 #[.agg #[.int .i64 w, .int .i64 h]] W (Nm 0 W) := by
  have HK := @Lib.hid _ (fun w' b => @nm_mk 0 0 W w' rfl b)
  have HB := Lib.hid below_box
  have HN := Lib.hid hn
  clear hn
  go_enter Try.func36, Try.ntmps36
  go_wp2_with fail
  refine (gridOk_no w h _ HN.out).mono ?_
  rintro e w1 ⟨rfl, hb⟩
  have hb1 := below_call (HB.out _ _) hb
  go_wp2_with fail
  go_ret
  exact HK.out _ hb1

theorem countGaps_yes (w h : Int) (W : World) (h1 : 1 ≤ w) (h2 : w ≤ 4) (h3 : 1 ≤ h) (h4 : h ≤ 4) :
    Calls Try.prog 36 #[.agg #[.int .i64 w, .int .i64 h]] W (Nm ((w - 1) * h + w * (h - 1)) W) := by
  have HK := @Lib.hid _ (fun w' a (e : a = (w - 1) * h + w * (h - 1)) b => @nm_mk a ((w - 1) * h + w * (h - 1)) W w' e b)
  have HB := Lib.hid below_box
  obtain ⟨-, ⟨p1, p2⟩, ⟨p3, p4⟩⟩ := mul_bd w h h1 h2 h3 h4
  go_enter Try.func36, Try.ntmps36
  go_wp2_with fail
  refine (gridOk_yes w h _ h1 h2 h3 h4).mono ?_
  rintro e w1 ⟨rfl, hb⟩
  have hb1 := below_call (HB.out _ _) hb
  have hx := Lib.hid ((box_new w h W _).call hb)
  obtain ⟨c0, c1⟩ := hx.out.1
  clear hb
  go_wp2_with fail
  go_region_held3 (fun w' => w'.cell? ⟨W.heap.size, 0, none⟩ = some (.int .i64 w) ∧ w'.cell? ⟨W.heap.size, 1, none⟩ = some (.int .i64 h)) (go_keep)
    ((go_at_call 56; refine (east_any w h _ h1 h2 h3 h4).mono ?_; rintro e w2 ⟨rfl, hb⟩; obtain ⟨c0', c1'⟩ := box_after hb hx.out))
  go_wp2_with fail
  go_ret
  exact HK.out _ _ (by rw [IntWalk.i64_in (h - 1) (by omega), IntWalk.i64_in (w * (h - 1)) (by omega), IntWalk.i64_in _ (by omega)]) (by refine below_call ?_ hb; repeat (first | exact hb1 | refine Below.drew ?_ | refine Below.alloc ?_ (by simp) _))

end Go.Proofs.Ythakbjdkcdppjaa.gridS

/- The contracts of the model's neighbor, gap and ends. -/
namespace Go.Proofs.Ythakbjdkcdppjaa.gridS
open Go.ChangeShapes Go.WideShapes Go.ChangeAt Go.RowKit
open draw gridP gridC
set_option linter.unusedVariables false

/-- Whether a number is in a range, both ways. -/
def Within (x a b : Int) (W : World) (e : Ending) (w' : World) : Prop := (Hid (a ≤ x ∧ x ≤ b) ∧ e = .returned (.bool true) ∧ W = w') ∨ (Hid (¬ (a ≤ x ∧ x ≤ b)) ∧ e = .returned (.bool false) ∧ W = w')
theorem in_any (x a b : Int) (W : World) :
    Calls Try.prog 55 #[.int .i64 x, .int .i64 a, .int .i64 b] W (Within x a b W) := by
  by_cases h : a ≤ x ∧ x ≤ b
  · exact (in_yes x a b W h.1 h.2).mono fun _ _ ⟨he, hw⟩ => .inl ⟨h, he, hw⟩
  · exact (in_no x a b W h).mono fun _ _ ⟨he, hw⟩ => .inr ⟨h, he, hw⟩

theorem neighbor_bad (w h k d : Int) (W : World) (hn : ¬ (1 ≤ w ∧ w ≤ 4 ∧ 1 ≤ h ∧ h ≤ 4)) :
    Calls Try.prog 69 #[.agg #[.int .i64 w, .int .i64 h], .int .i64 k, .int .i64 d] W (Nm (-1) W) := by
  have HK := @Lib.hid _ (fun w' b => @nm_mk (-1) (-1) W w' rfl b)
  have HB := Lib.hid below_box
  have HN := Lib.hid hn
  clear hn
  go_enter Try.func69, Try.ntmps69
  go_wp2_with fail
  refine (countCells_no w h _ HN.out).mono ?_
  rintro e w1 ⟨rfl, hb⟩
  have hb1 := below_call (HB.out _ _) hb
  go_wp2_with fail
  refine (in_no k 0 (-1) _ (by omega)).mono ?_
  rintro e w1 ⟨rfl, rfl⟩
  go_wp2_with fail
  go_ret
  exact HK.out _ hb1

theorem neighbor_out (w h k d : Int) (W : World) (h1 : 1 ≤ w) (h2 : w ≤ 4) (h3 : 1 ≤ h) (h4 : h ≤ 4) (hn : ¬ (0 ≤ k ∧ k < w * h)) :
    Calls Try.prog 69 #[.agg #[.int .i64 w, .int .i64 h], .int .i64 k, .int .i64 d] W (Nm (-1) W) := by
  have HK := @Lib.hid _ (fun w' b => @nm_mk (-1) (-1) W w' rfl b)
  have HB := Lib.hid below_box
  obtain ⟨⟨p1, p2⟩, -, -⟩ := mul_bd w h h1 h2 h3 h4
  have HN := Lib.hid (show ¬ (0 ≤ k ∧ k ≤ w * h - 1) by omega)
  clear hn
  go_enter Try.func69, Try.ntmps69
  go_wp2_with fail
  refine (countCells_yes w h _ h1 h2 h3 h4).mono ?_
  rintro e w1 ⟨rfl, hb⟩
  have hb1 := below_call (HB.out _ _) hb
  go_wp2_with fail
  refine (in_no k 0 (w * h - 1) _ HN.out).mono ?_
  rintro e w1 ⟨rfl, rfl⟩
  go_wp2_with fail
  go_ret
  exact HK.out _ hb1

set_option maxHeartbeats 1000000 in
theorem neighbor_off (w h k d : Int) (W : World) (h1 : 1 ≤ w) (h2 : w ≤ 4) (h3 : 1 ≤ h) (h4 : h ≤ 4) (k0 : 0 ≤ k) (k1 : k < w * h) (hd : ¬ (0 ≤ d ∧ d ≤ 3)) :
    Calls Try.prog 69 #[.agg #[.int .i64 w, .int .i64 h], .int .i64 k, .int .i64 d] W (Nm (-1) W) := by
  have HK := @Lib.hid _ (fun w' b => @nm_mk (-1) (-1) W w' rfl b)
  have HB := Lib.hid below_box
  have d0 : (d == 0) = false := by simp; omega
  have d1 : (d == 1) = false := by simp; omega
  have d2 : (d == 2) = false := by simp; omega
  have d3 : (d == 3) = false := by simp; omega
  clear hd
  obtain rfl | rfl | rfl | rfl : w = 1 ∨ w = 2 ∨ w = 3 ∨ w = 4 := by omega
  all_goals
    go_enter Try.func69, Try.ntmps69
    go_wp2_with fail
    refine (countCells_yes _ h _ h1 h2 h3 h4).mono ?_
    rintro e w1 ⟨rfl, hb⟩
    have hb1 := below_call (HB.out _ _) hb
    have hx := Lib.hid ((box_new _ h W _).call hb)
    clear hb
    obtain ⟨c0, c1⟩ := hx.out.1
    go_wp2_with fail
    refine (in_yes k 0 _ _ k0 (by omega)).mono ?_
    rintro e w2 ⟨rfl, rfl⟩
    go_wp2_with fail
    go_ret
    exact HK.out _ hb1

set_option maxHeartbeats 2000000 in
theorem neighbor_on (w h k d : Int) (W : World) (h1 : 1 ≤ w) (h2 : w ≤ 4) (h3 : 1 ≤ h) (h4 : h ≤ 4) (k0 : 0 ≤ k) (k1 : k < w * h) (hd : 0 ≤ d ∧ d ≤ 3) :
    Calls Try.prog 69 #[.agg #[.int .i64 w, .int .i64 h], .int .i64 k, .int .i64 d] W (Nm (nbZ w h k d) W) := by
  have HK := @Lib.hid _ (fun w' a (e : a = nbZ w h k d) b => @nm_mk a (nbZ w h k d) W w' e b)
  have HB := Lib.hid below_box
  obtain rfl | rfl | rfl | rfl : w = 1 ∨ w = 2 ∨ w = 3 ∨ w = 4 := by omega
  all_goals
    obtain rfl | rfl | rfl | rfl : d = 0 ∨ d = 1 ∨ d = 2 ∨ d = 3 := by omega
    all_goals
      clear hd
      go_enter Try.func69, Try.ntmps69
      go_wp2_with fail
      refine (countCells_yes _ h _ h1 h2 h3 h4).mono ?_
      rintro e w1 ⟨rfl, hb⟩
      have hb1 := below_call (HB.out _ _) hb
      have hx := Lib.hid ((box_new _ h W _).call hb)
      clear hb
      obtain ⟨c0, c1⟩ := hx.out.1
      go_wp2_with fail
      refine (in_yes k 0 _ _ k0 (by omega)).mono ?_
      rintro e w2 ⟨rfl, rfl⟩
      go_wp2_with fail
      refine (in_any _ _ _ _).mono ?_
      rintro e w3 (⟨hp, rfl, rfl⟩ | ⟨hp, rfl, rfl⟩)
      · go_wp2_with fail
        refine (in_any _ _ _ _).mono ?_
        rintro e w3 (⟨hq, rfl, rfl⟩ | ⟨hq, rfl, rfl⟩)
        all_goals
          go_wp2_with fail
          go_ret
          refine HK.out _ _ ?_ hb1
          have hp' := hp.out
          have hq' := hq.out
          unfold nbZ
          repeat' split
          all_goals omega
      · go_wp2_with fail
        go_ret
        refine HK.out _ _ ?_ hb1
        have hp' := hp.out
        unfold nbZ
        repeat' split
        all_goals omega

theorem neighbor_any (w h k d : Int) (W : World) :
    Calls Try.prog 69 #[.agg #[.int .i64 w, .int .i64 h], .int .i64 k, .int .i64 d] W (Nm (nbZ w h k d) W) := by
  by_cases h1 : 1 ≤ w ∧ w ≤ 4 ∧ 1 ≤ h ∧ h ≤ 4
  · by_cases h2 : 0 ≤ k ∧ k < w * h
    · by_cases h3 : 0 ≤ d ∧ d ≤ 3
      · exact neighbor_on w h k d W h1.1 h1.2.1 h1.2.2.1 h1.2.2.2 h2.1 h2.2 h3
      · rw [nb_off h3]; exact neighbor_off w h k d W h1.1 h1.2.1 h1.2.2.1 h1.2.2.2 h2.1 h2.2 h3
    · rw [nb_out h2]; exact neighbor_out w h k d W h1.1 h1.2.1 h1.2.2.1 h1.2.2.2 h2
  · rw [nb_bad h1]; exact neighbor_bad w h k d W h1
end Go.Proofs.Ythakbjdkcdppjaa.gridS

/- The contracts of the model's gap of a cell and ends of a gap. -/
namespace Go.Proofs.Ythakbjdkcdppjaa.gridS
open Go.ChangeShapes Go.WideShapes Go.ChangeAt Go.RowKit
open draw gridP gridC gridE
set_option linter.unusedVariables false

theorem gapAt_none (w h k d v : Int) (W : World) (hv : nbZ w h k d = v) (hn : v < 0) :
    Calls Try.prog 59 #[.agg #[.int .i64 w, .int .i64 h], .int .i64 k, .int .i64 d] W (Nm (-1) W) := by
  have HK := @Lib.hid _ (fun w' b => @nm_mk (-1) (-1) W w' rfl b)
  have HB := Lib.hid below_box
  have HN := Lib.hid (fun X => neighbor_any w h k d X)
  rw [hv] at HN
  clear hv
  go_enter Try.func59, Try.ntmps59
  go_wp2_with fail
  refine (HN.out _).mono ?_
  rintro e w1 ⟨rfl, hb⟩
  have hb1 := below_call (HB.out _ _) hb
  go_wp2_with fail
  go_ret
  exact HK.out _ hb1

set_option maxHeartbeats 2000000 in
theorem gapAt_some (w h k d v : Int) (W : World) (hv : nbZ w h k d = v) (hn : 0 ≤ v) (hn' : v < 16) (k0 : 0 ≤ k) (k1 : k < 16) (h1 : 1 ≤ w) (h2 : w ≤ 4) (h3 : 1 ≤ h) (h4 : h ≤ 4) :
    Calls Try.prog 59 #[.agg #[.int .i64 w, .int .i64 h], .int .i64 k, .int .i64 d] W (Nm (gpZ w h k d) W) := by
  have HK := @Lib.hid _ (fun w' a (e : a = gpZ w h k d) b => @nm_mk a (gpZ w h k d) W w' e b)
  have HB := Lib.hid below_box
  have HN := Lib.hid (fun X => neighbor_any w h k d X)
  rw [hv] at HN
  have HE : Hid ((d = 1 ∨ d = 3) → gpZ w h k d = min k v - min k v / w) := fun h => by unfold gpZ; rw [hv, if_neg (by omega), if_pos h]
  have HS : Hid (¬ (d = 1 ∨ d = 3) → gpZ w h k d = (w - 1) * h + min k v) := fun h => by unfold gpZ; rw [hv, if_neg (by omega), if_neg h]
  obtain ⟨-, ⟨p1, p2⟩, ⟨p3, p4⟩⟩ := mul_bd w h h1 h2 h3 h4
  clear hv
  by_cases d1 : d = 1
  · have d1' : (d == 1) = true := by simpa using d1
    have D := Lib.hid d1
    clear d1
    obtain rfl | rfl | rfl | rfl : w = 1 ∨ w = 2 ∨ w = 3 ∨ w = 4 := by omega
    all_goals
      go_enter Try.func59, Try.ntmps59
      go_wp2_with fail
      refine (HN.out _).mono ?_
      rintro e w1 ⟨rfl, hb⟩
      have hb1 := below_call (HB.out _ _) hb
      have hx := Lib.hid ((box_new _ h W _).call hb)
      obtain ⟨c0, c1⟩ := hx.out.1
      clear hb
      go_wp2_with fail
      all_goals
        go_quiet (fail)
        go_wp2_with fail
        go_ret
        exact HK.out _ _ (by rw [HE.out (.inl D.out)]; omega) (below_draws hb1 _)
  · have d1' : (d == 1) = false := by simpa using d1
    by_cases d3 : d = 3
    · have d3' : (d == 3) = true := by simpa using d3
      have D := Lib.hid d3
      clear d3 d1
      obtain rfl | rfl | rfl | rfl : w = 1 ∨ w = 2 ∨ w = 3 ∨ w = 4 := by omega
      all_goals
        go_enter Try.func59, Try.ntmps59
        go_wp2_with fail
        refine (HN.out _).mono ?_
        rintro e w1 ⟨rfl, hb⟩
        have hb1 := below_call (HB.out _ _) hb
        have hx := Lib.hid ((box_new _ h W _).call hb)
        obtain ⟨c0, c1⟩ := hx.out.1
        clear hb
        go_wp2_with fail
        all_goals
          go_quiet (fail)
          go_wp2_with fail
          go_ret
          exact HK.out _ _ (by rw [HE.out (.inr D.out)]; omega) (below_draws hb1 _)
    · have d3' : (d == 3) = false := by simpa using d3
      have D := Lib.hid (fun h : d = 1 ∨ d = 3 => h.elim d1 d3)
      clear d3 d1
      have CE := Lib.hid (fun X => east_any w h X h1 h2 h3 h4)
      go_enter Try.func59, Try.ntmps59
      go_wp2_with fail
      refine (HN.out _).mono ?_
      rintro e w1 ⟨rfl, hb⟩
      have hb1 := below_call (HB.out _ _) hb
      have hx := Lib.hid ((box_new w h W _).call hb)
      obtain ⟨c0, c1⟩ := hx.out.1
      clear hb
      go_wp2_with fail
      all_goals
        refine (CE.out _).mono ?_
        rintro e w2 ⟨rfl, hb⟩
        have hb2 := below_call hb1 hb
        go_wp2_with fail
        go_ret
        exact HK.out _ _ (by rw [HS.out D.out]; omega) hb2

theorem gapAt_any (w h k d : Int) (W : World) :
    Calls Try.prog 59 #[.agg #[.int .i64 w, .int .i64 h], .int .i64 k, .int .i64 d] W (Nm (gpZ w h k d) W) := by
  by_cases hn : nbZ w h k d < 0
  · have e : gpZ w h k d = -1 := by unfold gpZ; rw [if_pos hn]
    rw [e]; exact gapAt_none w h k d _ W rfl hn
  · obtain ⟨⟨a, b, c, e⟩, ⟨k0, k1⟩, hd, n0, n1⟩ := nb_some hn
    have hm := (mul_bd w h a b c e).1
    exact gapAt_some w h k d _ W rfl n0 (by omega) k0 (by omega) a b c e

theorem endsOf_bad (w h g : Int) (W : World) (hn : ¬ (1 ≤ w ∧ w ≤ 4 ∧ 1 ≤ h ∧ h ≤ 4)) :
    Calls Try.prog 37 #[.agg #[.int .i64 w, .int .i64 h], .int .i64 g] W (Nm2 (-1) (-1) W) := by
  have HK := @Lib.hid _ (fun w' b => @nm2_mk (-1) (-1) (-1) (-1) W w' rfl rfl b)
  have HB := Lib.hid below_box
  have HN := Lib.hid hn
  clear hn
  go_enter Try.func37, Try.ntmps37
  go_wp2_with fail
  refine (countGaps_no w h _ HN.out).mono ?_
  rintro e w1 ⟨rfl, hb⟩
  have hb1 := below_call (HB.out _ _) hb
  go_wp2_with fail
  refine (in_no g 0 (-1) _ (by omega)).mono ?_
  rintro e w1 ⟨rfl, rfl⟩
  go_wp2_with fail
  go_ret2
  exact HK.out _ hb1

theorem endsOf_out (w h g : Int) (W : World) (h1 : 1 ≤ w) (h2 : w ≤ 4) (h3 : 1 ≤ h) (h4 : h ≤ 4) (hn : ¬ (0 ≤ g ∧ g < (w - 1) * h + w * (h - 1))) :
    Calls Try.prog 37 #[.agg #[.int .i64 w, .int .i64 h], .int .i64 g] W (Nm2 (-1) (-1) W) := by
  have HK := @Lib.hid _ (fun w' b => @nm2_mk (-1) (-1) (-1) (-1) W w' rfl rfl b)
  have HB := Lib.hid below_box
  obtain ⟨-, ⟨p1, p2⟩, ⟨p3, p4⟩⟩ := mul_bd w h h1 h2 h3 h4
  have HN := Lib.hid (show ¬ (0 ≤ g ∧ g ≤ (w - 1) * h + w * (h - 1) - 1) by omega)
  clear hn
  go_enter Try.func37, Try.ntmps37
  go_wp2_with fail
  refine (countGaps_yes w h _ h1 h2 h3 h4).mono ?_
  rintro e w1 ⟨rfl, hb⟩
  have hb1 := below_call (HB.out _ _) hb
  go_wp2_with fail
  refine (in_no g 0 ((w - 1) * h + w * (h - 1) - 1) _ HN.out).mono ?_
  rintro e w1 ⟨rfl, rfl⟩
  go_wp2_with fail
  go_ret2
  exact HK.out _ hb1

theorem endsOf_in (w h g : Int) (W : World) (h1 : 1 ≤ w) (h2 : w ≤ 4) (h3 : 1 ≤ h) (h4 : h ≤ 4) (g0 : 0 ≤ g) (g1 : g < (w - 1) * h + w * (h - 1)) :
    Calls Try.prog 37 #[.agg #[.int .i64 w, .int .i64 h], .int .i64 g] W (Nm2 (eaZ w h g) (ebZ w h g) W) := by
  have HK := @Lib.hid _ (fun w' a b (e : a = eaZ w h g) (e' : b = ebZ w h g) c => @nm2_mk a b _ _ W w' e e' c)
  have HB := Lib.hid below_box
  obtain ⟨-, ⟨p1, p2⟩, ⟨p3, p4⟩⟩ := mul_bd w h h1 h2 h3 h4
  by_cases ge : (w - 1) * h ≤ g
  · have HA := Lib.hid (show eaZ w h g = g - (w - 1) * h by unfold eaZ; rw [if_pos ⟨h1, h2, h3, h4⟩, if_pos ⟨g0, g1⟩, if_neg (by omega)])
    have HZ := Lib.hid (show ebZ w h g = g - (w - 1) * h + w by unfold ebZ; rw [if_pos ⟨h1, h2, h3, h4⟩, if_pos ⟨g0, g1⟩, if_neg (by omega)])
    go_enter Try.func37, Try.ntmps37
    go_wp2_with fail
    refine (countGaps_yes w h _ h1 h2 h3 h4).mono ?_
    rintro e w1 ⟨rfl, hb⟩
    have hb1 := below_call (HB.out _ _) hb
    have hx := Lib.hid ((box_new w h W _).call hb)
    obtain ⟨c0, c1⟩ := hx.out.1
    clear hb
    go_wp2_with fail
    refine (in_yes g 0 _ _ g0 (by omega)).mono ?_
    rintro e w2 ⟨rfl, rfl⟩
    go_wp2_with fail
    refine (east_any w h _ h1 h2 h3 h4).mono ?_
    rintro e w2 ⟨rfl, hb⟩
    have hb2 := below_call hb1 hb
    have hx2 := Lib.hid (hx.out.call hb)
    clear hb hx c0 c1 hb1
    obtain ⟨c0, c1⟩ := hx2.out.1
    go_wp2_with fail
    refine (east_any w h _ h1 h2 h3 h4).mono ?_
    rintro e w3 ⟨rfl, hb⟩
    have hb3 := below_call hb2 hb
    have hx3 := Lib.hid (hx2.out.call hb)
    clear hb hx2 c0 c1 hb2
    obtain ⟨c0, c1⟩ := hx3.out.1
    go_wp2_with fail
    go_quiet (fail)
    go_wp2_with fail
    go_ret2
    exact HK.out _ _ _ HA.out.symm (by rw [HZ.out]; try rw [IntWalk.i64_in _ (by omega)]) (below_draws hb3 _)
  · have HA := Lib.hid (show eaZ w h g = g + g / (w - 1) by unfold eaZ; rw [if_pos ⟨h1, h2, h3, h4⟩, if_pos ⟨g0, g1⟩, if_pos (by omega)])
    have HZ := Lib.hid (show ebZ w h g = g + g / (w - 1) + 1 by unfold ebZ; rw [if_pos ⟨h1, h2, h3, h4⟩, if_pos ⟨g0, g1⟩, if_pos (by omega)])
    have w1 : w ≠ 1 := by rintro rfl; omega
    obtain rfl | rfl | rfl : w = 2 ∨ w = 3 ∨ w = 4 := by omega
    all_goals
      clear w1
      go_enter Try.func37, Try.ntmps37
      go_wp2_with fail
      refine (countGaps_yes _ h _ h1 h2 h3 h4).mono ?_
      rintro e w1 ⟨rfl, hb⟩
      have hb1 := below_call (HB.out _ _) hb
      have hx := Lib.hid ((box_new _ h W _).call hb)
      obtain ⟨c0, c1⟩ := hx.out.1
      clear hb
      go_wp2_with fail
      refine (in_yes g 0 _ _ g0 (by omega)).mono ?_
      rintro e w2 ⟨rfl, rfl⟩
      go_wp2_with fail
      refine (east_any _ h _ h1 h2 h3 h4).mono ?_
      rintro e w2 ⟨rfl, hb⟩
      have hb2 := below_call hb1 hb
      have hx2 := Lib.hid (hx.out.call hb)
      clear hb hx c0 c1 hb1
      obtain ⟨c0, c1⟩ := hx2.out.1
      go_wp2_with fail
      go_quiet (fail)
      go_wp2_with fail
      go_ret2
      exact HK.out _ _ _ (by rw [HA.out]; omega) (by rw [HZ.out]; omega) (below_draws hb2 _)

theorem endsOf_any (w h g : Int) (W : World) :
    Calls Try.prog 37 #[.agg #[.int .i64 w, .int .i64 h], .int .i64 g] W (Nm2 (eaZ w h g) (ebZ w h g) W) := by
  by_cases h1 : 1 ≤ w ∧ w ≤ 4 ∧ 1 ≤ h ∧ h ≤ 4
  · by_cases h2 : 0 ≤ g ∧ g < (w - 1) * h + w * (h - 1)
    · exact endsOf_in w h g W h1.1 h1.2.1 h1.2.2.1 h1.2.2.2 h2.1 h2.2
    · rw [show eaZ w h g = -1 by unfold eaZ; rw [if_pos h1, if_neg h2], show ebZ w h g = -1 by unfold ebZ; rw [if_pos h1, if_neg h2]]
      exact endsOf_out w h g W h1.1 h1.2.1 h1.2.2.1 h1.2.2.2 h2
  · rw [show eaZ w h g = -1 by unfold eaZ; rw [if_neg h1], show ebZ w h g = -1 by unfold ebZ; rw [if_neg h1]]
    exact endsOf_bad w h g W h1
end Go.Proofs.Ythakbjdkcdppjaa.gridS
