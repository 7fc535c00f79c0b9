/- The contracts of the model's neighbor, gap and ends. -/
import Derived.Test.YtomjfcmaoeoigaaGridS
namespace Go.Proofs.Ytomjfcmaoeoigaa.gridS
open Go.ChangeShapes Go.WideShapes Go.ChangeAt Go.RowKit
open draw gridP gridC
set_option linter.unusedVariables false

/-- Whether a number is in a range, both ways. -/
def Within (x a b : Int) (W : World) (e : Ending) (w' : World) : Prop := (Hid (a ≤ x ∧ x ≤ b) ∧ e = .returned (.bool true) ∧ W = w') ∨ (Hid (¬ (a ≤ x ∧ x ≤ b)) ∧ e = .returned (.bool false) ∧ W = w')
theorem in_any (x a b : Int) (W : World) :
    Calls Try.prog 48 #[.int .i64 x, .int .i64 a, .int .i64 b] W (Within x a b W) := by
  by_cases h : a ≤ x ∧ x ≤ b
  · exact (in_yes x a b W h.1 h.2).mono fun _ _ ⟨he, hw⟩ => .inl ⟨h, he, hw⟩
  · exact (in_no x a b W h).mono fun _ _ ⟨he, hw⟩ => .inr ⟨h, he, hw⟩

theorem neighbor_bad (w h k d : Int) (W : World) (hn : ¬ (1 ≤ w ∧ w ≤ 4 ∧ 1 ≤ h ∧ h ≤ 4)) :
    Calls Try.prog 60 #[.agg #[.int .i64 w, .int .i64 h], .int .i64 k, .int .i64 d] W (Nm (-1) W) := by
  have HK := @Lib.hid _ (fun w' b => @nm_mk (-1) (-1) W w' rfl b)
  have HB := Lib.hid below_box
  have HN := Lib.hid hn
  clear hn
  go_enter Try.func60, Try.ntmps60
  go_wp2_with fail
  refine (countCells_no w h _ HN.out).mono ?_
  rintro e w1 ⟨rfl, hb⟩
  have hb1 := below_call (HB.out _ _) hb
  go_wp2_with fail
  refine (in_no k 0 (-1) _ (by omega)).mono ?_
  rintro e w1 ⟨rfl, rfl⟩
  go_wp2_with fail
  go_ret
  exact HK.out _ hb1

theorem neighbor_out (w h k d : Int) (W : World) (h1 : 1 ≤ w) (h2 : w ≤ 4) (h3 : 1 ≤ h) (h4 : h ≤ 4) (hn : ¬ (0 ≤ k ∧ k < w * h)) :
    Calls Try.prog 60 #[.agg #[.int .i64 w, .int .i64 h], .int .i64 k, .int .i64 d] W (Nm (-1) W) := by
  have HK := @Lib.hid _ (fun w' b => @nm_mk (-1) (-1) W w' rfl b)
  have HB := Lib.hid below_box
  obtain ⟨⟨p1, p2⟩, -, -⟩ := mul_bd w h h1 h2 h3 h4
  have HN := Lib.hid (show ¬ (0 ≤ k ∧ k ≤ w * h - 1) by omega)
  clear hn
  go_enter Try.func60, Try.ntmps60
  go_wp2_with fail
  refine (countCells_yes w h _ h1 h2 h3 h4).mono ?_
  rintro e w1 ⟨rfl, hb⟩
  have hb1 := below_call (HB.out _ _) hb
  go_wp2_with fail
  refine (in_no k 0 (w * h - 1) _ HN.out).mono ?_
  rintro e w1 ⟨rfl, rfl⟩
  go_wp2_with fail
  go_ret
  exact HK.out _ hb1

set_option maxHeartbeats 1000000 in
theorem neighbor_off (w h k d : Int) (W : World) (h1 : 1 ≤ w) (h2 : w ≤ 4) (h3 : 1 ≤ h) (h4 : h ≤ 4) (k0 : 0 ≤ k) (k1 : k < w * h) (hd : ¬ (0 ≤ d ∧ d ≤ 3)) :
    Calls Try.prog 60 #[.agg #[.int .i64 w, .int .i64 h], .int .i64 k, .int .i64 d] W (Nm (-1) W) := by
  have HK := @Lib.hid _ (fun w' b => @nm_mk (-1) (-1) W w' rfl b)
  have HB := Lib.hid below_box
  have d0 : (d == 0) = false := by simp; omega
  have d1 : (d == 1) = false := by simp; omega
  have d2 : (d == 2) = false := by simp; omega
  have d3 : (d == 3) = false := by simp; omega
  clear hd
  obtain rfl | rfl | rfl | rfl : w = 1 ∨ w = 2 ∨ w = 3 ∨ w = 4 := by omega
  all_goals
    go_enter Try.func60, Try.ntmps60
    go_wp2_with fail
    refine (countCells_yes _ h _ h1 h2 h3 h4).mono ?_
    rintro e w1 ⟨rfl, hb⟩
    have hb1 := below_call (HB.out _ _) hb
    have hx := Lib.hid ((box_new _ h W _).call hb)
    clear hb
    obtain ⟨c0, c1⟩ := hx.out.1
    go_wp2_with fail
    refine (in_yes k 0 _ _ k0 (by omega)).mono ?_
    rintro e w2 ⟨rfl, rfl⟩
    go_wp2_with fail
    go_ret
    exact HK.out _ hb1

set_option maxHeartbeats 2000000 in
theorem neighbor_on (w h k d : Int) (W : World) (h1 : 1 ≤ w) (h2 : w ≤ 4) (h3 : 1 ≤ h) (h4 : h ≤ 4) (k0 : 0 ≤ k) (k1 : k < w * h) (hd : 0 ≤ d ∧ d ≤ 3) :
    Calls Try.prog 60 #[.agg #[.int .i64 w, .int .i64 h], .int .i64 k, .int .i64 d] W (Nm (nbZ w h k d) W) := by
  have HK := @Lib.hid _ (fun w' a (e : a = nbZ w h k d) b => @nm_mk a (nbZ w h k d) W w' e b)
  have HB := Lib.hid below_box
  obtain rfl | rfl | rfl | rfl : w = 1 ∨ w = 2 ∨ w = 3 ∨ w = 4 := by omega
  all_goals
    obtain rfl | rfl | rfl | rfl : d = 0 ∨ d = 1 ∨ d = 2 ∨ d = 3 := by omega
    all_goals
      clear hd
      go_enter Try.func60, Try.ntmps60
      go_wp2_with fail
      refine (countCells_yes _ h _ h1 h2 h3 h4).mono ?_
      rintro e w1 ⟨rfl, hb⟩
      have hb1 := below_call (HB.out _ _) hb
      have hx := Lib.hid ((box_new _ h W _).call hb)
      clear hb
      obtain ⟨c0, c1⟩ := hx.out.1
      go_wp2_with fail
      refine (in_yes k 0 _ _ k0 (by omega)).mono ?_
      rintro e w2 ⟨rfl, rfl⟩
      go_wp2_with fail
      refine (in_any _ _ _ _).mono ?_
      rintro e w3 (⟨hp, rfl, rfl⟩ | ⟨hp, rfl, rfl⟩)
      · go_wp2_with fail
        refine (in_any _ _ _ _).mono ?_
        rintro e w3 (⟨hq, rfl, rfl⟩ | ⟨hq, rfl, rfl⟩)
        all_goals
          go_wp2_with fail
          go_ret
          refine HK.out _ _ ?_ hb1
          have hp' := hp.out
          have hq' := hq.out
          unfold nbZ
          repeat' split
          all_goals omega
      · go_wp2_with fail
        go_ret
        refine HK.out _ _ ?_ hb1
        have hp' := hp.out
        unfold nbZ
        repeat' split
        all_goals omega

theorem neighbor_any (w h k d : Int) (W : World) :
    Calls Try.prog 60 #[.agg #[.int .i64 w, .int .i64 h], .int .i64 k, .int .i64 d] W (Nm (nbZ w h k d) W) := by
  by_cases h1 : 1 ≤ w ∧ w ≤ 4 ∧ 1 ≤ h ∧ h ≤ 4
  · by_cases h2 : 0 ≤ k ∧ k < w * h
    · by_cases h3 : 0 ≤ d ∧ d ≤ 3
      · exact neighbor_on w h k d W h1.1 h1.2.1 h1.2.2.1 h1.2.2.2 h2.1 h2.2 h3
      · rw [nb_off h3]; exact neighbor_off w h k d W h1.1 h1.2.1 h1.2.2.1 h1.2.2.2 h2.1 h2.2 h3
    · rw [nb_out h2]; exact neighbor_out w h k d W h1.1 h1.2.1 h1.2.2.1 h1.2.2.2 h2
  · rw [nb_bad h1]; exact neighbor_bad w h k d W h1
end Go.Proofs.Ytomjfcmaoeoigaa.gridS
