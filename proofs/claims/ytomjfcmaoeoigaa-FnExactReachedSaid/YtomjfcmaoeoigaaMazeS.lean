/- The contracts of the model's functions on mazes that answer a number or a truth value. -/
import Derived.Test.YtomjfcmaoeoigaaMazeC
import Derived.Test.YtomjfcmaoeoigaaGridU
namespace Go.Proofs.Ytomjfcmaoeoigaa.mazeS
open Go.ChangeShapes Go.WideShapes Go.ChangeAt Go.RowKit
open draw gridP gridC bitP mazeP mazeC
set_option linter.unusedVariables false

/-- Whether a number is in a range. -/
def inB (x a b : Int) : Bool := decide (a ≤ x ∧ x ≤ b)
theorem in_b (x a b : Int) (W : World) :
    Calls Try.prog 48 #[.int .i64 x, .int .i64 a, .int .i64 b] W fun e w' => e = .returned (.bool (inB x a b)) ∧ W = w' := by
  by_cases h : a ≤ x ∧ x ≤ b
  · rw [show inB x a b = true from decide_eq_true h]; exact gridS.in_yes x a b W h.1 h.2
  · rw [show inB x a b = false from decide_eq_false h]; exact gridS.in_no x a b W h

/-- Whether a place is 1. -/
def btB (o g : Int) : Bool := decide (bitZ o g = 1)
theorem bit_b (o g : Int) (W : World) (o0 : 0 ≤ o) (o1 : o < 16777216) (g0 : 0 ≤ g) (g1 : g < 24) :
    Calls Try.prog 66 #[.int .i64 o, .int .i64 g] W fun e w' => e = .returned (.bool (btB o g)) ∧ W = w' := by
  have hp : (bits .and .i64 (o / 2 ^ g.toNat) 1 == 1) = btB o g := by
    rw [bit_is o0 o1 g0]; unfold btB; rw [Bool.eq_iff_iff]; simp
  have HP := Lib.hid hp
  clear hp
  go_enter Try.func66, Try.ntmps66
  go_wp2_with fail
  go_ret
  exact ⟨by rw [← HP.out]; rfl, rfl⟩

set_option maxHeartbeats 1000000 in
theorem ok_bad (w h o : Int) (W : World) (hn : ¬ (1 ≤ w ∧ w ≤ 4 ∧ 1 ≤ h ∧ h ≤ 4)) :
    Calls Try.prog 37 #[.agg #[.int .i64 w, .int .i64 h, .int .i64 o]] W (Bl false W) := by
  have HK := @Lib.hid _ (fun w' b => @bl_mk false false W w' rfl b)
  have HO := Lib.hid (fun X => gridS.gridOk_no w h X hn)
  have hx := Lib.hid (mbox_new w h o W 27)
  clear hn
  go_enter Try.func37, Try.ntmps37
  go_wp2_with fail
  first
    | go_region_with ((go_at_call 33; refine (HO.out _).mono ?_; rintro e w1 ⟨rfl, hb⟩; obtain ⟨c0, c1, c2⟩ := (mbox_after hb hx.out).1))
    | fail
  all_goals
    go_wp2_with fail
    go_ret
    exact HK.out _ (by refine below_call ?_ hb; repeat (first | exact Below.refl _ _ | refine Below.drew ?_ | refine Below.alloc ?_ (by simp) _))

theorem ok_good (w h o : Int) (W : World) (h1 : 1 ≤ w) (h2 : w ≤ 4) (h3 : 1 ≤ h) (h4 : h ≤ 4) :
    Calls Try.prog 37 #[.agg #[.int .i64 w, .int .i64 h, .int .i64 o]] W (Bl (okB w h o) W) := by
  have HK := @Lib.hid _ (fun w' a (e : a = okB w h o) b => @bl_mk a _ W w' e b)
  have HO := Lib.hid (fun X => gridS.gridOk_yes w h X h1 h2 h3 h4)
  have HG : Hid (∀ X, Calls Try.prog 40 #[.agg #[.int .i64 w, .int .i64 h]] X (Nm (gpsZ w h) X)) := fun X => gridS.countGaps_yes w h X h1 h2 h3 h4
  have hx := Lib.hid (mbox_new w h o W 27)
  obtain ⟨g0, g1⟩ := gps_bd h1 h2 h3 h4
  have HT : Hid (∀ z, z = 2 ^ (gpsZ w h).toNat - 1 → inB o 0 z = okB w h o) := fun z hz => by
    subst hz; unfold inB okB OkM topZ; simp [h1, h2, h3, h4]
  have HP := Lib.hid (pow_bd _ g1)
  generalize gpsZ w h = G at *
  generalize okB w h o = v at *
  go_enter Try.func37, Try.ntmps37
  go_wp2_with fail
  go_region_held3 (fun w' => w'.cell? ⟨W.heap.size, 0, none⟩ = some (.int .i64 w) ∧ w'.cell? ⟨W.heap.size, 1, none⟩ = some (.int .i64 h) ∧ w'.cell? ⟨W.heap.size, 2, none⟩ = some (.int .i64 o)) (go_keep)
    (first | (go_at_call 33; refine (HO.out _).mono ?_; rintro e w1 ⟨rfl, hb⟩; have hx1 := Lib.hid (mbox_after hb hx.out); obtain ⟨c0, c1, c2⟩ := hx1.out.1) | (go_at_call 40; refine (HG.out _).mono ?_; rintro e w2 ⟨rfl, hb2⟩; obtain ⟨c0', c1', c2'⟩ := (mbox_after hb2 hx1.out).1) | (go_at_call 48; refine (in_b _ _ _ _).mono ?_; rintro e w3 ⟨rfl, rfl⟩))
  all_goals
    go_wp2_with fail
    go_ret
    exact HK.out _ _ (HT.out _ (by have := HP.out; rw [IntWalk.i64_in (2 ^ G.toNat) (by omega), IntWalk.i64_in _ (by omega)])) (by repeat (first | exact Below.refl _ _ | refine below_call ?_ hb2 | refine below_call ?_ hb | refine Below.drew ?_ | refine Below.alloc ?_ (by simp) _))

theorem ok_any (w h o : Int) (W : World) :
    Calls Try.prog 37 #[.agg #[.int .i64 w, .int .i64 h, .int .i64 o]] W (Bl (okB w h o) W) := by
  by_cases hn : 1 ≤ w ∧ w ≤ 4 ∧ 1 ≤ h ∧ h ≤ 4
  · obtain ⟨h1, h2, h3, h4⟩ := hn
    exact ok_good w h o W h1 h2 h3 h4
  · have : okB w h o = false := by unfold okB OkM; simp only [hn, false_and, decide_false]
    rw [this]; exact ok_bad w h o W hn

theorem isPassage_bad (w h o g : Int) (W : World) (hv : okB w h o = false) :
    Calls Try.prog 58 #[.agg #[.int .i64 w, .int .i64 h, .int .i64 o], .int .i64 g] W (Bl (psB w h o g) W) := by
  have hp : false = psB w h o g := by
    unfold psB; unfold okB at hv
    simp only [decide_eq_false_iff_not] at hv
    symm; rw [decide_eq_false_iff_not]; exact fun e => hv e.1
  have HK := @Lib.hid _ (fun w' b => @bl_mk false (psB w h o g) W w' hp b)
  have HB := Lib.hid below_box
  have HO := Lib.hid (fun X => ok_any w h o X)
  rw [hv] at HO
  clear hv hp
  go_enter Try.func58, Try.ntmps58
  go_wp2_with fail
  refine (HO.out _).mono ?_
  rintro e w1 ⟨rfl, hb⟩
  have hbl1 := Lib.hid (below_call (HB.out _ _) hb)
  clear hb
  go_wp2_with fail
  go_ret
  exact HK.out _ hbl1.out

theorem isPassage_on (w h o g : Int) (W : World) (hv : OkM w h o) :
    Calls Try.prog 58 #[.agg #[.int .i64 w, .int .i64 h, .int .i64 o], .int .i64 g] W (Bl (psB w h o g) W) := by
  have HB := Lib.hid below_box
  have HO := Lib.hid (fun X => ok_any w h o X)
  rw [show okB w h o = true from decide_eq_true hv] at HO
  have hv' := hv
  obtain ⟨⟨h1, h2, h3, h4⟩, -, -⟩ := hv'
  have HG : Hid (∀ X, Calls Try.prog 40 #[.agg #[.int .i64 w, .int .i64 h]] X (Nm (gpsZ w h) X)) := fun X => gridS.countGaps_yes w h X h1 h2 h3 h4
  obtain ⟨q0, q1⟩ := gps_bd h1 h2 h3 h4
  by_cases hg : 0 ≤ g ∧ g < gpsZ w h
  · have hlt := hv.lt
    have hp : btB o g = psB w h o g := by
      unfold btB psB; rw [Bool.eq_iff_iff]; simp [hv, hg.1, hg.2]
    have HK := @Lib.hid _ (fun w' b => @bl_mk _ (psB w h o g) W w' hp b)
    have HI : Hid (∀ X, Calls Try.prog 48 #[.int .i64 g, .int .i64 0, .int .i64 (gpsZ w h - 1)] X fun e w' => e = .returned (.bool true) ∧ X = w') := fun X => gridS.in_yes g 0 _ X hg.1 (by omega)
    have HT := Lib.hid (fun X => bit_b o g X hlt.1 hlt.2 hg.1 (by omega))
    clear hp hg hv hlt
    generalize gpsZ w h = G at *
    go_enter Try.func58, Try.ntmps58
    go_wp2_with fail
    refine (HO.out _).mono ?_
    rintro e w1 ⟨rfl, hb⟩
    have hbl1 := Lib.hid (below_call (HB.out _ _) hb)
    have hxc1 := Lib.hid ((mbox_new w h o W _).call hb)
    clear hb
    obtain ⟨c0, c1, c2⟩ := hxc1.out.1
    go_wp2_with fail
    refine (HG.out _).mono ?_
    rintro e w2 ⟨rfl, hb⟩
    have hbl2 := Lib.hid (below_call hbl1.out hb)
    have hxc2 := Lib.hid (hxc1.out.call hb)
    clear hb hbl1  hxc1 c0 c1 c2
    obtain ⟨c0, c1, c2⟩ := hxc2.out.1
    go_wp2_with fail
    refine (HI.out _).mono ?_
    rintro e w' ⟨rfl, rfl⟩
    go_wp2_with fail
    refine (HT.out _).mono ?_
    rintro e w' ⟨rfl, rfl⟩
    go_wp2_with fail
    go_ret
    exact HK.out _ hbl2.out
  · have hp : false = psB w h o g := by
      unfold psB; symm; rw [decide_eq_false_iff_not]; exact fun e => hg ⟨e.2.1, e.2.2.1⟩
    have HK := @Lib.hid _ (fun w' b => @bl_mk false (psB w h o g) W w' hp b)
    have HI : Hid (∀ X, Calls Try.prog 48 #[.int .i64 g, .int .i64 0, .int .i64 (gpsZ w h - 1)] X fun e w' => e = .returned (.bool false) ∧ X = w') := fun X => gridS.in_no g 0 _ X (by omega)
    clear hp hg hv
    generalize gpsZ w h = G at *
    go_enter Try.func58, Try.ntmps58
    go_wp2_with fail
    refine (HO.out _).mono ?_
    rintro e w1 ⟨rfl, hb⟩
    have hbl1 := Lib.hid (below_call (HB.out _ _) hb)
    have hxc1 := Lib.hid ((mbox_new w h o W _).call hb)
    clear hb
    obtain ⟨c0, c1, c2⟩ := hxc1.out.1
    go_wp2_with fail
    refine (HG.out _).mono ?_
    rintro e w2 ⟨rfl, hb⟩
    have hbl2 := Lib.hid (below_call hbl1.out hb)
    have hxc2 := Lib.hid (hxc1.out.call hb)
    clear hb hbl1  hxc1 c0 c1 c2
    obtain ⟨c0, c1, c2⟩ := hxc2.out.1
    go_wp2_with fail
    refine (HI.out _).mono ?_
    rintro e w' ⟨rfl, rfl⟩
    go_wp2_with fail
    go_ret
    exact HK.out _ hbl2.out

theorem isPassage_any (w h o g : Int) (W : World) :
    Calls Try.prog 58 #[.agg #[.int .i64 w, .int .i64 h, .int .i64 o], .int .i64 g] W (Bl (psB w h o g) W) := by
  by_cases hv : OkM w h o
  · exact isPassage_on w h o g W hv
  · exact isPassage_bad w h o g W (decide_eq_false hv)
end Go.Proofs.Ytomjfcmaoeoigaa.mazeS
