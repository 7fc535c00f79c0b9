/- The library's count of the places that are 1, for numbers below 2 to the power of 24. -/
import Derived.Test.YtkknnikhpembiaaBase
import Derived.Test.YtkknnikhpembiaaPlain
import Derived.Test.YtkknnikhpembiaaMzB
import Derived.Test.YtkknnikhpembiaaPrgG
import Derived.Outline

namespace Go.Proofs.Ytkknnikhpembiaa.mazeO
open Go.ChangeShapes Go.WideShapes Go.ChangeAt Go.RowKit
open bitP
set_option linter.unusedVariables false

end Go.Proofs.Ytkknnikhpembiaa.mazeO

/- The contracts of the program's exported functions on mazes. -/
namespace Go.Proofs.Ytkknnikhpembiaa.mazeI
open Go.ChangeShapes Go.WideShapes Go.ChangeAt Go.RowKit
open draw gridP gridC bitP mazeP mazeC
set_option linter.unusedVariables false

theorem ok_any (w h o : Int) (W : World) :
    Calls Try.prog 48 #[.agg #[.int .i64 w, .int .i64 h, .int .i64 o]] W (Bl (okB w h o) W) := by
  by_cases hn : 1 ≤ w ∧ w ≤ 4 ∧ 1 ≤ h ∧ h ≤ 4
  · obtain ⟨h1, h2, h3, h4⟩ := hn
    exact mok_any w h o W h1 h2 h3 h4 _ (by unfold okB OkM; simp [h1, h2, h3, h4])
  · have : okB w h o = false := by unfold okB OkM; simp only [hn, false_and, decide_false]
    rw [this]; exact mok_bad w h o W hn

theorem isPassage_bad (w h o g : Int) (W : World) (hv : okB w h o = false) :
    Calls Try.prog 54 #[.agg #[.int .i64 w, .int .i64 h, .int .i64 o], .int .i64 g] W (Bl (psB w h o g) W) := by
  have hp : false = psB w h o g := by
    unfold psB; unfold okB at hv
    simp only [decide_eq_false_iff_not] at hv
    symm; rw [decide_eq_false_iff_not]; exact fun e => hv e.1
  have HK := @Lib.hid _ (fun w' b => @bl_mk false (psB w h o g) W w' hp b)
  have HB := Lib.hid below_box
  have HO := Lib.hid (fun X => ok_any w h o X)
  rw [hv] at HO
  clear hv hp
  go_enter Try.func54, Try.ntmps54
  go_wp2_with fail
  refine (HO.out _).mono ?_
  rintro e w1 ⟨rfl, hb⟩
  have hbl1 := Lib.hid (below_call (HB.out _ _) hb)
  clear hb
  go_wp2_with fail
  go_ret
  exact HK.out _ hbl1.out

theorem isPassage_on (w h o g : Int) (W : World) (hv : OkM w h o) :
    Calls Try.prog 54 #[.agg #[.int .i64 w, .int .i64 h, .int .i64 o], .int .i64 g] W (Bl (psB w h o g) W) := by
  have HB := Lib.hid below_box
  have HO := Lib.hid (fun X => ok_any w h o X)
  rw [show okB w h o = true from decide_eq_true hv] at HO
  have hv' := hv
  obtain ⟨⟨h1, h2, h3, h4⟩, -, -⟩ := hv'
  by_cases hg : 0 ≤ g ∧ g < gpsZ w h
  · have hlt := hv.lt
    have hp : (bits .and .i64 (o / 2 ^ g.toNat) 1 == 1) = psB w h o g := by
      rw [bit_is hlt.1 hlt.2 hg.1]
      unfold psB; rw [Bool.eq_iff_iff]; simp [hv, hg.1, hg.2]
    have HK := @Lib.hid _ (fun w' b => @bl_mk _ (psB w h o g) W w' hp b)
    have HG : Hid (∀ X, Calls Try.prog 72 #[.agg #[.int .i64 w, .int .i64 h], .int .i64 g] X (Bl true X)) := fun X => hasGap_yes w h g X h1 h2 h3 h4 hg.1 hg.2
    have g0 := hg.1
    have g1 : g < 24 := by have := (gps_bd h1 h2 h3 h4).2; omega
    clear hp hg hv
    go_enter Try.func54, Try.ntmps54
    go_wp2_with fail
    refine (HO.out _).mono ?_
    rintro e w1 ⟨rfl, hb⟩
    have hbl1 := Lib.hid (below_call (HB.out _ _) hb)
    have hxc1 := Lib.hid ((mbox_new w h o W _).call hb)
    clear hb
    obtain ⟨c0, c1, c2⟩ := hxc1.out.1
    go_wp2_with fail
    refine (HG.out _).mono ?_
    rintro e w2 ⟨rfl, hb⟩
    have hbl2 := Lib.hid (below_call hbl1.out hb)
    have hxc2 := Lib.hid (hxc1.out.call hb)
    clear hb hbl1  hxc1 c0 c1 c2
    obtain ⟨c0, c1, c2⟩ := hxc2.out.1
    go_wp2_with fail
    go_ret
    exact HK.out _ hbl2.out
  · have hp : false = psB w h o g := by
      unfold psB; symm; rw [decide_eq_false_iff_not]; exact fun e => hg ⟨e.2.1, e.2.2.1⟩
    have HK := @Lib.hid _ (fun w' b => @bl_mk false (psB w h o g) W w' hp b)
    have HG : Hid (∀ X, Calls Try.prog 72 #[.agg #[.int .i64 w, .int .i64 h], .int .i64 g] X (Bl false X)) := fun X => hasGap_no w h g X h1 h2 h3 h4 hg
    clear hp hg hv
    go_enter Try.func54, Try.ntmps54
    go_wp2_with fail
    refine (HO.out _).mono ?_
    rintro e w1 ⟨rfl, hb⟩
    have hbl1 := Lib.hid (below_call (HB.out _ _) hb)
    have hxc1 := Lib.hid ((mbox_new w h o W _).call hb)
    clear hb
    obtain ⟨c0, c1, c2⟩ := hxc1.out.1
    go_wp2_with fail
    refine (HG.out _).mono ?_
    rintro e w2 ⟨rfl, hb⟩
    have hbl2 := Lib.hid (below_call hbl1.out hb)
    have hxc2 := Lib.hid (hxc1.out.call hb)
    clear hb hbl1  hxc1 c0 c1 c2
    obtain ⟨c0, c1, c2⟩ := hxc2.out.1
    go_wp2_with fail
    go_ret
    exact HK.out _ hbl2.out

theorem isPassage_any (w h o g : Int) (W : World) :
    Calls Try.prog 54 #[.agg #[.int .i64 w, .int .i64 h, .int .i64 o], .int .i64 g] W (Bl (psB w h o g) W) := by
  by_cases hv : OkM w h o
  · exact isPassage_on w h o g W hv
  · exact isPassage_bad w h o g W (decide_eq_false hv)

theorem step_any (w h o k d : Int) (W : World) :
    Calls Try.prog 40 #[.agg #[.int .i64 w, .int .i64 h, .int .i64 o], .int .i64 k, .int .i64 d] W (Nm (stZ w h o k d) W) := by
  have HB := Lib.hid below_box
  have HG := Lib.hid (fun X => gridI.gapAt_any w h k d X)
  have HN := Lib.hid (fun X => gridI.neighbor_any w h k d X)
  have HP := Lib.hid (fun X => isPassage_any w h o (gpZ w h k d) X)
  have hx := Lib.hid (mbox_new w h o W 27)
  by_cases hp : psB w h o (gpZ w h k d) = true
  · have hs : nbZ w h k d = stZ w h o k d := by unfold stZ; rw [if_pos hp]
    have HK := @Lib.hid _ (fun w' b => @nm_mk _ _ W w' hs b)
    rw [hp] at HP
    clear hs hp
    generalize gpZ w h k d = g at *
    generalize nbZ w h k d = v at *
    go_enter Try.func40, Try.ntmps40
    go_wp2_with fail
    go_region_held3 (fun w' => w'.cell? ⟨W.heap.size, 0, none⟩ = some (.int .i64 w) ∧ w'.cell? ⟨W.heap.size, 1, none⟩ = some (.int .i64 h) ∧ w'.cell? ⟨W.heap.size, 2, none⟩ = some (.int .i64 o)) (go_keep)
      (first | (go_at_call 55; refine (HG.out _).mono ?_; rintro e w1 ⟨rfl, hb⟩; have hx1 := Lib.hid (mbox_after hb hx.out); obtain ⟨c0, c1, c2⟩ := hx1.out.1) | (go_at_call 54; refine (HP.out _).mono ?_; rintro e w2 ⟨rfl, hb2⟩; have hx2 := Lib.hid (mbox_after hb2 hx1.out); obtain ⟨c0', c1', c2'⟩ := hx2.out.1))
    all_goals
      go_wp2_with fail
      refine (HN.out _).mono ?_
      rintro e w3 ⟨rfl, hb3⟩
      go_wp2_with fail
      go_ret
      exact HK.out _ (by refine below_call ?_ hb3; refine below_call ?_ hb2; repeat (first | exact Below.refl _ _ | refine below_call ?_ hb | refine Below.drew ?_ | refine Below.alloc ?_ (by simp) _))
  · have hp' : psB w h o (gpZ w h k d) = false := by simpa using hp
    have hs : -1 = stZ w h o k d := by unfold stZ; rw [if_neg hp]
    have HK := @Lib.hid _ (fun w' b => @nm_mk _ _ W w' hs b)
    rw [hp'] at HP
    clear hs hp hp'
    generalize gpZ w h k d = g at *
    generalize nbZ w h k d = v at *
    go_enter Try.func40, Try.ntmps40
    go_wp2_with fail
    go_region_held3 (fun w' => w'.cell? ⟨W.heap.size, 0, none⟩ = some (.int .i64 w) ∧ w'.cell? ⟨W.heap.size, 1, none⟩ = some (.int .i64 h) ∧ w'.cell? ⟨W.heap.size, 2, none⟩ = some (.int .i64 o)) (go_keep)
      (first | (go_at_call 55; refine (HG.out _).mono ?_; rintro e w1 ⟨rfl, hb⟩; have hx1 := Lib.hid (mbox_after hb hx.out); obtain ⟨c0, c1, c2⟩ := hx1.out.1) | (go_at_call 54; refine (HP.out _).mono ?_; rintro e w2 ⟨rfl, hb2⟩; obtain ⟨c0', c1', c2'⟩ := (mbox_after hb2 hx1.out).1))
    all_goals
      go_wp2_with fail
      go_ret
      exact HK.out _ (by refine below_call ?_ hb2; repeat (first | exact Below.refl _ _ | refine below_call ?_ hb | refine Below.drew ?_ | refine Below.alloc ?_ (by simp) _))
end Go.Proofs.Ytkknnikhpembiaa.mazeI

/- The contracts of the program's functions that answer a maze. -/
namespace Go.Proofs.Ytkknnikhpembiaa.mazeI
open Go.ChangeShapes Go.WideShapes Go.ChangeAt Go.RowKit
open draw gridP gridC bitP mazeP mazeC mazeM
set_option linter.unusedVariables false

end Go.Proofs.Ytkknnikhpembiaa.mazeI

/- The contract of the program's directions in which a passage leads on. -/
namespace Go.Proofs.Ytkknnikhpembiaa.mazeI
open Go.ChangeShapes Go.WideShapes Go.ChangeAt Go.RowKit
open draw gridP gridC bitP mazeP mazeC mazeM intsP mazeV
set_option linter.unusedVariables false

end Go.Proofs.Ytkknnikhpembiaa.mazeI
