/- The library's count of the places that are 1, for numbers below 2 to the power of 24. -/
import Derived.Test.YthfcemihaoijgaaBase
import Derived.Test.YthfcemihaoijgaaPlain
import Derived.Test.YthfcemihaoijgaaMzB
import Derived.Test.YthfcemihaoijgaaPrgG
import Derived.Outline

namespace Go.Proofs.Ythfcemihaoijgaa.mazeO
open Go.ChangeShapes Go.WideShapes Go.ChangeAt Go.RowKit
open bitP
set_option linter.unusedVariables false

end Go.Proofs.Ythfcemihaoijgaa.mazeO

/- The contracts of the program's exported functions on mazes. -/
namespace Go.Proofs.Ythfcemihaoijgaa.mazeI
open Go.ChangeShapes Go.WideShapes Go.ChangeAt Go.RowKit
open draw gridP gridC bitP mazeP mazeC
set_option linter.unusedVariables false

theorem ok_any (w h o : Int) (W : World) :
    Calls Try.prog 38 #[.agg #[.int .i64 w, .int .i64 h, .int .i64 o]] W (Bl (okB w h o) W) := by
  by_cases hn : 1 ≤ w ∧ w ≤ 4 ∧ 1 ≤ h ∧ h ≤ 4
  · obtain ⟨h1, h2, h3, h4⟩ := hn
    exact mok_any w h o W h1 h2 h3 h4 _ (by unfold okB OkM; simp [h1, h2, h3, h4])
  · have : okB w h o = false := by unfold okB OkM; simp only [hn, false_and, decide_false]
    rw [this]; exact mok_bad w h o W hn

theorem isPassage_bad (w h o g : Int) (W : World) (hv : okB w h o = false) :
    Calls Try.prog 64 #[.agg #[.int .i64 w, .int .i64 h, .int .i64 o], .int .i64 g] W (Bl (psB w h o g) W) := by
  have hp : false = psB w h o g := by
    unfold psB; unfold okB at hv
    simp only [decide_eq_false_iff_not] at hv
    symm; rw [decide_eq_false_iff_not]; exact fun e => hv e.1
  have HK := @Lib.hid _ (fun w' b => @bl_mk false (psB w h o g) W w' hp b)
  have HB := Lib.hid below_box
  have HO := Lib.hid (fun X => ok_any w h o X)
  rw [hv] at HO
  clear hv hp
  go_enter Try.func64, Try.ntmps64
  go_wp2_with fail
  refine (HO.out _).mono ?_
  rintro e w1 ⟨rfl, hb⟩
  have hbl1 := Lib.hid (below_call (HB.out _ _) hb)
  clear hb
  go_wp2_with fail
  go_ret
  exact HK.out _ hbl1.out

theorem isPassage_on (w h o g : Int) (W : World) (hv : OkM w h o) :
    Calls Try.prog 64 #[.agg #[.int .i64 w, .int .i64 h, .int .i64 o], .int .i64 g] W (Bl (psB w h o g) W) := by
  have HB := Lib.hid below_box
  have HO := Lib.hid (fun X => ok_any w h o X)
  rw [show okB w h o = true from decide_eq_true hv] at HO
  have hv' := hv
  obtain ⟨⟨h1, h2, h3, h4⟩, -, -⟩ := hv'
  by_cases hg : 0 ≤ g ∧ g < gpsZ w h
  · have hlt := hv.lt
    have hp : (bits .and .i64 (o / 2 ^ g.toNat) 1 == 1) = psB w h o g := by
      rw [bit_is hlt.1 hlt.2 hg.1]
      unfold psB; rw [Bool.eq_iff_iff]; simp [hv, hg.1, hg.2]
    have HK := @Lib.hid _ (fun w' b => @bl_mk _ (psB w h o g) W w' hp b)
    have HG : Hid (∀ X, Calls Try.prog 75 #[.agg #[.int .i64 w, .int .i64 h], .int .i64 g] X (Bl true X)) := fun X => hasGap_yes w h g X h1 h2 h3 h4 hg.1 hg.2
    have g0 := hg.1
    have g1 : g < 24 := by have := (gps_bd h1 h2 h3 h4).2; omega
    clear hp hg hv
    go_enter Try.func64, Try.ntmps64
    go_wp2_with fail
    refine (HO.out _).mono ?_
    rintro e w1 ⟨rfl, hb⟩
    have hbl1 := Lib.hid (below_call (HB.out _ _) hb)
    have hxc1 := Lib.hid ((mbox_new w h o W _).call hb)
    clear hb
    obtain ⟨c0, c1, c2⟩ := hxc1.out.1
    go_wp2_with fail
    refine (HG.out _).mono ?_
    rintro e w2 ⟨rfl, hb⟩
    have hbl2 := Lib.hid (below_call hbl1.out hb)
    have hxc2 := Lib.hid (hxc1.out.call hb)
    clear hb hbl1  hxc1 c0 c1 c2
    obtain ⟨c0, c1, c2⟩ := hxc2.out.1
    go_wp2_with fail
    go_ret
    exact HK.out _ hbl2.out
  · have hp : false = psB w h o g := by
      unfold psB; symm; rw [decide_eq_false_iff_not]; exact fun e => hg ⟨e.2.1, e.2.2.1⟩
    have HK := @Lib.hid _ (fun w' b => @bl_mk false (psB w h o g) W w' hp b)
    have HG : Hid (∀ X, Calls Try.prog 75 #[.agg #[.int .i64 w, .int .i64 h], .int .i64 g] X (Bl false X)) := fun X => hasGap_no w h g X h1 h2 h3 h4 hg
    clear hp hg hv
    go_enter Try.func64, Try.ntmps64
    go_wp2_with fail
    refine (HO.out _).mono ?_
    rintro e w1 ⟨rfl, hb⟩
    have hbl1 := Lib.hid (below_call (HB.out _ _) hb)
    have hxc1 := Lib.hid ((mbox_new w h o W _).call hb)
    clear hb
    obtain ⟨c0, c1, c2⟩ := hxc1.out.1
    go_wp2_with fail
    refine (HG.out _).mono ?_
    rintro e w2 ⟨rfl, hb⟩
    have hbl2 := Lib.hid (below_call hbl1.out hb)
    have hxc2 := Lib.hid (hxc1.out.call hb)
    clear hb hbl1  hxc1 c0 c1 c2
    obtain ⟨c0, c1, c2⟩ := hxc2.out.1
    go_wp2_with fail
    go_ret
    exact HK.out _ hbl2.out

theorem isPassage_any (w h o g : Int) (W : World) :
    Calls Try.prog 64 #[.agg #[.int .i64 w, .int .i64 h, .int .i64 o], .int .i64 g] W (Bl (psB w h o g) W) := by
  by_cases hv : OkM w h o
  · exact isPassage_on w h o g W hv
  · exact isPassage_bad w h o g W (decide_eq_false hv)

theorem step_any (w h o k d : Int) (W : World) :
    Calls Try.prog 40 #[.agg #[.int .i64 w, .int .i64 h, .int .i64 o], .int .i64 k, .int .i64 d] W (Nm (stZ w h o k d) W) := by
  have HB := Lib.hid below_box
  have HG := Lib.hid (fun X => gridI.gapAt_any w h k d X)
  have HN := Lib.hid (fun X => gridI.neighbor_any w h k d X)
  have HP := Lib.hid (fun X => isPassage_any w h o (gpZ w h k d) X)
  have hx := Lib.hid (mbox_new w h o W 27)
  by_cases hp : psB w h o (gpZ w h k d) = true
  · have hs : nbZ w h k d = stZ w h o k d := by unfold stZ; rw [if_pos hp]
    have HK := @Lib.hid _ (fun w' b => @nm_mk _ _ W w' hs b)
    rw [hp] at HP
    clear hs hp
    generalize gpZ w h k d = g at *
    generalize nbZ w h k d = v at *
    go_enter Try.func40, Try.ntmps40
    go_wp2_with fail
    go_region_held3 (fun w' => w'.cell? ⟨W.heap.size, 0, none⟩ = some (.int .i64 w) ∧ w'.cell? ⟨W.heap.size, 1, none⟩ = some (.int .i64 h) ∧ w'.cell? ⟨W.heap.size, 2, none⟩ = some (.int .i64 o)) (go_keep)
      (first | (go_at_call 65; refine (HG.out _).mono ?_; rintro e w1 ⟨rfl, hb⟩; have hx1 := Lib.hid (mbox_after hb hx.out); obtain ⟨c0, c1, c2⟩ := hx1.out.1) | (go_at_call 64; refine (HP.out _).mono ?_; rintro e w2 ⟨rfl, hb2⟩; have hx2 := Lib.hid (mbox_after hb2 hx1.out); obtain ⟨c0', c1', c2'⟩ := hx2.out.1))
    all_goals
      go_wp2_with fail
      refine (HN.out _).mono ?_
      rintro e w3 ⟨rfl, hb3⟩
      go_wp2_with fail
      go_ret
      exact HK.out _ (by refine below_call ?_ hb3; refine below_call ?_ hb2; repeat (first | exact Below.refl _ _ | refine below_call ?_ hb | refine Below.drew ?_ | refine Below.alloc ?_ (by simp) _))
  · have hp' : psB w h o (gpZ w h k d) = false := by simpa using hp
    have hs : -1 = stZ w h o k d := by unfold stZ; rw [if_neg hp]
    have HK := @Lib.hid _ (fun w' b => @nm_mk _ _ W w' hs b)
    rw [hp'] at HP
    clear hs hp hp'
    generalize gpZ w h k d = g at *
    generalize nbZ w h k d = v at *
    go_enter Try.func40, Try.ntmps40
    go_wp2_with fail
    go_region_held3 (fun w' => w'.cell? ⟨W.heap.size, 0, none⟩ = some (.int .i64 w) ∧ w'.cell? ⟨W.heap.size, 1, none⟩ = some (.int .i64 h) ∧ w'.cell? ⟨W.heap.size, 2, none⟩ = some (.int .i64 o)) (go_keep)
      (first | (go_at_call 65; refine (HG.out _).mono ?_; rintro e w1 ⟨rfl, hb⟩; have hx1 := Lib.hid (mbox_after hb hx.out); obtain ⟨c0, c1, c2⟩ := hx1.out.1) | (go_at_call 64; refine (HP.out _).mono ?_; rintro e w2 ⟨rfl, hb2⟩; obtain ⟨c0', c1', c2'⟩ := (mbox_after hb2 hx1.out).1))
    all_goals
      go_wp2_with fail
      go_ret
      exact HK.out _ (by refine below_call ?_ hb2; repeat (first | exact Below.refl _ _ | refine below_call ?_ hb | refine Below.drew ?_ | refine Below.alloc ?_ (by simp) _))
end Go.Proofs.Ythfcemihaoijgaa.mazeI

/- The contracts of the program's functions that answer a maze. -/
namespace Go.Proofs.Ythfcemihaoijgaa.mazeI
open Go.ChangeShapes Go.WideShapes Go.ChangeAt Go.RowKit
open draw gridP gridC bitP mazeP mazeC mazeM
set_option linter.unusedVariables false

end Go.Proofs.Ythfcemihaoijgaa.mazeI

/- The contract of the program's directions in which a passage leads on. -/
namespace Go.Proofs.Ythfcemihaoijgaa.mazeI
open Go.ChangeShapes Go.WideShapes Go.ChangeAt Go.RowKit
open draw gridP gridC bitP mazeP mazeC mazeM intsP mazeV
set_option linter.unusedVariables false

set_option maxRecDepth 100000 in
theorem waysFrom_any (w h o k : Int) (W : World) :
    Calls Try.prog 60 #[.agg #[.int .i64 w, .int .i64 h, .int .i64 o], .int .i64 k] W (Ints (wlZ w h o k) W) := by
  have HK := @Lib.hid _ (fun w' v n base => @ints_mk (wlZ w h o k) W w' v n base)
  obtain ⟨i0, hi0, hz0, hz1, hz2⟩ := info_parts info_int
  have HN0 := Lib.hid (World.ownsRow_nil (W.alloc (.cells #[.int .i64 w, .int .i64 h, .int .i64 o] 27)) (W.heap.size + 1) 3 1)
  have HB0 := Lib.hid (below_box W (.cells #[.int .i64 w, .int .i64 h, .int .i64 o] 27))
  have HX0 := Lib.hid (mbox_new w h o W 27)
  go_enter Try.func60, Try.ntmps60
  go_wp2_with fail
  go_loopw [5, 6] (fun u5 u6 wr => WRel W W.heap.size w h o k u5 u6 wr) (fun _ u6 _ => 4 - (intOf u6).toNat)
  case atStart => exact ⟨0, by omega, rfl, HN0.out, HB0.out, HX0.out⟩
  case round =>
    obtain ⟨d, hd, rfl, hown, hb, hx⟩ := hrel
    obtain ⟨A5, c5, rfl⟩ := own_form hown
    have hbl0 := Lib.hid hb
    have hxc0 := Lib.hid hx
    have HO := Lib.hid hown
    have hlen := wlN_len w h o k d
    obtain ⟨c0, c1, c2⟩ := hx.1
    clear HN0 HB0 HX0 hb hx hown
    by_cases hd4 : d < 4
    · have HS : Hid (∀ X, Calls Try.prog 40 #[.agg #[.int .i64 w, .int .i64 h, .int .i64 o], .int .i64 k, .int .i64 d] X (Nm (stZ w h o k d) X)) := fun X => step_any w h o k d X
      have hge := st_ge w h o k d
      by_cases hs : 0 ≤ stZ w h o k d
      · have HA := @Lib.hid _ (fun w2 w3 gg cap v ob a b c e f => @w_add W w2 w3 W.heap.size w h o k d gg cap v ob hd4 hs a b c (Nat.le_refl _) e f)
        have hne : (stZ w h o k d != -1) = true := by simp; omega
        have hsz := hbl0.out.size
        clear hs hge
        generalize stZ w h o k d = s at *
        go_wp2_with fail
        refine (HS.out _).mono ?_
        rintro e w1 ⟨rfl, hb⟩
        have hown1 := own_call HO.out hb
        have hbl1 := below_call hbl0.out hb
        have HX1 := Lib.hid (hxc0.out.call hb)
        have hz1' := hbl1.size
        have hmb := HX1.out.2
        clear hb c0 c1 c2
        go_wp2_with (at_builtin; refine wpList_append_lies _ rfl (.tmp 16) (.tmp 18) 28 rfl (W.heap.size + 1) 3 i0 _ 1 8 Try.underlying28 hi0 hz0 hz1 hz2 rfl (by omega) _ (wlN w h o k d).length _ rfl (hown1.alloc _) ⟨w1.heap.size, 0, none⟩ 1 1 (icells [(d : Int)]) rfl rfl (news_eqI rfl (heap_alloc_new w1 _)) (oneCellI _) (by omega) (by unfold maxLen; omega) (by omega) (by simp; omega) (w1.heap.size + 1) (by simp) ?_; intro gg cap w3 hown' hgrow hat hlt2; clear hat hlt2)
        go_roundw
        case rel => exact HA.out _ _ _ _ _ _ hown1 hbl1 HX1.out hown' hgrow
        case measure => simp [intOf]; omega
      · have HA := @Lib.hid _ (fun w2 v a b c => @w_skip W w2 W.heap.size w h o k d v hd4 hs a b c)
        have hne : (stZ w h o k d != -1) = false := by simp; omega
        clear hs hge
        generalize stZ w h o k d = s at *
        go_wp2_with fail
        refine (HS.out _).mono ?_
        rintro e w1 ⟨rfl, hb⟩
        have hown1 := Lib.hid (own_call HO.out hb)
        have hbl1 := Lib.hid (below_call hbl0.out hb)
        have HX1 := Lib.hid (hxc0.out.call hb)
        clear hb c0 c1 c2
        go_wp2_with fail
        go_roundw
        case rel => exact HA.out _ _ hown1.out hbl1.out HX1.out
        case measure => simp [intOf]; omega
    · obtain rfl : d = 4 := by omega
      go_wp2_with fail
      go_ret
      exact HK.out _ _ _ _ rfl HO.out (by omega) hbl0.out
end Go.Proofs.Ythfcemihaoijgaa.mazeI
