/- The library's count of the places that are 1, for numbers below 2 to the power of 24. -/
import Derived.Test.YtmmdngfhfceefaaBase
import Derived.Test.YtmmdngfhfceefaaPlain
import Derived.Test.YtmmdngfhfceefaaMzB
import Derived.Test.YtmmdngfhfceefaaPrgG
import Derived.Outline

namespace Go.Proofs.Ytmmdngfhfceefaa.mazeO
open Go.ChangeShapes Go.WideShapes Go.ChangeAt Go.RowKit
open bitP
set_option linter.unusedVariables false

end Go.Proofs.Ytmmdngfhfceefaa.mazeO

/- The contracts of the program's exported functions on mazes. -/
namespace Go.Proofs.Ytmmdngfhfceefaa.mazeI
open Go.ChangeShapes Go.WideShapes Go.ChangeAt Go.RowKit
open draw gridP gridC bitP mazeP mazeC
set_option linter.unusedVariables false

theorem ok_any (w h o : Int) (W : World) :
    Calls Try.prog 19 #[.agg #[.int .i64 w, .int .i64 h, .int .i64 o]] W (Bl (okB w h o) W) := by
  by_cases hn : 1 ≤ w ∧ w ≤ 4 ∧ 1 ≤ h ∧ h ≤ 4
  · obtain ⟨h1, h2, h3, h4⟩ := hn
    exact mok_any w h o W h1 h2 h3 h4 _ (by unfold okB OkM; simp [h1, h2, h3, h4])
  · have : okB w h o = false := by unfold okB OkM; simp only [hn, false_and, decide_false]
    rw [this]; exact mok_bad w h o W hn

theorem isPassage_bad (w h o g : Int) (W : World) (hv : okB w h o = false) :
    Calls Try.prog 39 #[.agg #[.int .i64 w, .int .i64 h, .int .i64 o], .int .i64 g] W (Bl (psB w h o g) W) := by
  have hp : false = psB w h o g := by
    unfold psB; unfold okB at hv
    simp only [decide_eq_false_iff_not] at hv
    symm; rw [decide_eq_false_iff_not]; exact fun e => hv e.1
  have HK := @Lib.hid _ (fun w' b => @bl_mk false (psB w h o g) W w' hp b)
  have HB := Lib.hid below_box
  have HO := Lib.hid (fun X => ok_any w h o X)
  rw [hv] at HO
  clear hv hp
  go_enter Try.func39, Try.ntmps39
  go_wp2_with fail
  refine (HO.out _).mono ?_
  rintro e w1 ⟨rfl, hb⟩
  have hbl1 := Lib.hid (below_call (HB.out _ _) hb)
  clear hb
  go_wp2_with fail
  go_ret
  exact HK.out _ hbl1.out

theorem isPassage_on (w h o g : Int) (W : World) (hv : OkM w h o) :
    Calls Try.prog 39 #[.agg #[.int .i64 w, .int .i64 h, .int .i64 o], .int .i64 g] W (Bl (psB w h o g) W) := by
  have HB := Lib.hid below_box
  have HO := Lib.hid (fun X => ok_any w h o X)
  rw [show okB w h o = true from decide_eq_true hv] at HO
  have hv' := hv
  obtain ⟨⟨h1, h2, h3, h4⟩, -, -⟩ := hv'
  by_cases hg : 0 ≤ g ∧ g < gpsZ w h
  · have hlt := hv.lt
    have hp : (bits .and .i64 (o / 2 ^ g.toNat) 1 == 1) = psB w h o g := by
      rw [bit_is hlt.1 hlt.2 hg.1]
      unfold psB; rw [Bool.eq_iff_iff]; simp [hv, hg.1, hg.2]
    have HK := @Lib.hid _ (fun w' b => @bl_mk _ (psB w h o g) W w' hp b)
    have HG : Hid (∀ X, Calls Try.prog 41 #[.agg #[.int .i64 w, .int .i64 h], .int .i64 g] X (Bl true X)) := fun X => hasGap_yes w h g X h1 h2 h3 h4 hg.1 hg.2
    have g0 := hg.1
    have g1 : g < 24 := by have := (gps_bd h1 h2 h3 h4).2; omega
    clear hp hg hv
    go_enter Try.func39, Try.ntmps39
    go_wp2_with fail
    refine (HO.out _).mono ?_
    rintro e w1 ⟨rfl, hb⟩
    have hbl1 := Lib.hid (below_call (HB.out _ _) hb)
    have hxc1 := Lib.hid ((mbox_new w h o W _).call hb)
    clear hb
    obtain ⟨c0, c1, c2⟩ := hxc1.out.1
    go_wp2_with fail
    refine (HG.out _).mono ?_
    rintro e w2 ⟨rfl, hb⟩
    have hbl2 := Lib.hid (below_call hbl1.out hb)
    have hxc2 := Lib.hid (hxc1.out.call hb)
    clear hb hbl1  hxc1 c0 c1 c2
    obtain ⟨c0, c1, c2⟩ := hxc2.out.1
    go_wp2_with fail
    go_ret
    exact HK.out _ hbl2.out
  · have hp : false = psB w h o g := by
      unfold psB; symm; rw [decide_eq_false_iff_not]; exact fun e => hg ⟨e.2.1, e.2.2.1⟩
    have HK := @Lib.hid _ (fun w' b => @bl_mk false (psB w h o g) W w' hp b)
    have HG : Hid (∀ X, Calls Try.prog 41 #[.agg #[.int .i64 w, .int .i64 h], .int .i64 g] X (Bl false X)) := fun X => hasGap_no w h g X h1 h2 h3 h4 hg
    clear hp hg hv
    go_enter Try.func39, Try.ntmps39
    go_wp2_with fail
    refine (HO.out _).mono ?_
    rintro e w1 ⟨rfl, hb⟩
    have hbl1 := Lib.hid (below_call (HB.out _ _) hb)
    have hxc1 := Lib.hid ((mbox_new w h o W _).call hb)
    clear hb
    obtain ⟨c0, c1, c2⟩ := hxc1.out.1
    go_wp2_with fail
    refine (HG.out _).mono ?_
    rintro e w2 ⟨rfl, hb⟩
    have hbl2 := Lib.hid (below_call hbl1.out hb)
    have hxc2 := Lib.hid (hxc1.out.call hb)
    clear hb hbl1  hxc1 c0 c1 c2
    obtain ⟨c0, c1, c2⟩ := hxc2.out.1
    go_wp2_with fail
    go_ret
    exact HK.out _ hbl2.out

theorem isPassage_any (w h o g : Int) (W : World) :
    Calls Try.prog 39 #[.agg #[.int .i64 w, .int .i64 h, .int .i64 o], .int .i64 g] W (Bl (psB w h o g) W) := by
  by_cases hv : OkM w h o
  · exact isPassage_on w h o g W hv
  · exact isPassage_bad w h o g W (decide_eq_false hv)

end Go.Proofs.Ytmmdngfhfceefaa.mazeI

/- The contracts of the program's functions that answer a maze. -/
namespace Go.Proofs.Ytmmdngfhfceefaa.mazeI
open Go.ChangeShapes Go.WideShapes Go.ChangeAt Go.RowKit
open draw gridP gridC bitP mazeP mazeC mazeM
set_option linter.unusedVariables false

theorem setGap_no (w h o g : Int) (b : Bool) (W : World) (hv : okB w h o = false) :
    Calls Try.prog 27 #[.agg #[.int .i64 w, .int .i64 h, .int .i64 o], .int .i64 g, .bool b] W (MzB w h o false W) := by
  have HK := @Lib.hid _ (fun w' c => @mzb_mk w h o o false false W w' rfl rfl c)
  have HB := Lib.hid (below_two W)
  have HO := Lib.hid (fun X => ok_any w h o X)
  rw [hv] at HO
  clear hv
  go_enter Try.func27, Try.ntmps27
  go_wp2_with fail
  refine (HO.out _).mono ?_
  rintro e w1 ⟨rfl, hb⟩
  have hbl1 := Lib.hid (below_call (HB.out _ _) hb)
  obtain ⟨⟨c0, c1, c2⟩, -⟩ := (mbox_two w h o W _ _).call hb
  obtain ⟨⟨e0, e1, e2⟩, f0, f1, f2⟩ := mres hb rfl
  clear hb
  go_wp2_with fail
  refine bodyPost_ret (v := .tuple #[.agg #[.int .i64 w, .int .i64 h, .int .i64 o], .bool false]) (by simp [results, Try.results27, go_sem, e0, e1, e2]) rfl (HK.out _ ?_)
  repeat (first | exact hbl1.out | refine Below.setCell ?_ (by simp) _)

theorem setGap_out (w h o g : Int) (b : Bool) (W : World) (hv : OkM w h o) (hg : ¬ (0 ≤ g ∧ g < gpsZ w h)) :
    Calls Try.prog 27 #[.agg #[.int .i64 w, .int .i64 h, .int .i64 o], .int .i64 g, .bool b] W (MzB w h o false W) := by
  have HK := @Lib.hid _ (fun w' c => @mzb_mk w h o o false false W w' rfl rfl c)
  have HB := Lib.hid (below_two W)
  have HO := Lib.hid (fun X => ok_any w h o X)
  rw [show okB w h o = true from decide_eq_true hv] at HO
  have HG : Hid (∀ X, Calls Try.prog 41 #[.agg #[.int .i64 w, .int .i64 h], .int .i64 g] X (Bl false X)) := fun X => hasGap_no w h g X hv.1.1 hv.1.2.1 hv.1.2.2.1 hv.1.2.2.2 hg
  clear hv hg
  go_enter Try.func27, Try.ntmps27
  go_wp2_with fail
  refine (HO.out _).mono ?_
  rintro e w1 ⟨rfl, hb⟩
  have hbl1 := Lib.hid (below_call (HB.out _ _) hb)
  have hxc1 := Lib.hid ((mbox_two w h o W _ _).call hb)
  have hr1 := Lib.hid (mres_block hb rfl)
  obtain ⟨c0, c1, c2⟩ := hxc1.out.1
  clear hb
  go_wp2_with fail
  refine (HG.out _).mono ?_
  rintro e w2 ⟨rfl, hb⟩
  have hbl2 := Lib.hid (below_call hbl1.out hb)
  have hxc2 := Lib.hid (hxc1.out.call hb)
  obtain ⟨⟨e0, e1, e2⟩, f0, f1, f2⟩ := mres2 hb hr1.out
  clear hb c0 c1 c2
  obtain ⟨c0, c1, c2⟩ := hxc2.out.1
  go_wp2_with fail
  refine bodyPost_ret (v := .tuple #[.agg #[.int .i64 w, .int .i64 h, .int .i64 o], .bool false]) (by simp [results, Try.results27, go_sem, e0, e1, e2]) rfl (HK.out _ ?_)
  repeat (first | exact hbl2.out | refine Below.setCell ?_ (by simp) _)

theorem setGap_in (w h o g : Int) (b : Bool) (W : World) (hv : OkM w h o) (hg : 0 ≤ g ∧ g < gpsZ w h) :
    Calls Try.prog 27 #[.agg #[.int .i64 w, .int .i64 h, .int .i64 o], .int .i64 g, .bool b] W (MzB w h (sgZ w h o g b) true W) := by
  have HB := Lib.hid (below_two W)
  have HO := Lib.hid (fun X => ok_any w h o X)
  rw [show okB w h o = true from decide_eq_true hv] at HO
  have HG : Hid (∀ X, Calls Try.prog 41 #[.agg #[.int .i64 w, .int .i64 h], .int .i64 g] X (Bl true X)) := fun X => hasGap_yes w h g X hv.1.1 hv.1.2.1 hv.1.2.2.1 hv.1.2.2.2 hg.1 hg.2
  have hlt := hv.lt
  have g0 := hg.1
  have g1 : g < 24 := by have := (gps_bd hv.1.1 hv.1.2.1 hv.1.2.2.1 hv.1.2.2.2).2; omega
  have hsg : sgB w h o g = true := decide_eq_true ⟨hv, hg⟩
  have hpw := pow_bd g (by omega)
  cases b
  · have hz : bits .andNot .i64 o (wrap64 (2 ^ g.toNat)) = sgZ w h o g false := by
      rw [IntWalk.wrap64_in _ (by omega), andNot_is hlt.1 hlt.2 g0 g1]; unfold sgZ; rw [if_pos hsg]; simp
    have HK := @Lib.hid _ (fun w' c => @mzb_mk w h _ _ true true W w' hz rfl c)
    clear hv hg hlt hsg hz hpw
    go_enter Try.func27, Try.ntmps27
    go_wp2_with fail
    refine (HO.out _).mono ?_
    rintro e w1 ⟨rfl, hb⟩
    have hbl1 := Lib.hid (below_call (HB.out _ _) hb)
    have hxc1 := Lib.hid (Row3.call (row3_two w h o W _ _) hb)
    have hr1 := Lib.hid (mres_block hb rfl)
    obtain ⟨⟨c0, c1, c2⟩, -⟩ := row3_cells hxc1.out
    clear hb
    go_wp2_with fail
    refine (HG.out _).mono ?_
    rintro e w2 ⟨rfl, hb⟩
    have hbl2 := Lib.hid (below_call hbl1.out hb)
    have hxc2 := Lib.hid (Row3.call hxc1.out hb)
    obtain ⟨⟨e0, e1, e2⟩, f0, f1, f2⟩ := mres2 hb hr1.out
    clear hb c0 c1 c2
    obtain ⟨⟨c0, c1, c2⟩, k0, k1, k2⟩ := row3_cells hxc2.out
    go_wp2_with fail
    go_region
    all_goals
      go_wp2_with fail
      refine bodyPost_ret (v := .tuple #[.agg #[.int .i64 w, .int .i64 h, .int .i64 _], .bool true]) (by simp [results, Try.results27, go_sem, e0, e1, e2]) rfl (HK.out _ ?_)
      repeat (first | exact hbl2.out | refine Below.drew ?_ | refine Below.setCell ?_ (by simp) _)
  · have hz : bits .or .i64 o (wrap64 (2 ^ g.toNat)) = sgZ w h o g true := by
      rw [IntWalk.wrap64_in _ (by omega), or_is hlt.1 hlt.2 g0 g1]; unfold sgZ; rw [if_pos hsg]; simp
    have HK := @Lib.hid _ (fun w' c => @mzb_mk w h _ _ true true W w' hz rfl c)
    clear hv hg hlt hsg hz hpw
    go_enter Try.func27, Try.ntmps27
    go_wp2_with fail
    refine (HO.out _).mono ?_
    rintro e w1 ⟨rfl, hb⟩
    have hbl1 := Lib.hid (below_call (HB.out _ _) hb)
    have hxc1 := Lib.hid (Row3.call (row3_two w h o W _ _) hb)
    have hr1 := Lib.hid (mres_block hb rfl)
    obtain ⟨⟨c0, c1, c2⟩, -⟩ := row3_cells hxc1.out
    clear hb
    go_wp2_with fail
    refine (HG.out _).mono ?_
    rintro e w2 ⟨rfl, hb⟩
    have hbl2 := Lib.hid (below_call hbl1.out hb)
    have hxc2 := Lib.hid (Row3.call hxc1.out hb)
    obtain ⟨⟨e0, e1, e2⟩, f0, f1, f2⟩ := mres2 hb hr1.out
    clear hb c0 c1 c2
    obtain ⟨⟨c0, c1, c2⟩, k0, k1, k2⟩ := row3_cells hxc2.out
    go_wp2_with fail
    go_region
    all_goals
      go_wp2_with fail
      refine bodyPost_ret (v := .tuple #[.agg #[.int .i64 w, .int .i64 h, .int .i64 _], .bool true]) (by simp [results, Try.results27, go_sem, e0, e1, e2]) rfl (HK.out _ ?_)
      repeat (first | exact hbl2.out | refine Below.drew ?_ | refine Below.setCell ?_ (by simp) _)

theorem setGap_any (w h o g : Int) (b : Bool) (W : World) :
    Calls Try.prog 27 #[.agg #[.int .i64 w, .int .i64 h, .int .i64 o], .int .i64 g, .bool b] W (MzB w h (sgZ w h o g b) (sgB w h o g) W) := by
  by_cases hs : OkM w h o ∧ 0 ≤ g ∧ g < gpsZ w h
  · rw [show sgB w h o g = true from decide_eq_true hs]
    exact setGap_in w h o g b W hs.1 hs.2
  · have h1 : sgB w h o g = false := decide_eq_false hs
    have h2 : sgZ w h o g b = o := by unfold sgZ; rw [h1]; simp
    rw [h1, h2]
    by_cases hv : OkM w h o
    · exact setGap_out w h o g b W hv (fun e => hs ⟨hv, e⟩)
    · exact setGap_no w h o g b W (decide_eq_false hv)

end Go.Proofs.Ytmmdngfhfceefaa.mazeI

/- The contract of the program's directions in which a passage leads on. -/
namespace Go.Proofs.Ytmmdngfhfceefaa.mazeI
open Go.ChangeShapes Go.WideShapes Go.ChangeAt Go.RowKit
open draw gridP gridC bitP mazeP mazeC mazeM intsP mazeV
set_option linter.unusedVariables false

end Go.Proofs.Ytmmdngfhfceefaa.mazeI
