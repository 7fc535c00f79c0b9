/- The library's count of the places that are 1, for numbers below 2 to the power of 24. -/
import Derived.Test.YthakbjdkcdppjaaBase
import Derived.Test.YthakbjdkcdppjaaPlain
import Derived.Test.YthakbjdkcdppjaaMzB
import Derived.Test.YthakbjdkcdppjaaPrgG
import Derived.Outline

namespace Go.Proofs.Ythakbjdkcdppjaa.mazeO
open Go.ChangeShapes Go.WideShapes Go.ChangeAt Go.RowKit
open bitP
set_option linter.unusedVariables false

theorem ones64 (n : Nat) (W : World) (h : n < 16777216) :
    Calls Try.prog 67 #[.int .u64 n] W fun e w' => e = .returned (.int .i64 (pcN n 24 : Nat)) ∧ W = w' := by
  obtain ⟨x, y, z, hx, hy, hz, bx, by', bz, he⟩ := ones h
  have K1 : IntKind.u64.wrap (bits .and .u64 ((n : Int) / 2) 6148914691236517205 + bits .and .u64 (n : Int) 6148914691236517205) = (x : Int) := by
    rw [show ((n : Int) / 2) = ((n / 2 : Nat) : Int) from by omega, show (6148914691236517205 : Int) = ((6148914691236517205 : Nat) : Int) from rfl, u64_and_nat _ _ (by omega) (by decide), u64_and_nat _ _ (by omega) (by decide), IntWalk.u64_in _ (by omega)]
    omega
  have K2 : IntKind.u64.wrap (bits .and .u64 ((x : Int) / 4) 3689348814741910323 + bits .and .u64 (x : Int) 3689348814741910323) = (y : Int) := by
    rw [show ((x : Int) / 4) = ((x / 4 : Nat) : Int) from by omega, show (3689348814741910323 : Int) = ((3689348814741910323 : Nat) : Int) from rfl, u64_and_nat _ _ (by omega) (by decide), u64_and_nat _ _ (by omega) (by decide), IntWalk.u64_in _ (by omega)]
    omega
  have K3 : bits .and .u64 (IntKind.u64.wrap ((y : Int) / 16 + (y : Int))) 1085102592571150095 = (z : Int) := by
    rw [IntWalk.u64_in _ (by omega), show ((y : Int) / 16 + (y : Int)) = ((y / 16 + y : Nat) : Int) from by omega, show (1085102592571150095 : Int) = ((1085102592571150095 : Nat) : Int) from rfl, u64_and_nat _ _ (by omega) (by decide)]
    omega
  have K4 : IntKind.u64.wrap ((z : Int) + (z : Int) / 256) = (((z + z / 256 : Nat)) : Int) := by rw [IntWalk.u64_in _ (by omega)]; omega
  have hv : z + z / 256 < 33554432 := by omega
  have HV : (z + z / 256 + (z + z / 256) / 65536) % 128 = pcN n 24 := he
  generalize z + z / 256 = v at K4 HV hv
  have K5 : IntKind.u64.wrap ((v : Int) + (v : Int) / 65536) = (((v + v / 65536 : Nat)) : Int) := by rw [IntWalk.u64_in _ (by omega)]; omega
  have hu : v + v / 65536 < 67108864 := by omega
  generalize v + v / 65536 = u at K5 HV hu
  have K6 : IntKind.u64.wrap ((u : Int) + (u : Int) / 4294967296) = (u : Int) := by rw [IntWalk.u64_in _ (by omega)]; omega
  have K7 : bits .and .i64 (IntKind.i64.wrap (u : Int)) 127 = ((pcN n 24 : Nat) : Int) := by
    rw [IntWalk.i64_in _ (by omega), show (127 : Int) = ((127 : Nat) : Int) from rfl, and_i64 _ _ (by omega) (by decide), nat_mask7, HV]
  clear HV hx hy hz he hv hu bx by' bz
  go_enter Try.func67, Try.ntmps67
  go_wp2_with fail
  go_ret
  refine ⟨?_, rfl⟩
  have K8 := K7
  rw [IntWalk.i64_left] at K8
  simp [Array.getD, *]

theorem ones_any (n : Nat) (W : World) (h : n < 16777216) :
    Calls Try.prog 53 #[.int .u64 n] W fun e w' => e = .returned (.int .i64 (pcN n 24 : Nat)) ∧ W = w' := by
  go_enter Try.func53, Try.ntmps53
  go_wp2_with fail
  refine (ones64 n _ h).mono ?_
  rintro e w1 ⟨rfl, rfl⟩
  go_wp2_with fail
  go_ret
  exact ⟨rfl, rfl⟩
end Go.Proofs.Ythakbjdkcdppjaa.mazeO

/- The contracts of the program's exported functions on mazes. -/
namespace Go.Proofs.Ythakbjdkcdppjaa.mazeI
open Go.ChangeShapes Go.WideShapes Go.ChangeAt Go.RowKit
open draw gridP gridC bitP mazeP mazeC
set_option linter.unusedVariables false

theorem ok_any (w h o : Int) (W : World) :
    Calls Try.prog 48 #[.agg #[.int .i64 w, .int .i64 h, .int .i64 o]] W (Bl (okB w h o) W) := by
  by_cases hn : 1 ≤ w ∧ w ≤ 4 ∧ 1 ≤ h ∧ h ≤ 4
  · obtain ⟨h1, h2, h3, h4⟩ := hn
    exact mok_any w h o W h1 h2 h3 h4 _ (by unfold okB OkM; simp [h1, h2, h3, h4])
  · have : okB w h o = false := by unfold okB OkM; simp only [hn, false_and, decide_false]
    rw [this]; exact mok_bad w h o W hn

theorem isPassage_bad (w h o g : Int) (W : World) (hv : okB w h o = false) :
    Calls Try.prog 80 #[.agg #[.int .i64 w, .int .i64 h, .int .i64 o], .int .i64 g] W (Bl (psB w h o g) W) := by
  have hp : false = psB w h o g := by
    unfold psB; unfold okB at hv
    simp only [decide_eq_false_iff_not] at hv
    symm; rw [decide_eq_false_iff_not]; exact fun e => hv e.1
  have HK := @Lib.hid _ (fun w' b => @bl_mk false (psB w h o g) W w' hp b)
  have HB := Lib.hid below_box
  have HO := Lib.hid (fun X => ok_any w h o X)
  rw [hv] at HO
  clear hv hp
  go_enter Try.func80, Try.ntmps80
  go_wp2_with fail
  refine (HO.out _).mono ?_
  rintro e w1 ⟨rfl, hb⟩
  have hbl1 := Lib.hid (below_call (HB.out _ _) hb)
  clear hb
  go_wp2_with fail
  go_ret
  exact HK.out _ hbl1.out

theorem isPassage_on (w h o g : Int) (W : World) (hv : OkM w h o) :
    Calls Try.prog 80 #[.agg #[.int .i64 w, .int .i64 h, .int .i64 o], .int .i64 g] W (Bl (psB w h o g) W) := by
  have HB := Lib.hid below_box
  have HO := Lib.hid (fun X => ok_any w h o X)
  rw [show okB w h o = true from decide_eq_true hv] at HO
  have hv' := hv
  obtain ⟨⟨h1, h2, h3, h4⟩, -, -⟩ := hv'
  by_cases hg : 0 ≤ g ∧ g < gpsZ w h
  · have hlt := hv.lt
    have hp : (bits .and .i64 (o / 2 ^ g.toNat) 1 == 1) = psB w h o g := by
      rw [bit_is hlt.1 hlt.2 hg.1]
      unfold psB; rw [Bool.eq_iff_iff]; simp [hv, hg.1, hg.2]
    have HK := @Lib.hid _ (fun w' b => @bl_mk _ (psB w h o g) W w' hp b)
    have HG : Hid (∀ X, Calls Try.prog 49 #[.agg #[.int .i64 w, .int .i64 h], .int .i64 g] X (Bl true X)) := fun X => hasGap_yes w h g X h1 h2 h3 h4 hg.1 hg.2
    have g0 := hg.1
    have g1 : g < 24 := by have := (gps_bd h1 h2 h3 h4).2; omega
    clear hp hg hv
    go_enter Try.func80, Try.ntmps80
    go_wp2_with fail
    refine (HO.out _).mono ?_
    rintro e w1 ⟨rfl, hb⟩
    have hbl1 := Lib.hid (below_call (HB.out _ _) hb)
    have hxc1 := Lib.hid ((mbox_new w h o W _).call hb)
    clear hb
    obtain ⟨c0, c1, c2⟩ := hxc1.out.1
    go_wp2_with fail
    refine (HG.out _).mono ?_
    rintro e w2 ⟨rfl, hb⟩
    have hbl2 := Lib.hid (below_call hbl1.out hb)
    have hxc2 := Lib.hid (hxc1.out.call hb)
    clear hb hbl1  hxc1 c0 c1 c2
    obtain ⟨c0, c1, c2⟩ := hxc2.out.1
    go_wp2_with fail
    go_ret
    exact HK.out _ hbl2.out
  · have hp : false = psB w h o g := by
      unfold psB; symm; rw [decide_eq_false_iff_not]; exact fun e => hg ⟨e.2.1, e.2.2.1⟩
    have HK := @Lib.hid _ (fun w' b => @bl_mk false (psB w h o g) W w' hp b)
    have HG : Hid (∀ X, Calls Try.prog 49 #[.agg #[.int .i64 w, .int .i64 h], .int .i64 g] X (Bl false X)) := fun X => hasGap_no w h g X h1 h2 h3 h4 hg
    clear hp hg hv
    go_enter Try.func80, Try.ntmps80
    go_wp2_with fail
    refine (HO.out _).mono ?_
    rintro e w1 ⟨rfl, hb⟩
    have hbl1 := Lib.hid (below_call (HB.out _ _) hb)
    have hxc1 := Lib.hid ((mbox_new w h o W _).call hb)
    clear hb
    obtain ⟨c0, c1, c2⟩ := hxc1.out.1
    go_wp2_with fail
    refine (HG.out _).mono ?_
    rintro e w2 ⟨rfl, hb⟩
    have hbl2 := Lib.hid (below_call hbl1.out hb)
    have hxc2 := Lib.hid (hxc1.out.call hb)
    clear hb hbl1  hxc1 c0 c1 c2
    obtain ⟨c0, c1, c2⟩ := hxc2.out.1
    go_wp2_with fail
    go_ret
    exact HK.out _ hbl2.out

theorem isPassage_any (w h o g : Int) (W : World) :
    Calls Try.prog 80 #[.agg #[.int .i64 w, .int .i64 h, .int .i64 o], .int .i64 g] W (Bl (psB w h o g) W) := by
  by_cases hv : OkM w h o
  · exact isPassage_on w h o g W hv
  · exact isPassage_bad w h o g W (decide_eq_false hv)

theorem countPassages_any (w h o : Int) (W : World) :
    Calls Try.prog 31 #[.agg #[.int .i64 w, .int .i64 h, .int .i64 o]] W (Nm (cpZ w h o) W) := by
  have HB := Lib.hid below_box
  have HO := Lib.hid (fun X => ok_any w h o X)
  by_cases hv : OkM w h o
  · rw [show okB w h o = true from decide_eq_true hv] at HO
    have hc : ((pcN o.toNat 24 : Nat) : Int) = cpZ w h o := by unfold cpZ; rw [if_pos hv]
    have hlt := hv.lt
    obtain ⟨n, rfl⟩ := Int.eq_ofNat_of_zero_le hlt.1
    rw [Int.toNat_natCast] at hc
    have HK := @Lib.hid _ (fun w' b => @nm_mk _ _ W w' hc b)
    have h0 : 0 ≤ (n : Int) := hlt.1
    have h1 : (n : Int) < 16777216 := hlt.2
    have hn : n < 16777216 := by omega
    clear hc hlt hv
    go_enter Try.func31, Try.ntmps31
    go_wp2_with fail
    refine (HO.out _).mono ?_
    rintro e w1 ⟨rfl, hb⟩
    have hbl1 := Lib.hid (below_call (HB.out _ _) hb)
    have hxc1 := Lib.hid ((mbox_new w h n W _).call hb)
    clear hb
    obtain ⟨c0, c1, c2⟩ := hxc1.out.1
    go_wp2_with fail
    refine (mazeO.ones_any n _ hn).mono ?_
    rintro e w' ⟨rfl, rfl⟩
    go_wp2_with fail
    go_ret
    exact HK.out _ hbl1.out
  · rw [show okB w h o = false from decide_eq_false hv] at HO
    have hc : 0 = cpZ w h o := by unfold cpZ; rw [if_neg hv]
    have HK := @Lib.hid _ (fun w' b => @nm_mk _ _ W w' hc b)
    clear hc hv
    go_enter Try.func31, Try.ntmps31
    go_wp2_with fail
    refine (HO.out _).mono ?_
    rintro e w1 ⟨rfl, hb⟩
    have hbl1 := Lib.hid (below_call (HB.out _ _) hb)
    have hxc1 := Lib.hid ((mbox_new w h o W _).call hb)
    clear hb
    obtain ⟨c0, c1, c2⟩ := hxc1.out.1
    go_wp2_with fail
    go_ret
    exact HK.out _ hbl1.out

theorem step_any (w h o k d : Int) (W : World) :
    Calls Try.prog 78 #[.agg #[.int .i64 w, .int .i64 h, .int .i64 o], .int .i64 k, .int .i64 d] W (Nm (stZ w h o k d) W) := by
  have HB := Lib.hid below_box
  have HG := Lib.hid (fun X => gridI.gapAt_any w h k d X)
  have HN := Lib.hid (fun X => gridI.neighbor_any w h k d X)
  have HP := Lib.hid (fun X => isPassage_any w h o (gpZ w h k d) X)
  have hx := Lib.hid (mbox_new w h o W 30)
  by_cases hp : psB w h o (gpZ w h k d) = true
  · have hs : nbZ w h k d = stZ w h o k d := by unfold stZ; rw [if_pos hp]
    have HK := @Lib.hid _ (fun w' b => @nm_mk _ _ W w' hs b)
    rw [hp] at HP
    clear hs hp
    generalize gpZ w h k d = g at *
    generalize nbZ w h k d = v at *
    go_enter Try.func78, Try.ntmps78
    go_wp2_with fail
    go_region_held3 (fun w' => w'.cell? ⟨W.heap.size, 0, none⟩ = some (.int .i64 w) ∧ w'.cell? ⟨W.heap.size, 1, none⟩ = some (.int .i64 h) ∧ w'.cell? ⟨W.heap.size, 2, none⟩ = some (.int .i64 o)) (go_keep)
      (first | (go_at_call 71; refine (HG.out _).mono ?_; rintro e w1 ⟨rfl, hb⟩; have hx1 := Lib.hid (mbox_after hb hx.out); obtain ⟨c0, c1, c2⟩ := hx1.out.1) | (go_at_call 80; refine (HP.out _).mono ?_; rintro e w2 ⟨rfl, hb2⟩; have hx2 := Lib.hid (mbox_after hb2 hx1.out); obtain ⟨c0', c1', c2'⟩ := hx2.out.1))
    all_goals
      go_wp2_with fail
      refine (HN.out _).mono ?_
      rintro e w3 ⟨rfl, hb3⟩
      go_wp2_with fail
      go_ret
      exact HK.out _ (by refine below_call ?_ hb3; refine below_call ?_ hb2; repeat (first | exact Below.refl _ _ | refine below_call ?_ hb | refine Below.drew ?_ | refine Below.alloc ?_ (by simp) _))
  · have hp' : psB w h o (gpZ w h k d) = false := by simpa using hp
    have hs : -1 = stZ w h o k d := by unfold stZ; rw [if_neg hp]
    have HK := @Lib.hid _ (fun w' b => @nm_mk _ _ W w' hs b)
    rw [hp'] at HP
    clear hs hp hp'
    generalize gpZ w h k d = g at *
    generalize nbZ w h k d = v at *
    go_enter Try.func78, Try.ntmps78
    go_wp2_with fail
    go_region_held3 (fun w' => w'.cell? ⟨W.heap.size, 0, none⟩ = some (.int .i64 w) ∧ w'.cell? ⟨W.heap.size, 1, none⟩ = some (.int .i64 h) ∧ w'.cell? ⟨W.heap.size, 2, none⟩ = some (.int .i64 o)) (go_keep)
      (first | (go_at_call 71; refine (HG.out _).mono ?_; rintro e w1 ⟨rfl, hb⟩; have hx1 := Lib.hid (mbox_after hb hx.out); obtain ⟨c0, c1, c2⟩ := hx1.out.1) | (go_at_call 80; refine (HP.out _).mono ?_; rintro e w2 ⟨rfl, hb2⟩; obtain ⟨c0', c1', c2'⟩ := (mbox_after hb2 hx1.out).1))
    all_goals
      go_wp2_with fail
      go_ret
      exact HK.out _ (by refine below_call ?_ hb2; repeat (first | exact Below.refl _ _ | refine below_call ?_ hb | refine Below.drew ?_ | refine Below.alloc ?_ (by simp) _))
end Go.Proofs.Ythakbjdkcdppjaa.mazeI

/- The contracts of the program's functions that answer a maze. -/
namespace Go.Proofs.Ythakbjdkcdppjaa.mazeI
open Go.ChangeShapes Go.WideShapes Go.ChangeAt Go.RowKit
open draw gridP gridC bitP mazeP mazeC mazeM
set_option linter.unusedVariables false

theorem fullMaze_no (w h : Int) (W : World) (hn : ¬ (1 ≤ w ∧ w ≤ 4 ∧ 1 ≤ h ∧ h ≤ 4)) :
    Calls Try.prog 51 #[.agg #[.int .i64 w, .int .i64 h]] W (Mz 0 0 0 W) := by
  have HK := @Lib.hid _ (fun w' b => @mz_mk 0 0 0 W w' b)
  have HB := Lib.hid (below_two W)
  have HO : Hid (∀ X, Calls Try.prog 23 #[.agg #[.int .i64 w, .int .i64 h]] X (Bl false X)) := fun X => ok_no w h X hn
  clear hn
  go_enter Try.func51, Try.ntmps51
  go_wp2_with fail
  refine (HO.out _).mono ?_
  rintro e w1 ⟨rfl, hb⟩
  have hbl1 := Lib.hid (below_call (HB.out _ _) hb)
  obtain ⟨⟨c0, c1, c2⟩, f0, f1, f2⟩ := mres hb rfl
  clear hb
  go_wp2_with fail
  refine bodyPost_ret (v := .agg #[.int .i64 0, .int .i64 0, .int .i64 0]) (by simp [results, Try.results51, go_sem, c0, c1, c2]) rfl (HK.out _ ?_)
  repeat (first | exact hbl1.out | refine Below.setCell ?_ (by simp) _)

theorem fullMaze_yes (w h : Int) (W : World) (h1 : 1 ≤ w) (h2 : w ≤ 4) (h3 : 1 ≤ h) (h4 : h ≤ 4) :
    Calls Try.prog 51 #[.agg #[.int .i64 w, .int .i64 h]] W (Mz w h (topZ w h) W) := by
  have HK := @Lib.hid _ (fun w' b => @mz_mk w h (topZ w h) W w' b)
  have HB := Lib.hid (below_two W)
  have HO : Hid (∀ X, Calls Try.prog 23 #[.agg #[.int .i64 w, .int .i64 h]] X (Bl true X)) := fun X => ok_yes w h X h1 h2 h3 h4
  have HA : Hid (∀ X, Calls Try.prog 61 #[.agg #[.int .i64 w, .int .i64 h]] X (Nm (topZ w h) X)) := fun X => allOpen_any w h X h1 h2 h3 h4
  generalize topZ w h = T at *
  go_enter Try.func51, Try.ntmps51
  go_wp2_with fail
  refine (HO.out _).mono ?_
  rintro e w1 ⟨rfl, hb⟩
  have hbl1 := Lib.hid (below_call (HB.out _ _) hb)
  have hx := Lib.hid ((box_two w h W _ _).call hb)
  have hr := Lib.hid (mres_block hb rfl)
  clear hb
  obtain ⟨c0, c1⟩ := hx.out.1
  go_wp2_with fail
  first
    | go_region_with ((go_at_call 61; refine (HA.out _).mono ?_; rintro e w2 ⟨rfl, hb2⟩; have hbl2 := Lib.hid (below_call (below_dr hbl1.out) hb2); obtain ⟨d0, d1⟩ := (box_after' hb2 hx.out); obtain ⟨⟨e0, e1, e2⟩, f0, f1, f2⟩ := mres2 hb2 hr.out))
    | fail
  all_goals
    go_wp2_with fail
    refine bodyPost_ret (v := .agg #[.int .i64 w, .int .i64 h, .int .i64 T]) (by simp [results, Try.results51, go_sem, e0, e1, e2]) rfl (HK.out _ ?_)
    repeat (first | exact hbl2.out | refine Below.setCell ?_ (by simp) _)

theorem setGap_no (w h o g : Int) (b : Bool) (W : World) (hv : okB w h o = false) :
    Calls Try.prog 28 #[.agg #[.int .i64 w, .int .i64 h, .int .i64 o], .int .i64 g, .bool b] W (MzB w h o false W) := by
  have HK := @Lib.hid _ (fun w' c => @mzb_mk w h o o false false W w' rfl rfl c)
  have HB := Lib.hid (below_two W)
  have HO := Lib.hid (fun X => ok_any w h o X)
  rw [hv] at HO
  clear hv
  go_enter Try.func28, Try.ntmps28
  go_wp2_with fail
  refine (HO.out _).mono ?_
  rintro e w1 ⟨rfl, hb⟩
  have hbl1 := Lib.hid (below_call (HB.out _ _) hb)
  obtain ⟨⟨c0, c1, c2⟩, -⟩ := (mbox_two w h o W _ _).call hb
  obtain ⟨⟨e0, e1, e2⟩, f0, f1, f2⟩ := mres hb rfl
  clear hb
  go_wp2_with fail
  refine bodyPost_ret (v := .tuple #[.agg #[.int .i64 w, .int .i64 h, .int .i64 o], .bool false]) (by simp [results, Try.results28, go_sem, e0, e1, e2]) rfl (HK.out _ ?_)
  repeat (first | exact hbl1.out | refine Below.setCell ?_ (by simp) _)

theorem setGap_out (w h o g : Int) (b : Bool) (W : World) (hv : OkM w h o) (hg : ¬ (0 ≤ g ∧ g < gpsZ w h)) :
    Calls Try.prog 28 #[.agg #[.int .i64 w, .int .i64 h, .int .i64 o], .int .i64 g, .bool b] W (MzB w h o false W) := by
  have HK := @Lib.hid _ (fun w' c => @mzb_mk w h o o false false W w' rfl rfl c)
  have HB := Lib.hid (below_two W)
  have HO := Lib.hid (fun X => ok_any w h o X)
  rw [show okB w h o = true from decide_eq_true hv] at HO
  have HG : Hid (∀ X, Calls Try.prog 49 #[.agg #[.int .i64 w, .int .i64 h], .int .i64 g] X (Bl false X)) := fun X => hasGap_no w h g X hv.1.1 hv.1.2.1 hv.1.2.2.1 hv.1.2.2.2 hg
  clear hv hg
  go_enter Try.func28, Try.ntmps28
  go_wp2_with fail
  refine (HO.out _).mono ?_
  rintro e w1 ⟨rfl, hb⟩
  have hbl1 := Lib.hid (below_call (HB.out _ _) hb)
  have hxc1 := Lib.hid ((mbox_two w h o W _ _).call hb)
  have hr1 := Lib.hid (mres_block hb rfl)
  obtain ⟨c0, c1, c2⟩ := hxc1.out.1
  clear hb
  go_wp2_with fail
  refine (HG.out _).mono ?_
  rintro e w2 ⟨rfl, hb⟩
  have hbl2 := Lib.hid (below_call hbl1.out hb)
  have hxc2 := Lib.hid (hxc1.out.call hb)
  obtain ⟨⟨e0, e1, e2⟩, f0, f1, f2⟩ := mres2 hb hr1.out
  clear hb c0 c1 c2
  obtain ⟨c0, c1, c2⟩ := hxc2.out.1
  go_wp2_with fail
  refine bodyPost_ret (v := .tuple #[.agg #[.int .i64 w, .int .i64 h, .int .i64 o], .bool false]) (by simp [results, Try.results28, go_sem, e0, e1, e2]) rfl (HK.out _ ?_)
  repeat (first | exact hbl2.out | refine Below.setCell ?_ (by simp) _)

theorem setGap_in (w h o g : Int) (b : Bool) (W : World) (hv : OkM w h o) (hg : 0 ≤ g ∧ g < gpsZ w h) :
    Calls Try.prog 28 #[.agg #[.int .i64 w, .int .i64 h, .int .i64 o], .int .i64 g, .bool b] W (MzB w h (sgZ w h o g b) true W) := by
  have HB := Lib.hid (below_two W)
  have HO := Lib.hid (fun X => ok_any w h o X)
  rw [show okB w h o = true from decide_eq_true hv] at HO
  have HG : Hid (∀ X, Calls Try.prog 49 #[.agg #[.int .i64 w, .int .i64 h], .int .i64 g] X (Bl true X)) := fun X => hasGap_yes w h g X hv.1.1 hv.1.2.1 hv.1.2.2.1 hv.1.2.2.2 hg.1 hg.2
  have hlt := hv.lt
  have g0 := hg.1
  have g1 : g < 24 := by have := (gps_bd hv.1.1 hv.1.2.1 hv.1.2.2.1 hv.1.2.2.2).2; omega
  have hsg : sgB w h o g = true := decide_eq_true ⟨hv, hg⟩
  have hpw := pow_bd g (by omega)
  cases b
  · have hz : bits .andNot .i64 o (wrap64 (2 ^ g.toNat)) = sgZ w h o g false := by
      rw [IntWalk.wrap64_in _ (by omega), andNot_is hlt.1 hlt.2 g0 g1]; unfold sgZ; rw [if_pos hsg]; simp
    have HK := @Lib.hid _ (fun w' c => @mzb_mk w h _ _ true true W w' hz rfl c)
    clear hv hg hlt hsg hz hpw
    go_enter Try.func28, Try.ntmps28
    go_wp2_with fail
    refine (HO.out _).mono ?_
    rintro e w1 ⟨rfl, hb⟩
    have hbl1 := Lib.hid (below_call (HB.out _ _) hb)
    have hxc1 := Lib.hid (Row3.call (row3_two w h o W _ _) hb)
    have hr1 := Lib.hid (mres_block hb rfl)
    obtain ⟨⟨c0, c1, c2⟩, -⟩ := row3_cells hxc1.out
    clear hb
    go_wp2_with fail
    refine (HG.out _).mono ?_
    rintro e w2 ⟨rfl, hb⟩
    have hbl2 := Lib.hid (below_call hbl1.out hb)
    have hxc2 := Lib.hid (Row3.call hxc1.out hb)
    obtain ⟨⟨e0, e1, e2⟩, f0, f1, f2⟩ := mres2 hb hr1.out
    clear hb c0 c1 c2
    obtain ⟨⟨c0, c1, c2⟩, k0, k1, k2⟩ := row3_cells hxc2.out
    go_wp2_with fail
    go_region
    all_goals
      go_wp2_with fail
      refine bodyPost_ret (v := .tuple #[.agg #[.int .i64 w, .int .i64 h, .int .i64 _], .bool true]) (by simp [results, Try.results28, go_sem, e0, e1, e2]) rfl (HK.out _ ?_)
      repeat (first | exact hbl2.out | refine Below.drew ?_ | refine Below.setCell ?_ (by simp) _)
  · have hz : bits .or .i64 o (wrap64 (2 ^ g.toNat)) = sgZ w h o g true := by
      rw [IntWalk.wrap64_in _ (by omega), or_is hlt.1 hlt.2 g0 g1]; unfold sgZ; rw [if_pos hsg]; simp
    have HK := @Lib.hid _ (fun w' c => @mzb_mk w h _ _ true true W w' hz rfl c)
    clear hv hg hlt hsg hz hpw
    go_enter Try.func28, Try.ntmps28
    go_wp2_with fail
    refine (HO.out _).mono ?_
    rintro e w1 ⟨rfl, hb⟩
    have hbl1 := Lib.hid (below_call (HB.out _ _) hb)
    have hxc1 := Lib.hid (Row3.call (row3_two w h o W _ _) hb)
    have hr1 := Lib.hid (mres_block hb rfl)
    obtain ⟨⟨c0, c1, c2⟩, -⟩ := row3_cells hxc1.out
    clear hb
    go_wp2_with fail
    refine (HG.out _).mono ?_
    rintro e w2 ⟨rfl, hb⟩
    have hbl2 := Lib.hid (below_call hbl1.out hb)
    have hxc2 := Lib.hid (Row3.call hxc1.out hb)
    obtain ⟨⟨e0, e1, e2⟩, f0, f1, f2⟩ := mres2 hb hr1.out
    clear hb c0 c1 c2
    obtain ⟨⟨c0, c1, c2⟩, k0, k1, k2⟩ := row3_cells hxc2.out
    go_wp2_with fail
    go_region
    all_goals
      go_wp2_with fail
      refine bodyPost_ret (v := .tuple #[.agg #[.int .i64 w, .int .i64 h, .int .i64 _], .bool true]) (by simp [results, Try.results28, go_sem, e0, e1, e2]) rfl (HK.out _ ?_)
      repeat (first | exact hbl2.out | refine Below.drew ?_ | refine Below.setCell ?_ (by simp) _)

theorem setGap_any (w h o g : Int) (b : Bool) (W : World) :
    Calls Try.prog 28 #[.agg #[.int .i64 w, .int .i64 h, .int .i64 o], .int .i64 g, .bool b] W (MzB w h (sgZ w h o g b) (sgB w h o g) W) := by
  by_cases hs : OkM w h o ∧ 0 ≤ g ∧ g < gpsZ w h
  · rw [show sgB w h o g = true from decide_eq_true hs]
    exact setGap_in w h o g b W hs.1 hs.2
  · have h1 : sgB w h o g = false := decide_eq_false hs
    have h2 : sgZ w h o g b = o := by unfold sgZ; rw [h1]; simp
    rw [h1, h2]
    by_cases hv : OkM w h o
    · exact setGap_out w h o g b W hv (fun e => hs ⟨hv, e⟩)
    · exact setGap_no w h o g b W (decide_eq_false hv)

theorem fullMaze_any (w h : Int) (W : World) :
    Calls Try.prog 51 #[.agg #[.int .i64 w, .int .i64 h]] W (Mz (fmX w h) (fmY w h) (fmO w h) W) := by
  by_cases hn : 1 ≤ w ∧ w ≤ 4 ∧ 1 ≤ h ∧ h ≤ 4
  · unfold fmX fmY fmO; rw [if_pos hn, if_pos hn, if_pos hn]
    exact fullMaze_yes w h W hn.1 hn.2.1 hn.2.2.1 hn.2.2.2
  · unfold fmX fmY fmO; rw [if_neg hn, if_neg hn, if_neg hn]
    exact fullMaze_no w h W hn
end Go.Proofs.Ythakbjdkcdppjaa.mazeI

/- The contract of the program's directions in which a passage leads on. -/
namespace Go.Proofs.Ythakbjdkcdppjaa.mazeI
open Go.ChangeShapes Go.WideShapes Go.ChangeAt Go.RowKit
open draw gridP gridC bitP mazeP mazeC mazeM intsP mazeV
set_option linter.unusedVariables false

set_option maxRecDepth 100000 in
theorem waysFrom_any (w h o k : Int) (W : World) :
    Calls Try.prog 77 #[.agg #[.int .i64 w, .int .i64 h, .int .i64 o], .int .i64 k] W (Ints (wlZ w h o k) W) := by
  have HK := @Lib.hid _ (fun w' v n base => @ints_mk (wlZ w h o k) W w' v n base)
  obtain ⟨i0, hi0, hz0, hz1, hz2⟩ := info_parts info_int
  have HN0 := Lib.hid (World.ownsRow_nil (W.alloc (.cells #[.int .i64 w, .int .i64 h, .int .i64 o] 30)) (W.heap.size + 1) 3 1)
  have HB0 := Lib.hid (below_box W (.cells #[.int .i64 w, .int .i64 h, .int .i64 o] 30))
  have HX0 := Lib.hid (mbox_new w h o W 30)
  go_enter Try.func77, Try.ntmps77
  go_wp2_with fail
  go_loopw [5, 6] (fun u5 u6 wr => WRel W W.heap.size w h o k u5 u6 wr) (fun _ u6 _ => 4 - (intOf u6).toNat)
  case atStart => exact ⟨0, by omega, rfl, HN0.out, HB0.out, HX0.out⟩
  case round =>
    obtain ⟨d, hd, rfl, hown, hb, hx⟩ := hrel
    obtain ⟨A5, c5, rfl⟩ := own_form hown
    have hbl0 := Lib.hid hb
    have hxc0 := Lib.hid hx
    have HO := Lib.hid hown
    have hlen := wlN_len w h o k d
    obtain ⟨c0, c1, c2⟩ := hx.1
    clear HN0 HB0 HX0 hb hx hown
    by_cases hd4 : d < 4
    · have HS : Hid (∀ X, Calls Try.prog 78 #[.agg #[.int .i64 w, .int .i64 h, .int .i64 o], .int .i64 k, .int .i64 d] X (Nm (stZ w h o k d) X)) := fun X => step_any w h o k d X
      have hge := st_ge w h o k d
      by_cases hs : 0 ≤ stZ w h o k d
      · have HA := @Lib.hid _ (fun w2 w3 gg cap v ob a b c e f => @w_add W w2 w3 W.heap.size w h o k d gg cap v ob hd4 hs a b c (Nat.le_refl _) e f)
        have hne : (stZ w h o k d != -1) = true := by simp; omega
        have hsz := hbl0.out.size
        clear hs hge
        generalize stZ w h o k d = s at *
        go_wp2_with fail
        refine (HS.out _).mono ?_
        rintro e w1 ⟨rfl, hb⟩
        have hown1 := own_call HO.out hb
        have hbl1 := below_call hbl0.out hb
        have HX1 := Lib.hid (hxc0.out.call hb)
        have hz1' := hbl1.size
        have hmb := HX1.out.2
        clear hb c0 c1 c2
        go_wp2_with (at_builtin; refine wpList_append_lies _ rfl (.tmp 16) (.tmp 18) 26 rfl (W.heap.size + 1) 3 i0 _ 1 8 Try.underlying26 hi0 hz0 hz1 hz2 rfl (by omega) _ (wlN w h o k d).length _ rfl (hown1.alloc _) ⟨w1.heap.size, 0, none⟩ 1 1 (icells [(d : Int)]) rfl rfl (news_eqI rfl (heap_alloc_new w1 _)) (oneCellI _) (by omega) (by unfold maxLen; omega) (by omega) (by simp; omega) (w1.heap.size + 1) (by simp) ?_; intro gg cap w3 hown' hgrow hat hlt2; clear hat hlt2)
        go_roundw
        case rel => exact HA.out _ _ _ _ _ _ hown1 hbl1 HX1.out hown' hgrow
        case measure => simp [intOf]; omega
      · have HA := @Lib.hid _ (fun w2 v a b c => @w_skip W w2 W.heap.size w h o k d v hd4 hs a b c)
        have hne : (stZ w h o k d != -1) = false := by simp; omega
        clear hs hge
        generalize stZ w h o k d = s at *
        go_wp2_with fail
        refine (HS.out _).mono ?_
        rintro e w1 ⟨rfl, hb⟩
        have hown1 := Lib.hid (own_call HO.out hb)
        have hbl1 := Lib.hid (below_call hbl0.out hb)
        have HX1 := Lib.hid (hxc0.out.call hb)
        clear hb c0 c1 c2
        go_wp2_with fail
        go_roundw
        case rel => exact HA.out _ _ hown1.out hbl1.out HX1.out
        case measure => simp [intOf]; omega
    · obtain rfl : d = 4 := by omega
      go_wp2_with fail
      go_ret
      exact HK.out _ _ _ _ rfl HO.out (by omega) hbl0.out
end Go.Proofs.Ythakbjdkcdppjaa.mazeI
