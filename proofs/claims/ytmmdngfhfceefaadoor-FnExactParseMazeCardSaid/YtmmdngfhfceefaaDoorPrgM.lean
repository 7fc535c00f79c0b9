/- The library's count of the places that are 1, for numbers below 2 to the power of 24. -/
import Derived.Test.YtmmdngfhfceefaaDoorBase
import Derived.Test.YtmmdngfhfceefaaDoorPlain
import Derived.Test.YtmmdngfhfceefaaDoorMzB
import Derived.Test.YtmmdngfhfceefaaDoorPrgG
import Derived.Outline

namespace Go.Proofs.YtmmdngfhfceefaaDoor.mazeO
open Go.ChangeShapes Go.WideShapes Go.ChangeAt Go.RowKit
open bitP
set_option linter.unusedVariables false

theorem ones64 (n : Nat) (W : World) (h : n < 16777216) :
    Calls Tryd.prog 55 #[.int .u64 n] W fun e w' => e = .returned (.int .i64 (pcN n 24 : Nat)) ∧ W = w' := by
  obtain ⟨x, y, z, hx, hy, hz, bx, by', bz, he⟩ := ones h
  have K1 : IntKind.u64.wrap (bits .and .u64 ((n : Int) / 2) 6148914691236517205 + bits .and .u64 (n : Int) 6148914691236517205) = (x : Int) := by
    rw [show ((n : Int) / 2) = ((n / 2 : Nat) : Int) from by omega, show (6148914691236517205 : Int) = ((6148914691236517205 : Nat) : Int) from rfl, u64_and_nat _ _ (by omega) (by decide), u64_and_nat _ _ (by omega) (by decide), IntWalk.u64_in _ (by omega)]
    omega
  have K2 : IntKind.u64.wrap (bits .and .u64 ((x : Int) / 4) 3689348814741910323 + bits .and .u64 (x : Int) 3689348814741910323) = (y : Int) := by
    rw [show ((x : Int) / 4) = ((x / 4 : Nat) : Int) from by omega, show (3689348814741910323 : Int) = ((3689348814741910323 : Nat) : Int) from rfl, u64_and_nat _ _ (by omega) (by decide), u64_and_nat _ _ (by omega) (by decide), IntWalk.u64_in _ (by omega)]
    omega
  have K3 : bits .and .u64 (IntKind.u64.wrap ((y : Int) / 16 + (y : Int))) 1085102592571150095 = (z : Int) := by
    rw [IntWalk.u64_in _ (by omega), show ((y : Int) / 16 + (y : Int)) = ((y / 16 + y : Nat) : Int) from by omega, show (1085102592571150095 : Int) = ((1085102592571150095 : Nat) : Int) from rfl, u64_and_nat _ _ (by omega) (by decide)]
    omega
  have K4 : IntKind.u64.wrap ((z : Int) + (z : Int) / 256) = (((z + z / 256 : Nat)) : Int) := by rw [IntWalk.u64_in _ (by omega)]; omega
  have hv : z + z / 256 < 33554432 := by omega
  have HV : (z + z / 256 + (z + z / 256) / 65536) % 128 = pcN n 24 := he
  generalize z + z / 256 = v at K4 HV hv
  have K5 : IntKind.u64.wrap ((v : Int) + (v : Int) / 65536) = (((v + v / 65536 : Nat)) : Int) := by rw [IntWalk.u64_in _ (by omega)]; omega
  have hu : v + v / 65536 < 67108864 := by omega
  generalize v + v / 65536 = u at K5 HV hu
  have K6 : IntKind.u64.wrap ((u : Int) + (u : Int) / 4294967296) = (u : Int) := by rw [IntWalk.u64_in _ (by omega)]; omega
  have K7 : bits .and .i64 (IntKind.i64.wrap (u : Int)) 127 = ((pcN n 24 : Nat) : Int) := by
    rw [IntWalk.i64_in _ (by omega), show (127 : Int) = ((127 : Nat) : Int) from rfl, and_i64 _ _ (by omega) (by decide), nat_mask7, HV]
  clear HV hx hy hz he hv hu bx by' bz
  go_enter Tryd.func55, Tryd.ntmps55
  go_wp2_with fail
  go_ret
  refine ⟨?_, rfl⟩
  have K8 := K7
  rw [IntWalk.i64_left] at K8
  simp [Array.getD, *]

theorem ones_any (n : Nat) (W : World) (h : n < 16777216) :
    Calls Tryd.prog 32 #[.int .u64 n] W fun e w' => e = .returned (.int .i64 (pcN n 24 : Nat)) ∧ W = w' := by
  go_enter Tryd.func32, Tryd.ntmps32
  go_wp2_with fail
  refine (ones64 n _ h).mono ?_
  rintro e w1 ⟨rfl, rfl⟩
  go_wp2_with fail
  go_ret
  exact ⟨rfl, rfl⟩
end Go.Proofs.YtmmdngfhfceefaaDoor.mazeO

/- The contracts of the program's exported functions on mazes. -/
namespace Go.Proofs.YtmmdngfhfceefaaDoor.mazeI
open Go.ChangeShapes Go.WideShapes Go.ChangeAt Go.RowKit
open draw gridP gridC bitP mazeP mazeC
set_option linter.unusedVariables false

theorem ok_any (w h o : Int) (W : World) :
    Calls Tryd.prog 21 #[.agg #[.int .i64 w, .int .i64 h, .int .i64 o]] W (Bl (okB w h o) W) := by
  by_cases hn : 1 ≤ w ∧ w ≤ 4 ∧ 1 ≤ h ∧ h ≤ 4
  · obtain ⟨h1, h2, h3, h4⟩ := hn
    exact mok_any w h o W h1 h2 h3 h4 _ (by unfold okB OkM; simp [h1, h2, h3, h4])
  · have : okB w h o = false := by unfold okB OkM; simp only [hn, false_and, decide_false]
    rw [this]; exact mok_bad w h o W hn

theorem isPassage_bad (w h o g : Int) (W : World) (hv : okB w h o = false) :
    Calls Tryd.prog 47 #[.agg #[.int .i64 w, .int .i64 h, .int .i64 o], .int .i64 g] W (Bl (psB w h o g) W) := by
  have hp : false = psB w h o g := by
    unfold psB; unfold okB at hv
    simp only [decide_eq_false_iff_not] at hv
    symm; rw [decide_eq_false_iff_not]; exact fun e => hv e.1
  have HK := @Lib.hid _ (fun w' b => @bl_mk false (psB w h o g) W w' hp b)
  have HB := Lib.hid below_box
  have HO := Lib.hid (fun X => ok_any w h o X)
  rw [hv] at HO
  clear hv hp
  go_enter Tryd.func47, Tryd.ntmps47
  go_wp2_with fail
  refine (HO.out _).mono ?_
  rintro e w1 ⟨rfl, hb⟩
  have hbl1 := Lib.hid (below_call (HB.out _ _) hb)
  clear hb
  go_wp2_with fail
  go_ret
  exact HK.out _ hbl1.out

theorem isPassage_on (w h o g : Int) (W : World) (hv : OkM w h o) :
    Calls Tryd.prog 47 #[.agg #[.int .i64 w, .int .i64 h, .int .i64 o], .int .i64 g] W (Bl (psB w h o g) W) := by
  have HB := Lib.hid below_box
  have HO := Lib.hid (fun X => ok_any w h o X)
  rw [show okB w h o = true from decide_eq_true hv] at HO
  have hv' := hv
  obtain ⟨⟨h1, h2, h3, h4⟩, -, -⟩ := hv'
  by_cases hg : 0 ≤ g ∧ g < gpsZ w h
  · have hlt := hv.lt
    have hp : (bits .and .i64 (o / 2 ^ g.toNat) 1 == 1) = psB w h o g := by
      rw [bit_is hlt.1 hlt.2 hg.1]
      unfold psB; rw [Bool.eq_iff_iff]; simp [hv, hg.1, hg.2]
    have HK := @Lib.hid _ (fun w' b => @bl_mk _ (psB w h o g) W w' hp b)
    have HG : Hid (∀ X, Calls Tryd.prog 49 #[.agg #[.int .i64 w, .int .i64 h], .int .i64 g] X (Bl true X)) := fun X => hasGap_yes w h g X h1 h2 h3 h4 hg.1 hg.2
    have g0 := hg.1
    have g1 : g < 24 := by have := (gps_bd h1 h2 h3 h4).2; omega
    clear hp hg hv
    go_enter Tryd.func47, Tryd.ntmps47
    go_wp2_with fail
    refine (HO.out _).mono ?_
    rintro e w1 ⟨rfl, hb⟩
    have hbl1 := Lib.hid (below_call (HB.out _ _) hb)
    have hxc1 := Lib.hid ((mbox_new w h o W _).call hb)
    clear hb
    obtain ⟨c0, c1, c2⟩ := hxc1.out.1
    go_wp2_with fail
    refine (HG.out _).mono ?_
    rintro e w2 ⟨rfl, hb⟩
    have hbl2 := Lib.hid (below_call hbl1.out hb)
    have hxc2 := Lib.hid (hxc1.out.call hb)
    clear hb hbl1  hxc1 c0 c1 c2
    obtain ⟨c0, c1, c2⟩ := hxc2.out.1
    go_wp2_with fail
    go_ret
    exact HK.out _ hbl2.out
  · have hp : false = psB w h o g := by
      unfold psB; symm; rw [decide_eq_false_iff_not]; exact fun e => hg ⟨e.2.1, e.2.2.1⟩
    have HK := @Lib.hid _ (fun w' b => @bl_mk false (psB w h o g) W w' hp b)
    have HG : Hid (∀ X, Calls Tryd.prog 49 #[.agg #[.int .i64 w, .int .i64 h], .int .i64 g] X (Bl false X)) := fun X => hasGap_no w h g X h1 h2 h3 h4 hg
    clear hp hg hv
    go_enter Tryd.func47, Tryd.ntmps47
    go_wp2_with fail
    refine (HO.out _).mono ?_
    rintro e w1 ⟨rfl, hb⟩
    have hbl1 := Lib.hid (below_call (HB.out _ _) hb)
    have hxc1 := Lib.hid ((mbox_new w h o W _).call hb)
    clear hb
    obtain ⟨c0, c1, c2⟩ := hxc1.out.1
    go_wp2_with fail
    refine (HG.out _).mono ?_
    rintro e w2 ⟨rfl, hb⟩
    have hbl2 := Lib.hid (below_call hbl1.out hb)
    have hxc2 := Lib.hid (hxc1.out.call hb)
    clear hb hbl1  hxc1 c0 c1 c2
    obtain ⟨c0, c1, c2⟩ := hxc2.out.1
    go_wp2_with fail
    go_ret
    exact HK.out _ hbl2.out

theorem isPassage_any (w h o g : Int) (W : World) :
    Calls Tryd.prog 47 #[.agg #[.int .i64 w, .int .i64 h, .int .i64 o], .int .i64 g] W (Bl (psB w h o g) W) := by
  by_cases hv : OkM w h o
  · exact isPassage_on w h o g W hv
  · exact isPassage_bad w h o g W (decide_eq_false hv)

theorem countPassages_any (w h o : Int) (W : World) :
    Calls Tryd.prog 14 #[.agg #[.int .i64 w, .int .i64 h, .int .i64 o]] W (Nm (cpZ w h o) W) := by
  have HB := Lib.hid below_box
  have HO := Lib.hid (fun X => ok_any w h o X)
  by_cases hv : OkM w h o
  · rw [show okB w h o = true from decide_eq_true hv] at HO
    have hc : ((pcN o.toNat 24 : Nat) : Int) = cpZ w h o := by unfold cpZ; rw [if_pos hv]
    have hlt := hv.lt
    obtain ⟨n, rfl⟩ := Int.eq_ofNat_of_zero_le hlt.1
    rw [Int.toNat_natCast] at hc
    have HK := @Lib.hid _ (fun w' b => @nm_mk _ _ W w' hc b)
    have h0 : 0 ≤ (n : Int) := hlt.1
    have h1 : (n : Int) < 16777216 := hlt.2
    have hn : n < 16777216 := by omega
    clear hc hlt hv
    go_enter Tryd.func14, Tryd.ntmps14
    go_wp2_with fail
    refine (HO.out _).mono ?_
    rintro e w1 ⟨rfl, hb⟩
    have hbl1 := Lib.hid (below_call (HB.out _ _) hb)
    have hxc1 := Lib.hid ((mbox_new w h n W _).call hb)
    clear hb
    obtain ⟨c0, c1, c2⟩ := hxc1.out.1
    go_wp2_with fail
    refine (mazeO.ones_any n _ hn).mono ?_
    rintro e w' ⟨rfl, rfl⟩
    go_wp2_with fail
    go_ret
    exact HK.out _ hbl1.out
  · rw [show okB w h o = false from decide_eq_false hv] at HO
    have hc : 0 = cpZ w h o := by unfold cpZ; rw [if_neg hv]
    have HK := @Lib.hid _ (fun w' b => @nm_mk _ _ W w' hc b)
    clear hc hv
    go_enter Tryd.func14, Tryd.ntmps14
    go_wp2_with fail
    refine (HO.out _).mono ?_
    rintro e w1 ⟨rfl, hb⟩
    have hbl1 := Lib.hid (below_call (HB.out _ _) hb)
    have hxc1 := Lib.hid ((mbox_new w h o W _).call hb)
    clear hb
    obtain ⟨c0, c1, c2⟩ := hxc1.out.1
    go_wp2_with fail
    go_ret
    exact HK.out _ hbl1.out

end Go.Proofs.YtmmdngfhfceefaaDoor.mazeI

/- The contracts of the program's functions that answer a maze. -/
namespace Go.Proofs.YtmmdngfhfceefaaDoor.mazeI
open Go.ChangeShapes Go.WideShapes Go.ChangeAt Go.RowKit
open draw gridP gridC bitP mazeP mazeC mazeM
set_option linter.unusedVariables false

theorem setGap_no (w h o g : Int) (b : Bool) (W : World) (hv : okB w h o = false) :
    Calls Tryd.prog 25 #[.agg #[.int .i64 w, .int .i64 h, .int .i64 o], .int .i64 g, .bool b] W (MzB w h o false W) := by
  have HK := @Lib.hid _ (fun w' c => @mzb_mk w h o o false false W w' rfl rfl c)
  have HB := Lib.hid (below_two W)
  have HO := Lib.hid (fun X => ok_any w h o X)
  rw [hv] at HO
  clear hv
  go_enter Tryd.func25, Tryd.ntmps25
  go_wp2_with fail
  refine (HO.out _).mono ?_
  rintro e w1 ⟨rfl, hb⟩
  have hbl1 := Lib.hid (below_call (HB.out _ _) hb)
  obtain ⟨⟨c0, c1, c2⟩, -⟩ := (mbox_two w h o W _ _).call hb
  obtain ⟨⟨e0, e1, e2⟩, f0, f1, f2⟩ := mres hb rfl
  clear hb
  go_wp2_with fail
  refine bodyPost_ret (v := .tuple #[.agg #[.int .i64 w, .int .i64 h, .int .i64 o], .bool false]) (by simp [results, Tryd.results25, go_sem, e0, e1, e2]) rfl (HK.out _ ?_)
  repeat (first | exact hbl1.out | refine Below.setCell ?_ (by simp) _)

theorem setGap_out (w h o g : Int) (b : Bool) (W : World) (hv : OkM w h o) (hg : ¬ (0 ≤ g ∧ g < gpsZ w h)) :
    Calls Tryd.prog 25 #[.agg #[.int .i64 w, .int .i64 h, .int .i64 o], .int .i64 g, .bool b] W (MzB w h o false W) := by
  have HK := @Lib.hid _ (fun w' c => @mzb_mk w h o o false false W w' rfl rfl c)
  have HB := Lib.hid (below_two W)
  have HO := Lib.hid (fun X => ok_any w h o X)
  rw [show okB w h o = true from decide_eq_true hv] at HO
  have HG : Hid (∀ X, Calls Tryd.prog 49 #[.agg #[.int .i64 w, .int .i64 h], .int .i64 g] X (Bl false X)) := fun X => hasGap_no w h g X hv.1.1 hv.1.2.1 hv.1.2.2.1 hv.1.2.2.2 hg
  clear hv hg
  go_enter Tryd.func25, Tryd.ntmps25
  go_wp2_with fail
  refine (HO.out _).mono ?_
  rintro e w1 ⟨rfl, hb⟩
  have hbl1 := Lib.hid (below_call (HB.out _ _) hb)
  have hxc1 := Lib.hid ((mbox_two w h o W _ _).call hb)
  have hr1 := Lib.hid (mres_block hb rfl)
  obtain ⟨c0, c1, c2⟩ := hxc1.out.1
  clear hb
  go_wp2_with fail
  refine (HG.out _).mono ?_
  rintro e w2 ⟨rfl, hb⟩
  have hbl2 := Lib.hid (below_call hbl1.out hb)
  have hxc2 := Lib.hid (hxc1.out.call hb)
  obtain ⟨⟨e0, e1, e2⟩, f0, f1, f2⟩ := mres2 hb hr1.out
  clear hb c0 c1 c2
  obtain ⟨c0, c1, c2⟩ := hxc2.out.1
  go_wp2_with fail
  refine bodyPost_ret (v := .tuple #[.agg #[.int .i64 w, .int .i64 h, .int .i64 o], .bool false]) (by simp [results, Tryd.results25, go_sem, e0, e1, e2]) rfl (HK.out _ ?_)
  repeat (first | exact hbl2.out | refine Below.setCell ?_ (by simp) _)

theorem setGap_in (w h o g : Int) (b : Bool) (W : World) (hv : OkM w h o) (hg : 0 ≤ g ∧ g < gpsZ w h) :
    Calls Tryd.prog 25 #[.agg #[.int .i64 w, .int .i64 h, .int .i64 o], .int .i64 g, .bool b] W (MzB w h (sgZ w h o g b) true W) := by
  have HB := Lib.hid (below_two W)
  have HO := Lib.hid (fun X => ok_any w h o X)
  rw [show okB w h o = true from decide_eq_true hv] at HO
  have HG : Hid (∀ X, Calls Tryd.prog 49 #[.agg #[.int .i64 w, .int .i64 h], .int .i64 g] X (Bl true X)) := fun X => hasGap_yes w h g X hv.1.1 hv.1.2.1 hv.1.2.2.1 hv.1.2.2.2 hg.1 hg.2
  have hlt := hv.lt
  have g0 := hg.1
  have g1 : g < 24 := by have := (gps_bd hv.1.1 hv.1.2.1 hv.1.2.2.1 hv.1.2.2.2).2; omega
  have hsg : sgB w h o g = true := decide_eq_true ⟨hv, hg⟩
  have hpw := pow_bd g (by omega)
  cases b
  · have hz : bits .andNot .i64 o (wrap64 (2 ^ g.toNat)) = sgZ w h o g false := by
      rw [IntWalk.wrap64_in _ (by omega), andNot_is hlt.1 hlt.2 g0 g1]; unfold sgZ; rw [if_pos hsg]; simp
    have HK := @Lib.hid _ (fun w' c => @mzb_mk w h _ _ true true W w' hz rfl c)
    clear hv hg hlt hsg hz hpw
    go_enter Tryd.func25, Tryd.ntmps25
    go_wp2_with fail
    refine (HO.out _).mono ?_
    rintro e w1 ⟨rfl, hb⟩
    have hbl1 := Lib.hid (below_call (HB.out _ _) hb)
    have hxc1 := Lib.hid (Row3.call (row3_two w h o W _ _) hb)
    have hr1 := Lib.hid (mres_block hb rfl)
    obtain ⟨⟨c0, c1, c2⟩, -⟩ := row3_cells hxc1.out
    clear hb
    go_wp2_with fail
    refine (HG.out _).mono ?_
    rintro e w2 ⟨rfl, hb⟩
    have hbl2 := Lib.hid (below_call hbl1.out hb)
    have hxc2 := Lib.hid (Row3.call hxc1.out hb)
    obtain ⟨⟨e0, e1, e2⟩, f0, f1, f2⟩ := mres2 hb hr1.out
    clear hb c0 c1 c2
    obtain ⟨⟨c0, c1, c2⟩, k0, k1, k2⟩ := row3_cells hxc2.out
    go_wp2_with fail
    go_region
    all_goals
      go_wp2_with fail
      refine bodyPost_ret (v := .tuple #[.agg #[.int .i64 w, .int .i64 h, .int .i64 _], .bool true]) (by simp [results, Tryd.results25, go_sem, e0, e1, e2]) rfl (HK.out _ ?_)
      repeat (first | exact hbl2.out | refine Below.drew ?_ | refine Below.setCell ?_ (by simp) _)
  · have hz : bits .or .i64 o (wrap64 (2 ^ g.toNat)) = sgZ w h o g true := by
      rw [IntWalk.wrap64_in _ (by omega), or_is hlt.1 hlt.2 g0 g1]; unfold sgZ; rw [if_pos hsg]; simp
    have HK := @Lib.hid _ (fun w' c => @mzb_mk w h _ _ true true W w' hz rfl c)
    clear hv hg hlt hsg hz hpw
    go_enter Tryd.func25, Tryd.ntmps25
    go_wp2_with fail
    refine (HO.out _).mono ?_
    rintro e w1 ⟨rfl, hb⟩
    have hbl1 := Lib.hid (below_call (HB.out _ _) hb)
    have hxc1 := Lib.hid (Row3.call (row3_two w h o W _ _) hb)
    have hr1 := Lib.hid (mres_block hb rfl)
    obtain ⟨⟨c0, c1, c2⟩, -⟩ := row3_cells hxc1.out
    clear hb
    go_wp2_with fail
    refine (HG.out _).mono ?_
    rintro e w2 ⟨rfl, hb⟩
    have hbl2 := Lib.hid (below_call hbl1.out hb)
    have hxc2 := Lib.hid (Row3.call hxc1.out hb)
    obtain ⟨⟨e0, e1, e2⟩, f0, f1, f2⟩ := mres2 hb hr1.out
    clear hb c0 c1 c2
    obtain ⟨⟨c0, c1, c2⟩, k0, k1, k2⟩ := row3_cells hxc2.out
    go_wp2_with fail
    go_region
    all_goals
      go_wp2_with fail
      refine bodyPost_ret (v := .tuple #[.agg #[.int .i64 w, .int .i64 h, .int .i64 _], .bool true]) (by simp [results, Tryd.results25, go_sem, e0, e1, e2]) rfl (HK.out _ ?_)
      repeat (first | exact hbl2.out | refine Below.drew ?_ | refine Below.setCell ?_ (by simp) _)

theorem setGap_any (w h o g : Int) (b : Bool) (W : World) :
    Calls Tryd.prog 25 #[.agg #[.int .i64 w, .int .i64 h, .int .i64 o], .int .i64 g, .bool b] W (MzB w h (sgZ w h o g b) (sgB w h o g) W) := by
  by_cases hs : OkM w h o ∧ 0 ≤ g ∧ g < gpsZ w h
  · rw [show sgB w h o g = true from decide_eq_true hs]
    exact setGap_in w h o g b W hs.1 hs.2
  · have h1 : sgB w h o g = false := decide_eq_false hs
    have h2 : sgZ w h o g b = o := by unfold sgZ; rw [h1]; simp
    rw [h1, h2]
    by_cases hv : OkM w h o
    · exact setGap_out w h o g b W hv (fun e => hs ⟨hv, e⟩)
    · exact setGap_no w h o g b W (decide_eq_false hv)

end Go.Proofs.YtmmdngfhfceefaaDoor.mazeI

/- The contract of the program's directions in which a passage leads on. -/
namespace Go.Proofs.YtmmdngfhfceefaaDoor.mazeI
open Go.ChangeShapes Go.WideShapes Go.ChangeAt Go.RowKit
open draw gridP gridC bitP mazeP mazeC mazeM intsP mazeV
set_option linter.unusedVariables false

end Go.Proofs.YtmmdngfhfceefaaDoor.mazeI
