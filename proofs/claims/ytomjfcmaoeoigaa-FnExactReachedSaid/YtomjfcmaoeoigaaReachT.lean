/- The contracts of the model's exported functions on reaching cells. -/
import Derived.Test.YtomjfcmaoeoigaaReachS
namespace Go.Proofs.Ytomjfcmaoeoigaa.reachS
open Go.ChangeShapes Go.WideShapes Go.ChangeAt Go.RowKit
open draw gridP gridC bitP mazeP mazeC mazeM mazeS intsP reachP reachM reachN reachD
set_option linter.unusedVariables false

theorem reached_no (x y z a : Int) (W : World) (hh : hasB x y z a = false) :
    Calls Try.prog 18 #[.agg #[.int .i64 x, .int .i64 y, .int .i64 z], .int .i64 a] W (Ints (rsZ x y z a) W) := by
  have hr : rsZ x y z a = [] := by unfold rsZ; rw [hh]; rfl
  rw [hr]
  have HK := @Lib.hid _ (fun w' v n base => @ints_mk [] W w' v n base)
  have HH := Lib.hid (fun X => has_any x y z a X)
  rw [hh] at HH
  have HB := Lib.hid (below_two W (.cells #[.int .i64 x, .int .i64 y, .int .i64 z] 27))
  have HZ := Lib.hid (own_zero W (.cells #[.int .i64 x, .int .i64 y, .int .i64 z] 27))
  clear hr hh
  go_enter Try.func18, Try.ntmps18
  go_wp2_with fail
  refine (HH.out _).mono ?_
  rintro e w1 ⟨rfl, hb⟩
  have hbl1 := Lib.hid (below_call (HB.out _) hb)
  have ho1 := Lib.hid (own_call HZ.out hb)
  clear hb
  go_wp2_with fail
  go_ret
  exact HK.out _ _ _ _ rfl ho1.out (by omega) hbl1.out

set_option maxRecDepth 100000 in
set_option maxHeartbeats 1000000 in
theorem reached_yes (x y z a : Int) (W : World) (hh : hasB x y z a = true) :
    Calls Try.prog 18 #[.agg #[.int .i64 x, .int .i64 y, .int .i64 z], .int .i64 a] W (Ints (rsZ x y z a) W) := by
  obtain ⟨i0, hi0, hz0, hz1, hz2⟩ := info_parts info_int
  obtain ⟨hv, k, rfl, ha, haN, hak, hN16, hNN⟩ := has_form hh
  have hr : rsZ x y z (k : Int) = rlN (stN x y z) (cN x y) k (cN x y) := by unfold rsZ; rw [if_pos hh]; simp
  rw [hr]
  have HH := Lib.hid (fun X => has_any x y z k X)
  rw [hh] at HH
  have HD := Lib.hid (fun X => distances_any x y z k X hv ha)
  generalize cN x y = N at *
  generalize stN x y z = st at *
  have HK := @Lib.hid _ (fun w' v n base => @ints_mk (rlN st N k N) W w' v n base)
  have HB := Lib.hid (below_two W (.cells #[.int .i64 x, .int .i64 y, .int .i64 z] 27))
  have HZ := Lib.hid (own_zero W (.cells #[.int .i64 x, .int .i64 y, .int .i64 z] 27))
  have HX := Lib.hid (mbox_two x y z W 27)
  clear hr hh ha hak hNN hv
  go_enter Try.func18, Try.ntmps18
  go_wp2_with fail
  refine (HH.out _).mono ?_
  rintro e w1 ⟨rfl, hb⟩
  have hbl1 := Lib.hid (below_call (HB.out _) hb)
  have ho1 := Lib.hid (own_call HZ.out hb)
  have hx1 := Lib.hid ((HX.out _).call hb)
  obtain ⟨c0, c1, c2⟩ := hx1.out.1
  clear hb HX HZ HB
  go_wp2_with fail
  refine (HD.out _).mono ?_
  rintro e w2 ⟨vd, rfl, hd, hb⟩
  have hbl2 := Lib.hid (below_call hbl1.out hb)
  have ho2 := Lib.hid (own_call ho1.out hb)
  rw [dl_len] at hd
  obtain ⟨g, cg, rfl, hg, hgs⟩ := own_some hd (by omega)
  have hwz := hbl1.out.size
  have hsz1 : W.heap.size + 1 < w1.heap.size := (own_lt ho1.out) _ rfl
  have hvd := Lib.hid (own_base hd (show W.heap.size + 1 ≤ w1.heap.size by omega))
  have hne : Hid ((Value.slice (some ⟨W.heap.size + 1, 0, none⟩) 0 0).ownBlock ≠ some g) := by
    show some (W.heap.size + 1) ≠ some g
    intro e; have := Option.some.inj e; omega
  clear hb hd hbl1 ho1 hx1 c0 c1 c2
  go_wp2_with fail
  go_loopw [5, 7] (fun u5 u7 wr => RS W g N k st (.slice (some ⟨g, 0, none⟩) N cg) u5 u7 wr) (fun _ u7 _ => N - (intOf u7).toNat)
  case atStart => exact ⟨0, Nat.zero_le _, rfl, hbl2.out, ho2.out, hne.out, hvd.out⟩
  case round =>
    obtain ⟨j, hj, rfl, hb0, ho0, hn0, hv0⟩ := hrel
    have hbl := Lib.hid hb0
    have ho := Lib.hid ho0
    have hn := Lib.hid hn0
    have hv := Lib.hid hv0
    have hll := rlN_len st N k j
    have hsz := hb0.size
    obtain ⟨A5, c5, rfl⟩ := own_form ho0
    clear hb0 ho0 hn0 hv0 hbl2 ho2 hne hvd
    by_cases hjN : j < N
    · have hcell := dl_cell hv.out rfl hjN
      have hj0 : (0 : Int) ≤ (j : Int) := Int.natCast_nonneg _
      have hj1 : (j : Int) < (N : Int) := by omega
      have hgx := own_at hv.out
      by_cases hd : 0 ≤ dZ st N k j
      · have HA := @Lib.hid _ (fun X' gg cap ob p1 p2 p3 => @rs_add W wr X' g N k j gg cap cg st _ ob hjN hd hbl.out ho.out hn.out hv.out p1 p2 p3)
        generalize dZ st N k j = dv at *
        go_wp2_with (at_builtin; refine wpList_append_lies _ rfl (.tmp 28) (.tmp 30) 33 rfl (W.heap.size + 1) 3 i0 _ 1 8 Try.underlying33 hi0 hz0 hz1 hz2 rfl (by omega) _ (rlN st N k j).length _ rfl (ho.out.alloc _) ⟨wr.heap.size, 0, none⟩ 1 1 (icells [(j : Int)]) rfl rfl (news_eqI rfl (heap_alloc_new wr _)) (oneCellI _) (by omega) (by unfold maxLen; omega) (by omega) (by simp; omega) (wr.heap.size + 1) (by simp) ?_; intro gg cap w3 hown' hgrow hat hlt2; clear hlt2)
        have HAt := Lib.hid hat
        clear hat
        go_roundw
        case rel => exact HA.out _ _ _ _ hown' hgrow HAt.out
        case measure => simp [intOf]; omega
      · have HN := Lib.hid (rs_skip hjN hd hbl.out ho.out hn.out hv.out)
        have hd' : decide (0 ≤ dZ st N k j) = false := by simpa using hd
        generalize dZ st N k j = dv at *
        clear hd
        go_wp2_with fail
        go_roundw
        case rel => exact HN.out
        case measure => simp [intOf]; omega
    · obtain rfl : j = N := by omega
      go_wp2_with fail
      go_ret
      exact HK.out _ _ _ _ rfl ho.out (by omega) hbl.out

theorem reached_any (x y z a : Int) (W : World) :
    Calls Try.prog 18 #[.agg #[.int .i64 x, .int .i64 y, .int .i64 z], .int .i64 a] W (Ints (rsZ x y z a) W) := by
  by_cases h : hasB x y z a = true
  · exact reached_yes x y z a W h
  · exact reached_no x y z a W (by simpa using h)

theorem distanceOf_any (x y z a b : Int) (W : World) :
    Calls Try.prog 25 #[.agg #[.int .i64 x, .int .i64 y, .int .i64 z], .int .i64 a, .int .i64 b] W (Nm (dsZ x y z a b) W) := by
  have HB := Lib.hid below_box
  have HH := Lib.hid (fun X => has_any x y z a X)
  have HH2 := Lib.hid (fun X => has_any x y z b X)
  by_cases h1 : hasB x y z a = true
  · rw [h1] at HH
    by_cases h2 : hasB x y z b = true
    · rw [h2] at HH2
      obtain ⟨hv, k, rfl, ha, haN, hak, hN16, hNN⟩ := has_form h1
      obtain ⟨-, j, rfl, hb, hbN, hbk, -, -⟩ := has_form h2
      have he : dZ (stN x y z) (cN x y) k j = dsZ x y z k j := by unfold dsZ; rw [if_pos ⟨h1, h2⟩]; simp
      have HK := @Lib.hid _ (fun w' b => @nm_mk _ _ W w' he b)
      have HD := Lib.hid (fun X => distances_any x y z k X hv ha)
      clear he h1 h2 hv ha hak hb hbk hNN
      generalize cN x y = N at *
      generalize stN x y z = st at *
      go_enter Try.func25, Try.ntmps25
      go_wp2_with fail
      refine (HH.out _).mono ?_
      rintro e w1 ⟨rfl, hb⟩
      have hbl1 := Lib.hid (below_call (HB.out _ _) hb)
      have hxc1 := Lib.hid ((mbox_new x y z W _).call hb)
      clear hb
      obtain ⟨c0, c1, c2⟩ := hxc1.out.1
      go_wp2_with fail
      refine (HH2.out _).mono ?_
      rintro e w2 ⟨rfl, hb⟩
      have hbl2 := Lib.hid (below_call hbl1.out hb)
      have hxc2 := Lib.hid (hxc1.out.call hb)
      clear hb hbl1  hxc1 c0 c1 c2
      obtain ⟨c0, c1, c2⟩ := hxc2.out.1
      go_wp2_with fail
      refine (HD.out _).mono ?_
      rintro e w3 ⟨vd, rfl, hd, hb⟩
      have hbl3 := Lib.hid (below_call hbl2.out hb)
      rw [dl_len] at hd
      obtain ⟨g, cg, rfl, hg, hgs⟩ := own_some hd (by omega)
      have hcell := dl_cell hd rfl hbN
      have hj0 : (0 : Int) ≤ (j : Int) := Int.natCast_nonneg _
      have hj1 : (j : Int) < (N : Int) := by omega
      clear hb hd hg hgs
      go_wp2_with fail
      go_ret
      exact HK.out _ hbl3.out
    · have h2' : hasB x y z b = false := by simpa using h2
      rw [h2'] at HH2
      have he : -1 = dsZ x y z a b := by unfold dsZ; rw [if_neg (fun e => h2 e.2)]
      have HK := @Lib.hid _ (fun w' b => @nm_mk _ _ W w' he b)
      clear he h1 h2 h2'
      go_enter Try.func25, Try.ntmps25
      go_wp2_with fail
      refine (HH.out _).mono ?_
      rintro e w1 ⟨rfl, hb⟩
      have hbl1 := Lib.hid (below_call (HB.out _ _) hb)
      have hxc1 := Lib.hid ((mbox_new x y z W _).call hb)
      clear hb
      obtain ⟨c0, c1, c2⟩ := hxc1.out.1
      go_wp2_with fail
      refine (HH2.out _).mono ?_
      rintro e w2 ⟨rfl, hb⟩
      have hbl2 := Lib.hid (below_call hbl1.out hb)
      have hxc2 := Lib.hid (hxc1.out.call hb)
      clear hb hbl1  hxc1 c0 c1 c2
      obtain ⟨c0, c1, c2⟩ := hxc2.out.1
      go_wp2_with fail
      go_ret
      exact HK.out _ hbl2.out
  · have h1' : hasB x y z a = false := by simpa using h1
    rw [h1'] at HH
    have he : -1 = dsZ x y z a b := by unfold dsZ; rw [if_neg (fun e => h1 e.1)]
    have HK := @Lib.hid _ (fun w' b => @nm_mk _ _ W w' he b)
    clear he h1 h1'
    go_enter Try.func25, Try.ntmps25
    go_wp2_with fail
    refine (HH.out _).mono ?_
    rintro e w1 ⟨rfl, hb⟩
    have hbl1 := Lib.hid (below_call (HB.out _ _) hb)
    have hxc1 := Lib.hid ((mbox_new x y z W _).call hb)
    clear hb
    obtain ⟨c0, c1, c2⟩ := hxc1.out.1
    go_wp2_with fail
    go_ret
    exact HK.out _ hbl1.out
end Go.Proofs.Ytomjfcmaoeoigaa.reachS
