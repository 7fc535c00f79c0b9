/- The contracts of the model's search: whether a maze has a cell, and the distances of all cells from one. -/
import Derived.Test.YtgocbnnhhpmndaaMzB
import Derived.Test.YtgocbnnhhpmndaaModM

namespace Go.Proofs.Ytgocbnnhhpmndaa.reachS
open Go.ChangeShapes Go.WideShapes Go.ChangeAt Go.RowKit
open draw gridP gridC bitP mazeP mazeC mazeM mazeS intsP reachP reachM reachN reachD
set_option linter.unusedVariables false

theorem has_any (x y z a : Int) (W : World) :
    Calls Try.prog 39 #[.agg #[.int .i64 x, .int .i64 y, .int .i64 z], .int .i64 a] W (Bl (hasB x y z a) W) := by
  have HB := Lib.hid below_box
  have HO := Lib.hid (fun X => ok_any x y z X)
  by_cases hv : OkM x y z
  · rw [show okB x y z = true from decide_eq_true hv] at HO
    obtain ⟨⟨h1, h2, h3, h4⟩, -, -⟩ := id hv
    have HC : Hid (∀ X, Calls Try.prog 16 #[.agg #[.int .i64 x, .int .i64 y]] X (Nm (x * y) X)) := fun X => gridS.countCells_yes x y X h1 h2 h3 h4
    have hcc := (mul_bd x y h1 h2 h3 h4).1
    have he : inB a 0 (x * y - 1) = hasB x y z a := by unfold inB hasB; rw [Bool.eq_iff_iff]; simp [hv]; omega
    have HK := @Lib.hid _ (fun w' b => @bl_mk _ (hasB x y z a) W w' he b)
    clear hv he h1 h2 h3 h4
    generalize x * y = N at *
    go_enter Try.func39, Try.ntmps39
    go_wp2_with fail
    refine (HO.out _).mono ?_
    rintro e w1 ⟨rfl, hb⟩
    have hbl1 := Lib.hid (below_call (HB.out _ _) hb)
    have hxc1 := Lib.hid ((mbox_new x y z W _).call hb)
    clear hb
    obtain ⟨c0, c1, c2⟩ := hxc1.out.1
    go_wp2_with fail
    refine (HC.out _).mono ?_
    rintro e w2 ⟨rfl, hb⟩
    have hbl2 := Lib.hid (below_call hbl1.out hb)
    have hxc2 := Lib.hid (hxc1.out.call hb)
    clear hb hbl1  hxc1 c0 c1 c2
    obtain ⟨c0, c1, c2⟩ := hxc2.out.1
    go_wp2_with fail
    refine (in_b _ _ _ _).mono ?_
    rintro e w' ⟨rfl, rfl⟩
    go_wp2_with fail
    go_ret
    exact HK.out _ hbl2.out
  · rw [show okB x y z = false from decide_eq_false hv] at HO
    have he : false = hasB x y z a := by unfold hasB; symm; rw [decide_eq_false_iff_not]; exact fun e => hv e.1
    have HK := @Lib.hid _ (fun w' b => @bl_mk _ (hasB x y z a) W w' he b)
    clear hv he
    go_enter Try.func39, Try.ntmps39
    go_wp2_with fail
    refine (HO.out _).mono ?_
    rintro e w1 ⟨rfl, hb⟩
    have hbl1 := Lib.hid (below_call (HB.out _ _) hb)
    have hxc1 := Lib.hid ((mbox_new x y z W _).call hb)
    clear hb
    obtain ⟨c0, c1, c2⟩ := hxc1.out.1
    go_wp2_with fail
    go_ret
    exact HK.out _ hbl1.out

set_option maxRecDepth 100000 in
set_option maxHeartbeats 4000000 in
theorem distances_any (x y z : Int) (a : Nat) (W : World) (hv : OkM x y z) (ha : (a : Int) < x * y) :
    Calls Try.prog 94 #[.agg #[.int .i64 x, .int .i64 y, .int .i64 z], .int .i64 a] W (Ints (dl (stN x y z) (cN x y) a) W) := by
  obtain ⟨i0, hi0, hz0, hz1, hz2⟩ := info_parts info_int
  obtain ⟨⟨h1, h2, h3, h4⟩, -, -⟩ := id hv
  have hcc := (mul_bd x y h1 h2 h3 h4).1
  have HC : Hid (∀ X, Calls Try.prog 16 #[.agg #[.int .i64 x, .int .i64 y]] X (Nm (x * y) X)) := fun X => gridS.countCells_yes x y X h1 h2 h3 h4
  have HS := Lib.hid (fun u q X => step_any x y z u q X)
  have hlt := @stN_lt x y z
  obtain ⟨N, hN⟩ := Int.eq_ofNat_of_zero_le (show 0 ≤ x * y by omega)
  have hcN : cN x y = N := by unfold cN; omega
  rw [hcN] at hlt ⊢
  rw [hN] at HC hcc ha
  have haN : a < N := by omega
  have HLt := Lib.hid hlt
  have HEnd := @Lib.hid _ (fun D L k q (h : Inv (stN x y z) N a D L k q) hk => dl_eq h hk haN hlt)
  have HK := @Lib.hid _ (fun w' v n base => @ints_mk (dl (stN x y z) N a) W w' v n base)
  have HX0 := Lib.hid (mbox_new x y z W 30)
  have HB0 := Lib.hid (below_box W (.cells #[.int .i64 x, .int .i64 y, .int .i64 z] 30))
  clear h1 h2 h3 h4 hcN hN hlt hv
  go_enter Try.func94, Try.ntmps94
  go_wp2_with fail
  refine (HC.out _).mono ?_
  rintro e w1 ⟨rfl, hb⟩
  have hbl1 := Lib.hid (below_call HB0.out hb)
  have hxm1 := Lib.hid (HX0.out.call hb)
  have hbQ := hxm1.out.2
  have hWQ := hbl1.out.size
  have ds1 := Lib.hid (ds_make (N := N) hbl1.out hxm1.out hWQ (by unfold maxLen; omega))
  have hmk := run_make (P := Try.prog) w1 26 3 i0 (.int .i64 0) Try.underlying26 hi0 hz0 .i64 .i64 (N : Int) (N : Int) (by omega) (by omega) (by rw [hz2]; omega) (by omega)
  rw [hz1] at hmk
  simp only [Int.toNat_natCast, Nat.mul_one] at hmk
  clear hb hbl1 hxm1 HX0 HB0
  go_wp2_with fail
  clear hmk
  go_loopw [6] (fun u6 wr => ∃ (k : Nat) (D : List Int), k ≤ N ∧ u6 = .int .i64 k ∧ D.length = N ∧ (∀ j, j < k → D[j]? = some (-1)) ∧ DS W W.heap.size x y z w1.heap.size N D wr) (fun u6 _ => N - (intOf u6).toNat)
  case atStart => exact ⟨0, List.replicate N 0, Nat.zero_le _, rfl, by simp, fun j hj => absurd hj (by omega), ds1.out⟩
  case round =>
    obtain ⟨k, D, hk, rfl, hDl, hDm, hds0⟩ := hrel
    have hds := Lib.hid hds0
    have HDm := Lib.hid hDm
    clear hds0 hDm ds1
    by_cases hkN : k < N
    · obtain ⟨cu, fu⟩ := hds.out.cell hDl k hkN
      have HN := Lib.hid (hds.out.put hbQ (Nat.le_refl _) k (-1))
      have HM : Hid (∀ j, j < k + 1 → (D.set k (-1))[j]? = some (-1)) := fun j hj => by
        rw [List.getElem?_set]
        by_cases e : k = j
        · subst e; simp; omega
        · rw [if_neg e]; exact HDm.out j (by omega)
      have hk0 : (0 : Int) ≤ (k : Int) := Int.natCast_nonneg _
      have hk1 : (k : Int) < (N : Int) := by omega
      go_wp2_with fail
      go_roundw
      case rel => exact ⟨k + 1, _, by omega, by go_num, by simpa using hDl, HM.out, HN.out⟩
      case measure => simp [intOf]; omega
    · obtain rfl : k = N := by omega
      have hD : D = List.replicate k (-1) := by
        apply List.ext_getElem?
        intro j
        by_cases hj : j < k
        · rw [HDm.out j hj]; simp [hj]
        · rw [List.getElem?_eq_none (by omega), List.getElem?_eq_none (by simp; omega)]
      subst hD
      clear HDm
      obtain ⟨cu, fu⟩ := hds.out.cell hDl a haN
      have HN := Lib.hid (hds.out.put hbQ (Nat.le_refl _) a 0)
      have HI := Lib.hid (inv_start (st := stN x y z) haN)
      have hQ := Lib.hid (own_at hds.out.2.2)
      have ha0 : (0 : Int) ≤ (a : Int) := Int.natCast_nonneg _
      have ha1 : (a : Int) < (k : Int) := by omega
      have HL := @Lib.hid _ (fun u => list_start (X := wr) (Q := w1.heap.size) a ⟨w1.heap.size, a, none⟩ u hQ.out)
      go_wp2_with fail
      go_loopw [7, 8] (fun u7 u8 wq => LS W W.heap.size x y z w1.heap.size k a u7 u8 wq) (fun _ u8 _ => k + 1 - (intOf u8).toNat)
      case atStart => exact ⟨_, [a], 0, by simp, rfl, HN.out.call (below_box _ _), HL.out _, HI.out⟩
      case round =>
        obtain ⟨D, L, j, hj, rfl, hds0, ho0, hi0⟩ := hrel
        have hds1 := Lib.hid hds0
        have ho1 := Lib.hid ho0
        have hi1 := Lib.hid hi0
        have hLN := hi0.le
        obtain ⟨A7, c7, rfl⟩ := own_form ho0
        clear hds0 ho0 hi0 HN HL HI hds cu fu hQ
        by_cases hjl : j < L.length
        · go_wp2_with fail
          go_loopw [7, 9] (fun u7 u9 wq => QS W W.heap.size x y z w1.heap.size k a j u7 u9 wq) (fun _ u9 _ => 4 - (intOf u9).toNat)
          case atStart => exact ⟨D, L, 0, by omega, hjl, rfl, hds1.out, ho1.out, hi1.out⟩
          case round =>
            clear hds1 ho1 hi1 hj hLN hjl
            obtain ⟨D, L, q, hq, hjl, rfl, hds0, ho0, hi0⟩ := hrel
            have hds := Lib.hid hds0
            have ho := Lib.hid ho0
            have hi := Lib.hid hi0
            have hLN := hi0.le
            obtain ⟨g, cg, rfl, hg, hgs⟩ := own_some ho0 (by omega)
            clear hds0 ho0 hi0
            by_cases hq4 : q < 4
            · have hu := Lib.hid (List.getElem?_eq_getElem hjl)
              have huN := hi.out.ins _ (List.getElem_mem hjl)
              generalize L[j] = u at hu huN
              have hcell := zs_cell ho.out hu.out
              obtain ⟨m0, m1, m2⟩ := hds.out.2.1.1
              have hj0 : (0 : Int) ≤ (j : Int) := Int.natCast_nonneg _
              have hj1 : (j : Int) < (L.length : Int) := by omega
              have HSq : Hid (∀ X, Calls Try.prog 40 #[.agg #[.int .i64 x, .int .i64 y, .int .i64 z], .int .i64 u, .int .i64 q] X (Nm (stN x y z u q) X)) := fun X => HS.out u q X
              have hcase : Hid ((stN x y z u q < 0) ∨ ∃ v : Nat, stN x y z u q = (v : Int) ∧ v < k) := by
                by_cases h : stN x y z u q < 0
                · exact .inl h
                · obtain ⟨v, hv⟩ := Int.eq_ofNat_of_zero_le (show 0 ≤ stN x y z u q by omega)
                  exact .inr ⟨v, hv, HLt.out u q v hv⟩
              generalize hs : stN x y z u q = s at HSq hcase
              have Hs := Lib.hid hs
              clear hs
              go_wp2_with fail
              go_region_held3 (fun w' => w'.cell? ⟨W.heap.size, 0, none⟩ = some (.int .i64 x) ∧ w'.cell? ⟨W.heap.size, 1, none⟩ = some (.int .i64 y) ∧ w'.cell? ⟨W.heap.size, 2, none⟩ = some (.int .i64 z) ∧ w'.cell? ⟨g, j, none⟩ = some (.int .i64 (u : Int))) (go_keep)
                ((go_at_call 40; refine (HSq.out _).mono ?_; rintro e w2 ⟨rfl, hb⟩; have ds2 := Lib.hid (ds_after hb hds.out.dr1); have ho2 := Lib.hid (own_after hb ho.out); obtain ⟨a0, a1, a2⟩ := ds2.out.2.1.1; have hc2 := zs_cell ho2.out hu.out))
              clear hb m0 m1 m2 hcell hgs
              rcases hcase.out with hneg | ⟨v, hv, hvk⟩
              · have HN := Lib.hid (inv_none hi.out hu.out (by rw [Hs.out]; exact hneg))
                clear hcase
                go_wp2_with fail
                go_roundw
                case rel => exact ⟨D, L, q + 1, by omega, hjl, by go_num, ds2.out, ho2.out, HN.out⟩
                case measure => simp [intOf]; omega
              · subst hv
                have hDl := hi.out.len
                obtain ⟨cv, fv⟩ := ds2.out.cell hDl v hvk
                obtain ⟨cu2, fu2⟩ := ds2.out.cell hDl u huN
                have hv0 : (0 : Int) ≤ (v : Int) := Int.natCast_nonneg _
                have hv1 : (v : Int) < (k : Int) := by omega
                have hu0 : (0 : Int) ≤ (u : Int) := Int.natCast_nonneg _
                have hu1 : (u : Int) < (k : Int) := by omega
                by_cases hd : D.getD v (-1) < 0
                · have HI2 := Lib.hid (inv_new hi.out hq4 hu.out Hs.out hvk hd)
                  have hdu : 0 ≤ D.getD u (-1) ∧ D.getD u (-1) ≤ 16 := by
                    obtain ⟨n, e1, e2, _⟩ := hi.out.wk j u hu.out
                    omega
                  have HP := Lib.hid (ds2.out.put hbQ (Nat.le_refl _) v (D.getD u (-1) + 1))
                  have HO3 := Lib.hid (own_put ho2.out (p := ⟨w1.heap.size, v, none⟩) (by simp) (.int .i64 (D.getD u (-1) + 1)))
                  have HQ := @Lib.hid _ (fun X' gg cap ob p1 p2 => @qs_new W (w2.setCell ⟨w1.heap.size, v, none⟩ (.int .i64 (D.getD u (-1) + 1))) X' W.heap.size w1.heap.size k a j q L.length gg cap x y z _ _ _ ob HI2.out hq4 (by simp; omega) (by simp) HP.out hbQ (Nat.le_refl _) _ HO3.out p1 p2)
                  have hd' : decide (D.getD v (-1) < 0) = true := by simpa using hd
                  have hQlt := own_at ds2.out.2.2
                  clear hcase hd
                  generalize D.getD v (-1) = dv at *
                  generalize D.getD u (-1) = du at *
                  go_wp2_with (at_builtin; refine wpList_append_lies _ rfl (.tmp 66) (.tmp 68) 26 rfl (w1.heap.size + 1) 3 i0 _ 1 8 Try.underlying26 hi0 hz0 hz1 hz2 rfl (by omega) _ L.length _ rfl (HO3.out.alloc _) ⟨w2.heap.size, 0, none⟩ 1 1 (icells [(v : Int)]) rfl rfl (news_eqI rfl (new_set w2 _ _ _)) (oneCellI _) (by omega) (by unfold maxLen; omega) (by omega) (by simp; omega) (w2.heap.size + 1) (by simp) ?_; intro gg cap w3 hown' hgrow hat hlt2; clear hat hlt2)
                  go_roundw
                  case rel => exact HQ.out _ _ _ _ (by rw [zs_snoc, icells_append]; exact hown') hgrow
                  case measure => simp [intOf]; omega
                · have HN := Lib.hid (inv_seen hi.out hu.out Hs.out (by omega))
                  have hd' : decide (D.getD v (-1) < 0) = false := by simpa using hd
                  clear hcase
                  generalize D.getD v (-1) = dv at *
                  generalize D.getD u (-1) = du at *
                  go_wp2_with fail
                  go_roundw
                  case rel => exact ⟨D, L, q + 1, by omega, hjl, by go_num, ds2.out, ho2.out, HN.out⟩
                  case measure => simp [intOf]; omega
            · obtain rfl : q = 4 := by omega
              have hu := List.getElem?_eq_getElem hjl
              have HN := Lib.hid (inv_next hi.out hu)
              clear hu
              go_wp2_with fail
              go_roundw
              case rel => exact ⟨D, L, j + 1, by omega, by go_num, hds.out, ho.out, HN.out⟩
              case measure => simp [intOf]; omega
        · have hD := HEnd.out D L j 0 hi1.out (by omega)
          subst hD
          go_wp2_with fail
          go_ret
          exact HK.out _ _ _ _ (by rw [dl_len]) hds1.out.2.2 (by omega) hds1.out.1
end Go.Proofs.Ytgocbnnhhpmndaa.reachS

/- The contracts of the model's exported functions on reaching cells. -/
namespace Go.Proofs.Ytgocbnnhhpmndaa.reachS
open Go.ChangeShapes Go.WideShapes Go.ChangeAt Go.RowKit
open draw gridP gridC bitP mazeP mazeC mazeM mazeS intsP reachP reachM reachN reachD
set_option linter.unusedVariables false

theorem reached_no (x y z a : Int) (W : World) (hh : hasB x y z a = false) :
    Calls Try.prog 92 #[.agg #[.int .i64 x, .int .i64 y, .int .i64 z], .int .i64 a] W (Ints (rsZ x y z a) W) := by
  have hr : rsZ x y z a = [] := by unfold rsZ; rw [hh]; rfl
  rw [hr]
  have HK := @Lib.hid _ (fun w' v n base => @ints_mk [] W w' v n base)
  have HH := Lib.hid (fun X => has_any x y z a X)
  rw [hh] at HH
  have HB := Lib.hid (below_two W (.cells #[.int .i64 x, .int .i64 y, .int .i64 z] 30))
  have HZ := Lib.hid (reachD.own_zero W (.cells #[.int .i64 x, .int .i64 y, .int .i64 z] 30))
  clear hr hh
  go_enter Try.func92, Try.ntmps92
  go_wp2_with fail
  refine (HH.out _).mono ?_
  rintro e w1 ⟨rfl, hb⟩
  have hbl1 := Lib.hid (below_call (HB.out _) hb)
  have ho1 := Lib.hid (own_call HZ.out hb)
  clear hb
  go_wp2_with fail
  go_ret
  exact HK.out _ _ _ _ rfl ho1.out (by omega) hbl1.out

set_option maxRecDepth 100000 in
set_option maxHeartbeats 1000000 in
theorem reached_yes (x y z a : Int) (W : World) (hh : hasB x y z a = true) :
    Calls Try.prog 92 #[.agg #[.int .i64 x, .int .i64 y, .int .i64 z], .int .i64 a] W (Ints (rsZ x y z a) W) := by
  obtain ⟨i0, hi0, hz0, hz1, hz2⟩ := info_parts info_int
  obtain ⟨hv, k, rfl, ha, haN, hak, hN16, hNN⟩ := has_form hh
  have hr : rsZ x y z (k : Int) = rlN (stN x y z) (cN x y) k (cN x y) := by unfold rsZ; rw [if_pos hh]; simp
  rw [hr]
  have HH := Lib.hid (fun X => has_any x y z k X)
  rw [hh] at HH
  have HD := Lib.hid (fun X => distances_any x y z k X hv ha)
  generalize cN x y = N at *
  generalize stN x y z = st at *
  have HK := @Lib.hid _ (fun w' v n base => @ints_mk (rlN st N k N) W w' v n base)
  have HB := Lib.hid (below_two W (.cells #[.int .i64 x, .int .i64 y, .int .i64 z] 30))
  have HZ := Lib.hid (reachD.own_zero W (.cells #[.int .i64 x, .int .i64 y, .int .i64 z] 30))
  have HX := Lib.hid (mbox_two x y z W 30)
  clear hr hh ha hak hNN hv
  go_enter Try.func92, Try.ntmps92
  go_wp2_with fail
  refine (HH.out _).mono ?_
  rintro e w1 ⟨rfl, hb⟩
  have hbl1 := Lib.hid (below_call (HB.out _) hb)
  have ho1 := Lib.hid (own_call HZ.out hb)
  have hx1 := Lib.hid ((HX.out _).call hb)
  obtain ⟨c0, c1, c2⟩ := hx1.out.1
  clear hb HX HZ HB
  go_wp2_with fail
  refine (HD.out _).mono ?_
  rintro e w2 ⟨vd, rfl, hd, hb⟩
  have hbl2 := Lib.hid (below_call hbl1.out hb)
  have ho2 := Lib.hid (own_call ho1.out hb)
  rw [dl_len] at hd
  obtain ⟨g, cg, rfl, hg, hgs⟩ := own_some hd (by omega)
  have hwz := hbl1.out.size
  have hsz1 : W.heap.size + 1 < w1.heap.size := (own_lt ho1.out) _ rfl
  have hvd := Lib.hid (own_base hd (show W.heap.size + 1 ≤ w1.heap.size by omega))
  have hne : Hid ((Value.slice (some ⟨W.heap.size + 1, 0, none⟩) 0 0).ownBlock ≠ some g) := by
    show some (W.heap.size + 1) ≠ some g
    intro e; have := Option.some.inj e; omega
  clear hb hd hbl1 ho1 hx1 c0 c1 c2
  go_wp2_with fail
  go_loopw [5, 7] (fun u5 u7 wr => RS W g N k st (.slice (some ⟨g, 0, none⟩) N cg) u5 u7 wr) (fun _ u7 _ => N - (intOf u7).toNat)
  case atStart => exact ⟨0, Nat.zero_le _, rfl, hbl2.out, ho2.out, hne.out, hvd.out⟩
  case round =>
    obtain ⟨j, hj, rfl, hb0, ho0, hn0, hv0⟩ := hrel
    have hbl := Lib.hid hb0
    have ho := Lib.hid ho0
    have hn := Lib.hid hn0
    have hv := Lib.hid hv0
    have hll := rlN_len st N k j
    have hsz := hb0.size
    obtain ⟨A5, c5, rfl⟩ := own_form ho0
    clear hb0 ho0 hn0 hv0 hbl2 ho2 hne hvd
    by_cases hjN : j < N
    · have hcell := dl_cell hv.out rfl hjN
      have hj0 : (0 : Int) ≤ (j : Int) := Int.natCast_nonneg _
      have hj1 : (j : Int) < (N : Int) := by omega
      have hgx := own_at hv.out
      by_cases hd : 0 ≤ dZ st N k j
      · have HA := @Lib.hid _ (fun X' gg cap ob p1 p2 p3 => @rs_add W wr X' g N k j gg cap cg st _ ob hjN hd hbl.out ho.out hn.out hv.out p1 p2 p3)
        generalize dZ st N k j = dv at *
        go_wp2_with (at_builtin; refine wpList_append_lies _ rfl (.tmp 28) (.tmp 30) 26 rfl (W.heap.size + 1) 3 i0 _ 1 8 Try.underlying26 hi0 hz0 hz1 hz2 rfl (by omega) _ (rlN st N k j).length _ rfl (ho.out.alloc _) ⟨wr.heap.size, 0, none⟩ 1 1 (icells [(j : Int)]) rfl rfl (news_eqI rfl (heap_alloc_new wr _)) (oneCellI _) (by omega) (by unfold maxLen; omega) (by omega) (by simp; omega) (wr.heap.size + 1) (by simp) ?_; intro gg cap w3 hown' hgrow hat hlt2; clear hlt2)
        have HAt := Lib.hid hat
        clear hat
        go_roundw
        case rel => exact HA.out _ _ _ _ hown' hgrow HAt.out
        case measure => simp [intOf]; omega
      · have HN := Lib.hid (rs_skip hjN hd hbl.out ho.out hn.out hv.out)
        have hd' : decide (0 ≤ dZ st N k j) = false := by simpa using hd
        generalize dZ st N k j = dv at *
        clear hd
        go_wp2_with fail
        go_roundw
        case rel => exact HN.out
        case measure => simp [intOf]; omega
    · obtain rfl : j = N := by omega
      go_wp2_with fail
      go_ret
      exact HK.out _ _ _ _ rfl ho.out (by omega) hbl.out

theorem reached_any (x y z a : Int) (W : World) :
    Calls Try.prog 92 #[.agg #[.int .i64 x, .int .i64 y, .int .i64 z], .int .i64 a] W (Ints (rsZ x y z a) W) := by
  by_cases h : hasB x y z a = true
  · exact reached_yes x y z a W h
  · exact reached_no x y z a W (by simpa using h)

end Go.Proofs.Ytgocbnnhhpmndaa.reachS

/- The contracts of the model's count of parts and of its farthest cell. -/
namespace Go.Proofs.Ytgocbnnhhpmndaa.reachS
open Go.ChangeShapes Go.WideShapes Go.ChangeAt Go.RowKit
open draw gridP gridC bitP mazeP mazeC mazeM mazeS intsP reachP reachM reachN reachD
set_option linter.unusedVariables false

set_option maxRecDepth 100000 in
theorem countParts_bad (x y z : Int) (W : World) (hv : ¬ OkM x y z) :
    Calls Try.prog 88 #[.agg #[.int .i64 x, .int .i64 y, .int .i64 z]] W (Nm (ptZ x y z) W) := by
  have HO := Lib.hid (fun X => ok_any x y z X)
  rw [show okB x y z = false from decide_eq_false hv] at HO
  have hend : 0 = ptZ x y z := by unfold ptZ; rw [if_neg hv]
  have HK := @Lib.hid _ (fun w' b => @nm_mk _ _ W w' hend b)
  have HB0 := Lib.hid (below_box W (.cells #[.int .i64 x, .int .i64 y, .int .i64 z] 30))
  have HX0 := Lib.hid (mbox_new x y z W 30)
  have hgp : ∃ G : Int, 0 ≤ G ∧ G ≤ 16 ∧ ∀ X, Calls Try.prog 16 #[.agg #[.int .i64 x, .int .i64 y]] X (Nm G X) := by
    by_cases hn : 1 ≤ x ∧ x ≤ 4 ∧ 1 ≤ y ∧ y ≤ 4
    · have := (mul_bd x y hn.1 hn.2.1 hn.2.2.1 hn.2.2.2).1
      exact ⟨x * y, by omega, by omega, fun X => gridS.countCells_yes x y X hn.1 hn.2.1 hn.2.2.1 hn.2.2.2⟩
    · exact ⟨0, by omega, by omega, fun X => gridS.countCells_no x y X hn⟩
  obtain ⟨G, q0, q1, hG⟩ := hgp
  have HG := Lib.hid hG
  clear hv hend hG
  go_enter Try.func88, Try.ntmps88
  go_wp2_with fail
  go_loopw [3, 4] (fun u3 u4 wr => u3 = .int .i64 0 ∧ u4 = .int .i64 0 ∧ Below W.heap.size W wr ∧ MBox W.heap.size x y z wr) (fun _ _ _ => 0)
  case atStart => exact ⟨rfl, rfl, HB0.out, HX0.out⟩
  case round =>
    obtain ⟨rfl, rfl, hb, hx⟩ := hrel
    have hbl0 := Lib.hid hb
    have hxc0 := Lib.hid hx
    obtain ⟨c0, c1, c2⟩ := hx.1
    clear HB0 HX0 hb hx
    by_cases hk1 : 0 < G
    · skip
      go_wp2_with fail
      refine (HG.out _).mono ?_
      rintro e w1 ⟨rfl, hb⟩
      have hbl1 := Lib.hid (below_call hbl0.out hb)
      have hxc1 := Lib.hid (hxc0.out.call hb)
      clear hb hbl0  hxc0 c0 c1 c2
      obtain ⟨c0, c1, c2⟩ := hxc1.out.1
      go_wp2_with fail
      refine (HO.out _).mono ?_
      rintro e w2 ⟨rfl, hb⟩
      have hbl2 := Lib.hid (below_call hbl1.out hb)
      have hxc2 := Lib.hid (hxc1.out.call hb)
      clear hb hbl1  hxc1 c0 c1 c2
      obtain ⟨c0, c1, c2⟩ := hxc2.out.1
      go_wp2_with fail
      go_ret
      exact HK.out _ hbl2.out
    · have hk2 : decide (0 < G) = false := by simpa using hk1
      go_wp2_with fail
      refine (HG.out _).mono ?_
      rintro e w1 ⟨rfl, hb⟩
      have hbl1 := Lib.hid (below_call hbl0.out hb)
      have hxc1 := Lib.hid (hxc0.out.call hb)
      clear hb hbl0  hxc0 c0 c1 c2
      obtain ⟨c0, c1, c2⟩ := hxc1.out.1
      go_wp2_with fail
      go_ret
      exact HK.out _ hbl1.out

set_option maxRecDepth 100000 in
set_option maxHeartbeats 1000000 in
theorem countParts_good (x y z : Int) (W : World) (hv : OkM x y z) :
    Calls Try.prog 88 #[.agg #[.int .i64 x, .int .i64 y, .int .i64 z]] W (Nm (ptZ x y z) W) := by
  have HO := Lib.hid (fun X => ok_any x y z X)
  rw [show okB x y z = true from decide_eq_true hv] at HO
  obtain ⟨⟨h1, h2, h3, h4⟩, -, -⟩ := id hv
  have hcc := (mul_bd x y h1 h2 h3 h4).1
  have HC : Hid (∀ X, Calls Try.prog 16 #[.agg #[.int .i64 x, .int .i64 y]] X (Nm (x * y) X)) := fun X => gridS.countCells_yes x y X h1 h2 h3 h4
  have hend : ((cpN (stN x y z) (cN x y) (cN x y) : Nat) : Int) = ptZ x y z := by unfold ptZ; rw [if_pos hv]
  have HK := @Lib.hid _ (fun w' b => @nm_mk _ _ W w' hend b)
  have HB0 := Lib.hid (below_box W (.cells #[.int .i64 x, .int .i64 y, .int .i64 z] 30))
  have HX0 := Lib.hid (mbox_new x y z W 30)
  have HR : Hid (∀ (k : Nat), k < cN x y → ∃ (l : List Int) (j : Nat), l[0]? = some (j : Int) ∧ (j = k ↔ isLeast (stN x y z) (cN x y) k = true) ∧ j ≤ k ∧ ∀ X, Calls Try.prog 92 #[.agg #[.int .i64 x, .int .i64 y, .int .i64 z], .int .i64 k] X (Ints l X)) := fun k hk => by
    have hkb : (k : Int) < x * y := by unfold cN at hk; omega
    have hh : hasB x y z k = true := decide_eq_true ⟨hv, by omega, hkb⟩
    obtain ⟨j, e1, e2, e3⟩ := rlN_head (st := stN x y z) hk (@stN_lt x y z) (cN x y) hk
    refine ⟨rsZ x y z k, j, ?_, e3, e2, fun X => reached_any x y z k X⟩
    unfold rsZ; rw [if_pos hh]; simpa using e1
  have hNe : x * y = (cN x y : Int) := by unfold cN; omega
  rw [hNe] at HC hcc
  clear hv hend hNe h1 h2 h3 h4
  generalize cN x y = N at *
  generalize stN x y z = st at *
  go_enter Try.func88, Try.ntmps88
  go_wp2_with fail
  go_loopw [3, 4] (fun u3 u4 wr => PS W W.heap.size x y z st N u3 u4 wr) (fun _ u4 _ => N - (intOf u4).toNat)
  case atStart => exact ⟨0, Nat.zero_le _, rfl, rfl, HB0.out, HX0.out⟩
  case round =>
    obtain ⟨k, hk, rfl, rfl, hb, hx⟩ := hrel
    have hbl0 := Lib.hid hb
    have hxc0 := Lib.hid hx
    obtain ⟨c0, c1, c2⟩ := hx.1
    have hle := cpN_le st N k
    clear HB0 HX0 hb hx
    by_cases hkN : k < N
    · obtain ⟨l, j, hl0, hjk, hjle, hR⟩ := HR.out k hkN
      have HRk := Lib.hid hR
      have HL0 := Lib.hid hl0
      have hlen : 0 < l.length := (List.getElem?_eq_some_iff.1 hl0).1
      have HN := @Lib.hid _ (fun X c p1 p2 p3 => @ps_next W X W.heap.size x y z st N k c hkN p1 p2 p3)
      have hcs : cpN st N (k + 1) = cpN st N k + if isLeast st N k = true then 1 else 0 := rfl
      have HCs := Lib.hid hcs
      clear hR hl0 hcs
      go_wp2_with fail
      refine (HC.out _).mono ?_
      rintro e w1 ⟨rfl, hb⟩
      have hbl1 := Lib.hid (below_call hbl0.out hb)
      have hxc1 := Lib.hid (hxc0.out.call hb)
      clear hb hbl0  hxc0 c0 c1 c2
      obtain ⟨c0, c1, c2⟩ := hxc1.out.1
      go_wp2_with fail
      refine (HO.out _).mono ?_
      rintro e w2 ⟨rfl, hb⟩
      have hbl2 := Lib.hid (below_call hbl1.out hb)
      have hxc2 := Lib.hid (hxc1.out.call hb)
      clear hb hbl1  hxc1 c0 c1 c2
      obtain ⟨c0, c1, c2⟩ := hxc2.out.1
      go_wp2_with fail
      refine (HRk.out _).mono ?_
      rintro e w3 ⟨v, rfl, ho, hb⟩
      have hbl3 := Lib.hid (below_call hbl2.out hb)
      have hxc3 := Lib.hid (hxc2.out.call hb)
      obtain ⟨g, cg, rfl, hg, hgs⟩ := own_some ho hlen
      have hcell := first_cell ho HL0.out
      have hi0 : (0 : Int) < (l.length : Int) := by omega
      clear hb ho hg hgs hbl2 hxc2 c0 c1 c2
      by_cases hj : j = k
      · have hj' : ((j : Int) == (k : Int)) = true := by simp [hj]
        have hc : ((cpN st N k : Nat) : Int) + 1 = ((cpN st N (k + 1) : Nat) : Int) := by rw [HCs.out, if_pos (hjk.1 hj)]; omega
        have HCc := Lib.hid hc
        clear hc hj hjk
        go_wp2_with fail
        go_roundw
        case rel => exact HN.out _ _ HCc.out hbl3.out hxc3.out
        case measure => simp [intOf]; omega
      · have hj' : ((j : Int) == (k : Int)) = false := by simp; omega
        have hc : ((cpN st N k : Nat) : Int) = ((cpN st N (k + 1) : Nat) : Int) := by rw [HCs.out, if_neg (fun e => hj (hjk.2 e))]; omega
        have HCc := Lib.hid hc
        clear hc hj hjk
        go_wp2_with fail
        go_roundw
        case rel => exact HN.out _ _ HCc.out hbl3.out hxc3.out
        case measure => simp [intOf]; omega
    · obtain rfl : k = N := by omega
      go_wp2_with fail
      refine (HC.out _).mono ?_
      rintro e w1 ⟨rfl, hb⟩
      have hbl1 := Lib.hid (below_call hbl0.out hb)
      have hxc1 := Lib.hid (hxc0.out.call hb)
      clear hb hbl0  hxc0 c0 c1 c2
      obtain ⟨c0, c1, c2⟩ := hxc1.out.1
      go_wp2_with fail
      go_ret
      exact HK.out _ hbl1.out

theorem countParts_any (x y z : Int) (W : World) :
    Calls Try.prog 88 #[.agg #[.int .i64 x, .int .i64 y, .int .i64 z]] W (Nm (ptZ x y z) W) := by
  by_cases hv : OkM x y z
  · exact countParts_good x y z W hv
  · exact countParts_bad x y z W hv

theorem isConnected_any (x y z : Int) (W : World) :
    Calls Try.prog 78 #[.agg #[.int .i64 x, .int .i64 y, .int .i64 z]] W (Bl (cnB x y z) W) := by
  have HK := @Lib.hid _ (fun w' b => @bl_mk (ptZ x y z == 1) (cnB x y z) W w' rfl b)
  have HB := Lib.hid below_box
  have HP := Lib.hid (fun X => countParts_any x y z X)
  generalize ptZ x y z = v at *
  go_enter Try.func78, Try.ntmps78
  go_wp2_with fail
  refine (HP.out _).mono ?_
  rintro e w1 ⟨rfl, hb⟩
  have hbl1 := Lib.hid (below_call (HB.out _ _) hb)
  clear hb
  go_wp2_with fail
  go_ret
  exact HK.out _ hbl1.out

end Go.Proofs.Ytgocbnnhhpmndaa.reachS
