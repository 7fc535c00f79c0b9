/- The contracts of the program's exported functions on reaching cells. -/
import Derived.Test.YtomjfcmaoeoigaaReachX
import Derived.Test.YtomjfcmaoeoigaaReachV
namespace Go.Proofs.Ytomjfcmaoeoigaa.reachI
open Go.ChangeShapes Go.WideShapes Go.ChangeAt Go.RowKit
open draw gridP gridC bitP mazeP mazeC mazeM mazeI intsP boolP reachP reachM reachN reachD reachX reachV
set_option linter.unusedVariables false

theorem distances_any (x y z a : Int) (W : World) :
    Calls Try.prog 30 #[.agg #[.int .i64 x, .int .i64 y, .int .i64 z], .int .i64 a] W (Ints (ddZ x y z a) W) := by
  unfold ddZ
  by_cases h : hasB x y z a = true
  · rw [if_pos h]
    obtain ⟨hv, k, rfl, ha, -⟩ := has_form h
    simpa using distances_yes x y z k W hv ha
  · rw [if_neg h]
    exact distances_no x y z a W (by simpa using h)

theorem distanceOf_any (x y z a b : Int) (W : World) :
    Calls Try.prog 11 #[.agg #[.int .i64 x, .int .i64 y, .int .i64 z], .int .i64 a, .int .i64 b] W (Nm (dsZ x y z a b) W) := by
  have HB := Lib.hid (fun o => below_box W o)
  have HD := Lib.hid (fun X => distances_any x y z a X)
  have hl16 : (ddZ x y z a).length ≤ 16 := by
    unfold ddZ; split
    · rename_i h; obtain ⟨hv, k, rfl, ha, haN, hak, hN16, hNN⟩ := has_form h
      rw [dl_len]; exact hN16
    · simp
  by_cases hb : 0 ≤ b ∧ b < ((ddZ x y z a).length : Int)
  · obtain ⟨j, rfl⟩ := Int.eq_ofNat_of_zero_le hb.1
    have he : (ddZ x y z a)[j]? = some (dsZ x y z a j) := by
      have hb2 := hb.2
      unfold ddZ at hb2 ⊢
      by_cases h : hasB x y z a = true
      · rw [if_pos h] at hb2 ⊢
        rw [dl_len] at hb2
        obtain ⟨hv, k, rfl, ha, haN, hak, hN16, hNN⟩ := has_form h
        have hj : hasB x y z j = true := decide_eq_true ⟨hv, hb.1, by omega⟩
        rw [dl_at _ _ _ j (by omega)]
        unfold dsZ; rw [if_pos ⟨h, hj⟩]; simp
      · rw [if_neg h] at hb2; simp at hb2; omega
    have HK := @Lib.hid _ (fun w' b => @nm_mk (dsZ x y z a j) _ W w' rfl b)
    have HE := Lib.hid he
    have hb1 := hb.1
    have hb2 := hb.2
    clear hb he
    generalize ddZ x y z a = l at *
    generalize dsZ x y z a j = d at *
    go_enter Try.func11, Try.ntmps11
    go_wp2_with fail
    refine (HD.out _).mono ?_
    rintro e w1 ⟨v, rfl, ho, hb⟩
    have hbl1 := Lib.hid (below_call (HB.out _) hb)
    obtain ⟨g, cg, rfl, hg, hgs⟩ := own_some ho (by omega)
    have hcell := ints_cell ho HE.out
    have hd1 : decide ((j : Int) < 0) = false := by simp
    have hd2 : decide ((l.length : Int) ≤ (j : Int)) = false := by simp; omega
    clear hb ho hg hgs
    go_wp2_with fail
    go_ret
    exact HK.out _ hbl1.out
  · have he : -1 = dsZ x y z a b := by
      unfold dsZ
      by_cases h : hasB x y z a = true ∧ hasB x y z b = true
      · exfalso; apply hb
        unfold ddZ; rw [if_pos h.1, dl_len]
        obtain ⟨hv, k, rfl, ha, haN, hak, hN16, hNN⟩ := has_form h.2
        exact ⟨by omega, by omega⟩
      · rw [if_neg h]
    have HK := @Lib.hid _ (fun w' hb' => @nm_mk _ (dsZ x y z a b) W w' he hb')
    clear he
    generalize ddZ x y z a = l at *
    by_cases hb0 : b < 0
    · have hd1 : decide (b < 0) = true := by simpa using hb0
      clear hb
      go_enter Try.func11, Try.ntmps11
      go_wp2_with fail
      refine (HD.out _).mono ?_
      rintro e w1 ⟨v, rfl, ho, hb⟩
      have hbl1 := Lib.hid (below_call (HB.out _) hb)
      obtain ⟨A1, c1, rfl⟩ := own_form ho
      clear hb ho
      go_wp2_with fail
      go_ret
      exact HK.out _ hbl1.out
    · have hd1 : decide (b < 0) = false := by simpa using hb0
      have hd2 : decide ((l.length : Int) ≤ b) = true := by simp; omega
      clear hb
      go_enter Try.func11, Try.ntmps11
      go_wp2_with fail
      refine (HD.out _).mono ?_
      rintro e w1 ⟨v, rfl, ho, hb⟩
      have hbl1 := Lib.hid (below_call (HB.out _) hb)
      obtain ⟨A1, c1, rfl⟩ := own_form ho
      clear hb ho
      go_wp2_with fail
      go_ret
      exact HK.out _ hbl1.out

theorem reached_no (x y z a : Int) (W : World) (hh : hasB x y z a = false) :
    Calls Try.prog 14 #[.agg #[.int .i64 x, .int .i64 y, .int .i64 z], .int .i64 a] W (Ints (rsZ x y z a) W) := by
  have hr : rsZ x y z a = [] := by unfold rsZ; rw [hh]; rfl
  rw [hr]
  have HK := @Lib.hid _ (fun w' v n base => @ints_mk [] W w' v n base)
  have HZ := Lib.hid (fun X : World => World.ownsRow_nil X W.heap.size 3 1)
  have HB := Lib.hid (fun o => below_box W o)
  have HD := Lib.hid (fun X => distances_any x y z a X)
  rw [show ddZ x y z a = [] by unfold ddZ; rw [hh]; rfl] at HD
  clear hr hh
  go_enter Try.func14, Try.ntmps14
  go_wp2_with fail
  refine (HD.out _).mono ?_
  rintro e w1 ⟨v, rfl, ho, hb⟩
  have hbl1 := Lib.hid (below_call (HB.out _) hb)
  obtain ⟨A1, c1, rfl⟩ := own_form ho
  clear hb ho
  go_wp2_with fail
  go_loopw [5, 12] (fun u5 u12 wr => u5 = .slice none 0 0 ∧ u12 = .int .i64 0 ∧ wr = w1) (fun _ _ _ => 0)
  case atStart => exact ⟨rfl, rfl, rfl⟩
  case round =>
    obtain ⟨rfl, rfl, rfl⟩ := hrel
    go_wp2_with fail
    go_ret
    exact HK.out _ _ _ _ rfl (HZ.out _) (Nat.le_refl _) hbl1.out

set_option maxRecDepth 100000 in
set_option maxHeartbeats 1000000 in
theorem reached_yes (x y z a : Int) (W : World) (hh : hasB x y z a = true) :
    Calls Try.prog 14 #[.agg #[.int .i64 x, .int .i64 y, .int .i64 z], .int .i64 a] W (Ints (rsZ x y z a) W) := by
  obtain ⟨i0, hi0, hz0, hz1, hz2⟩ := info_parts info_int
  have HD := Lib.hid (fun X => distances_any x y z a X)
  rw [show ddZ x y z a = dl (stN x y z) (cN x y) a.toNat by unfold ddZ; rw [if_pos hh]] at HD
  obtain ⟨hv, k, rfl, ha, haN, hak, hN16, hNN⟩ := has_form hh
  have hr : rsZ x y z (k : Int) = rlN (stN x y z) (cN x y) k (cN x y) := by unfold rsZ; rw [if_pos hh]; simp
  rw [hr]
  simp only [Int.toNat_natCast] at HD
  generalize cN x y = N at *
  generalize stN x y z = st at *
  have HK := @Lib.hid _ (fun w' v n base => @ints_mk (rlN st N k N) W w' v n base)
  have HB := Lib.hid (fun o => below_box W o)
  have HZ := Lib.hid (fun X : World => World.ownsRow_nil X (W.heap.size + 1) 3 1)
  clear hr hh ha hak hNN hv
  go_enter Try.func14, Try.ntmps14
  go_wp2_with fail
  refine (HD.out _).mono ?_
  rintro e w2 ⟨vd, rfl, hd, hb⟩
  have hbl2 := Lib.hid (below_call (HB.out _) hb)
  rw [dl_len] at hd
  obtain ⟨g, cg, rfl, hg, hgs⟩ := own_some hd (by omega)
  have hvd := Lib.hid (own_base hd (show W.heap.size + 1 ≤ (W.alloc (.cells #[.int .i64 x, .int .i64 y, .int .i64 z] 27)).heap.size by simp))
  have hne : Hid ((Value.slice none 0 0).ownBlock ≠ some g) := by
    show none ≠ some g
    simp
  clear hb hd HB
  go_wp2_with fail
  go_loopw [5, 12] (fun u5 u12 wr => RS W g N k st (.slice (some ⟨g, 0, none⟩) N cg) u5 u12 wr) (fun _ u12 _ => N - (intOf u12).toNat)
  case atStart => exact ⟨0, Nat.zero_le _, rfl, hbl2.out, HZ.out _, hne.out, hvd.out⟩
  case round =>
    obtain ⟨j, hj, rfl, hb0, ho0, hn0, hv0⟩ := hrel
    have hbl := Lib.hid hb0
    have ho := Lib.hid ho0
    have hn := Lib.hid hn0
    have hv := Lib.hid hv0
    have hll := rlN_len st N k j
    have hsz := hb0.size
    obtain ⟨A5, c5, rfl⟩ := own_form ho0
    have hgx := own_at hv0
    clear hb0 ho0 hn0 hv0 hbl2 hne hvd HZ
    by_cases hjN : j < N
    · have hcell := dl_cell hv.out rfl hjN
      have hj0 : (0 : Int) ≤ (j : Int) := Int.natCast_nonneg _
      have hj1 : (j : Int) < (N : Int) := by omega
      by_cases hd : 0 ≤ dZ st N k j
      · have HA := @Lib.hid _ (fun X' gg cap ob p1 p2 p3 => @rs_add W wr X' g N k j gg cap cg st _ ob hjN hd hbl.out ho.out hn.out hv.out p1 p2 p3)
        generalize dZ st N k j = dv at *
        go_wp2_with (at_builtin; refine wpList_append_lies _ rfl (.tmp 19) (.tmp 21) 33 rfl (W.heap.size + 1) 3 i0 _ 1 8 Try.underlying33 hi0 hz0 hz1 hz2 rfl (by omega) _ (rlN st N k j).length _ rfl (ho.out.alloc _) ⟨wr.heap.size, 0, none⟩ 1 1 (icells [(j : Int)]) rfl rfl (news_eqI rfl (heap_alloc_new wr _)) (oneCellI _) (by omega) (by unfold maxLen; omega) (by omega) (by simp; omega) (wr.heap.size + 1) (by simp) ?_; intro gg cap w3 hown' hgrow hat hlt2; clear hlt2)
        have HAt := Lib.hid hat
        clear hat
        go_roundw
        case rel => exact HA.out _ _ _ _ hown' hgrow HAt.out
        case measure => simp [intOf]; omega
      · have HN := Lib.hid (rs_skip hjN hd hbl.out ho.out hn.out hv.out)
        have hd' : decide (0 ≤ dZ st N k j) = false := by simpa using hd
        generalize dZ st N k j = dv at *
        clear hd
        go_wp2_with fail
        go_roundw
        case rel => exact HN.out
        case measure => simp [intOf]; omega
    · obtain rfl : j = N := by omega
      go_wp2_with fail
      go_ret
      exact HK.out _ _ _ _ rfl ho.out (by omega) hbl.out

theorem reached_any (x y z a : Int) (W : World) :
    Calls Try.prog 14 #[.agg #[.int .i64 x, .int .i64 y, .int .i64 z], .int .i64 a] W (Ints (rsZ x y z a) W) := by
  by_cases h : hasB x y z a = true
  · exact reached_yes x y z a W h
  · exact reached_no x y z a W (by simpa using h)

theorem countParts_bad (x y z : Int) (W : World) (hv : ¬ OkM x y z) :
    Calls Try.prog 13 #[.agg #[.int .i64 x, .int .i64 y, .int .i64 z]] W (Nm (ptZ x y z) W) := by
  have HO := Lib.hid (fun X => ok_any x y z X)
  rw [show okB x y z = false from decide_eq_false hv] at HO
  have hend : 0 = ptZ x y z := by unfold ptZ; rw [if_neg hv]
  have HK := @Lib.hid _ (fun w' b => @nm_mk _ _ W w' hend b)
  have HB := Lib.hid below_box
  clear hv hend
  go_enter Try.func13, Try.ntmps13
  go_wp2_with fail
  refine (HO.out _).mono ?_
  rintro e w1 ⟨rfl, hb⟩
  have hbl1 := Lib.hid (below_call (HB.out _ _) hb)
  clear hb
  go_wp2_with fail
  go_ret
  exact HK.out _ hbl1.out

set_option maxRecDepth 100000 in
set_option maxHeartbeats 4000000 in
theorem countParts_good (x y z : Int) (W : World) (hv : OkM x y z) :
    Calls Try.prog 13 #[.agg #[.int .i64 x, .int .i64 y, .int .i64 z]] W (Nm (ptZ x y z) W) := by
  obtain ⟨i0, hi0, hz0, hz1, hz2⟩ := info_parts info_bool
  have HO := Lib.hid (fun X => ok_any x y z X)
  rw [show okB x y z = true from decide_eq_true hv] at HO
  obtain ⟨⟨h1, h2, h3, h4⟩, -, -⟩ := id hv
  have hcc := (mul_bd x y h1 h2 h3 h4).1
  have HC := Lib.hid (fun X => cells_any x y X h1 h2 h3 h4)
  have hend : ((cpN (stN x y z) (cN x y) (cN x y) : Nat) : Int) = ptZ x y z := by unfold ptZ; rw [if_pos hv]
  have HK := @Lib.hid _ (fun w' b => @nm_mk _ _ W w' hend b)
  have HB := Lib.hid below_box
  have HR : Hid (∀ (k : Nat), k < cN x y → ∀ X, Calls Try.prog 14 #[.agg #[.int .i64 x, .int .i64 y, .int .i64 z], .int .i64 k] X (Ints (rlN (stN x y z) (cN x y) k (cN x y)) X)) := fun k hk X => by
    have hkb : (k : Int) < x * y := by unfold cN at hk; omega
    have hh : hasB x y z k = true := decide_eq_true ⟨hv, by omega, hkb⟩
    have := reached_any x y z k X
    unfold rsZ at this; rw [if_pos hh] at this
    simpa using this
  have HL := @Lib.hid _ (fun k B => @mk_least (stN x y z) (cN x y) k B (@stN_lt x y z) (@stN_back x y z))
  have HMo := @Lib.hid _ (fun k B => @mk_old (stN x y z) (cN x y) k B (@stN_lt x y z) (@stN_back x y z))
  have hNe : x * y = (cN x y : Int) := by unfold cN; omega
  rw [hNe] at HC hcc
  clear hv hend hNe h1 h2 h3 h4
  generalize cN x y = N at *
  generalize stN x y z = st at *
  go_enter Try.func13, Try.ntmps13
  go_wp2_with fail
  refine (HO.out _).mono ?_
  rintro e w1 ⟨rfl, hb⟩
  have hbl1 := Lib.hid (below_call (HB.out _ _) hb)
  have hxc1 := Lib.hid ((mbox_new x y z W _).call hb)
  clear hb
  obtain ⟨c0, c1, c2⟩ := hxc1.out.1
  go_wp2_with fail
  refine (HC.out _).mono ?_
  rintro e w2 ⟨rfl, hb⟩
  have hbl2 := Lib.hid (below_call hbl1.out hb)
  have hxc2 := Lib.hid (hxc1.out.call hb)
  have hbQ := hxc2.out.2
  have hWQ := hbl2.out.size
  have pb0 := Lib.hid (pb_make (N := N) hbl2.out hxc2.out hWQ (by unfold maxLen; omega))
  have hmk := run_make (P := Try.prog) w2 52 4 i0 (.bool false) Try.underlying52 hi0 hz0 .i64 .i64 (N : Int) (N : Int) (by omega) (by omega) (by rw [hz2]; omega) (by omega)
  rw [hz1] at hmk
  simp only [Int.toNat_natCast, Nat.mul_one] at hmk
  clear hb hbl1 hxc1 hbl2 hxc2 c0 c1 c2
  go_wp2_with fail
  clear hmk
  go_loopw [4, 17] (fun u4 u17 wr => ∃ (k : Nat) (B : List Bool), k ≤ N ∧ u17 = .int .i64 k ∧ u4 = .int .i64 ((cpN st N k : Nat) : Int) ∧ Mk st N B k ∧ PB W W.heap.size x y z w2.heap.size N B wr) (fun _ u17 _ => N - (intOf u17).toNat)
  case atStart => exact ⟨0, _, Nat.zero_le _, rfl, rfl, mk_start st N, pb0.out⟩
  case round =>
    obtain ⟨k, B, hk, rfl, rfl, hm0, hpb0⟩ := hrel
    have hm := Lib.hid hm0
    have hpb := Lib.hid hpb0
    have hle := cpN_le st N k
    have hBl := hm0.1
    clear hm0 hpb0 pb0
    by_cases hkN : k < N
    · obtain ⟨cu, fu⟩ := hpb.out.cell hBl k hkN
      have hk0 : (0 : Int) ≤ (k : Int) := Int.natCast_nonneg _
      have hk1 : (k : Int) < (N : Int) := by omega
      have hls := HL.out k B hkN hm.out
      have hcs := @cp_step st N k
      cases hBk : B.getD k false with
      | true =>
        rw [hBk] at cu hls
        have HM2 := Lib.hid (HMo.out k B hkN hm.out hBk)
        have hle2 : isLeast st N k = false := hls.1 rfl
        rw [hle2, if_neg (by decide), Nat.add_zero] at hcs
        clear hls hle2 hBk
        go_wp2_with fail
        go_roundw
        case rel => exact ⟨k + 1, B, by omega, by go_num, by rw [hcs]; rfl, HM2.out, hpb.out⟩
        case measure => simp [intOf]; omega
      | false =>
        rw [hBk] at cu hls
        have hle2 : isLeast st N k = true := by
          cases h : isLeast st N k with
          | true => rfl
          | false => exact absurd (hls.2 h) (by decide)
        rw [hle2, if_pos rfl] at hcs
        have HCs := Lib.hid (show ((cpN st N k : Nat) : Int) + 1 = ((cpN st N (k + 1) : Nat) : Int) by rw [hcs]; omega)
        have HRk := Lib.hid (HR.out k hkN)
        have HNew := @Lib.hid _ (fun B' => @mk_new st N k B B' hm.out)
        have HMem := Lib.hid (fun v (h : v ∈ rlN st N k N) => (rlN_mem st N k N v).1 h)
        have hll := rlN_len st N k N
        obtain ⟨m0, m1, m2⟩ := hpb.out.2.1.1
        clear hls hle2 hBk hcs
        generalize rlN st N k N = l at *
        go_wp2_with fail
        refine (HRk.out _).mono ?_
        rintro e w3 ⟨v, rfl, ho, hb⟩
        have pb3 := Lib.hid (hpb.out.call hb)
        have ho3 := Lib.hid (own_base ho (show w2.heap.size + 1 ≤ wr.heap.size from own_lt hpb.out.2.2 _ rfl))
        obtain ⟨A3, c3, rfl⟩ := own_form ho
        clear ho hb hpb cu fu m0 m1 m2
        go_wp2_with fail
        go_loopw [30] (fun u30 wq => ∃ (i : Nat) (B' : List Bool), i ≤ l.length ∧ u30 = .int .i64 i ∧ IM N B l B' i ∧ PB W W.heap.size x y z w2.heap.size N B' wq ∧ wq.ownsRow (w2.heap.size + 1) 3 1 (.slice A3 l.length c3) l.length (icells l)) (fun u30 _ => l.length - (intOf u30).toNat)
        case atStart => exact ⟨0, B, Nat.zero_le _, rfl, im_start hBl, pb3.out, ho3.out⟩
        case round =>
          clear pb3 ho3
          obtain ⟨i, B', hi, rfl, hI0, hp0, ho0⟩ := hrel
          have hI := Lib.hid hI0
          have hp := Lib.hid hp0
          have ho := Lib.hid ho0
          have hBl' := hI0.1
          clear hI0 hp0 ho0
          by_cases hil : i < l.length
          · have hd := List.getElem?_eq_getElem hil
            obtain ⟨v, hv, hvN, -⟩ := HMem.out _ (List.getElem_mem hil)
            rw [hv] at hd
            have HI2 := Lib.hid (im_step hI.out hd hvN)
            obtain ⟨g, cg, hge, hg, hgs⟩ := own_some ho.out (by omega)
            cases hge
            have hcell := ints_cell ho.out hd
            obtain ⟨cv, fv⟩ := hp.out.cell hBl' v hvN
            have hi0' : (0 : Int) ≤ (i : Int) := Int.natCast_nonneg _
            have hi1' : (i : Int) < (l.length : Int) := by omega
            have hv0 : (0 : Int) ≤ (v : Int) := Int.natCast_nonneg _
            have hv1 : (v : Int) < (N : Int) := by omega
            have HP2 := Lib.hid (hp.out.put hbQ (Nat.le_refl _) v true)
            have HO2 := Lib.hid (own_put ho.out (p := ⟨w2.heap.size, v, none⟩) (by simp) (.bool true))
            clear hv hd hp ho hI
            go_wp2_with fail
            go_roundw
            case rel => exact ⟨i + 1, _, by omega, by go_num, HI2.out, HP2.out, HO2.out⟩
            case measure => simp [intOf]; omega
          · obtain rfl : i = l.length := by omega
            have HM2 := Lib.hid (HNew.out B' hI.out)
            go_wp2_with fail
            go_roundw
            case rel => exact ⟨k + 1, B', by omega, by go_num, by rw [HCs.out], HM2.out, hp.out⟩
            case measure => simp [intOf]; omega
    · obtain rfl : k = N := by omega
      go_wp2_with fail
      go_ret
      exact HK.out _ hpb.out.1

theorem countParts_any (x y z : Int) (W : World) :
    Calls Try.prog 13 #[.agg #[.int .i64 x, .int .i64 y, .int .i64 z]] W (Nm (ptZ x y z) W) := by
  by_cases hv : OkM x y z
  · exact countParts_good x y z W hv
  · exact countParts_bad x y z W hv

theorem isConnected_any (x y z : Int) (W : World) :
    Calls Try.prog 17 #[.agg #[.int .i64 x, .int .i64 y, .int .i64 z]] W (Bl (cnB x y z) W) := by
  have HK := @Lib.hid _ (fun w' b => @bl_mk (ptZ x y z == 1) (cnB x y z) W w' rfl b)
  have HB := Lib.hid below_box
  have HP := Lib.hid (fun X => countParts_any x y z X)
  generalize ptZ x y z = v at *
  go_enter Try.func17, Try.ntmps17
  go_wp2_with fail
  refine (HP.out _).mono ?_
  rintro e w1 ⟨rfl, hb⟩
  have hbl1 := Lib.hid (below_call (HB.out _ _) hb)
  clear hb
  go_wp2_with fail
  go_ret
  exact HK.out _ hbl1.out

set_option maxRecDepth 100000 in
set_option maxHeartbeats 1000000 in
theorem farthestFrom_any (x y z a : Int) (W : World) :
    Calls Try.prog 12 #[.agg #[.int .i64 x, .int .i64 y, .int .i64 z], .int .i64 a] W (Nm (faZ x y z a) W) := by
  have HD := Lib.hid (fun X => distances_any x y z a X)
  have hend : Hid (∀ f g : Int, FP (fun j => (ddZ x y z a).getD j (-1)) (ddZ x y z a).length f g → f = faZ x y z a) := fun f g h => by
    unfold faZ
    by_cases hh : hasB x y z a = true
    · rw [if_pos hh]
      obtain ⟨hv, k, rfl, ha, haN, hak, hN16, hNN⟩ := has_form hh
      unfold ddZ at h
      rw [if_pos hh, dl_len] at h
      have e : ∀ j, j < cN x y → (dl (stN x y z) (cN x y) (k : Int).toNat).getD j (-1) = dZ (stN x y z) (cN x y) k j := fun j hj => by
        rw [List.getD_eq_getElem?_getD, dl_at _ _ _ _ hj]; simp
      have hs : dZ (stN x y z) (cN x y) k k = 0 := (dZ_self haN (@stN_lt x y z) k).2 rfl
      have h' : FP (fun j => dZ (stN x y z) (cN x y) k j) (cN x y) f g := by
        rcases h with ⟨h1, h2, h3⟩ | ⟨n, h1, h2, h3, h4, h5⟩
        · exact .inl ⟨h1, h2, fun j hj => by show dZ (stN x y z) (cN x y) k j ≤ -1; rw [← e j hj]; exact h3 j hj⟩
        · refine .inr ⟨n, h1, by show g = dZ (stN x y z) (cN x y) k n; rw [← e n h4]; exact h2, h3, h4, fun j hj => ?_⟩
          have := h5 j hj
          simp only [e j hj, e n h4] at this
          exact this
      have := fp_end h' haN (by rw [hs]; omega)
      rw [this]; simp
    · rw [if_neg hh]
      unfold ddZ at h
      rw [if_neg hh] at h
      rcases h with ⟨h1, h2, h3⟩ | ⟨n, h1, h2, h3, h4, h5⟩
      · exact h1
      · simp at h4
  have hl16 : (ddZ x y z a).length ≤ 16 := by
    unfold ddZ; split
    · rename_i h; obtain ⟨hv, k, rfl, ha, haN, hak, hN16, hNN⟩ := has_form h
      rw [dl_len]; exact hN16
    · simp
  have HK := @Lib.hid _ (fun w' f (e : f = faZ x y z a) b => @nm_mk f (faZ x y z a) W w' e b)
  have HB := Lib.hid (fun o => below_box W o)
  generalize ddZ x y z a = l at *
  go_enter Try.func12, Try.ntmps12
  go_wp2_with fail
  refine (HD.out _).mono ?_
  rintro e w1 ⟨vd, rfl, hd, hb⟩
  have hbl1 := Lib.hid (below_call (HB.out _) hb)
  obtain ⟨A1, c1, rfl⟩ := own_form hd
  have ho1 := Lib.hid hd
  clear hb hd
  go_wp2_with fail
  go_loopw [5, 6, 13] (fun u5 u6 u13 wr => ∃ (k : Nat) (f g : Int), k ≤ l.length ∧ u13 = .int .i64 k ∧ u5 = .int .i64 f ∧ u6 = .int .i64 g ∧ FP (fun j => l.getD j (-1)) k f g ∧ wr = w1) (fun _ _ u13 _ => l.length - (intOf u13).toNat)
  case atStart => exact ⟨0, -1, -1, Nat.zero_le _, rfl, rfl, rfl, fp_start _, rfl⟩
  case round =>
    obtain ⟨k, f, g, hk, rfl, rfl, rfl, hf0, rfl⟩ := hrel
    have hf := Lib.hid hf0
    clear hf0
    by_cases hkl : k < l.length
    · have hd := List.getElem?_eq_getElem hkl
      have hdk : l.getD k (-1) = l[k] := by rw [List.getD_eq_getElem?_getD, hd]; rfl
      obtain ⟨g1, cg, hge, hg, hgs⟩ := own_some ho1.out (by omega)
      cases hge
      have hcell := ints_cell ho1.out hd
      have hk0 : (0 : Int) ≤ (k : Int) := Int.natCast_nonneg _
      have hk1 : (k : Int) < (l.length : Int) := by omega
      have HG := Lib.hid (fun h => fp_gt hf.out (show g < l.getD k (-1) from h))
      have HL := Lib.hid (fun h => fp_le hf.out (show ¬ g < l.getD k (-1) from h))
      rw [hdk] at HG HL
      clear hdk hd
      generalize l[k] = d at *
      by_cases hgt : g < d
      · have HN := Lib.hid (HG.out hgt)
        have hgt' : decide (g < d) = true := by simpa using hgt
        clear HG HL hgt
        go_wp2_with fail
        go_roundw
        case rel => exact ⟨k + 1, _, _, by omega, by go_num, rfl, rfl, HN.out, by trivial⟩
        case measure => simp [intOf]; omega
      · have HN := Lib.hid (HL.out hgt)
        have hgt' : decide (g < d) = false := by simpa using hgt
        clear HG HL hgt
        go_wp2_with fail
        go_roundw
        case rel => exact ⟨k + 1, _, _, by omega, by go_num, rfl, rfl, HN.out, by trivial⟩
        case measure => simp [intOf]; omega
    · obtain rfl : k = l.length := by omega
      have he := hend.out f g hf.out
      go_wp2_with fail
      go_ret
      exact HK.out _ _ he hbl1.out
end Go.Proofs.Ytomjfcmaoeoigaa.reachI
