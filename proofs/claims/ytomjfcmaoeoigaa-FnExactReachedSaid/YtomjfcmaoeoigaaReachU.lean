/- The contracts of the model's count of parts and of its farthest cell. -/
import Derived.Test.YtomjfcmaoeoigaaReachT
namespace Go.Proofs.Ytomjfcmaoeoigaa.reachS
open Go.ChangeShapes Go.WideShapes Go.ChangeAt Go.RowKit
open draw gridP gridC bitP mazeP mazeC mazeM mazeS intsP reachP reachM reachN reachD
set_option linter.unusedVariables false

set_option maxRecDepth 100000 in
theorem countParts_bad (x y z : Int) (W : World) (hv : ¬ OkM x y z) :
    Calls Try.prog 23 #[.agg #[.int .i64 x, .int .i64 y, .int .i64 z]] W (Nm (ptZ x y z) W) := by
  have HO := Lib.hid (fun X => ok_any x y z X)
  rw [show okB x y z = false from decide_eq_false hv] at HO
  have hend : 0 = ptZ x y z := by unfold ptZ; rw [if_neg hv]
  have HK := @Lib.hid _ (fun w' b => @nm_mk _ _ W w' hend b)
  have HB0 := Lib.hid (below_box W (.cells #[.int .i64 x, .int .i64 y, .int .i64 z] 27))
  have HX0 := Lib.hid (mbox_new x y z W 27)
  have hgp : ∃ G : Int, 0 ≤ G ∧ G ≤ 16 ∧ ∀ X, Calls Try.prog 16 #[.agg #[.int .i64 x, .int .i64 y]] X (Nm G X) := by
    by_cases hn : 1 ≤ x ∧ x ≤ 4 ∧ 1 ≤ y ∧ y ≤ 4
    · have := (mul_bd x y hn.1 hn.2.1 hn.2.2.1 hn.2.2.2).1
      exact ⟨x * y, by omega, by omega, fun X => gridS.countCells_yes x y X hn.1 hn.2.1 hn.2.2.1 hn.2.2.2⟩
    · exact ⟨0, by omega, by omega, fun X => gridS.countCells_no x y X hn⟩
  obtain ⟨G, q0, q1, hG⟩ := hgp
  have HG := Lib.hid hG
  clear hv hend hG
  go_enter Try.func23, Try.ntmps23
  go_wp2_with fail
  go_loopw [3, 4] (fun u3 u4 wr => u3 = .int .i64 0 ∧ u4 = .int .i64 0 ∧ Below W.heap.size W wr ∧ MBox W.heap.size x y z wr) (fun _ _ _ => 0)
  case atStart => exact ⟨rfl, rfl, HB0.out, HX0.out⟩
  case round =>
    obtain ⟨rfl, rfl, hb, hx⟩ := hrel
    have hbl0 := Lib.hid hb
    have hxc0 := Lib.hid hx
    obtain ⟨c0, c1, c2⟩ := hx.1
    clear HB0 HX0 hb hx
    by_cases hk1 : 0 < G
    · skip
      go_wp2_with fail
      refine (HG.out _).mono ?_
      rintro e w1 ⟨rfl, hb⟩
      have hbl1 := Lib.hid (below_call hbl0.out hb)
      have hxc1 := Lib.hid (hxc0.out.call hb)
      clear hb hbl0  hxc0 c0 c1 c2
      obtain ⟨c0, c1, c2⟩ := hxc1.out.1
      go_wp2_with fail
      refine (HO.out _).mono ?_
      rintro e w2 ⟨rfl, hb⟩
      have hbl2 := Lib.hid (below_call hbl1.out hb)
      have hxc2 := Lib.hid (hxc1.out.call hb)
      clear hb hbl1  hxc1 c0 c1 c2
      obtain ⟨c0, c1, c2⟩ := hxc2.out.1
      go_wp2_with fail
      go_ret
      exact HK.out _ hbl2.out
    · have hk2 : decide (0 < G) = false := by simpa using hk1
      go_wp2_with fail
      refine (HG.out _).mono ?_
      rintro e w1 ⟨rfl, hb⟩
      have hbl1 := Lib.hid (below_call hbl0.out hb)
      have hxc1 := Lib.hid (hxc0.out.call hb)
      clear hb hbl0  hxc0 c0 c1 c2
      obtain ⟨c0, c1, c2⟩ := hxc1.out.1
      go_wp2_with fail
      go_ret
      exact HK.out _ hbl1.out

set_option maxRecDepth 100000 in
set_option maxHeartbeats 1000000 in
theorem countParts_good (x y z : Int) (W : World) (hv : OkM x y z) :
    Calls Try.prog 23 #[.agg #[.int .i64 x, .int .i64 y, .int .i64 z]] W (Nm (ptZ x y z) W) := by
  have HO := Lib.hid (fun X => ok_any x y z X)
  rw [show okB x y z = true from decide_eq_true hv] at HO
  obtain ⟨⟨h1, h2, h3, h4⟩, -, -⟩ := id hv
  have hcc := (mul_bd x y h1 h2 h3 h4).1
  have HC : Hid (∀ X, Calls Try.prog 16 #[.agg #[.int .i64 x, .int .i64 y]] X (Nm (x * y) X)) := fun X => gridS.countCells_yes x y X h1 h2 h3 h4
  have hend : ((cpN (stN x y z) (cN x y) (cN x y) : Nat) : Int) = ptZ x y z := by unfold ptZ; rw [if_pos hv]
  have HK := @Lib.hid _ (fun w' b => @nm_mk _ _ W w' hend b)
  have HB0 := Lib.hid (below_box W (.cells #[.int .i64 x, .int .i64 y, .int .i64 z] 27))
  have HX0 := Lib.hid (mbox_new x y z W 27)
  have HR : Hid (∀ (k : Nat), k < cN x y → ∃ (l : List Int) (j : Nat), l[0]? = some (j : Int) ∧ (j = k ↔ isLeast (stN x y z) (cN x y) k = true) ∧ j ≤ k ∧ ∀ X, Calls Try.prog 18 #[.agg #[.int .i64 x, .int .i64 y, .int .i64 z], .int .i64 k] X (Ints l X)) := fun k hk => by
    have hkb : (k : Int) < x * y := by unfold cN at hk; omega
    have hh : hasB x y z k = true := decide_eq_true ⟨hv, by omega, hkb⟩
    obtain ⟨j, e1, e2, e3⟩ := rlN_head (st := stN x y z) hk (@stN_lt x y z) (cN x y) hk
    refine ⟨rsZ x y z k, j, ?_, e3, e2, fun X => reached_any x y z k X⟩
    unfold rsZ; rw [if_pos hh]; simpa using e1
  have hNe : x * y = (cN x y : Int) := by unfold cN; omega
  rw [hNe] at HC hcc
  clear hv hend hNe h1 h2 h3 h4
  generalize cN x y = N at *
  generalize stN x y z = st at *
  go_enter Try.func23, Try.ntmps23
  go_wp2_with fail
  go_loopw [3, 4] (fun u3 u4 wr => PS W W.heap.size x y z st N u3 u4 wr) (fun _ u4 _ => N - (intOf u4).toNat)
  case atStart => exact ⟨0, Nat.zero_le _, rfl, rfl, HB0.out, HX0.out⟩
  case round =>
    obtain ⟨k, hk, rfl, rfl, hb, hx⟩ := hrel
    have hbl0 := Lib.hid hb
    have hxc0 := Lib.hid hx
    obtain ⟨c0, c1, c2⟩ := hx.1
    have hle := cpN_le st N k
    clear HB0 HX0 hb hx
    by_cases hkN : k < N
    · obtain ⟨l, j, hl0, hjk, hjle, hR⟩ := HR.out k hkN
      have HRk := Lib.hid hR
      have HL0 := Lib.hid hl0
      have hlen : 0 < l.length := (List.getElem?_eq_some_iff.1 hl0).1
      have HN := @Lib.hid _ (fun X c p1 p2 p3 => @ps_next W X W.heap.size x y z st N k c hkN p1 p2 p3)
      have hcs : cpN st N (k + 1) = cpN st N k + if isLeast st N k = true then 1 else 0 := rfl
      have HCs := Lib.hid hcs
      clear hR hl0 hcs
      go_wp2_with fail
      refine (HC.out _).mono ?_
      rintro e w1 ⟨rfl, hb⟩
      have hbl1 := Lib.hid (below_call hbl0.out hb)
      have hxc1 := Lib.hid (hxc0.out.call hb)
      clear hb hbl0  hxc0 c0 c1 c2
      obtain ⟨c0, c1, c2⟩ := hxc1.out.1
      go_wp2_with fail
      refine (HO.out _).mono ?_
      rintro e w2 ⟨rfl, hb⟩
      have hbl2 := Lib.hid (below_call hbl1.out hb)
      have hxc2 := Lib.hid (hxc1.out.call hb)
      clear hb hbl1  hxc1 c0 c1 c2
      obtain ⟨c0, c1, c2⟩ := hxc2.out.1
      go_wp2_with fail
      refine (HRk.out _).mono ?_
      rintro e w3 ⟨v, rfl, ho, hb⟩
      have hbl3 := Lib.hid (below_call hbl2.out hb)
      have hxc3 := Lib.hid (hxc2.out.call hb)
      obtain ⟨g, cg, rfl, hg, hgs⟩ := own_some ho hlen
      have hcell := first_cell ho HL0.out
      have hi0 : (0 : Int) < (l.length : Int) := by omega
      clear hb ho hg hgs hbl2 hxc2 c0 c1 c2
      by_cases hj : j = k
      · have hj' : ((j : Int) == (k : Int)) = true := by simp [hj]
        have hc : ((cpN st N k : Nat) : Int) + 1 = ((cpN st N (k + 1) : Nat) : Int) := by rw [HCs.out, if_pos (hjk.1 hj)]; omega
        have HCc := Lib.hid hc
        clear hc hj hjk
        go_wp2_with fail
        go_roundw
        case rel => exact HN.out _ _ HCc.out hbl3.out hxc3.out
        case measure => simp [intOf]; omega
      · have hj' : ((j : Int) == (k : Int)) = false := by simp; omega
        have hc : ((cpN st N k : Nat) : Int) = ((cpN st N (k + 1) : Nat) : Int) := by rw [HCs.out, if_neg (fun e => hj (hjk.2 e))]; omega
        have HCc := Lib.hid hc
        clear hc hj hjk
        go_wp2_with fail
        go_roundw
        case rel => exact HN.out _ _ HCc.out hbl3.out hxc3.out
        case measure => simp [intOf]; omega
    · obtain rfl : k = N := by omega
      go_wp2_with fail
      refine (HC.out _).mono ?_
      rintro e w1 ⟨rfl, hb⟩
      have hbl1 := Lib.hid (below_call hbl0.out hb)
      have hxc1 := Lib.hid (hxc0.out.call hb)
      clear hb hbl0  hxc0 c0 c1 c2
      obtain ⟨c0, c1, c2⟩ := hxc1.out.1
      go_wp2_with fail
      go_ret
      exact HK.out _ hbl1.out

theorem countParts_any (x y z : Int) (W : World) :
    Calls Try.prog 23 #[.agg #[.int .i64 x, .int .i64 y, .int .i64 z]] W (Nm (ptZ x y z) W) := by
  by_cases hv : OkM x y z
  · exact countParts_good x y z W hv
  · exact countParts_bad x y z W hv

theorem isConnected_any (x y z : Int) (W : World) :
    Calls Try.prog 24 #[.agg #[.int .i64 x, .int .i64 y, .int .i64 z]] W (Bl (cnB x y z) W) := by
  have HK := @Lib.hid _ (fun w' b => @bl_mk (ptZ x y z == 1) (cnB x y z) W w' rfl b)
  have HB := Lib.hid below_box
  have HP := Lib.hid (fun X => countParts_any x y z X)
  generalize ptZ x y z = v at *
  go_enter Try.func24, Try.ntmps24
  go_wp2_with fail
  refine (HP.out _).mono ?_
  rintro e w1 ⟨rfl, hb⟩
  have hbl1 := Lib.hid (below_call (HB.out _ _) hb)
  clear hb
  go_wp2_with fail
  go_ret
  exact HK.out _ hbl1.out

theorem farthestFrom_no (x y z a : Int) (W : World) (hh : hasB x y z a = false) :
    Calls Try.prog 26 #[.agg #[.int .i64 x, .int .i64 y, .int .i64 z], .int .i64 a] W (Nm (faZ x y z a) W) := by
  have he : -1 = faZ x y z a := by unfold faZ; rw [hh]; rfl
  have HK := @Lib.hid _ (fun w' b => @nm_mk _ _ W w' he b)
  have HB := Lib.hid below_box
  have HH := Lib.hid (fun X => has_any x y z a X)
  rw [hh] at HH
  clear he hh
  go_enter Try.func26, Try.ntmps26
  go_wp2_with fail
  refine (HH.out _).mono ?_
  rintro e w1 ⟨rfl, hb⟩
  have hbl1 := Lib.hid (below_call (HB.out _ _) hb)
  clear hb
  go_wp2_with fail
  go_ret
  exact HK.out _ hbl1.out

set_option maxRecDepth 100000 in
set_option maxHeartbeats 1000000 in
theorem farthestFrom_yes (x y z a : Int) (W : World) (hh : hasB x y z a = true) :
    Calls Try.prog 26 #[.agg #[.int .i64 x, .int .i64 y, .int .i64 z], .int .i64 a] W (Nm (faZ x y z a) W) := by
  obtain ⟨hv, k, rfl, ha, haN, hak, hN16, hNN⟩ := has_form hh
  have he : ((farN (fun v => dZ (stN x y z) (cN x y) k v) k (cN x y) : Nat) : Int) = faZ x y z k := by unfold faZ; rw [if_pos hh]; simp
  have HK := @Lib.hid _ (fun w' b => @nm_mk _ _ W w' he b)
  have HB := Lib.hid below_box
  have HH := Lib.hid (fun X => has_any x y z k X)
  rw [hh] at HH
  have HD := Lib.hid (fun X => distances_any x y z k X hv ha)
  clear he hh ha hak hNN hv
  generalize cN x y = N at *
  generalize stN x y z = st at *
  go_enter Try.func26, Try.ntmps26
  go_wp2_with fail
  refine (HH.out _).mono ?_
  rintro e w1 ⟨rfl, hb⟩
  have hbl1 := Lib.hid (below_call (HB.out _ _) hb)
  have hxc1 := Lib.hid ((mbox_new x y z W _).call hb)
  clear hb
  obtain ⟨c0, c1, c2⟩ := hxc1.out.1
  go_wp2_with fail
  refine (HD.out _).mono ?_
  rintro e w2 ⟨vd, rfl, hd, hb⟩
  have hbl2 := Lib.hid (below_call hbl1.out hb)
  rw [dl_len] at hd
  obtain ⟨g, cg, rfl, hg, hgs⟩ := own_some hd (by omega)
  have hvd := Lib.hid (own_base hd (hbl1.out.size))
  clear hb hd hg hgs hbl1 hxc1 c0 c1 c2
  go_wp2_with fail
  go_loopw [6, 7] (fun u6 u7 wr => FS W g N k st cg u6 u7 wr) (fun _ u7 _ => N - (intOf u7).toNat)
  case atStart => exact ⟨0, Nat.zero_le _, rfl, rfl, hbl2.out, hvd.out⟩
  case round =>
    obtain ⟨j, hj, rfl, rfl, hb0, ho0⟩ := hrel
    have hbl := Lib.hid hb0
    have ho := Lib.hid ho0
    have hfl := farN_lt (D := fun v => dZ st N k v) haN j hj
    clear hb0 ho0 hbl2 hvd
    by_cases hjN : j < N
    · have HN := @Lib.hid _ (fun X c p1 p2 p3 => @fs_next W X g N k j cg st c hjN p1 p2 p3)
      have hfs : farN (fun v => dZ st N k v) k (j + 1) = if dZ st N k (farN (fun v => dZ st N k v) k j) < dZ st N k j ∨ (dZ st N k j = dZ st N k (farN (fun v => dZ st N k v) k j) ∧ j < farN (fun v => dZ st N k v) k j) then j else farN (fun v => dZ st N k v) k j := rfl
      rw [hfs] at HN
      clear hfs
      generalize farN (fun v => dZ st N k v) k j = f at *
      have hc1 := dl_cell ho.out rfl hjN
      have hc2 := dl_cell ho.out rfl hfl
      generalize dZ st N k j = dj at *
      generalize dZ st N k f = df at *
      have hj0 : (0 : Int) ≤ (j : Int) := Int.natCast_nonneg _
      have hj1 : (j : Int) < (N : Int) := by omega
      have hf0 : (0 : Int) ≤ (f : Int) := Int.natCast_nonneg _
      have hf1 : (f : Int) < (N : Int) := by omega
      by_cases hgt : df < dj
      · have HC := Lib.hid (show (j : Int) = (((if df < dj ∨ (dj = df ∧ j < f) then j else f) : Nat) : Int) by rw [if_pos (.inl hgt)])
        go_wp2_with fail
        go_quiet (fail)
        go_wp2_with fail
        go_roundw
        case rel => exact HN.out _ _ HC.out (below_draws hbl.out _) ho.out
        case measure => simp [intOf]; omega
      · have hgt' : decide (df < dj) = false := by simpa using hgt
        by_cases heq : dj = df
        · have heq' : (dj == df) = true := by simpa using heq
          by_cases hlt : j < f
          · have hlt' : decide ((j : Int) < (f : Int)) = true := by simp; omega
            have HC := Lib.hid (show (j : Int) = (((if df < dj ∨ (dj = df ∧ j < f) then j else f) : Nat) : Int) by rw [if_pos (.inr ⟨heq, hlt⟩)])
            have Heq := Lib.hid heq
            clear heq hgt
            go_wp2_with fail
            go_quiet (fail)
            go_wp2_with fail
            go_roundw
            case rel => exact HN.out _ _ HC.out (below_draws hbl.out _) ho.out
            case measure => simp [intOf]; omega
          · have hlt' : decide ((j : Int) < (f : Int)) = false := by simp; omega
            have HC := Lib.hid (show (f : Int) = (((if df < dj ∨ (dj = df ∧ j < f) then j else f) : Nat) : Int) by rw [if_neg (by omega)])
            have Heq := Lib.hid heq
            clear heq hgt
            go_wp2_with fail
            go_quiet (fail)
            go_wp2_with fail
            go_roundw
            case rel => exact HN.out _ _ HC.out (below_draws hbl.out _) ho.out
            case measure => simp [intOf]; omega
        · have heq' : (dj == df) = false := by simpa using heq
          have HC := Lib.hid (show (f : Int) = (((if df < dj ∨ (dj = df ∧ j < f) then j else f) : Nat) : Int) by rw [if_neg (by omega)])
          clear heq hgt
          go_wp2_with fail
          go_quiet (fail)
          go_wp2_with fail
          go_roundw
          case rel => exact HN.out _ _ HC.out (below_draws hbl.out _) ho.out
          case measure => simp [intOf]; omega
    · obtain rfl : j = N := by omega
      go_wp2_with fail
      go_ret
      exact HK.out _ hbl.out

theorem farthestFrom_any (x y z a : Int) (W : World) :
    Calls Try.prog 26 #[.agg #[.int .i64 x, .int .i64 y, .int .i64 z], .int .i64 a] W (Nm (faZ x y z a) W) := by
  by_cases h : hasB x y z a = true
  · exact farthestFrom_yes x y z a W h
  · exact farthestFrom_no x y z a W (by simpa using h)
end Go.Proofs.Ytomjfcmaoeoigaa.reachS
