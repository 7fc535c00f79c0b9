/- The contract of the program's search: the distances of all cells from one, whose cells wait in a channel. -/
import Derived.Test.YtomjfcmaoeoigaaReachQ
import Derived.Test.YtomjfcmaoeoigaaMazeW
namespace Go.Proofs.Ytomjfcmaoeoigaa.reachV
open Go.ChangeShapes Go.WideShapes Go.ChangeAt Go.RowKit Go.Conc
open draw gridP gridC bitP mazeP mazeC mazeM mazeI intsP reachP reachM reachN reachD comP reachQ
set_option linter.unusedVariables false

theorem hasCell_any (x y k : Int) (W : World) (h1 : 1 ≤ x) (h2 : x ≤ 4) (h3 : 1 ≤ y) (h4 : y ≤ 4) : Calls Try.prog 43 #[.agg #[.int .i64 x, .int .i64 y], .int .i64 k] W (Bl (decide (0 ≤ k ∧ k < x * y)) W) := by
  by_cases h : 0 ≤ k ∧ k < x * y
  · rw [decide_eq_true h]; exact hasCell_yes x y k W h1 h2 h3 h4 h.1 h.2
  · rw [decide_eq_false h]; exact hasCell_no x y k W h1 h2 h3 h4 h

/-- Where there is no such maze or no such cell. -/
theorem distances_no (x y z a : Int) (W : World) (hh : hasB x y z a = false) :
    Calls Try.prog 30 #[.agg #[.int .i64 x, .int .i64 y, .int .i64 z], .int .i64 a] W (Ints [] W) := by
  have HK := @Lib.hid _ (fun w' v n base => @ints_mk [] W w' v n base)
  have HB := Lib.hid below_box
  have HO := Lib.hid (fun X => ok_any x y z X)
  have HZ := Lib.hid (fun X : World => World.ownsRow_nil X W.heap.size 3 1)
  by_cases hv : OkM x y z
  · rw [show okB x y z = true from decide_eq_true hv] at HO
    obtain ⟨⟨h1, h2, h3, h4⟩, -, -⟩ := id hv
    have hc : decide (0 ≤ a ∧ a < x * y) = false := by
      unfold hasB at hh; rw [decide_eq_false_iff_not] at hh ⊢; exact fun e => hh ⟨hv, e⟩
    have HC := Lib.hid (fun X => hasCell_any x y a X h1 h2 h3 h4)
    rw [hc] at HC
    clear hh hv hc h1 h2 h3 h4
    refine calls_of_wpn Try.func30 rfl ?_
    simp only [Try.ntmps30, List.size_toArray, List.length_cons, List.length_nil, Nat.reduceAdd, Nat.reduceSub, Array.replicate_succ,
     Array.replicate_zero, List.push_toArray, List.append_toArray, List.nil_append, List.cons_append]
    refine wpn_seq_k fun K hK => ?_
    go_wp2_with fail
    refine wpn_seq_k fun K hK => ?_
    go_wp2_with fail
    refine (HO.out _).mono ?_
    rintro e w1 ⟨rfl, hb⟩
    have hbl1 := Lib.hid (below_call (HB.out _ _) hb)
    have hxc1 := Lib.hid ((mbox_new x y z W _).call hb)
    clear hb
    obtain ⟨c0, c1, c2⟩ := hxc1.out.1
    go_wp2_with fail
    refine (HC.out _).mono ?_
    rintro e w2 ⟨rfl, hb⟩
    have hbl2 := Lib.hid (below_call hbl1.out hb)
    have hxc2 := Lib.hid (hxc1.out.call hb)
    clear hb hbl1  hxc1 c0 c1 c2
    obtain ⟨c0, c1, c2⟩ := hxc2.out.1
    go_wp2_with fail
    go_ret
    exact HK.out _ _ _ _ rfl (HZ.out _) (Nat.le_refl _) hbl2.out
  · rw [show okB x y z = false from decide_eq_false hv] at HO
    clear hh hv
    refine calls_of_wpn Try.func30 rfl ?_
    simp only [Try.ntmps30, List.size_toArray, List.length_cons, List.length_nil, Nat.reduceAdd, Nat.reduceSub, Array.replicate_succ,
     Array.replicate_zero, List.push_toArray, List.append_toArray, List.nil_append, List.cons_append]
    refine wpn_seq_k fun K hK => ?_
    go_wp2_with fail
    refine wpn_seq_k fun K hK => ?_
    go_wp2_with fail
    refine (HO.out _).mono ?_
    rintro e w1 ⟨rfl, hb⟩
    have hbl1 := Lib.hid (below_call (HB.out _ _) hb)
    have hxc1 := Lib.hid ((mbox_new x y z W _).call hb)
    clear hb
    obtain ⟨c0, c1, c2⟩ := hxc1.out.1
    go_wp2_with fail
    go_ret
    exact HK.out _ _ _ _ rfl (HZ.out _) (Nat.le_refl _) hbl1.out

set_option maxRecDepth 100000 in
set_option maxHeartbeats 4000000 in
theorem distances_yes (x y z : Int) (a : Nat) (W : World) (hv : OkM x y z) (ha : (a : Int) < x * y) :
    Calls Try.prog 30 #[.agg #[.int .i64 x, .int .i64 y, .int .i64 z], .int .i64 a] W (Ints (dl (stN x y z) (cN x y) a) W) := by
  obtain ⟨i0, hi0, hz0, hz1, hz2⟩ := info_parts info_int
  obtain ⟨⟨h1, h2, h3, h4⟩, -, -⟩ := id hv
  have hcc := (mul_bd x y h1 h2 h3 h4).1
  have HO := Lib.hid (fun X => ok_any x y z X)
  rw [show okB x y z = true from decide_eq_true hv] at HO
  have HHc := Lib.hid (fun X => hasCell_any x y a X h1 h2 h3 h4)
  rw [show decide ((0 : Int) ≤ (a : Int) ∧ (a : Int) < x * y) = true from decide_eq_true ⟨Int.natCast_nonneg _, ha⟩] at HHc
  have HC := Lib.hid (fun X => cells_any x y X h1 h2 h3 h4)
  have HSt := Lib.hid (fun u q X => step_any x y z u q X)
  have HW := Lib.hid (fun u X => waysFrom_any x y z u X)
  have hlt := @stN_lt x y z
  obtain ⟨N, hN⟩ := Int.eq_ofNat_of_zero_le (show 0 ≤ x * y by omega)
  have hcN : cN x y = N := by unfold cN; omega
  rw [hcN] at hlt ⊢
  rw [hN] at HC hcc ha
  have haN : a < N := by omega
  have HLt := Lib.hid hlt
  have HEnd := @Lib.hid _ (fun D L k q (h : Inv (stN x y z) N a D L k q) hk => dl_eq h hk haN hlt)
  have HK := @Lib.hid _ (fun w' v n base => @ints_mk (dl (stN x y z) N a) W w' v n base)
  have HB := Lib.hid below_box
  clear h1 h2 h3 h4 hcN hN hlt hv
  refine calls_of_wpn Try.func30 rfl ?_
  simp only [Try.ntmps30, List.size_toArray, List.length_cons, List.length_nil, Nat.reduceAdd, Nat.reduceSub, Array.replicate_succ,
     Array.replicate_zero, List.push_toArray, List.append_toArray, List.nil_append, List.cons_append]
  refine wpn_seq_k fun K hK => ?_
  go_wp2_with fail
  refine wpn_seq_k fun K hK => ?_
  go_wp2_with fail
  refine (HO.out _).mono ?_
  rintro e w1 ⟨rfl, hb⟩
  have hbl1 := Lib.hid (below_call (HB.out _ _) hb)
  have hxc1 := Lib.hid ((mbox_new x y z W _).call hb)
  clear hb
  obtain ⟨c0, c1, c2⟩ := hxc1.out.1
  go_wp2_with fail
  refine (HHc.out _).mono ?_
  rintro e w2 ⟨rfl, hb⟩
  have hbl2 := Lib.hid (below_call hbl1.out hb)
  have hxc2 := Lib.hid (hxc1.out.call hb)
  clear hb hbl1  hxc1 c0 c1 c2
  obtain ⟨c0, c1, c2⟩ := hxc2.out.1
  go_wp2_with fail
  refine wpn_seq_k fun K hK => ?_
  go_wp2_with fail
  refine (HC.out _).mono ?_
  rintro e w1 ⟨rfl, hb⟩
  have hbl1 := Lib.hid (below_call hbl2.out hb)
  have hxm1 := Lib.hid (hxc2.out.call hb)
  have hbQ := hxm1.out.2
  have hWQ := hbl1.out.size
  have ds1 := Lib.hid (ds_make (N := N) hbl1.out hxm1.out hWQ (by unfold maxLen; omega))
  have hmk := run_make (P := Try.prog) w1 33 3 i0 (.int .i64 0) Try.underlying33 hi0 hz0 .i64 .i64 (N : Int) (N : Int) (by omega) (by omega) (by rw [hz2]; omega) (by omega)
  rw [hz1] at hmk
  simp only [Int.toNat_natCast, Nat.mul_one] at hmk
  clear hb hbl1 hxm1 hbl2 hxc2 c0 c1 c2
  go_wp2_with fail
  clear hmk
  refine wpn_seq_k fun K hK => ?_
  go_wp2_with fail
  go_loopw [28] (fun u28 wr => ∃ (k : Nat) (D : List Int), k ≤ N ∧ u28 = .int .i64 k ∧ D.length = N ∧ (∀ j, j < k → D[j]? = some (-1)) ∧ DS W W.heap.size x y z w1.heap.size N D wr) (fun u28 _ => N - (intOf u28).toNat)
  case atStart => exact ⟨0, List.replicate N 0, Nat.zero_le _, rfl, by simp, fun j hj => absurd hj (by omega), ds1.out⟩
  case round =>
    obtain ⟨k, D, hk, rfl, hDl, hDm, hds0⟩ := hrel
    have hds := Lib.hid hds0
    have HDm := Lib.hid hDm
    clear hds0 hDm ds1
    by_cases hkN : k < N
    · obtain ⟨cu, fu⟩ := hds.out.cell hDl k hkN
      have HN := Lib.hid (hds.out.put hbQ (Nat.le_refl _) k (-1))
      have HM : Hid (∀ j, j < k + 1 → (D.set k (-1))[j]? = some (-1)) := fun j hj => by
        rw [List.getElem?_set]
        by_cases e : k = j
        · subst e; simp; omega
        · rw [if_neg e]; exact HDm.out j (by omega)
      have hk0 : (0 : Int) ≤ (k : Int) := Int.natCast_nonneg _
      have hk1 : (k : Int) < (N : Int) := by omega
      go_wp2_with fail
      go_roundw
      case rel => exact ⟨k + 1, _, by omega, by go_num, by simpa using hDl, HM.out, HN.out⟩
      case measure => simp [intOf]; omega
    · obtain rfl : k = N := by omega
      have hD : D = List.replicate k (-1) := by
        apply List.ext_getElem?
        intro j
        by_cases hj : j < k
        · rw [HDm.out j hj]; simp [hj]
        · rw [List.getElem?_eq_none (by omega), List.getElem?_eq_none (by simp; omega)]
      subst hD
      clear HDm
      go_wp2_with fail
      have hdr := hds.out.1.size
      have hwr : w1.heap.size < wr.heap.size := own_at hds.out.2.2
      have hmc := run_makeChan (P := Try.prog) (w := wr) Try.underlying64 hi0 .i64 k (by omega) (by rw [hz2]; omega)
      have ss1 := Lib.hid (ss_make hds.out)
      refine wpn_seq_k fun K hK => ?_
      go_wp2_with fail
      clear hmc hds
      generalize wr.alloc (.chan k #[] false 0 0 false) = X1 at *
      generalize wr.heap.size = C at *
      generalize w1.heap.size = Q at *
      obtain ⟨cu, fu⟩ := ss1.out.1.cell hDl a haN
      have ss2 := Lib.hid (ss1.out.put hbQ hwr (Nat.le_refl _) a 0)
      have ha0 : (0 : Int) ≤ (a : Int) := Int.natCast_nonneg _
      have ha1 : (a : Int) < (k : Int) := by omega
      refine wpn_seq_k fun K hK => ?_
      go_wp2_with fail
      clear cu fu ss1
      generalize X1.setCell ⟨Q, a, none⟩ (.int .i64 0) = X2 at *
      refine wpn_seq_n fun K hK => ?_
      refine wpn_region ?_
      show OpsN _ _ [0, 1, 2] _ _ _
      obtain ⟨s, r, hc⟩ := id ss2.out.2
      have ss3 := Lib.hid (ss2.out.push hbQ hwr (Nat.le_refl _) a (s + 1) r)
      refine opsN_value (v := .chan (some C)) (w' := X2) rfl rfl (by simp [execOp, Act.eval]) ?_
      refine opsN_value (v := .int .i64 a) (w' := X2) rfl rfl (by simp [execOp, Act.eval, Act.put]) ?_
      refine opsN_send (c := C) (cap := k) (buf := (icells []).toArray) (s := s) (r := r) (tm := false) (v := .int .i64 a) (z' := .tuple #[]) (w₁ := X2) rfl rfl (by simp [execOp, scase, Act.eval, Act.put]) hc (by simp [icells]; omega) ?_
      refine opsN_end ?_
      generalize X2.setChan C k ((icells []).toArray.push (.int .i64 a)) false (s + 1) r false = X3 at *
      clear hc ss2
      go_wp2_with fail
      refine wpn_seq_n fun K hK => ?_
      refine wpn_seq_k fun K hK => ?_
      go_wp2_with fail
      refine wpn_block ?_
      refine wpn_loop_ix (fun n a' w' => ∃ u8 u10 u11 u44 u45 u46 u47 u48 u49 u50 u51 u52 u53 u54 u55 u56 u57 u58 u59 u60 u61 u62 u63 u64 u65 u66 u67 u68 u69 u70 u71 u72 u73 u74 u75 u76 u77 u78 : Value, a' = ⟨#[Value.agg #[Value.int IntKind.i64 x, Value.int IntKind.i64 y, Value.int IntKind.i64 z], Value.int IntKind.i64 a, Value.pointer (some ⟨W.heap.size, 0, none⟩), undef, Value.slice none 0 0, Value.slice (some ⟨Q, 0, none⟩) k k, u6, Value.chan (some C), u8, undef, u10, u11, Value.agg #[Value.int IntKind.i64 x, Value.int IntKind.i64 y, Value.int IntKind.i64 z], Value.bool true, Value.bool false, Value.bool false, Value.pointer (some ⟨W.heap.size, 0, none⟩), Value.agg #[Value.int IntKind.i64 x, Value.int IntKind.i64 y], Value.int IntKind.i64 a, Value.bool true, Value.bool false, Value.bool false, Value.pointer (some ⟨W.heap.size, 0, none⟩), Value.agg #[Value.int IntKind.i64 x, Value.int IntKind.i64 y], Value.int IntKind.i64 k, Value.slice (some ⟨Q, 0, none⟩) k k, Value.slice (some ⟨Q, 0, none⟩) k k, Value.int IntKind.i64 k, Value.int IntKind.i64 k, Value.bool false, u30, u31, u32, u33, u34, Value.slice (some ⟨Q, 0, none⟩) k k, Value.int IntKind.i64 k, Value.chan (some C), Value.slice (some ⟨Q, 0, none⟩) k k, Value.int IntKind.i64 a, Value.pointer (some ⟨Q, a, none⟩), Value.chan (some C), Value.int IntKind.i64 a, Value.chan (some C), u44, u45, u46, u47, u48, u49, u50, u51, u52, u53, u54, u55, u56, u57, u58, u59, u60, u61, u62, u63, u64, u65, u66, u67, u68, u69, u70, u71, u72, u73, u74, u75, u76, u77, u78, undef], []⟩ ∧ HS W W.heap.size x y z Q C k a n w') (k + 1) ?_ ?_
      · refine ⟨_, _, _, _, _, _, _, _, _, _, _, _, _, _, _, _, _, _, _, _, _, _, _, _, _, _, _, _, _, _, _, _, _, _, _, _, _, _, rfl, hs_start ss3.out haN⟩
      rintro n _ wr ⟨u8, u10, u11, u44, u45, u46, u47, u48, u49, u50, u51, u52, u53, u54, u55, u56, u57, u58, u59, u60, u61, u62, u63, u64, u65, u66, u67, u68, u69, u70, u71, u72, u73, u74, u75, u76, u77, u78, rfl, hrel⟩
      dsimp only
      clear ss3
      obtain ⟨D, L, j, hnj, hj, hss0, hi0⟩ := hrel
      have hss := Lib.hid hss0
      have hi := Lib.hid hi0
      have hLN := hi0.le
      clear hss0 hi0
      by_cases hjl : j < L.length
      · have hu := Lib.hid (List.getElem?_eq_getElem hjl)
        have huN := hi.out.ins _ (List.getElem_mem hjl)
        generalize L[j] = u at hu huN
        have hcl : decide (L.length ≤ j) = false := by simp; omega
        have hssb := hss.out
        rw [hcl, zs_drop hu.out] at hssb
        obtain ⟨s, r, hc⟩ := id hssb.2
        have ss4 := Lib.hid (hssb.pop hbQ hwr (Nat.le_refl _) s (r + 1))
        clear hss hssb hcl
        refine wpn_seq_n fun K hK => ?_
        refine wpn_region ?_
        show OpsN _ _ [0, 1] _ _ _
        refine opsN_recv (c := C) (cap := k) (buf := (icells ((u : Int) :: (zs L).drop (j + 1))).toArray) (closed := false) (s := s) (r := r) (tm := false) (z := .int .i64 0) (w₁ := wr) true rfl rfl (by simp [go_sem, rcase]) hc (by simp [icells]) ?_
        generalize wr.setChan C k ((icells ((u : Int) :: (zs L).drop (j + 1))).toArray.extract 1 (icells ((u : Int) :: (zs L).drop (j + 1))).toArray.size) false s (r + 1) false = X4 at *
        refine opsN_value (v := .bool true) (w' := X4) rfl rfl (by simp [go_sem, execOp, Act.eval, Act.put, got]) ?_
        refine opsN_end ?_
        rw [show (icells ((u : Int) :: (zs L).drop (j + 1))).toArray.getD 0 undef = .int .i64 u from rfl]
        simp only [got, if_true]
        clear hc
        go_wp2_with fail
        refine wpn_seq_k fun K hK => ?_
        go_wp2_with fail
        refine wpn_block ?_
        refine wpn_seq_k fun K hK => ?_
        go_wp2_with fail
        obtain ⟨m0, m1, m2⟩ := ss4.out.1.2.1.1
        refine wpn_seq_n fun K hK => ?_
        refine wpn_seq_k fun K hK => ?_
        go_wp2_with fail
        refine (HW.out u _).mono ?_
        rintro e w5 ⟨vw, rfl, hw, hb⟩
        have ss5 := Lib.hid (ss4.out.call hb)
        have hC4 := ss4.out.2.lt
        have hw5 := Lib.hid (own_base hw (show C + 1 ≤ X4.heap.size by omega))
        obtain ⟨Av, cv, rfl⟩ := own_form hw
        have hlw := wlN_len x y z u 4
        change (wlZ x y z u).length ≤ 4 at hlw
        have hnw : Hid ((wlZ x y z u).length ≤ (wlZ x y z u).length) := Lib.hid (Nat.le_refl _)
        clear hb hw m0 m1 m2 ss4 hC4
        go_wp2_with fail
        have hTS : TS W W.heap.size x y z Q C k a j u (.slice Av (wlZ x y z u).length cv) (wlZ x y z u).length (wlZ x y z u).length (.int .i64 0) w5 :=
          ⟨D, L, 0, 0, by omega, by omega, rfl, rfl, hu.out, ss5.out, hw5.out, hi.out⟩
        generalize hnwe : (wlZ x y z u).length = nw at *
        have hnj' : n + j = k + 1 := hnj
        clear hnj hj hi hLN hjl hu ss5 hw5 D L hnw
        refine wpn_block ?_
        refine wpn_loop_ix (fun n a' w' => ∃ u10 u11 u51 u52 u53 u54 u55 u56 u57 u58 u59 u60 u61 u62 u63 u64 u65 u66 u67 u68 u69 u70 u71 u72 u73 u74 : Value, a' = ⟨#[Value.agg #[Value.int IntKind.i64 x, Value.int IntKind.i64 y, Value.int IntKind.i64 z], Value.int IntKind.i64 a, Value.pointer (some ⟨W.heap.size, 0, none⟩), undef, Value.slice none 0 0, Value.slice (some ⟨Q, 0, none⟩) k k, u6, Value.chan (some C), Value.int IntKind.i64 u, undef, u10, u11, Value.agg #[Value.int IntKind.i64 x, Value.int IntKind.i64 y, Value.int IntKind.i64 z], Value.bool true, Value.bool false, Value.bool false, Value.pointer (some ⟨W.heap.size, 0, none⟩), Value.agg #[Value.int IntKind.i64 x, Value.int IntKind.i64 y], Value.int IntKind.i64 a, Value.bool true, Value.bool false, Value.bool false, Value.pointer (some ⟨W.heap.size, 0, none⟩), Value.agg #[Value.int IntKind.i64 x, Value.int IntKind.i64 y], Value.int IntKind.i64 k, Value.slice (some ⟨Q, 0, none⟩) k k, Value.slice (some ⟨Q, 0, none⟩) k k, Value.int IntKind.i64 k, Value.int IntKind.i64 k, Value.bool false, u30, u31, u32, u33, u34, Value.slice (some ⟨Q, 0, none⟩) k k, Value.int IntKind.i64 k, Value.chan (some C), Value.slice (some ⟨Q, 0, none⟩) k k, Value.int IntKind.i64 a, Value.pointer (some ⟨Q, a, none⟩), Value.chan (some C), Value.int IntKind.i64 a, Value.chan (some C), Value.tuple #[Value.int IntKind.i64 u, Value.bool true], Value.bool true, Value.int IntKind.i64 u, Value.agg #[Value.int IntKind.i64 x, Value.int IntKind.i64 y, Value.int IntKind.i64 z], Value.int IntKind.i64 u, Value.slice Av nw cv, Value.int IntKind.i64 nw, u51, u52, u53, u54, u55, u56, u57, u58, u59, u60, u61, u62, u63, u64, u65, u66, u67, u68, u69, u70, u71, u72, u73, u74, u75, u76, u77, u78, undef], []⟩ ∧ TS W W.heap.size x y z Q C k a j u (.slice Av nw cv) nw n u51 w') nw ?_ ?_
        · refine ⟨_, _, _, _, _, _, _, _, _, _, _, _, _, _, _, _, _, _, _, _, _, _, _, _, _, _, rfl, hTS⟩
        clear hTS
        rintro n' _ wr ⟨u10, u11, u51, u52, u53, u54, u55, u56, u57, u58, u59, u60, u61, u62, u63, u64, u65, u66, u67, u68, u69, u70, u71, u72, u73, u74, rfl, hrel⟩
        dsimp only
        obtain ⟨D, L, q, i, hni, hq4, rfl, hqi, hu0, hss0, hw0, hi0⟩ := hrel
        have hss := Lib.hid hss0
        have hi := Lib.hid hi0
        have hw := Lib.hid hw0
        have hu := Lib.hid hu0
        have hLN := hi0.le
        have hjl : j < L.length := (List.getElem?_eq_some_iff.1 hu0).1
        clear hss0 hi0 hw0 hu0
        by_cases hinw : i < nw
        · have hd := List.getElem?_eq_getElem (show i < (wlZ x y z u).length by omega)
          have hdx := Lib.hid hd
          generalize (wlZ x y z u)[i] = d at hd hdx
          obtain ⟨dn, rfl, hd1, hd2, hd3, hd4, hd5⟩ := ways_next hqi 4 hq4 hd
          have hi2 := Lib.hid (inv_skip hi.out hu.out dn hd1 hd4)
          have huN := hi.out.ins u (List.mem_of_getElem? hu.out)
          obtain ⟨v, hv⟩ := Int.eq_ofNat_of_zero_le hd3
          have hvk : v < k := HLt.out u dn v hv
          have HSq := Lib.hid (fun X => HSt.out u dn X)
          rw [hv] at HSq
          have hi0' : (0 : Int) ≤ (i : Int) := Int.natCast_nonneg _
          have hi1' : (i : Int) < (nw : Int) := by omega
          obtain ⟨g, cg, hge, hg, hgs⟩ := own_some hw.out (by omega)
          cases hge
          have hcell := wl_cell hw.out hnwe hdx.out
          obtain ⟨m0, m1, m2⟩ := hss.out.1.2.1.1
          have HI := Lib.hid hi
          have Hu := Lib.hid hu
          clear hd hdx
          refine wpn_seq_k fun K hK => ?_
          go_wp2_with fail
          refine wpn_seq_k fun K hK => ?_
          go_wp2_with fail
          refine wpn_seq_n fun K hK => ?_
          refine wpn_block ?_
          refine wpn_seq_k fun K hK => ?_
          go_wp2_with fail
          refine wpn_seq_k fun K hK => ?_
          go_wp2_with fail
          refine (HSq.out _).mono ?_
          rintro e w6 ⟨rfl, hb⟩
          have ss6 := Lib.hid (hss.out.call hb)
          have hw6 := Lib.hid (own_call hw.out hb)
          clear hb hss hw hcell m0 m1 m2
          go_wp2_with fail
          have hDl := hi.out.len
          obtain ⟨cv', fv⟩ := ss6.out.1.cell hDl v hvk
          obtain ⟨cu', fu⟩ := ss6.out.1.cell hDl u huN
          have hv0 : (0 : Int) ≤ (v : Int) := Int.natCast_nonneg _
          have hv1 : (v : Int) < (k : Int) := by omega
          have hu0 : (0 : Int) ≤ (u : Int) := Int.natCast_nonneg _
          have hu1 : (u : Int) < (k : Int) := by omega
          by_cases hd0 : D.getD v (-1) < 0
          · have HI2 := Lib.hid (inv_new hi2.out hd2 hu.out hv hvk hd0)
            have hdu : 0 ≤ D.getD u (-1) ∧ D.getD u (-1) ≤ 16 := by
              obtain ⟨n, e1, e2, _⟩ := hi.out.wk j u hu.out
              omega
            have ss7 := Lib.hid (ss6.out.put hbQ hwr (Nat.le_refl _) v (D.getD u (-1) + 1))
            have hw7 := Lib.hid (own_put hw6.out (p := ⟨Q, v, none⟩) (by simp; omega) (.int .i64 (D.getD u (-1) + 1)))
            have hd' : decide (D.getD v (-1) < 0) = true := by simpa using hd0
            clear HI Hu hd0
            generalize D.getD v (-1) = dv at *
            generalize D.getD u (-1) = du at *
            refine wpn_seq_k fun K hK => ?_
            go_wp2_with fail
            refine wpn_true rfl ?_
            refine wpn_seq_k fun K hK => ?_
            go_wp2_with fail
            clear cv' cu' fv fu hd' ss6 hw6
            generalize w6.setCell ⟨Q, v, none⟩ (.int .i64 (du + 1)) = X7 at *
            obtain ⟨s, r, hc⟩ := id ss7.out.2
            have ss8 := Lib.hid (ss7.out.push hbQ hwr (Nat.le_refl _) v (s + 1) r)
            have hw8 := Lib.hid (own_chan hw7.out k ((icells ((zs L).drop (j + 1))).toArray.push (.int .i64 v)) false (s + 1) r false)
            refine wpn_region ?_
            show OpsN _ _ [0, 1, 2] _ _ _
            refine opsN_value (v := .chan (some C)) (w' := X7) rfl rfl (by simp [execOp, Act.eval]) ?_
            refine opsN_value (v := .int .i64 v) (w' := X7) rfl rfl (by simp [execOp, Act.eval, Act.put]) ?_
            refine opsN_send (c := C) (cap := k) (buf := (icells ((zs L).drop (j + 1))).toArray) (s := s) (r := r) (tm := false) (v := .int .i64 v) (z' := .tuple #[]) (w₁ := X7) rfl rfl (by simp [execOp, scase, Act.eval, Act.put]) hc (by simp [icells, zs]; omega) ?_
            refine opsN_end ?_
            generalize X7.setChan C k ((icells ((zs L).drop (j + 1))).toArray.push (.int .i64 v)) false (s + 1) r false = X8 at *
            clear hc ss7 hw7
            have hTS : TS W W.heap.size x y z Q C k a j u (.slice (some ⟨g, 0, none⟩) nw cv) nw (n' - 1) (.int .i64 ((i : Int) + 1)) X8 :=
              ⟨_, L ++ [v], dn + 1, i + 1, by omega, by omega, by go_num, hd5, at_left hu.out, by rw [zs_drop_snoc (by omega)]; exact ss8.out, hw8.out, HI2.out⟩
            have HTS := Lib.hid hTS
            clear hTS ss8 hw8 HI2
            go_wp2_with fail
            refine wpn_of ?_
            go_wp2_with fail
            exact ⟨n' - 1, by omega, _, _, _, _, _, _, _, _, _, _, _, _, _, _, _, _, _, _, _, _, _, _, _, _, _, _, rfl, HTS.out⟩
          · have HI2 := Lib.hid (inv_seen hi2.out hu.out hv (by omega))
            have hd' : decide (D.getD v (-1) < 0) = false := by simpa using hd0
            have hTS : TS W W.heap.size x y z Q C k a j u (.slice (some ⟨g, 0, none⟩) nw cv) nw (n' - 1) (.int .i64 ((i : Int) + 1)) w6 :=
              ⟨_, L, dn + 1, i + 1, by omega, by omega, by go_num, hd5, hu.out, ss6.out, hw6.out, HI2.out⟩
            have HTS := Lib.hid hTS
            clear hTS HI2
            generalize D.getD v (-1) = dv at *
            generalize D.getD u (-1) = du at *
            clear hd0
            refine wpn_seq_k fun K hK => ?_
            go_wp2_with fail
            refine wpn_false rfl ?_
            refine wpn_of ?_
            go_wp2_with fail
            refine wpn_of ?_
            go_wp2_with fail
            exact ⟨n' - 1, by omega, _, _, _, _, _, _, _, _, _, _, _, _, _, _, _, _, _, _, _, _, _, _, _, _, _, _, rfl, HTS.out⟩
        · have hi3 := Lib.hid (inv_next (inv_skip hi.out hu.out 4 hq4 fun q' b1 b2 => ways_end (by omega) q' b1 b2) hu.out)
          have hi1' : decide ((i : Int) < (nw : Int)) = false := by simp; omega
          refine wpn_seq_k fun K hK => ?_
          go_wp2_with fail
          refine wpn_seq_k fun K hK => ?_
          go_wp2_with fail
          obtain ⟨s, r, hc⟩ := id hss.out.2
          have hlc := fun ty => len_chan (P := Try.prog) 64 ty Try.underlying64 hc
          by_cases hend : L.length ≤ j + 1
          · have hbz : ((icells ((zs L).drop (j + 1))).toArray).size = 0 := by simp [icells, zs]; omega
            rw [hbz] at hlc
            have ss9 := Lib.hid (hss.out.close hbQ hwr (Nat.le_refl _) s r)
            have hcl := fun ats ty => run_close_open (P := Try.prog) (w := wr) ats ty hc
            change ∀ (ats : Array TypeId) (ty : TypeId), _ = Result.ok _ (wr.setChan C k (icells ((zs L).drop (j + 1))).toArray true s r false) at hcl
            have HN := Lib.hid (hs_next hnj' hjl (by symm; simpa using hend) ss9.out hi3.out)
            generalize wr.setChan C k (icells ((zs L).drop (j + 1))).toArray true s r false = X9 at *
            clear ss9 hss hi hu hw hi3
            refine wpn_seq_k fun K hK => ?_
            go_wp2_with fail
            refine wpn_of ?_
            go_wp2_with fail
            obtain ⟨m, hm, hrel⟩ := HN.out
            exact ⟨m, hm, _, _, _, _, _, _, _, _, _, _, _, _, _, _, _, _, _, _, _, _, _, _, _, _, _, _, _, _, _, _, _, _, _, _, _, _, _, _, rfl, hrel⟩
          · obtain ⟨m, hm⟩ : ∃ m : Nat, ((icells ((zs L).drop (j + 1))).toArray).size = m + 1 := ⟨L.length - (j + 1) - 1, by simp [icells, zs]; omega⟩
            rw [hm] at hlc
            have hm0 : (((m + 1 : Nat) : Int) == 0) = false := by simp; omega
            have HN := Lib.hid (hs_next hnj' hjl (by symm; simpa using hend) hss.out hi3.out)
            clear hss hi hu hw hi3
            refine wpn_seq_k fun K hK => ?_
            go_wp2_with fail
            refine wpn_of ?_
            go_wp2_with fail
            obtain ⟨m, hm, hrel⟩ := HN.out
            exact ⟨m, hm, _, _, _, _, _, _, _, _, _, _, _, _, _, _, _, _, _, _, _, _, _, _, _, _, _, _, _, _, _, _, _, _, _, _, _, _, _, _, rfl, hrel⟩
      · have hcl : decide (L.length ≤ j) = true := by simp; omega
        have hD := HEnd.out D L j 0 hi.out (by omega)
        subst hD
        have hssb := hss.out
        have hl0 : (zs L).drop j = [] := List.drop_eq_nil_of_le (by rw [zs_len]; omega)
        rw [hcl, hl0] at hssb
        obtain ⟨s, r, hc⟩ := id hssb.2
        refine wpn_seq_n fun K hK => ?_
        refine wpn_region ?_
        show OpsN _ _ [0, 1] _ _ _
        refine opsN_shut (c := C) (cap := k) (s := s) (r := r) (tm := false) (z := .int .i64 0) (w₁ := wr) true rfl rfl (by simp [go_sem, rcase]) hc ?_
        refine opsN_value (v := .bool false) (w' := wr) rfl rfl (by simp [go_sem, execOp, Act.eval, Act.put, got]) ?_
        refine opsN_end ?_
        simp only [got, if_true]
        go_wp2_with fail
        refine wpn_seq_k fun K hK => ?_
        go_wp2_with fail
        refine wpn_of ?_
        go_wp2_with fail
        go_ret
        exact HK.out _ _ _ _ (by rw [dl_len]) hssb.1.2.2 (by omega) hssb.1.1
end Go.Proofs.Ytomjfcmaoeoigaa.reachV
