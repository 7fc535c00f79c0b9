/- The contracts of the model's choice and of its growing. -/
import Derived.Test.YthakbjdkcdppjaaGrwO
import Derived.Test.YthakbjdkcdppjaaModM
import Derived.Test.YthakbjdkcdppjaaGrwQ
namespace Go.Proofs.Ythakbjdkcdppjaa.grwM
open Go.ChangeShapes Go.WideShapes Go.ChangeAt Go.RowKit
open draw gridP gridC gridE bitP mazeP mazeC mazeM mazeR mazeS intsP boolP reachP reachM reachN reachD forest intA listK wayP ersP ersO entO grwP grwQ grwO
set_option linter.unusedVariables false

/-- A choice. -/
theorem choice_any (A : Option Addr) (n c k : Nat) (cs : List Int) (W : World) (hn : cs.length = n) (hm : n ≤ 1048576) (hi : IntsIn W W.heap.size A cs) :
    Calls Try.prog 38 #[.slice A n c, .int .i64 (k : Int)] W fun e w' => e = .returned (.int .i64 (chZ cs k)) ∧ W = w' := by
  by_cases hk : k < n
  · obtain ⟨u, hu⟩ : ∃ u, cs[k]? = some u := ⟨cs[k]'(by omega), List.getElem?_eq_getElem _⟩
    obtain ⟨ad, rfl, hab, hcell⟩ := ints_cell hi hu
    rw [ch_in hu]
    have hk0 : (0 : Int) ≤ (k : Int) := Int.natCast_nonneg _
    have hk1 : (k : Int) < (n : Int) := by omega
    clear hi hn hu
    by_cases h0 : u ≤ 0
    · have e : max 0 u = 0 := by omega
      rw [e]
      go_enter Try.func38, Try.ntmps38
      go_wp2_with fail
      go_ret
      exact ⟨rfl, rfl⟩
    · have e : max 0 u = u := by omega
      rw [e]
      go_enter Try.func38, Try.ntmps38
      go_wp2_with fail
      go_ret
      exact ⟨rfl, rfl⟩
  · rw [ch_out (show cs.length ≤ k by omega)]
    have hk1 : (n : Int) ≤ (k : Int) := by omega
    clear hi hn
    go_enter Try.func38, Try.ntmps38
    go_wp2_with fail
    go_ret
    exact ⟨rfl, rfl⟩

set_option maxRecDepth 100000 in
set_option maxHeartbeats 4000000 in
theorem grow_any (x y : Int) (A : Option Addr) (n c : Nat) (cs : List Int) (W : World) (hn : cs.length = n) (hm : n ≤ 1048576) (hi : IntsIn W W.heap.size A cs) :
    Calls Try.prog 13 #[.agg #[.int .i64 x, .int .i64 y], .slice A n c] W (Mz (fmX x y) (fmY x y) (gmO x y cs) W) := by
  obtain ⟨i0, hi0, hz0, hz1, hz2⟩ := info_parts info_int
  obtain ⟨i1, hi1, hy0, hy1, hy2⟩ := info_parts info_bool
  have HW := Lib.hid (fun T1 T2 => @gw_new W x y A cs hi T1 T2)
  have HCh := Lib.hid (fun k X h => choice_any A n c k cs X hn hm h)
  clear hi hn
  by_cases hk : 1 ≤ x ∧ x ≤ 4 ∧ 1 ≤ y ∧ y ≤ 4
  · have HG : Hid (∀ X, Calls Try.prog 34 #[.agg #[.int .i64 x, .int .i64 y]] X (Bl true X)) := Lib.hid fun X => gridS.gridOk_yes x y X hk.1 hk.2.1 hk.2.2.1 hk.2.2.2
    have HC := Lib.hid (fun X => gridS.countCells_yes x y X hk.1 hk.2.1 hk.2.2.1 hk.2.2.2)
    have HGp : Hid (∀ X, Calls Try.prog 36 #[.agg #[.int .i64 x, .int .i64 y]] X (Nm ((gN x y : Nat) : Int) X)) := Lib.hid fun X => by
      have := gridS.countGaps_yes x y X hk.1 hk.2.1 hk.2.2.1 hk.2.2.2
      have e : (x - 1) * y + x * (y - 1) = ((gN x y : Nat) : Int) := by
        have := gps_bd hk.1 hk.2.1 hk.2.2.1 hk.2.2.2
        unfold gN; rw [Int.toNat_of_nonneg this.1]; rfl
      rwa [e] at this
    have HEn : Hid (∀ g : Nat, g < gN x y → (∀ X, Calls Try.prog 37 #[.agg #[.int .i64 x, .int .i64 y], .int .i64 (g : Int)] X (Nm2 ((aN x y g : Nat) : Int) ((bN x y g : Nat) : Int) X)) ∧ aN x y g < cN x y ∧ bN x y g < cN x y) := Lib.hid fun g hg => by
      obtain ⟨l1, l2, l3, l4⟩ := ends_lt hk hg
      refine ⟨fun X => ?_, by omega, l2⟩
      have := gridS.endsOf_in x y g X hk.1 hk.2.1 hk.2.2.1 hk.2.2.2 (by omega) (by unfold gN at hg; show (g : Int) < gpsZ x y; omega)
      rwa [l3, l4] at this
    have HSg := Lib.hid (fun z g X => setGap_any x y z g true X)
    obtain ⟨n1, n2, n3⟩ := nn2 hk
    rw [n1] at HC
    have hG24 : gN x y ≤ 24 := by have := gps_bd hk.1 hk.2.1 hk.2.2.1 hk.2.2.2; unfold gN; omega
    have HE : Hid (Mz x y (grS x y cs (cN x y - 1)).2 W = Mz (fmX x y) (fmY x y) (gmO x y cs) W) := Lib.hid (by
      unfold gmO fmX fmY; rw [if_pos hk, if_pos hk, if_pos hk])
    have HPos : Hid (∀ j, j + 1 < cN x y → 0 < (crL x y (grS x y cs j).1).length ∧ ∃ g : Nat, pkZ (crL x y (grS x y cs j).1) (chZ cs j) = (g : Int) ∧ g < gN x y) := Lib.hid fun j hj => gr_pos hk cs hj
    have HLen := Lib.hid (fun k => gr_len x y cs k)
    have HSt : Hid (∀ j, grS x y cs (j + 1) = (enL x y (grS x y cs j).1 (pkZ (crL x y (grS x y cs j).1) (chZ cs j)), sgZ x y (grS x y cs j).2 (pkZ (crL x y (grS x y cs j).1) (chZ cs j)) true)) := Lib.hid fun j => rfl
    have HIn : Hid ((grS x y cs 0).1 = (List.replicate (cN x y) false).set 0 true ∧ (grS x y cs 0).2 = 0) := Lib.hid ⟨rfl, rfl⟩
    rw [← HE.out]
    have hmk := fun X => run_make (P := Try.prog) X 63 4 i1 (.bool false) Try.underlying63 hi1 hy0 .i64 .i64 ((cN x y : Nat) : Int) ((cN x y : Nat) : Int) (by omega) (by omega) (by rw [hy2]; omega) (by omega)
    simp only [hy1, Int.toNat_natCast, Nat.mul_one] at hmk
    clear hk n1 HE
    generalize hN : cN x y = N at *
    have HN := Lib.hid hN
    clear hN
    have hN1 : (1 : Int) ≤ (N : Int) := by omega
    go_enter Try.func13, Try.ntmps13
    go_wp2_with fail
    have hgw0 := Lib.hid (HW.out 25 30)
    refine (HG.out _).mono ?_
    rintro e w1 ⟨rfl, hb⟩
    have hgw1 := Lib.hid (hgw0.out.call hb)
    have hgw2 := Lib.hid (fun T => hgw1.out.call (below_box w1 (.cells #[.int .i64 x, .int .i64 y, .int .i64 0] T)))
    have hM2 := Lib.hid (fun T => row3_new x y 0 w1 T)
    have hMz := hgw1.out.size
    clear hb HW hgw0 HG
    obtain ⟨⟨b0, b1⟩, -⟩ := hgw1.out.2.1
    obtain ⟨⟨d0, d1⟩, -⟩ := (hgw2.out 30).2.1
    go_wp2_with fail
    have hgw := Lib.hid (hgw2.out 30)
    have hM := Lib.hid (hM2.out 30)
    clear hgw1 hgw2 hM2 b0 b1 d0 d1
    generalize w1.alloc (.cells #[.int .i64 x, .int .i64 y, .int .i64 0] 30) = w2 at *
    generalize w1.heap.size = M at *
    refine (HC.out _).mono ?_
    rintro e w3 ⟨rfl, hb⟩
    have hgw3 := Lib.hid (hgw.out.call hb)
    have hM3 := Lib.hid (Row3.call hM.out hb)
    clear hb hgw hM HC
    obtain ⟨⟨b0, b1⟩, -⟩ := hgw3.out.2.1
    have hmc : (madeCells #[Value.bool false] N)[0]? = some (.bool false) := by
      rw [← Array.getElem?_toList]
      show (madeCells (Value.bool false).cells N).toList[0]? = _
      rw [made_false, bcells_at _ 0 (by simp; omega)]; simp
    have hgv1 := Lib.hid ((gv_new hgw3.out hM3.out hMz (N := N) (by unfold maxLen; omega)).mark 0)
    have hwd : w3.alloc (.cells ((madeCells #[.bool false] N).setIfInBounds 0 (.bool true)) 4) = (w3.alloc (.cells (madeCells (Value.bool false).cells N) 4)).setCell ⟨w3.heap.size, 0, none⟩ (.bool true) := by
      go_simp
    rw [← hwd] at hgv1
    clear hwd hgw3 hM3 hMz
    go_wp2_with fail
    generalize w3.alloc (.cells ((madeCells #[.bool false] N).setIfInBounds 0 (.bool true)) 4) = w4 at *
    generalize w3.heap.size = J at *
    go_loopw [7] (fun u7 wr => ∃ j : Nat, j + 1 ≤ N ∧ u7 = .int .i64 ((j : Int) + 1) ∧ GV W x y A cs M J N (grS x y cs j).1 (grS x y cs j).2 wr) (fun u7 _ => N + 1 - (intOf u7).toNat)
    case atStart => exact ⟨0, by omega, rfl, by rw [HIn.out.1, HIn.out.2]; exact hgv1.out⟩
    case round =>
      clear hgv1 b0 b1 hmc
      obtain ⟨j, hj, rfl, hgv0⟩ := hrel
      have hgv := Lib.hid hgv0
      clear hgv0
      have hj0 : (0 : Int) ≤ (j : Int) := Int.natCast_nonneg _
      by_cases hjN : j + 1 < N
      · have hi1 : (j : Int) + 1 < (N : Int) := by omega
        obtain ⟨hpos, g, hg, hgG⟩ := HPos.out j hjN
        have HNx := Lib.hid (HSt.out j)
        rw [hg] at HNx
        have HPk := Lib.hid (pk_at (c := chZ cs j) hpos)
        rw [hg] at HPk
        have hpk := pk_lt (c := chZ cs j) hpos
        have hcr := crK_len x y (grS x y cs j).1 (gN x y)
        have hcg := ch_ge cs j
        have hrem : (chZ cs j).tmod ((crL x y (grS x y cs j).1).length : Int) = ((pkN (crL x y (grS x y cs j).1) (chZ cs j) : Nat) : Int) := by
          rw [IntWalk.rem_in _ _ (by omega)]
          unfold pkN
          rw [Int.toNat_of_nonneg (Int.emod_nonneg _ (by omega))]
        have HC1 := Lib.hid (HCh.out j)
        obtain ⟨hen, ha, hb'⟩ := HEn.out g hgG
        have HEg := Lib.hid hen
        have HAB := Lib.hid (show (eaZ x y (g : Int)).toNat = aN x y g ∧ (ebZ x y (g : Int)).toNat = bN x y g from ⟨rfl, rfl⟩)
        have hgs : Hid (∀ I, enL x y I (g : Int) = (I.set (aN x y g) true).set (bN x y g) true) := Lib.hid fun I => rfl
        clear hg hen HCh
        generalize hIo : grS x y cs j = s at *
        obtain ⟨I, o⟩ := s
        have HIo := Lib.hid hIo
        clear hIo
        simp only at hpos hpk hcr hrem
        change Hid ((crL x y I)[pkN (crL x y I) (chZ cs j)]? = some (g : Int)) at HPk
        change Hid (grS x y cs (j + 1) = (enL x y I (g : Int), sgZ x y o (g : Int) true)) at HNx
        change Hid (GV W x y A cs M J N I o wr) at hgv
        generalize pkN (crL x y I) (chZ cs j) = pk at *
        generalize chZ cs j = cv at *
        have HSg1 := Lib.hid (fun X => HSg.out o g X)
        have hgva := Lib.hid (hgv.out.call (below_box wr (.cells #[] 3)))
        have hola : Hid (OL W (J + 1) (crK x y I 0) (.slice (some ⟨wr.heap.size, 0, none⟩) 0 0) (wr.alloc (.cells #[] 3))) := Lib.hid (ol_low (ol_new hgv.out.1.1 hgv.out.1.1.size) (by have := hgv.out.2.2.2.2; omega) hgv.out.lt)
        have hN2 : Hid (W.heap.size + 1 < M ∧ M < J) := Lib.hid hgv.out.2.2.2.2
        clear hgv
        go_wp2_with fail
        generalize hG : gN x y = G at *
        go_loopw [8, 9] (fun u8 u9 wq => ∃ i : Nat, i ≤ G ∧ u9 = .int .i64 (i : Int) ∧ OL W (J + 1) (crK x y I i) u8 wq ∧ GV W x y A cs M J N I o wq) (fun _ u9 _ => G - (intOf u9).toNat)
        case atStart => exact ⟨0, Nat.zero_le _, rfl, hola.out, hgva.out⟩
        case round =>
          clear hola hgva
          obtain ⟨i, hi, rfl, hol0, hgv0⟩ := hrel
          have hol := Lib.hid hol0
          have hgv := Lib.hid hgv0
          obtain ⟨A8, c8, rfl⟩ := hol0.form
          obtain ⟨⟨b0, b1⟩, -⟩ := hgv0.1.2.1
          have hk0 : (0 : Int) ≤ (i : Int) := Int.natCast_nonneg _
          clear hol0 hgv0
          by_cases hiG : i < G
          · have hi2 : (i : Int) < (G : Int) := by omega
            obtain ⟨hei, hai, hbi⟩ := HEn.out i (by omega)
            have HEi := Lib.hid hei
            have hll := crK_len x y I i
            have HY := Lib.hid (@crK_yes x y I i)
            have HNo := Lib.hid (@crK_no x y I i)
            have hcb : crB x y I i = (I.getD (aN x y i) false != I.getD (bN x y i) false) := rfl
            rw [hcb] at HY HNo
            clear hei hcb
            generalize hai' : aN x y i = a at *
            generalize hbi' : bN x y i = b at *
            clear hai' hbi'
            generalize hva : I.getD a false = va at *
            generalize hvb : I.getD b false = vb at *
            have Hva := Lib.hid hva
            have Hvb := Lib.hid hvb
            clear hva hvb
            generalize crK x y I i = L at *
            have ha1 : (a : Int) < (N : Int) := by omega
            have hb1 : (b : Int) < (N : Int) := by omega
            have ha0 : (0 : Int) ≤ (a : Int) := Int.natCast_nonneg _
            have hb0 : (0 : Int) ≤ (b : Int) := Int.natCast_nonneg _
            cases hbv : (va != vb) with
            | true =>
              have HYe := Lib.hid (HY.out hbv)
              clear HY HNo
              rcases (show (va = true ∧ vb = false) ∨ (va = false ∧ vb = true) by revert hbv; cases va <;> cases vb <;> simp) with ⟨rfl, rfl⟩ | ⟨rfl, rfl⟩ <;> (
                go_wp2_with fail
                refine (HGp.out _).mono ?_
                rintro e w5 ⟨rfl, hb⟩
                have hol5 := Lib.hid (hol.out.call hb)
                have hgv5 := Lib.hid (hgv.out.call hb)
                clear hb hol hgv b0 b1
                obtain ⟨⟨b0, b1⟩, -⟩ := hgv5.out.1.2.1
                go_wp2_with fail
                refine (HEi.out _).mono ?_
                rintro e w6 ⟨rfl, hb⟩
                have hol6 := Lib.hid (hol5.out.call hb)
                have hgv6 := Lib.hid (hgv5.out.call hb)
                clear hb hol5 hgv5 b0 b1
                obtain ⟨q1, -⟩ := hgv6.out.cell (j := a) (by omega)
                obtain ⟨q2, -⟩ := hgv6.out.cell (j := b) (by omega)
                rw [Hva.out] at q1
                rw [Hvb.out] at q2
                go_wp2_with fail
                go_quiet (fail)
                have hsz6 := hol6.out.2.2.1
                have hol7 := Lib.hid (hol6.out.drs nq)
                have hgv7 := Lib.hid (hgv6.out.drs nq)
                have hsz := hol7.out.2.2.1
                go_wp2_with (at_builtin; refine wpList_append_lies _ rfl (.tmp 54) (.tmp 56) 26 rfl (J + 1) 3 i0 _ 1 8 Try.underlying26 hi0 hz0 hz1 hz2 rfl (by omega) _ (L.length) _ rfl (hol7.out.2.2.2.alloc _) ⟨(w6.drewN nq).heap.size, 0, none⟩ 1 1 (icells [i]) rfl rfl (news_eqI rfl (heap_alloc_new (w6.drewN nq) _)) (oneCellI _) (by omega) (by unfold maxLen; omega) (by omega) (by simp; omega) ((w6.drewN nq).heap.size + 1) (by simp) ?_; intro gg cap w3 hown' hgrow hat hlt2; clear hlt2; have HAt := Lib.hid hat; clear hat)
                have hn2 := hol7.out.app hown' hgrow
                have HN1 := Lib.hid hn2.1
                have HN2 := Lib.hid (GV.low hgv7.out hn2.2 (by omega))
                go_roundw
                case rel => exact ⟨i + 1, by omega, by go_num, by rw [HYe.out]; exact HN1.out, HN2.out⟩
                case measure => (try simp [intOf]); omega)
            | false =>
              have HNe := Lib.hid (HNo.out hbv)
              clear HY HNo
              obtain rfl : va = vb := by revert hbv; cases va <;> cases vb <;> simp
              cases va <;> (
                go_wp2_with fail
                refine (HGp.out _).mono ?_
                rintro e w5 ⟨rfl, hb⟩
                have hol5 := Lib.hid (hol.out.call hb)
                have hgv5 := Lib.hid (hgv.out.call hb)
                clear hb hol hgv b0 b1
                obtain ⟨⟨b0, b1⟩, -⟩ := hgv5.out.1.2.1
                go_wp2_with fail
                refine (HEi.out _).mono ?_
                rintro e w6 ⟨rfl, hb⟩
                have hol6 := Lib.hid (hol5.out.call hb)
                have hgv6 := Lib.hid (hgv5.out.call hb)
                clear hb hol5 hgv5 b0 b1
                obtain ⟨q1, -⟩ := hgv6.out.cell (j := a) (by omega)
                obtain ⟨q2, -⟩ := hgv6.out.cell (j := b) (by omega)
                rw [Hva.out] at q1
                rw [Hvb.out] at q2
                go_wp2_with fail
                go_quiet (fail)
                go_wp2_with fail
                go_roundw
                case rel => exact ⟨i + 1, by omega, by go_num, by rw [HNe.out]; exact hol6.out.drs _, hgv6.out.drs _⟩
                case measure => (try simp [intOf]); omega)
          · obtain rfl : i = G := by omega
            have hcl : crK x y I i = crL x y I := by unfold crL; rw [hG]
            rw [hcl] at hol ⊢
            clear hcl
            generalize crL x y I = L at *
            go_wp2_with fail
            refine (HGp.out _).mono ?_
            rintro e w5 ⟨rfl, hb⟩
            have hol5 := Lib.hid (hol.out.call hb)
            have hgv5 := Lib.hid (hgv.out.call hb)
            clear hb hol hgv b0 b1
            obtain ⟨q, cq, hqe, hq1, hq2⟩ := own_some hol5.out.2.2.2 (by omega)
            cases hqe
            have hcd := own_cellI hol5.out.2.2.2 HPk.out
            have hw1 : IntKind.i64.wrap (j : Int) = (j : Int) := IntWalk.i64_in _ (by omega)
            have hL0 : ¬ (L.length : Int) = 0 := by omega
            have hp0 : (0 : Int) ≤ (pk : Int) := Int.natCast_nonneg _
            have hp1 : (pk : Int) < (L.length : Int) := by omega
            generalize hLn : L.length = ln at *
            go_wp2_with fail
            refine (HC1.out _ (hgv5.out.1.2.2.2.more hgv5.out.1.1.size)).mono ?_
            rintro e w6 ⟨rfl, rfl⟩
            obtain ⟨⟨b0, b1⟩, -⟩ := hgv5.out.1.2.1
            go_wp2_with fail
            refine (HEg.out _).mono ?_
            rintro e w6 ⟨rfl, hb⟩
            have hgv6 := Lib.hid (hgv5.out.call hb)
            clear hb hol5 hgv5 b0 b1 hcd hq1 hq2
            obtain ⟨q1, q2⟩ := hgv6.out.cell (j := aN x y g) (by omega)
            have hgv7 := Lib.hid (hgv6.out.mark (aN x y g))
            obtain ⟨q3, q4⟩ := hgv7.out.cell (j := bN x y g) (by omega)
            have hgv8 := Lib.hid (hgv7.out.mark (bN x y g))
            have ha1 : ((aN x y g : Nat) : Int) < (N : Int) := by omega
            have hb1 : ((bN x y g : Nat) : Int) < (N : Int) := by omega
            obtain ⟨⟨m0, m1, m2⟩, -⟩ := row3_cells hgv8.out.2.1
            rw [← hgs.out] at hgv8
            clear hgv6 hgv7
            generalize aN x y g = a at *
            generalize bN x y g = b at *
            go_wp2_with fail
            refine (HSg1.out _).mono ?_
            rintro e w9 ⟨rfl, hb⟩
            have hgv9 := Lib.hid (hgv8.out.call hb)
            clear hb hgv8 m0 m1 m2 q1 q2 q3 q4
            obtain ⟨⟨m0, m1, m2⟩, f0, f1, f2⟩ := row3_cells hgv9.out.2.1
            have hgvA := Lib.hid (hgv9.out.put (sgZ x y o (g : Int) true))
            generalize sgZ x y o (g : Int) true = o2 at *
            go_wp2_with fail
            go_roundw
            case rel => exact ⟨j + 1, by omega, by go_num, by rw [HNx.out]; exact hgvA.out⟩
            case measure => (try simp [intOf]); omega
      · obtain ⟨⟨m0, m1, m2⟩, -⟩ := row3_cells hgv.out.2.1
        obtain ⟨⟨e0, e1, e2⟩, f0, f1, f2⟩ := row3_cells hgv.out.1.2.2.1
        obtain rfl : j = N - 1 := by omega
        have hjN' : ¬ ((N - 1 : Nat) : Int) + 1 < (N : Int) := by omega
        generalize (grS x y cs (N - 1)).2 = o at *
        go_wp2_with fail
        refine ret_set3 e0 e1 e2 fun Y g0 g1 g2 hY => ?_
        refine bodyPost_ret (v := .agg #[.int .i64 x, .int .i64 y, .int .i64 o]) (by simp [results, Try.results13, go_sem, g0, g1, g2]) rfl ?_
        subst hY
        exact ⟨rfl, hgv.out.1.ending _ _ _⟩
  · have HG : Hid (∀ X, Calls Try.prog 34 #[.agg #[.int .i64 x, .int .i64 y]] X (Bl false X)) := Lib.hid fun X => gridS.gridOk_no x y X hk
    have HE : Hid (Mz 0 0 0 W = Mz (fmX x y) (fmY x y) (gmO x y cs) W) := Lib.hid (by
      unfold gmO fmX fmY; rw [if_neg hk, if_neg hk, if_neg hk])
    rw [← HE.out]
    clear hk HE
    go_enter Try.func13, Try.ntmps13
    go_wp2_with fail
    have hgw0 := Lib.hid (HW.out 25 30)
    refine (HG.out _).mono ?_
    rintro e w1 ⟨rfl, hb⟩
    have hgw1 := Lib.hid (hgw0.out.call hb)
    clear hb HW hgw0 HG
    obtain ⟨⟨e0, e1, e2⟩, f0, f1, f2⟩ := row3_cells hgw1.out.2.2.1
    go_wp2_with fail
    refine bodyPost_ret (v := .agg #[.int .i64 0, .int .i64 0, .int .i64 0]) (by simp [results, Try.results13, go_sem, e0, e1, e2]) rfl ?_
    exact ⟨rfl, hgw1.out.ending _ _ _⟩
end Go.Proofs.Ythakbjdkcdppjaa.grwM
