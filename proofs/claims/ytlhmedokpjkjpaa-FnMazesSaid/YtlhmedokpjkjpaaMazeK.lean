/- The law of mazes: the walk of its loops. -/
import Derived.Test.YtlhmedokpjkjpaaMazeG
import Derived.Test.YtlhmedokpjkjpaaMazeQ
import Derived.Test.YtlhmedokpjkjpaaMazeJ
import Derived.Test.YtlhmedokpjkjpaaMazeW
import Derived.Test.YtlhmedokpjkjpaaBigK
namespace Go.Proofs.Ytlhmedokpjkjpaa.fnMazes
open Go.ChangeShapes Go.WideShapes Go.ChangeAt Go.RowKit
open draw gridP gridC bitP mazeP mazeC mazeM mazeE mazeQ intsP bigK
set_option linter.unusedVariables false

/-- The law's answer. -/
def Yes (w : World) (e : Ending) (w' : World) : Prop := e = .returned (.bool true) ∧ Below w.heap.size w w'
theorem yes_mk {w w' : World} (h : Below w.heap.size w w') : Yes w (.returned (.bool true)) w' := ⟨rfl, h⟩

theorem own_after {w w' : World} {base n : Nat} {v : Value} {xs : List Value} (hb : Below w.heap.size w w') (h : w.ownsRow base 3 1 v n xs) : w'.ownsRow base 3 1 v n xs := own_call h hb
/-- At the head of the loop over the cells. -/
def OutRel (w : World) (b : Nat) (x y z : Int) (N : Nat) (u4 u5 : Value) (wr : World) : Prop := ∃ k : Nat, k ≤ N ∧ u5 = .int .i64 k ∧ u4 = .int .i64 ((cntM x y z k : Nat) : Int) ∧ Below w.heap.size w wr ∧ MBox b x y z wr
theorem out_next {w : World} {b N k : Nat} {x y z : Int} {wr : World} (hk : k < N) (hb : Below w.heap.size w wr) (hx : MBox b x y z wr) :
    OutRel w b x y z N (.int .i64 (((cntM x y z k : Nat) : Int) + ((wlZ x y z k).length : Int))) (.int .i64 ((k : Int) + 1)) wr :=
  ⟨k + 1, by omega, by go_num, by rw [cntM]; go_num, hb, hx⟩

set_option maxRecDepth 100000 in
set_option maxHeartbeats 4000000 in
theorem walk (A : Option Addr) (n c : Nat) (w : World) (hn : n ≤ maxLen) (hb : BytesIn w w.heap.size A n) :
    Calls Try.prog 3 #[.slice A n c] w (Yes w) := by
  have HK := @Lib.hid _ (fun w' h => @yes_mk w w' h)
  have HR := Lib.hid (Below.refl w.heap.size w)
  have HD := Lib.hid (drawMaze_any A n c w hn hb)
  have HY := Lib.hid hb
  have HN := Lib.hid hn
  unfold maxLen at hn
  clear hb
  by_cases hbig : 1048576 < n
  · go_enter Try.func3, Try.ntmps3
    go_wp2_with fail
    refine (big_yes A n c w HN.out hbig).mono ?_
    rintro e w' ⟨rfl, rfl⟩
    go_wp2_with fail
    go_ret
    exact HK.out _ HR.out
  · go_enter Try.func3, Try.ntmps3
    go_wp2_with fail
    refine (big_no A n c w HN.out (by omega)).mono ?_
    rintro e w' ⟨rfl, rfl⟩
    go_wp2_with fail
    refine HD.out.mono ?_
    rintro e w1 ⟨x, y, z, hv0, rfl, hb1⟩
    have hv := Lib.hid hv0
    obtain ⟨⟨h1, h2, h3, h4⟩, -, -⟩ := id hv0
    have hcc := (mul_bd x y h1 h2 h3 h4).1
    have hz1 := hb1.size
    have hbl0 := @Lib.hid _ (fun o => hb1.alloc hz1 o)
    have hx0 := @Lib.hid _ (fun T => mbox_new x y z w1 T)
    have HC : Hid (∀ X, Calls Try.prog 13 #[.agg #[.int .i64 x, .int .i64 y]] X (Nm (x * y) X)) := fun X => gridS.countCells_yes x y X h1 h2 h3 h4
    have HG : Hid (∀ X, Calls Try.prog 16 #[.agg #[.int .i64 x, .int .i64 y]] X (Nm (gpsZ x y) X)) := fun X => gridS.countGaps_yes x y X h1 h2 h3 h4
    have HGi : Hid (∀ X, Calls Try.prog 22 #[.agg #[.int .i64 x, .int .i64 y]] X (Nm (gpsZ x y) X)) := fun X => gridI.countGaps_yes x y X h1 h2 h3 h4
    have HW := Lib.hid (fun k X => mazeI.waysFrom_any x y z k X)
    obtain ⟨N, hN⟩ := Int.eq_ofNat_of_zero_le (show 0 ≤ x * y by omega)
    have htot : ((cntM x y z N : Nat) : Int) = 2 * cpZ x y z := by
      have := ways_twice hv0
      rwa [hN, Int.toNat_natCast] at this
    have HTot := Lib.hid htot
    rw [hN] at HC hcc
    clear hb1 hv0 HD HR htot hN h1 h2 h3 h4
    go_wp2_with fail
    go_loopw [4, 5] (fun u4 u5 wr => OutRel w w1.heap.size x y z N u4 u5 wr) (fun _ u5 _ => N - (intOf u5).toNat)
    case atStart => exact ⟨0, Nat.zero_le _, rfl, rfl, hbl0.out _, hx0.out _⟩
    case round =>
      obtain ⟨k, hk, rfl, rfl, hbl', hxm'⟩ := hrel
      have hbl10 := Lib.hid hbl'
      have hxm10 := Lib.hid hxm'
      obtain ⟨m0, m1, m2⟩ := hxm'.1
      have hcl := cntM_le x y z k
      clear hbl' hxm' hx0
      by_cases hkN : k < N
      · have HO := @Lib.hid _ (fun wr a b => @out_next w w1.heap.size N k x y z wr hkN a b)
        have hll := wlN_len x y z k 4
        have hmem := Lib.hid (wl_mem (w := x) (h := y) (o := z) (k := k) 4)
        change (wlZ x y z k).length ≤ 4 at hll
        change Hid (∀ d ∈ wlZ x y z k, _) at hmem
        have HWk := Lib.hid (HW.out k)
        generalize hL : wlZ x y z k = L at HO hll hmem HWk
        clear hL
        go_wp2_with fail
        refine (HC.out _).mono ?_
        rintro e w11 ⟨rfl, hb⟩
        have hbl11 := Lib.hid (below_call hbl10.out hb)
        have hxm11 := Lib.hid (hxm10.out.call hb)
        clear hb hbl10  hxm10 m0 m1 m2
        obtain ⟨m0, m1, m2⟩ := hxm11.out.1
        go_wp2_with fail
        refine (HWk.out _).mono ?_
        rintro e w3 ⟨v, rfl, ho, hb⟩
        have h02 := Lib.hid ho
        clear ho
        have hbl2 := Lib.hid (below_call hbl11.out hb)
        have hxm2 := Lib.hid (hxm11.out.call hb)
        clear hb hbl11 hxm11 m0 m1 m2
        obtain ⟨Av, cv, rfl⟩ := own_form h02.out
        go_wp2_with fail
        go_loopw [7] (fun u7 wq => ∃ i : Nat, i ≤ L.length ∧ u7 = .int .i64 i ∧ Below w.heap.size w wq ∧ MBox w1.heap.size x y z wq ∧ wq.ownsRow w11.heap.size 3 1 (.slice Av L.length cv) L.length (icells L)) (fun u7 _ => L.length - (intOf u7).toNat)
        case atStart => exact ⟨0, Nat.zero_le _, rfl, hbl2.out, hxm2.out, h02.out⟩
        case round =>
          obtain ⟨i, hi, rfl, hbl', hxm', ho'⟩ := hrel
          have hbl3 := Lib.hid hbl'
          have hxm3 := Lib.hid hxm'
          have h03 := Lib.hid ho'
          obtain ⟨m0, m1, m2⟩ := hxm'.1
          clear hbl' hxm' ho' hbl2 hxm2 h02
          by_cases hiL : i < L.length
          · obtain ⟨q, cq, ev, hq, -⟩ := own_some h03.out (by omega)
            injection ev with ev1 _ ev2
            subst ev1 ev2
            have hli := icells_at L i hiL
            have hd := hmem.out (L[i]) (List.getElem_mem hiL)
            generalize L[i] = d at hli hd
            have HLi := Lib.hid hli
            clear hli
            have hcell := (h03.out.cellAt i (by omega)).trans HLi.out
            obtain ⟨⟨d0, d4⟩, ds⟩ := hd
            have hback := step_back ds
            have hi0 : (0 : Int) ≤ (i : Int) := Int.natCast_nonneg _
            have hi1 : (i : Int) < (L.length : Int) := by omega
            have q1 : IntKind.i64.wrap (d + 2) = d + 2 := IntWalk.i64_in _ (by omega)
            have q2 : (d + 2).tmod 4 = (d + 2) % 4 := IntWalk.rem_in _ _ (by omega)
            have hne : (stZ x y z (stZ x y z k d) ((d + 2) % 4) != (k : Int)) = false := by rw [hback]; simp
            have hsp := Lib.hid (fun a b X => mazeI.step_any x y z a b X)
            clear ds hback
            go_wp2_with fail
            go_region_held3 (fun w' => w'.cell? ⟨w1.heap.size, 0, none⟩ = some (.int .i64 x) ∧ w'.cell? ⟨w1.heap.size, 1, none⟩ = some (.int .i64 y) ∧ w'.cell? ⟨w1.heap.size, 2, none⟩ = some (.int .i64 z) ∧ w'.cell? ⟨q, i, none⟩ = some (.int .i64 d)) (go_keep)
              (first | (go_at_call 15; have hpre := hxmA.out; refine (hsp.out _ _ _).mono ?_; rintro e w22 ⟨rfl, hb22⟩; have hxmB := Lib.hid (mbox_after hb22 hxmA.out); have h0B := Lib.hid (own_after hb22 h0A.out); obtain ⟨b0, b1, b2⟩ := hxmB.out.1; have hcB := (h0B.out.cellAt i (by omega)).trans HLi.out; clear hpre) | (go_at_call 15; refine (hsp.out _ _ _).mono ?_; rintro e w21 ⟨rfl, hb21⟩; have hxmA := Lib.hid (mbox_after hb21 hxm3.out); have h0A := Lib.hid (own_after hb21 h03.out); obtain ⟨a0, a1, a2⟩ := hxmA.out.1; have hcA := (h0A.out.cellAt i (by omega)).trans HLi.out))
            all_goals
              have hblA := below_call (below_dr hbl3.out) hb21
              have hblB := Lib.hid (below_call hblA hb22)
              clear hblA hb21 hb22
              go_wp2_with fail
              go_roundw
              case rel => exact ⟨i + 1, by omega, by go_num, hblB.out, hxmB.out, h0B.out⟩
              case measure => simp [intOf]; omega
          · go_wp2_with fail
            go_roundw
            case rel => exact HO.out _ hbl3.out hxm3.out
            case measure => simp [intOf]; omega
      · obtain rfl : k = N := by omega
        have htot := HTot.out
        rw [htot]
        have hgb : 0 ≤ gpsZ x y ∧ gpsZ x y ≤ 24 := by
          obtain ⟨⟨h1, h2, h3, h4⟩, -, -⟩ := id hv.out
          exact gps_bd h1 h2 h3 h4
        have hcp : 0 ≤ cpZ x y z ∧ cpZ x y z ≤ 24 := by
          unfold cpZ
          have := pcN_le z.toNat 24
          split <;> omega
        have HCp := Lib.hid (fun X => mazeI.countPassages_any x y z X)
        clear htot HTot hcl HW
        by_cases hG0 : gpsZ x y = 0
        · have hz0 : cpZ x y z = 0 := by
            obtain ⟨-, z0, zt⟩ := id hv.out
            unfold topZ at zt
            rw [hG0] at zt
            have : z = 0 := by simp at zt; omega
            subst this
            unfold cpZ
            split
            · decide
            · rfl
          rw [hz0] at HCp ⊢
          rw [hG0] at HG
          clear hG0 hz0 hgb hcp
          have hkk : ((k : Int) < (k : Int)) = False := by simp
          go_wp2_with fail
          refine (HC.out _).mono ?_
          rintro e w11 ⟨rfl, hb⟩
          have hbl11 := Lib.hid (below_call hbl10.out hb)
          have hxm11 := Lib.hid (hxm10.out.call hb)
          clear hb hbl10  hxm10 m0 m1 m2
          obtain ⟨m0, m1, m2⟩ := hxm11.out.1
          go_wp2_with fail
          refine (HG.out _).mono ?_
          rintro e w12 ⟨rfl, hb⟩
          have hbl12 := Lib.hid (below_call hbl11.out hb)
          have hxm12 := Lib.hid (hxm11.out.call hb)
          clear hb hbl11  hxm11 m0 m1 m2
          obtain ⟨m0, m1, m2⟩ := hxm12.out.1
          go_wp2_with fail
          refine (HCp.out _).mono ?_
          rintro e w13 ⟨rfl, hb⟩
          have hbl13 := Lib.hid (below_call hbl12.out hb)
          have hxm13 := Lib.hid (hxm12.out.call hb)
          clear hb hbl12  hxm12 m0 m1 m2
          obtain ⟨m0, m1, m2⟩ := hxm13.out.1
          go_wp2_with fail
          go_ret
          exact HK.out _ hbl13.out
        · have hG1 : 1 ≤ gpsZ x y := by omega
          have hGz : (gpsZ x y == 0) = false := by simpa using hG0
          have HSG := Lib.hid (fun o t b X => mazeI.setGap_any x y o t b X)
          have HIP := Lib.hid (fun o t X => mazeI.isPassage_any x y o t X)
          have HFl := @Lib.hid _ (fun t a b => @flip x y z t hv.out a b)
          have HFu := Lib.hid (full_count hv.out.1.1 hv.out.1.2.1 hv.out.1.2.2.1 hv.out.1.2.2.2)
          have HFm := Lib.hid (fun X => mazeI.fullMaze_yes x y X hv.out.1.1 hv.out.1.2.1 hv.out.1.2.2.1 hv.out.1.2.2.2)
          clear hG0
          generalize hGd : gpsZ x y = G at *
          clear hGd
          have hGn : G ≠ 0 := by omega
          have hGf : (G = 0) = False := by simpa using hGn
          go_wp2_with fail
          refine (HC.out _).mono ?_
          rintro e w11 ⟨rfl, hb⟩
          have hbl11 := Lib.hid (below_call hbl10.out hb)
          have hxm11 := Lib.hid (hxm10.out.call hb)
          clear hb hbl10  hxm10 m0 m1 m2
          obtain ⟨m0, m1, m2⟩ := hxm11.out.1
          go_wp2_with fail
          refine (HG.out _).mono ?_
          rintro e w12 ⟨rfl, hb⟩
          have hbl12 := Lib.hid (below_call hbl11.out hb)
          have hxm12 := Lib.hid (hxm11.out.call hb)
          clear hb hbl11  hxm11 m0 m1 m2
          obtain ⟨m0, m1, m2⟩ := hxm12.out.1
          go_wp2_with fail
          go_region_held3 (fun w' => w'.cell? ⟨w1.heap.size, 0, none⟩ = some (.int .i64 x) ∧ w'.cell? ⟨w1.heap.size, 1, none⟩ = some (.int .i64 y) ∧ w'.cell? ⟨w1.heap.size, 2, none⟩ = some (.int .i64 z)) (go_keep)
            (first | (go_at_call 18; refine (at_any A n c 0 _ w.heap.size HN.out (HY.out.keep fun p hp => (below_dr hbl12.out).cell hp) (by omega) (by omega)).mono ?_; rintro e w' ⟨a, ha, rfl, rfl⟩) | (go_at_call 16; refine (HG.out _).mono ?_; rintro e w13 ⟨rfl, hb13⟩; have hxm13 := Lib.hid (mbox_after hb13 hxm12.out); obtain ⟨e0, e1, e2⟩ := hxm13.out.1))
          obtain ⟨t, ht⟩ : ∃ t : Int, (a : Int).tmod G = t := ⟨_, rfl⟩
          have t0 : 0 ≤ t := by rw [← ht, IntWalk.rem_in _ _ (by omega)]; exact Int.emod_nonneg _ hGn
          have t1 : t < G := by rw [← ht, IntWalk.rem_in _ _ (by omega)]; exact Int.emod_lt_of_pos _ (by omega)
          rw [ht]
          obtain ⟨fv, fp, fz, fne, fs, fs'⟩ := HFl.out t t0 t1
          have H1 := Lib.hid (HIP.out z t)
          have H2 := Lib.hid (HSG.out z t (!psB x y z t))
          have H3 := Lib.hid (HSG.out (sgZ x y z t (!psB x y z t)) t (psB x y z t))
          have H4 := Lib.hid (HIP.out (sgZ x y z t (!psB x y z t)) t)
          rw [fs] at H2
          rw [fz, fs'] at H3
          rw [fp] at H4
          have hbl13 := Lib.hid (below_call (below_dr hbl12.out) hb13)
          have hfc : cpZ x y (topZ x y) = G := HFu.out
          have HFM : Hid (∀ X, Calls Try.prog 21 #[.agg #[.int .i64 x, .int .i64 y]] X (Mz x y (topZ x y) X)) := fun X => HFm.out X
          have HCa := Lib.hid (fun o X => mazeI.countPassages_any x y o X)
          clear fp fz fs fs' fv ht HFl HSG HIP HCp HFu hb13 e0 e1 e2 HFm
          generalize sgZ x y z t (!psB x y z t) = zo at *
          generalize psB x y z t = β at *
          generalize topZ x y = T at *
          obtain ⟨m0, m1, m2⟩ := hxm13.out.1
          go_wp2_with fail
          refine (H1.out _).mono ?_
          rintro e w14 ⟨rfl, hb⟩
          have hbl14 := Lib.hid (below_call hbl13.out hb)
          have hxm14 := Lib.hid (hxm13.out.call hb)
          clear hb hbl13  hxm13 m0 m1 m2
          obtain ⟨m0, m1, m2⟩ := hxm14.out.1
          go_wp2_with fail
          refine (H2.out _).mono ?_
          rintro e w15 ⟨rfl, hb⟩
          have hbl15 := Lib.hid (below_call hbl14.out hb)
          have hxm15 := Lib.hid (hxm14.out.call hb)
          clear hb hbl14  hxm14 m0 m1 m2
          obtain ⟨m0, m1, m2⟩ := hxm15.out.1
          have hz15 := hxm15.out.2
          go_wp2_with fail
          refine (H3.out _).mono ?_
          rintro e w16 ⟨rfl, hb⟩
          have hbl16 := Lib.hid (below_call (below_call hbl15.out (below_box _ _)) hb)
          have hxm16 := Lib.hid ((hxm15.out.call (below_box _ _)).call hb)
          have hxx16 := Lib.hid ((mbox_new x y zo w15 _).call hb)
          clear hb hbl15 hxm15 m0 m1 m2
          have hM0 := Lib.hid (hxm16.out.call (below_box w16 (.cells #[.int .i64 x, .int .i64 y, .int .i64 z] 27)))
          have hX0 := Lib.hid (hxx16.out.call (below_box w16 (.cells #[.int .i64 x, .int .i64 y, .int .i64 z] 27)))
          have hY0 := Lib.hid (mbox_new x y z w16 27)
          have hbl17 := Lib.hid (below_call hbl16.out (below_box w16 (.cells #[.int .i64 x, .int .i64 y, .int .i64 z] 27)))
          clear hbl16 hxm16 hxx16 hz15
          go_wp2_with fail
          generalize w16.alloc (.cells #[.int .i64 x, .int .i64 y, .int .i64 z] 27) = w17 at hM0 hX0 hY0 hbl17 ⊢
          obtain ⟨p0, p1, p2⟩ := hM0.out.1
          obtain ⟨s0, s1, s2⟩ := hX0.out.1
          obtain ⟨u0, u1, u2⟩ := hY0.out.1
          have q4 : IntKind.i64.wrap (2 * cpZ x y z) = 2 * cpZ x y z := IntWalk.i64_in _ (by omega)
          have q5 : (zo == z) = false := by simpa using fne
          have q6 : (zo != z) = true := by simpa using fne
          go_region_held3 (fun w' => w'.cell? ⟨w1.heap.size, 0, none⟩ = some (.int .i64 x) ∧ w'.cell? ⟨w1.heap.size, 1, none⟩ = some (.int .i64 y) ∧ w'.cell? ⟨w1.heap.size, 2, none⟩ = some (.int .i64 z) ∧ w'.cell? ⟨w15.heap.size, 0, none⟩ = some (.int .i64 x) ∧ w'.cell? ⟨w15.heap.size, 1, none⟩ = some (.int .i64 y) ∧ w'.cell? ⟨w15.heap.size, 2, none⟩ = some (.int .i64 zo) ∧ w'.cell? ⟨w16.heap.size, 0, none⟩ = some (.int .i64 x) ∧ w'.cell? ⟨w16.heap.size, 1, none⟩ = some (.int .i64 y) ∧ w'.cell? ⟨w16.heap.size, 2, none⟩ = some (.int .i64 z)) (go_keep)
            (first | (go_at_call 22; refine (HGi.out _).mono ?_; rintro e vE ⟨rfl, hbE⟩; have hME := Lib.hid (mbox_after hbE hMD.out); have hXE := Lib.hid (mbox_after hbE hXD.out); have hYE := Lib.hid (mbox_after hbE hYD.out); obtain ⟨pE, qE, rE⟩ := hME.out.1; obtain ⟨sE, tE, uE⟩ := hXE.out.1; obtain ⟨fE, gE, hE⟩ := hYE.out.1) | (go_at_call 17; have hpre := hMC.out; refine (HCa.out _ _).mono ?_; rintro e vD ⟨rfl, hbD⟩; have hMD := Lib.hid (mbox_after hbD hMC.out); have hXD := Lib.hid (mbox_after hbD hXC.out); have hYD := Lib.hid (mbox_after hbD hYC.out); obtain ⟨pD, qD, rD⟩ := hMD.out.1; obtain ⟨sD, tD, uD⟩ := hXD.out.1; obtain ⟨fD, gD, hD⟩ := hYD.out.1) | (go_at_call 21; refine (HFM.out _).mono ?_; rintro e vC ⟨rfl, hbC⟩; have hMC := Lib.hid (mbox_after hbC hMB.out); have hXC := Lib.hid (mbox_after hbC hXB.out); have hYC := Lib.hid (mbox_after hbC hYB.out); obtain ⟨pC, qC, rC⟩ := hMC.out.1; obtain ⟨sC, tC, uC⟩ := hXC.out.1; obtain ⟨fC, gC, hC⟩ := hYC.out.1) | (go_at_call 19; refine (H4.out _).mono ?_; rintro e vB ⟨rfl, hbB⟩; have hMB := Lib.hid (mbox_after hbB hMA.out); have hXB := Lib.hid (mbox_after hbB hXA.out); have hYB := Lib.hid (mbox_after hbB hYA.out); obtain ⟨pB, qB, rB⟩ := hMB.out.1; obtain ⟨sB, tB, uB⟩ := hXB.out.1; obtain ⟨fB, gB, hB⟩ := hYB.out.1) | (go_at_call 17; refine (HCa.out _ _).mono ?_; rintro e vA ⟨rfl, hbA⟩; have hMA := Lib.hid (mbox_after hbA hM0.out); have hXA := Lib.hid (mbox_after hbA hX0.out); have hYA := Lib.hid (mbox_after hbA hY0.out); obtain ⟨pA, qA, rA⟩ := hMA.out.1; obtain ⟨sA, tA, uA⟩ := hXA.out.1; obtain ⟨fA, gA, hA⟩ := hYA.out.1))
          go_wp2_with fail
          go_ret
          exact HK.out _ (below_call (below_call (below_call (below_call (below_call (below_dr hbl17.out) hbA) hbB) hbC) hbD) hbE)
end Go.Proofs.Ytlhmedokpjkjpaa.fnMazes
