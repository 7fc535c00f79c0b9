/- The contract of the program's counting of trees, whatever the cells count as. -/
import Derived.Test.YtnfnandpcjgmmaaCouQ
import Derived.Test.YtnfnandpcjgmmaaPrgD
import Derived.Test.YtnfnandpcjgmmaaPrgM
import Derived.Test.YtnfnandpcjgmmaaCntA
import Derived.Test.YtnfnandpcjgmmaaRchI
import Derived.Test.YtnfnandpcjgmmaaPrfC
import Derived.Deep.CutRange

namespace Go.Proofs.Ytnfnandpcjgmmaa.couI
open Go.ChangeShapes Go.WideShapes Go.ChangeAt Go.RowKit
open draw gridP gridC mazeP mazeC intsP reachD intA intK listK rowsP detP trsP matP matX matR eucP forest reachM cntP cntQ couP couQ detI
set_option linter.unusedVariables false

theorem wr64 (z : Int) : IntKind.i64.wrap z = wrap64 z := by rw [IntKind.wrap_i64]; unfold wrap64; rfl
theorem ws_call {W X X' : World} {b t : Nat} {v : Value} {ms : List (List Int)} (h : WS W b t v ms X) (hb : Below X.heap.size X X') : WS W b t v ms X' :=
  ⟨h.1.call hb, below_call h.2.1 hb, h.2.2.1, Nat.le_trans h.2.2.2 hb.size⟩
theorem ws_dr {W X : World} {b t : Nat} {v : Value} {ms : List (List Int)} (h : WS W b t v ms X) : WS W b t v ms X.drew := ws_call h ⟨rfl, rfl, rfl, Nat.le_refl _, fun _ _ => rfl⟩
/-- One number of the row that is added. -/
theorem as_step {W X : World} {b t g cg n R i k c : Nat} {ms : List (List Int)} {li lk : List Int} (h : AS W b t g cg n R ms i (adC li lk 1 c) X) (hc : c < n) (hi : ms[i]? = some li) (hk : ms[k]? = some lk) (hne : i ≠ k) (l1 : li.length = n) (l2 : lk.length = n) (hnl : n = ms.length) :
    ∃ q1 c1 q2 c2 x y, X.cell? ⟨g, i, none⟩ = some (.slice (some ⟨q1, 0, none⟩) n c1) ∧ X.cell? ⟨g, k, none⟩ = some (.slice (some ⟨q2, 0, none⟩) n c2) ∧ X.cell? ⟨q1, c, none⟩ = some (.int .i64 x) ∧ X.frozen? ⟨q1, c, none⟩ = false ∧ X.cell? ⟨q2, c, none⟩ = some (.int .i64 y) ∧
      AS W b t g cg n R ms i (adC li lk 1 (c + 1)) (X.setCell ⟨q1, c, none⟩ (.int .i64 (wrap64 (x + y)))) := by
  have hil := (List.getElem?_eq_some_iff.1 hi).1
  have hlen : li.length = lk.length := by omega
  have hx := List.getElem?_eq_getElem (show c < li.length by omega)
  have hy := List.getElem?_eq_getElem (show c < lk.length by omega)
  have g1 : (ms.set i (adC li lk 1 c))[i]? = some (adC li lk 1 c) := List.getElem?_set_self hil
  have g2 : (ms.set i (adC li lk 1 c))[k]? = some lk := by rw [List.getElem?_set_ne hne]; exact hk
  have la : (adC li lk 1 c).length = n := by rw [adc_len hlen]; exact l1
  obtain ⟨-, ga, ea, -, -, -, A1, c1, e1, o1, -⟩ := h.1.row g1
  obtain ⟨-, gb, eb, -, -, -, A2, c2, e2, o2, -⟩ := h.1.row g2
  cases ea; cases eb
  rw [la] at e1 o1
  rw [l2] at e2 o2
  obtain ⟨q1, c1', r1, -, -⟩ := own_some o1 (by omega)
  obtain ⟨q2, c2', r2, -, -⟩ := own_some o2 (by omega)
  cases r1; cases r2
  refine ⟨q1, c1, q2, c2, li[c]'(by omega), lk[c]'(by omega), e1, e2, own_cellI o1 (adc_at hlen hx), o1.frozenAt c, own_cellI o2 hy, ?_⟩
  have hra := row_at h.1 (by simpa using hil) e1
  have hp := h.1.put g1 (j := c) (g := q1) (ci := c1) (by rw [la]; simpa [hnl] using hra) (wrap64 (li[c]'(by omega) + wrap64 (1 * lk[c]'(by omega))))
  rw [← adc_next hlen hx hy, List.set_set] at hp
  have hw : wrap64 (li[c]'(by omega) + lk[c]'(by omega)) = wrap64 (li[c]'(by omega) + wrap64 (1 * lk[c]'(by omega))) := by rw [Int.one_mul, wrap_add']
  rw [hw]
  have hgq : q1 ≠ g := by
    obtain ⟨cs, h1, -⟩ := h.1
    rcases splP.own_ne o1 h1 (by decide) with h | h
    · cases h
    · exact fun e => h (by rw [e]; rfl)
  refine ⟨hp.1, h.2.1.grown hp.2.1 (fun q e => by cases e; exact ⟨hp.2.2.1, hp.2.2.2⟩), fun j => ?_⟩
  rw [← h.2.2 j]
  have hgl : g < X.heap.size := by
    obtain ⟨cs, h1, -⟩ := h.1
    exact (h1.lt g rfl).2
  exact World.cell?_of_block (a := ⟨g, j, none⟩) (hp.2.1.block g hgl (fun e => hgq (Option.some.inj e).symm))
/-- One number of the column that is added. -/
theorem col_step {W X : World} {b t g cg n i f c : Nat} {ms : List (List Int)} (h : WS W b t (.slice (some ⟨g, 0, none⟩) n cg) (mp (cA f c) ms i) X) (hn : ms.length = n) (hr : ∀ l ∈ ms, l.length = n) (hi : i < n) (hf : f < n) (hc : c < n) :
    ∃ q cq x y, X.cell? ⟨g, i, none⟩ = some (.slice (some ⟨q, 0, none⟩) n cq) ∧ X.cell? ⟨q, f, none⟩ = some (.int .i64 x) ∧ X.frozen? ⟨q, f, none⟩ = false ∧ X.cell? ⟨q, c, none⟩ = some (.int .i64 y) ∧
      WS W b t (.slice (some ⟨g, 0, none⟩) n cg) (mp (cA f c) ms (i + 1)) (X.setCell ⟨q, f, none⟩ (.int .i64 (wrap64 (x + y)))) := by
  obtain ⟨l, hl⟩ : ∃ l, ms[i]? = some l := ⟨ms[i]'(by omega), List.getElem?_eq_getElem (by omega)⟩
  have hll := hr l (List.mem_of_getElem? hl)
  have g1 : (mp (cA f c) ms i)[i]? = some l := by rw [mp_get (by omega), if_neg (by omega)]; exact hl
  have hx := List.getElem?_eq_getElem (show f < l.length by omega)
  have hy := List.getElem?_eq_getElem (show c < l.length by omega)
  obtain ⟨-, ga, ea, -, -, -, A1, c1, e1, o1, -⟩ := h.1.row g1
  cases ea
  rw [hll] at e1 o1
  obtain ⟨q1, c1', r1, -, -⟩ := own_some o1 (by omega)
  cases r1
  refine ⟨q1, c1, l[f]'(by omega), l[c]'(by omega), e1, own_cellI o1 hx, o1.frozenAt f, own_cellI o1 hy, ?_⟩
  have hml : (mp (cA f c) ms i).length = n := by rw [mp_len (by omega)]; exact hn
  have hra := row_at h.1 (by omega) e1
  have hp := h.1.put g1 (j := f) (g := q1) (ci := c1) (by rw [hll, hml]; exact hra) (wrap64 (l[f]'(by omega) + l[c]'(by omega)))
  have hset : l.set f (wrap64 (l[f]'(by omega) + l[c]'(by omega))) = cA f c l := by
    unfold cA
    rw [List.getD_eq_getElem?_getD, List.getD_eq_getElem?_getD, hx, hy]; rfl
  rw [hset, ← mp_next hl] at hp
  exact h.kept hp.1 ((kept_refl b t X).grown hp.2.1 (fun q e => by cases e; exact ⟨hp.2.2.1, hp.2.2.2⟩))

set_option maxRecDepth 100000 in
set_option maxHeartbeats 4000000 in
theorem countTreesBy_any (x y : Int) (o : Nat) (F : Nat → Nat) (fn : Nat) (cb : Array Value) (W : World) (hk : OkZ x y) (ho : o < 2 ^ gN x y) (hF : Lb F (cN x y)) (hE : ∀ args w, (callFunc fn args).run Try.prog w = .ok (.enter fn args) w)
    (hg : ∀ i : Nat, i < cN x y → ∀ X, Below W.heap.size W X → Calls Try.prog fn (#[.int .i64 (i : Int)] ++ cb) X (Nm (F i : Int) X)) :
    Calls Try.prog 32 #[.agg #[.int .i64 x, .int .i64 y, .int .i64 o], .func (.func fn) #[] cb] W (Nm (coV (gN x y) (aN x y) (bN x y) (opE o) F (cN x y)) W) := by
  have HL := Lib.hid (fun X => laplaceOfI_any x y o X)
  have HG := Lib.hid hg
  have HK := @Lib.hid _ (fun v w' e b => @nm_mk v (coV (gN x y) (aN x y) (bN x y) (opE o) F (cN x y)) W w' e b)
  have HB0 := Lib.hid (below_box W (.cells #[.int .i64 x, .int .i64 y, .int .i64 o] 27))
  have HX0 := Lib.hid (mbox_new x y o W 27)
  obtain ⟨hN1, hN16⟩ := c16 hk
  have hu : ∀ g, g < gN x y → aN x y g < cN x y := fun g hg => by obtain ⟨e1, e2, -, -⟩ := ends_lt hk hg; omega
  have hv : ∀ g, g < gN x y → bN x y g < cN x y := fun g hg => by obtain ⟨e1, e2, -, -⟩ := ends_lt hk hg; exact e2
  have HSt := Lib.hid (lp_start hk ho F)
  have HFl : Hid (∀ i, i < cN x y → F i ≤ i) := Lib.hid hF.le
  have HSa : Hid (∀ c ms, Cm (gN x y) (aN x y) (bN x y) (opE o) F (cN x y) (c + 1) ms → c < cN x y → F c = c → Cm (gN x y) (aN x y) (bN x y) (opE o) F (cN x y) c ms) := Lib.hid fun c ms h hc he => h.same hc he
  have HSp : Hid (∀ c ms lf lc, Cm (gN x y) (aN x y) (bN x y) (opE o) F (cN x y) (c + 1) ms → c < cN x y → F c ≠ c → ms[F c]? = some lf → ms[c]? = some lc → Cm (gN x y) (aN x y) (bN x y) (opE o) F (cN x y) c (((((ms.set (F c) (adL lf lc 1)).map (cA (F c) c)).eraseIdx c).map fun l => l.eraseIdx c))) :=
    Lib.hid fun c ms lf lc h hc he h1 h2 => h.step hF hc he hu hv h1 h2
  have HDn : Hid (∀ ms, Cm (gN x y) (aN x y) (bN x y) (opE o) F (cN x y) 0 ms → wrap64 (dm (mfn ((ms.eraseIdx 0).map fun l => l.eraseIdx 0)) (List.range (ms.length - 1))) = coV (gN x y) (aN x y) (bN x y) (opE o) F (cN x y)) := Lib.hid fun ms h => h.done hF hN1
  have HPl : Hid (∀ c ms, c ≤ cN x y → Cm (gN x y) (aN x y) (bN x y) (opE o) F (cN x y) c ms → c ≤ ms.length ∧ ms.length ≤ 16 ∧ 0 < ms.length ∧ (∀ l ∈ ms, l.length = ms.length) ∧ ∀ l ∈ ms, ∀ z ∈ l, -9223372036854775808 ≤ z ∧ z ≤ 9223372036854775807) := Lib.hid fun c ms hc h => by
    have h1 := rp_ge F (cN x y) c
    have h2 := rp_le F hc
    rw [h.len]
    refine ⟨h1, by omega, ?_, h.row, cm_rng h⟩
    cases c with
    | zero => exact rp_pos hF hN1
    | succ c => omega
  have hll := (lp_len' hk ho).1
  generalize coV (gN x y) (aN x y) (bN x y) (opE o) F (cN x y) = D at *
  generalize Cm (gN x y) (aN x y) (bN x y) (opE o) F (cN x y) = P at *
  generalize cN x y = N at *
  generalize lpZ x y o = ls at *
  clear hk ho hF hg hu hv
  go_enter Try.func32, Try.ntmps32
  go_wp2_with fail
  generalize W.alloc (.cells #[.int .i64 x, .int .i64 y, .int .i64 o] 27) = w0 at *
  obtain ⟨⟨m0, m1, m2⟩, -⟩ := HX0.out
  go_wp2_with fail
  refine (HL.out _).mono ?_
  rintro e w1 ⟨v, rfl, hown, hb⟩
  obtain ⟨A1, c1, rfl⟩ := hown.form
  obtain ⟨g, rfl⟩ : ∃ g, A1 = some ⟨g, 0, none⟩ := by
    obtain ⟨-, g, e, -⟩ := hown.row (List.getElem?_eq_getElem (show 0 < ls.length by omega))
    exact ⟨g, e⟩
  rw [hll] at hown ⊢
  have hs0 : Hid (WS W w0.heap.size w1.heap.size (.slice (some ⟨g, 0, none⟩) N c1) ls w1) := Lib.hid ⟨hown, below_call HB0.out hb, HB0.out.size, Nat.le_refl _⟩
  have hNw : IntKind.i64.wrap ((N : Int) - 1) = (N : Int) - 1 := IntWalk.i64_in _ (by omega)
  have Hll := Lib.hid hll
  clear hown hb HB0 HX0 m0 m1 m2 HL hll
  go_wp2_with fail
  go_loopw [5, 6] (fun u5 u6 wr => ∃ (c n : Nat) (ms : List (List Int)) (z : Int), c ≤ N ∧ z = (c : Int) - 1 ∧ u5 = .slice (some ⟨g, 0, none⟩) n c1 ∧ u6 = .int .i64 z ∧ ms.length = n ∧ P c ms ∧ WS W w0.heap.size w1.heap.size (.slice (some ⟨g, 0, none⟩) n c1) ms wr) (fun _ u6 _ => (intOf u6 + 1).toNat)
  case atStart => exact ⟨N, N, ls, (N : Int) - 1, Nat.le_refl _, rfl, rfl, rfl, Hll.out, HSt.out, hs0.out⟩
  case round =>
    clear hs0 HSt Hll hNw
    obtain ⟨c, n, ms, z, hcN, hz, rfl, rfl, hml, hP, hws0⟩ := hrel
    have hws := Lib.hid hws0
    obtain ⟨p1, p2, p3, p4, p5⟩ := HPl.out c ms hcN hP
    rw [hml] at p1 p2 p3 p4
    have HP := Lib.hid hP
    have HRw := Lib.hid p4
    have HRg := Lib.hid p5
    have Hml := Lib.hid hml
    clear hws0 hP p4 p5 hml
    cases c with
    | zero =>
      obtain rfl : z = -1 := by omega
      have hd : decide ((0 : Int) ≤ -1) = false := by decide
      have HW0 := withoutRowOf_any W wr w0.heap.size w1.heap.size g n c1 0 ms hws.out HRw.out p2 p3
      rw [show ((0 : Nat) : Int) = 0 from rfl] at HW0
      have HW := Lib.hid HW0
      have HEr := Lib.hid (er_len Hml.out HRw.out p3)
      have HEg := Lib.hid (er_rng (k := 0) HRg.out)
      have HDe := HDn.out ms HP.out
      rw [Hml.out] at HDe
      have HDt := Lib.hid (fun X h => determinantOf_any (some ⟨g, 0, none⟩) (n - 1) c1 ((ms.eraseIdx 0).map fun l => l.eraseIdx 0) W X HEr.out.1 (by omega) HEr.out.2 HEg.out (h : MxOw X W.heap.size X.heap.size _ _))
      rw [HDe] at HDt
      clear HW0 HDe HEr HEg hz
      go_wp2_with fail
      refine HW.out.mono ?_
      rintro e w2 ⟨rfl, hs⟩
      have HD1 := Lib.hid (HDt.out w2 ((hs.1.low hs.2.2.1).high hs.2.2.2) hs.2.1)
      clear hs
      go_wp2_with fail
      refine HD1.out.mono ?_
      rintro e w3 ⟨rfl, hb⟩
      have HF := Lib.hid hb
      clear hb
      go_wp2_with fail
      go_ret
      exact HK.out _ _ rfl HF.out
    | succ c =>
      obtain rfl : z = (c : Int) := by omega
      have hc0 : (0 : Int) ≤ (c : Int) := Int.natCast_nonneg _
      have hd : decide ((0 : Int) ≤ (c : Int)) = true := decide_eq_true hc0
      have HG1 := Lib.hid (fun X h => HG.out c (by omega) X h)
      have hfl := HFl.out c (by omega)
      have HPs := Lib.hid (fun h => HSa.out c ms HP.out (by omega) h)
      have HPt := Lib.hid (fun lf lc h h1 h2 => HSp.out c ms lf lc HP.out (by omega) h h1 h2)
      have hcw : IntKind.i64.wrap ((c : Int) - 1) = (c : Int) - 1 := IntWalk.i64_in _ (by omega)
      have hcn : (c : Int) < (n : Int) := by omega
      clear HP hz
      generalize F c = f at *
      go_wp2_with fail
      refine (HG1.out wr hws.out.2.1).mono ?_
      rintro e w2 ⟨rfl, hb⟩
      have hws1 := Lib.hid (ws_call hws.out hb)
      clear hb hws HG1
      by_cases hfc : f = c
      · have he : ((f : Int) == (c : Int)) = true := by rw [hfc]; simp
        have HPn := Lib.hid (HPs.out hfc)
        clear HPs HPt
        go_wp2_with fail
        go_roundw
        case rel => exact ⟨c, n, ms, (c : Int) - 1, by omega, rfl, rfl, rfl, Hml.out, HPn.out, hws1.out⟩
        case measure => simp [intOf] <;> omega
      · have he : ((f : Int) == (c : Int)) = false := by rw [beq_eq_false_iff_ne]; omega
        obtain ⟨lf, hlf⟩ : ∃ l, ms[f]? = some l := ⟨ms[f]'(by have := Hml.out; omega), List.getElem?_eq_getElem (by have := Hml.out; omega)⟩
        obtain ⟨lc, hlc⟩ : ∃ l, ms[c]? = some l := ⟨ms[c]'(by have := Hml.out; omega), List.getElem?_eq_getElem (by have := Hml.out; omega)⟩
        have hl1 := HRw.out lf (List.mem_of_getElem? hlf)
        have hl2 := HRw.out lc (List.mem_of_getElem? hlc)
        have HPn := Lib.hid (HPt.out lf lc hfc hlf hlc)
        have hf0 : (0 : Int) ≤ (f : Int) := Int.natCast_nonneg _
        have hfn : (f : Int) < (n : Int) := by omega
        have hn0 : (0 : Int) ≤ (n : Int) := Int.natCast_nonneg _
        have HA0 : Hid (AS w2 w0.heap.size w1.heap.size g c1 n 0 ms f (adC lf lc 1 0) w2) := Lib.hid ⟨by rw [adc_zero, set_same hlf]; exact hws1.out.1, kept_refl _ _ _, fun _ => rfl⟩
        have HAs := Lib.hid (fun X j h hj => @as_step w2 X w0.heap.size w1.heap.size g c1 n 0 f c j ms lf lc h hj hlf hlc hfc hl1 hl2 Hml.out.symm)
        have HAe : Hid (∀ X, AS w2 w0.heap.size w1.heap.size g c1 n 0 ms f (adC lf lc 1 n) X → WS W w0.heap.size w1.heap.size (.slice (some ⟨g, 0, none⟩) n c1) (ms.set f (adL lf lc 1)) X) := Lib.hid fun X h => by
          have e := adc_all (t := 1) (show lf.length = lc.length by omega)
          rw [hl1] at e
          rw [← e]
          exact hws1.out.kept h.1 h.2.1
        have HRs : Hid ((ms.set f (adL lf lc 1)).length = n ∧ ∀ l ∈ ms.set f (adL lf lc 1), l.length = n) := Lib.hid ⟨by rw [List.length_set]; exact Hml.out, fun l hm => by
          rcases List.mem_or_eq_of_mem_set hm with h | h
          · exact HRw.out l h
          · rw [h, ad_len (by omega), hl1]⟩
        generalize ms.set f (adL lf lc 1) = ns at *
        clear HPs HPt hl1 hl2 hlf hlc hws1 HRw HRg
        have hfc' : f < n := by omega
        have hcn' : c < n := by omega
        go_wp2_with fail
        go_loopw [27] (fun u27 wq => ∃ j : Nat, j ≤ n ∧ u27 = .int .i64 j ∧ AS w2 w0.heap.size w1.heap.size g c1 n 0 ms f (adC lf lc 1 j) wq) (fun u27 _ => n - (intOf u27).toNat)
        case atStart => exact ⟨0, Nat.zero_le _, rfl, HA0.out⟩
        case round =>
          clear HA0
          obtain ⟨j, hj, rfl, ha0⟩ := hrel
          have ha := Lib.hid ha0
          clear ha0
          have hj0 : (0 : Int) ≤ (j : Int) := Int.natCast_nonneg _
          by_cases hjn : j < n
          · have hj1 : (j : Int) < (n : Int) := by omega
            have hdj : decide ((j : Int) < (n : Int)) = true := decide_eq_true hj1
            obtain ⟨q1, k1, q2, k2, xa, ya, e1, e2, f1, fz, f2, hnx0⟩ := HAs.out _ j ha.out.dr hjn
            have hnx := Lib.hid hnx0
            clear hnx0
            go_wp2_with fail
            go_region
            all_goals go_wp2_with fail
            all_goals go_roundw
            case rel => exact ⟨j + 1, by omega, by go_num, hnx.out⟩
            case measure => simp [intOf] <;> omega
          · obtain rfl : j = n := by omega
            have hdj : decide ((j : Int) < (j : Int)) = false := by simp
            have hw3 := Lib.hid (HAe.out _ ha.out)
            clear ha HAs HAe
            have hm0 : Hid (WS W w0.heap.size w1.heap.size (.slice (some ⟨g, 0, none⟩) j c1) (mp (cA f c) ns 0) wr) := Lib.hid (by rw [mp_zero]; exact hw3.out)
            have HCs := Lib.hid (fun X i h hi => @col_step W X w0.heap.size w1.heap.size g c1 j i f c ns h HRs.out.1 HRs.out.2 hi hfc' hcn')
            have HEr : Hid (((((ns.map (cA f c)).eraseIdx c).map fun l => l.eraseIdx c).length = j - 1) ∧ (∀ l ∈ ns.map (cA f c), l.length = j)) := Lib.hid (by
              have h4 : ∀ l ∈ ns.map (cA f c), l.length = j := fun l hm => by
                obtain ⟨k, hk, rfl⟩ := List.mem_map.1 hm
                rw [cA_len, HRs.out.2 k hk]
              exact ⟨(er_len (by rw [List.length_map]; exact HRs.out.1) h4 hcn').1, h4⟩)
            have HAll : Hid (mp (cA f c) ns j = ns.map (cA f c)) := Lib.hid (by rw [← HRs.out.1]; exact mp_all _ _)
            clear hw3
            go_wp2_with fail
            go_loopw [49] (fun u49 wq => ∃ i : Nat, i ≤ j ∧ u49 = .int .i64 i ∧ WS W w0.heap.size w1.heap.size (.slice (some ⟨g, 0, none⟩) j c1) (mp (cA f c) ns i) wq) (fun u49 _ => j - (intOf u49).toNat)
            case atStart => exact ⟨0, Nat.zero_le _, rfl, hm0.out⟩
            case round =>
              clear hm0
              obtain ⟨i, hi, rfl, hm1⟩ := hrel
              have hm := Lib.hid hm1
              clear hm1
              have hi0 : (0 : Int) ≤ (i : Int) := Int.natCast_nonneg _
              by_cases hin : i < j
              · have hi1 : (i : Int) < (j : Int) := by omega
                have hdi : decide ((i : Int) < (j : Int)) = true := decide_eq_true hi1
                obtain ⟨q1, k1, xa, ya, e1, f1, fz, f2, hnx0⟩ := HCs.out _ i (ws_dr hm.out) hin
                have hnx := Lib.hid hnx0
                clear hnx0
                go_wp2_with fail
                go_region
                all_goals go_wp2_with fail
                all_goals go_roundw
                case rel => exact ⟨i + 1, by omega, by go_num, hnx.out⟩
                case measure => simp [intOf] <;> omega
              · obtain rfl : i = j := by omega
                have hdi : decide ((i : Int) < (i : Int)) = false := by simp
                have hmf := hm.out
                rw [HAll.out] at hmf
                have HWo := Lib.hid (withoutRowOf_any W _ w0.heap.size w1.heap.size g i c1 c (ns.map (cA f c)) hmf HEr.out.2 p2 hcn')
                clear hmf hm HCs
                go_wp2_with fail
                refine HWo.out.mono ?_
                rintro e w4 ⟨rfl, hs⟩
                have hsf := Lib.hid hs
                clear hs
                go_wp2_with fail
                go_roundw
                case rel => exact ⟨c, i - 1, _, (c : Int) - 1, by omega, rfl, rfl, rfl, HEr.out.1, HPn.out, hsf.out⟩
                case measure => simp [intOf] <;> omega
end Go.Proofs.Ytnfnandpcjgmmaa.couI

/- The contracts of the program's CountTrees and CountWith. -/
namespace Go.Proofs.Ytnfnandpcjgmmaa.couJ
open Go.ChangeShapes Go.WideShapes Go.ChangeAt Go.RowKit
open draw gridP gridC bitP mazeP mazeQ mazeC mazeM mazeI intsP reachD intA intK forest reachM cntP cntQ cntN couP couQ couI
set_option linter.unusedVariables false

theorem same_any (i : Int) (X : World) : Calls Try.prog 33 (#[.int .i64 i] ++ #[]) X (Nm i X) := by
  have HK := @Lib.hid _ (fun w' b => @nm_mk i i X w' rfl b)
  have HR := Lib.hid (Below.refl X.heap.size X)
  rw [Array.append_empty]
  go_enter Try.func33, Try.ntmps33
  go_wp2_with fail
  go_ret
  exact HK.out _ HR.out

theorem countTreesI_any (x y z : Int) (W : World) :
    Calls Try.prog 15 #[.agg #[.int .i64 x, .int .i64 y, .int .i64 z]] W (Nm (ctZ x y z) W) := by
  have HO := Lib.hid (fun X => ok_any x y z X)
  have HB := Lib.hid below_box
  by_cases hv : OkM x y z
  · rw [show okB x y z = true from decide_eq_true hv] at HO
    obtain ⟨hk, o, rfl, ho⟩ := okm_of hv
    have he : coV (gN x y) (aN x y) (bN x y) (opE o) id (cN x y) = ctZ x y o := by
      rw [ct_co hk ho]
      unfold ctZ
      rw [if_pos hv, Int.toNat_natCast]
    have HC := Lib.hid (fun X => countTreesBy_any x y o id 33 #[] X hk ho (lb_id _) Try.call33 (fun i hi Y _ => same_any i Y))
    rw [he] at HC
    have HK := @Lib.hid _ (fun w' b => @nm_mk _ (ctZ x y o) W w' rfl b)
    clear he hv hk ho
    generalize ctZ x y o = T at *
    generalize (o : Int) = z at *
    go_enter Try.func15, Try.ntmps15
    go_wp2_with fail
    refine (HO.out _).mono ?_
    rintro e w1 ⟨rfl, hb⟩
    have hbl1 := Lib.hid (below_call (HB.out _ _) hb)
    have hxc1 := Lib.hid ((mbox_new x y z W _).call hb)
    clear hb
    obtain ⟨c0, c1, c2⟩ := hxc1.out.1
    go_wp2_with fail
    refine (HC.out _).mono ?_
    rintro e w2 ⟨rfl, hb⟩
    have hbl2 := Lib.hid (below_call hbl1.out hb)
    clear hb
    go_wp2_with fail
    go_ret
    exact HK.out _ hbl2.out
  · rw [show okB x y z = false from decide_eq_false hv] at HO
    have he : 0 = ctZ x y z := by unfold ctZ; rw [if_neg hv]
    have HK := @Lib.hid _ (fun w' b => @nm_mk 0 (ctZ x y z) W w' he b)
    clear he hv
    go_enter Try.func15, Try.ntmps15
    go_wp2_with fail
    refine (HO.out _).mono ?_
    rintro e w1 ⟨rfl, hb⟩
    have hbl1 := Lib.hid (below_call (HB.out _ _) hb)
    have hxc1 := Lib.hid ((mbox_new x y z W _).call hb)
    clear hb
    obtain ⟨c0, c1, c2⟩ := hxc1.out.1
    go_wp2_with fail
    go_ret
    exact HK.out _ hbl1.out

end Go.Proofs.Ytnfnandpcjgmmaa.couJ

/- The contract of the program's CountFixed. -/
namespace Go.Proofs.Ytnfnandpcjgmmaa.couK
open Go.ChangeShapes Go.WideShapes Go.ChangeAt Go.RowKit Go.Joins
open draw gridP gridC bitP mazeP mazeQ mazeC mazeM mazeR mazeI intsP reachD reachN reachI intA intK listK trcP forest reachM deadP cntP cntQ cntN cntF couP couQ couI
set_option linter.unusedVariables false

theorem draw_off {w w' : World} (hb : Below w.drew.heap.size w.drew w') : Below w.heap.size w w' := ⟨hb.os, hb.tape, hb.output, hb.size, hb.block⟩
theorem mbox_put {b : Nat} {x y z x' y' z' : Int} {X : World} (h : Row3 b x y z X) : MBox b x' y' z' (((X.setCell ⟨b, 0, none⟩ (.int .i64 x')).setCell ⟨b, 1, none⟩ (.int .i64 y')).setCell ⟨b, 2, none⟩ (.int .i64 z')) := by
  obtain ⟨T, h⟩ := h
  have hr : Row3 b x' y' z' (((X.setCell ⟨b, 0, none⟩ (.int .i64 x')).setCell ⟨b, 1, none⟩ (.int .i64 y')).setCell ⟨b, 2, none⟩ (.int .i64 z')) := ⟨T, by simp [World.setCell, Array.getElem?_modify, h]⟩
  refine ⟨(row3_cells hr).1, ?_⟩
  obtain ⟨T', hr⟩ := hr
  exact (Array.getElem?_eq_some_iff.1 hr).1
/-- Each cell counts as the least one that is reached. -/
theorem least_any (x y : Int) (c i B : Nat) (X : World) (hm : MBox B x y c X) (hv : OkM x y c) (hi : i < cN x y) :
    Calls Try.prog 67 (#[.int .i64 (i : Int)] ++ #[.pointer (some ⟨B, 0, none⟩)]) X (Nm (lsF x y c i : Int) X) := by
  have HR := Lib.hid (reached_any x y c i X)
  have hl : (rsZ x y c i)[0]? = some (lsF x y c i : Int) := by
    unfold rsZ
    rw [if_pos (show hasB x y c i = true from decide_eq_true ⟨hv, Int.natCast_nonneg i, by unfold cN at hi; omega⟩), Int.toNat_natCast]
    exact (ls_spec hi).1
  have HK := @Lib.hid _ (fun w' b => @nm_mk (lsF x y c i : Int) (lsF x y c i : Int) X w' rfl b)
  have HH := Lib.hid hl
  have hp : 0 < (rsZ x y c i).length := (List.getElem?_eq_some_iff.1 hl).1
  obtain ⟨m0, m1, m2⟩ := hm.1
  show Calls Try.prog 67 #[.int .i64 (i : Int), .pointer (some ⟨B, 0, none⟩)] X _
  clear hm hv hi hl
  generalize rsZ x y c i = l at *
  generalize (lsF x y c i : Int) = r at *
  go_enter Try.func67, Try.ntmps67
  go_wp2_with fail
  refine HR.out.mono ?_
  rintro e w1 ⟨v, rfl, ho, hb⟩
  obtain ⟨A1, k1, rfl⟩ := intsP.own_form ho
  obtain ⟨g, k2, e1, -, -⟩ := own_some ho hp
  cases e1
  have hc := own_cellI ho HH.out
  have HF := Lib.hid (HK.out _ hb)
  clear ho hb HR HK
  go_wp2_with fail
  go_ret
  exact HF.out
/-- The grid, and the two mazes of the chosen and of the banned gaps. -/
def FS (W : World) (B1 B2 : Nat) (x y a b : Int) (X : World) : Prop := Below W.heap.size W X ∧ Box W.heap.size x y X ∧ MBox B1 x y a X ∧ MBox B2 x y b X
theorem FS.call {W X X' : World} {B1 B2 : Nat} {x y a b : Int} (h : FS W B1 B2 x y a b X) (hb : Below X.heap.size X X') : FS W B1 B2 x y a b X' := ⟨below_call h.1 hb, h.2.1.call hb, h.2.2.1.call hb, h.2.2.2.call hb⟩
theorem FS.dr {W X : World} {B1 B2 : Nat} {x y a b : Int} (h : FS W B1 B2 x y a b X) : FS W B1 B2 x y a b X.drew := h.call ⟨rfl, rfl, rfl, Nat.le_refl _, fun _ _ => rfl⟩
theorem fs_one (x y a b : Int) (W : World) (T0 T1 T2 : TypeId) : FS W (W.heap.size + 1) (W.heap.size + 1 + 1) x y a b (((W.alloc (.cells #[.int .i64 x, .int .i64 y] T0)).alloc (.cells #[.int .i64 x, .int .i64 y, .int .i64 a] T1)).alloc (.cells #[.int .i64 x, .int .i64 y, .int .i64 b] T2)) := by
  have h1 := mbox_new x y a (W.alloc (.cells #[.int .i64 x, .int .i64 y] T0)) T1
  have h2 := mbox_new x y b ((W.alloc (.cells #[.int .i64 x, .int .i64 y] T0)).alloc (.cells #[.int .i64 x, .int .i64 y, .int .i64 a] T1)) T2
  have e1 : (W.alloc (.cells #[.int .i64 x, .int .i64 y] T0)).heap.size = W.heap.size + 1 := by simp
  have e2 : ((W.alloc (.cells #[.int .i64 x, .int .i64 y] T0)).alloc (.cells #[.int .i64 x, .int .i64 y, .int .i64 a] T1)).heap.size = W.heap.size + 1 + 1 := by simp
  rw [e1] at h1
  rw [e2] at h2
  exact ⟨below_call (below_call (below_box W _) (below_box _ _)) (below_box _ _), ((box_new x y W T0).call (below_box _ _)).call (below_box _ _), h1.call (below_box _ _), h2⟩
theorem fs_two (x y a b : Int) (W : World) (T0 T1 T2 : TypeId) : FS W (W.heap.size + 1 + 1) (W.heap.size + 1) x y a b (((W.alloc (.cells #[.int .i64 x, .int .i64 y] T0)).alloc (.cells #[.int .i64 x, .int .i64 y, .int .i64 b] T1)).alloc (.cells #[.int .i64 x, .int .i64 y, .int .i64 a] T2)) := by
  obtain ⟨h1, h2, h3, h4⟩ := fs_one x y b a W T0 T1 T2
  exact ⟨h1, h2, h4, h3⟩
theorem andNot_top {G b : Nat} (hG : G ≤ 24) (hb : b < 2 ^ G) : bits .andNot .i64 ((2 ^ G - 1 : Nat) : Int) (b : Int) = ((2 ^ G - 1 - b : Nat) : Int) := by
  have h24 : 2 ^ G ≤ 16777216 := Nat.le_trans (Nat.pow_le_pow_right (by decide) hG) (by decide)
  rw [andNot_i64 _ _ (by omega) (by omega), Nat.and_comm]
  have := sub_comp 64 (2 ^ G - 1) (2 ^ G - 1 - b) (by omega) (by rw [Nat.and_two_pow_sub_one_eq_mod, Nat.mod_eq_of_lt (by omega)])
  rw [show (2 : Nat) ^ 64 - 1 - (2 ^ G - 1 - (2 ^ G - 1 - b)) = 18446744073709551615 - b by omega] at this
  rw [this]

set_option maxRecDepth 100000 in
set_option maxHeartbeats 4000000 in
theorem countFixedI_any (x y a b : Int) (W : World) :
    Calls Try.prog 49 #[.agg #[.int .i64 x, .int .i64 y], .int .i64 a, .int .i64 b] W (Nm (cfZ x y a b) W) := by
  have HO1 := Lib.hid (fun X => ok_any x y a X)
  have HO2 := Lib.hid (fun X => ok_any x y b X)
  have HX0 := Lib.hid (box_new x y W 25)
  have HB0 := Lib.hid (below_box W (.cells #[.int .i64 x, .int .i64 y] 25))
  go_enter Try.func49, Try.ntmps49
  go_wp2_with fail
  have m0 : ∀ o, ((W.alloc (.cells #[.int .i64 x, .int .i64 y] 25)).alloc o).cell? ⟨W.heap.size, 0, none⟩ = some (.int .i64 x) := fun o => (HX0.out.call (below_box _ o)).1.1
  have m1 : ∀ o, ((W.alloc (.cells #[.int .i64 x, .int .i64 y] 25)).alloc o).cell? ⟨W.heap.size, 1, none⟩ = some (.int .i64 y) := fun o => (HX0.out.call (below_box _ o)).1.2
  have n0 : ∀ o o', (((W.alloc (.cells #[.int .i64 x, .int .i64 y] 25)).alloc o).alloc o').cell? ⟨W.heap.size, 0, none⟩ = some (.int .i64 x) := fun o o' => ((HX0.out.call (below_box _ o)).call (below_box _ o')).1.1
  have n1 : ∀ o o', (((W.alloc (.cells #[.int .i64 x, .int .i64 y] 25)).alloc o).alloc o').cell? ⟨W.heap.size, 1, none⟩ = some (.int .i64 y) := fun o o' => ((HX0.out.call (below_box _ o)).call (below_box _ o')).1.2
  go_cut [7, 8] from 10 to 15 (fun u7 u8 wx => ∃ B1 B2 : Nat, u7 = .pointer (some ⟨B1, 0, none⟩) ∧ u8 = .pointer (some ⟨B2, 0, none⟩) ∧ FS W B1 B2 x y a b wx)
  case first =>
    go_region
    all_goals go_wp2_with fail
    all_goals go_meet
    all_goals first
      | exact ⟨_, _, rfl, rfl, (fs_one x y a b W _ _ _).dr⟩
      | exact ⟨_, _, rfl, rfl, (fs_two x y a b W _ _ _).dr⟩
  case rest =>
    obtain ⟨B1, B2, rfl, rfl, hfs⟩ := hcut
    have hf := Lib.hid hfs
    clear hfs m0 m1 n0 n1 HX0 HB0
    obtain ⟨c0, c1, c2⟩ := hf.out.2.2.1.1
    cases hp : okB x y a with
    | false =>
      rw [hp] at HO1
      have he : 0 = cfZ x y a b := by
        unfold cfZ
        rw [if_neg]
        intro h
        unfold cfB at h
        rw [Bool.and_eq_true, Bool.and_eq_true, Bool.and_eq_true, decide_eq_true_eq, decide_eq_true_eq, decide_eq_true_eq] at h
        rw [show okB x y a = true from decide_eq_true ⟨h.1.1.1, h.1.1.2⟩] at hp; cases hp
      have HK := @Lib.hid _ (fun w' b' => @nm_mk 0 (cfZ x y a b) W w' he b')
      clear he hp
      go_wp2_with fail
      refine (HO1.out _).mono ?_
      rintro e v1 ⟨rfl, hb⟩
      have hf1 := Lib.hid (hf.out.call hb)
      clear hb
      go_wp2_with fail
      go_ret
      exact HK.out _ hf1.out.1
    | true =>
      rw [hp] at HO1
      go_wp2_with fail
      refine (HO1.out _).mono ?_
      rintro e v1 ⟨rfl, hb⟩
      have hf1 := Lib.hid (hf.out.call hb)
      clear hb hf c0 c1 c2
      obtain ⟨d0, d1, d2⟩ := hf1.out.2.2.2.1
      cases hq : okB x y b with
      | false =>
        rw [hq] at HO2
        have he : 0 = cfZ x y a b := by
          unfold cfZ
          rw [if_neg]
          intro h
          unfold cfB at h
          rw [Bool.and_eq_true, Bool.and_eq_true, Bool.and_eq_true, decide_eq_true_eq, decide_eq_true_eq, decide_eq_true_eq] at h
          rw [show okB x y b = true from decide_eq_true ⟨h.1.1.1, h.1.2⟩] at hq; cases hq
        have HK := @Lib.hid _ (fun w' b' => @nm_mk 0 (cfZ x y a b) W w' he b')
        clear he hp hq
        go_wp2_with fail
        refine (HO2.out _).mono ?_
        rintro e v2 ⟨rfl, hb⟩
        have hf2 := Lib.hid (hf1.out.call hb)
        clear hb
        go_wp2_with fail
        go_ret
        exact HK.out _ hf2.out.1
      | true =>
        rw [hq] at HO2
        have hva : OkM x y a := of_decide_eq_true hp
        have hvb : OkM x y b := of_decide_eq_true hq
        obtain ⟨hk, c, rfl, hc⟩ := okm_of hva
        obtain ⟨-, bn, rfl, hbn⟩ := okm_of hvb
        have hcf : cfB x y c bn = (c &&& bn == 0) := by
          unfold cfB
          rw [decide_eq_true (show OkZ x y from hk), decide_eq_true hva.2, decide_eq_true hvb.2, Int.toNat_natCast, Int.toNat_natCast]; rfl
        have hg24 : gN x y ≤ 24 := by have := gps_bd hk.1 hk.2.1 hk.2.2.1 hk.2.2.2; unfold gN; omega
        have h24 : 2 ^ gN x y ≤ 16777216 := Nat.le_trans (Nat.pow_le_pow_right (by decide) hg24) (by decide)
        have hand : bits .and .i64 (c : Int) (bn : Int) = ((c &&& bn : Nat) : Int) := and_i64 _ _ (by omega) (by omega)
        by_cases hab : c &&& bn = 0
        · have hq0 : (((c &&& bn : Nat) : Int) != 0) = false := by rw [hab]; rfl
          have hcfz : cfZ x y c bn = (tcN x y c bn : Int) := by
            unfold cfZ
            rw [hcf, if_pos (by rw [hab]; rfl), Int.toNat_natCast, Int.toNat_natCast]
          have HCl := Lib.hid (fun X => perfI.countLoops_any x y c X)
          rw [perfP.cl_lp hk hc] at HCl
          by_cases hl : lp x y c = 0
          · have hco := cf_co hk hc hbn hab hl
            have HLc := Lib.hid (fun B X (h : MBox B x y c X) => countTreesBy_any x y (2 ^ gN x y - 1 - bn) (lsF x y c) 67 #[.pointer (some ⟨B, 0, none⟩)] X hk (by omega) (ls_lb c) Try.call67 (fun i hi Y hY => least_any x y c i B Y (mbox_keep h h.2 hY) hva hi))
            rw [hco, ← hcfz] at HLc
            have HK := @Lib.hid _ (fun w' b' => @nm_mk (cfZ x y c bn) (cfZ x y c bn) W w' rfl b')
            have htop : topZ x y = ((2 ^ gN x y - 1 : Nat) : Int) := by
              have : topZ x y = ((2 ^ gN x y : Nat) : Int) - 1 := by unfold topZ gN; norm_cast
              have := Nat.one_le_two_pow (n := gN x y)
              omega
            have HA : Hid (∀ X, Calls Try.prog 35 #[.agg #[.int .i64 x, .int .i64 y]] X (Nm (topZ x y) X)) := fun X => allOpen_any x y X hk.1 hk.2.1 hk.2.2.1 hk.2.2.2
            rw [htop] at HA
            have hnt := andNot_top hg24 hbn
            have hld : decide ((0 : Int) < lp x y c) = false := decide_eq_false (by omega)
            clear hp hq hva hvb hk hc hbn hcf h24 hcfz hco htop hg24 hl
            generalize hE : 2 ^ gN x y - 1 - bn = E at *
            generalize (2 ^ gN x y - 1 : Nat) = tp at *
            clear hE
            generalize cfZ x y c bn = T at *
            generalize (c &&& bn) = an at *
            generalize lp x y c = l at *
            go_wp2_with fail
            refine (HO2.out _).mono ?_
            rintro e v2 ⟨rfl, hb⟩
            have hf2 := Lib.hid (hf1.out.call hb)
            clear hb hf1 d0 d1 d2
            obtain ⟨c0, c1, c2⟩ := hf2.out.2.2.1.1
            go_wp2_with fail
            refine (HCl.out _).mono ?_
            rintro e v3 ⟨rfl, hb⟩
            have hf3 := Lib.hid (hf2.out.call hb)
            clear hb hf2 c0 c1 c2
            obtain ⟨⟨p0, p1⟩, -⟩ := hf3.out.2.1
            go_wp2_with fail
            have q0 : ∀ o, (v3.alloc o).cell? ⟨W.heap.size, 0, none⟩ = some (.int .i64 x) := fun o => (hf3.out.2.1.call (below_box _ o)).1.1
            have q1 : ∀ o, (v3.alloc o).cell? ⟨W.heap.size, 1, none⟩ = some (.int .i64 y) := fun o => (hf3.out.2.1.call (below_box _ o)).1.2
            go_cut [9] from 35 to 40 (fun u9 wx => ∃ B3 : Nat, u9 = .pointer (some ⟨B3, 0, none⟩) ∧ MBox B3 x y E wx ∧ FS W B1 B2 x y c bn wx)
            case first =>
              go_region_with (go_at_call 35; refine (HA.out _).mono ?_; rintro e v4 ⟨rfl, hb⟩; (first | (have HBl : Hid (Below v3.heap.size v3 v4) := Lib.hid hb) | (have HBl : Hid (Below v3.heap.size v3 v4) := Lib.hid (draw_off hb)) | (have HBl : Hid (Below v3.heap.size v3 v4) := Lib.hid (below_call (below_box v3 _) (draw_off hb)); have HR3 := Lib.hid (Row3.call (row3_new 0 0 0 v3 _) (draw_off hb)); obtain ⟨⟨z0, z1, z2⟩, f0, f1, f2⟩ := row3_cells HR3.out) | (have HBl : Hid (Below v3.heap.size v3 v4) := Lib.hid (below_call (below_box v3 _) hb); have HR3 := Lib.hid (Row3.call (row3_new 0 0 0 v3 _) hb); obtain ⟨⟨z0, z1, z2⟩, f0, f1, f2⟩ := row3_cells HR3.out)); clear hb; have hf4 := Lib.hid (hf3.out.call HBl.out); obtain ⟨⟨p0', p1'⟩, -⟩ := hf4.out.2.1; have q0' : ∀ o, (v4.alloc o).cell? ⟨W.heap.size, 0, none⟩ = some (.int .i64 x) := fun o => (hf4.out.2.1.call (below_box _ o)).1.1; have q1' : ∀ o, (v4.alloc o).cell? ⟨W.heap.size, 1, none⟩ = some (.int .i64 y) := fun o => (hf4.out.2.1.call (below_box _ o)).1.2)
              all_goals go_wp2_with fail
              all_goals go_meet
              all_goals first
                | exact ⟨_, rfl, mbox_new _ _ _ v4 _, hf4.out.call (below_box _ _)⟩
                | exact ⟨_, rfl, mbox_put HR3.out, hf3.out.call (Below.setCell (Below.setCell (Below.setCell HBl.out (Nat.le_refl _) _) (Nat.le_refl _) _) (Nat.le_refl _) _)⟩
                | exact ⟨_, rfl, (mbox_new _ _ _ v4 _).call ⟨rfl, rfl, rfl, Nat.le_refl _, fun _ _ => rfl⟩, (hf4.out.call (below_box _ _)).dr⟩
                | exact ⟨_, rfl, mbox_put HR3.out, (hf3.out.call (Below.setCell (Below.setCell (Below.setCell HBl.out (Nat.le_refl _) _) (Nat.le_refl _) _) (Nat.le_refl _) _)).dr⟩
            case rest =>
              obtain ⟨B3, rfl, hm3, hfs⟩ := hcut
              have hf4 := Lib.hid hfs
              have hm4 := Lib.hid hm3
              have HL1 := Lib.hid (HLc.out B1 _ hfs.2.2.1)
              clear hfs hm3 hf3 p0 p1 q0 q1 HLc
              obtain ⟨c0, c1, c2⟩ := hm4.out.1
              go_wp2_with fail
              refine HL1.out.mono ?_
              rintro e v5 ⟨rfl, hb⟩
              have hbl := Lib.hid (below_call hf4.out.1 hb)
              clear hb
              go_wp2_with fail
              go_ret
              exact HK.out _ hbl.out
          · have he : 0 = cfZ x y c bn := by rw [hcfz, cf_zero hk bn hc hl]; rfl
            have hld : decide ((0 : Int) < lp x y c) = true := decide_eq_true (by have := forest.lp_pos hk hc; omega)
            have HK := @Lib.hid _ (fun w' b' => @nm_mk 0 (cfZ x y c bn) W w' he b')
            clear hp hq hva hvb hk hc hbn hcf h24 hcfz hg24 hl he
            generalize (c &&& bn) = an at *
            generalize lp x y c = l at *
            go_wp2_with fail
            refine (HO2.out _).mono ?_
            rintro e v2 ⟨rfl, hb⟩
            have hf2 := Lib.hid (hf1.out.call hb)
            clear hb hf1 d0 d1 d2
            obtain ⟨c0, c1, c2⟩ := hf2.out.2.2.1.1
            go_wp2_with fail
            refine (HCl.out _).mono ?_
            rintro e v3 ⟨rfl, hb⟩
            have hf3 := Lib.hid (hf2.out.call hb)
            clear hb hf2 c0 c1 c2
            go_wp2_with fail
            go_ret
            exact HK.out _ hf3.out.1
        · have hq0 : (((c &&& bn : Nat) : Int) != 0) = true := by rw [bne_iff_ne]; omega
          have he : 0 = cfZ x y c bn := by
            unfold cfZ
            rw [hcf, if_neg (by simpa using hab)]
          have HK := @Lib.hid _ (fun w' b' => @nm_mk 0 (cfZ x y c bn) W w' he b')
          clear hp hq hva hvb hk hc hbn hcf h24 hg24 he hab
          generalize (c &&& bn) = an at *
          go_wp2_with fail
          refine (HO2.out _).mono ?_
          rintro e v2 ⟨rfl, hb⟩
          have hf2 := Lib.hid (hf1.out.call hb)
          clear hb hf1 d0 d1 d2
          go_wp2_with fail
          go_ret
          exact HK.out _ hf2.out.1
end Go.Proofs.Ytnfnandpcjgmmaa.couK
