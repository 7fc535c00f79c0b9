/- The contract of the model's reading of a maze: the walk. -/
import Derived.Test.YtmmdngfhfceefaaLinN
import Derived.Deep.CutRange
import Derived.Deep.CutBlock
namespace Go.Proofs.Ytmmdngfhfceefaa.linN
open Go.ChangeShapes Go.WideShapes Go.ChangeAt Go.RowKit
open draw gridP gridC gridE bitP mazeP mazeC mazeM mazeR mazeS mazeQ intsP reachP reachM reachN reachD intA listK forest deadP linP splP listT linR linM
set_option linter.unusedVariables false

set_option maxRecDepth 100000 in
set_option maxHeartbeats 8000000 in
theorem readMaze_some (A : Option Addr) (n c : Nat) (ls : List (List UInt8)) (W : World) (hn : ls.length = n) (h0 : 0 < n) (hm : n ≤ 1048576) (hs : ∀ l ∈ ls, l.length ≤ 1048576) (hi : TxIn W W.heap.size A ls) :
    Calls Try.prog 12 #[.slice A n c] W (MzB (rmC ls (rmX ls)) (rmC ls (rmY ls)) (rmC ls (rmO ls)) (rmB ls) W) := by
  have hne : ls ≠ [] := by intro e; rw [e] at hn; simp at hn; omega
  obtain ⟨ad, rfl, hab⟩ := hi.at hne
  obtain ⟨l0, hl0⟩ : ∃ l, ls[0]? = some l := ⟨ls[0]'(by omega), List.getElem?_eq_getElem (by omega)⟩
  obtain ⟨s0, hs0⟩ : ∃ s : ByteArray, s = ⟨l0.toArray⟩ := ⟨_, rfl⟩
  have hsz0 : s0.size = l0.length := by subst hs0; rfl
  have hl0m := hs l0 (List.mem_of_getElem? hl0)
  have hX : (l0.length : Int) / 2 = rmX ls := by
    unfold rmX
    cases hls : ls with
    | nil => exact absurd hls hne
    | cons a t => rw [hls] at hl0; simp at hl0; subst hl0; simp
  have hY : (n : Int) / 2 = rmY ls := by unfold rmY; omega
  have HS := @Lib.hid _ (fun T1 T2 => @rs_new W (some ad) ls hi (rmX ls) (rmY ls) T1 T2)
  have hc1 : (W.alloc (.cells #[.int .i64 0, .int .i64 0, .int .i64 0] 30)).cell? ad = some (.string s0) := by
    have h := (hi.below (below_box W (.cells #[.int .i64 0, .int .i64 0, .int .i64 0] 30))).cell hl0
    rw [← hs0] at h
    rwa [show ad.add 0 = ad from by unfold Addr.add; split <;> simp_all] at h
  obtain ⟨G, hG24, HCG, HGy⟩ : ∃ G : Nat, G ≤ 24 ∧ Hid (∀ X, Calls Try.prog 24 #[.agg #[.int .i64 (rmX ls), .int .i64 (rmY ls)]] X (Nm (G : Int) X)) ∧ Hid ((OkZ (rmX ls) (rmY ls) ∧ G = gN (rmX ls) (rmY ls)) ∨ (¬ OkZ (rmX ls) (rmY ls) ∧ G = 0)) := by
    by_cases hk : OkZ (rmX ls) (rmY ls)
    · have hb := gps_bd hk.1 hk.2.1 hk.2.2.1 hk.2.2.2
      have e : (gN (rmX ls) (rmY ls) : Int) = gpsZ (rmX ls) (rmY ls) := by unfold gN; omega
      refine ⟨gN (rmX ls) (rmY ls), by omega, fun X => ?_, .inl ⟨hk, rfl⟩⟩
      rw [e]; exact gridS.countGaps_yes _ _ X hk.1 hk.2.1 hk.2.2.1 hk.2.2.2
    · exact ⟨0, by omega, fun X => gridS.countGaps_no _ _ X hk, .inr ⟨hk, rfl⟩⟩
  have HO0 : Hid (rmO ls = rdN (rmX ls) (rmY ls) ls G) := Lib.hid (by
    unfold rmO
    rcases HGy.out with ⟨hk, e⟩ | ⟨hk, e⟩
    · rw [if_pos hk, e]
    · rw [if_neg hk, e]; rfl)
  have HE := Lib.hid (fun g X => gridS.endsOf_any (rmX ls) (rmY ls) g X)
  have HMl := Lib.hid (fun o X => mazeLines_any (rmX ls) (rmY ls) o X)
  have hx0 : 0 ≤ rmX ls := by unfold rmX; omega
  have hx1 : rmX ls ≤ 1048576 := by omega
  have hy0 : 0 ≤ rmY ls := by unfold rmY; omega
  have hy1 : rmY ls ≤ 1048576 := by omega
  have Hn := Lib.hid hn
  clear hn
  generalize hgx : rmX ls = x at *
  generalize hgy : rmY ls = y at *
  have hn0 : ((n : Int) == 0) = false := by simp; omega
  go_enter Try.func12, Try.ntmps12
  go_wp2_with fail
  have hst0 := Lib.hid (HS.out 30 30)
  clear HS hc1
  go_loopw [5] (fun u5 wr => ∃ k : Nat, k ≤ G ∧ u5 = .int .i64 k ∧ RS W x y (rdN x y ls k) (some ad) ls wr) (fun u5 _ => G - (intOf u5).toNat)
  case atStart => exact ⟨0, Nat.zero_le _, rfl, hst0.out⟩
  case round =>
    clear hst0
    obtain ⟨k, hk, rfl, hrs0⟩ := hrel
    have hrs := Lib.hid hrs0
    obtain ⟨⟨m0, m1, m2⟩, -⟩ := row3_cells hrs0.2.2.1
    clear hrs0
    have hk0 : (0 : Int) ≤ (k : Int) := Int.natCast_nonneg _
    go_wp2_with fail
    refine (HCG.out _).mono ?_
    rintro e w1 ⟨rfl, hb⟩
    have hrs1 := Lib.hid (hrs.out.call hb)
    clear hb hrs m0 m1 m2
    obtain ⟨⟨m0, m1, m2⟩, -⟩ := row3_cells hrs1.out.2.2.1
    by_cases hkG : k < G
    · have hd : decide ((k : Int) < (G : Int)) = true := by simp; omega
      have hk1 : (k : Int) < (G : Int) := by omega
      obtain ⟨hok, hG⟩ : OkZ x y ∧ k < gN x y := by
        rcases HGy.out with ⟨h, e⟩ | ⟨h, e⟩
        · exact ⟨h, by omega⟩
        · omega
      obtain ⟨r1, c1, q1, q2, q3, q4, q5, q6, q7, q8, q9, q10, q11, q12⟩ := pl_nat hok hG
      obtain ⟨x1, x4, y1, y4⟩ := id hok
      have HA := Lib.hid (gridS.east_any x y · x1 x4 y1 y4)
      have HE1 := Lib.hid (HE.out k)
      have HR := Lib.hid q11
      have HC := Lib.hid q12
      have HRy := Lib.hid (@rd_yes x y ls k)
      have HRn := Lib.hid (@rd_no x y ls k)
      obtain ⟨o, ho, hob⟩ := rd_bd x y ls k
      obtain ⟨hor, ho24⟩ := rd_or hob (by omega)
      rw [Int.toNat_natCast] at hor
      have Hor := Lib.hid hor
      have heB : eB x y k = ((ebZ x y k == eaZ x y k + 1) && decide ((k : Int) < (x - 1) * y)) := by
        unfold eB; rw [Bool.eq_iff_iff]; simp
      obtain ⟨ev, hev⟩ : ∃ ev, ev = eB x y k := ⟨_, rfl⟩
      rw [← hev] at HR HC heB
      obtain ⟨-, ⟨hE2, hE3⟩, -⟩ := mul_bd x y x1 x4 y1 y4
      have HeB := Lib.hid heB
      clear q11 q12 heB hev hob HGy HE HCG HO0 HMl
      generalize plR x y k = r at *
      generalize plC x y k = cc at *
      generalize eaZ x y k = a at *
      generalize ebZ x y k = b at *
      rw [ho] at hrs1
      have Ho2 : ∃ o2, Hid (rdN x y ls (k + 1) = o2) := ⟨_, rfl⟩
      obtain ⟨o2, Ho2⟩ := Ho2
      rw [Ho2.out] at HRy HRn
      go_upto_block 1 with fail
      go_cut [] from 26 to 96 (fun wx => RS W x y o2 (some ad) ls wx)
      case rest =>
        have hrs2 := Lib.hid hcut
        clear hcut hrs1 m0 m1 m2
        go_wp2_with fail
        go_roundw
        case rel => exact ⟨k + 1, by omega, by go_num, by rw [Ho2.out]; exact hrs2.out⟩
        case measure => simp [intOf]; omega
      clear Ho2
      go_wp2_with fail
      refine (HE1.out _).mono ?_
      rintro e w2 ⟨rfl, hb⟩
      have hrs2 := Lib.hid (hrs1.out.call hb)
      clear hb hrs1 m0 m1 m2
      obtain ⟨⟨m0, m1, m2⟩, -⟩ := row3_cells hrs2.out.2.2.1
      go_upto_region 10 with fail
      go_cut [64] from 26 to 96 (fun u64 wc => u64 = .bool ev ∧ RS W x y o (some ad) ls wc)
      case first =>
        cases hd1 : (b == a + 1) with
        | true =>
          rw [hd1, Bool.true_and] at HeB
          go_wp2_with fail
          refine (HA.out _).mono ?_
          rintro e w3 ⟨rfl, hb⟩
          have hrs3 := Lib.hid (hrs2.out.call hb)
          clear hb hrs2 m0 m1 m2
          go_wp2_with fail
          go_meet
          case rel => exact ⟨by rw [HeB.out], hrs3.out⟩
        | false =>
          rw [hd1, Bool.false_and] at HeB
          go_wp2_with fail
          go_meet
          case rel => exact ⟨by rw [HeB.out], hrs2.out⟩
      case rest =>
        obtain ⟨rfl, hrsc⟩ := hcut
        have hrs3 := Lib.hid hrsc
        clear hrsc hrs2 m0 m1 m2
        go_upto_if 64 with fail
        go_cut [8, 9] from 26 to 96 (fun u8 u9 wx => ∃ r2 c2 : Nat, u8 = .int .i64 r2 ∧ u9 = .int .i64 c2 ∧ r = r2 ∧ cc = c2 ∧ r2 ≤ 10 ∧ c2 ≤ 10 ∧ RS W x y o (some ad) ls wx)
        case first =>
          cases hv : ev with
          | true =>
            rw [hv, if_pos rfl] at HR HC
            subst hv
            have hc2I : IntKind.i64.wrap ((c1 : Int) + 1) = ((c1 + 1 : Nat) : Int) := by rw [IntWalk.i64_in _ (by omega)]; omega
            go_wp2_with fail
            go_meet
            case rel => exact ⟨r1, c1 + 1, rfl, by go_num, by have := HR.out; omega, by have := HC.out; omega, by omega, by omega, hrs3.out⟩
          | false =>
            rw [hv, if_neg (by decide)] at HR HC
            subst hv
            go_wp2_with fail
            go_meet
            case rel => exact ⟨r1 + 1, c1, by go_num, rfl, by have := HR.out; omega, by have := HC.out; omega, by omega, by omega, hrs3.out⟩
        case rest =>
          obtain ⟨r2, c2, rfl, rfl, hr, hc, hr10, hc10, hrsc⟩ := hcut
          have hrs4 := Lib.hid hrsc
          clear hrsc hrs3 HR HC
          subst hr; subst hc
          by_cases hrn : r < n
          · obtain ⟨l, hl⟩ : ∃ l, ls[r]? = some l := ⟨ls[r]'(by have := Hn.out; omega), List.getElem?_eq_getElem (by have := Hn.out; omega)⟩
            obtain ⟨s, hsl⟩ : ∃ s : ByteArray, s = ⟨l.toArray⟩ := ⟨_, rfl⟩
            have hcell := hrs4.out.2.2.2.cell hl
            rw [← hsl] at hcell
            have hsm : s.size ≤ 1048576 := by rw [hsl]; exact hs l (List.mem_of_getElem? hl)
            have hdr : decide ((r : Int) < (n : Int)) = true := by simp; omega
            have hrI : (r : Int) < (n : Int) := by omega
            have hr0 : (0 : Int) ≤ (r : Int) := Int.natCast_nonneg _
            have hc0 : (0 : Int) ≤ (cc : Int) := Int.natCast_nonneg _
            by_cases hcs : cc < s.size
            · have hdc : decide ((cc : Int) < (s.size : Int)) = true := by simp; omega
              have hcI : (cc : Int) < (s.size : Int) := by omega
              have hAt := at_yes hl hsl hcs
              have HAt := Lib.hid hAt
              clear hAt hsl hl
              by_cases hch : s[cc].toNat = 32
              · have hdh : ((s[cc].toNat : Int) == 32) = true := by simp; omega
                have HN := Lib.hid (HRy.out (HAt.out.2 hch))
                rw [ho] at HN
                have hnx := Lib.hid ((hrs4.out.put (bits .or .i64 (o : Int) (wrap64 (2 ^ k)))).dr)
                obtain ⟨⟨n0, n1, n2⟩, f0, f1, f2⟩ := row3_cells hrs4.out.2.2.1
                clear hch
                go_wp2_with fail
                go_region
                all_goals
                  go_wp2_with fail
                  go_meet
                  case rel => rw [HN.out, ← Hor.out]; exact hnx.out
              · have hdh : ((s[cc].toNat : Int) == 32) = false := by rw [beq_eq_false_iff_ne]; omega
                have HN := Lib.hid (HRn.out (fun h => hch (HAt.out.1 h)))
                rw [ho] at HN
                clear hch
                go_wp2_with fail
                go_meet
                case rel => rw [HN.out]; exact hrs4.out
            · have hdc : decide ((cc : Int) < (s.size : Int)) = false := by simp; omega
              have HN := Lib.hid (HRn.out (at_out hl hsl hcs))
              rw [ho] at HN
              clear hsl hl
              go_wp2_with fail
              go_meet
              case rel => rw [HN.out]; exact hrs4.out
          · have hdr : decide ((r : Int) < (n : Int)) = false := by simp; omega
            have HN := Lib.hid (HRn.out (at_far (by have := Hn.out; omega)))
            rw [ho] at HN
            go_wp2_with fail
            go_meet
            case rel => rw [HN.out]; exact hrs4.out
    · obtain rfl : k = G := by omega
      obtain ⟨z, hz, -⟩ := rd_bd x y ls k
      rw [hz] at hrs1
      clear m0 m1 m2
      obtain ⟨⟨m0, m1, m2⟩, -⟩ := row3_cells hrs1.out.2.2.1
      have HO := HO0.out
      rw [hz] at HO
      have HMz := Lib.hid (fun X => HMl.out (z : Int) X)
      have hBd : rmB ls = decide (mlL x y (z : Int) = ls) := by
        unfold rmB
        rw [hgx, hgy, HO, decide_eq_decide]
        exact ⟨fun h => h.2, fun h => ⟨hne, h⟩⟩
      have HY : Hid (mlL x y (z : Int) = ls → ∀ X, Below W.heap.size W X → MzB (rmC ls x) (rmC ls y) (rmC ls (rmO ls)) (rmB ls) W (.returned (.tuple #[.agg #[.int .i64 x, .int .i64 y, .int .i64 z], .bool true])) X) := fun h X hb => by
        have hb1 : rmB ls = true := by rw [hBd, decide_eq_true h]
        have hc : ∀ v, rmC ls v = v := fun v => by unfold rmC; rw [if_pos hb1]
        rw [hc, hc, hc, hb1, HO]
        exact ⟨rfl, hb⟩
      have HZ : Hid (¬ mlL x y (z : Int) = ls → ∀ X, Below W.heap.size W X → MzB (rmC ls x) (rmC ls y) (rmC ls (rmO ls)) (rmB ls) W (.returned (.tuple #[.agg #[.int .i64 0, .int .i64 0, .int .i64 0], .bool false])) X) := fun h X hb => by
        have hb1 : rmB ls = false := by rw [hBd, decide_eq_false h]
        have hc : ∀ v, rmC ls v = 0 := fun v => by unfold rmC; rw [if_neg (by rw [hb1]; simp)]
        rw [hc, hc, hc, hb1]
        exact ⟨rfl, hb⟩
      have hd : decide ((k : Int) < (k : Int)) = false := by simp
      clear hBd HO HO0 HMl HE HCG HGy hz hkG
      generalize mlL x y (z : Int) = M at *
      go_wp2_with fail
      refine (HMz.out _).mono ?_
      rintro e w2 ⟨v10, rfl, ho, hb⟩
      have hrs2 := Lib.hid (hrs1.out.call hb)
      clear hb hrs1 m0 m1 m2 HMz
      by_cases hlen : M.length = n
      · have Hlen := Lib.hid hlen
        rw [hlen] at ho
        clear hlen
        obtain ⟨g, cg, rfl, hg, hgs⟩ := own_some ho (by omega)
        obtain ⟨Bz, hBz⟩ : ∃ Bz, Bz = w1.heap.size := ⟨_, rfl⟩
        rw [← hBz] at ho
        have ho2 := Lib.hid ho
        clear hBz
        have hdl : ((n : Int) != (n : Int)) = false := by simp
        clear ho hg hgs
        go_wp2_with fail
        go_loopw [11] (fun u11 wr => ∃ j : Nat, j ≤ n ∧ u11 = .int .i64 j ∧ (∀ i, i < j → M[i]? = ls[i]?) ∧ RS W x y z (some ad) ls wr ∧ wr.ownsRow Bz 9 1 (.slice (some ⟨g, 0, none⟩) n cg) n (scells M)) (fun u11 _ => n - (intOf u11).toNat)
        case atStart => exact ⟨0, Nat.zero_le _, rfl, fun i hi => absurd hi (by omega), hrs2.out, ho2.out⟩
        case round =>
          clear hrs2 ho2
          obtain ⟨j, hj, rfl, hall, hrs0, ho0⟩ := hrel
          have hrs := Lib.hid hrs0
          have ho := Lib.hid ho0
          have HA := Lib.hid hall
          clear hrs0 ho0 hall
          by_cases hjn : j < n
          · obtain ⟨mu, hmu⟩ : ∃ u, M[j]? = some u := ⟨M[j]'(by have := Hlen.out; omega), List.getElem?_eq_getElem (by have := Hlen.out; omega)⟩
            obtain ⟨lu, hlu⟩ : ∃ u, ls[j]? = some u := ⟨ls[j]'(by have := Hn.out; omega), List.getElem?_eq_getElem (by have := Hn.out; omega)⟩
            have hcM : wr.cell? ⟨g, j, none⟩ = some (.string ⟨mu.toArray⟩) := by
              rw [ho.out.cellAt j (by omega)]
              simp [scells, hmu]
            have hcL := hrs.out.2.2.2.cell hlu
            have hj0 : (0 : Int) ≤ (j : Int) := Int.natCast_nonneg _
            have hj1 : (j : Int) < (n : Int) := by omega
            by_cases heq : mu = lu
            · have HA2 : Hid (∀ i, i < j + 1 → M[i]? = ls[i]?) := fun i hi => by
                rcases Nat.lt_or_ge i j with h | h
                · exact HA.out i h
                · obtain rfl : i = j := by omega
                  rw [hmu, hlu, heq]
              subst heq
              generalize (⟨mu.toArray⟩ : ByteArray) = s at *
              clear hmu hlu
              go_wp2_with fail
              go_quiet (fail)
              go_wp2_with fail
              go_roundw
              case rel => exact ⟨j + 1, by omega, by go_num, HA2.out, hrs.out.call ⟨rfl, rfl, rfl, Nat.le_refl _, fun _ _ => rfl⟩, own_call ho.out ⟨rfl, rfl, rfl, Nat.le_refl _, fun _ _ => rfl⟩⟩
              case measure => simp [intOf]; omega
            · have HE := Lib.hid (HZ.out (fun e => heq (by rw [e] at hmu; exact Option.some.inj (hmu.symm.trans hlu))))
              have hsn : (⟨mu.toArray⟩ : ByteArray) ≠ ⟨lu.toArray⟩ := fun e => heq (by
                have := congrArg (fun b : ByteArray => b.data.toList) e
                simpa using this)
              generalize (⟨mu.toArray⟩ : ByteArray) = s at *
              generalize (⟨lu.toArray⟩ : ByteArray) = s' at *
              have hsb : (s.toList == s'.toList) = false := by
                rw [beq_eq_false_iff_ne]; intro e; exact hsn (ByteArray.ext (Array.toList_inj.1 (by simpa [ByteArray.toList_eq] using e)))
              clear hmu hlu heq hsn
              obtain ⟨⟨e0, e1, e2⟩, f0, f1, f2⟩ := row3_cells hrs.out.2.1
              have hbl := Lib.hid hrs.out.1
              go_wp2_with fail
              go_quiet (fail)
              go_wp2_with fail
              refine bodyPost_ret (v := .tuple #[.agg #[.int .i64 0, .int .i64 0, .int .i64 0], .bool false]) (by simp [results, Try.results12, go_sem, e0, e1, e2]) rfl (HE.out _ ?_)
              repeat (first | exact hbl.out | exact below_draws hbl.out _ | refine Below.setCell ?_ (by simp) _)
          · obtain rfl : j = n := by omega
            have hMl : M = ls := List.ext_getElem? fun i => by
              rcases Nat.lt_or_ge i j with h | h
              · exact HA.out i h
              · rw [List.getElem?_eq_none (by have := Hlen.out; omega), List.getElem?_eq_none (by have := Hn.out; omega)]
            have HE := Lib.hid (HY.out hMl)
            obtain ⟨⟨m0, m1, m2⟩, -⟩ := row3_cells hrs.out.2.2.1
            obtain ⟨⟨e0, e1, e2⟩, f0, f1, f2⟩ := row3_cells hrs.out.2.1
            have hbl := Lib.hid hrs.out.1
            have hd2 : decide ((j : Int) < (j : Int)) = false := by simp
            clear hMl
            go_wp2_with fail
            refine bodyPost_ret (v := .tuple #[.agg #[.int .i64 x, .int .i64 y, .int .i64 z], .bool true]) (by simp [results, Try.results12, go_sem, e0, e1, e2]) rfl (HE.out _ ?_)
            repeat (first | exact hbl.out | refine Below.setCell ?_ (by simp) _)
      · have HE := Lib.hid (HZ.out (fun e => hlen (by rw [e]; exact Hn.out)))
        obtain ⟨A10, c10, rfl⟩ := intsP.own_form ho
        have hdl : ((M.length : Int) != (n : Int)) = true := by simp; omega
        generalize M.length = m at *
        obtain ⟨⟨e0, e1, e2⟩, f0, f1, f2⟩ := row3_cells hrs2.out.2.1
        have hbl := Lib.hid hrs2.out.1
        clear ho hlen
        go_wp2_with fail
        refine bodyPost_ret (v := .tuple #[.agg #[.int .i64 0, .int .i64 0, .int .i64 0], .bool false]) (by simp [results, Try.results12, go_sem, e0, e1, e2]) rfl (HE.out _ ?_)
        repeat (first | exact hbl.out | refine Below.setCell ?_ (by simp) _)

set_option maxRecDepth 100000 in
theorem readMaze_nil (A : Option Addr) (c : Nat) (W : World) :
    Calls Try.prog 12 #[.slice A 0 c] W (MzB 0 0 0 false W) := by
  have HB := Lib.hid (fun T => (Below.refl W.heap.size W).alloc (Nat.le_refl _) (.cells #[.int .i64 0, .int .i64 0, .int .i64 0] T))
  have HR := Lib.hid (fun T => row3_new 0 0 0 W T)
  go_enter Try.func12, Try.ntmps12
  go_wp2_with fail
  obtain ⟨⟨e0, e1, e2⟩, f0, f1, f2⟩ := row3_cells (HR.out 30)
  have hbl := Lib.hid (HB.out 30)
  refine bodyPost_ret (v := .tuple #[.agg #[.int .i64 0, .int .i64 0, .int .i64 0], .bool false]) (by simp [results, Try.results12, go_sem]) rfl ⟨rfl, ?_⟩
  repeat (first | exact hbl.out | refine Below.setCell ?_ (by simp) _)

theorem readMaze_any (A : Option Addr) (n c : Nat) (ls : List (List UInt8)) (W : World) (hn : ls.length = n) (hm : n ≤ 1048576) (hs : ∀ l ∈ ls, l.length ≤ 1048576) (hi : TxIn W W.heap.size A ls) :
    Calls Try.prog 12 #[.slice A n c] W (MzB (rmC ls (rmX ls)) (rmC ls (rmY ls)) (rmC ls (rmO ls)) (rmB ls) W) := by
  by_cases h0 : 0 < n
  · exact readMaze_some A n c ls W hn h0 hm hs hi
  · obtain rfl : n = 0 := by omega
    obtain rfl : ls = [] := List.eq_nil_of_length_eq_zero hn
    have hb : rmB [] = false := by unfold rmB; rw [decide_eq_false]; exact fun h => h.1 rfl
    have hc : ∀ v, rmC [] v = 0 := fun v => by unfold rmC; rw [if_neg (by rw [hb]; simp)]
    rw [hb, hc, hc, hc]
    exact readMaze_nil A c W
end Go.Proofs.Ytmmdngfhfceefaa.linN
