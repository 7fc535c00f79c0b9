/- The contract of the model's determinant. -/
import Derived.Test.YthgnhamokikhkaaMatN
import Derived.Test.YthgnhamokikhkaaMatM
namespace Go.Proofs.Ythgnhamokikhkaa.matO
open Go.ChangeShapes Go.WideShapes Go.ChangeAt Go.RowKit
open draw gridP gridC gridE bitP mazeP mazeQ mazeC mazeM mazeR mazeS intsP reachD intA listK forest deadP detP trsP barP rowsP matP matM matN
set_option linter.unusedVariables false

theorem btB_is {S k : Nat} (h : S < 2 ^ 16) (hk : k < 16) : btB (S : Int) (k : Int) = decide (bt S k = 1) := by
  unfold btB
  rw [bitZ_bt (by omega) (by omega), Int.toNat_natCast, Int.toNat_natCast]
  rw [decide_eq_decide]; omega
theorem sg_pm : ∀ m, sg m = 1 ∨ sg m = -1
  | 0 => .inl rfl
  | m + 1 => by
    rcases sg_pm m with h | h
    · exact .inr (by show - sg m = -1; rw [h])
    · exact .inl (by show - sg m = 1; rw [h]; rfl)
theorem mfn_at {ls : List (List Int)} {i j : Nat} {l : List Int} {z : Int} (hl : ls[i]? = some l) (hz : l[j]? = some z) : mfn ls i j = z := by
  simp [mfn, List.getD_eq_getElem?_getD, hl, hz]

set_option maxRecDepth 100000 in
set_option maxHeartbeats 4000000 in
theorem l11Det_any (A : Option Addr) (n c : Nat) (ls : List (List Int)) (W : World) (hn : ls.length = n) (hm : n ≤ 16) (hl : ∀ l ∈ ls, l.length = n) (hi : MxIn W W.heap.size A ls) :
    Calls Try.prog 113 #[.slice A n c] W (Nm (wrap64 (dm (mfn ls) (List.range n))) W) := by
  obtain ⟨i0, hi0, hz0, hz1, hz2⟩ := info_parts info_int
  have HI := Lib.hid hi
  have HL := Lib.hid hl
  have Hn := Lib.hid hn
  have HK := @Lib.hid _ (fun w' b => @nm_mk (wrap64 (dm (mfn ls) (List.range n))) (wrap64 (dm (mfn ls) (List.range n))) W w' rfl b)
  have hp1 : 2 ^ n ≤ 2 ^ 16 := Nat.pow_le_pow_right (by decide) hm
  have hp0 : 0 < 2 ^ n := Nat.pow_pos (by decide)
  have hpi : ((2 : Int) ^ n) = ((2 ^ n : Nat) : Int) := by simp
  have h16 : (2 : Nat) ^ 16 = 65536 := by decide
  have hsh : wrap64 ((2 : Int) ^ n) = ((2 ^ n : Nat) : Int) := by
    rw [hpi, IntWalk.wrap64_in _ (by omega)]
  obtain ⟨N, hN⟩ : ∃ N, N = 2 ^ n := ⟨_, rfl⟩
  have hmk := run_make (P := Try.prog) W 34 3 i0 (.int .i64 0) Try.underlying34 hi0 hz0 .i64 .i64 (N : Int) (N : Int) (by omega) (by omega) (by rw [hz2]; omega) (by omega)
  rw [hz1] at hmk
  simp only [Int.toNat_natCast, Nat.mul_one] at hmk
  clear hi hl hn
  rw [← hN] at hsh
  have hn0 : (0 : Int) ≤ (n : Int) := Int.natCast_nonneg _
  have hn1 : (n : Int) ≤ 16 := by omega
  have hN1 : (1 : Int) ≤ (N : Int) := by omega
  have hN2 : (N : Int) ≤ 65536 := by omega
  have hN0 : 0 < N := by omega
  have HN := Lib.hid hN
  clear hpi hp1 hp0 h16 hN
  have hrow0 := World.ownsRow_lit (base := W.heap.size) (e := 3) (size := 1) W (madeCells (Value.int .i64 0).cells N) N (Nat.le_refl _) (by unfold maxLen; omega) (by rw [size_madeCells]; omega)
  rw [made_zero] at hrow0
  have hc0 : (W.alloc (.cells (madeCells (Value.int .i64 0).cells N) 3)).cell? ⟨W.heap.size, 0, none⟩ = some (.int .i64 0) := own_cellI hrow0 (by rw [List.getElem?_replicate, if_pos (by omega)])
  have hf0 := hrow0.frozenAt 0
  have hmc : (madeCells #[Value.int .i64 0] N)[0]? = some (.int .i64 0) := by
    rw [← Array.getElem?_toList]
    show (madeCells (Value.int .i64 0).cells N).toList[0]? = _
    rw [made_zero, icells_at _ 0 (by simpa using hN0)]; simp
  have hd0 : Hid (DN W (mfn ls) n 0 n (W.alloc (.cells ((madeCells #[Value.int .i64 0] N).setIfInBounds 0 (.int .i64 1)) 3))) := by
    have hw : W.alloc (.cells ((madeCells #[Value.int .i64 0] N).setIfInBounds 0 (.int .i64 1)) 3) = (W.alloc (.cells (madeCells (Value.int .i64 0).cells N) 3)).setCell ⟨W.heap.size, 0, none⟩ (.int .i64 1) := by
      go_simp
    rw [hw]
    refine ⟨(below_box W _).setCell (Nat.le_refl _) _, ?_⟩
    have h1 := (hrow0.stored 0 (.int .i64 1)).1
    have e2 : (icells (List.replicate N 0)).set 0 (.int .i64 1) = icells (plL (mfn ls) n 0 n) := by rw [← pl_start, HN.out]; simp [icells, List.map_set]
    rw [e2, HN.out] at h1
    rw [HN.out]; exact h1
  clear hrow0
  go_enter Try.func113, Try.ntmps113
  go_wp2_with fail
  clear hc0 hf0 hmc
  try simp only [hsh]
  clear hmk
  have HMf := @Lib.hid _ (fun i j l z hl hz => @mfn_at ls i j l z hl hz)
  generalize mfn ls = a at *
  go_loopw [5] (fun u5 wr => ∃ S : Nat, S ≤ N ∧ u5 = .int .i64 S ∧ DN W a n S n wr) (fun u5 _ => N - (intOf u5).toNat)
  case atStart => exact ⟨0, Nat.zero_le _, rfl, hd0.out⟩
  case round =>
    clear hd0
    obtain ⟨S, hS, rfl, hd1⟩ := hrel
    have hd := Lib.hid hd1
    clear hd1
    have hS0 : (0 : Int) ≤ (S : Int) := Int.natCast_nonneg _
    by_cases hSN : S < N
    · have hS1 : (S : Int) < (N : Int) := by omega
      have hdS : decide ((S : Int) < (N : Int)) = true := decide_eq_true hS1
      have HSn : Hid (S < 2 ^ n) := Lib.hid (by have := HN.out; omega)
      have HBit := Lib.hid (fun (k : Nat) (hk : k < n) X => bit_b (S : Int) (k : Int) X (by omega) (by omega) (by omega) (by omega))
      have hS16 : S < 2 ^ 16 := by
        have : (2 : Nat) ^ 16 = 65536 := by decide
        omega
      have HBis := Lib.hid (fun k (hk : k < n) => @btB_is S k hS16 (by omega))
      clear hS16
      go_wp2_with fail
      try simp only [hsh]
      go_loopw [6, 7] (fun u6 u7 wq => ∃ k : Nat, k ≤ n ∧ u7 = .int .i64 k ∧ u6 = .int .i64 (pcN S k) ∧ DN W a n S n wq) (fun _ u7 _ => n - (intOf u7).toNat)
      case atStart => exact ⟨0, Nat.zero_le _, rfl, rfl, hd.out⟩
      case round =>
        clear hd
        obtain ⟨k, hk, rfl, rfl, hd1⟩ := hrel
        have hd := Lib.hid hd1
        clear hd1
        have hk0 : (0 : Int) ≤ (k : Int) := Int.natCast_nonneg _
        have hpk := pc_le' S k
        by_cases hkn : k < n
        · have hk1 : (k : Int) < (n : Int) := by omega
          have hdk : decide ((k : Int) < (n : Int)) = true := decide_eq_true hk1
          have HB1 := Lib.hid (HBit.out k hkn)
          rw [HBis.out k hkn] at HB1
          have hb := pc_succ S k
          have hb2 := bt_le S k
          by_cases hbt : bt S k = 1
          · rw [decide_eq_true hbt] at HB1
            have HP := Lib.hid (show pcN S (k + 1) = pcN S k + 1 by omega)
            clear hb hb2 hbt
            generalize pcN S k = q at *
            go_wp2_with fail
            refine (HB1.out _).mono ?_
            rintro e w1 ⟨rfl, rfl⟩
            go_wp2_with fail
            go_roundw
            case rel => exact ⟨k + 1, by omega, by go_num, by rw [HP.out]; simp, hd.out⟩
            case measure => simp [intOf]; omega
          · rw [decide_eq_false hbt] at HB1
            have HP := Lib.hid (show pcN S (k + 1) = pcN S k by omega)
            clear hb hb2 hbt
            generalize pcN S k = q at *
            go_wp2_with fail
            refine (HB1.out _).mono ?_
            rintro e w1 ⟨rfl, rfl⟩
            go_wp2_with fail
            go_roundw
            case rel => exact ⟨k + 1, by omega, by go_num, by rw [HP.out], hd.out⟩
            case measure => simp [intOf]; omega
        · obtain rfl : k = n := by omega
          have hdk : decide ((k : Int) < (k : Int)) = false := by simp
          have hcell := hd.out.cell HSn.out
          rw [acc_all HSn.out (Nat.le_refl _)] at hcell
          by_cases hfull : pcN S k = k
          · have hfI : (((pcN S k : Nat) : Int) == (k : Int)) = true := by simp [hfull]
            have HD := Lib.hid (hd.out.same (pl_skip HSn.out (.inl (full_of hfull))))
            generalize pcN S k = q at *
            go_wp2_with fail
            go_roundw
            case rel => exact ⟨S + 1, by omega, by go_num, HD.out⟩
            case measure => simp [intOf]; omega
          · have hfI : (((pcN S k : Nat) : Int) == (k : Int)) = false := by simp; omega
            by_cases hz : wrap64 (dsN a k S) = 0
            · rw [hz] at hcell
              have HD := Lib.hid (hd.out.same (pl_skip HSn.out (.inr hz)))
              generalize pcN S k = q at *
              go_wp2_with fail
              go_roundw
              case rel => exact ⟨S + 1, by omega, by go_num, HD.out⟩
              case measure => simp [intOf]; omega
            · have hzI : (wrap64 (dsN a k S) == 0) = false := by rw [beq_eq_false_iff_ne]; exact hz
              have hrow : pcN S k < k := by omega
              obtain ⟨l, hl⟩ : ∃ l, ls[pcN S k]? = some l := ⟨ls[pcN S k]'(by have := Hn.out; omega), List.getElem?_eq_getElem (by have := Hn.out; omega)⟩
              have hll := HL.out l (List.mem_of_getElem? hl)
              have HLi := Lib.hid hl
              have Hll := Lib.hid hll
              have Hq : ∃ q, Hid (pcN S k = q) := ⟨_, rfl⟩
              obtain ⟨q, Hq⟩ := Hq
              have HMono : Hid (∀ j, j ≤ k → pcN S j ≤ q) := Lib.hid fun j hj => by
                obtain ⟨d, rfl⟩ : ∃ d, k = j + d := ⟨k - j, by omega⟩
                rw [← Hq.out]; exact pc_mono S j d
              have HPut := @Lib.hid _ (fun j hj h0 => @pl_put a k S j hj h0 HSn.out)
              have HSame := @Lib.hid _ (fun j hj h => @pl_same a k S j hj h)
              have HTurn := Lib.hid (@pl_turn a k S)
              have Hsg0 : Hid (sg (q - pcN S k) = 1) := Lib.hid (by rw [Hq.out, Nat.sub_self]; rfl)
              rw [Hq.out] at HPut HSame HLi hfI hrow ⊢
              clear hl hll hfull hpk
              have hcS := Lib.hid (fun X κ (h : DN W a k S κ X) => by
                have := h.cell HSn.out
                rw [acc_all HSn.out (Nat.le_refl _)] at this
                exact this)
              generalize hP : wrap64 (dsN a k S) = P at *
              go_wp2_with fail
              clear hcell
              go_loopw [8, 9] (fun u8 u9 wv => ∃ κ : Nat, κ ≤ k ∧ u9 = .int .i64 ((κ : Int) - 1) ∧ u8 = .int .i64 (sg (q - pcN S κ)) ∧ DN W a k S κ wv) (fun _ u9 _ => (intOf u9 + 1).toNat)
              case atStart => exact ⟨k, Nat.le_refl _, rfl, by rw [Hsg0.out], hd.out⟩
              case round =>
                clear hd Hsg0
                obtain ⟨κ, hκ, rfl, rfl, hd1⟩ := hrel
                have hd := Lib.hid hd1
                clear hd1
                rcases κ with _ | j
                · have HD := Lib.hid (hd.out.same HTurn.out)
                  rw [show ((0 : Nat) : Int) - 1 = -1 from rfl]
                  generalize sg (q - pcN S 0) = s0 at *
                  go_wp2_with fail
                  go_roundw
                  case rel => exact ⟨S + 1, by omega, by go_num, HD.out⟩
                  case measure => simp [intOf]; omega
                · have e0 : (((j + 1 : Nat)) : Int) - 1 = (j : Int) := by omega
                  rw [e0]
                  have hj0 : (0 : Int) ≤ (j : Int) := Int.natCast_nonneg _
                  have hjk : j < k := by omega
                  have hj1 : (j : Int) < (k : Int) := by omega
                  have HB1 := Lib.hid (HBit.out j hjk)
                  rw [HBis.out j hjk] at HB1
                  have hb := pc_succ S j
                  have hb2 := bt_le S j
                  have hmn := HMono.out (j + 1) (by omega)
                  have hdj : decide ((0 : Int) ≤ (j : Int)) = true := decide_eq_true hj0
                  have hspm := sg_pm (q - pcN S (j + 1))
                  by_cases hbt : bt S j = 1
                  · rw [decide_eq_true hbt] at HB1
                    have HP := Lib.hid (show sg (q - pcN S j) = - sg (q - pcN S (j + 1)) by
                      rw [show q - pcN S j = (q - pcN S (j + 1)) + 1 by omega]; rfl)
                    have HD := Lib.hid (hd.out.same (HSame.out j hjk (.inl hbt)))
                    clear hb hb2 hbt hmn
                    generalize sg (q - pcN S (j + 1)) = s at *
                    have hs0 : -1 ≤ s := by omega
                    have hs1 : s ≤ 1 := by omega
                    clear hspm
                    go_wp2_with fail
                    refine (HB1.out _).mono ?_
                    rintro e w1 ⟨rfl, rfl⟩
                    go_wp2_with fail
                    go_roundw
                    case rel => exact ⟨j, by omega, rfl, by rw [HP.out], HD.out⟩
                    case measure => simp [intOf]
                  · rw [decide_eq_false hbt] at HB1
                    have hb0 : bt S j = 0 := by omega
                    have HP := Lib.hid (show sg (q - pcN S j) = sg (q - pcN S (j + 1)) by rw [show pcN S (j + 1) = pcN S j by omega])
                    obtain ⟨ad, hA, hab, A1, c1, ea, ra⟩ := mx_cell (HI.out.below hd.out.1) HLi.out
                    obtain ⟨z, hz⟩ : ∃ z, l[j]? = some z := ⟨l[j]'(by have := Hll.out; omega), List.getElem?_eq_getElem (by have := Hll.out; omega)⟩
                    obtain ⟨ad2, rfl, hab2, ez⟩ := ints_cell ra hz
                    have haz := HMf.out q j l z HLi.out hz
                    rw [Hll.out] at ea
                    subst hA
                    have hq0 : (0 : Int) ≤ (q : Int) := Int.natCast_nonneg _
                    have hq1 : (q : Int) < (k : Int) := by omega
                    by_cases hzz : z = 0
                    · have HD := Lib.hid (hd.out.same (HSame.out j hjk (.inr (haz.trans hzz))))
                      have hzI : (z != 0) = false := by simp [hzz]
                      clear hb hb2 hbt hmn hb0 hz ra haz hzz hspm
                      generalize sg (q - pcN S (j + 1)) = s at *
                      go_wp2_with fail
                      refine (HB1.out _).mono ?_
                      rintro e w1 ⟨rfl, rfl⟩
                      go_wp2_with fail
                      go_roundw
                      case rel => exact ⟨j, by omega, rfl, by rw [HP.out], HD.out⟩
                      case measure => simp [intOf]
                    · have hzI : (z != 0) = true := by simp [hzz]
                      have hT : S + 2 ^ j < 2 ^ k := add_lt HSn.out hjk hb0
                      have hcT := hd.out.cell hT
                      have hcP := hcS.out _ _ hd.out
                      have hfT := hd.out.2.frozenAt (S + 2 ^ j)
                      have hput := HPut.out j hjk hb0
                      rw [haz] at hput
                      generalize hac : acc a k (S + 2 ^ j) S (j + 1) = ac at *
                      have HPt := Lib.hid (fun (z' : Int) (e : z' = wrap64 (ac + sg (q - pcN S (j + 1)) * P * z)) => hd.out.put (S' := S) (κ' := j) (t := S + 2 ^ j) (z := z') (by subst e; exact hput))
                      have hT2 : S + 2 ^ j < N := by have := HN.out; omega
                      have hor : bits .or .i64 (S : Int) (wrap64 (2 ^ j)) = ((S + 2 ^ j : Nat) : Int) := by
                        have hpb := pow_bd (j : Int) (by omega)
                        have := or_is (o := (S : Int)) (g := (j : Int)) (by omega) (by omega) (by omega) (by omega)
                        rw [bitZ_bt (by omega) (by omega), Int.toNat_natCast, Int.toNat_natCast, hb0, if_neg (by decide)] at this
                        rw [Int.toNat_natCast] at hpb
                        rw [IntWalk.wrap64_in _ (by omega), this]; simp
                      have HW : Hid (∀ s : Int, wrap64 (wrap64 ac + wrap64 (wrap64 (s * P) * z)) = wrap64 (ac + s * P * z)) := Lib.hid fun s => by rw [wrap_add, wrap_mul, wrap_add']
                      clear hb hb2 hbt hmn hb0 hz ra haz hzz hspm hput hT hac
                      generalize sg (q - pcN S (j + 1)) = s at *
                      generalize hTt : S + 2 ^ j = T at *
                      generalize wrap64 ac = Pt at *
                      have hT0 : (0 : Int) ≤ (T : Int) := Int.natCast_nonneg _
                      have hT1 : (T : Int) < (N : Int) := by omega
                      go_wp2_with fail
                      refine (HB1.out _).mono ?_
                      rintro e w1 ⟨rfl, rfl⟩
                      go_wp2_with fail
                      go_region
                      all_goals go_wp2_with fail
                      go_roundw
                      case rel => exact ⟨j, by omega, rfl, by rw [HP.out], (HPt.out _ (HW.out s)).call ⟨rfl, rfl, rfl, Nat.le_refl _, fun _ _ => rfl⟩⟩
                      case measure => simp [intOf]
    · obtain rfl : S = N := by omega
      have hdS : decide ((S : Int) < (S : Int)) = false := by simp
      have hcell := own_cellI hd.out.2 (pl_end (a := a) (n := n) (S := S) (κ := n) (by have := HN.out; omega))
      rw [← HN.out] at hcell
      have hi0 : (0 : Int) ≤ (S : Int) - 1 := by omega
      have hi1 : (S : Int) - 1 < (S : Int) := by omega
      have hi2 : ((S : Int) - 1).toNat = S - 1 := by omega
      go_wp2_with fail
      go_ret
      exact HK.out _ hd.out.1

theorem determinant_any (A : Option Addr) (n c : Nat) (ls : List (List Int)) (W : World) (hn : ls.length = n) (hm : n ≤ 1048576) (hl : ∀ l ∈ ls, l.length ≤ 1048576) (hi : MxIn W W.heap.size A ls) :
    Calls Try.prog 54 #[.slice A n c] W (Nm (deZ ls) W) := by
  have HS := Lib.hid (fun X (h : Below W.heap.size W X) => squareOk_any A n c ls X hn hm hl ((hi.below h).more h.size))
  have HB := Lib.hid (fun o => below_box W o)
  have HR := Lib.hid (Below.refl W.heap.size W)
  have HK := @Lib.hid _ (fun w' v e b => @nm_mk v (deZ ls) W w' e b)
  by_cases hq : sqB ls = true
  · obtain ⟨q1, q2⟩ := sq_len hq
    have HD := Lib.hid (fun X (h : Below W.heap.size W X) => l11Det_any A n c ls X hn (by omega) (fun l hl => by rw [(q2 l hl).1, hn]) ((hi.below h).more h.size))
    have HE : Hid (wrap64 (dm (mfn ls) (List.range n)) = deZ ls) := Lib.hid (by unfold deZ; rw [if_pos hq, hn])
    rw [hq] at HS
    clear hn hm hl hi q1 q2 hq
    generalize wrap64 (dm (mfn ls) (List.range n)) = v at *
    go_enter Try.func54, Try.ntmps54
    go_wp2_with fail
    refine (HS.out _ HR.out).mono ?_
    rintro e w1 ⟨rfl, hb⟩
    have hb1 := Lib.hid hb
    clear hb
    go_wp2_with fail
    refine (HD.out _ hb1.out).mono ?_
    rintro e w2 ⟨rfl, hb⟩
    have hb2 := Lib.hid (below_call hb1.out hb)
    clear hb
    go_wp2_with fail
    go_ret
    exact HK.out _ _ HE.out hb2.out
  · rw [show sqB ls = false by simpa using hq] at HS
    have HE : Hid ((0 : Int) = deZ ls) := Lib.hid (by unfold deZ; rw [if_neg hq])
    clear hn hm hl hi hq
    go_enter Try.func54, Try.ntmps54
    go_wp2_with fail
    refine (HS.out _ HR.out).mono ?_
    rintro e w1 ⟨rfl, hb⟩
    have hb1 := Lib.hid hb
    clear hb
    go_wp2_with fail
    go_ret
    exact HK.out _ _ HE.out hb1.out
end Go.Proofs.Ythgnhamokikhkaa.matO
