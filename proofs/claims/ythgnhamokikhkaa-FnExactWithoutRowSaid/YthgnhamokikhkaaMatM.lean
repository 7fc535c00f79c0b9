/- The contracts of the model's functions on square matrices. -/
import Derived.Test.YthgnhamokikhkaaMatP
import Derived.Test.YthgnhamokikhkaaRowsP
import Derived.Test.YthgnhamokikhkaaModM
namespace Go.Proofs.Ythgnhamokikhkaa.matM
open Go.ChangeShapes Go.WideShapes Go.ChangeAt Go.RowKit
open draw gridP gridC gridE bitP mazeP mazeC mazeM mazeR mazeS intsP reachD intA listK rowsP matP
set_option linter.unusedVariables false

set_option maxRecDepth 100000 in
set_option maxHeartbeats 2000000 in
theorem squareOk_any (A : Option Addr) (n c : Nat) (ls : List (List Int)) (W : World) (hn : ls.length = n) (hm : n ≤ 1048576) (hl : ∀ l ∈ ls, l.length ≤ 1048576) (hi : MxIn W W.heap.size A ls) :
    Calls Try.prog 112 #[.slice A n c] W (Bl (sqB ls) W) := by
  have HI := Lib.hid hi
  have HL := Lib.hid hl
  have Hn := Lib.hid hn
  have HR := Lib.hid (Below.refl W.heap.size W)
  have HK := @Lib.hid _ (fun w' v e b => @bl_mk v (sqB ls) W w' e b)
  have HIn := Lib.hid (fun z X => in_b z (-16) 16 X)
  clear hi hl hn
  go_enter Try.func112, Try.ntmps112
  go_wp2_with fail
  go_loopw [3] (fun u3 wr => ∃ i : Nat, i ≤ n ∧ u3 = .int .i64 i ∧ (∀ (j : Nat) (l : List Int), j < i → ls[j]? = some l → rowB n l = true) ∧ Below W.heap.size W wr) (fun u3 _ => n - (intOf u3).toNat)
  case atStart => exact ⟨0, Nat.zero_le _, rfl, fun j l h => absurd h (by omega), HR.out⟩
  case round =>
    obtain ⟨i, hi, rfl, hall, hb0⟩ := hrel
    have HA := Lib.hid hall
    have hbl := Lib.hid hb0
    clear hall hb0 HR
    have hi0 : (0 : Int) ≤ (i : Int) := Int.natCast_nonneg _
    by_cases hin : i < n
    · have hi1 : (i : Int) < (n : Int) := by omega
      obtain ⟨l, hl⟩ : ∃ l, ls[i]? = some l := ⟨ls[i]'(by have := Hn.out; omega), List.getElem?_eq_getElem (by have := Hn.out; omega)⟩
      have hll := HL.out l (List.mem_of_getElem? hl)
      obtain ⟨ad, rfl, hab, A1, c1, ea, ra⟩ := mx_cell (HI.out.below hbl.out) hl
      have HLi := Lib.hid hl
      have Hbad : Hid (rowB n l = false → false = sqB ls) := Lib.hid fun h => (sq_bad (List.mem_of_getElem? hl) (by rw [Hn.out]; exact h)).symm
      have HNx : Hid (rowB n l = true → ∀ (j : Nat) (m : List Int), j < i + 1 → ls[j]? = some m → rowB n m = true) := Lib.hid fun h j m hj hm => by
        rcases Nat.lt_or_ge j i with h' | h'
        · exact HA.out j m h' hm
        · obtain rfl : j = i := by omega
          rw [hl] at hm; cases hm; exact h
      clear ra hl HA
      by_cases hlen : l.length = n
      · rw [hlen] at ea
        have hnn : ((n : Int) != (n : Int)) = false := by simp
        have Hlen := Lib.hid hlen
        clear hlen hll
        go_wp2_with fail
        clear ea
        go_loopw [4, 5] (fun u4 u5 wq => ∃ k : Nat, k ≤ n ∧ u5 = .int .i64 k ∧ u4 = .int .i64 (abS (l.take k)) ∧ (∀ z ∈ l.take k, -16 ≤ z ∧ z ≤ 16) ∧ Below W.heap.size W wq) (fun _ u5 _ => n - (intOf u5).toNat)
        case atStart => exact ⟨0, Nat.zero_le _, rfl, rfl, fun z hz => by simp at hz, hbl.out⟩
        case round =>
          clear hbl
          obtain ⟨k, hk, rfl, rfl, hr0, hb0⟩ := hrel
          have hrg := Lib.hid hr0
          have hbl := Lib.hid hb0
          obtain ⟨a1, a2⟩ := abS_bd hr0
          rw [List.length_take] at a2
          clear hr0 hb0
          have hk0 : (0 : Int) ≤ (k : Int) := Int.natCast_nonneg _
          obtain ⟨ad', had, -, A2, c2, ea, ra⟩ := mx_cell (HI.out.below hbl.out) HLi.out
          cases had
          rw [Hlen.out] at ea
          by_cases hkn : k < n
          · have hk1 : (k : Int) < (n : Int) := by omega
            obtain ⟨z, hz⟩ : ∃ z, l[k]? = some z := ⟨l[k]'(by have := Hlen.out; omega), List.getElem?_eq_getElem (by have := Hlen.out; omega)⟩
            obtain ⟨ad2, rfl, hab2, ez⟩ := ints_cell ra hz
            have hI1 := Lib.hid (fun X => HIn.out z X)
            by_cases hzr : -16 ≤ z ∧ z ≤ 16
            · rw [show inB z (-16) 16 = true from decide_eq_true hzr] at hI1
              obtain ⟨z0, z1⟩ := hzr
              have HS := Lib.hid (show abS (l.take (k + 1)) = abS (l.take k) + (if z < -z then -z else z) by rw [abS_next hz, Int.max_def]; split <;> split <;> omega)
              have HG : Hid (∀ y ∈ l.take (k + 1), -16 ≤ y ∧ y ≤ 16) := Lib.hid fun y hy => by
                rw [List.take_add_one, hz] at hy
                rcases List.mem_append.1 hy with h | h
                · exact hrg.out y h
                · have : y = z := by simpa using h
                  rw [this]; exact ⟨z0, z1⟩
              clear hz ra
              generalize hs : abS (l.take k) = s at *
              generalize hs2 : abS (l.take (k + 1)) = s2 at *
              go_wp2_with fail
              refine (hI1.out _).mono ?_
              rintro e w1 ⟨rfl, rfl⟩
              go_wp2_with fail
              go_quiet (fail)
              go_wp2_with fail
              go_roundw
              case rel => exact ⟨k + 1, by omega, by go_num, by rw [hs2, HS.out], HG.out, below_draws hbl.out _⟩
              case measure => simp [intOf]; omega
            · rw [show inB z (-16) 16 = false from decide_eq_false hzr] at hI1
              have HB := Lib.hid (Hbad.out (row_bad (List.mem_of_getElem? hz) hzr))
              clear hz ra hzr
              go_wp2_with fail
              refine (hI1.out _).mono ?_
              rintro e w1 ⟨rfl, rfl⟩
              go_wp2_with fail
              go_ret
              exact HK.out _ _ HB.out hbl.out
          · obtain rfl : k = n := by omega
            clear ra ea
            have e1 : l.take k = l := List.take_of_length_le (by have := Hlen.out; omega)
            rw [e1] at hrg a1 a2 ⊢
            have hrow : rowB k l = decide (abS l ≤ 16) := by
              unfold rowB
              rw [decide_eq_true Hlen.out, Bool.true_and, List.all_eq_true.2 fun z hz => decide_eq_true (hrg.out z hz), Bool.true_and]
            have Hrow := Lib.hid hrow
            clear hrow e1
            generalize hs : abS l = s at *
            by_cases h16 : s ≤ 16
            · have hd : decide (16 < s) = false := by simp; omega
              have HX := Lib.hid (HNx.out (Hrow.out.trans (decide_eq_true h16)))
              go_wp2_with fail
              go_roundw
              case rel => exact ⟨i + 1, by omega, by go_num, HX.out, hbl.out⟩
              case measure => simp [intOf]; omega
            · have hd : decide (16 < s) = true := by simp; omega
              have HB := Lib.hid (Hbad.out (Hrow.out.trans (decide_eq_false h16)))
              go_wp2_with fail
              go_ret
              exact HK.out _ _ HB.out hbl.out
      · have HB := Lib.hid (Hbad.out (by unfold rowB; rw [decide_eq_false hlen]; rfl))
        have hnn : ((l.length : Int) != (n : Int)) = true := by rw [bne_iff_ne]; omega
        generalize l.length = q at *
        go_wp2_with fail
        go_ret
        exact HK.out _ _ HB.out hbl.out
    · obtain rfl : i = n := by omega
      have HE : Hid (decide ((i : Int) ≤ 16) = sqB ls) := Lib.hid (by
        unfold sqB
        rw [List.all_eq_true.2 fun l hl => by
          obtain ⟨j, hj, e⟩ := List.mem_iff_getElem.1 hl
          rw [Hn.out]
          exact HA.out j l (by have := Hn.out; omega) (by rw [List.getElem?_eq_getElem hj, e]), Bool.true_and, Hn.out, decide_eq_decide]
        omega)
      go_wp2_with fail
      go_ret
      exact HK.out _ _ HE.out hbl.out
end Go.Proofs.Ythgnhamokikhkaa.matM
