/- The contracts of the model's functions on walks without loops. -/
import Derived.Test.YtgocbnnhhpmndaaErsO
import Derived.Test.YtgocbnnhhpmndaaWayM
namespace Go.Proofs.Ytgocbnnhhpmndaa.ersM
open Go.ChangeShapes Go.WideShapes Go.ChangeAt Go.RowKit
open draw gridP gridC gridE bitP mazeP mazeC mazeM mazeS intsP reachP reachM reachN reachD intA listK wayP ersP ersO
set_option linter.unusedVariables false

set_option maxRecDepth 100000 in
/-- Whether a number is in a list. -/
theorem in_any (A : Option Addr) (n c : Nat) (l : List Int) (u : Int) (W : World) (hn : l.length = n) (hm : n ≤ 1048576) (hi : IntsIn W W.heap.size A l) :
    Calls Try.prog 50 #[.slice A n c, .int .i64 u] W fun e w' => e = .returned (.bool (decide (u ∈ l))) ∧ W = w' := by
  have HY := Lib.hid hi
  have Hn := Lib.hid hn
  clear hi hn
  go_enter Try.func50, Try.ntmps50
  go_wp2_with fail
  go_loopw [5] (fun u5 wr => ∃ k : Nat, k ≤ n ∧ u5 = .int .i64 k ∧ (∀ j d, j < k → l[j]? = some d → d ≠ u) ∧ wr = W) (fun u5 _ => n - (intOf u5).toNat)
  case atStart => exact ⟨0, Nat.zero_le _, rfl, fun j d hj => absurd hj (by omega), rfl⟩
  case round =>
    obtain ⟨k, hk, rfl, hin, rfl⟩ := hrel
    have HIn := Lib.hid hin
    clear hin
    by_cases hkn : k < n
    · obtain ⟨v, hv, hmem⟩ : ∃ v, l[k]? = some v ∧ v ∈ l := by
        have hkl : k < l.length := by have := Hn.out; omega
        exact ⟨l[k], List.getElem?_eq_getElem hkl, List.getElem_mem hkl⟩
      obtain ⟨ad, rfl, hab, hcell⟩ := ints_cell HY.out hv
      have hk0 : (0 : Int) ≤ (k : Int) := Int.natCast_nonneg _
      have hk1 : (k : Int) < (n : Int) := by omega
      by_cases hd : v = u
      · have hc : (v == u) = true := by simpa using hd
        have HE : Hid (decide (u ∈ l) = true) := Lib.hid (decide_eq_true (by rw [← hd]; exact hmem))
        clear hd hv hmem
        go_wp2_with fail
        go_ret
        exact bq_mk HE.out
      · have hc : (v == u) = false := by simpa using hd
        have HN : Hid (∀ j d, j < k + 1 → l[j]? = some d → d ≠ u) := fun j d hj hl => by
          rcases Nat.lt_or_ge j k with h | h
          · exact HIn.out j d h hl
          · obtain rfl : j = k := by omega
            rw [hv] at hl; cases hl; exact hd
        clear hd hv hmem
        go_wp2_with fail
        go_roundw
        case rel => exact ⟨k + 1, by omega, by go_num, HN.out, by trivial⟩
        case measure => simp [intOf]; omega
    · obtain rfl : k = n := by omega
      have HE : Hid (decide (u ∈ l) = false) := Lib.hid (decide_eq_false fun h => by
        obtain ⟨j, hj⟩ := List.getElem?_of_mem h
        have := (List.getElem?_eq_some_iff.1 hj).1
        exact HIn.out j u (by have := Hn.out; omega) hj rfl)
      go_wp2_with fail
      go_ret
      exact bq_mk HE.out

end Go.Proofs.Ytgocbnnhhpmndaa.ersM
