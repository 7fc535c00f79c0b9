/- Decimal numerals, as lists of bytes: plain facts. -/
import Derived.Test.YtmmdngfhfceefaaDoorHexP
import Derived.Lib.ItoaNum
namespace Go.Proofs.YtmmdngfhfceefaaDoor.fmtP
open hexP
set_option linter.unusedVariables false

/-- The digits of a number, none for 0. -/
def dg (u : Nat) : List UInt8 := if u = 0 then [] else Lib.decDigits u
theorem fig_ofNat (d : Nat) (h : d < 10) : fig d = UInt8.ofNat (48 + d) := by unfold fig; rw [if_pos h]
theorem dg_step (u : Nat) (h : u ≠ 0) : dg u = dg (u / 10) ++ [fig (u % 10)] := by
  unfold dg
  rw [if_neg h]
  by_cases h10 : u < 10
  · rw [if_pos (by omega), Lib.decDigits, dif_pos h10, fig_ofNat _ (by omega)]
    have : u % 10 = u := by omega
    rw [this]; rfl
  · rw [if_neg (by omega), Lib.decDigits, dif_neg h10, fig_ofNat _ (by omega)]
theorem dg_len : ∀ (k u : Nat), u < 10 ^ k → (dg u).length ≤ k
  | 0, u, h => by
    have : u = 0 := by simp at h; omega
    subst this; simp [dg]
  | k + 1, u, h => by
    by_cases h0 : u = 0
    · subst h0; simp [dg]
    · rw [dg_step u h0]
      have hk : u / 10 < 10 ^ k := by rw [Nat.pow_succ] at h; omega
      have := dg_len k (u / 10) hk
      simp; omega
theorem dg_len19 (n : Int) (h1 : -9223372036854775808 ≤ n) (h2 : n ≤ 9223372036854775807) : (dg n.natAbs).length ≤ 19 :=
  dg_len 19 _ (by have : (10 : Nat) ^ 19 = 10000000000000000000 := by decide
                  omega)
theorem itoa_zero : Lib.itoa 0 = [48] := by
  unfold Lib.itoa; rw [if_neg (by omega), Lib.decDigits, dif_pos (by simp)]; rfl
theorem itoa_neg (n : Int) (h : n < 0) : Lib.itoa n = 45 :: dg n.natAbs := by
  unfold Lib.itoa dg; rw [if_pos h, if_neg (by omega)]
theorem itoa_pos (n : Int) (h : 0 < n) : Lib.itoa n = dg n.natAbs := by
  unfold Lib.itoa dg; rw [if_neg (by omega), if_neg (by omega)]
  have : n.toNat = n.natAbs := by omega
  rw [this]
theorem tdiv_abs (n : Int) : (n.tdiv 10).natAbs = n.natAbs / 10 := by rw [Int.natAbs_tdiv]; rfl
theorem tmod_abs (n : Int) : (n.tmod 10).natAbs = n.natAbs % 10 := by rw [Int.natAbs_tmod]; rfl
end Go.Proofs.YtmmdngfhfceefaaDoor.fmtP
