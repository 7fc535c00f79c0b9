/- The laws' own small functions: whether a code is long, and a byte of it. -/
import Derived.Test.YtlhmedokpjkjpaaDrawA
namespace Go.Proofs.Ytlhmedokpjkjpaa.bigK
open Go.ChangeShapes Go.WideShapes Go.ChangeAt Go.RowKit
open draw
set_option linter.unusedVariables false

theorem ret_bool {a b : Bool} (h : a = b) : Ending.returned (.bool a) = .returned (.bool b) := by rw [h]

theorem big_yes (A : Option Addr) (n c : Nat) (w : World) (hn : n ≤ maxLen) (h : 1048576 < n) :
    Calls Try.prog 11 #[.slice A n c] w fun e w' => e = .returned (.bool true) ∧ w = w' := by
  unfold maxLen at hn
  go_enter Try.func11, Try.ntmps11
  go_wp2
  go_ret
  exact ⟨ret_bool (by simp; omega), rfl⟩
theorem big_no (A : Option Addr) (n c : Nat) (w : World) (hn : n ≤ maxLen) (h : n ≤ 1048576) :
    Calls Try.prog 11 #[.slice A n c] w fun e w' => e = .returned (.bool false) ∧ w = w' := by
  unfold maxLen at hn
  go_enter Try.func11, Try.ntmps11
  go_wp2
  go_ret
  exact ⟨ret_bool (by simp; omega), rfl⟩


/-- A byte of the code, 0 where it has none. -/
def AtByte (w : World) (e : Ending) (w' : World) : Prop := ∃ a : Nat, a < 256 ∧ e = .returned (.int .i64 a) ∧ w = w'
theorem atByte_mk {w : World} {a : Nat} (h : a < 256) : AtByte w (.returned (.int .i64 a)) w := ⟨a, h, rfl, rfl⟩

theorem at_any (A : Option Addr) (n c : Nat) (i : Int) (w : World) (B : Nat) (hn : n ≤ maxLen) (hb : BytesIn w B A n) (i0 : 0 ≤ i) (i1 : i ≤ 1000000) :
    Calls Try.prog 18 #[.slice A n c, .int .i64 i] w (AtByte w) := by
  have HK := @Lib.hid _ (fun a h => @atByte_mk w a h)
  unfold maxLen at hn
  by_cases h0 : n = 0
  · subst h0
    go_enter Try.func18, Try.ntmps18
    go_wp2
    go_ret
    exact HK.out 0 (by omega)
  · obtain ⟨ad, rfl, hblk, hcell⟩ := hb (by omega)
    have hnz : ((n : Int) == 0) = false := by simp; omega
    have hm0 : 0 ≤ (i * 5 + 1) % (n : Int) := Int.emod_nonneg _ (by omega)
    have hm1 : (i * 5 + 1) % (n : Int) < n := Int.emod_lt_of_pos _ (by omega)
    have hc : ∃ j : Nat, ((i * 5 + 1) % (n : Int)) = j ∧ j < n := ⟨((i * 5 + 1) % (n : Int)).toNat, by omega, by omega⟩
    obtain ⟨j, hj, hjn⟩ := hc
    obtain ⟨b, hb1, hb2⟩ := hcell j hjn
    have hb3 : w.cell? (ad.add ((i * 5 + 1) % (n : Int)).toNat) = some (.int .u8 b) := by rw [hj]; exact hb2
    clear hcell hb hj hb2 h0
    go_enter Try.func18, Try.ntmps18
    go_wp2
    go_goals
    go_ret
    exact HK.out b hb1
end Go.Proofs.Ytlhmedokpjkjpaa.bigK
