/- The laws' own small functions: whether a code is long, and a byte of it. -/
import Derived.Test.YtomjfcmaoeoigaaDrawA
namespace Go.Proofs.Ytomjfcmaoeoigaa.bigK
open Go.ChangeShapes Go.WideShapes Go.ChangeAt Go.RowKit
open draw
set_option linter.unusedVariables false

theorem ret_bool {a b : Bool} (h : a = b) : Ending.returned (.bool a) = .returned (.bool b) := by rw [h]

theorem big_yes (A : Option Addr) (n c : Nat) (w : World) (hn : n ≤ maxLen) (h : 1048576 < n) :
    Calls Try.prog 9 #[.slice A n c] w fun e w' => e = .returned (.bool true) ∧ w = w' := by
  unfold maxLen at hn
  go_enter Try.func9, Try.ntmps9
  go_wp2
  go_ret
  exact ⟨ret_bool (by simp; omega), rfl⟩
theorem big_no (A : Option Addr) (n c : Nat) (w : World) (hn : n ≤ maxLen) (h : n ≤ 1048576) :
    Calls Try.prog 9 #[.slice A n c] w fun e w' => e = .returned (.bool false) ∧ w = w' := by
  unfold maxLen at hn
  go_enter Try.func9, Try.ntmps9
  go_wp2
  go_ret
  exact ⟨ret_bool (by simp; omega), rfl⟩


/-- A byte of the code, 0 where it has none. -/
def AtByte (w : World) (e : Ending) (w' : World) : Prop := ∃ a : Nat, a < 256 ∧ e = .returned (.int .i64 a) ∧ w = w'
theorem atByte_mk {w : World} {a : Nat} (h : a < 256) : AtByte w (.returned (.int .i64 a)) w := ⟨a, h, rfl, rfl⟩

end Go.Proofs.Ytomjfcmaoeoigaa.bigK
