/- The draws of the laws: a drawn yes or no, an element of a list of numbers, a drawn number. -/
import Derived.Test.YtijpbjnghkkdeaaDoorDrawB
import Derived.Deep.RegionHeld3
namespace Go.Proofs.YtijpbjnghkkdeaaDoor.draw
open Go.ChangeShapes Go.WideShapes Go.ChangeAt Go.RowKit
set_option linter.unusedVariables false

theorem ret_bool {a b : Bool} (h : a = b) : Ending.returned (.bool a) = .returned (.bool b) := by rw [h]

theorem big_yes (A : Option Addr) (n c : Nat) (w : World) (hn : n ≤ maxLen) (h : 1048576 < n) :
    Calls Tryd.prog 8 #[.slice A n c] w fun e w' => e = .returned (.bool true) ∧ w = w' := by
  unfold maxLen at hn
  go_enter Tryd.func8, Tryd.ntmps8
  go_wp2
  go_ret
  exact ⟨ret_bool (by simp; omega), rfl⟩
theorem big_no (A : Option Addr) (n c : Nat) (w : World) (hn : n ≤ maxLen) (h : n ≤ 1048576) :
    Calls Tryd.prog 8 #[.slice A n c] w fun e w' => e = .returned (.bool false) ∧ w = w' := by
  unfold maxLen at hn
  go_enter Tryd.func8, Tryd.ntmps8
  go_wp2
  go_ret
  exact ⟨ret_bool (by simp; omega), rfl⟩

/-- A draw answers some truth value. -/
def DrawnB (g : Nat) (w : World) (e : Ending) (w' : World) : Prop := ∃ b : Bool, e = .returned (.bool b) ∧ Cur w' g ∧ w.grownBy w' (some g)
theorem drawnB_mk {g : Nat} {w w' : World} (b : Bool) (hc : Cur w' g) (hg : w.grownBy w' (some g)) : DrawnB g w (.returned (.bool b)) w' := ⟨b, rfl, hc, hg⟩

theorem once_any (g : Nat) (n : Int) (w : World) (hc : Cur w g) (hn : 0 < n) (hn' : n ≤ 9223372036854775807) :
    Calls Tryd.prog 22 #[.pointer (some ⟨g, 0, none⟩), .int .i64 n] w (DrawnB g w) := by
  have HK := @Lib.hid _ (fun w' b (h1 : Cur w' g) (h2 : w.grownBy w' (some g)) => @drawnB_mk g w w' b h1 h2)
  go_enter Tryd.func22, Tryd.ntmps22
  go_wp2_with fail
  refine (below_any g _ _ hc hn hn').mono ?_
  rintro e w1 ⟨x, hx, rfl, hc1, hg1⟩
  clear hx
  go_wp2_with fail
  go_ret
  exact HK.out _ _ hc1 hg1

/-- A draw answers some number. -/
def DrawnI (g : Nat) (w : World) (e : Ending) (w' : World) : Prop := ∃ z : Int, e = .returned (.int .i64 z) ∧ Cur w' g ∧ w.grownBy w' (some g)
theorem drawnI_mk {g : Nat} {w w' : World} (z : Int) (hc : Cur w' g) (hg : w.grownBy w' (some g)) : DrawnI g w (.returned (.int .i64 z)) w' := ⟨z, rfl, hc, hg⟩

theorem pickInt_any (g s n : Nat) (zs : List Int) (w : World) (hc : Cur w g) (hn : 0 < n) (hn' : n ≤ 65536) (hs : s ≠ g) (hlt : s < w.heap.size) (hz : ∀ k, k < n → w.cell? ⟨s, k, none⟩ = some (.int .i64 (zs.getD k 0))) :
    Calls Tryd.prog 35 #[.pointer (some ⟨g, 0, none⟩), .slice (some ⟨s, 0, none⟩) n n] w (DrawnI g w) := by
  have HK := @Lib.hid _ (fun w' b (h1 : Cur w' g) (h2 : w.grownBy w' (some g)) => @drawnI_mk g w w' b h1 h2)
  have HZ := Lib.hid hz
  clear hz
  go_enter Tryd.func35, Tryd.ntmps35
  go_wp2_with fail
  refine (below_any g _ _ hc (by omega) (by omega)).mono ?_
  rintro e w1 ⟨x, hx, rfl, hc1, hg1⟩
  have hx' : x < n := by omega
  clear hx
  have hcell : w1.cell? ⟨s, x, none⟩ = some (.int .i64 (zs.getD x 0)) := hg1.cell (HZ.out x hx') (by simp; omega)
  go_wp2_with fail
  go_ret
  exact HK.out _ _ hc1 hg1
end Go.Proofs.YtijpbjnghkkdeaaDoor.draw
