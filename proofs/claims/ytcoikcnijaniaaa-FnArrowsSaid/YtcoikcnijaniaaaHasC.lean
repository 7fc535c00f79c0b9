/- Whether a list has cells of a grid only. -/
import Derived.Test.YtcoikcnijaniaaaDeadI
import Derived.Test.YtcoikcnijaniaaaRchI
namespace Go.Proofs.Ytcoikcnijaniaaa.hasC
open Go.ChangeShapes Go.WideShapes Go.ChangeAt Go.RowKit
open draw gridP gridC gridE bitP mazeP mazeC mazeM mazeR mazeI intsP reachP reachM reachN reachD intA listK forest deadP deadR setI deadI
set_option linter.unusedVariables false

theorem isNoCell_any (x y u : Int) (b : Nat) (X : World) (hk : OkZ x y) (hx : Box b x y X) :
    Calls Try.prog 78 #[.int .i64 u, .pointer (some ⟨b, 0, none⟩)] X (Bl (!decide (0 ≤ u ∧ u < x * y)) X) := by
  have HC := Lib.hid (fun Y => reachV.hasCell_any x y u Y hk.1 hk.2.1 hk.2.2.1 hk.2.2.2)
  obtain ⟨m0, m1⟩ := hx.1
  have HK := @Lib.hid _ (fun w' h => @bl_mk (!decide (0 ≤ u ∧ u < x * y)) (!decide (0 ≤ u ∧ u < x * y)) X w' rfl h)
  generalize decide (0 ≤ u ∧ u < x * y) = v at *
  clear hx
  go_enter Try.func78, Try.ntmps78
  go_wp2_with fail
  refine (HC.out _).mono ?_
  rintro e w1 ⟨rfl, hb⟩
  have hb1 := Lib.hid hb
  clear hb HC
  go_wp2_with fail
  go_ret
  exact HK.out _ hb1.out

theorem hasCells_any (x y : Int) (A : Option Addr) (n c : Nat) (l : List Int) (W : World) (hk : OkZ x y) (hn : l.length = n) (hm : n ≤ 1048576) (hi : IntsIn W W.heap.size A l) :
    Calls Try.prog 42 #[.agg #[.int .i64 x, .int .i64 y], .slice A n c] W (Bl (!l.any fun u => !decide (0 ≤ u ∧ u < x * y)) W) := by
  have HCl := Lib.hid (fun u X (hx : Box W.heap.size x y X) => isNoCell_any x y u W.heap.size X hk hx)
  have HCF := Lib.hid (fun X hl hi => containsFunc_any 78 #[.pointer (some ⟨W.heap.size, 0, none⟩)] (fun u => !decide (0 ≤ u ∧ u < x * y)) A n c l X Try.call78 hl hn hm hi)
  have HB := Lib.hid (fun T => below_box W (.cells #[.int .i64 x, .int .i64 y] T))
  have HX := Lib.hid (fun T => box_new x y W T)
  have HI := Lib.hid (fun o => (hi.below (below_box W o)).more (B' := (W.alloc o).heap.size) (by simp))
  generalize (l.any fun u => !decide (0 ≤ u ∧ u < x * y)) = an at *
  have HK := @Lib.hid _ (fun w' h => @bl_mk (!an) (!an) W w' rfl h)
  clear hi hn hk
  go_enter Try.func42, Try.ntmps42
  go_wp2_with fail
  refine (HCF.out _ (fun u X hX => HCl.out u X ((HX.out _).call hX)) (HI.out _)).mono ?_
  rintro e w1 ⟨rfl, hb⟩
  have hb1 := Lib.hid (below_call (HB.out _) hb)
  clear hb HCF HCl HB HX HI
  go_wp2_with fail
  go_ret
  exact HK.out _ hb1.out
end Go.Proofs.Ytcoikcnijaniaaa.hasC
