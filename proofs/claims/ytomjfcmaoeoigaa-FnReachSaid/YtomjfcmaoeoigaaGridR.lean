/- A grid that comes in as an argument, and the laws' own copy of it. -/
import Derived.Test.YtomjfcmaoeoigaaLawKit
import Derived.Test.YtomjfcmaoeoigaaGridC
import Derived.Lib.SmallJoins
namespace Go.Proofs.Ytomjfcmaoeoigaa.gridR
open Go.ChangeShapes Go.WideShapes Go.ChangeAt Go.RowKit Go.Joins
open draw lawKit gridC
set_option linter.unusedVariables false

theorem cellsGrid : Try.prog.cellsOf 38 = 2 := by kernel_rfl

section
variable {H : Type} {enc : TypeId × Value → H}
theorem open_grid {W : World} {base : Nat} {v : Value} {d : DataW H} {ps : List MemPlace}
    (hval : Value.okWide Try.prog W .any base 38 v) (h : DataW.Trod enc Try.prog W 0 (fun _ => true) true 38 v d ps) :
    ∃ x y : Int, v = .agg #[.int .i64 x, .int .i64 y] ∧ d = .agg [.lit (.int .i64 x), .lit (.int .i64 y)] ∧ ps = [] ∧ (Lit.int .i64 x).wf = true ∧ (Lit.int .i64 y).wf = true := by
  obtain ⟨c0, c1, y0, y1, m, rfl, rfl, rfl, hy0, hy1⟩ := open_agg2 Try.underlying38 (by kernel_rfl) cellsGrid hval h
  obtain ⟨a, e0, rfl, wa⟩ := DataW.trod_int Try.underlying3 hy0
  obtain ⟨b, e1, rfl, wb⟩ := DataW.trod_int Try.underlying3 hy1
  simp at e0 e1
  subst e0 e1
  exact ⟨a, b, rfl, rfl, rfl, wa, wb⟩
theorem shut_grid {W : World} {b : Nat} {sp : Nat → Bool} {hd : Bool} {x y : Int} (wx : (Lit.int .i64 x).wf = true) (wy : (Lit.int .i64 y).wf = true) :
    DataW.Trod enc Try.prog W b sp hd 38 (.agg #[.int .i64 x, .int .i64 y]) (.agg [.lit (.int .i64 x), .lit (.int .i64 y)]) [] :=
  shut_agg2 (y0 := (.lit (.int .i64 x), [])) (y1 := (.lit (.int .i64 y), [])) Try.underlying38 (by kernel_rfl) cellsGrid ⟨1, by simp [DataW.trod, Try.underlying3, wx]⟩ ⟨1, by simp [DataW.trod, Try.underlying3, wy]⟩
end

/-- A call answers a grid and leaves all that was there. -/
def Gr (x y : Int) (w : World) (e : Ending) (w' : World) : Prop := e = .returned (.agg #[.int .i64 x, .int .i64 y]) ∧ Below w.heap.size w w'
theorem gr_mk {x y : Int} {w w' : World} (hb : Below w.heap.size w w') : Gr x y w (.returned (.agg #[.int .i64 x, .int .i64 y])) w' := ⟨rfl, hb⟩

theorem toGrid_any (x y : Int) (W : World) :
    Calls Try.prog 36 #[.agg #[.int .i64 x, .int .i64 y]] W (Gr x y W) := by
  have HK := @Lib.hid _ (fun w' b => @gr_mk x y W w' b)
  go_enter Try.func36, Try.ntmps36
  go_wp2
  refine bodyPost_ret (v := .agg #[.int .i64 x, .int .i64 y]) (by simp [results, Try.results36, go_sem]) rfl (HK.out _ ?_)
  repeat (first | exact Below.refl _ _ | refine Below.alloc ?_ (by simp; try omega) _ | refine Below.setCell ?_ (by simp; try omega) _)
end Go.Proofs.Ytomjfcmaoeoigaa.gridR
