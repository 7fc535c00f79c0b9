/- An answer of two numbers. -/
import Derived.Test.YtomjfcmaoeoigaaGridC
namespace Go.Proofs.Ytomjfcmaoeoigaa.gridE
open Go.ChangeShapes Go.WideShapes Go.ChangeAt Go.RowKit

/-- A call answers two numbers and leaves all that was there. -/
def Nm2 (u v : Int) (w : World) (e : Ending) (w' : World) : Prop := e = .returned (.tuple #[.int .i64 u, .int .i64 v]) ∧ Below w.heap.size w w'
theorem nm2_mk {a b u v : Int} {w w' : World} (h : a = u) (h' : b = v) (hb : Below w.heap.size w w') : Nm2 u v w (.returned (.tuple #[.int .i64 a, .int .i64 b])) w' := ⟨by rw [h, h'], hb⟩
end Go.Proofs.Ytomjfcmaoeoigaa.gridE
