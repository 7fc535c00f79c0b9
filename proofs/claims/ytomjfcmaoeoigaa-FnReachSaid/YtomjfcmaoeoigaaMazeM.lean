/- An answer that is a maze, and the block in which it is made. -/
import Derived.Test.YtomjfcmaoeoigaaMazeC
namespace Go.Proofs.Ytomjfcmaoeoigaa.mazeM
open Go.ChangeShapes Go.WideShapes Go.ChangeAt Go.RowKit
open draw gridP gridC mazeC
set_option linter.unusedVariables false

/-- A call answers a maze and leaves all that was there. -/
def Mz (x y z : Int) (w : World) (e : Ending) (w' : World) : Prop := e = .returned (.agg #[.int .i64 x, .int .i64 y, .int .i64 z]) ∧ Below w.heap.size w w'
theorem mz_mk {x y z : Int} {w w' : World} (hb : Below w.heap.size w w') : Mz x y z w (.returned (.agg #[.int .i64 x, .int .i64 y, .int .i64 z])) w' := ⟨rfl, hb⟩
/-- A call answers a maze and a truth value, and leaves all that was there. -/
def MzB (x y z : Int) (b : Bool) (w : World) (e : Ending) (w' : World) : Prop := e = .returned (.tuple #[.agg #[.int .i64 x, .int .i64 y, .int .i64 z], .bool b]) ∧ Below w.heap.size w w'
theorem mzb_mk {x y z z' : Int} {b b' : Bool} {w w' : World} (h : z = z') (h' : b = b') (hb : Below w.heap.size w w') : MzB x y z' b' w (.returned (.tuple #[.agg #[.int .i64 x, .int .i64 y, .int .i64 z], .bool b])) w' := ⟨by rw [h, h'], hb⟩

theorem below_dr {B : Nat} {a w : World} (h : Below B a w) : Below B a w.drew := below_draws h 1
theorem below_two (W : World) (o o' : Obj) : Below W.heap.size W ((W.alloc o).alloc o') := ((Below.refl _ _).alloc (Nat.le_refl _) _).alloc (by simp) _
theorem box_two (w h : Int) (W : World) (T : TypeId) (o' : Obj) : Box W.heap.size w h ((W.alloc (.cells #[.int .i64 w, .int .i64 h] T)).alloc o') := (box_new w h W T).call (below_box _ _)
theorem mbox_two (w h o : Int) (W : World) (T : TypeId) (o' : Obj) : MBox W.heap.size w h o ((W.alloc (.cells #[.int .i64 w, .int .i64 h, .int .i64 o] T)).alloc o') := (mbox_new w h o W T).call (below_box _ _)
theorem box_after' {b : Nat} {w h : Int} {X X' : World} (hb : Below X.heap.size X X') (hx : Box b w h X) : X'.cell? ⟨b, 0, none⟩ = some (.int .i64 w) ∧ X'.cell? ⟨b, 1, none⟩ = some (.int .i64 h) := (hx.call hb).1

/-- The full maze of a grid. -/
def fmX (w h : Int) : Int := if 1 ≤ w ∧ w ≤ 4 ∧ 1 ≤ h ∧ h ≤ 4 then w else 0
def fmY (w h : Int) : Int := if 1 ≤ w ∧ w ≤ 4 ∧ 1 ≤ h ∧ h ≤ 4 then h else 0
def fmO (w h : Int) : Int := if 1 ≤ w ∧ w ≤ 4 ∧ 1 ≤ h ∧ h ≤ 4 then mazeP.topZ w h else 0
/-- Block b is a row of three numbers. -/
def Row3 (b : Nat) (x y z : Int) (X : World) : Prop := ∃ T, X.heap[b]? = some (.cells #[.int .i64 x, .int .i64 y, .int .i64 z] T (0, 0))
theorem row3_lt {b : Nat} {x y z : Int} {X : World} (h : Row3 b x y z X) : b < X.heap.size := by
  obtain ⟨T, h⟩ := h
  exact (Array.getElem?_eq_some_iff.1 h).1
theorem Row3.call {b : Nat} {x y z : Int} {X X' : World} (h : Row3 b x y z X) (hb : Below X.heap.size X X') : Row3 b x y z X' := by
  have := row3_lt h
  obtain ⟨T, h⟩ := h
  exact ⟨T, (hb.block b this).trans h⟩
theorem row3_new (x y z : Int) (W : World) (T : TypeId) : Row3 W.heap.size x y z (W.alloc (.cells #[.int .i64 x, .int .i64 y, .int .i64 z] T)) := ⟨T, heap_alloc_new W _⟩
theorem row3_two (x y z : Int) (W : World) (T : TypeId) (o' : Obj) : Row3 W.heap.size x y z ((W.alloc (.cells #[.int .i64 x, .int .i64 y, .int .i64 z] T)).alloc o') := Row3.call (row3_new x y z W T) (below_box _ _)
/-- Its cells can be read and written. -/
theorem row3_cells {b : Nat} {x y z : Int} {X : World} (h : Row3 b x y z X) : (X.cell? ⟨b, 0, none⟩ = some (.int .i64 x) ∧ X.cell? ⟨b, 1, none⟩ = some (.int .i64 y) ∧ X.cell? ⟨b, 2, none⟩ = some (.int .i64 z)) ∧ X.frozen? ⟨b, 0, none⟩ = false ∧ X.frozen? ⟨b, 1, none⟩ = false ∧ X.frozen? ⟨b, 2, none⟩ = false := by
  obtain ⟨T, h⟩ := h
  exact ⟨⟨cell_of_row X b 0 _ _ _ h, cell_of_row X b 1 _ _ _ h, cell_of_row X b 2 _ _ _ h⟩, by simp [World.frozen?, h], by simp [World.frozen?, h], by simp [World.frozen?, h]⟩
theorem mres_block {W w1 : World} {o : Obj} {T : TypeId} {b : Nat} (hb : Below ((W.alloc o).alloc (.cells #[.int .i64 0, .int .i64 0, .int .i64 0] T)).heap.size ((W.alloc o).alloc (.cells #[.int .i64 0, .int .i64 0, .int .i64 0] T)) w1) (e : b = W.heap.size + 1) : Row3 b 0 0 0 w1 := by
  subst e
  have := (row3_new 0 0 0 (W.alloc o) T).call hb
  simpa using this
theorem mres {W w1 : World} {o : Obj} {T : TypeId} {b : Nat} (hb : Below ((W.alloc o).alloc (.cells #[.int .i64 0, .int .i64 0, .int .i64 0] T)).heap.size ((W.alloc o).alloc (.cells #[.int .i64 0, .int .i64 0, .int .i64 0] T)) w1) (e : b = W.heap.size + 1) :
    (w1.cell? ⟨b, 0, none⟩ = some (.int .i64 0) ∧ w1.cell? ⟨b, 1, none⟩ = some (.int .i64 0) ∧ w1.cell? ⟨b, 2, none⟩ = some (.int .i64 0)) ∧ w1.frozen? ⟨b, 0, none⟩ = false ∧ w1.frozen? ⟨b, 1, none⟩ = false ∧ w1.frozen? ⟨b, 2, none⟩ = false := row3_cells (mres_block hb e)
theorem mres2 {X X' : World} {b : Nat} (hb : Below X.heap.size X X') (h : Row3 b 0 0 0 X) :
    (X'.cell? ⟨b, 0, none⟩ = some (.int .i64 0) ∧ X'.cell? ⟨b, 1, none⟩ = some (.int .i64 0) ∧ X'.cell? ⟨b, 2, none⟩ = some (.int .i64 0)) ∧ X'.frozen? ⟨b, 0, none⟩ = false ∧ X'.frozen? ⟨b, 1, none⟩ = false ∧ X'.frozen? ⟨b, 2, none⟩ = false := row3_cells (h.call hb)
end Go.Proofs.Ytomjfcmaoeoigaa.mazeM
