/- Walkers, and lists of walkers that a call writes. -/
import Derived.Test.YthakbjdkcdppjaaListK
import Derived.Test.YthakbjdkcdppjaaMzB
namespace Go.Proofs.Ythakbjdkcdppjaa.listW
open Go.ChangeShapes Go.WideShapes Go.ChangeAt Go.RowKit
open draw gridC mazeC mazeM mazeR intsP reachD intA listK
set_option linter.unusedVariables false

/-- A call answers a walker and leaves all that was there. -/
def Wk (c f : Int) (w : World) (e : Ending) (w' : World) : Prop := e = .returned (.agg #[.int .i64 c, .int .i64 f]) ∧ Below w.heap.size w w'
theorem wk_mk {c f c' f' : Int} {w w' : World} (h : c' = c) (h' : f' = f) (hb : Below w.heap.size w w') : Wk c f w (.returned (.agg #[.int .i64 c', .int .i64 f'])) w' := ⟨by rw [h, h'], hb⟩

/-- Block b is a row of two numbers. -/
def Row2 (b : Nat) (x y : Int) (X : World) : Prop := ∃ T, X.heap[b]? = some (.cells #[.int .i64 x, .int .i64 y] T (0, 0))
theorem row2_lt {b : Nat} {x y : Int} {X : World} (h : Row2 b x y X) : b < X.heap.size := by
  obtain ⟨T, h⟩ := h
  exact (Array.getElem?_eq_some_iff.1 h).1
theorem Row2.call {b : Nat} {x y : Int} {X X' : World} (h : Row2 b x y X) (hb : Below X.heap.size X X') : Row2 b x y X' := by
  have := row2_lt h
  obtain ⟨T, h⟩ := h
  exact ⟨T, (hb.block b this).trans h⟩
theorem row2_new (x y : Int) (W : World) (T : TypeId) : Row2 W.heap.size x y (W.alloc (.cells #[.int .i64 x, .int .i64 y] T)) := ⟨T, heap_alloc_new W _⟩
theorem row2_cells {b : Nat} {x y : Int} {X : World} (h : Row2 b x y X) : (X.cell? ⟨b, 0, none⟩ = some (.int .i64 x) ∧ X.cell? ⟨b, 1, none⟩ = some (.int .i64 y)) ∧ X.frozen? ⟨b, 0, none⟩ = false ∧ X.frozen? ⟨b, 1, none⟩ = false := by
  obtain ⟨T, h⟩ := h
  exact ⟨⟨cell_of_row X b 0 _ _ _ h, cell_of_row X b 1 _ _ _ h⟩, by simp [World.frozen?, h], by simp [World.frozen?, h]⟩
theorem row2_set {b : Nat} {x y x' y' : Int} {X : World} (h : Row2 b x y X) : Row2 b x' y' ((X.setCell ⟨b, 0, none⟩ (.int .i64 x')).setCell ⟨b, 1, none⟩ (.int .i64 y')) := by
  obtain ⟨T, h⟩ := h
  exact ⟨T, by simp [World.setCell, Array.getElem?_modify, h]⟩
theorem row2_far {b : Nat} {x y : Int} {X : World} (h : Row2 b x y X) {p : Addr} (hp : p.block ≠ b) (u : Value) : Row2 b x y (X.setCell p u) := by
  obtain ⟨T, h⟩ := h
  exact ⟨T, (Below.heap_setCell X p u b (fun e => hp e.symm)).trans h⟩
theorem row2_grown {b : Nat} {x y : Int} {X X' : World} {row : Option Nat} (h : Row2 b x y X) (hg : X.grownBy X' row) (hne : row ≠ some b) : Row2 b x y X' := by
  have hl := row2_lt h
  obtain ⟨T, h⟩ := h
  exact ⟨T, (hg.block b hl (fun e => hne e.symm)).trans h⟩
/-- Two numbers written into a block: it is read as they are. -/
theorem ret_set2 {P : Program} {fn : Func} {R : Ending → World → Prop} {a : Act} {X : World} {b : Nat} {x y u0 u1 : Value} (h0 : X.cell? ⟨b, 0, none⟩ = some u0) (h1 : X.cell? ⟨b, 1, none⟩ = some u1)
    (K : ∀ Y, Y.cell? ⟨b, 0, none⟩ = some x → Y.cell? ⟨b, 1, none⟩ = some y → Y = (X.setCell ⟨b, 0, none⟩ x).setCell ⟨b, 1, none⟩ y → bodyPost P fn R .ret a Y) :
    bodyPost P fn R .ret a ((X.setCell ⟨b, 0, none⟩ x).setCell ⟨b, 1, none⟩ y) := by
  have n1 : (⟨b, 0, none⟩ : Addr) ≠ ⟨b, 1, none⟩ := by simp
  refine K _ ?_ ?_ rfl
  · rw [World.cell?_setCell_other _ _ _ _ n1.symm]; exact World.cell?_setCell_same _ _ _ h0
  · exact World.cell?_setCell_same _ _ _ ((World.cell?_setCell_other _ _ _ _ n1).trans h1)

end Go.Proofs.Ythakbjdkcdppjaa.listW
