/- What stands in memory while a maze grows; what a choice answers. -/
import Derived.Test.YthakbjdkcdppjaaGrwP
import Derived.Test.YthakbjdkcdppjaaEntO
namespace Go.Proofs.Ythakbjdkcdppjaa.grwO
open Go.ChangeShapes Go.WideShapes Go.ChangeAt Go.RowKit
open draw gridP gridC gridE bitP mazeP mazeC mazeM intsP boolP reachD intA listK wayP ersP ersO entO grwP
set_option linter.unusedVariables false

theorem ol_low {W X : World} {b b' : Nat} {l : List Int} {v : Value} (h : OL W b l v X) (h1 : W.heap.size ≤ b') (h2 : b' ≤ b) : OL W b' l v X := ⟨h.1, h1, Nat.le_trans h2 h.2.2.1, own_base h.2.2.2 h2⟩
theorem box_below {b B : Nat} {x y : Int} {X X' : World} (h : Box b x y X) (hb : Below B X X') (hlt : b < B) : Box b x y X' :=
  ⟨⟨(hb.cell (p := ⟨b, 0, none⟩) hlt).trans h.1.1, (hb.cell (p := ⟨b, 1, none⟩) hlt).trans h.1.2⟩, Nat.lt_of_lt_of_le h.2 hb.size⟩
theorem row3_below {b B : Nat} {x y z : Int} {X X' : World} (h : Row3 b x y z X) (hb : Below B X X') (hlt : b < B) : Row3 b x y z X' := by
  obtain ⟨T, h⟩ := h
  exact ⟨T, (hb.block b hlt).trans h⟩
/-- The grid's box, the answer's block, the choices; the maze; which cells are in it. -/
def GV (W : World) (x y : Int) (A : Option Addr) (cs : List Int) (M J N : Nat) (I : List Bool) (o : Int) (X : World) : Prop :=
  GW W x y A cs X ∧ Row3 M x y o X ∧ X.ownsRow (W.heap.size + 2) 4 1 (.slice (some ⟨J, 0, none⟩) N N) N (bcells I) ∧ I.length = N ∧ W.heap.size + 1 < M ∧ M < J
section
variable {W X X' : World} {x y o : Int} {A : Option Addr} {cs : List Int} {M J N : Nat} {I : List Bool}
theorem GW.low {B : Nat} (h : GW W x y A cs X) (hb : Below B X X') (hB : W.heap.size + 1 < B) : GW W x y A cs X' := by
  obtain ⟨h1, h2, h3, h4⟩ := h
  exact ⟨h1.trans (hb.mono (by omega)), box_below h2 hb (by omega), row3_below h3 hb hB, IntsIn.low h4 (by omega) hb⟩
theorem GV.call (h : GV W x y A cs M J N I o X) (hb : Below X.heap.size X X') : GV W x y A cs M J N I o X' := ⟨h.1.call hb, h.2.1.call hb, own_call h.2.2.1 hb, h.2.2.2⟩
theorem GV.drs (h : GV W x y A cs M J N I o X) (n : Nat) : GV W x y A cs M J N I o (X.drewN n) := h.call ⟨rfl, rfl, rfl, Nat.le_refl _, fun _ _ => rfl⟩
theorem GV.lt (h : GV W x y A cs M J N I o X) : J < X.heap.size := own_lt h.2.2.1 J rfl
theorem GV.low {B : Nat} (h : GV W x y A cs M J N I o X) (hb : Below B X X') (hB : J < B) : GV W x y A cs M J N I o X' := by
  have hlt := h.lt
  obtain ⟨h1, h2, h3, h4, h5, h6⟩ := h
  have hg : X.grownBy X' none ∨ True := .inr trivial
  refine ⟨GW.low h1 hb (by omega), row3_below h2 hb (by omega), own_below h3 (hb.mono (by omega : J + 1 ≤ B)) (fun g e => ?_), h4, h5, h6⟩
  have : J = g := Option.some.inj e
  omega
theorem GV.put (h : GV W x y A cs M J N I o X) (o' : Int) : GV W x y A cs M J N I o' (((X.setCell ⟨M, 0, none⟩ (.int .i64 x)).setCell ⟨M, 1, none⟩ (.int .i64 y)).setCell ⟨M, 2, none⟩ (.int .i64 o')) := by
  obtain ⟨⟨h1, h2, h3, h5⟩, h4, h7, h8, h6, h9⟩ := h
  have hb : Below W.heap.size X (((X.setCell ⟨M, 0, none⟩ (.int .i64 x)).setCell ⟨M, 1, none⟩ (.int .i64 y)).setCell ⟨M, 2, none⟩ (.int .i64 o')) :=
    (((Below.refl _ _).setCell (by simp; omega) _).setCell (by simp; omega) _).setCell (by simp; omega) _
  have hg : X.grownBy (((X.setCell ⟨M, 0, none⟩ (.int .i64 x)).setCell ⟨M, 1, none⟩ (.int .i64 y)).setCell ⟨M, 2, none⟩ (.int .i64 o')) (some M) :=
    listK.grown_set (listK.grown_set (listK.grown_set (refl_grown X (some M)) _) _) _
  exact ⟨⟨h1.trans hb, box_far (box_far (box_far h2 (by simp; omega) _) (by simp; omega) _) (by simp; omega) _, row3_far (row3_far (row3_far h3 (by simp; omega) _) (by simp; omega) _) (by simp; omega) _, h5.below hb⟩,
    row3_set h4, h7.kept hg (.inr fun e => by simp [Value.ownBlock] at e; omega), h8, h6, h9⟩
theorem GV.mark (h : GV W x y A cs M J N I o X) (j : Nat) : GV W x y A cs M J N (I.set j true) o (X.setCell ⟨J, j, none⟩ (.bool true)) := by
  obtain ⟨⟨h1, h2, h3, h5⟩, h4, h7, h8, h6, h9⟩ := h
  have hb : Below W.heap.size X (X.setCell ⟨J, j, none⟩ (.bool true)) := (Below.refl _ _).setCell (by simp; omega) _
  exact ⟨⟨h1.trans hb, box_far h2 (by simp; omega) _, row3_far h3 (by simp; omega) _, h5.below hb⟩, row3_far h4 (by simp; omega) _, bools_put h7 j true, by rw [List.length_set]; exact h8, h6, h9⟩
theorem GV.cell (h : GV W x y A cs M J N I o X) {j : Nat} (hj : j < N) : X.cell? ⟨J, j, none⟩ = some (.bool (I.getD j false)) ∧ X.frozen? ⟨J, j, none⟩ = false := bools_cell h.2.2.1 h.2.2.2.1 j hj
theorem gv_new (h : GW W x y A cs X) (hM : Row3 M x y 0 X) (h1 : W.heap.size + 1 < M) (hN : N ≤ maxLen) :
    GV W x y A cs M X.heap.size N (List.replicate N false) 0 (X.alloc (.cells (madeCells (Value.bool false).cells N) 4)) :=
  ⟨h.call (below_box _ _), hM.call (below_box _ _), bools_make (W.heap.size + 2) N X (by have := h.size; omega) hN, by simp, h1, row3_lt hM⟩
end
end Go.Proofs.Ythakbjdkcdppjaa.grwO
