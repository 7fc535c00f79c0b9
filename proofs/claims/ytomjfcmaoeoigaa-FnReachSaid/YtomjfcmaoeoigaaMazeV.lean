/- The directions in which a passage leads on: the relation of the loop. -/
import Derived.Test.YtomjfcmaoeoigaaMazeM
import Derived.Test.YtomjfcmaoeoigaaIntsP
namespace Go.Proofs.Ytomjfcmaoeoigaa.mazeV
open Go.ChangeShapes Go.WideShapes Go.ChangeAt Go.RowKit
open draw gridP gridC bitP mazeP mazeC mazeM intsP
set_option linter.unusedVariables false

/-- At the head of a round: d directions are done. -/
def WRel (W : World) (b : Nat) (w h o k : Int) (u5 u6 : Value) (wr : World) : Prop :=
  ∃ d : Nat, d ≤ 4 ∧ u6 = .int .i64 d ∧ wr.ownsRow (b + 1) 3 1 u5 (wlN w h o k d).length (icells (wlN w h o k d)) ∧ Below W.heap.size W wr ∧ MBox b w h o wr
theorem w_skip {W w2 : World} {b : Nat} {w h o k : Int} {d : Nat} {v : Value} (hd : d < 4) (hs : ¬ 0 ≤ stZ w h o k d) (ho : w2.ownsRow (b + 1) 3 1 v (wlN w h o k d).length (icells (wlN w h o k d))) (hb : Below W.heap.size W w2) (hx : MBox b w h o w2) :
    WRel W b w h o k v (.int .i64 ((d : Int) + 1)) w2 :=
  ⟨d + 1, by omega, by go_num, by rw [wlN, if_neg hs]; exact ho, hb, hx⟩
theorem mbox_grown {X X' : World} {b : Nat} {w h o : Int} {row : Option Nat} (hx : MBox b w h o X) (hg : X.grownBy X' row) (hne : ∀ k, row = some k → b < k) : MBox b w h o X' := by
  obtain ⟨⟨c0, c1, c2⟩, hl⟩ := hx
  have hr : some b ≠ row := fun e => absurd (hne b e.symm) (Nat.lt_irrefl b)
  exact ⟨⟨hg.cell c0 hr, hg.cell c1 hr, hg.cell c2 hr⟩, Nat.lt_of_lt_of_le hl hg.size⟩
theorem w_add {W w2 w3 : World} {b : Nat} {w h o k : Int} {d gg cap : Nat} {v : Value} {ob : Obj} (hd : d < 4) (hs : 0 ≤ stZ w h o k d) (ho : w2.ownsRow (b + 1) 3 1 v (wlN w h o k d).length (icells (wlN w h o k d))) (hb : Below W.heap.size W w2) (hx : MBox b w h o w2) (hB : W.heap.size ≤ b)
    (ho' : w3.ownsRow (b + 1) 3 1 (.slice (some ⟨gg, 0, none⟩) ((wlN w h o k d).length + 1) cap) ((wlN w h o k d).length + 1) (icells (wlN w h o k d) ++ icells [(d : Int)])) (hg : (w2.alloc ob).grownBy w3 v.ownBlock) :
    WRel W b w h o k (.slice (some ⟨gg, 0, none⟩) ((wlN w h o k d).length + 1) cap) (.int .i64 ((d : Int) + 1)) w3 := by
  refine ⟨d + 1, by omega, by go_num, ?_, below_app hb (by omega) (Nat.le_refl _) ho hg, mbox_grown (hx.call (below_box _ ob)) hg fun k hk => ?_⟩
  · rw [wlN, if_pos hs, icells_append, List.length_append]; exact ho'
  · have := (ho.lt k hk).1; omega
end Go.Proofs.Ytomjfcmaoeoigaa.mazeV
