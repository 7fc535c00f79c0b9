/- The contract of the model's maze that an order of gaps makes. -/
import Derived.Test.YtpocldadkhpapaaPerfM
import Derived.Test.YtpocldadkhpapaaIntA
namespace Go.Proofs.Ytpocldadkhpapaa.perfN
open Go.ChangeShapes Go.WideShapes Go.ChangeAt Go.RowKit
open draw gridP gridC gridE bitP mazeP mazeC mazeM mazeR mazeS intsP reachD forest perfP intA
set_option linter.unusedVariables false

theorem row3_set {b : Nat} {x y z x' y' z' : Int} {X : World} (h : Row3 b x y z X) : Row3 b x' y' z' (((X.setCell ⟨b, 0, none⟩ (.int .i64 x')).setCell ⟨b, 1, none⟩ (.int .i64 y')).setCell ⟨b, 2, none⟩ (.int .i64 z')) := by
  obtain ⟨T, h⟩ := h
  exact ⟨T, by simp [World.setCell, Array.getElem?_modify, h]⟩
theorem row3_far {b : Nat} {x y z : Int} {X : World} (h : Row3 b x y z X) {p : Addr} (hp : p.block ≠ b) (u : Value) : Row3 b x y z (X.setCell p u) := by
  obtain ⟨T, h⟩ := h
  exact ⟨T, (Below.heap_setCell X p u b (fun e => hp e.symm)).trans h⟩
theorem box_far {b : Nat} {x y : Int} {X : World} (h : Box b x y X) {p : Addr} (hp : p.block ≠ b) (u : Value) : Box b x y (X.setCell p u) := by
  obtain ⟨⟨c0, c1⟩, hl⟩ := h
  have n : ∀ k, p ≠ (⟨b, k, none⟩ : Addr) := fun k e => hp (by rw [e])
  exact ⟨⟨(World.cell?_setCell_other _ _ _ _ (n 0)).trans c0, (World.cell?_setCell_other _ _ _ _ (n 1)).trans c1⟩, by simpa [World.setCell] using hl⟩
/-- What stands while a maze is made: the grid's box, the answer's block, the maze. -/
def KS (W : World) (x y z : Int) (A : Option Addr) (l : List Int) (X : World) : Prop :=
  Below W.heap.size W X ∧ Box W.heap.size x y X ∧ Row3 (W.heap.size + 1) 0 0 0 X ∧ Row3 (W.heap.size + 1 + 1) x y z X ∧ IntsIn X W.heap.size A l
theorem KS.call {W X X' : World} {x y z : Int} {A : Option Addr} {l : List Int} (h : KS W x y z A l X) (hb : Below X.heap.size X X') : KS W x y z A l X' := by
  obtain ⟨h1, h2, h3, h4, h5⟩ := h
  have := h1.size
  exact ⟨below_call h1 hb, h2.call hb, h3.call hb, h4.call hb, h5.below (hb.mono this)⟩
theorem KS.dr {W X : World} {x y z : Int} {A : Option Addr} {l : List Int} (h : KS W x y z A l X) : KS W x y z A l X.drew := h.call ⟨rfl, rfl, rfl, Nat.le_refl _, fun _ _ => rfl⟩
theorem ks_new {W : World} {x y : Int} {A : Option Addr} {l : List Int} (hi : IntsIn W W.heap.size A l) (T1 T2 T3 : TypeId) :
    KS W x y 0 A l (((W.alloc (.cells #[.int .i64 x, .int .i64 y] T1)).alloc (.cells #[.int .i64 0, .int .i64 0, .int .i64 0] T2)).alloc (.cells #[.int .i64 x, .int .i64 y, .int .i64 0] T3)) := by
  have hb : Below W.heap.size W (((W.alloc (.cells #[.int .i64 x, .int .i64 y] T1)).alloc (.cells #[.int .i64 0, .int .i64 0, .int .i64 0] T2)).alloc (.cells #[.int .i64 x, .int .i64 y, .int .i64 0] T3)) := (((Below.refl _ _).alloc (Nat.le_refl _) _).alloc (by simp) _).alloc (by simp; omega) _
  refine ⟨hb, ((box_new x y W T1).call (below_box _ _)).call (below_box _ _), ?_, ?_, hi.below hb⟩
  · have := Row3.call (row3_new 0 0 0 (W.alloc (.cells #[.int .i64 x, .int .i64 y] T1)) T2) (below_box _ (.cells #[.int .i64 x, .int .i64 y, .int .i64 0] T3))
    simpa using this
  · have := row3_new x y 0 ((W.alloc (.cells #[.int .i64 x, .int .i64 y] T1)).alloc (.cells #[.int .i64 0, .int .i64 0, .int .i64 0] T2)) T3
    simpa using this
theorem KS.put {W X : World} {x y z : Int} {A : Option Addr} {l : List Int} (h : KS W x y z A l X) (z' : Int) :
    KS W x y z' A l (((X.setCell ⟨W.heap.size + 1 + 1, 0, none⟩ (.int .i64 x)).setCell ⟨W.heap.size + 1 + 1, 1, none⟩ (.int .i64 y)).setCell ⟨W.heap.size + 1 + 1, 2, none⟩ (.int .i64 z')) := by
  obtain ⟨h1, h2, h3, h4, h5⟩ := h
  have hb : Below W.heap.size X (((X.setCell ⟨W.heap.size + 1 + 1, 0, none⟩ (.int .i64 x)).setCell ⟨W.heap.size + 1 + 1, 1, none⟩ (.int .i64 y)).setCell ⟨W.heap.size + 1 + 1, 2, none⟩ (.int .i64 z')) :=
    (((Below.refl _ _).setCell (by simp; omega) _).setCell (by simp; omega) _).setCell (by simp; omega) _
  exact ⟨h1.trans hb, box_far (box_far (box_far h2 (by simp; omega) _) (by simp; omega) _) (by simp; omega) _, row3_far (row3_far (row3_far h3 (by simp) _) (by simp) _) (by simp) _, row3_set h4, h5.below hb⟩
/-- How many gaps a grid has, 0 where there is no such grid. -/
def gpO (x y : Int) : Int := if OkZ x y then gpsZ x y else 0
theorem gpO_bd (x y : Int) : 0 ≤ gpO x y ∧ gpO x y ≤ 24 := by
  unfold gpO; split
  · rename_i h; exact gps_bd h.1 h.2.1 h.2.2.1 h.2.2.2
  · omega
theorem ko_no {x y u : Int} {l : List Int} (hu : u ∈ l) (h : ¬ (0 ≤ u ∧ u < gpO x y)) : koB x y l = false := by
  unfold koB; rw [decide_eq_false_iff_not]
  rintro ⟨h1, h2, h3⟩
  unfold gpO at h; rw [if_pos h1] at h
  exact h (h3 u hu)
theorem kz_take {x y u : Int} {l : List Int} {k : Nat} (hu : l[k]? = some u) : kzL x y (l.take (k + 1)) 0 = kzS x y (kzL x y (l.take k) 0) u := by
  have : l.take (k + 1) = l.take k ++ [u] := by rw [List.take_add_one, hu]; rfl
  rw [this, kzL_snoc]
theorem zero_of {x y : Int} {l : List Int} (h : koB x y l = false) : kmX x y l = 0 ∧ kmY x y l = 0 ∧ kmZ x y l = 0 ∧ kmB x y l = false := by
  unfold kmX kmY kmZ kmB; rw [h]; simp

end Go.Proofs.Ytpocldadkhpapaa.perfN
