/- What stands in memory while the maze of a walk is made. -/
import Derived.Test.YthakbjdkcdppjaaEntP
import Derived.Test.YthakbjdkcdppjaaErsO
namespace Go.Proofs.Ythakbjdkcdppjaa.entO
open Go.ChangeShapes Go.WideShapes Go.ChangeAt Go.RowKit
open draw gridP gridC bitP mazeP mazeC mazeM intsP reachD intA listK wayP ersP ersO entP
set_option linter.unusedVariables false

theorem set1_keep {X : World} {b k : Nat} {v u : Value} {p : Addr} (h : X.cell? p = some u) (hp : p.block ≠ b) : (X.setCell ⟨b, k, none⟩ v).cell? p = some u := by
  rw [World.cell?_setCell_other _ _ _ _ (fun e => hp (by rw [← e]))]; exact h
theorem set3_keep {X : World} {b : Nat} {v0 v1 v2 u : Value} {p : Addr} (h : X.cell? p = some u) (hp : p.block ≠ b) : (((X.setCell ⟨b, 0, none⟩ v0).setCell ⟨b, 1, none⟩ v1).setCell ⟨b, 2, none⟩ v2).cell? p = some u := set1_keep (set1_keep (set1_keep h hp) hp) hp
theorem cell_keep {X X' : World} (hb : Below X.heap.size X X') {p : Addr} {u : Value} (h : X.cell? p = some u) : X'.cell? p = some u := by
  by_cases hp : p.block < X.heap.size
  · exact (hb.cell hp).trans h
  · exfalso
    unfold World.cell? at h
    rw [Array.getElem?_eq_none (by omega)] at h
    simp at h
theorem row3_set {b : Nat} {x y z x' y' z' : Int} {X : World} (h : Row3 b x y z X) : Row3 b x' y' z' (((X.setCell ⟨b, 0, none⟩ (.int .i64 x')).setCell ⟨b, 1, none⟩ (.int .i64 y')).setCell ⟨b, 2, none⟩ (.int .i64 z')) := by
  obtain ⟨T, h⟩ := h
  exact ⟨T, by simp [World.setCell, Array.getElem?_modify, h]⟩
theorem row3_far {b : Nat} {x y z : Int} {X : World} (h : Row3 b x y z X) {p : Addr} (hp : p.block ≠ b) (u : Value) : Row3 b x y z (X.setCell p u) := by
  obtain ⟨T, h⟩ := h
  exact ⟨T, (Below.heap_setCell X p u b (fun e => hp e.symm)).trans h⟩
theorem box_far {b : Nat} {x y : Int} {X : World} (h : Box b x y X) {p : Addr} (hp : p.block ≠ b) (u : Value) : Box b x y (X.setCell p u) := by
  obtain ⟨⟨c0, c1⟩, hl⟩ := h
  have n : ∀ k, p ≠ (⟨b, k, none⟩ : Addr) := fun k e => hp (by rw [e])
  exact ⟨⟨(World.cell?_setCell_other _ _ _ _ (n 0)).trans c0, (World.cell?_setCell_other _ _ _ _ (n 1)).trans c1⟩, by simpa [World.setCell] using hl⟩
theorem refl_grown (X : World) (r : Option Nat) : X.grownBy X r := World.grownBy.refl X r
theorem ints_drop {w : World} {B k : Nat} {g : Nat} {l : List Int} (h : ∀ j u, l[j]? = some u → w.cell? ⟨g, j, none⟩ = some (.int .i64 u)) (hg : g < B) : IntsIn w B (some ⟨g, k, none⟩) (l.drop k) := fun _ =>
  ⟨⟨g, k, none⟩, rfl, hg, fun j u hj => by
    rw [List.getElem?_drop] at hj
    rw [show Addr.add ⟨g, k, none⟩ j = ⟨g, k + j, none⟩ from by simp [Addr.add]]
    exact h _ u hj⟩

/-- The grid's box, the answer's block, the way that came in. -/
def GW (W : World) (x y : Int) (A : Option Addr) (w : List Int) (X : World) : Prop :=
  Below W.heap.size W X ∧ Box W.heap.size x y X ∧ Row3 (W.heap.size + 1) 0 0 0 X ∧ IntsIn X W.heap.size A w
section
variable {W X X' : World} {x y z : Int} {A : Option Addr} {w L : List Int} {g cg M : Nat}
theorem GW.call (h : GW W x y A w X) (hb : Below X.heap.size X X') : GW W x y A w X' := by
  obtain ⟨h1, h2, h3, h5⟩ := h
  exact ⟨below_call h1 hb, h2.call hb, h3.call hb, h5.below (hb.mono h1.size)⟩
theorem GW.dr (h : GW W x y A w X) : GW W x y A w X.drew := h.call ⟨rfl, rfl, rfl, Nat.le_refl _, fun _ _ => rfl⟩
theorem gw_new (hi : IntsIn W W.heap.size A w) (T1 T2 : TypeId) :
    GW W x y A w ((W.alloc (.cells #[.int .i64 x, .int .i64 y] T1)).alloc (.cells #[.int .i64 0, .int .i64 0, .int .i64 0] T2)) := by
  have hb : Below W.heap.size W ((W.alloc (.cells #[.int .i64 x, .int .i64 y] T1)).alloc (.cells #[.int .i64 0, .int .i64 0, .int .i64 0] T2)) := ((Below.refl _ _).alloc (Nat.le_refl _) _).alloc (by simp) _
  refine ⟨hb, (box_new x y W T1).call (below_box _ _), ?_, hi.below hb⟩
  have := row3_new 0 0 0 (W.alloc (.cells #[.int .i64 x, .int .i64 y] T1)) T2
  simpa using this
theorem GW.size (h : GW W x y A w X) : W.heap.size + 1 < X.heap.size := row3_lt h.2.2.1
/-- And the walk's cells. -/
def GL (W : World) (x y : Int) (A : Option Addr) (w : List Int) (g cg : Nat) (L : List Int) (X : World) : Prop :=
  GW W x y A w X ∧ X.ownsRow (W.heap.size + 2) 3 1 (.slice (some ⟨g, 0, none⟩) L.length cg) L.length (icells L)
theorem GL.call (h : GL W x y A w g cg L X) (hb : Below X.heap.size X X') : GL W x y A w g cg L X' := ⟨h.1.call hb, own_call h.2 hb⟩
theorem GL.lt (h : GL W x y A w g cg L X) : W.heap.size + 2 ≤ g ∧ g < X.heap.size := h.2.lt g rfl
/-- And the maze. -/
def GM (W : World) (x y : Int) (A : Option Addr) (w : List Int) (g cg : Nat) (L : List Int) (M : Nat) (z : Int) (X : World) : Prop :=
  GL W x y A w g cg L X ∧ Row3 M x y z X ∧ W.heap.size + 1 < M ∧ g ≠ M
theorem GM.call (h : GM W x y A w g cg L M z X) (hb : Below X.heap.size X X') : GM W x y A w g cg L M z X' := ⟨h.1.call hb, h.2.1.call hb, h.2.2⟩
theorem GM.dr (h : GM W x y A w g cg L M z X) : GM W x y A w g cg L M z X.drew := h.call ⟨rfl, rfl, rfl, Nat.le_refl _, fun _ _ => rfl⟩
theorem GM.drs (h : GM W x y A w g cg L M z X) (n : Nat) : GM W x y A w g cg L M z (X.drewN n) := h.call ⟨rfl, rfl, rfl, Nat.le_refl _, fun _ _ => rfl⟩
theorem gm_new (h : GL W x y A w g cg L X) (T : TypeId) : GM W x y A w g cg L X.heap.size 0 (X.alloc (.cells #[.int .i64 x, .int .i64 y, .int .i64 0] T)) :=
  ⟨h.call (below_box _ _), row3_new x y 0 X T, h.1.size, by have := h.lt; omega⟩
theorem GM.put (h : GM W x y A w g cg L M z X) (z' : Int) :
    GM W x y A w g cg L M z' (((X.setCell ⟨M, 0, none⟩ (.int .i64 x)).setCell ⟨M, 1, none⟩ (.int .i64 y)).setCell ⟨M, 2, none⟩ (.int .i64 z')) := by
  obtain ⟨⟨⟨h1, h2, h3, h5⟩, h7⟩, h4, h6, h8⟩ := h
  have hb : Below W.heap.size X (((X.setCell ⟨M, 0, none⟩ (.int .i64 x)).setCell ⟨M, 1, none⟩ (.int .i64 y)).setCell ⟨M, 2, none⟩ (.int .i64 z')) :=
    (((Below.refl _ _).setCell (by simp; omega) _).setCell (by simp; omega) _).setCell (by simp; omega) _
  have hg : X.grownBy (((X.setCell ⟨M, 0, none⟩ (.int .i64 x)).setCell ⟨M, 1, none⟩ (.int .i64 y)).setCell ⟨M, 2, none⟩ (.int .i64 z')) (some M) :=
    listK.grown_set (listK.grown_set (listK.grown_set (refl_grown X (some M)) _) _) _
  exact ⟨⟨⟨h1.trans hb, box_far (box_far (box_far h2 (by simp; omega) _) (by simp; omega) _) (by simp; omega) _, row3_far (row3_far (row3_far h3 (by simp; omega) _) (by simp; omega) _) (by simp; omega) _, h5.below hb⟩,
    h7.kept hg (.inr fun e => h8 (by simp [Value.ownBlock] at e; exact e))⟩, row3_set h4, h6, h8⟩
theorem GW.ending (h : GW W x y A w X) (u v t : Value) : Below W.heap.size W (((X.setCell ⟨W.heap.size + 1, 0, none⟩ u).setCell ⟨W.heap.size + 1, 1, none⟩ v).setCell ⟨W.heap.size + 1, 2, none⟩ t) :=
  ((h.1.setCell (by simp) _).setCell (by simp) _).setCell (by simp) _
end
/-- The grid's box and the walk's cells. -/
def BL (W : World) (x y : Int) (g cg : Nat) (L : List Int) (X : World) : Prop :=
  Below W.heap.size W X ∧ Box W.heap.size x y X ∧ X.ownsRow (W.heap.size + 1) 3 1 (.slice (some ⟨g, 0, none⟩) L.length cg) L.length (icells L)
theorem BL.call {W X X' : World} {x y : Int} {g cg : Nat} {L : List Int} (h : BL W x y g cg L X) (hb : Below X.heap.size X X') : BL W x y g cg L X' := ⟨below_call h.1 hb, h.2.1.call hb, own_call h.2.2 hb⟩
theorem BL.drs {W X : World} {x y : Int} {g cg : Nat} {L : List Int} (h : BL W x y g cg L X) (n : Nat) : BL W x y g cg L (X.drewN n) := h.call ⟨rfl, rfl, rfl, Nat.le_refl _, fun _ _ => rfl⟩
end Go.Proofs.Ythakbjdkcdppjaa.entO
