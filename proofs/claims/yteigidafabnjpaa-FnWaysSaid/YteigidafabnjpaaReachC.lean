/- A drawn maze with two of its cells, and the laws' own look into a list. -/
import Derived.Test.YteigidafabnjpaaMzB
import Derived.Test.YteigidafabnjpaaDrwA
namespace Go.Proofs.Yteigidafabnjpaa.reachC
open Go.ChangeShapes Go.WideShapes Go.ChangeAt Go.RowKit
open draw gridP gridC bitP mazeP mazeC mazeM mazeR mazeE intsP reachD
set_option linter.unusedVariables false

/-- What stands while two cells are drawn. -/
def CS (w : World) (g b : Nat) (x y z : Int) (X : World) : Prop := Cur X g ∧ Below w.heap.size w X ∧ Row3 w.heap.size 0 0 0 X ∧ Row3 b x y z X
theorem CS.draw {w X X' : World} {g b : Nat} {x y z : Int} (h : CS w g b x y z X) (hg1 : w.heap.size < g) (hgb : b ≠ g) (hc' : Cur X' g) (hg' : X.grownBy X' (some g)) : CS w g b x y z X' := by
  obtain ⟨hc, hb, hr, hm⟩ := h
  exact ⟨hc', hb.grown hg' hb.size (fun k hk => by cases hk; omega), row3_grown hr hg' (by omega), row3_grown hm hg' hgb⟩
theorem CS.call {w X X' : World} {g b : Nat} {x y z : Int} (h : CS w g b x y z X) (hb : Below X.heap.size X X') : CS w g b x y z X' :=
  ⟨h.1.kept hb h.1.lt, below_call h.2.1 hb, h.2.2.1.call hb, h.2.2.2.call hb⟩
theorem CS.dr {w X : World} {g b : Nat} {x y z : Int} (h : CS w g b x y z X) : CS w g b x y z X.drew := h.call ⟨rfl, rfl, rfl, Nat.le_refl _, fun _ _ => rfl⟩

/-- A draw of a maze and two of its cells. -/
def CellsDrawn (w : World) (e : Ending) (w' : World) : Prop := ∃ (x y z : Int) (a b : Nat), OkM x y z ∧ (a : Int) < x * y ∧ (b : Int) < x * y ∧ e = .returned (.tuple #[.agg #[.int .i64 x, .int .i64 y, .int .i64 z], .int .i64 a, .int .i64 b]) ∧ Below w.heap.size w w'
theorem cells_end {w X Y : World} {g b0 : Nat} {x y z : Int} {a b : Nat} (h : CS w g b0 x y z X) (hv : OkM x y z) (ha : (a : Int) < x * y) (hb : (b : Int) < x * y) (hY : Y = ((X.setCell ⟨w.heap.size, 0, none⟩ (.int .i64 x)).setCell ⟨w.heap.size, 1, none⟩ (.int .i64 y)).setCell ⟨w.heap.size, 2, none⟩ (.int .i64 z)) :
    CellsDrawn w (.returned (.tuple #[.agg #[.int .i64 x, .int .i64 y, .int .i64 z], .int .i64 a, .int .i64 b])) Y := by
  subst hY
  exact ⟨x, y, z, a, b, hv, ha, hb, rfl, ((h.2.1.setCell (Nat.le_refl _) _).setCell (Nat.le_refl _) _).setCell (Nat.le_refl _) _⟩

set_option maxRecDepth 100000 in
set_option maxHeartbeats 1000000 in
theorem drawCells_any (A : Option Addr) (n c : Nat) (w : World) (hn : n ≤ maxLen) (hb : BytesIn w w.heap.size A n) :
    Calls Try.prog 11 #[.slice A n c] w (CellsDrawn w) := by
  have HB := Lib.hid ((Below.refl w.heap.size w).alloc (Nat.le_refl _) (.cells #[.int .i64 0, .int .i64 0, .int .i64 0] 27))
  have HY := Lib.hid ((hb.keep (w' := w.alloc (.cells #[.int .i64 0, .int .i64 0, .int .i64 0] 27)) fun p hp => HB.out.cell hp).more (B' := w.heap.size + 1) (by omega))
  clear hb
  go_enter Try.func11, Try.ntmps11
  go_wp2_with fail
  refine (new_any A n c _ hn (by simpa using HY.out)).mono ?_
  rintro e w1 ⟨rfl, hc1, hb1, hs1⟩
  have HR1 := Lib.hid (Row3.call (row3_new 0 0 0 w _) hb1)
  have HB1 := Lib.hid (HB.out.trans (hb1.mono (by simp)))
  have hz : w1.heap.size = w.heap.size + 2 := by simp at hs1; omega
  have hz1 : w.heap.size + 2 ≤ w1.heap.size := by omega
  have hcur : Cur w1 (w.heap.size + 1) := by simpa using hc1
  clear hs1 hb1 hz hc1 HY HB
  go_wp2_with fail
  refine (maze_any (w.heap.size + 1) _ hcur).mono ?_
  rintro e w2 ⟨x, y, z, hv, rfl, hc2, hg2⟩
  have HV := Lib.hid hv
  have hz2 := hg2.size
  have cs2 := @Lib.hid _ (fun T => (show CS w (w.heap.size + 1) w2.heap.size x y z (w2.alloc (.cells #[.int .i64 x, .int .i64 y, .int .i64 z] T)) from
    CS.call (b := w2.heap.size) (X := w2.alloc (.cells #[.int .i64 x, .int .i64 y, .int .i64 z] T)) ⟨hc2.alloc1 _, (HB1.out.grown hg2 (by omega) (fun k hk => by cases hk; omega)).alloc (by omega) _, (row3_grown HR1.out hg2 (by omega)).call (below_box _ _), row3_new x y z w2 T⟩ (Below.refl _ _)))
  obtain ⟨h1, h2, h3, h4⟩ := hv.1
  have hcc := (mul_bd x y h1 h2 h3 h4).1
  have HC : Hid (∀ X, Calls Try.prog 33 #[.agg #[.int .i64 x, .int .i64 y]] X (Nm (x * y) X)) := fun X => gridS.countCells_yes x y X h1 h2 h3 h4
  have HE := @Lib.hid _ (fun X Y a b p1 p2 p3 p4 => @cells_end w X Y (w.heap.size + 1) w2.heap.size x y z a b p1 HV.out p2 p3 p4)
  clear hc2 hg2 hcur hv h1 h2 h3 h4 HR1 HB1
  generalize x * y = N at *
  go_wp2_with fail
  refine (HC.out _).mono ?_
  rintro e w3 ⟨rfl, hb⟩
  have cs3 := Lib.hid ((cs2.out _).call hb)
  obtain ⟨⟨m0, m1, m2⟩, -⟩ := row3_cells cs3.out.2.2.2
  have hbd := Lib.hid (fun (X : World) (h : Cur X (w.heap.size + 1)) => below_any (w.heap.size + 1) N X h (by omega) (by omega))
  clear hb cs2
  go_wp2_with fail
  first
    | go_region_with (first | (go_at_call 34; have hpre := cs4.out; refine (hbd.out _ cs4.out.1).mono ?_; rintro e w5 ⟨b, hbN, rfl, hc5, hg5⟩; have cs5 := Lib.hid (cs4.out.draw (by omega) (by omega) hc5 hg5); obtain ⟨⟨q0, q1, q2⟩, -⟩ := row3_cells cs5.out.2.2.2; obtain ⟨⟨r0, r1, r2⟩, f0, f1, f2⟩ := row3_cells cs5.out.2.2.1; clear hpre) | (go_at_call 34; refine (hbd.out _ cs3.out.dr.1).mono ?_; rintro e w4 ⟨a, haN, rfl, hc4, hg4⟩; have cs4 := Lib.hid (cs3.out.dr.draw (by omega) (by omega) hc4 hg4); obtain ⟨⟨p0, p1, p2⟩, -⟩ := row3_cells cs4.out.2.2.2))
    | fail
  all_goals
    go_wp2_with fail
    refine ret_set3 r0 r1 r2 fun Y e0 e1 e2 hY => ?_
    exact bodyPost_ret (v := .tuple #[.agg #[.int .i64 x, .int .i64 y, .int .i64 z], .int .i64 a, .int .i64 b]) (by simp [results, Try.results11, go_sem, e0, e1, e2]) rfl (HE.out _ _ _ _ cs5.out haN hbN hY)

end Go.Proofs.Yteigidafabnjpaa.reachC
