/- The contracts of the program's methods on mazes. -/
import Derived.Test.YthakbjdkcdppjaaBase
import Derived.Test.YthakbjdkcdppjaaPlain
import Derived.Outline
import Derived.Laws.OwnMore
import Derived.LoopTactic

namespace Go.Proofs.Ythakbjdkcdppjaa.mazeC
open Go.ChangeShapes Go.WideShapes Go.ChangeAt Go.RowKit
open draw gridP gridC bitP mazeP
set_option linter.unusedVariables false

/-- Block b holds a maze's three numbers. -/
def MBox (b : Nat) (w h o : Int) (X : World) : Prop := (X.cell? ⟨b, 0, none⟩ = some (.int .i64 w) ∧ X.cell? ⟨b, 1, none⟩ = some (.int .i64 h) ∧ X.cell? ⟨b, 2, none⟩ = some (.int .i64 o)) ∧ b < X.heap.size
theorem mbox_new (w h o : Int) (W : World) (T : TypeId) : MBox W.heap.size w h o (W.alloc (.cells #[.int .i64 w, .int .i64 h, .int .i64 o] T)) :=
  ⟨⟨by rw [World.cell?_alloc_new]; rfl, by rw [World.cell?_alloc_new]; rfl, by rw [World.cell?_alloc_new]; rfl⟩, by simp⟩
theorem MBox.draws {b : Nat} {w h o : Int} {X : World} (hx : MBox b w h o X) (n : Nat) : MBox b w h o (X.drewN n) := hx
theorem MBox.call {b : Nat} {w h o : Int} {X X' : World} (hx : MBox b w h o X) (hb : Below X.heap.size X X') : MBox b w h o X' :=
  ⟨⟨(hb.cell (p := ⟨b, 0, none⟩) hx.2).trans hx.1.1, (hb.cell (p := ⟨b, 1, none⟩) hx.2).trans hx.1.2.1, (hb.cell (p := ⟨b, 2, none⟩) hx.2).trans hx.1.2.2⟩, Nat.lt_of_lt_of_le hx.2 hb.size⟩
theorem mbox_after {b : Nat} {w h o : Int} {X X' : World} (hb : Below X.heap.size X X') (hx : MBox b w h o X) : MBox b w h o X' := hx.call hb

theorem allOpen_any (w h : Int) (W : World) (h1 : 1 ≤ w) (h2 : w ≤ 4) (h3 : 1 ≤ h) (h4 : h ≤ 4) :
    Calls Try.prog 61 #[.agg #[.int .i64 w, .int .i64 h]] W (Nm (topZ w h) W) := by
  have HK := @Lib.hid _ (fun w' a (e : a = topZ w h) b => @nm_mk a (topZ w h) W w' e b)
  have HB := Lib.hid below_box
  have HG : Hid (∀ X, Calls Try.prog 46 #[.agg #[.int .i64 w, .int .i64 h]] X (Nm (gpsZ w h) X)) := fun X => gaps_any w h X h1 h2 h3 h4
  obtain ⟨g0, g1⟩ := gps_bd h1 h2 h3 h4
  have HP := Lib.hid (pow_bd _ g1)
  have HT := Lib.hid (show topZ w h = 2 ^ (gpsZ w h).toNat - 1 from rfl)
  generalize gpsZ w h = G at *
  generalize topZ w h = T at *
  go_enter Try.func61, Try.ntmps61
  go_wp2_with fail
  refine (HG.out _).mono ?_
  rintro e w1 ⟨rfl, hb⟩
  have hbl1 := Lib.hid (below_call (HB.out _ _) hb)
  clear hb
  go_wp2_with fail
  go_ret
  exact HK.out _ _ (by have := HP.out; have := HT.out; rw [IntWalk.wrap64_in (2 ^ G.toNat) (by omega), IntWalk.wrap64_in _ (by omega)]; omega) hbl1.out

theorem hasGap_yes (w h g : Int) (W : World) (h1 : 1 ≤ w) (h2 : w ≤ 4) (h3 : 1 ≤ h) (h4 : h ≤ 4) (g0 : 0 ≤ g) (g1 : g < gpsZ w h) :
    Calls Try.prog 49 #[.agg #[.int .i64 w, .int .i64 h], .int .i64 g] W (Bl true W) := by
  have HK := @Lib.hid _ (fun w' b => @bl_mk true true W w' rfl b)
  have HB := Lib.hid below_box
  have HG : Hid (∀ X, Calls Try.prog 46 #[.agg #[.int .i64 w, .int .i64 h]] X (Nm (gpsZ w h) X)) := fun X => gaps_any w h X h1 h2 h3 h4
  go_enter Try.func49, Try.ntmps49
  go_wp2_with fail
  refine (HG.out _).mono ?_
  rintro e w1 ⟨rfl, hb⟩
  have hbl1 := Lib.hid (below_call (HB.out _ _) hb)
  clear hb
  go_wp2_with fail
  go_ret
  exact HK.out _ hbl1.out

theorem hasGap_no (w h g : Int) (W : World) (h1 : 1 ≤ w) (h2 : w ≤ 4) (h3 : 1 ≤ h) (h4 : h ≤ 4) (hn : ¬ (0 ≤ g ∧ g < gpsZ w h)) :
    Calls Try.prog 49 #[.agg #[.int .i64 w, .int .i64 h], .int .i64 g] W (Bl false W) := by
  have HK := @Lib.hid _ (fun w' b => @bl_mk false false W w' rfl b)
  have HB := Lib.hid below_box
  have HG : Hid (∀ X, Calls Try.prog 46 #[.agg #[.int .i64 w, .int .i64 h]] X (Nm (gpsZ w h) X)) := fun X => gaps_any w h X h1 h2 h3 h4
  by_cases k0 : 0 ≤ g
  · have k1 : decide (g < gpsZ w h) = false := by simp; omega
    clear hn
    go_enter Try.func49, Try.ntmps49
    go_wp2_with fail
    refine (HG.out _).mono ?_
    rintro e w1 ⟨rfl, hb⟩
    have hbl1 := Lib.hid (below_call (HB.out _ _) hb)
    clear hb
    go_wp2_with fail
    go_ret
    exact HK.out _ hbl1.out
  · clear hn
    go_enter Try.func49, Try.ntmps49
    go_wp2_with fail
    go_ret
    exact HK.out _ (HB.out _ _)

theorem mok_bad (w h o : Int) (W : World) (hn : ¬ (1 ≤ w ∧ w ≤ 4 ∧ 1 ≤ h ∧ h ≤ 4)) :
    Calls Try.prog 48 #[.agg #[.int .i64 w, .int .i64 h, .int .i64 o]] W (Bl false W) := by
  have HK := @Lib.hid _ (fun w' b => @bl_mk false false W w' rfl b)
  have HO : Hid (∀ X, Calls Try.prog 23 #[.agg #[.int .i64 w, .int .i64 h]] X (Bl false X)) := fun X => ok_no w h X hn
  have hx := Lib.hid (mbox_new w h o W 30)
  clear hn
  go_enter Try.func48, Try.ntmps48
  go_wp2_with fail
  first | go_region_with
    ((go_at_call 23; refine (HO.out _).mono ?_; rintro e w1 ⟨rfl, hb⟩; obtain ⟨c0, c1, c2⟩ := (mbox_after hb hx.out).1)) | fail
  all_goals
    go_wp2_with fail
    go_ret
    exact HK.out _ (by refine below_call ?_ hb; repeat (first | exact Below.refl _ _ | refine Below.drew ?_ | refine Below.alloc ?_ (by simp) _))

set_option maxHeartbeats 1000000 in
theorem mok_any (w h o : Int) (W : World) (h1 : 1 ≤ w) (h2 : w ≤ 4) (h3 : 1 ≤ h) (h4 : h ≤ 4) (v : Bool) (hv : decide (0 ≤ o ∧ o ≤ topZ w h) = v) :
    Calls Try.prog 48 #[.agg #[.int .i64 w, .int .i64 h, .int .i64 o]] W (Bl v W) := by
  have HK := @Lib.hid _ (fun w' a (e : a = v) b => @bl_mk a v W w' e b)
  have HO : Hid (∀ X, Calls Try.prog 23 #[.agg #[.int .i64 w, .int .i64 h]] X (Bl true X)) := fun X => ok_yes w h X h1 h2 h3 h4
  have HA : Hid (∀ X, Calls Try.prog 61 #[.agg #[.int .i64 w, .int .i64 h]] X (Nm (topZ w h) X)) := fun X => allOpen_any w h X h1 h2 h3 h4
  have hx := Lib.hid (mbox_new w h o W 30)
  generalize topZ w h = T at *
  by_cases o0 : 0 ≤ o
  · have HV : Hid (decide (o ≤ T) = v) := by rw [← hv]; simp only [o0, true_and]; trivial
    clear hv
    go_enter Try.func48, Try.ntmps48
    go_wp2_with fail
    go_region_held3 (fun w' => w'.cell? ⟨W.heap.size, 0, none⟩ = some (.int .i64 w) ∧ w'.cell? ⟨W.heap.size, 1, none⟩ = some (.int .i64 h) ∧ w'.cell? ⟨W.heap.size, 2, none⟩ = some (.int .i64 o)) (go_keep)
      (first | (go_at_call 23; refine (HO.out _).mono ?_; rintro e w1 ⟨rfl, hb⟩; have hx1 := Lib.hid (mbox_after hb hx.out); obtain ⟨c0, c1, c2⟩ := hx1.out.1) | (go_at_call 61; refine (HA.out _).mono ?_; rintro e w2 ⟨rfl, hb2⟩; obtain ⟨c0', c1', c2'⟩ := (mbox_after hb2 hx1.out).1))
    go_wp2_with fail
    go_ret
    exact HK.out _ _ HV.out (by refine below_call ?_ hb2; repeat (first | exact Below.refl _ _ | refine below_call ?_ hb | refine Below.drew ?_ | refine Below.alloc ?_ (by simp) _))
  · have hv' : v = false := by rw [← hv]; simp [o0]
    have HV : Hid (false = v) := hv'.symm
    clear hv hv'
    go_enter Try.func48, Try.ntmps48
    go_wp2_with fail
    first | go_region_with
      ((go_at_call 23; refine (HO.out _).mono ?_; rintro e w1 ⟨rfl, hb⟩; obtain ⟨c0, c1, c2⟩ := (mbox_after hb hx.out).1)) | fail
    all_goals
      go_wp2_with fail
      go_ret
      exact HK.out _ _ HV.out (by refine below_call ?_ hb; repeat (first | exact Below.refl _ _ | refine Below.drew ?_ | refine Below.alloc ?_ (by simp) _))
end Go.Proofs.Ythakbjdkcdppjaa.mazeC

/- An answer that is a maze, and the block in which it is made. -/
namespace Go.Proofs.Ythakbjdkcdppjaa.mazeM
open Go.ChangeShapes Go.WideShapes Go.ChangeAt Go.RowKit
open draw gridP gridC mazeC
set_option linter.unusedVariables false

/-- A call answers a maze and leaves all that was there. -/
def Mz (x y z : Int) (w : World) (e : Ending) (w' : World) : Prop := e = .returned (.agg #[.int .i64 x, .int .i64 y, .int .i64 z]) ∧ Below w.heap.size w w'
theorem mz_mk {x y z : Int} {w w' : World} (hb : Below w.heap.size w w') : Mz x y z w (.returned (.agg #[.int .i64 x, .int .i64 y, .int .i64 z])) w' := ⟨rfl, hb⟩
/-- A call answers a maze and a truth value, and leaves all that was there. -/
def MzB (x y z : Int) (b : Bool) (w : World) (e : Ending) (w' : World) : Prop := e = .returned (.tuple #[.agg #[.int .i64 x, .int .i64 y, .int .i64 z], .bool b]) ∧ Below w.heap.size w w'
theorem mzb_mk {x y z z' : Int} {b b' : Bool} {w w' : World} (h : z = z') (h' : b = b') (hb : Below w.heap.size w w') : MzB x y z' b' w (.returned (.tuple #[.agg #[.int .i64 x, .int .i64 y, .int .i64 z], .bool b])) w' := ⟨by rw [h, h'], hb⟩

theorem below_dr {B : Nat} {a w : World} (h : Below B a w) : Below B a w.drew := below_draws h 1
theorem below_two (W : World) (o o' : Obj) : Below W.heap.size W ((W.alloc o).alloc o') := ((Below.refl _ _).alloc (Nat.le_refl _) _).alloc (by simp) _
theorem box_two (w h : Int) (W : World) (T : TypeId) (o' : Obj) : Box W.heap.size w h ((W.alloc (.cells #[.int .i64 w, .int .i64 h] T)).alloc o') := (box_new w h W T).call (below_box _ _)
theorem mbox_two (w h o : Int) (W : World) (T : TypeId) (o' : Obj) : MBox W.heap.size w h o ((W.alloc (.cells #[.int .i64 w, .int .i64 h, .int .i64 o] T)).alloc o') := (mbox_new w h o W T).call (below_box _ _)
theorem box_after' {b : Nat} {w h : Int} {X X' : World} (hb : Below X.heap.size X X') (hx : Box b w h X) : X'.cell? ⟨b, 0, none⟩ = some (.int .i64 w) ∧ X'.cell? ⟨b, 1, none⟩ = some (.int .i64 h) := (hx.call hb).1

/-- The full maze of a grid. -/
def fmX (w h : Int) : Int := if 1 ≤ w ∧ w ≤ 4 ∧ 1 ≤ h ∧ h ≤ 4 then w else 0
def fmY (w h : Int) : Int := if 1 ≤ w ∧ w ≤ 4 ∧ 1 ≤ h ∧ h ≤ 4 then h else 0
def fmO (w h : Int) : Int := if 1 ≤ w ∧ w ≤ 4 ∧ 1 ≤ h ∧ h ≤ 4 then mazeP.topZ w h else 0
/-- Block b is a row of three numbers. -/
def Row3 (b : Nat) (x y z : Int) (X : World) : Prop := ∃ T, X.heap[b]? = some (.cells #[.int .i64 x, .int .i64 y, .int .i64 z] T (0, 0))
theorem row3_lt {b : Nat} {x y z : Int} {X : World} (h : Row3 b x y z X) : b < X.heap.size := by
  obtain ⟨T, h⟩ := h
  exact (Array.getElem?_eq_some_iff.1 h).1
theorem Row3.call {b : Nat} {x y z : Int} {X X' : World} (h : Row3 b x y z X) (hb : Below X.heap.size X X') : Row3 b x y z X' := by
  have := row3_lt h
  obtain ⟨T, h⟩ := h
  exact ⟨T, (hb.block b this).trans h⟩
theorem row3_new (x y z : Int) (W : World) (T : TypeId) : Row3 W.heap.size x y z (W.alloc (.cells #[.int .i64 x, .int .i64 y, .int .i64 z] T)) := ⟨T, heap_alloc_new W _⟩
theorem row3_two (x y z : Int) (W : World) (T : TypeId) (o' : Obj) : Row3 W.heap.size x y z ((W.alloc (.cells #[.int .i64 x, .int .i64 y, .int .i64 z] T)).alloc o') := Row3.call (row3_new x y z W T) (below_box _ _)
/-- Its cells can be read and written. -/
theorem row3_cells {b : Nat} {x y z : Int} {X : World} (h : Row3 b x y z X) : (X.cell? ⟨b, 0, none⟩ = some (.int .i64 x) ∧ X.cell? ⟨b, 1, none⟩ = some (.int .i64 y) ∧ X.cell? ⟨b, 2, none⟩ = some (.int .i64 z)) ∧ X.frozen? ⟨b, 0, none⟩ = false ∧ X.frozen? ⟨b, 1, none⟩ = false ∧ X.frozen? ⟨b, 2, none⟩ = false := by
  obtain ⟨T, h⟩ := h
  exact ⟨⟨cell_of_row X b 0 _ _ _ h, cell_of_row X b 1 _ _ _ h, cell_of_row X b 2 _ _ _ h⟩, by simp [World.frozen?, h], by simp [World.frozen?, h], by simp [World.frozen?, h]⟩
theorem mres_block {W w1 : World} {o : Obj} {T : TypeId} {b : Nat} (hb : Below ((W.alloc o).alloc (.cells #[.int .i64 0, .int .i64 0, .int .i64 0] T)).heap.size ((W.alloc o).alloc (.cells #[.int .i64 0, .int .i64 0, .int .i64 0] T)) w1) (e : b = W.heap.size + 1) : Row3 b 0 0 0 w1 := by
  subst e
  have := (row3_new 0 0 0 (W.alloc o) T).call hb
  simpa using this
theorem mres {W w1 : World} {o : Obj} {T : TypeId} {b : Nat} (hb : Below ((W.alloc o).alloc (.cells #[.int .i64 0, .int .i64 0, .int .i64 0] T)).heap.size ((W.alloc o).alloc (.cells #[.int .i64 0, .int .i64 0, .int .i64 0] T)) w1) (e : b = W.heap.size + 1) :
    (w1.cell? ⟨b, 0, none⟩ = some (.int .i64 0) ∧ w1.cell? ⟨b, 1, none⟩ = some (.int .i64 0) ∧ w1.cell? ⟨b, 2, none⟩ = some (.int .i64 0)) ∧ w1.frozen? ⟨b, 0, none⟩ = false ∧ w1.frozen? ⟨b, 1, none⟩ = false ∧ w1.frozen? ⟨b, 2, none⟩ = false := row3_cells (mres_block hb e)
theorem mres2 {X X' : World} {b : Nat} (hb : Below X.heap.size X X') (h : Row3 b 0 0 0 X) :
    (X'.cell? ⟨b, 0, none⟩ = some (.int .i64 0) ∧ X'.cell? ⟨b, 1, none⟩ = some (.int .i64 0) ∧ X'.cell? ⟨b, 2, none⟩ = some (.int .i64 0)) ∧ X'.frozen? ⟨b, 0, none⟩ = false ∧ X'.frozen? ⟨b, 1, none⟩ = false ∧ X'.frozen? ⟨b, 2, none⟩ = false := row3_cells (h.call hb)
end Go.Proofs.Ythakbjdkcdppjaa.mazeM

/- A maze that comes in as an argument, the laws' own copy of it, and the comparison of two mazes. -/
namespace Go.Proofs.Ythakbjdkcdppjaa.mazeR
open Go.ChangeShapes Go.WideShapes Go.ChangeAt Go.RowKit Go.Joins
open draw lawKit gridC gridR mazeC mazeM
set_option linter.unusedVariables false

set_option maxRecDepth 100000 in
theorem cellsInt : Try.prog.cellsOf 3 = 1 := by kernel_rfl

/-- Three blocks that a call has made, behind a call of another. -/
theorem three_kept {W w1 : World} {o o' o'' : Obj} (hb : Below (((W.alloc o).alloc o').alloc o'').heap.size (((W.alloc o).alloc o').alloc o'') w1) :
    Below W.heap.size W w1 ∧ w1.heap[W.heap.size]? = some o ∧ w1.heap[W.heap.size + 1]? = some o' ∧ w1.heap[W.heap.size + 2]? = some o'' := by
  have h0 : Below W.heap.size W (((W.alloc o).alloc o').alloc o'') := (((Below.refl _ _).alloc (Nat.le_refl _) _).alloc (by simp) _).alloc (by simp; omega) _
  have e1 : ((W.alloc o).alloc o').heap[W.heap.size + 1]? = some o' := by have := heap_alloc_new (W.alloc o) o'; simpa using this
  have e2 : (((W.alloc o).alloc o').alloc o'').heap[W.heap.size + 2]? = some o'' := by have := heap_alloc_new ((W.alloc o).alloc o') o''; simpa using this
  refine ⟨below_call h0 hb, ?_, ?_, ?_⟩
  · rw [hb.block _ (by simp; omega), Below.heap_alloc _ _ _ (by simp; omega), Below.heap_alloc _ _ _ (by simp)]; exact heap_alloc_new W o
  · rw [hb.block _ (by simp), Below.heap_alloc _ _ _ (by simp)]; exact e1
  · rw [hb.block _ (by simp)]; exact e2

/-- Three numbers written into a block: it is read as they are. -/
theorem ret_set3 {P : Program} {fn : Func} {R : Ending → World → Prop} {a : Act} {X : World} {b : Nat} {x y z u0 u1 u2 : Value} (h0 : X.cell? ⟨b, 0, none⟩ = some u0) (h1 : X.cell? ⟨b, 1, none⟩ = some u1) (h2 : X.cell? ⟨b, 2, none⟩ = some u2)
    (K : ∀ Y, Y.cell? ⟨b, 0, none⟩ = some x → Y.cell? ⟨b, 1, none⟩ = some y → Y.cell? ⟨b, 2, none⟩ = some z → Y = ((X.setCell ⟨b, 0, none⟩ x).setCell ⟨b, 1, none⟩ y).setCell ⟨b, 2, none⟩ z → bodyPost P fn R .ret a Y) :
    bodyPost P fn R .ret a (((X.setCell ⟨b, 0, none⟩ x).setCell ⟨b, 1, none⟩ y).setCell ⟨b, 2, none⟩ z) := by
  have n1 : (⟨b, 0, none⟩ : Addr) ≠ ⟨b, 1, none⟩ := by simp
  have n2 : (⟨b, 0, none⟩ : Addr) ≠ ⟨b, 2, none⟩ := by simp
  have n3 : (⟨b, 1, none⟩ : Addr) ≠ ⟨b, 2, none⟩ := by simp
  refine K _ ?_ ?_ ?_ rfl
  · rw [World.cell?_setCell_other _ _ _ _ n2.symm, World.cell?_setCell_other _ _ _ _ n1.symm]; exact World.cell?_setCell_same _ _ _ h0
  · rw [World.cell?_setCell_other _ _ _ _ n3.symm]; exact World.cell?_setCell_same _ _ _ ((World.cell?_setCell_other _ _ _ _ n1).trans h1)
  · exact World.cell?_setCell_same _ _ _ ((World.cell?_setCell_other _ _ _ _ n3).trans ((World.cell?_setCell_other _ _ _ _ n2).trans h2))
theorem set3_far {X : World} {b b' k : Nat} {x y z : Value} {u : Option Value} (hne : b ≠ b') (h : X.cell? ⟨b', k, none⟩ = u) :
    (((X.setCell ⟨b, 0, none⟩ x).setCell ⟨b, 1, none⟩ y).setCell ⟨b, 2, none⟩ z).cell? ⟨b', k, none⟩ = u := by
  have n : ∀ j, (⟨b, j, none⟩ : Addr) ≠ ⟨b', k, none⟩ := fun j e => hne (congrArg Addr.block e)
  rw [World.cell?_setCell_other _ _ _ _ (n 2), World.cell?_setCell_other _ _ _ _ (n 1), World.cell?_setCell_other _ _ _ _ (n 0)]; exact h

theorem eqGrid_same (x y : Int) (W : World) :
    Calls Try.prog 40 #[.agg #[.int .i64 x, .int .i64 y], .agg #[.int .i64 x, .int .i64 y]] W (Bl true W) := by
  have HK := @Lib.hid _ (fun w' b => @bl_mk true true W w' rfl b)
  have HB := Lib.hid (below_two W)
  have ex : (x != x) = false := by simp
  have ey : (y != y) = false := by simp
  go_enter Try.func40, Try.ntmps40
  go_wp2_with fail
  go_ret
  exact HK.out _ (HB.out _ _)

theorem eqMaze_same (x y z : Int) (W : World) :
    Calls Try.prog 16 #[.agg #[.int .i64 x, .int .i64 y, .int .i64 z], .agg #[.int .i64 x, .int .i64 y, .int .i64 z]] W (Bl true W) := by
  have HK := @Lib.hid _ (fun w' b => @bl_mk true true W w' rfl b)
  have HB := Lib.hid (below_two W)
  have HG := Lib.hid (fun X => eqGrid_same x y X)
  have ez : (z != z) = false := by simp
  go_enter Try.func16, Try.ntmps16
  go_wp2_with fail
  refine (HG.out _).mono ?_
  rintro e w1 ⟨rfl, hb⟩
  have hbl1 := Lib.hid (below_call (HB.out _ _) hb)
  have hx := (mbox_two x y z W _ _).call hb
  have hy := (mbox_new x y z (W.alloc _) _).call hb
  obtain ⟨⟨a0, a1, a2⟩, -⟩ := hx
  obtain ⟨⟨b0, b1, b2⟩, -⟩ := hy
  simp only [World.size_alloc] at b0 b1 b2
  clear hb
  go_wp2_with fail
  go_ret
  exact HK.out _ hbl1.out
end Go.Proofs.Ythakbjdkcdppjaa.mazeR

/- The directions in which a passage leads on: the relation of the loop. -/
namespace Go.Proofs.Ythakbjdkcdppjaa.mazeV
open Go.ChangeShapes Go.WideShapes Go.ChangeAt Go.RowKit
open draw gridP gridC bitP mazeP mazeC mazeM intsP
set_option linter.unusedVariables false

/-- At the head of a round: d directions are done. -/
def WRel (W : World) (b : Nat) (w h o k : Int) (u5 u6 : Value) (wr : World) : Prop :=
  ∃ d : Nat, d ≤ 4 ∧ u6 = .int .i64 d ∧ wr.ownsRow (b + 1) 3 1 u5 (wlN w h o k d).length (icells (wlN w h o k d)) ∧ Below W.heap.size W wr ∧ MBox b w h o wr
theorem w_skip {W w2 : World} {b : Nat} {w h o k : Int} {d : Nat} {v : Value} (hd : d < 4) (hs : ¬ 0 ≤ stZ w h o k d) (ho : w2.ownsRow (b + 1) 3 1 v (wlN w h o k d).length (icells (wlN w h o k d))) (hb : Below W.heap.size W w2) (hx : MBox b w h o w2) :
    WRel W b w h o k v (.int .i64 ((d : Int) + 1)) w2 :=
  ⟨d + 1, by omega, by go_num, by rw [wlN, if_neg hs]; exact ho, hb, hx⟩
theorem mbox_grown {X X' : World} {b : Nat} {w h o : Int} {row : Option Nat} (hx : MBox b w h o X) (hg : X.grownBy X' row) (hne : ∀ k, row = some k → b < k) : MBox b w h o X' := by
  obtain ⟨⟨c0, c1, c2⟩, hl⟩ := hx
  have hr : some b ≠ row := fun e => absurd (hne b e.symm) (Nat.lt_irrefl b)
  exact ⟨⟨hg.cell c0 hr, hg.cell c1 hr, hg.cell c2 hr⟩, Nat.lt_of_lt_of_le hl hg.size⟩
theorem w_add {W w2 w3 : World} {b : Nat} {w h o k : Int} {d gg cap : Nat} {v : Value} {ob : Obj} (hd : d < 4) (hs : 0 ≤ stZ w h o k d) (ho : w2.ownsRow (b + 1) 3 1 v (wlN w h o k d).length (icells (wlN w h o k d))) (hb : Below W.heap.size W w2) (hx : MBox b w h o w2) (hB : W.heap.size ≤ b)
    (ho' : w3.ownsRow (b + 1) 3 1 (.slice (some ⟨gg, 0, none⟩) ((wlN w h o k d).length + 1) cap) ((wlN w h o k d).length + 1) (icells (wlN w h o k d) ++ icells [(d : Int)])) (hg : (w2.alloc ob).grownBy w3 v.ownBlock) :
    WRel W b w h o k (.slice (some ⟨gg, 0, none⟩) ((wlN w h o k d).length + 1) cap) (.int .i64 ((d : Int) + 1)) w3 := by
  refine ⟨d + 1, by omega, by go_num, ?_, below_app hb (by omega) (Nat.le_refl _) ho hg, mbox_grown (hx.call (below_box _ ob)) hg fun k hk => ?_⟩
  · rw [wlN, if_pos hs, icells_append, List.length_append]; exact ho'
  · have := (ho.lt k hk).1; omega
end Go.Proofs.Ythakbjdkcdppjaa.mazeV

/- A search that is under way: a maze in a box, the distances so far, the list of cells. -/
namespace Go.Proofs.Ythakbjdkcdppjaa.reachD
open Go.ChangeShapes Go.WideShapes Go.ChangeAt Go.RowKit
open draw gridP gridC bitP mazeP mazeC mazeM intsP reachP reachM reachN
set_option linter.unusedVariables false

/-- A maze and one of its cells. -/
def hasB (x y z a : Int) : Bool := decide (OkM x y z ∧ 0 ≤ a ∧ a < x * y)

/-- What stands while a search is under way: block b is the maze's box, block Q the distances. -/
def DS (W : World) (b : Nat) (x y z : Int) (Q N : Nat) (D : List Int) (X : World) : Prop :=
  Below W.heap.size W X ∧ MBox b x y z X ∧ X.ownsRow (b + 1) 3 1 (.slice (some ⟨Q, 0, none⟩) N N) N (icells D)
theorem own_at {X : World} {base Q n c : Nat} {xs : List Value} (h : X.ownsRow base 3 1 (.slice (some ⟨Q, 0, none⟩) n c) n xs) : Q < X.heap.size := (own_lt h) Q rfl
theorem DS.call {W X X' : World} {b Q N : Nat} {x y z : Int} {D : List Int} (h : DS W b x y z Q N D X) (hb : Below X.heap.size X X') : DS W b x y z Q N D X' :=
  ⟨below_call h.1 hb, h.2.1.call hb, own_call h.2.2 hb⟩
theorem DS.dr {W X : World} {b Q N : Nat} {x y z : Int} {D : List Int} (h : DS W b x y z Q N D X) (k : Nat) : DS W b x y z Q N D (X.drewN k) := h.call ⟨rfl, rfl, rfl, Nat.le_refl _, fun _ _ => rfl⟩
theorem DS.dr1 {W X : World} {b Q N : Nat} {x y z : Int} {D : List Int} (h : DS W b x y z Q N D X) : DS W b x y z Q N D X.drew := h.dr 1
theorem mbox_set {b : Nat} {x y z : Int} {X : World} (h : MBox b x y z X) {p : Addr} (hne : p.block ≠ b) (u : Value) : MBox b x y z (X.setCell p u) := by
  obtain ⟨⟨c0, c1, c2⟩, hl⟩ := h
  have n : ∀ k, p ≠ (⟨b, k, none⟩ : Addr) := fun k e => hne (by rw [e])
  exact ⟨⟨(World.cell?_setCell_other _ _ _ _ (n 0)).trans c0, (World.cell?_setCell_other _ _ _ _ (n 1)).trans c1, (World.cell?_setCell_other _ _ _ _ (n 2)).trans c2⟩, by simpa [World.setCell] using hl⟩
theorem mbox_grown {X X' : World} {b : Nat} {w h o : Int} {row : Option Nat} (hx : MBox b w h o X) (hg : X.grownBy X' row) (hne : ∀ k, row = some k → b < k) : MBox b w h o X' := by
  obtain ⟨⟨c0, c1, c2⟩, hl⟩ := hx
  have hr : some b ≠ row := fun e => absurd (hne b e.symm) (Nat.lt_irrefl b)
  exact ⟨⟨hg.cell c0 hr, hg.cell c1 hr, hg.cell c2 hr⟩, Nat.lt_of_lt_of_le hl hg.size⟩
/-- A distance is written. -/
theorem DS.put {W X : World} {b Q N : Nat} {x y z : Int} {D : List Int} (h : DS W b x y z Q N D X) (hbQ : b < Q) (hW : W.heap.size ≤ b) (j : Nat) (u : Int) : DS W b x y z Q N (D.set j u) (X.setCell ⟨Q, j, none⟩ (.int .i64 u)) := by
  refine ⟨h.1.setCell (by simp; omega) _, mbox_set h.2.1 (by simp; omega) _, ?_⟩
  have h1 := (h.2.2.stored j (.int .i64 u)).1
  have e : (icells D).set j (.int .i64 u) = icells (D.set j u) := by simp [icells, List.map_set]
  rwa [e] at h1
/-- The list of cells has grown. -/
theorem DS.app {W X X' : World} {b Q N n : Nat} {x y z : Int} {D : List Int} {v : Value} {xs : List Value} {o : Obj} (h : DS W b x y z Q N D X) (hbQ : b < Q) (hW : W.heap.size ≤ b) (hown : X.ownsRow (Q + 1) 3 1 v n xs) (hg : (X.alloc o).grownBy X' v.ownBlock) : DS W b x y z Q N D X' := by
  have hne : ∀ k, v.ownBlock = some k → Q < k := fun k hk => by have := (hown.lt k hk).1; omega
  refine ⟨below_app h.1 (by omega) (Nat.le_refl _) hown hg, mbox_grown (h.2.1.call (below_box _ _)) hg fun k hk => by have := hne k hk; omega, (h.2.2.alloc o).kept hg (.inr fun e => ?_)⟩
  have e' : v.ownBlock = some Q := by rw [← e]; rfl
  have := hne Q e'
  omega
theorem DS.cell {W X : World} {b Q N : Nat} {x y z : Int} {D : List Int} (h : DS W b x y z Q N D X) (hl : D.length = N) (j : Nat) (hj : j < N) : X.cell? ⟨Q, j, none⟩ = some (.int .i64 (D.getD j (-1))) ∧ X.frozen? ⟨Q, j, none⟩ = false := by
  refine ⟨(h.2.2.cellAt j (by omega)).trans ?_, h.2.2.frozenAt j⟩
  rw [icells_at D j (by omega), List.getD_eq_getElem?_getD, List.getElem?_eq_getElem (by omega)]
  rfl
/-- The cells of a list, as integers. -/
def zs (L : List Nat) : List Int := L.map fun v : Nat => (v : Int)
theorem zs_len (L : List Nat) : (zs L).length = L.length := by simp [zs]
theorem zs_snoc (L : List Nat) (v : Nat) : zs (L ++ [v]) = zs L ++ [(v : Int)] := by simp [zs]
theorem zs_cell {X : World} {base g c : Nat} {L : List Nat} (h : X.ownsRow base 3 1 (.slice (some ⟨g, 0, none⟩) L.length c) L.length (icells (zs L))) {k u : Nat} (hu : L[k]? = some u) : X.cell? ⟨g, k, none⟩ = some (.int .i64 (u : Int)) := by
  have hk : k < L.length := (List.getElem?_eq_some_iff.1 hu).1
  rw [h.cellAt k (by omega), icells_at _ k (by rw [zs_len]; exact hk)]
  have : L[k] = u := by rw [List.getElem?_eq_getElem hk] at hu; simpa using hu
  simp [zs, this]

/-- At the head of the search's loop over its list. -/
def LS (W : World) (b : Nat) (x y z : Int) (Q N a : Nat) (u7 u8 : Value) (X : World) : Prop :=
  ∃ (D : List Int) (L : List Nat) (k : Nat), k ≤ L.length ∧ u8 = .int .i64 k ∧ DS W b x y z Q N D X ∧ X.ownsRow (Q + 1) 3 1 u7 L.length (icells (zs L)) ∧ Inv (stN x y z) N a D L k 0
/-- At the head of its loop over the directions. -/
def QS (W : World) (b : Nat) (x y z : Int) (Q N a k : Nat) (u7 u9 : Value) (X : World) : Prop :=
  ∃ (D : List Int) (L : List Nat) (q : Nat), q ≤ 4 ∧ k < L.length ∧ u9 = .int .i64 q ∧ DS W b x y z Q N D X ∧ X.ownsRow (Q + 1) 3 1 u7 L.length (icells (zs L)) ∧ Inv (stN x y z) N a D L k q
theorem made_zero (n : Nat) : (madeCells (Value.int .i64 0).cells n).toList = icells (List.replicate n 0) := by
  unfold madeCells icells
  apply List.ext_getElem?
  intro i
  simp only [Array.toList_map, Array.toList_range, List.getElem?_map, Value.cells]
  by_cases hi : i < n
  · simp [hi, Nat.mod_one]
  · simp [hi]
/-- The distances' row is made. -/
theorem ds_make {W X : World} {b N : Nat} {x y z : Int} (h : Below W.heap.size W X) (hx : MBox b x y z X) (hW : W.heap.size ≤ X.heap.size) (hm : N ≤ maxLen) : DS W b x y z X.heap.size N (List.replicate N 0) (X.alloc (.cells (madeCells (Value.int .i64 0).cells N) 3)) := by
  refine ⟨h.alloc hW _, hx.call (below_box _ _), ?_⟩
  have := World.ownsRow_lit (base := b + 1) (e := 3) (size := 1) X (madeCells (Value.int .i64 0).cells N) N hx.2 hm (by rw [size_madeCells]; omega)
  rwa [made_zero] at this
theorem size_set (w : World) (p : Addr) (u : Value) : (w.setCell p u).heap.size = w.heap.size := by simp [World.setCell]
theorem new_set (w : World) (p : Addr) (u : Value) (o : Obj) : ((w.setCell p u).alloc o).heap[w.heap.size]? = some o := by
  have := heap_alloc_new (w.setCell p u) o
  rwa [size_set] at this
/-- The list begins with one cell. -/
theorem list_start {X : World} {Q : Nat} (a : Nat) (p : Addr) (u : Value) (hQ : Q < X.heap.size) : ((X.setCell p u).alloc (.cells #[.int .i64 (a : Int)] 3)).ownsRow (Q + 1) 3 1 (.slice (some ⟨X.heap.size, 0, none⟩) 1 1) ([a] : List Nat).length (icells (zs [a])) := by
  have := World.ownsRow_lit (base := Q + 1) (e := 3) (size := 1) (X.setCell p u) #[.int .i64 (a : Int)] 1 (by rw [size_set]; omega) (by decide) rfl
  rw [size_set] at this
  exact this
theorem ds_after {W X X' : World} {b Q N : Nat} {x y z : Int} {D : List Int} (hb : Below X.heap.size X X') (h : DS W b x y z Q N D X) : DS W b x y z Q N D X' := h.call hb
theorem own_after {w w' : World} {base n : Nat} {v : Value} {xs : List Value} (hb : Below w.heap.size w w') (h : w.ownsRow base 3 1 v n xs) : w'.ownsRow base 3 1 v n xs := own_call h hb
theorem own_put {X : World} {base n : Nat} {v : Value} {xs : List Value} (h : X.ownsRow base 3 1 v n xs) {p : Addr} (hp : p.block < base) (u : Value) : (X.setCell p u).ownsRow base 3 1 v n xs := ownsRow_setCell_below h hp u
/-- A cell is found for the first time. -/
theorem qs_new {W X X' : World} {b Q N a k q n gg cap : Nat} {x y z : Int} {D : List Int} {L : List Nat} {v : Value} {o : Obj} (hi : Inv (stN x y z) N a D L k (q + 1)) (hq : q < 4) (hk : k < L.length) (hn : n + 1 = L.length) (hds : DS W b x y z Q N D X) (hbQ : b < Q) (hW : W.heap.size ≤ b) {xs : List Value} (hown : X.ownsRow (Q + 1) 3 1 v n xs)
    (ho' : X'.ownsRow (Q + 1) 3 1 (.slice (some ⟨gg, 0, none⟩) (n + 1) cap) (n + 1) (icells (zs L))) (hg : (X.alloc o).grownBy X' v.ownBlock) :
    QS W b x y z Q N a k (.slice (some ⟨gg, 0, none⟩) (n + 1) cap) (.int .i64 ((q : Int) + 1)) X' :=
  ⟨D, L, q + 1, by omega, hk, by go_num, hds.app hbQ hW hown hg, by rw [← hn]; exact ho', hi⟩

/-- The cells that are reached from a cell. -/
def rsZ (x y z a : Int) : List Int := if hasB x y z a = true then rlN (stN x y z) (cN x y) a.toNat (cN x y) else []
/-- The number of parts. -/
def ptZ (x y z : Int) : Int := if OkM x y z then ((cpN (stN x y z) (cN x y) (cN x y) : Nat) : Int) else 0
/-- Whether there is one part. -/
def cnB (x y z : Int) : Bool := ptZ x y z == 1
/-- The distance between two cells. -/
def dsZ (x y z a b : Int) : Int := if hasB x y z a = true ∧ hasB x y z b = true then dZ (stN x y z) (cN x y) a.toNat b.toNat else -1
/-- The farthest cell. -/
def faZ (x y z a : Int) : Int := if hasB x y z a = true then ((farN (fun v => dZ (stN x y z) (cN x y) a.toNat v) a.toNat (cN x y) : Nat) : Int) else -1
/-- What a cell that is there is. -/
theorem has_form {x y z a : Int} (h : hasB x y z a = true) : OkM x y z ∧ ∃ k : Nat, a = (k : Int) ∧ (k : Int) < x * y ∧ k < cN x y ∧ a.toNat = k ∧ cN x y ≤ 16 ∧ x * y = (cN x y : Int) := by
  have h' := of_decide_eq_true h
  obtain ⟨hv, h0, h1⟩ := h'
  obtain ⟨k, rfl⟩ := Int.eq_ofNat_of_zero_le h0
  have := (mul_bd x y hv.1.1 hv.1.2.1 hv.1.2.2.1 hv.1.2.2.2).1
  refine ⟨hv, k, rfl, h1, ?_, by simp, ?_, ?_⟩ <;> unfold cN <;> omega
theorem own_zero (W : World) (o : Obj) : ((W.alloc o).alloc (.cells #[] 3)).ownsRow (W.heap.size + 1) 3 1 (.slice (some ⟨W.heap.size + 1, 0, none⟩) 0 0) 0 [] := by
  have := World.ownsRow_lit (base := W.heap.size + 1) (e := 3) (size := 1) (W.alloc o) #[] 0 (by simp) (by decide) rfl
  simpa using this
/-- A list of distances can be read. -/
theorem dl_cell {X : World} {base g n : Nat} {st : Nat → Nat → Int} {N a c : Nat} (h : X.ownsRow base 3 1 (.slice (some ⟨g, 0, none⟩) n c) n (icells (dl st N a))) (hn : n = N) {k : Nat} (hk : k < N) : X.cell? ⟨g, k, none⟩ = some (.int .i64 (dZ st N a k)) := by
  subst hn
  rw [h.cellAt k (by omega), icells_at _ k (by rw [dl_len]; exact hk)]
  have := dl_at st n a k hk
  rw [List.getElem?_eq_getElem (by rw [dl_len]; exact hk)] at this
  simpa using this
/-- At the head of the loop that counts the parts. -/
def PS (W : World) (b : Nat) (x y z : Int) (st : Nat → Nat → Int) (N : Nat) (u3 u4 : Value) (X : World) : Prop :=
  ∃ k : Nat, k ≤ N ∧ u4 = .int .i64 k ∧ u3 = .int .i64 ((cpN st N k : Nat) : Int) ∧ Below W.heap.size W X ∧ MBox b x y z X
theorem ps_next {W X : World} {b : Nat} {x y z : Int} {st : Nat → Nat → Int} {N k : Nat} {c : Int} (hk : k < N) (hc : c = ((cpN st N (k + 1) : Nat) : Int)) (hb : Below W.heap.size W X) (hx : MBox b x y z X) : PS W b x y z st N (.int .i64 c) (.int .i64 ((k : Int) + 1)) X :=
  ⟨k + 1, by omega, by go_num, by rw [hc], hb, hx⟩
/-- The first of the reached cells can be read. -/
theorem first_cell {X : World} {base g c : Nat} {l : List Int} (h : X.ownsRow base 3 1 (.slice (some ⟨g, 0, none⟩) l.length c) l.length (icells l)) {j : Int} (hj : l[0]? = some j) : X.cell? ⟨g, 0, none⟩ = some (.int .i64 j) := by
  have hl : 0 < l.length := (List.getElem?_eq_some_iff.1 hj).1
  rw [h.cellAt 0 (by omega), icells_at l 0 hl]
  rw [List.getElem?_eq_getElem hl] at hj
  have := Option.some.inj hj
  rw [this]
/-- At the head of the loop that looks for the farthest cell. -/
def FS (W : World) (g N a : Nat) (st : Nat → Nat → Int) (cg : Nat) (u6 u7 : Value) (X : World) : Prop :=
  ∃ k : Nat, k ≤ N ∧ u7 = .int .i64 k ∧ u6 = .int .i64 ((farN (fun v => dZ st N a v) a k : Nat) : Int) ∧ Below W.heap.size W X ∧ X.ownsRow W.heap.size 3 1 (.slice (some ⟨g, 0, none⟩) N cg) N (icells (dl st N a))
theorem fs_next {W X : World} {g N a k cg : Nat} {st : Nat → Nat → Int} {c : Int} (hk : k < N) (hc : c = ((farN (fun v => dZ st N a v) a (k + 1) : Nat) : Int)) (hb : Below W.heap.size W X) (ho : X.ownsRow W.heap.size 3 1 (.slice (some ⟨g, 0, none⟩) N cg) N (icells (dl st N a))) : FS W g N a st cg (.int .i64 c) (.int .i64 ((k : Int) + 1)) X :=
  ⟨k + 1, by omega, by go_num, by rw [hc], hb, ho⟩
/-- At the head of the loop that collects the reached cells. -/
def RS (W : World) (g N a : Nat) (st : Nat → Nat → Int) (vd : Value) (u5 u7 : Value) (X : World) : Prop :=
  ∃ k : Nat, k ≤ N ∧ u7 = .int .i64 k ∧ Below W.heap.size W X ∧ X.ownsRow (W.heap.size + 1) 3 1 u5 (rlN st N a k).length (icells (rlN st N a k)) ∧ u5.ownBlock ≠ some g ∧ X.ownsRow (W.heap.size + 1) 3 1 vd N (icells (dl st N a))
theorem rs_skip {W X : World} {g N a k : Nat} {st : Nat → Nat → Int} {vd u5 : Value} (hk : k < N) (hd : ¬ 0 ≤ dZ st N a k) (hb : Below W.heap.size W X) (ho : X.ownsRow (W.heap.size + 1) 3 1 u5 (rlN st N a k).length (icells (rlN st N a k))) (hne : u5.ownBlock ≠ some g) (hv : X.ownsRow (W.heap.size + 1) 3 1 vd N (icells (dl st N a))) :
    RS W g N a st vd u5 (.int .i64 ((k : Int) + 1)) X :=
  ⟨k + 1, by omega, by go_num, hb, by rw [rlN, if_neg hd]; exact ho, hne, hv⟩
theorem rs_add {W X X' : World} {g N a k gg cap c : Nat} {st : Nat → Nat → Int} {u5 : Value} {o : Obj} (hk : k < N) (hd : 0 ≤ dZ st N a k) (hb : Below W.heap.size W X) (ho : X.ownsRow (W.heap.size + 1) 3 1 u5 (rlN st N a k).length (icells (rlN st N a k))) (hne : u5.ownBlock ≠ some g) (hv : X.ownsRow (W.heap.size + 1) 3 1 (.slice (some ⟨g, 0, none⟩) N c) N (icells (dl st N a)))
    (ho' : X'.ownsRow (W.heap.size + 1) 3 1 (.slice (some ⟨gg, 0, none⟩) ((rlN st N a k).length + 1) cap) ((rlN st N a k).length + 1) (icells (rlN st N a k) ++ icells [(k : Int)])) (hg : (X.alloc o).grownBy X' u5.ownBlock) (hat : u5.ownBlock = some gg ∨ gg = X.heap.size + 1) :
    RS W g N a st (.slice (some ⟨g, 0, none⟩) N c) (.slice (some ⟨gg, 0, none⟩) ((rlN st N a k).length + 1) cap) (.int .i64 ((k : Int) + 1)) X' := by
  have hgx : g < X.heap.size := own_lt hv g rfl
  refine ⟨k + 1, by omega, by go_num, below_app hb (by omega) (Nat.le_refl _) ho hg, ?_, ?_, (hv.alloc o).kept hg (.inr fun e => hne (by rw [← e]; rfl))⟩
  · rw [rlN, if_pos hd, icells_append, List.length_append]; exact ho'
  · show some gg ≠ some g
    rintro e
    have e := Option.some.inj e
    subst e
    rcases hat with h | h
    · exact hne h
    · omega
end Go.Proofs.Ythakbjdkcdppjaa.reachD
