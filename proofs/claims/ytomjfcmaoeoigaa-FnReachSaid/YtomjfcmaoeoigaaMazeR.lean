/- A maze that comes in as an argument, the laws' own copy of it, and the comparison of two mazes. -/
import Derived.Test.YtomjfcmaoeoigaaGridR
import Derived.Test.YtomjfcmaoeoigaaMazeM
namespace Go.Proofs.Ytomjfcmaoeoigaa.mazeR
open Go.ChangeShapes Go.WideShapes Go.ChangeAt Go.RowKit Go.Joins
open draw lawKit gridC gridR mazeC mazeM
set_option linter.unusedVariables false

theorem cellsMaze : Try.prog.cellsOf 40 = 3 := by kernel_rfl
theorem cellsInt : Try.prog.cellsOf 3 = 1 := by kernel_rfl

section
variable {H : Type} {enc : TypeId × Value → H}
theorem open_maze {W : World} {base : Nat} {v : Value} {d : DataW H} {ps : List MemPlace}
    (hval : Value.okWide Try.prog W .any base 40 v) (h : DataW.Trod enc Try.prog W 0 (fun _ => true) true 40 v d ps) :
    ∃ x y z : Int, v = .agg #[.int .i64 x, .int .i64 y, .int .i64 z] ∧ d = .agg [.agg [.lit (.int .i64 x), .lit (.int .i64 y)], .lit (.int .i64 z)] ∧ ps = [] ∧ (Lit.int .i64 x).wf = true ∧ (Lit.int .i64 y).wf = true ∧ (Lit.int .i64 z).wf = true := by
  obtain ⟨cs, rfl, hsz⟩ := okWide_struct Try.underlying40 hval
  obtain ⟨c0, c1, c2, rfl⟩ := array3 (hsz.trans cellsMaze)
  obtain ⟨fuel, hf⟩ := h
  obtain ⟨y0, y1, n, hx, _, h0, h1⟩ := trod_struct2 Try.underlying40 hf
  simp only [Prod.mk.injEq] at hx
  obtain ⟨rfl, rfl⟩ := hx
  simp [Value.cells, cellsGrid, cellsInt] at h0 h1
  obtain ⟨z0, z1, n', hx', _, g0, g1⟩ := trod_struct2 Try.underlying38 h0
  simp [cellsInt] at g0 g1
  subst hx'
  obtain ⟨a, e0, rfl, wa⟩ := DataW.trod_int Try.underlying3 g0
  obtain ⟨b, e1, rfl, wb⟩ := DataW.trod_int Try.underlying3 g1
  obtain ⟨c, e2, rfl, wc⟩ := DataW.trod_int Try.underlying3 h1
  simp at e0 e1 e2
  subst e0 e1 e2
  exact ⟨a, b, c, rfl, rfl, rfl, wa, wb, wc⟩
theorem shut_maze {W : World} {b : Nat} {sp : Nat → Bool} {hd : Bool} {x y z : Int} (wx : (Lit.int .i64 x).wf = true) (wy : (Lit.int .i64 y).wf = true) (wz : (Lit.int .i64 z).wf = true) :
    DataW.Trod enc Try.prog W b sp hd 40 (.agg #[.int .i64 x, .int .i64 y, .int .i64 z]) (.agg [.agg [.lit (.int .i64 x), .lit (.int .i64 y)], .lit (.int .i64 z)]) [] := by
  have tg := trod_struct2_mk (enc := enc) (w := W) (base := b) (spare := sp) (held := hd) (n := 1) (cs := [.int .i64 x, .int .i64 y]) (y0 := (.lit (.int .i64 x), [])) (y1 := (.lit (.int .i64 y), [])) Try.underlying38 (by rw [cellsGrid]; rfl)
    (by simpa [cellsInt] using trod_int_mk 0 Try.underlying3 wx) (by simpa [cellsInt] using trod_int_mk 0 Try.underlying3 wy)
  have tm := trod_struct2_mk (enc := enc) (w := W) (base := b) (spare := sp) (held := hd) (n := 2) (cs := [.int .i64 x, .int .i64 y, .int .i64 z]) (y0 := (.agg [.lit (.int .i64 x), .lit (.int .i64 y)], [])) (y1 := (.lit (.int .i64 z), [])) Try.underlying40 (by rw [cellsMaze]; rfl)
    (by simpa [cellsGrid] using tg) (by simpa [cellsInt] using trod_int_mk 1 Try.underlying3 wz)
  exact ⟨3, by simpa [Value.cells] using tm⟩
end

/-- Three blocks that a call has made, behind a call of another. -/
theorem three_kept {W w1 : World} {o o' o'' : Obj} (hb : Below (((W.alloc o).alloc o').alloc o'').heap.size (((W.alloc o).alloc o').alloc o'') w1) :
    Below W.heap.size W w1 ∧ w1.heap[W.heap.size]? = some o ∧ w1.heap[W.heap.size + 1]? = some o' ∧ w1.heap[W.heap.size + 2]? = some o'' := by
  have h0 : Below W.heap.size W (((W.alloc o).alloc o').alloc o'') := (((Below.refl _ _).alloc (Nat.le_refl _) _).alloc (by simp) _).alloc (by simp; omega) _
  have e1 : ((W.alloc o).alloc o').heap[W.heap.size + 1]? = some o' := by have := heap_alloc_new (W.alloc o) o'; simpa using this
  have e2 : (((W.alloc o).alloc o').alloc o'').heap[W.heap.size + 2]? = some o'' := by have := heap_alloc_new ((W.alloc o).alloc o') o''; simpa using this
  refine ⟨below_call h0 hb, ?_, ?_, ?_⟩
  · rw [hb.block _ (by simp; omega), Below.heap_alloc _ _ _ (by simp; omega), Below.heap_alloc _ _ _ (by simp)]; exact heap_alloc_new W o
  · rw [hb.block _ (by simp), Below.heap_alloc _ _ _ (by simp)]; exact e1
  · rw [hb.block _ (by simp)]; exact e2

/-- Three numbers written into a block: it is read as they are. -/
theorem ret_set3 {P : Program} {fn : Func} {R : Ending → World → Prop} {a : Act} {X : World} {b : Nat} {x y z u0 u1 u2 : Value} (h0 : X.cell? ⟨b, 0, none⟩ = some u0) (h1 : X.cell? ⟨b, 1, none⟩ = some u1) (h2 : X.cell? ⟨b, 2, none⟩ = some u2)
    (K : ∀ Y, Y.cell? ⟨b, 0, none⟩ = some x → Y.cell? ⟨b, 1, none⟩ = some y → Y.cell? ⟨b, 2, none⟩ = some z → Y = ((X.setCell ⟨b, 0, none⟩ x).setCell ⟨b, 1, none⟩ y).setCell ⟨b, 2, none⟩ z → bodyPost P fn R .ret a Y) :
    bodyPost P fn R .ret a (((X.setCell ⟨b, 0, none⟩ x).setCell ⟨b, 1, none⟩ y).setCell ⟨b, 2, none⟩ z) := by
  have n1 : (⟨b, 0, none⟩ : Addr) ≠ ⟨b, 1, none⟩ := by simp
  have n2 : (⟨b, 0, none⟩ : Addr) ≠ ⟨b, 2, none⟩ := by simp
  have n3 : (⟨b, 1, none⟩ : Addr) ≠ ⟨b, 2, none⟩ := by simp
  refine K _ ?_ ?_ ?_ rfl
  · rw [World.cell?_setCell_other _ _ _ _ n2.symm, World.cell?_setCell_other _ _ _ _ n1.symm]; exact World.cell?_setCell_same _ _ _ h0
  · rw [World.cell?_setCell_other _ _ _ _ n3.symm]; exact World.cell?_setCell_same _ _ _ ((World.cell?_setCell_other _ _ _ _ n1).trans h1)
  · exact World.cell?_setCell_same _ _ _ ((World.cell?_setCell_other _ _ _ _ n3).trans ((World.cell?_setCell_other _ _ _ _ n2).trans h2))
theorem set3_far {X : World} {b b' k : Nat} {x y z : Value} {u : Option Value} (hne : b ≠ b') (h : X.cell? ⟨b', k, none⟩ = u) :
    (((X.setCell ⟨b, 0, none⟩ x).setCell ⟨b, 1, none⟩ y).setCell ⟨b, 2, none⟩ z).cell? ⟨b', k, none⟩ = u := by
  have n : ∀ j, (⟨b, j, none⟩ : Addr) ≠ ⟨b', k, none⟩ := fun j e => hne (congrArg Addr.block e)
  rw [World.cell?_setCell_other _ _ _ _ (n 2), World.cell?_setCell_other _ _ _ _ (n 1), World.cell?_setCell_other _ _ _ _ (n 0)]; exact h

theorem toMaze_any (x y z : Int) (W : World) :
    Calls Try.prog 19 #[.agg #[.int .i64 x, .int .i64 y, .int .i64 z]] W (Mz x y z W) := by
  have HK := @Lib.hid _ (fun w' b => @mz_mk x y z W w' b)
  have HG := Lib.hid (fun X => toGrid_any x y X)
  go_enter Try.func19, Try.ntmps19
  go_wp2_with fail
  refine (HG.out _).mono ?_
  rintro e w1 ⟨rfl, hb⟩
  obtain ⟨hbl, r0, r1, r2⟩ := three_kept hb
  have hbl1 := Lib.hid hbl
  obtain ⟨⟨a0, a1, a2⟩, -⟩ := row3_cells ⟨_, r0⟩
  obtain ⟨⟨b0, b1, b2⟩, fb0, fb1, fb2⟩ := row3_cells ⟨_, r1⟩
  obtain ⟨⟨c0, c1, c2⟩, fc0, fc1, fc2⟩ := row3_cells ⟨_, r2⟩
  clear hb hbl r0 r1 r2
  go_wp2_with fail
  refine ret_set3 (set3_far ?_ b0) (set3_far ?_ b1) (set3_far ?_ b2) fun Y d0 d1 d2 hY => ?_
  iterate 3 (simp)
  refine bodyPost_ret (v := .agg #[.int .i64 x, .int .i64 y, .int .i64 z]) (by simp [results, Try.results19, go_sem, d0, d1, d2]) rfl (HK.out _ ?_)
  subst hY
  repeat refine Below.setCell ?_ (by simp; try omega) _
  exact hbl1.out

end Go.Proofs.Ytomjfcmaoeoigaa.mazeR
