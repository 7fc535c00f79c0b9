/- Walkers, and lists of walkers that a call writes. -/
import Derived.Test.YtkknnikhpembiaaListK
import Derived.Test.YtkknnikhpembiaaMzB
namespace Go.Proofs.Ytkknnikhpembiaa.listW
open Go.ChangeShapes Go.WideShapes Go.ChangeAt Go.RowKit
open draw gridC mazeC mazeM mazeR intsP reachD intA listK
set_option linter.unusedVariables false

/-- A call answers a walker and leaves all that was there. -/
def Wk (c f : Int) (w : World) (e : Ending) (w' : World) : Prop := e = .returned (.agg #[.int .i64 c, .int .i64 f]) ∧ Below w.heap.size w w'
theorem wk_mk {c f c' f' : Int} {w w' : World} (h : c' = c) (h' : f' = f) (hb : Below w.heap.size w w') : Wk c f w (.returned (.agg #[.int .i64 c', .int .i64 f'])) w' := ⟨by rw [h, h'], hb⟩

/-- Block b is a row of two numbers. -/
def Row2 (b : Nat) (x y : Int) (X : World) : Prop := ∃ T, X.heap[b]? = some (.cells #[.int .i64 x, .int .i64 y] T (0, 0))
theorem row2_lt {b : Nat} {x y : Int} {X : World} (h : Row2 b x y X) : b < X.heap.size := by
  obtain ⟨T, h⟩ := h
  exact (Array.getElem?_eq_some_iff.1 h).1
theorem Row2.call {b : Nat} {x y : Int} {X X' : World} (h : Row2 b x y X) (hb : Below X.heap.size X X') : Row2 b x y X' := by
  have := row2_lt h
  obtain ⟨T, h⟩ := h
  exact ⟨T, (hb.block b this).trans h⟩
theorem row2_new (x y : Int) (W : World) (T : TypeId) : Row2 W.heap.size x y (W.alloc (.cells #[.int .i64 x, .int .i64 y] T)) := ⟨T, heap_alloc_new W _⟩
theorem row2_cells {b : Nat} {x y : Int} {X : World} (h : Row2 b x y X) : (X.cell? ⟨b, 0, none⟩ = some (.int .i64 x) ∧ X.cell? ⟨b, 1, none⟩ = some (.int .i64 y)) ∧ X.frozen? ⟨b, 0, none⟩ = false ∧ X.frozen? ⟨b, 1, none⟩ = false := by
  obtain ⟨T, h⟩ := h
  exact ⟨⟨cell_of_row X b 0 _ _ _ h, cell_of_row X b 1 _ _ _ h⟩, by simp [World.frozen?, h], by simp [World.frozen?, h]⟩
theorem row2_set {b : Nat} {x y x' y' : Int} {X : World} (h : Row2 b x y X) : Row2 b x' y' ((X.setCell ⟨b, 0, none⟩ (.int .i64 x')).setCell ⟨b, 1, none⟩ (.int .i64 y')) := by
  obtain ⟨T, h⟩ := h
  exact ⟨T, by simp [World.setCell, Array.getElem?_modify, h]⟩
theorem row2_far {b : Nat} {x y : Int} {X : World} (h : Row2 b x y X) {p : Addr} (hp : p.block ≠ b) (u : Value) : Row2 b x y (X.setCell p u) := by
  obtain ⟨T, h⟩ := h
  exact ⟨T, (Below.heap_setCell X p u b (fun e => hp e.symm)).trans h⟩
theorem row2_grown {b : Nat} {x y : Int} {X X' : World} {row : Option Nat} (h : Row2 b x y X) (hg : X.grownBy X' row) (hne : row ≠ some b) : Row2 b x y X' := by
  have hl := row2_lt h
  obtain ⟨T, h⟩ := h
  exact ⟨T, (hg.block b hl (fun e => hne e.symm)).trans h⟩
/-- Two numbers written into a block: it is read as they are. -/
theorem ret_set2 {P : Program} {fn : Func} {R : Ending → World → Prop} {a : Act} {X : World} {b : Nat} {x y u0 u1 : Value} (h0 : X.cell? ⟨b, 0, none⟩ = some u0) (h1 : X.cell? ⟨b, 1, none⟩ = some u1)
    (K : ∀ Y, Y.cell? ⟨b, 0, none⟩ = some x → Y.cell? ⟨b, 1, none⟩ = some y → Y = (X.setCell ⟨b, 0, none⟩ x).setCell ⟨b, 1, none⟩ y → bodyPost P fn R .ret a Y) :
    bodyPost P fn R .ret a ((X.setCell ⟨b, 0, none⟩ x).setCell ⟨b, 1, none⟩ y) := by
  have n1 : (⟨b, 0, none⟩ : Addr) ≠ ⟨b, 1, none⟩ := by simp
  refine K _ ?_ ?_ rfl
  · rw [World.cell?_setCell_other _ _ _ _ n1.symm]; exact World.cell?_setCell_same _ _ _ h0
  · exact World.cell?_setCell_same _ _ _ ((World.cell?_setCell_other _ _ _ _ n1).trans h1)

/-- The cells of a list of walkers. -/
def wcl (l : List (Int × Int)) : List Value := l.flatMap fun s => [.int .i64 s.1, .int .i64 s.2]
theorem wcl_len (l : List (Int × Int)) : (wcl l).length = l.length * 2 := by
  induction l with
  | nil => rfl
  | cons a l ih => show ([_, _] ++ wcl l).length = _; rw [List.length_append, ih]; simp; omega
theorem wcl_app (l l' : List (Int × Int)) : wcl (l ++ l') = wcl l ++ wcl l' := by simp [wcl]
theorem wcl_at : ∀ (l : List (Int × Int)) (k : Nat) (s : Int × Int), l[k]? = some s → (wcl l)[2 * k]? = some (.int .i64 s.1) ∧ (wcl l)[2 * k + 1]? = some (.int .i64 s.2)
  | [], k, s, h => by simp at h
  | a :: l, 0, s, h => by
    obtain rfl : a = s := by simpa using h
    exact ⟨rfl, rfl⟩
  | a :: l, k + 1, s, h => by
    have := wcl_at l k s (by simpa using h)
    rw [show 2 * (k + 1) = 2 * k + 1 + 1 by omega]
    exact this
theorem wcl_one (l : List (Int × Int)) : ∀ u ∈ wcl l, u.oneCell' = true := by
  intro u hu
  obtain ⟨s, -, hs⟩ := List.mem_flatMap.1 hu
  simp at hs
  rcases hs with rfl | rfl <;> rfl
theorem info_wk : (Try.prog.info? 29).map (fun i => (i.zero, i.size, i.bytes)) = some (some (.agg #[.int .i64 0, .int .i64 0]), 2, 16) := by kernel_rfl

/-- A call answers a list of walkers of its own and leaves all that was there. -/
def Wks (l : List (Int × Int)) (w : World) (e : Ending) (w' : World) : Prop := ∃ v, e = .returned v ∧ w'.ownsRow w.heap.size 29 2 v l.length (wcl l) ∧ Below w.heap.size w w'
theorem wks_mk {l : List (Int × Int)} {w w' : World} {v : Value} {n base : Nat} (hn : n = l.length) (ho : w'.ownsRow base 29 2 v n (wcl l)) (hB : w.heap.size ≤ base) (hb : Below w.heap.size w w') : Wks l w (.returned v) w' := by
  subst hn
  exact ⟨v, rfl, own_base ho hB, hb⟩
/-- A list l of walkers that is written, in blocks from b on. -/
def WL (W : World) (b : Nat) (l : List (Int × Int)) (v : Value) (X : World) : Prop :=
  Below W.heap.size W X ∧ W.heap.size ≤ b ∧ b ≤ X.heap.size ∧ X.ownsRow b 29 2 v l.length (wcl l)
theorem WL.call {W X X' : World} {b : Nat} {l : List (Int × Int)} {v : Value} (h : WL W b l v X) (hb : Below X.heap.size X X') : WL W b l v X' :=
  ⟨below_call h.1 hb, h.2.1, Nat.le_trans h.2.2.1 hb.size, own_call h.2.2.2 hb⟩
theorem WL.form {W X : World} {b : Nat} {l : List (Int × Int)} {v : Value} (h : WL W b l v X) : ∃ A c, v = .slice A l.length c := intsP.own_form h.2.2.2
theorem wl_new {W X : World} (h : Below W.heap.size W X) (hz : W.heap.size ≤ X.heap.size) : WL W X.heap.size [] (.slice (some ⟨X.heap.size, 0, none⟩) 0 0) (X.alloc (.cells #[] 29)) := by
  refine ⟨h.alloc hz _, hz, by simp, ?_⟩
  have := World.ownsRow_lit (base := X.heap.size) (e := 29) (size := 2) X #[] 0 (Nat.le_refl _) (by decide) rfl
  simpa [wcl] using this
theorem wl_nil {W X : World} {b : Nat} (h : Below W.heap.size W X) (hW : W.heap.size ≤ b) (hb : b ≤ X.heap.size) : WL W b [] (.slice none 0 0) X := ⟨h, hW, hb, World.ownsRow_nil X b 29 2⟩
theorem WL.app {W X X' : World} {b gg cap : Nat} {l : List (Int × Int)} {v : Value} {o : Obj} {u : Int × Int} (h : WL W b l v X)
    (ho : X'.ownsRow b 29 2 (.slice (some ⟨gg, 0, none⟩) (l.length + 1) cap) (l.length + 1) (wcl l ++ wcl [u])) (hg : (X.alloc o).grownBy X' v.ownBlock) :
    WL W b (l ++ [u]) (.slice (some ⟨gg, 0, none⟩) (l.length + 1) cap) X' ∧ Below b X X' := by
  obtain ⟨h1, h2, h3, h4⟩ := h
  have hb : Below b X X' := below_app (Below.refl _ _) (Nat.le_refl _) h3 h4 hg
  refine ⟨⟨below_app h1 h2 (Nat.le_refl _) h4 hg, h2, Nat.le_trans h3 hb.size, ?_⟩, hb⟩
  rw [List.length_append, wcl_app]; exact ho
/-- The cells of a walker in a list that is owned. -/
theorem wl_cell {X : World} {base g c n i : Nat} {l : List (Int × Int)} {s : Int × Int} (h : X.ownsRow base 29 2 (.slice (some ⟨g, 0, none⟩) n c) n (wcl l)) (hs : l[i]? = some s) : X.cell? ⟨g, i * 2, none⟩ = some (.int .i64 s.1) ∧ X.cell? ⟨g, i * 2 + 1, none⟩ = some (.int .i64 s.2) := by
  have hi : i < l.length := (List.getElem?_eq_some_iff.1 hs).1
  have hn : n * 2 = l.length * 2 := by have := h.1; rw [wcl_len] at this; omega
  obtain ⟨a, b⟩ := wcl_at l i s hs
  rw [Nat.mul_comm i 2]
  exact ⟨(h.cellAt (2 * i) (by omega)).trans a, (h.cellAt (2 * i + 1) (by omega)).trans b⟩
theorem row2_keep {b B : Nat} {x y : Int} {X X' : World} (h : Row2 b x y X) (hb : b < B) (hw : Below B X X') : Row2 b x y X' := by
  obtain ⟨T, h⟩ := h
  exact ⟨T, (hw.block b hb).trans h⟩
end Go.Proofs.Ytkknnikhpembiaa.listW
