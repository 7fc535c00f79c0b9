/- The draw of a tree of passages: what stands at each of its steps. -/
import Derived.Test.YtomjfcmaoeoigaaMazeD
import Derived.Test.YtomjfcmaoeoigaaMazeM
import Derived.Test.YtomjfcmaoeoigaaIntsP
import Derived.Laws.OwnMore
namespace Go.Proofs.Ytomjfcmaoeoigaa.mazeE
open Go.ChangeShapes Go.WideShapes Go.ChangeAt Go.RowKit
open draw gridP gridC bitP mazeP mazeC mazeM intsP
set_option linter.unusedVariables false

/-- A draw answers a maze of a grid. -/
def DrawnM (x y : Int) (g : Nat) (w : World) (e : Ending) (w' : World) : Prop := ∃ z : Int, (0 ≤ z ∧ z ≤ topZ x y) ∧ e = .returned (.agg #[.int .i64 x, .int .i64 y, .int .i64 z]) ∧ Cur w' g ∧ w.grownBy w' (some g)
theorem drawnM_mk {x y z : Int} {g : Nat} {w w' : World} (hz : 0 ≤ z ∧ z ≤ topZ x y) (hc : Cur w' g) (hg : w.grownBy w' (some g)) : DrawnM x y g w (.returned (.agg #[.int .i64 x, .int .i64 y, .int .i64 z])) w' := ⟨z, hz, rfl, hc, hg⟩

theorem ends_in {x y t : Int} (h1 : 1 ≤ x) (h2 : x ≤ 4) (h3 : 1 ≤ y) (h4 : y ≤ 4) (t0 : 0 ≤ t) (t1 : t < gpsZ x y) : (0 ≤ eaZ x y t ∧ eaZ x y t < x * y) ∧ 0 ≤ ebZ x y t ∧ ebZ x y t < x * y := by
  unfold gpsZ at t1
  have ha : eaZ x y t = if t < (x - 1) * y then t + t / (x - 1) else t - (x - 1) * y := by unfold eaZ; rw [if_pos ⟨h1, h2, h3, h4⟩, if_pos ⟨t0, t1⟩]
  have hb : ebZ x y t = if t < (x - 1) * y then t + t / (x - 1) + 1 else t - (x - 1) * y + x := by unfold ebZ; rw [if_pos ⟨h1, h2, h3, h4⟩, if_pos ⟨t0, t1⟩]
  rw [ha, hb]
  clear ha hb
  by_cases hs : t < (x - 1) * y
  · rw [if_pos hs, if_pos hs]
    obtain rfl | rfl | rfl | rfl : x = 1 ∨ x = 2 ∨ x = 3 ∨ x = 4 := by omega
    all_goals
      obtain rfl | rfl | rfl | rfl : y = 1 ∨ y = 2 ∨ y = 3 ∨ y = 4 := by omega
      all_goals omega
  · rw [if_neg hs, if_neg hs]
    obtain rfl | rfl | rfl | rfl : x = 1 ∨ x = 2 ∨ x = 3 ∨ x = 4 := by omega
    all_goals
      obtain rfl | rfl | rfl | rfl : y = 1 ∨ y = 2 ∨ y = 3 ∨ y = 4 := by omega
      all_goals omega

/-- What stands at a step: the cursor; the grid; the maze that is answered; the maze that grows; the cells' parts. -/
def TS (w : World) (g : Nat) (v : Value) (n : Nat) (x y : Int) (X : World) : Prop :=
  Cur X g ∧ w.grownBy X (some g) ∧ (Box w.heap.size x y X ∧ Row3 (w.heap.size + 1) 0 0 0 X ∧ (∃ z, (0 ≤ z ∧ z ≤ topZ x y) ∧ Row3 (w.heap.size + 2) x y z X) ∧ ∃ l : List Int, X.ownsRow (w.heap.size + 3) 3 1 v n (icells l))

theorem grown_below {w X X' : World} {row : Option Nat} (h : w.grownBy X row) (hb : Below X.heap.size X X') : w.grownBy X' row :=
  ⟨hb.os.trans h.os, hb.tape.trans h.tape, hb.output.trans h.output, Nat.le_trans h.size hb.size, fun i hi hne => (hb.block i (Nat.lt_of_lt_of_le hi h.size)).trans (h.block i hi hne)⟩
theorem TS.below {w X X' : World} {g n : Nat} {v : Value} {x y : Int} (h : TS w g v n x y X) (hb : Below X.heap.size X X') : TS w g v n x y X' := by
  obtain ⟨hc, hg, hx, hr, ⟨z, hz, hm⟩, l, hl⟩ := h
  exact ⟨hc.kept hb hc.lt, grown_below hg hb, hx.call hb, hr.call hb, ⟨z, hz, hm.call hb⟩, l, own_call hl hb⟩
theorem row3_grown {b g : Nat} {x y z : Int} {X X' : World} (h : Row3 b x y z X) (hg : X.grownBy X' (some g)) (hne : b ≠ g) : Row3 b x y z X' := by
  obtain ⟨T, h⟩ := h
  exact ⟨T, grown_block hg h hne⟩
theorem box_grown {b g : Nat} {x y : Int} {X X' : World} (h : Box b x y X) (hg : X.grownBy X' (some g)) (hne : b ≠ g) : Box b x y X' := by
  obtain ⟨⟨c0, c1⟩, hl⟩ := h
  have hr : some b ≠ some g := fun e => hne (Option.some.inj e)
  exact ⟨⟨hg.cell c0 hr, hg.cell c1 hr⟩, Nat.lt_of_lt_of_le hl hg.size⟩
theorem TS.draw {w X X' : World} {g n : Nat} {v : Value} {x y : Int} (h : TS w g v n x y X) (hlt : g < w.heap.size) (hc' : Cur X' g) (hg' : X.grownBy X' (some g)) : TS w g v n x y X' := by
  obtain ⟨hc, hg, hx, hr, ⟨z, hz, hm⟩, l, hl⟩ := h
  refine ⟨hc', only_trans hg hg', box_grown hx hg' (by omega), row3_grown hr hg' (by omega), ⟨z, hz, row3_grown hm hg' (by omega)⟩, l, hl.kept hg' ?_⟩
  rcases hl.2 with ⟨rfl, _⟩ | ⟨q, cap, cur, rfl, hq, _⟩
  · exact .inl rfl
  · exact .inr fun e => by simp [Value.ownBlock] at e; omega
theorem TS.drewN {w X : World} {g n : Nat} {v : Value} {x y : Int} (h : TS w g v n x y X) (k : Nat) : TS w g v n x y (X.drewN k) := h.below ⟨rfl, rfl, rfl, Nat.le_refl _, fun _ _ => rfl⟩

theorem box_set {b : Nat} {x y : Int} {X : World} (h : Box b x y X) {p : Addr} (hne : p.block ≠ b) (u : Value) : Box b x y (X.setCell p u) := by
  obtain ⟨⟨c0, c1⟩, hl⟩ := h
  have n : ∀ k, p ≠ (⟨b, k, none⟩ : Addr) := fun k e => hne (by rw [e])
  exact ⟨⟨(World.cell?_setCell_other _ _ _ _ (n 0)).trans c0, (World.cell?_setCell_other _ _ _ _ (n 1)).trans c1⟩, by simpa [World.setCell] using hl⟩
theorem row3_set {b : Nat} {x y z : Int} {X : World} (h : Row3 b x y z X) {p : Addr} (hne : p.block ≠ b) (u : Value) : Row3 b x y z (X.setCell p u) := by
  obtain ⟨T, h⟩ := h
  exact ⟨T, (Below.heap_setCell X p u b (fun e => hne e.symm)).trans h⟩
theorem row3_put {b : Nat} {x y z z' : Int} {X : World} (h : Row3 b x y z X) : Row3 b x y z' (X.setCell ⟨b, 2, none⟩ (.int .i64 z')) := by
  obtain ⟨T, h⟩ := h
  exact ⟨T, by simp [World.setCell, Array.getElem?_modify, h]⟩
theorem grown_put {w X : World} {g : Nat} (h : w.grownBy X (some g)) {p : Addr} (hp : w.heap.size ≤ p.block) (u : Value) : w.grownBy (X.setCell p u) (some g) := grown_set h hp u
theorem cur_set {X : World} {g : Nat} (h : Cur X g) {p : Addr} (hp : g < p.block) (u : Value) : Cur (X.setCell p u) g :=
  h.kept (B := p.block) ((Below.refl p.block X).setCell (Nat.le_refl _) u) hp
theorem own_set {X : World} {base n : Nat} {v : Value} {xs : List Value} (h : X.ownsRow base 3 1 v n xs) {p : Addr} (hp : p.block < base) (u : Value) : (X.setCell p u).ownsRow base 3 1 v n xs :=
  ownsRow_setCell_below h hp u
/-- The growing maze gets another number. -/
theorem TS.open {w X : World} {g n : Nat} {v : Value} {x y : Int} (h : TS w g v n x y X) (hlt : g < w.heap.size) {z' : Int} (hz : 0 ≤ z' ∧ z' ≤ topZ x y) : TS w g v n x y (X.setCell ⟨w.heap.size + 2, 2, none⟩ (.int .i64 z')) := by
  obtain ⟨hc, hg, hx, hr, ⟨z, _, hm⟩, l, hl⟩ := h
  exact ⟨cur_set hc (by simp; omega) _, grown_put hg (by simp) _, box_set hx (by simp) _, row3_set hr (by simp) _, ⟨z', hz, row3_put hm⟩, l, own_set hl (by simp) _⟩
/-- A cell gets another part. -/
theorem TS.part {w X : World} {g n q c j : Nat} {x y : Int} (h : TS w g (.slice (some ⟨q, 0, none⟩) n c) n x y X) (hlt : g < w.heap.size) (hq : w.heap.size + 3 ≤ q) (hj : j < n) (u : Int) : TS w g (.slice (some ⟨q, 0, none⟩) n c) n x y (X.setCell ⟨q, j, none⟩ (.int .i64 u)) := by
  obtain ⟨hc, hg, hx, hr, ⟨z, hz, hm⟩, l, hl⟩ := h
  refine ⟨cur_set hc (by simp; omega) _, grown_put hg (by simp; omega) _, box_set hx (by simp; omega) _, row3_set hr (by simp; omega) _, ⟨z, hz, row3_set hm (by simp; omega) _⟩, l.set j u, ?_⟩
  have h1 := (hl.stored j (.int .i64 u)).1
  have e : (icells l).set j (.int .i64 u) = icells (l.set j u) := by simp [icells, List.map_set]
  rwa [e] at h1
/-- A cell's part can be read and written. -/
theorem TS.cell {w X : World} {g n q c : Nat} {x y : Int} (h : TS w g (.slice (some ⟨q, 0, none⟩) n c) n x y X) (j : Nat) (hj : j < n) : (∃ u : Int, X.cell? ⟨q, j, none⟩ = some (.int .i64 u)) ∧ X.frozen? ⟨q, j, none⟩ = false := by
  obtain ⟨_, _, _, _, _, l, hl⟩ := h
  have hlen : l.length = n := by have := hl.1; rw [icells_length] at this; omega
  exact ⟨⟨l[j]'(by omega), (hl.cellAt j (by omega)).trans (icells_at l j (by omega))⟩, hl.frozenAt j⟩
theorem TS.parts {w X : World} {g n : Nat} {v : Value} {x y : Int} (h : TS w g v n x y X) :
    (X.cell? ⟨w.heap.size, 0, none⟩ = some (.int .i64 x) ∧ X.cell? ⟨w.heap.size, 1, none⟩ = some (.int .i64 y)) ∧
    ((X.cell? ⟨w.heap.size + 1, 0, none⟩ = some (.int .i64 0) ∧ X.cell? ⟨w.heap.size + 1, 1, none⟩ = some (.int .i64 0) ∧ X.cell? ⟨w.heap.size + 1, 2, none⟩ = some (.int .i64 0)) ∧ X.frozen? ⟨w.heap.size + 1, 0, none⟩ = false ∧ X.frozen? ⟨w.heap.size + 1, 1, none⟩ = false ∧ X.frozen? ⟨w.heap.size + 1, 2, none⟩ = false) ∧
    ∃ z, (0 ≤ z ∧ z ≤ topZ x y) ∧ (X.cell? ⟨w.heap.size + 2, 0, none⟩ = some (.int .i64 x) ∧ X.cell? ⟨w.heap.size + 2, 1, none⟩ = some (.int .i64 y) ∧ X.cell? ⟨w.heap.size + 2, 2, none⟩ = some (.int .i64 z)) ∧ X.frozen? ⟨w.heap.size + 2, 0, none⟩ = false ∧ X.frozen? ⟨w.heap.size + 2, 1, none⟩ = false ∧ X.frozen? ⟨w.heap.size + 2, 2, none⟩ = false := by
  obtain ⟨_, _, hx, hr, ⟨z, hz, hm⟩, _⟩ := h
  exact ⟨hx.1, row3_cells hr, z, hz, row3_cells hm⟩
theorem TS.cur {w X : World} {g n : Nat} {v : Value} {x y : Int} (h : TS w g v n x y X) : Cur X g := h.1
/-- At the start. -/
theorem ts_start {w : World} {g : Nat} {x y : Int} (hc : Cur w g) (h0 : 0 ≤ topZ x y) (T T' T'' : TypeId) :
    TS w g (.slice none 0 0) 0 x y (((w.alloc (.cells #[.int .i64 x, .int .i64 y] T)).alloc (.cells #[.int .i64 0, .int .i64 0, .int .i64 0] T')).alloc (.cells #[.int .i64 x, .int .i64 y, .int .i64 0] T'')) := by
  refine ⟨((hc.alloc1 _).alloc1 _).alloc1 _, only_alloc1 (only_alloc1 (only_alloc1 (World.grownBy.refl w _) _) _) _, ?_, ?_, ⟨0, ⟨Int.le_refl _, h0⟩, ?_⟩, [], World.ownsRow_nil _ _ _ _⟩
  · exact ((box_new x y w T).call (below_box _ _)).call (below_box _ _)
  · have := Row3.call (row3_new 0 0 0 (w.alloc (.cells #[.int .i64 x, .int .i64 y] T)) T') (below_box _ (.cells #[.int .i64 x, .int .i64 y, .int .i64 0] T''))
    simpa using this
  · have := row3_new x y 0 ((w.alloc (.cells #[.int .i64 x, .int .i64 y] T)).alloc (.cells #[.int .i64 0, .int .i64 0, .int .i64 0] T')) T''
    simpa using this
theorem made_ints (n : Nat) : (madeCells (Value.int .i64 0).cells n).toList = icells (List.replicate n 0) := by
  unfold madeCells icells
  apply List.ext_getElem?
  intro i
  simp only [Array.toList_map, Array.toList_range, List.getElem?_map, Value.cells]
  by_cases hi : i < n
  · simp [hi, Nat.mod_one]
  · simp [hi]
/-- The cells' parts are made. -/
theorem TS.make {w X : World} {g n : Nat} {x y : Int} (h : TS w g (.slice none 0 0) 0 x y X) (hm : n ≤ maxLen) (hs : w.heap.size + 3 ≤ X.heap.size) : TS w g (.slice (some ⟨X.heap.size, 0, none⟩) n n) n x y (X.alloc (.cells (madeCells (Value.int .i64 0).cells n) 3)) := by
  obtain ⟨hc, hg, hx, hr, ⟨z, hz, hm'⟩, _⟩ := h
  refine ⟨hc.alloc1 _, only_alloc1 hg _, hx.call (below_box _ _), hr.call (below_box _ _), ⟨z, hz, hm'.call (below_box _ _)⟩, List.replicate n 0, ?_⟩
  have := World.ownsRow_lit (base := w.heap.size + 3) (e := 3) (size := 1) X (madeCells (Value.int .i64 0).cells n) n hs hm (by rw [size_madeCells]; omega)
  rwa [made_ints] at this
/-- An own slice lies behind all that was there. -/
theorem TS.size {w X : World} {g n : Nat} {v : Value} {x y : Int} (h : TS w g v n x y X) : w.heap.size + 3 ≤ X.heap.size := by
  obtain ⟨_, _, _, _, ⟨z, _, hm⟩, _⟩ := h
  have := row3_lt hm
  omega
/-- The end: what is answered is read out of its block. -/
theorem TS.done {w X : World} {g n : Nat} {v : Value} {x y : Int} (h : TS w g v n x y X) (hlt : g < w.heap.size) (u0 u1 u2 : Value) : Cur (((X.setCell ⟨w.heap.size + 1, 0, none⟩ u0).setCell ⟨w.heap.size + 1, 1, none⟩ u1).setCell ⟨w.heap.size + 1, 2, none⟩ u2) g ∧ w.grownBy (((X.setCell ⟨w.heap.size + 1, 0, none⟩ u0).setCell ⟨w.heap.size + 1, 1, none⟩ u1).setCell ⟨w.heap.size + 1, 2, none⟩ u2) (some g) :=
  ⟨cur_set (cur_set (cur_set h.1 (by simp; omega) _) (by simp; omega) _) (by simp; omega) _, grown_put (grown_put (grown_put h.2.1 (by simp) _) (by simp) _) (by simp) _⟩
end Go.Proofs.Ytomjfcmaoeoigaa.mazeE
