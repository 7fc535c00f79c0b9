/- The draws of the laws: a drawn grid is within the limits. -/
import Derived.Test.YtomjfcmaoeoigaaDrawB
namespace Go.Proofs.Ytomjfcmaoeoigaa.draw
open Go.ChangeShapes Go.WideShapes Go.ChangeAt Go.RowKit
set_option linter.unusedVariables false

/-- A draw answers a number of which P holds. -/
def DrawnZ (P : Int → Prop) (g : Nat) (w : World) (e : Ending) (w' : World) : Prop := ∃ z : Int, P z ∧ e = .returned (.int .i64 z) ∧ Cur w' g ∧ w.grownBy w' (some g)
theorem drawnZ_mk {P : Int → Prop} {g : Nat} {w w' : World} {z : Int} (hz : P z) (hc : Cur w' g) (hg : w.grownBy w' (some g)) : DrawnZ P g w (.returned (.int .i64 z)) w' := ⟨z, hz, rfl, hc, hg⟩

theorem pickInt_all (P : Int → Prop) (g s n : Nat) (zs : List Int) (w : World) (hc : Cur w g) (hn : 0 < n) (hn' : n ≤ 65536) (hs : s ≠ g) (hlt : s < w.heap.size) (hz : ∀ k, k < n → w.cell? ⟨s, k, none⟩ = some (.int .i64 (zs.getD k 0))) (hP : ∀ k, k < n → P (zs.getD k 0)) :
    Calls Try.prog 50 #[.pointer (some ⟨g, 0, none⟩), .slice (some ⟨s, 0, none⟩) n n] w (DrawnZ P g w) := by
  have HK := @Lib.hid _ (fun w' x (hx : x < n) (h1 : Cur w' g) (h2 : w.grownBy w' (some g)) => @drawnZ_mk P g w w' _ (hP x hx) h1 h2)
  have HZ := Lib.hid hz
  clear hz hP
  go_enter Try.func50, Try.ntmps50
  go_wp2_with fail
  refine (below_any g _ _ hc (by omega) (by omega)).mono ?_
  rintro e w1 ⟨x, hx, rfl, hc1, hg1⟩
  have hx' : x < n := by omega
  clear hx
  have hcell : w1.cell? ⟨s, x, none⟩ = some (.int .i64 (zs.getD x 0)) := hg1.cell (HZ.out x hx') (by simp; omega)
  go_wp2_with fail
  go_ret
  exact HK.out _ x hx' hc1 hg1

theorem Cur.alloc1 {w : World} {g : Nat} (h : Cur w g) (o : Obj) : Cur (w.alloc o) g := h.kept ((Below.refl w.heap.size w).alloc (Nat.le_refl _) o) h.lt

/-- The two numbers of a drawn grid. -/
theorem five_cells (w : World) (B : Nat) (hB : w.heap.size = B) (T : TypeId) (k : Nat) (hk : k < 5) : (w.alloc (.cells #[.int .i64 1, .int .i64 2, .int .i64 3, .int .i64 3, .int .i64 4] T)).cell? ⟨B, k, none⟩ = some (.int .i64 (([1, 2, 3, 3, 4] : List Int).getD k 0)) := by
  subst hB
  rw [World.cell?_alloc_new]
  match k, hk with
  | 0, _ => rfl
  | 1, _ => rfl
  | 2, _ => rfl
  | 3, _ => rfl
  | 4, _ => rfl
theorem five_in (k : Nat) (hk : k < 5) : 1 ≤ ([1, 2, 3, 3, 4] : List Int).getD k 0 ∧ ([1, 2, 3, 3, 4] : List Int).getD k 0 ≤ 4 := by
  match k, hk with
  | 0, _ => decide
  | 1, _ => decide
  | 2, _ => decide
  | 3, _ => decide
  | 4, _ => decide

/-- A draw answers a grid within the limits. -/
def DrawnG (g : Nat) (w : World) (e : Ending) (w' : World) : Prop := ∃ x y : Int, (1 ≤ x ∧ x ≤ 4 ∧ 1 ≤ y ∧ y ≤ 4) ∧ e = .returned (.agg #[.int .i64 x, .int .i64 y]) ∧ Cur w' g ∧ w.grownBy w' (some g)
theorem drawnG_mk {g : Nat} {w w' : World} {x y : Int} (hx : 1 ≤ x ∧ x ≤ 4) (hy : 1 ≤ y ∧ y ≤ 4) (hc : Cur w' g) (hg : w.grownBy w' (some g)) : DrawnG g w (.returned (.agg #[.int .i64 x, .int .i64 y])) w' :=
  ⟨x, y, ⟨hx.1, hx.2, hy.1, hy.2⟩, rfl, hc, hg⟩

theorem only_alloc1 {a w : World} {row : Option Nat} (h : a.grownBy w row) (o : Obj) : a.grownBy (w.alloc o) row :=
  ⟨h.os, h.tape, h.output, Nat.le_trans h.size (by simp), fun i hi hne => (Below.heap_alloc w o i (Nat.lt_of_lt_of_le hi h.size)).trans (h.block i hi hne)⟩
theorem only_trans1 {a w w' : World} {g : Nat} (h : a.grownBy w (some g)) (k : w.grownBy w' (some g)) : a.grownBy w' (some g) := only_trans h k
theorem grown_block {w w' : World} {g r : Nat} {o : Obj} (hg : w.grownBy w' (some g)) (h : w.heap[r]? = some o) (hne : r ≠ g) : w'.heap[r]? = some o := by
  have hr : r < w.heap.size := by
    rcases Nat.lt_or_ge r w.heap.size with hlt | hge
    · exact hlt
    · rw [Array.getElem?_eq_none hge] at h; cases h
  exact (hg.block r hr (by simpa using hne)).trans h

theorem grown_set {a w : World} {row : Option Nat} (h : a.grownBy w row) {p : Addr} (hp : a.heap.size ≤ p.block) (u : Value) : a.grownBy (w.setCell p u) row :=
  ⟨h.os, h.tape, h.output, by simpa [World.setCell] using h.size, fun i hi hne => (Below.heap_setCell w p u i (by omega)).trans (h.block i hi hne)⟩
theorem block_lt {w : World} {r : Nat} {o : Obj} (h : w.heap[r]? = some o) : r < w.heap.size := by
  rcases Nat.lt_or_ge r w.heap.size with hlt | hge
  · exact hlt
  · rw [Array.getElem?_eq_none hge] at h; cases h

set_option maxHeartbeats 1000000 in
theorem grid_any (g : Nat) (w : World) (hc : Cur w g) :
    Calls Try.prog 38 #[.pointer (some ⟨g, 0, none⟩)] w (DrawnG g w) := by
  have HK := @Lib.hid _ (fun w' x y a b h1 h2 => @drawnG_mk g w w' x y a b h1 h2)
  have hlt := hc.lt
  go_enter Try.func38, Try.ntmps38
  go_wp2_with fail
  refine (pickInt_all (fun z => 1 ≤ z ∧ z ≤ 4) g (w.heap.size + 1) 5 [1, 2, 3, 3, 4] _ ((hc.alloc1 _).alloc1 _) (by omega) (by omega) (by omega) (by simp) ?_ five_in).mono ?_
  · exact fun k hk => five_cells _ _ (by simp) _ k hk
  rintro e w1 ⟨x, hx0, rfl, hc1, hg1⟩
  have hx := Lib.hid hx0
  clear hx0
  have hr1 : w1.heap[w.heap.size]? = some (.cells #[.int .i64 0, .int .i64 0] 25 (0, 0)) := grown_block hg1 ((Below.heap_alloc (w.alloc _) _ _ (by simp)).trans (heap_alloc_new w _)) (by omega)
  have HR1 := Lib.hid hr1
  have HG1 := Lib.hid (only_trans (only_alloc1 (only_alloc1 (World.grownBy.refl w (some g)) _) _) hg1)
  have hz1 := HG1.out.size
  clear hr1 hg1
  go_wp2_with fail
  refine (pickInt_all (fun z => 1 ≤ z ∧ z ≤ 4) g w1.heap.size 5 [1, 2, 3, 3, 4] _ (hc1.alloc1 _) (by omega) (by omega) (by have := hc1.lt; omega) (by simp) ?_ five_in).mono ?_
  · exact fun k hk => five_cells _ _ rfl _ k hk
  rintro e w2 ⟨y, hy0, rfl, hc2, hg2⟩
  have hy := Lib.hid hy0
  clear hy0
  have hr2 : w2.heap[w.heap.size]? = some (.cells #[.int .i64 0, .int .i64 0] 25 (0, 0)) := grown_block hg2 ((Below.heap_alloc w1 _ _ (block_lt HR1.out)).trans HR1.out) (by omega)
  have HG2 := Lib.hid (only_trans (only_alloc1 HG1.out _) hg2)
  have c0 : w2.cell? ⟨w.heap.size, 0, none⟩ = some (.int .i64 0) := cell_of_row w2 _ 0 _ _ _ hr2
  have c1 : w2.cell? ⟨w.heap.size, 1, none⟩ = some (.int .i64 0) := cell_of_row w2 _ 1 _ _ _ hr2
  have f0 : w2.frozen? ⟨w.heap.size, 0, none⟩ = false := by simp [World.frozen?, hr2]
  have f1 : w2.frozen? ⟨w.heap.size, 1, none⟩ = false := by simp [World.frozen?, hr2]
  clear hr2 hg2
  go_wp2_with fail
  refine bodyPost_ret (v := .agg #[.int .i64 x, .int .i64 y]) (by simp [results, Try.results38, go_sem, c0, c1]) rfl (HK.out _ _ _ hx.out hy.out ?_ ?_)
  · exact hc2.kept (((Below.refl w.heap.size _).setCell (p := ⟨w.heap.size, 0, none⟩) (Nat.le_refl _) _).setCell (p := ⟨w.heap.size, 1, none⟩) (Nat.le_refl _) _) hlt
  · exact grown_set (grown_set HG2.out (p := ⟨w.heap.size, 0, none⟩) (Nat.le_refl _) _) (p := ⟨w.heap.size, 1, none⟩) (Nat.le_refl _) _

/-- A draw of a grid from a code. -/
def GridDrawn (w : World) (e : Ending) (w' : World) : Prop := ∃ x y : Int, (1 ≤ x ∧ x ≤ 4 ∧ 1 ≤ y ∧ y ≤ 4) ∧ e = .returned (.agg #[.int .i64 x, .int .i64 y]) ∧ Below w.heap.size w w'
theorem gridDrawn_mk {w w' : World} {x y : Int} (h : 1 ≤ x ∧ x ≤ 4 ∧ 1 ≤ y ∧ y ≤ 4) (hb : Below w.heap.size w w') : GridDrawn w (.returned (.agg #[.int .i64 x, .int .i64 y])) w' := ⟨x, y, h, rfl, hb⟩

end Go.Proofs.Ytomjfcmaoeoigaa.draw
