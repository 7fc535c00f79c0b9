/- Slices of truth values that a call owns: plain facts. -/
import Derived.Test.YtomjfcmaoeoigaaIntsP
namespace Go.Proofs.Ytomjfcmaoeoigaa.boolP
open Go.ChangeShapes Go.WideShapes Go.ChangeAt Go.RowKit
open intsP
set_option linter.unusedVariables false

theorem info_bool : (Try.prog.info? 4).map (fun i => (i.zero, i.size, i.bytes)) = some (some (.bool false), 1, 1) := by kernel_rfl
/-- The cells that hold truth values. -/
def bcells (l : List Bool) : List Value := l.map fun z => .bool z
theorem bcells_append (a b : List Bool) : bcells (a ++ b) = bcells a ++ bcells b := by simp [bcells]
theorem bcells_length (a : List Bool) : (bcells a).length = a.length := by simp [bcells]
theorem bcells_at (l : List Bool) (j : Nat) (h : j < l.length) : (bcells l)[j]? = some (.bool (l[j])) := by simp [bcells, h]
theorem oneCellB (l : List Bool) : ∀ u ∈ bcells l, u.oneCell' = true := by
  intro u hu
  simp [bcells] at hu
  rcases hu with ⟨_, rfl⟩ | ⟨_, rfl⟩ <;> rfl
theorem made_false (n : Nat) : (madeCells (Value.bool false).cells n).toList = bcells (List.replicate n false) := by
  unfold madeCells bcells
  apply List.ext_getElem?
  intro i
  simp only [Array.toList_map, Array.toList_range, List.getElem?_map, Value.cells]
  by_cases hi : i < n
  · simp [hi, Nat.mod_one]
  · simp [hi]
/-- A row of truth values is made. -/
theorem bools_make (base N : Nat) (X : World) (hB : base ≤ X.heap.size) (hm : N ≤ maxLen) : (X.alloc (.cells (madeCells (Value.bool false).cells N) 4)).ownsRow base 4 1 (.slice (some ⟨X.heap.size, 0, none⟩) N N) N (bcells (List.replicate N false)) := by
  have := World.ownsRow_lit (base := base) (e := 4) (size := 1) X (madeCells (Value.bool false).cells N) N hB hm (by rw [size_madeCells]; omega)
  rwa [made_false] at this
theorem bools_cell {X : World} {base Q N c : Nat} {B : List Bool} (h : X.ownsRow base 4 1 (.slice (some ⟨Q, 0, none⟩) N c) N (bcells B)) (hl : B.length = N) (j : Nat) (hj : j < N) : X.cell? ⟨Q, j, none⟩ = some (.bool (B.getD j false)) ∧ X.frozen? ⟨Q, j, none⟩ = false := by
  refine ⟨(h.cellAt j (by omega)).trans ?_, h.frozenAt j⟩
  rw [bcells_at B j (by omega), List.getD_eq_getElem?_getD, List.getElem?_eq_getElem (by omega)]
  rfl
theorem bools_put {X : World} {base Q N c : Nat} {B : List Bool} (h : X.ownsRow base 4 1 (.slice (some ⟨Q, 0, none⟩) N c) N (bcells B)) (j : Nat) (u : Bool) : (X.setCell ⟨Q, j, none⟩ (.bool u)).ownsRow base 4 1 (.slice (some ⟨Q, 0, none⟩) N c) N (bcells (B.set j u)) := by
  have h1 := (h.stored j (.bool u)).1
  have e : (bcells B).set j (.bool u) = bcells (B.set j u) := by simp [bcells, List.map_set]
  rwa [e] at h1
theorem getB_set (B : List Bool) (i j : Nat) (x : Bool) (hi : i < B.length) : (B.set i x).getD j false = if i = j then x else B.getD j false := by
  simp only [List.getD_eq_getElem?_getD, List.getElem?_set]
  by_cases h : i = j
  · subst h; simp [hi]
  · simp [h]
end Go.Proofs.Ytomjfcmaoeoigaa.boolP
