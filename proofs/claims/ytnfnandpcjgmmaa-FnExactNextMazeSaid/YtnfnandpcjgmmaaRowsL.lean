/- The laws' own helpers over lists of lists of integers: equal, copied, measured, marked, held. -/
import Derived.Test.YtnfnandpcjgmmaaRowsP
namespace Go.Proofs.Ytnfnandpcjgmmaa.rowsL
open Go.ChangeShapes Go.WideShapes Go.ChangeAt Go.RowKit
open draw gridC mazeC intsP reachD intA intK listK rowsP
set_option linter.unusedVariables false

theorem cellsRow : Try.prog.cellsOf 69 = 1 := by kernel_rfl

theorem bl_true {w w' : World} (h : Below w.heap.size w w') : Bl true w (.returned (.bool true)) w' := ⟨rfl, h⟩

/-- While rows are copied. -/
def RT (W : World) (n : Nat) (ls : List (List Int)) (k : Nat) (X : World) : Prop := Below W.heap.size W X ∧ MxOw X W.heap.size X.heap.size (.slice (some ⟨W.heap.size, 0, none⟩) n n) (ls.take k ++ List.replicate (n - k) [])
theorem rt_step {W X X' : World} {n k : Nat} {ls : List (List Int)} {l : List Int} {r : Value} (h : RT W n ls k X) (hn : n = ls.length) (hl : ls[k]? = some l) (hr : X'.ownsRow X.heap.size 3 1 r l.length (icells l)) (hb : Below X.heap.size X X') :
    RT W n ls (k + 1) (X'.setCell ⟨W.heap.size, k, none⟩ r) := by
  have hk : k < ls.length := (List.getElem?_eq_some_iff.1 hl).1
  obtain ⟨h1, h2⟩ := h
  have hlt : W.heap.size < X.heap.size := by
    obtain ⟨cs, -, h3, -⟩ := h2
    exact h3 _ rfl
  have e : (ls.take k ++ List.replicate (n - k) []).set k l = ls.take (k + 1) ++ List.replicate (n - (k + 1)) [] := by
    have e1 : (ls.take k).length = k := by rw [List.length_take]; omega
    have e2 : List.replicate (n - k) ([] : List Int) = [] :: List.replicate (n - (k + 1)) [] := by rw [show n - k = (n - (k + 1)) + 1 by omega]; rfl
    rw [List.set_append_right _ _ (by omega), e1, Nat.sub_self, e2, List.set_cons_zero, List.take_add_one, hl]
    simp
  refine ⟨(below_call h1 hb).setCell (Nat.le_refl _) _, ?_⟩
  have h3 := (h2.call hb).take (t' := X'.heap.size) (i := k) (r := r) (l := l) (by simp; omega) hb.size (own_base hr h1.size) (fun q e => ⟨(hr.lt q e).1, (hr.lt q e).2⟩)
  rw [e] at h3
  have e3 : (X'.setCell ⟨W.heap.size, k, none⟩ r).heap.size = X'.heap.size := by simp [World.setCell]
  rw [e3]; exact h3
theorem rt_cell {W X : World} {n k : Nat} {ls : List (List Int)} (h : RT W n ls k X) (hn : n = ls.length) (hk : k < n) : (∃ old, X.cell? ⟨W.heap.size, k, none⟩ = some old) ∧ X.frozen? ⟨W.heap.size, k, none⟩ = false := by
  obtain ⟨-, cs, h1, -⟩ := h
  have e : (ls.take k ++ List.replicate (n - k) ([] : List Int)).length = n := by simp; omega
  rw [e] at h1
  have := h1.1
  exact ⟨⟨_, (h1.cellAt k (by omega)).trans (List.getElem?_eq_getElem (by omega))⟩, h1.frozenAt k⟩
theorem RT.call {W X X' : World} {n k : Nat} {ls : List (List Int)} (h : RT W n ls k X) (hb : Below X.heap.size X X') : RT W n ls k X' := ⟨below_call h.1 hb, h.2.grow hb⟩

/-- How many numbers there are. -/
def toN (ls : List (List Int)) : Nat := (ls.map List.length).sum
theorem toN_take {ls : List (List Int)} {j : Nat} {l : List Int} (h : ls[j]? = some l) : toN (ls.take (j + 1)) = toN (ls.take j) + l.length := by
  unfold toN
  rw [List.take_add_one, h]; simp
theorem len_toN : ∀ {ls : List (List Int)} {l : List Int}, l ∈ ls → l.length ≤ toN ls
  | m :: ls, l, h => by
    show _ ≤ toN (m :: ls)
    have e : toN (m :: ls) = m.length + toN ls := by simp [toN]
    rcases List.mem_cons.1 h with rfl | h
    · omega
    · have := len_toN h; omega
theorem toN_bd : ∀ {ls : List (List Int)} {B : Nat}, (∀ l ∈ ls, l.length ≤ B) → toN ls ≤ ls.length * B
  | [], B, h => by simp [toN]
  | m :: ls, B, h => by
    have e : toN (m :: ls) = m.length + toN ls := by simp [toN]
    have h1 := toN_bd (ls := ls) (B := B) fun l hl => h l (List.mem_cons_of_mem _ hl)
    have h2 := h m List.mem_cons_self
    rw [e, List.length_cons, Nat.succ_mul]; omega
theorem toN_le (ls : List (List Int)) (j : Nat) : toN (ls.take j) ≤ toN ls := by
  have : toN ls = toN (ls.take j) + toN (ls.drop j) := by
    unfold toN
    rw [← List.sum_append, ← List.map_append, List.take_append_drop]
  omega

/-- Rows with the marks from m on. -/
def mkM : Nat → List (List Int) → List (List Int)
  | _, [] => []
  | m, l :: ls => ((List.range l.length).map fun j => ((m + j : Nat) : Int)) :: mkM (m + l.length) ls
theorem mkM_len : ∀ (m : Nat) (ls : List (List Int)), (mkM m ls).length = ls.length
  | _, [] => rfl
  | m, l :: ls => by simp [mkM, mkM_len (m + l.length) ls]
theorem marks_icells (m n : Nat) : marks m n = icells ((List.range n).map fun j => ((m + j : Nat) : Int)) := by simp [marks, icells]
/-- One more row is marked. -/
theorem mkM_step : ∀ {ls : List (List Int)} {m j : Nat} {l : List Int}, ls[j]? = some l → (mkM m (ls.take j) ++ ls.drop j).set j ((List.range l.length).map fun i => ((m + toN (ls.take j) + i : Nat) : Int)) = mkM m (ls.take (j + 1)) ++ ls.drop (j + 1)
  | [], m, j, l, h => by simp at h
  | a :: ls, m, 0, l, h => by
    obtain rfl : a = l := by simpa using h
    simp [mkM, toN]
  | a :: ls, m, j + 1, l, h => by
    have h' : ls[j]? = some l := by simpa using h
    have ih := mkM_step (m := m + a.length) h'
    simp only [List.take_succ_cons, List.drop_succ_cons, mkM, List.cons_append, List.set_cons_succ]
    congr 1
    rw [← ih]
    congr 2
    funext i
    simp [toN]
    omega
theorem mkM_at : ∀ {ls : List (List Int)} {m j : Nat} {l : List Int}, ls[j]? = some l → (mkM m ls)[j]? = some ((List.range l.length).map fun i => ((m + toN (ls.take j) + i : Nat) : Int))
  | [], m, j, l, h => by simp at h
  | a :: ls, m, 0, l, h => by
    obtain rfl : a = l := by simpa using h
    simp [mkM, toN]
  | a :: ls, m, j + 1, l, h => by
    have h' : ls[j]? = some l := by simpa using h
    have ih := mkM_at (m := m + a.length) h'
    simp only [mkM, List.getElem?_cons_succ, ih, List.take_succ_cons]
    congr 2
    funext i
    simp [toN]
    omega
theorem rest_at {ls : List (List Int)} {m j : Nat} {l : List Int} (h : ls[j]? = some l) : (mkM m (ls.take j) ++ ls.drop j)[j]? = some l := by
  have hj : j < ls.length := (List.getElem?_eq_some_iff.1 h).1
  have e : (mkM m (ls.take j)).length = j := by rw [mkM_len, List.length_take]; omega
  rw [List.getElem?_append_right (by omega), e, Nat.sub_self, List.getElem?_drop]
  exact h

end Go.Proofs.Ytnfnandpcjgmmaa.rowsL
