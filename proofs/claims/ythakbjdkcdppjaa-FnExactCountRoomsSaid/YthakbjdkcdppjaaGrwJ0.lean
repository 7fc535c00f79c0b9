/- Dividing as the program does it, without the program: the cells of a room, the gaps of a wall, how many choices are used. -/
import Derived.Test.YthakbjdkcdppjaaGrwP
namespace Go.Proofs.Ythakbjdkcdppjaa.grwJ
open gridP gridQ bitP mazeP mazeQ mazeM reachP reachM reachN reachD forest wayP perfP grwP
set_option linter.unusedVariables false

/-- A cell of a room. -/
def rcZ (x : Int) (c0 r0 i j : Nat) : Int := ((r0 : Int) + (i : Int)) * x + (c0 : Int) + (j : Int)
/-- The first j cells of a room's row. -/
def rcR (x : Int) (c0 r0 i j : Nat) : List Int := (List.range j).map fun j => rcZ x c0 r0 i j
/-- The cells of a room's first i rows. -/
def rcL (x : Int) (c0 r0 w i : Nat) : List Int := (List.range i).flatMap fun i => rcR x c0 r0 i w
theorem rcR_zero (x : Int) (c0 r0 i : Nat) : rcR x c0 r0 i 0 = [] := rfl
theorem rcR_succ (x : Int) (c0 r0 i j : Nat) : rcR x c0 r0 i (j + 1) = rcR x c0 r0 i j ++ [rcZ x c0 r0 i j] := by unfold rcR; rw [List.range_succ, List.map_append]; rfl
theorem rcR_len (x : Int) (c0 r0 i j : Nat) : (rcR x c0 r0 i j).length = j := by simp [rcR]
theorem rcL_zero (x : Int) (c0 r0 w : Nat) : rcL x c0 r0 w 0 = [] := rfl
theorem rcL_succ (x : Int) (c0 r0 w i : Nat) : rcL x c0 r0 w (i + 1) = rcL x c0 r0 w i ++ rcR x c0 r0 i w := by unfold rcL; rw [List.range_succ, List.flatMap_append]; simp
theorem rcL_len (x : Int) (c0 r0 w : Nat) : ∀ i, (rcL x c0 r0 w i).length = i * w
  | 0 => by simp [rcL]
  | i + 1 => by rw [rcL_succ, List.length_append, rcL_len x c0 r0 w i, rcR_len, Nat.succ_mul]
theorem rc_row (x : Int) (c0 r0 w : Nat) : rcL x c0 r0 w 1 = rcR x c0 r0 0 w := by rw [rcL_succ]; rfl
theorem row_at {x : Int} {c0 r0 w j : Nat} (h : j < w) : (rcL x c0 r0 w 1).getD j 0 = rcZ x c0 r0 0 j := by
  rw [rc_row]
  simp [rcR, List.getD, h]
theorem col_is (x : Int) (c0 r0 : Nat) : ∀ i, rcL x c0 r0 1 i = (List.range i).map fun i => rcZ x c0 r0 i 0
  | 0 => rfl
  | i + 1 => by rw [rcL_succ, col_is x c0 r0 i, List.range_succ, List.map_append]; rfl
theorem col_at {x : Int} {c0 r0 h j : Nat} (hj : j < h) : (rcL x c0 r0 1 h).getD j 0 = rcZ x c0 r0 j 0 := by
  rw [col_is]
  simp [List.getD, hj]

/-- The gaps of a line of cells in a direction are closed but for the p-th: the first i. -/
def swF (x y o : Int) (L : List Int) (d : Int) (p : Nat) : Nat → Int
  | 0 => o
  | i + 1 => sgZ x y (swF x y o L d p i) (gpZ x y (L.getD i 0) d) (decide (i = p))
theorem sw_row (x y o : Int) (c0 r0 w p : Nat) : ∀ i, i ≤ w → swF x y o (rcL x c0 r0 w 1) 2 p i = wlH x y o c0 r0 p i
  | 0, _ => rfl
  | i + 1, h => by
    unfold swF wlH
    rw [sw_row x y o c0 r0 w p i (by omega), row_at (by omega)]
    unfold rcZ
    rw [show ((r0 : Int) + ((0 : Nat) : Int)) = (r0 : Int) by omega]
theorem sw_col (x y o : Int) (c0 r0 h p : Nat) : ∀ i, i ≤ h → swF x y o (rcL x c0 r0 1 h) 1 p i = wlV x y o c0 r0 p i
  | 0, _ => rfl
  | i + 1, hi => by
    unfold swF wlV
    rw [sw_col x y o c0 r0 h p i (by omega), col_at (by omega)]
    unfold rcZ
    rw [show ((r0 : Int) + (i : Int)) = ((r0 + i : Nat) : Int) by omega, show (((r0 + i : Nat) : Int) * x + (c0 : Int) + ((0 : Nat) : Int)) = ((r0 + i : Nat) : Int) * x + (c0 : Int) by omega]

/-- Each wall uses two choices. -/
theorem dv_even {x y : Int} {cs : List Int} : ∀ (f : Nat) (o : Int) (k x0 y0 w h : Nat), ∃ t, (dvF x y cs f (o, k) x0 y0 w h).2 = k + 2 * t
  | 0, o, k, x0, y0, w, h => ⟨0, rfl⟩
  | f + 1, o, k, x0, y0, w, h => by
    by_cases hb : w = 1 ∨ h = 1
    · rw [dv_base hb]; exact ⟨0, rfl⟩
    · by_cases hl : w ≤ h
      · rw [dv_rows hb hl rfl rfl]
        generalize (chZ cs k).toNat % (h - 1) = r
        generalize wlH x y o x0 (y0 + r) ((chZ cs (k + 1)).toNat % w) w = o1
        obtain ⟨t, h1⟩ := dv_even (x := x) (y := y) (cs := cs) f o1 (k + 2) x0 y0 w (r + 1)
        generalize dvF x y cs f (o1, k + 2) x0 y0 w (r + 1) = s2 at *
        obtain ⟨o2, k2⟩ := s2
        obtain ⟨t2, h2⟩ := dv_even (x := x) (y := y) (cs := cs) f o2 k2 x0 (y0 + r + 1) w (h - r - 1)
        simp only at h1
        exact ⟨t + t2 + 1, by rw [h2, h1]; omega⟩
      · rw [dv_cols hb hl rfl rfl]
        generalize (chZ cs k).toNat % (w - 1) = c
        generalize wlV x y o (x0 + c) y0 ((chZ cs (k + 1)).toNat % h) h = o1
        obtain ⟨t, h1⟩ := dv_even (x := x) (y := y) (cs := cs) f o1 (k + 2) x0 y0 (c + 1) h
        generalize dvF x y cs f (o1, k + 2) x0 y0 (c + 1) h = s2 at *
        obtain ⟨o2, k2⟩ := s2
        obtain ⟨t2, h2⟩ := dv_even (x := x) (y := y) (cs := cs) f o2 k2 (x0 + c + 1) y0 (w - c - 1) h
        simp only at h1
        exact ⟨t + t2 + 1, by rw [h2, h1]; omega⟩
end Go.Proofs.Ythakbjdkcdppjaa.grwJ
