/- The numbers of grids, without the program: neighbors, gaps and their ends. -/
import Derived.WalkKit
namespace Go.Proofs.Ytomjfcmaoeoigaa.gridP

/-- The grid is within the limits. -/
def OkZ (w h : Int) : Prop := 1 ≤ w ∧ w ≤ 4 ∧ 1 ≤ h ∧ h ≤ 4
instance (w h : Int) : Decidable (OkZ w h) := by unfold OkZ; infer_instance
/-- The direction to the right, -1 where there is none. -/
def trZ (d : Int) : Int := if 0 ≤ d ∧ d ≤ 3 then (d + 1) % 4 else -1
/-- The neighbor of a cell of a grid, -1 where there is none. -/
def nbZ (w h k d : Int) : Int :=
  if 1 ≤ w ∧ w ≤ 4 ∧ 1 ≤ h ∧ h ≤ 4 then
    if 0 ≤ k ∧ k < w * h then
      if d = 0 then (if k < w then -1 else k - w)
      else if d = 1 then (if k % w + 1 < w then k + 1 else -1)
      else if d = 2 then (if k / w + 1 < h then k + w else -1)
      else if d = 3 then (if k % w = 0 then -1 else k - 1)
      else -1
    else -1
  else -1
/-- The gap between a cell and its neighbor, -1 where there is none. -/
def gpZ (w h k d : Int) : Int :=
  if nbZ w h k d < 0 then -1
  else if d = 1 ∨ d = 3 then min k (nbZ w h k d) - min k (nbZ w h k d) / w
  else (w - 1) * h + min k (nbZ w h k d)
/-- The western or northern cell at a gap. -/
def eaZ (w h g : Int) : Int :=
  if 1 ≤ w ∧ w ≤ 4 ∧ 1 ≤ h ∧ h ≤ 4 then
    if 0 ≤ g ∧ g < (w - 1) * h + w * (h - 1) then
      if g < (w - 1) * h then g + g / (w - 1) else g - (w - 1) * h
    else -1
  else -1
/-- The other cell at a gap. -/
def ebZ (w h g : Int) : Int :=
  if 1 ≤ w ∧ w ≤ 4 ∧ 1 ≤ h ∧ h ≤ 4 then
    if 0 ≤ g ∧ g < (w - 1) * h + w * (h - 1) then
      if g < (w - 1) * h then g + g / (w - 1) + 1 else g - (w - 1) * h + w
    else -1
  else -1

theorem mul_bd (w h : Int) (h1 : 1 ≤ w) (h2 : w ≤ 4) (h3 : 1 ≤ h) (h4 : h ≤ 4) : (1 ≤ w * h ∧ w * h ≤ 16) ∧ (0 ≤ (w - 1) * h ∧ (w - 1) * h ≤ 12) ∧ (0 ≤ w * (h - 1) ∧ w * (h - 1) ≤ 12) := by
  obtain rfl | rfl | rfl | rfl : w = 1 ∨ w = 2 ∨ w = 3 ∨ w = 4 := by omega
  all_goals omega

theorem nb_bad {w h k d : Int} (hn : ¬ (1 ≤ w ∧ w ≤ 4 ∧ 1 ≤ h ∧ h ≤ 4)) : nbZ w h k d = -1 := by unfold nbZ; rw [if_neg hn]
theorem nb_out {w h k d : Int} (hn : ¬ (0 ≤ k ∧ k < w * h)) : nbZ w h k d = -1 := by unfold nbZ; rw [if_neg hn]; split <;> rfl
theorem nb_off {w h k d : Int} (hn : ¬ (0 ≤ d ∧ d ≤ 3)) : nbZ w h k d = -1 := by
  unfold nbZ
  rw [if_neg (by omega : ¬ d = 0), if_neg (by omega : ¬ d = 1), if_neg (by omega : ¬ d = 2), if_neg (by omega : ¬ d = 3)]
  repeat' split
  all_goals rfl
/-- Where there is a neighbor, all is in range. -/
theorem nb_some {w h k d : Int} (hn : ¬ nbZ w h k d < 0) : (1 ≤ w ∧ w ≤ 4 ∧ 1 ≤ h ∧ h ≤ 4) ∧ (0 ≤ k ∧ k < w * h) ∧ (0 ≤ d ∧ d ≤ 3) ∧ 0 ≤ nbZ w h k d ∧ nbZ w h k d < w * h := by
  by_cases h1 : 1 ≤ w ∧ w ≤ 4 ∧ 1 ≤ h ∧ h ≤ 4
  · by_cases h2 : 0 ≤ k ∧ k < w * h
    · by_cases h3 : 0 ≤ d ∧ d ≤ 3
      · refine ⟨h1, h2, h3, by omega, ?_⟩
        obtain ⟨a, b, c, e⟩ := h1
        unfold nbZ
        obtain rfl | rfl | rfl | rfl : w = 1 ∨ w = 2 ∨ w = 3 ∨ w = 4 := by omega
        all_goals
          repeat' split
          all_goals omega
      · exact absurd (nb_off h3 (w := w) (h := h) (k := k)) (by omega)
    · exact absurd (nb_out h2 (d := d)) (by omega)
  · exact absurd (nb_bad h1 (k := k) (d := d)) (by omega)
end Go.Proofs.Ytomjfcmaoeoigaa.gridP
