/- The numbers of mazes, without the program: which gaps are open, as a number's binary places. -/
import Derived.Test.YtomjfcmaoeoigaaGridP
import Derived.Test.YtomjfcmaoeoigaaBitP
namespace Go.Proofs.Ytomjfcmaoeoigaa.mazeP
open gridP bitP

/-- The number of gaps of a grid. -/
def gpsZ (w h : Int) : Int := (w - 1) * h + w * (h - 1)
/-- The greatest number of open gaps' places. -/
def topZ (w h : Int) : Int := 2 ^ (gpsZ w h).toNat - 1
/-- A maze is valid. -/
def OkM (w h o : Int) : Prop := (1 ≤ w ∧ w ≤ 4 ∧ 1 ≤ h ∧ h ≤ 4) ∧ 0 ≤ o ∧ o ≤ topZ w h
instance (w h o : Int) : Decidable (OkM w h o) := by unfold OkM; infer_instance
/-- Whether a maze is valid. -/
def okB (w h o : Int) : Bool := decide (OkM w h o)
/-- Whether a gap is a passage. -/
def psB (w h o g : Int) : Bool := decide (OkM w h o ∧ 0 ≤ g ∧ g < gpsZ w h ∧ bitZ o g = 1)

theorem gps_bd {w h : Int} (h1 : 1 ≤ w) (h2 : w ≤ 4) (h3 : 1 ≤ h) (h4 : h ≤ 4) : 0 ≤ gpsZ w h ∧ gpsZ w h ≤ 24 := by
  unfold gpsZ
  obtain rfl | rfl | rfl | rfl : w = 1 ∨ w = 2 ∨ w = 3 ∨ w = 4 := by omega
  all_goals omega
theorem top_bd {w h : Int} (h1 : 1 ≤ w) (h2 : w ≤ 4) (h3 : 1 ≤ h) (h4 : h ≤ 4) : 0 ≤ topZ w h ∧ topZ w h ≤ 16777215 := by
  have := pow_bd (gpsZ w h) (gps_bd h1 h2 h3 h4).2
  unfold topZ; omega
theorem OkM.lt {w h o : Int} (h : OkM w h o) : 0 ≤ o ∧ o < 16777216 := by
  obtain ⟨⟨a, b, c, d⟩, e, f⟩ := h
  have := top_bd a b c d
  omega
/-- The cell behind a passage, -1 where there is none. -/
def stZ (w h o k d : Int) : Int := if psB w h o (gpZ w h k d) = true then nbZ w h k d else -1
/-- The directions below d in which a passage leads on. -/
def wlN (w h o k : Int) : Nat → List Int
  | 0 => []
  | d + 1 => if 0 ≤ stZ w h o k d then wlN w h o k d ++ [(d : Int)] else wlN w h o k d
/-- The directions in which a passage leads on. -/
def wlZ (w h o k : Int) : List Int := wlN w h o k 4
theorem wlN_len (w h o k : Int) : ∀ d, (wlN w h o k d).length ≤ d
  | 0 => Nat.le_refl _
  | d + 1 => by
    have := wlN_len w h o k d
    unfold wlN; split
    · simp; omega
    · omega
/-- The number of passages. -/
def cpZ (w h o : Int) : Int := if OkM w h o then ((pcN o.toNat 24 : Nat) : Int) else 0
/-- Whether a gap can be set. -/
def sgB (w h o g : Int) : Bool := decide (OkM w h o ∧ 0 ≤ g ∧ g < gpsZ w h)
/-- What becomes of the open gaps. -/
def sgZ (w h o g : Int) (b : Bool) : Int :=
  if sgB w h o g = true then
    if bitZ o g = 1 then (if b = true then o else o - 2 ^ g.toNat) else (if b = true then o + 2 ^ g.toNat else o)
  else o

theorem ps_none (w h o : Int) : psB w h o (-1) = false := by unfold psB; rw [decide_eq_false_iff_not]; omega
theorem nb_ge (w h k d : Int) : -1 ≤ nbZ w h k d := by
  by_cases hn : nbZ w h k d < 0
  · unfold nbZ at hn ⊢
    split
    · rename_i h1
      split
      · rename_i h2
        have : 0 ≤ k / w ∧ 0 ≤ k % w := ⟨Int.ediv_nonneg h2.1 (by omega), Int.emod_nonneg _ (by omega)⟩
        repeat' split
        all_goals omega
      · omega
    · omega
  · omega
theorem st_ge (w h o k d : Int) : -1 ≤ stZ w h o k d := by unfold stZ; have := nb_ge w h k d; split <;> omega
theorem st_le (w h o k d : Int) : stZ w h o k d < 16 := by
  unfold stZ
  split
  · by_cases hn : nbZ w h k d < 0
    · omega
    · obtain ⟨⟨a, b, c, e⟩, _, _, _, n1⟩ := nb_some hn
      have hm := (mul_bd w h a b c e).1
      omega
  · omega
end Go.Proofs.Ytomjfcmaoeoigaa.mazeP
