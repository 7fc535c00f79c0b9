/- Growing and dividing, without the program: the answers. -/
import Derived.Test.YthakbjdkcdppjaaWayP
import Derived.Test.YthakbjdkcdppjaaPerfP
namespace Go.Proofs.Ythakbjdkcdppjaa.grwP
open gridP gridQ bitP mazeP mazeQ mazeM reachP reachM reachN reachD forest wayP perfP
set_option linter.unusedVariables false

/-- A choice. -/
def chZ (cs : List Int) (k : Nat) : Int := if k < cs.length then max 0 (cs.getD k 0) else 0
theorem ch_ge (cs : List Int) (k : Nat) : 0 ≤ chZ cs k := by unfold chZ; split <;> omega
theorem ch_in {cs : List Int} {k : Nat} {u : Int} (h : cs[k]? = some u) : chZ cs k = max 0 u := by
  unfold chZ
  rw [if_pos (List.getElem?_eq_some_iff.1 h).1]
  simp [List.getD, h]
theorem ch_out {cs : List Int} {k : Nat} (h : cs.length ≤ k) : chZ cs k = 0 := by unfold chZ; rw [if_neg (by omega)]
theorem ch_none (k : Nat) : chZ [] k = 0 := ch_out (by simp)

/-! ### growing -/
/-- Whether a gap leads out of the maze. -/
def crB (x y : Int) (I : List Bool) (g : Nat) : Bool := I.getD (aN x y g) false != I.getD (bN x y g) false
/-- The gaps below n that lead out. -/
def crK (x y : Int) (I : List Bool) (n : Nat) : List Int := ((List.range n).filter (crB x y I)).map fun (g : Nat) => (g : Int)
def crL (x y : Int) (I : List Bool) : List Int := crK x y I (gN x y)
theorem crK_zero (x y : Int) (I : List Bool) : crK x y I 0 = [] := rfl
theorem crK_yes {x y : Int} {I : List Bool} {n : Nat} (h : crB x y I n = true) : crK x y I (n + 1) = crK x y I n ++ [(n : Int)] := by
  unfold crK; rw [List.range_succ, List.filter_append, List.map_append]; simp [h]
theorem crK_no {x y : Int} {I : List Bool} {n : Nat} (h : crB x y I n = false) : crK x y I (n + 1) = crK x y I n := by
  unfold crK; rw [List.range_succ, List.filter_append, List.map_append]; simp [h]
theorem crK_len (x y : Int) (I : List Bool) (n : Nat) : (crK x y I n).length ≤ n := by
  unfold crK; rw [List.length_map]; exact Nat.le_trans (List.length_filter_le _ _) (by simp)
theorem cr_mem {x y : Int} {I : List Bool} {u : Int} : u ∈ crL x y I ↔ ∃ g : Nat, u = (g : Int) ∧ g < gN x y ∧ crB x y I g = true := by
  unfold crL crK
  rw [List.mem_map]
  constructor
  · rintro ⟨g, hg, rfl⟩
    have := List.mem_filter.1 hg
    exact ⟨g, rfl, List.mem_range.1 this.1, this.2⟩
  · rintro ⟨g, rfl, h1, h2⟩
    exact ⟨g, List.mem_filter.2 ⟨List.mem_range.2 h1, h2⟩, rfl⟩
/-- What a choice picks. -/
def pkN (l : List Int) (c : Int) : Nat := (c % (l.length : Int)).toNat
def pkZ (l : List Int) (c : Int) : Int := l.getD (pkN l c) 0
theorem pk_lt {l : List Int} {c : Int} (h : 0 < l.length) : pkN l c < l.length := by
  unfold pkN
  have h1 := Int.emod_nonneg c (show (l.length : Int) ≠ 0 by omega)
  have h2 := Int.emod_lt_of_pos c (show (0 : Int) < (l.length : Int) by omega)
  omega
theorem pk_at {l : List Int} {c : Int} (h : 0 < l.length) : l[pkN l c]? = some (pkZ l c) := by
  unfold pkZ
  rw [List.getD, List.getElem?_eq_getElem (pk_lt h)]; rfl
/-- A gap's ends come into the maze. -/
def enL (x y : Int) (I : List Bool) (g : Int) : List Bool := (I.set (eaZ x y g).toNat true).set (ebZ x y g).toNat true
def inS (x y : Int) : List Bool := (List.replicate (cN x y) false).set 0 true
/-- The maze behind k choices: which cells are in it, its open gaps. -/
def grS (x y : Int) (cs : List Int) : Nat → List Bool × Int
  | 0 => (inS x y, 0)
  | k + 1 => (enL x y (grS x y cs k).1 (pkZ (crL x y (grS x y cs k).1) (chZ cs k)), sgZ x y (grS x y cs k).2 (pkZ (crL x y (grS x y cs k).1) (chZ cs k)) true)
def gmO (x y : Int) (cs : List Int) : Int := if 1 ≤ x ∧ x ≤ 4 ∧ 1 ≤ y ∧ y ≤ 4 then (grS x y cs (cN x y - 1)).2 else 0
theorem en_len (x y : Int) (I : List Bool) (g : Int) : (enL x y I g).length = I.length := by simp [enL]
theorem gr_len (x y : Int) (cs : List Int) : ∀ k, (grS x y cs k).1.length = cN x y
  | 0 => by simp [grS, inS]
  | k + 1 => by rw [grS]; show (enL _ _ _ _).length = _; rw [en_len, gr_len x y cs k]

/-! ### dividing -/
/-- A wall below row r, from column x0 on, with a passage at the p-th place: its first i places. -/
def wlH (x y m : Int) (x0 r p : Nat) : Nat → Int
  | 0 => m
  | i + 1 => sgZ x y (wlH x y m x0 r p i) (gpZ x y ((r : Int) * x + x0 + i) 2) (decide (i = p))
/-- A wall on the right of column c, from row y0 on. -/
def wlV (x y m : Int) (c y0 p : Nat) : Nat → Int
  | 0 => m
  | i + 1 => sgZ x y (wlV x y m c y0 p i) (gpZ x y (((y0 + i : Nat) : Int) * x + c) 1) (decide (i = p))
/-- A room is divided: the open gaps and the number of choices used. -/
def dvF (x y : Int) (cs : List Int) : Nat → Int × Nat → Nat → Nat → Nat → Nat → Int × Nat
  | 0, s, _, _, _, _ => s
  | f + 1, s, x0, y0, w, h =>
    if w = 1 ∨ h = 1 then s
    else if w ≤ h then
      dvF x y cs f (dvF x y cs f (wlH x y s.1 x0 (y0 + (chZ cs s.2).toNat % (h - 1)) ((chZ cs (s.2 + 1)).toNat % w) w, s.2 + 2) x0 y0 w ((chZ cs s.2).toNat % (h - 1) + 1))
        x0 (y0 + (chZ cs s.2).toNat % (h - 1) + 1) w (h - (chZ cs s.2).toNat % (h - 1) - 1)
    else
      dvF x y cs f (dvF x y cs f (wlV x y s.1 (x0 + (chZ cs s.2).toNat % (w - 1)) y0 ((chZ cs (s.2 + 1)).toNat % h) h, s.2 + 2) x0 y0 ((chZ cs s.2).toNat % (w - 1) + 1) h)
        (x0 + (chZ cs s.2).toNat % (w - 1) + 1) y0 (w - (chZ cs s.2).toNat % (w - 1) - 1) h
def dmS (x y : Int) (cs : List Int) : Int × Nat := dvF x y cs 8 (topZ x y, 0) 0 0 x.toNat y.toNat
def dmO (x y : Int) (cs : List Int) : Int := if 1 ≤ x ∧ x ≤ 4 ∧ 1 ≤ y ∧ y ≤ 4 then (dmS x y cs).1 else 0
def crZ (x y : Int) : Int := if 1 ≤ x ∧ x ≤ 4 ∧ 1 ≤ y ∧ y ≤ 4 then (((dmS x y []).2 / 2 : Nat) : Int) else 0
theorem cr_ge (x y : Int) : 0 ≤ crZ x y := by unfold crZ; split <;> omega
theorem dv_base {x y : Int} {cs : List Int} {f : Nat} {s : Int × Nat} {x0 y0 w h : Nat} (hb : w = 1 ∨ h = 1) : dvF x y cs (f + 1) s x0 y0 w h = s := by rw [dvF, if_pos hb]
theorem dv_rows {x y : Int} {cs : List Int} {f : Nat} {o : Int} {k x0 y0 w h : Nat} (hb : ¬ (w = 1 ∨ h = 1)) (hh : w ≤ h) {r p : Nat} (hr : (chZ cs k).toNat % (h - 1) = r) (hp : (chZ cs (k + 1)).toNat % w = p) :
    dvF x y cs (f + 1) (o, k) x0 y0 w h = dvF x y cs f (dvF x y cs f (wlH x y o x0 (y0 + r) p w, k + 2) x0 y0 w (r + 1)) x0 (y0 + r + 1) w (h - r - 1) := by
  subst hr; subst hp
  rw [dvF, if_neg hb, if_pos hh]
theorem dv_cols {x y : Int} {cs : List Int} {f : Nat} {o : Int} {k x0 y0 w h : Nat} (hb : ¬ (w = 1 ∨ h = 1)) (hh : ¬ w ≤ h) {c p : Nat} (hc : (chZ cs k).toNat % (w - 1) = c) (hp : (chZ cs (k + 1)).toNat % h = p) :
    dvF x y cs (f + 1) (o, k) x0 y0 w h = dvF x y cs f (dvF x y cs f (wlV x y o (x0 + c) y0 p h, k + 2) x0 y0 (c + 1) h) (x0 + c + 1) y0 (w - c - 1) h := by
  subst hc; subst hp
  rw [dvF, if_neg hb, if_neg hh]
/-- How many choices are used. -/
theorem dv_used {x y : Int} {cs : List Int} : ∀ (f : Nat) (o : Int) (k x0 y0 w h : Nat), 1 ≤ w → 1 ≤ h → (dvF x y cs f (o, k) x0 y0 w h).2 + 2 ≤ k + 2 * (w * h)
  | 0, o, k, x0, y0, w, h, hw, hh => by
    have : 1 ≤ w * h := Nat.mul_pos hw hh
    show k + 2 ≤ _; omega
  | f + 1, o, k, x0, y0, w, h, hw, hh => by
    by_cases hb : w = 1 ∨ h = 1
    · rw [dv_base hb]
      have : 1 ≤ w * h := Nat.mul_pos hw hh
      show k + 2 ≤ _; omega
    · by_cases hl : w ≤ h
      · have hr := Nat.mod_lt (chZ cs k).toNat (show 0 < h - 1 by omega)
        rw [dv_rows hb hl rfl rfl]
        generalize (chZ cs k).toNat % (h - 1) = r at *
        generalize (chZ cs (k + 1)).toNat % w = p at *
        have h1 := dv_used (x := x) (y := y) (cs := cs) f (wlH x y o x0 (y0 + r) p w) (k + 2) x0 y0 w (r + 1) hw (by omega)
        generalize dvF x y cs f (wlH x y o x0 (y0 + r) p w, k + 2) x0 y0 w (r + 1) = s2 at *
        obtain ⟨o2, k2⟩ := s2
        have h2 := dv_used (x := x) (y := y) (cs := cs) f o2 k2 x0 (y0 + r + 1) w (h - r - 1) hw (by omega)
        have e : w * h = w * (r + 1) + w * (h - r - 1) := by rw [← Nat.mul_add]; congr 1; omega
        rw [e]
        simp only at h1
        omega
      · have hc := Nat.mod_lt (chZ cs k).toNat (show 0 < w - 1 by omega)
        rw [dv_cols hb hl rfl rfl]
        generalize (chZ cs k).toNat % (w - 1) = c at *
        generalize (chZ cs (k + 1)).toNat % h = p at *
        have h1 := dv_used (x := x) (y := y) (cs := cs) f (wlV x y o (x0 + c) y0 p h) (k + 2) x0 y0 (c + 1) h (by omega) hh
        generalize dvF x y cs f (wlV x y o (x0 + c) y0 p h, k + 2) x0 y0 (c + 1) h = s2 at *
        obtain ⟨o2, k2⟩ := s2
        have h2 := dv_used (x := x) (y := y) (cs := cs) f o2 k2 (x0 + c + 1) y0 (w - c - 1) h (by omega) hh
        have e : w * h = (c + 1) * h + (w - c - 1) * h := by rw [← Nat.add_mul]; congr 1; omega
        rw [e]
        simp only at h1
        omega
end Go.Proofs.Ythakbjdkcdppjaa.grwP
