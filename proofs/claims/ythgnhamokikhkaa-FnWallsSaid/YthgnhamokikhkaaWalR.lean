/- What the functions on walls answer, and what their laws ask. -/
import Derived.Test.YthgnhamokikhkaaWalP
import Derived.Test.YthgnhamokikhkaaPerfP
namespace Go.Proofs.Ythgnhamokikhkaa.walR
open gridP gridQ bitP mazeP mazeQ reachP reachM reachN reachD forest perfP walP
set_option linter.unusedVariables false

/-- The number of parts of the walls. -/
def wpZ (x y z : Int) : Int := if OkM x y z then (wpN x y z.toNat : Int) else 0
def wlpZ (x y z : Int) : Int := if OkM x y z then gpsZ x y - cpZ x y z - (x - 1) * (y - 1) - 1 + wpZ x y z else 0
def wtB (x y z : Int) : Bool := decide (OkM x y z) && wpZ x y z == 1 && wlpZ x y z == 0

/-! ### lists of labels -/
def lbl (L : Nat → Nat) (n : Nat) : List Int := (List.range n).map fun c => (L c : Int)
theorem lbl_len (L : Nat → Nat) (n : Nat) : (lbl L n).length = n := by simp [lbl]
theorem lbl_at (L : Nat → Nat) {n j : Nat} (h : j < n) : (lbl L n)[j]? = some (L j : Int) := by
  unfold lbl; rw [List.getElem?_map, List.getElem?_range h]; rfl
theorem lbl_getD (L : Nat → Nat) {n j : Nat} (h : j < n) (d : Int) : (lbl L n).getD j d = (L j : Int) := by
  rw [List.getD_eq_getElem?_getD, lbl_at L h]; rfl
theorem lbl_ext {L L' : Nat → Nat} {n : Nat} (h : ∀ j, j < n → L j = L' j) : lbl L n = lbl L' n := by
  unfold lbl
  refine List.map_congr_left fun j hj => ?_
  rw [h j (List.mem_range.1 hj)]
theorem lbl_set (L : Nat → Nat) {L' : Nat → Nat} {n k u : Nat} (hk : k < n) (hu : L' k = u) (h : ∀ j, j < n → j ≠ k → L' j = L j) : (lbl L n).set k (u : Int) = lbl L' n := by
  apply List.ext_getElem?
  intro j
  rw [List.getElem?_set]
  by_cases e : k = j
  · subst e
    rw [if_pos rfl, lbl_at _ hk, if_pos (by rw [lbl_len]; exact hk), hu]
  · rw [if_neg e]
    by_cases hj : j < n
    · rw [lbl_at _ hj, lbl_at _ hj, h j hj (fun e' => e e'.symm)]
    · rw [List.getElem?_eq_none (by rw [lbl_len]; omega), List.getElem?_eq_none (by rw [lbl_len]; omega)]
theorem lbl_zero (n : Nat) : List.replicate n (0 : Int) = lbl (fun _ => 0) n := by
  apply List.ext_getElem?
  intro j
  by_cases hj : j < n
  · rw [lbl_at _ hj]; simp [hj]
  · rw [List.getElem?_eq_none (by simp; omega), List.getElem?_eq_none (by rw [lbl_len]; omega)]
/-- While the first labels are written. -/
def i0N (L : Nat → Nat) (k : Nat) : Nat → Nat := fun c => if c < k then L c else 0
theorem i0_at {L : Nat → Nat} {k : Nat} : i0N L (k + 1) k = L k := by simp [i0N]
theorem i0_far {L : Nat → Nat} {k j : Nat} (h : j ≠ k) : i0N L (k + 1) j = i0N L k j := by
  unfold i0N
  by_cases hj : j < k
  · rw [if_pos hj, if_pos (by omega)]
  · rw [if_neg hj, if_neg (by omega)]
theorem i0_all (L : Nat → Nat) (n : Nat) : lbl (i0N L n) n = lbl L n := lbl_ext fun j hj => by simp [i0N, hj]
/-- While two labels are made one. -/
def miN (L : Nat → Nat) (a b i : Nat) : Nat → Nat := fun c => if c < i then mgN L a b c else L c
theorem mi_zero (L : Nat → Nat) (a b : Nat) : miN L a b 0 = L := by funext c; simp [miN]
theorem mi_a (L : Nat → Nat) (a b i : Nat) : miN L a b i a = L a := by
  unfold miN mgN
  split
  · split <;> rfl
  · rfl
theorem mi_here (L : Nat → Nat) (a b i : Nat) : miN L a b i i = L i := by simp [miN]
theorem mi_step (L : Nat → Nat) (a b i : Nat) : miN L a b (i + 1) i = if L i = L b then L a else L i := by simp [miN, mgN]
theorem mi_far {L : Nat → Nat} {a b i j : Nat} (h : j ≠ i) : miN L a b (i + 1) j = miN L a b i j := by
  unfold miN
  by_cases hj : j < i
  · rw [if_pos hj, if_pos (by omega)]
  · rw [if_neg hj, if_neg (by omega)]
theorem mi_keep {L : Nat → Nat} {a b i : Nat} (h : L i ≠ L b) : miN L a b (i + 1) = miN L a b i := by
  funext j
  by_cases e : j = i
  · subst e; rw [mi_step, if_neg h, mi_here]
  · exact mi_far e
theorem mi_all (L : Nat → Nat) (a b n : Nat) : lbl (miN L a b n) n = lbl (mgN L a b) n := lbl_ext fun j hj => by simp [miN, hj]

section
variable {x y : Int}
theorem co_pos (hk : OkZ x y) : coN x y = ((x + 1) * (y + 1)).toNat ∧ 4 ≤ coN x y ∧ coN x y ≤ 25 ∧ cosZ x y = (coN x y : Int) := by
  obtain ⟨h1, h2, h3, h4⟩ := hk
  have e : cosZ x y = (x + 1) * (y + 1) := by unfold cosZ; rw [if_pos ⟨h1, h2, h3, h4⟩]
  have hb : 4 ≤ (x + 1) * (y + 1) ∧ (x + 1) * (y + 1) ≤ 25 := by
    have a : (x + 1) * 2 ≤ (x + 1) * (y + 1) := Int.mul_le_mul_of_nonneg_left (by omega) (by omega)
    have b : (x + 1) * (y + 1) ≤ (x + 1) * 5 := Int.mul_le_mul_of_nonneg_left (by omega) (by omega)
    omega
  unfold coN
  rw [e]
  refine ⟨rfl, by omega, by omega, by omega⟩
theorem wlb_lt (hk : OkZ x y) (o : Nat) : ∀ k, k ≤ gN x y → ∀ c, c < coN x y → wlbN x y o k c < coN x y
  | 0, _, c, hc => by
    show l0N x y c < _
    unfold l0N
    have := (co_pos hk).2.1
    split <;> omega
  | k + 1, hg, c, hc => by
    obtain ⟨-, -, f3a, f3b⟩ := f3 hk (g := k) (by omega)
    have ih := wlb_lt hk o k (by omega)
    show lbN (clB o) (c1N x y) (c2N x y) (l0N x y) (k + 1) c < _
    unfold lbN
    split
    · unfold mgN
      split
      · exact ih _ (by omega)
      · exact ih _ hc
    · exact ih _ hc
theorem wlb_yes {o k : Nat} (h : bt o k = 0) : wlbN x y o (k + 1) = mgN (wlbN x y o k) (c1N x y k) (c2N x y k) := by
  show lbN _ _ _ _ (k + 1) = _
  rw [lbN, if_pos (show clB o k = true from decide_eq_true h)]; rfl
theorem wlb_no {o k : Nat} (h : bt o k ≠ 0) : wlbN x y o (k + 1) = wlbN x y o k := by
  show lbN _ _ _ _ (k + 1) = _
  rw [lbN, if_neg (show ¬ clB o k = true by unfold clB; simpa using h)]; rfl
theorem wp_le (x y : Int) (o : Nat) : wpN x y o ≤ coN x y := by
  unfold wpN nD
  generalize coN x y = n
  generalize frB _ = p
  induction n with
  | zero => exact Nat.le_refl _
  | succ n ih => unfold cnt; split <;> omega
/-- What the law of walls asks. -/
theorem fwalls {z : Int} (hv : OkM x y z) : ipB x y z = wtB x y z ∧ wpZ x y z = clZ x y z + 1 ∧ wlpZ x y z = ptZ x y z - 1 := by
  obtain ⟨hk, o, rfl, ho⟩ := okm_of hv
  have hw := walls hk ho
  have hp : ptZ x y o = (pt x y o : Int) := by unfold ptZ pt; rw [if_pos hv]
  have hc : cpZ x y o = (pcN o (gN x y) : Int) := by
    unfold cpZ; rw [if_pos hv, Int.toNat_natCast]
    have := pc_all hv
    rw [Int.toNat_natCast] at this
    rw [← this]; rfl
  obtain ⟨h1, h2, h3, h4⟩ := id hk
  have hxy := (mul_bd x y h1 h2 h3 h4).1
  have hN : (cN x y : Int) = x * y := by unfold cN; omega
  have hcl : clZ x y o = lp x y o := by
    unfold clZ lp; rw [if_pos hv, hp, hc, hN]
  have hwp : wpZ x y o = lp x y o + 1 := by unfold wpZ; rw [if_pos hv, Int.toNat_natCast, hw]
  have hwl : wlpZ x y o = ptZ x y o - 1 := by
    unfold wlpZ; rw [if_pos hv, hwp, hp, hc]
    have hg : gpsZ x y - (x - 1) * (y - 1) = x * y - 1 := by
      unfold gpsZ
      rcases (by omega : x = 1 ∨ x = 2 ∨ x = 3 ∨ x = 4) with rfl | rfl | rfl | rfl <;> omega
    unfold lp
    omega
  refine ⟨?_, by rw [hwp, hcl], hwl⟩
  unfold ipB wtB cnB
  rw [decide_eq_true hv, hwp, hwl, hp, hc, Bool.true_and, Bool.eq_iff_iff]
  simp only [Bool.and_eq_true, beq_iff_eq]
  unfold lp
  omega
theorem corner_fin : ∀ w h : Fin 4, ∀ g : Fin 24, (gpsZ ((w : Nat) + 1) ((h : Nat) + 1) ≤ (g : Nat)) ∨
    ((c2Z ((w : Nat) + 1) ((h : Nat) + 1) (g : Nat) - c1Z ((w : Nat) + 1) ((h : Nat) + 1) (g : Nat) = 1 ∨ c2Z ((w : Nat) + 1) ((h : Nat) + 1) (g : Nat) - c1Z ((w : Nat) + 1) ((h : Nat) + 1) (g : Nat) = (w : Nat) + 1 + 1) ∧
      ((w : Nat) = 0 ∨ (h : Nat) = 0 ∨ edB ((w : Nat) + 1) ((h : Nat) + 1) (c1Z ((w : Nat) + 1) ((h : Nat) + 1) (g : Nat)) = false ∨ edB ((w : Nat) + 1) ((h : Nat) + 1) (c2Z ((w : Nat) + 1) ((h : Nat) + 1) (g : Nat)) = false)) := by decide +kernel
theorem inner_fin : ∀ w h : Fin 4, (cnt (fun c => !edB ((w : Nat) + 1) ((h : Nat) + 1) (c : Nat)) (coN ((w : Nat) + 1) ((h : Nat) + 1)) : Int) = ((w : Nat) : Int) * (h : Nat) := by decide +kernel
/-- What the law of corners asks of each gap. -/
theorem corner {g : Nat} (hk : OkZ x y) (hg : g < gN x y) : (0 ≤ c1Z x y g ∧ c1Z x y g < c2Z x y g ∧ c2Z x y g < cosZ x y) ∧ (c2Z x y g - c1Z x y g = 1 ∨ c2Z x y g - c1Z x y g = x + 1) ∧
    (¬ 1 < x ∨ ¬ 1 < y ∨ edB x y (c1Z x y g) = false ∨ edB x y (c2Z x y g) = false) := by
  obtain ⟨a1, a2, a3, a4⟩ := f3 hk hg
  obtain ⟨-, -, -, b4⟩ := co_pos hk
  obtain ⟨w, h, rfl, rfl⟩ := fins hk
  have hb := gps_bd hk.1 hk.2.1 hk.2.2.1 hk.2.2.2
  have hg24 : g < 24 := by unfold gN at hg; omega
  have := corner_fin w h ⟨g, hg24⟩
  refine ⟨by omega, ?_⟩
  rcases this with h' | ⟨h1, h2⟩
  · exfalso; unfold gN at hg; simp only at h'; omega
  · refine ⟨h1, ?_⟩
    rcases h2 with h2 | h2 | h2 | h2
    · left; omega
    · right; left; omega
    · right; right; left; exact h2
    · right; right; right; exact h2
theorem inner (hk : OkZ x y) : (cnt (fun c => !edB x y (c : Nat)) (coN x y) : Int) = (x - 1) * (y - 1) := by
  obtain ⟨w, h, rfl, rfl⟩ := fins hk
  rw [inner_fin w h, show ((w : Nat) : Int) + 1 - 1 = (w : Nat) by omega, show ((h : Nat) : Int) + 1 - 1 = (h : Nat) by omega]
end
end Go.Proofs.Ythgnhamokikhkaa.walR
