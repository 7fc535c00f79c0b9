/- Drawings as the program makes and reads them, without the program: which cell and which gap are drawn at a place, and what reading place after place comes to. -/
import Derived.Test.YtmmdngfhfceefaaDoorLinR
namespace Go.Proofs.YtmmdngfhfceefaaDoor.linQ
open gridP gridQ bitP mazeP mazeQ reachP reachM reachN reachD forest deadP linP linR
set_option linter.unusedVariables false

/-- The cell drawn at a place, -1 where none is. -/
def cdZ (x y r c : Int) : Int := if r % 2 = 1 ∧ c % 2 = 1 ∧ 0 ≤ c ∧ c / 2 < x ∧ 0 ≤ r ∧ r / 2 < y then r / 2 * x + c / 2 else -1
/-- The gap drawn at a place, -1 where none is. -/
def gdZ (x y r c : Int) : Int := if cdZ x y r (c - 1) = -1 then gpZ x y (cdZ x y (r - 1) c) 2 else gpZ x y (cdZ x y r (c - 1)) 1
/-- Whether a place is drawn open. -/
def doB (x y z r c : Int) : Bool := (cdZ x y r c != -1) || psB x y z (gdZ x y r c)
theorem cd_fin : ∀ w h : Fin 4, ∀ r c : Fin 9, cW ((h : Nat) + 1) ≤ (r : Nat) ∨ cW ((w : Nat) + 1) ≤ (c : Nat) ∨
    (gdZ ((w : Nat) + 1) ((h : Nat) + 1) (r : Nat) (c : Nat) = gzZ ((w : Nat) + 1) ((h : Nat) + 1) r c ∧
      (cdZ ((w : Nat) + 1) ((h : Nat) + 1) (r : Nat) (c : Nat) != -1) = decide ((r : Nat) % 2 = 1 ∧ (c : Nat) % 2 = 1) ∧
      (gzZ ((w : Nat) + 1) ((h : Nat) + 1) r c = -1 ∨ (0 ≤ gzZ ((w : Nat) + 1) ((h : Nat) + 1) r c ∧ gzZ ((w : Nat) + 1) ((h : Nat) + 1) r c < gpsZ ((w : Nat) + 1) ((h : Nat) + 1) ∧
        plR ((w : Nat) + 1) ((h : Nat) + 1) (gzZ ((w : Nat) + 1) ((h : Nat) + 1) r c).toNat = r ∧ plC ((w : Nat) + 1) ((h : Nat) + 1) (gzZ ((w : Nat) + 1) ((h : Nat) + 1) r c).toNat = c))) := by decide +kernel
section
variable {x y : Int}
theorem cd_is (hk : OkZ x y) {r c : Nat} (hr : r < cW y) (hc : c < cW x) : gdZ x y r c = gzZ x y r c ∧ (cdZ x y r c != -1) = decide (r % 2 = 1 ∧ c % 2 = 1) ∧
    (gzZ x y r c = -1 ∨ ∃ g : Nat, gzZ x y r c = (g : Int) ∧ g < gN x y ∧ plR x y g = r ∧ plC x y g = c) := by
  obtain ⟨h1, h2, h3, h4⟩ := hk
  have hcx : cW x ≤ 9 := by unfold cW; omega
  have hcy : cW y ≤ 9 := by unfold cW; omega
  have := cd_fin ⟨(x - 1).toNat, by omega⟩ ⟨(y - 1).toNat, by omega⟩ ⟨r, by omega⟩ ⟨c, by omega⟩
  simp only [show (((x - 1).toNat : Nat) : Int) + 1 = x by omega, show (((y - 1).toNat : Nat) : Int) + 1 = y by omega] at this
  rcases this with h | h | ⟨e1, e2, e3⟩
  · omega
  · omega
  · refine ⟨e1, e2, e3.imp id fun ⟨g0, g1, g2, g3⟩ => ⟨(gzZ x y r c).toNat, by omega, by unfold gN; omega, g2, g3⟩⟩
theorem gp_out (x y d : Int) : gpZ x y (-1) d = -1 := by
  unfold gpZ; rw [nb_out (by omega)]; rfl
/-- Behind the drawing stands no gap. -/
theorem gd_far (x y : Int) (r c : Nat) (hx : 0 ≤ x) (hc : cW x ≤ c) : gdZ x y r c = -1 := by
  unfold cW at hc
  have e1 : cdZ x y r ((c : Int) - 1) = -1 := by unfold cdZ; rw [if_neg (by omega)]
  have e2 : cdZ x y ((r : Int) - 1) c = -1 := by unfold cdZ; rw [if_neg (by omega)]
  unfold gdZ; rw [e1, if_pos rfl, e2, gp_out]
theorem do_is {o : Nat} (hk : OkZ x y) (ho : o < 2 ^ gN x y) {r c : Nat} (hr : r < cW y) (hc : c < cW x) : doB x y o r c = chB x y o r c := by
  obtain ⟨e1, e2, e3⟩ := cd_is hk hr hc
  have hv := okm hk ho
  unfold doB
  rw [ch_gz hv, e1, e2]
  congr 1
  rw [Bool.eq_iff_iff, op_iff]
  unfold psB
  rw [decide_eq_true_iff]
  rcases e3 with e | ⟨g, e, hg, -, -⟩
  · rw [e]
    exact ⟨fun h => by omega, fun ⟨g, h, _⟩ => by omega⟩
  · rw [e]
    have hb : bitZ (o : Int) (g : Int) = ((bt o g : Nat) : Int) := by rw [bitZ_bt (by omega) (by omega), Int.toNat_natCast, Int.toNat_natCast]
    rw [hb]
    unfold gN at hg
    refine ⟨fun h => ⟨g, rfl, by omega⟩, fun ⟨j, h, h'⟩ => ?_⟩
    obtain rfl : g = j := by omega
    exact ⟨hv, by omega, by omega, by omega⟩

theorem half_bq {x : Int} {r : Nat} (h1 : 1 ≤ x) (h2 : x ≤ 4) (hr : r ≤ 9) : 0 ≤ (r : Int) / 2 * x ∧ (r : Int) / 2 * x ≤ 16 := by
  have h : (r : Int) / 2 ≤ 4 := by omega
  have h0 : 0 ≤ (r : Int) / 2 := by omega
  constructor
  · exact Int.mul_nonneg h0 (by omega)
  · exact Int.le_trans (Int.mul_le_mul h h2 (by omega) (by decide)) (by decide)

/-! ### reading place after place -/
/-- The open gaps after the first i places of the drawing were read. -/
def acZ (x y o : Int) : Nat → Int
  | 0 => 0
  | i + 1 => sgZ x y (acZ x y o i) (gdZ x y ((i / cW x : Nat) : Int) ((i % cW x : Nat) : Int)) (chB x y o (i / cW x) (i % cW x))
theorem div_at {W r c : Nat} (hc : c < W) : (r * W + c) / W = r ∧ (r * W + c) % W = c := by
  have hW : 0 < W := by omega
  rw [Nat.mul_comm r W, Nat.mul_add_div hW, Nat.div_eq_of_lt hc, Nat.mul_add_mod, Nat.mod_eq_of_lt hc]; exact ⟨by omega, rfl⟩
theorem ac_next (x y o : Int) {r c : Nat} (hc : c < cW x) : acZ x y o (r * cW x + c + 1) = sgZ x y (acZ x y o (r * cW x + c)) (gdZ x y r c) (chB x y o r c) := by
  obtain ⟨h1, h2⟩ := div_at (r := r) hc
  conv => lhs; unfold acZ
  rw [h1, h2]
theorem bt_zero (g : Nat) : bt 0 g = 0 := by simp [bt]
theorem bt_same {n o G : Nat} (hn : n < 2 ^ G) (ho : o < 2 ^ G) (h : ∀ g, g < G → bt n g = bt o g) : n = o := by
  apply Nat.eq_of_testBit_eq
  intro i
  rw [bt_test, bt_test]
  by_cases hi : i < G
  · rw [h i hi]
  · rw [bt_lt hn (by omega), bt_lt ho (by omega)]
theorem ac_is {o : Nat} (hk : OkZ x y) (ho : o < 2 ^ gN x y) : ∀ i, i ≤ cW y * cW x → ∃ n : Nat, acZ x y o i = (n : Int) ∧ n < 2 ^ gN x y ∧ ∀ g, g < gN x y → bt n g = if plR x y g * cW x + plC x y g < i then bt o g else 0
  | 0, _ => ⟨0, rfl, Nat.pow_pos (by decide), fun g _ => by rw [if_neg (by omega), bt_zero]⟩
  | i + 1, hi => by
    obtain ⟨n, hn, hlt, hb⟩ := ac_is hk ho i (by omega)
    have hW : 0 < cW x := by obtain ⟨h1, -⟩ := hk; unfold cW; omega
    have hr : i / cW x < cW y := Nat.div_lt_of_lt_mul (by rw [Nat.mul_comm]; omega)
    have hc : i % cW x < cW x := Nat.mod_lt _ hW
    have hdm : i = i / cW x * cW x + i % cW x := by rw [Nat.mul_comm]; exact (Nat.div_add_mod i (cW x)).symm
    obtain ⟨e1, -, e3⟩ := cd_is hk hr hc
    unfold acZ
    rw [hn, e1]
    have hu : ∀ g, g < gN x y → plR x y g * cW x + plC x y g = i → gzZ x y (i / cW x) (i % cW x) = (g : Int) := fun g hg h => by
      obtain ⟨p1, -, p3, -⟩ := place hk hg
      obtain ⟨q1, q2⟩ := div_at (r := plR x y g) p3
      rw [h] at q1 q2
      rw [q1, q2]; exact p1
    rcases e3 with e | ⟨g, e, hg, hpr, hpc⟩
    · rw [e]
      refine ⟨n, by unfold sgZ sgB; rw [if_neg (by simp)], hlt, fun g hg => ?_⟩
      rw [hb g hg]
      have : plR x y g * cW x + plC x y g ≠ i := fun h => by have := hu g hg h; omega
      by_cases h : plR x y g * cW x + plC x y g < i
      · rw [if_pos h, if_pos (by omega)]
      · rw [if_neg h, if_neg (by omega)]
    · have hpl : plR x y g * cW x + plC x y g = i := by rw [hpr, hpc]; exact hdm.symm
      have h0 : bt n g = 0 := by rw [hb g hg, if_neg (by omega)]
      have hch : chB x y o (i / cW x) (i % cW x) = decide (bt o g = 1) := by rw [← hpr, ← hpc]; exact ch_place hk ho hg
      have hsB : sgB x y n g = true := decide_eq_true ⟨okm hk hlt, by omega, by unfold gN at hg; omega⟩
      have hz : bitZ (n : Int) (g : Int) = 0 := by rw [bitZ_bt (by omega) (by omega), Int.toNat_natCast, Int.toNat_natCast, h0]; rfl
      rw [e, hch]
      have hbo := bt_le o g
      unfold sgZ
      rw [if_pos hsB, hz, if_neg (by decide), Int.toNat_natCast]
      have hne : ∀ j, j < gN x y → j ≠ g → (plR x y j * cW x + plC x y j < i + 1 ↔ plR x y j * cW x + plC x y j < i) := fun j hj hjg => by
        have : plR x y j * cW x + plC x y j ≠ i := fun h => by have := hu j hj h; omega
        omega
      by_cases hog : bt o g = 1
      · rw [if_pos (decide_eq_true hog)]
        refine ⟨n + 2 ^ g, by simp, add_lt hlt hg h0, fun j hj => ?_⟩
        rw [bt_add h0]
        by_cases hjg : j = g
        · subst hjg; rw [if_pos rfl, if_pos (by omega), hog]
        · rw [if_neg hjg, hb j hj]; simp only [hne j hj hjg]
      · rw [if_neg (by rw [decide_eq_false hog]; decide)]
        refine ⟨n, rfl, hlt, fun j hj => ?_⟩
        by_cases hjg : j = g
        · subst hjg; rw [h0, if_pos (by omega)]; omega
        · rw [hb j hj]; simp only [hne j hj hjg]
/-- All places were read: the maze is the one that is drawn. -/
theorem ac_all {o : Nat} (hk : OkZ x y) (ho : o < 2 ^ gN x y) : acZ x y o (cW y * cW x) = (o : Int) := by
  obtain ⟨n, hn, hlt, hb⟩ := ac_is hk ho _ (Nat.le_refl _)
  rw [hn]
  congr 1
  refine bt_same hlt ho fun g hg => ?_
  obtain ⟨-, p2, p3, -⟩ := place hk hg
  rw [hb g hg, if_pos]
  calc plR x y g * cW x + plC x y g < plR x y g * cW x + cW x := by omega
    _ = (plR x y g + 1) * cW x := by rw [Nat.succ_mul]
    _ ≤ cW y * cW x := Nat.mul_le_mul_right _ p2
/-- Setting a gap leaves a maze a maze. -/
theorem sg_ok {z : Int} (h : OkM x y z) (g : Int) (b : Bool) : OkM x y (sgZ x y z g b) := by
  obtain ⟨hk, o, rfl, ho⟩ := okm_of h
  unfold sgZ
  by_cases hs : sgB x y o g = true
  · rw [if_pos hs]
    obtain ⟨-, g0, g1⟩ := of_decide_eq_true hs
    have hg : g.toNat < gN x y := by unfold gN; omega
    have hb : bitZ (o : Int) g = ((bt o g.toNat : Nat) : Int) := by rw [bitZ_bt (by omega) g0, Int.toNat_natCast]
    rw [hb]
    by_cases h1 : bt o g.toNat = 1
    · rw [if_pos (by omega)]
      split
      · exact h
      · obtain ⟨t1, t2, t3⟩ := bt_take h1
        have e2 : (2 : Int) ^ g.toNat = ((2 ^ g.toNat : Nat) : Int) := by simp
        rw [show (o : Int) - 2 ^ g.toNat = ((o - 2 ^ g.toNat : Nat) : Int) by rw [e2]; omega]
        exact okm hk (Nat.lt_of_le_of_lt (Nat.sub_le _ _) ho)
    · have h0 : bt o g.toNat = 0 := by have := bt_le o g.toNat; omega
      rw [if_neg (by omega)]
      split
      · rw [show (o : Int) + 2 ^ g.toNat = ((o + 2 ^ g.toNat : Nat) : Int) by simp]
        exact okm hk (add_lt ho hg h0)
      · exact h
  · rw [if_neg hs]; exact h
end

/-! ### what comes out -/
/-- What was read is what the lines are of, if they are of a maze at all. -/
theorem rm_yes {ls : List (List UInt8)} {x y z : Int} (hv : OkM x y z) (h : mlL x y z = ls) : rmB ls = true ∧ rmX ls = x ∧ rmY ls = y ∧ rmO ls = z := by
  rw [← h]; exact rm_read hv
theorem rm_ok {ls : List (List UInt8)} (h : rmB ls = true) : OkM (rmX ls) (rmY ls) (rmO ls) ∧ mlL (rmX ls) (rmY ls) (rmO ls) = ls := by
  obtain ⟨h1, h2⟩ := of_decide_eq_true h
  refine ⟨?_, h2⟩
  apply Classical.byContradiction
  intro hn
  unfold mlL at h2
  rw [if_neg hn] at h2
  exact h1 h2.symm
theorem rm_none {ls : List (List UInt8)} (h : rmB ls = false) (v : Int) : rmC ls v = 0 := by unfold rmC; rw [h]; rfl
theorem rm_some {ls : List (List UInt8)} (h : rmB ls = true) (v : Int) : rmC ls v = v := by unfold rmC; rw [h]; rfl
end Go.Proofs.YtmmdngfhfceefaaDoor.linQ
