/- The matrix of a maze is that of its open gaps, without the program. -/
import Derived.Test.YtnfnandpcjgmmaaTrcP
import Derived.Test.YtnfnandpcjgmmaaDets
namespace Go.Proofs.Ytnfnandpcjgmmaa.cntP
open gridP gridQ bitP mazeP mazeQ reachP reachM reachN forest deadP detP trsP barP barQ trcP matP
set_option linter.unusedVariables false

/-! ### sums over the gaps of a cell -/
theorem sum_if_one {f : Nat → Int} {v : Int} : ∀ {G : Nat}, (∀ g : Nat, v = g → g < G) → ((List.range G).map fun g : Nat => if v = (g : Int) then f g else 0).sum = if 0 ≤ v then f v.toNat else 0
  | G, h => by
    by_cases hv : 0 ≤ v
    · obtain ⟨a, rfl⟩ := Int.eq_ofNat_of_zero_le hv
      have ha := h a rfl
      rw [if_pos hv, Int.toNat_natCast]
      rw [sum_del (f := fun g : Nat => if ((a : Nat) : Int) = (g : Int) then f g else 0) (f' := fun _ => 0) (e := a) rfl ha (fun g _ hne => by
        show (if ((a : Nat) : Int) = (g : Int) then f g else 0) = 0
        rw [if_neg (by omega)])]
      rw [sum_zero (fun _ _ => rfl)]
      simp
    · rw [if_neg hv]
      exact sum_zero fun g _ => if_neg (by omega)
theorem cnt_sum (p : Nat → Bool) (z : Int) : ∀ n, ((List.range n).map fun k => if p k = true then z else 0).sum = z * (cnt p n : Int)
  | 0 => by simp [cnt]
  | n + 1 => by
    have e : cnt p (n + 1) = cnt p n + if p n = true then 1 else 0 := rfl
    rw [List.range_succ, List.map_append, List.sum_append, cnt_sum p z n, e]
    by_cases h : p n = true
    · rw [if_pos h]; simp [h, Int.mul_add]
    · rw [if_neg h]; simp [h]

section
variable {x y : Int}
theorem gp_lt {i q : Int} (hn : ¬ nbZ x y i q < 0) : gpZ x y i q < gpsZ x y := by
  have h := (both x y i q hn).2.2.2.1
  apply Classical.byContradiction
  intro hg
  have e1 : eaZ x y (gpZ x y i q) = -1 := by
    unfold eaZ; split
    · rw [if_neg (fun e => hg e.2)]
    · rfl
  have e2 : ebZ x y (gpZ x y i q) = -1 := by
    unfold ebZ; split
    · rw [if_neg (fun e => hg e.2)]
    · rfl
  omega
theorem gap_sum (hk : OkZ x y) {i : Nat} (hi : i < cN x y) (φ : Nat → Int) :
    ((List.range (gN x y)).map fun g => if i = aN x y g ∨ i = bN x y g then φ g else 0).sum = ((List.range 4).map fun q => if 0 ≤ gpZ x y i (q : Nat) then φ (gpZ x y i (q : Nat)).toNat else 0).sum := by
  have e1 : ((List.range (gN x y)).map fun g => if i = aN x y g ∨ i = bN x y g then φ g else 0) = (List.range (gN x y)).map fun g : Nat => ((List.range 4).map fun q : Nat => if gpZ x y i (q : Nat) = (g : Int) then φ g else 0).sum := by
    refine List.map_congr_left fun g hg => ?_
    have h1 := gaps_of hk hi (List.mem_range.1 hg)
    have h2 := cnt_sum (fun q => gpZ x y i (q : Nat) == (g : Int)) (φ g) 4
    simp only [beq_iff_eq] at h2
    rw [h2, h1]
    split <;> simp
  rw [e1, sum_swap (fun g q : Nat => if gpZ x y i (q : Nat) = (g : Int) then φ g else 0)]
  congr 1
  refine List.map_congr_left fun q _ => ?_
  refine sum_if_one fun g e => ?_
  have hn : ¬ nbZ x y i (q : Nat) < 0 := by
    intro hn
    unfold gpZ at e
    rw [if_pos hn] at e; omega
  have h1 := (both x y i q hn).1
  have h2 := gp_lt hn
  unfold gN; omega
theorem gp_fin : ∀ w h : Fin 4, ∀ c : Fin 16, ∀ q : Fin 4, (((w : Nat) + 1) * ((h : Nat) + 1) ≤ (c : Nat)) ∨ gpZ ((w : Nat) + 1) ((h : Nat) + 1) (c : Nat) (q : Nat) < 0 ∨
    (((c : Nat) : Int) = eaZ ((w : Nat) + 1) ((h : Nat) + 1) (gpZ ((w : Nat) + 1) ((h : Nat) + 1) (c : Nat) (q : Nat)) ∧ nbZ ((w : Nat) + 1) ((h : Nat) + 1) (c : Nat) (q : Nat) = ebZ ((w : Nat) + 1) ((h : Nat) + 1) (gpZ ((w : Nat) + 1) ((h : Nat) + 1) (c : Nat) (q : Nat))) ∨
    (((c : Nat) : Int) = ebZ ((w : Nat) + 1) ((h : Nat) + 1) (gpZ ((w : Nat) + 1) ((h : Nat) + 1) (c : Nat) (q : Nat)) ∧ nbZ ((w : Nat) + 1) ((h : Nat) + 1) (c : Nat) (q : Nat) = eaZ ((w : Nat) + 1) ((h : Nat) + 1) (gpZ ((w : Nat) + 1) ((h : Nat) + 1) (c : Nat) (q : Nat))) := by decide +kernel
theorem nbi_fin : ∀ w h : Fin 4, ∀ c : Fin 16, ∀ q r : Fin 4, (((w : Nat) + 1) * ((h : Nat) + 1) ≤ (c : Nat)) ∨ nbZ ((w : Nat) + 1) ((h : Nat) + 1) (c : Nat) (q : Nat) < 0 ∨ nbZ ((w : Nat) + 1) ((h : Nat) + 1) (c : Nat) (q : Nat) ≠ nbZ ((w : Nat) + 1) ((h : Nat) + 1) (c : Nat) (r : Nat) ∨ q = r := by decide +kernel
theorem fins (hk : OkZ x y) : ∃ w h : Fin 4, x = (w : Nat) + 1 ∧ y = (h : Nat) + 1 := by
  obtain ⟨h1, h2, h3, h4⟩ := hk
  exact ⟨⟨(x - 1).toNat, by omega⟩, ⟨(y - 1).toNat, by omega⟩, by simp; omega, by simp; omega⟩
theorem cell_bd (hk : OkZ x y) {i : Nat} (hi : i < cN x y) : i < 16 := by
  have := (mul_bd x y hk.1 hk.2.1 hk.2.2.1 hk.2.2.2).1
  unfold cN at hi; omega
theorem cell_mul {w h : Fin 4} {i : Nat} (hi : i < cN ((w : Nat) + 1 : Int) ((h : Nat) + 1)) : i < ((w : Nat) + 1) * ((h : Nat) + 1) := by
  unfold cN at hi
  have e : ((((w : Nat) : Int) + 1) * (((h : Nat) : Int) + 1)) = ((((w : Nat) + 1) * ((h : Nat) + 1) : Nat) : Int) := by norm_cast
  rw [e, Int.toNat_natCast] at hi
  exact hi
/-- The ends of the gap in a direction. -/
theorem gp_ends (hk : OkZ x y) {i q g : Nat} (hi : i < cN x y) (hq : q < 4) (h : gpZ x y i (q : Nat) = (g : Int)) : (i = aN x y g ∧ nbZ x y i (q : Nat) = (bN x y g : Int)) ∨ (i = bN x y g ∧ nbZ x y i (q : Nat) = (aN x y g : Int)) := by
  have hn : ¬ nbZ x y i (q : Nat) < 0 := by
    intro hn
    unfold gpZ at h
    rw [if_pos hn] at h; omega
  have hg : g < gN x y := by
    have h2 := gp_lt hn
    unfold gN; omega
  obtain ⟨-, -, e1, e2⟩ := ends_lt hk hg
  have hi16 := cell_bd hk hi
  obtain ⟨w, h', rfl, rfl⟩ := fins hk
  have hc := cell_mul hi
  rcases gp_fin w h' ⟨i, hi16⟩ ⟨q, hq⟩ with e | e | ⟨e, e'⟩ | ⟨e, e'⟩
  · simp only at e; omega
  · simp only at e; omega
  · simp only at e e'
    rw [h] at e e'
    left; exact ⟨by omega, by omega⟩
  · simp only at e e'
    rw [h] at e e'
    right; exact ⟨by omega, by omega⟩
theorem nb_inj (hk : OkZ x y) {i q r : Nat} (hi : i < cN x y) (hq : q < 4) (hr : r < 4) (h0 : 0 ≤ nbZ x y i (q : Nat)) (h : nbZ x y i (q : Nat) = nbZ x y i (r : Nat)) : q = r := by
  have hi16 := cell_bd hk hi
  obtain ⟨w, h', rfl, rfl⟩ := fins hk
  have hc := cell_mul hi
  rcases nbi_fin w h' ⟨i, hi16⟩ ⟨q, hq⟩ ⟨r, hr⟩ with e | e | e | e
  · simp only at e; omega
  · simp only at e; omega
  · exact absurd h e
  · simpa using e

/-- The open gaps. -/
def opE (o : Nat) : Nat → Bool := fun g => decide (bt o g = 1)
theorem st_nb {o i q : Nat} (h : 0 ≤ stN x y o i q) : stN x y o i q = nbZ x y i (q : Nat) := by
  unfold stN stZ at h ⊢
  split
  · rfl
  · rename_i h'; rw [if_neg h'] at h; omega
/-- The matrix of the open gaps, direction by direction. -/
theorem lap_dir (hk : OkZ x y) {o i j : Nat} (ho : o < 2 ^ gN x y) (hi : i < cN x y) :
    lap (gN x y) (aN x y) (bN x y) (opE o) i j = ((List.range 4).map fun q => if 0 ≤ stN x y o i q then (if j = i then 1 else if (j : Int) = stN x y o i q then -1 else 0) else (0 : Int)).sum := by
  have hv := okm hk ho
  have e1 : lap (gN x y) (aN x y) (bN x y) (opE o) i j = ((List.range (gN x y)).map fun g => if i = aN x y g ∨ i = bN x y g then (if opE o g = true then inc (aN x y) (bN x y) g i * inc (aN x y) (bN x y) g j else 0) else 0).sum := by
    unfold lap
    congr 1
    refine List.map_congr_left fun g _ => ?_
    by_cases h : i = aN x y g ∨ i = bN x y g
    · rw [if_pos h]
    · rw [if_neg h]
      have : inc (aN x y) (bN x y) g i = 0 := by
        unfold inc
        rw [if_neg (fun e => h (.inl e.symm)), if_neg (fun e => h (.inr e.symm))]; rfl
      rw [this]; simp
  rw [e1, gap_sum hk hi]
  congr 1
  refine List.map_congr_left fun q hq => ?_
  have hq4 := List.mem_range.1 hq
  by_cases hs : 0 ≤ stN x y o i q
  · rw [if_pos hs]
    obtain ⟨g, hg, hb⟩ := (st_iff hv).1 hs
    rw [hg, if_pos (Int.natCast_nonneg g), Int.toNat_natCast, if_pos (show opE o g = true from decide_eq_true hb)]
    rw [st_nb hs]
    have hlt : g < gN x y := by
      apply Classical.byContradiction
      intro hn
      rw [bt_lt ho (by omega)] at hb; omega
    obtain ⟨l1, -, -, -⟩ := ends_lt hk hlt
    unfold inc
    rcases gp_ends hk hi hq4 hg with ⟨rfl, e⟩ | ⟨rfl, e⟩
    · rw [e, if_pos rfl, if_neg (by omega)]
      by_cases h1 : j = aN x y g
      · rw [if_pos h1, if_pos h1.symm, if_neg (by omega)]; rfl
      · rw [if_neg h1, if_neg (fun e => h1 e.symm)]
        by_cases h2 : j = bN x y g
        · rw [if_pos h2.symm, if_pos (show (j : Int) = (bN x y g : Int) by omega)]; rfl
        · rw [if_neg (show ¬ bN x y g = j from fun e => h2 e.symm), if_neg (show ¬ (j : Int) = (bN x y g : Int) by omega)]; rfl
    · rw [e, if_neg (by omega), if_pos rfl]
      by_cases h1 : j = bN x y g
      · rw [if_pos h1, if_neg (by omega), if_pos h1.symm]; rfl
      · rw [if_neg h1, if_neg (show ¬ bN x y g = j from fun e => h1 e.symm)]
        by_cases h2 : j = aN x y g
        · rw [if_pos h2.symm, if_pos (show (j : Int) = (aN x y g : Int) by omega)]; rfl
        · rw [if_neg (show ¬ aN x y g = j from fun e => h2 e.symm), if_neg (show ¬ (j : Int) = (aN x y g : Int) by omega)]; rfl
  · rw [if_neg hs]
    by_cases hg : 0 ≤ gpZ x y i (q : Nat)
    · rw [if_pos hg, if_neg]
      intro hE
      exact hs ((st_iff hv).2 ⟨(gpZ x y i (q : Nat)).toNat, by omega, of_decide_eq_true hE⟩)
    · rw [if_neg hg]
/-- Whether a step leads from a cell to another one. -/
def toB (x y : Int) (o i j : Nat) : Bool := (List.range 4).any fun q => stN x y o i q == (j : Int)
theorem lap_is (hk : OkZ x y) {o i j : Nat} (ho : o < 2 ^ gN x y) (hi : i < cN x y) :
    lap (gN x y) (aN x y) (bN x y) (opE o) i j = if j = i then (dg x y o i : Int) else if toB x y o i j = true then -1 else 0 := by
  rw [lap_dir hk ho hi]
  by_cases h : j = i
  · rw [if_pos h]
    simp only [h, if_true]
    have := cnt_sum (fun q => decide (0 ≤ stN x y o i q)) 1 4
    simp only [decide_eq_true_eq, Int.one_mul] at this
    rw [this]; rfl
  · rw [if_neg h]
    simp only [if_neg h]
    have hx : ∀ q r, q < 4 → r < 4 → q ≠ r → 0 ≤ stN x y o i q → 0 ≤ stN x y o i r → stN x y o i q ≠ stN x y o i r := fun q r hq hr hne h1 h2 e => hne (nb_inj hk hi hq hr (by rw [← st_nb h1]; exact h1) (by rw [← st_nb h1, ← st_nb h2]; exact e))
    have x01 := hx 0 1 (by decide) (by decide) (by decide)
    have x02 := hx 0 2 (by decide) (by decide) (by decide)
    have x03 := hx 0 3 (by decide) (by decide) (by decide)
    have x12 := hx 1 2 (by decide) (by decide) (by decide)
    have x13 := hx 1 3 (by decide) (by decide) (by decide)
    have x23 := hx 2 3 (by decide) (by decide) (by decide)
    have hr4 : List.range 4 = [0, 1, 2, 3] := rfl
    have hb : toB x y o i j = true ↔ (stN x y o i 0 = j ∨ stN x y o i 1 = j ∨ stN x y o i 2 = j ∨ stN x y o i 3 = j) := by
      unfold toB; rw [hr4]; simp
    rw [hr4]
    simp only [List.map_cons, List.map_nil, List.sum_cons, List.sum_nil]
    generalize stN x y o i 0 = s0 at *
    generalize stN x y o i 1 = s1 at *
    generalize stN x y o i 2 = s2 at *
    generalize stN x y o i 3 = s3 at *
    have key : ∀ s : Int, (if 0 ≤ s then if (j : Int) = s then (-1 : Int) else 0 else 0) = if s = j then -1 else 0 := fun s => by
      by_cases h1 : s = j
      · rw [if_pos h1, if_pos (by omega), if_pos h1.symm]
      · rw [if_neg h1]
        by_cases h2 : 0 ≤ s
        · rw [if_pos h2, if_neg (fun e => h1 e.symm)]
        · rw [if_neg h2]
    rw [key, key, key, key]
    by_cases hT : toB x y o i j = true
    · rw [if_pos hT]
      rcases hb.1 hT with h0 | h0 | h0 | h0
      · rw [if_pos h0, if_neg (fun e => x01 (by omega) (by omega) (by omega)), if_neg (fun e => x02 (by omega) (by omega) (by omega)), if_neg (fun e => x03 (by omega) (by omega) (by omega))]; rfl
      · rw [if_pos h0, if_neg (fun e => x01 (by omega) (by omega) (by omega)), if_neg (fun e => x12 (by omega) (by omega) (by omega)), if_neg (fun e => x13 (by omega) (by omega) (by omega))]; rfl
      · rw [if_pos h0, if_neg (fun e => x02 (by omega) (by omega) (by omega)), if_neg (fun e => x12 (by omega) (by omega) (by omega)), if_neg (fun e => x23 (by omega) (by omega) (by omega))]; rfl
      · rw [if_pos h0, if_neg (fun e => x03 (by omega) (by omega) (by omega)), if_neg (fun e => x13 (by omega) (by omega) (by omega)), if_neg (fun e => x23 (by omega) (by omega) (by omega))]; rfl
    · rw [if_neg hT]
      rw [if_neg (fun e => hT (hb.2 (.inl e))), if_neg (fun e => hT (hb.2 (.inr (.inl e)))), if_neg (fun e => hT (hb.2 (.inr (.inr (.inl e))))), if_neg (fun e => hT (hb.2 (.inr (.inr (.inr e)))))]; rfl
end
end Go.Proofs.Ytnfnandpcjgmmaa.cntP
