/- Numbers of perfect mazes: a maze's number is found gap by gap, and a maze from its number; without the program. -/
import Derived.Test.YtnfnandpcjgmmaaCntH
namespace Go.Proofs.Ytnfnandpcjgmmaa.nbrP
open gridP gridQ bitP mazeP mazeQ reachP reachM reachN forest deadP detP trsP barP trcP cntQ cntF cntH
set_option linter.unusedVariables false

/-- How many perfect mazes begin so: at the first k gaps they have the passages p. -/
def tkN (x y : Int) (k p : Nat) : Nat := tcN x y p (2 ^ k - 1 - p)
/-- Those that come before a maze because of one of its first k gaps. -/
def nuN (x y : Int) (o : Nat) : Nat → Nat
  | 0 => 0
  | k + 1 => nuN x y o k + if bt o k = 1 then tkN x y (k + 1) (o % 2 ^ k) else 0
/-- A number's maze, after k gaps: its passages, and how many mazes that begin so come before it. -/
def maS (x y : Int) (n : Nat) : Nat → Nat × Nat
  | 0 => (0, n)
  | k + 1 => if (maS x y n k).2 < tkN x y (k + 1) (maS x y n k).1 then maS x y n k else ((maS x y n k).1 + 2 ^ k, (maS x y n k).2 - tkN x y (k + 1) (maS x y n k).1)
section
variable {x y : Int}
theorem bt_01 (o g : Nat) : bt o g = 0 ∨ bt o g = 1 := by have := bt_le o g; omega
theorem mod_dn {o o' k : Nat} (h : o % 2 ^ (k + 1) = o' % 2 ^ (k + 1)) : o % 2 ^ k = o' % 2 ^ k ∧ bt o k = bt o' k := by
  rw [cntF.mod_next, cntF.mod_next] at h
  have h1 := Nat.mod_lt o (Nat.pow_pos (n := k) (show 0 < 2 by decide))
  have h2 := Nat.mod_lt o' (Nat.pow_pos (n := k) (show 0 < 2 by decide))
  generalize o % 2 ^ k = a at *
  generalize o' % 2 ^ k = b at *
  generalize 2 ^ k = P at *
  rcases bt_01 o k with e | e <;> rcases bt_01 o' k with e' | e' <;> rw [e, e'] at h <;> rw [e, e'] <;> omega
theorem nu_congr {o o' : Nat} : ∀ {k : Nat}, o % 2 ^ k = o' % 2 ^ k → nuN x y o k = nuN x y o' k
  | 0, _ => rfl
  | k + 1, h => by
    obtain ⟨h1, h2⟩ := mod_dn h
    unfold nuN
    rw [nu_congr h1, h1, h2]
theorem tk_iff {k p q : Nat} (hk : k ≤ gN x y) (hp : p < 2 ^ k) : tcB x y p (2 ^ k - 1 - p) q = true ↔ lp x y q = 0 ∧ pt x y q = 1 ∧ q % 2 ^ k = p := by
  unfold tcB
  rw [decide_eq_true_iff]
  refine and_congr_right fun _ => and_congr_right fun _ => ⟨fun h => ?_, fun h g hg => ?_⟩
  · apply Nat.eq_of_testBit_eq; intro g
    rw [bt_test, bt_test, cntF.bt_mod]
    by_cases hg : g < k
    · rw [if_pos hg]
      have h1 := h g (by omega)
      rw [bt_compl hp hg] at h1
      rcases bt_01 p g with e | e
      · rw [h1.2 (by omega), e]
      · rw [h1.1 e, e]
    · rw [if_neg hg, bt_lt hp (by omega)]
  · subst h
    rw [cntF.bt_mod]
    by_cases hgk : g < k
    · rw [if_pos hgk, bt_compl hp hgk, cntF.bt_mod, if_pos hgk]
      exact ⟨fun e => e, fun e => by have := bt_le q g; omega⟩
    · rw [if_neg hgk]
      exact ⟨fun e => by omega, fun e => by
        rw [bt_lt (show 2 ^ k - 1 - q % 2 ^ k < 2 ^ k by have := Nat.pow_pos (n := k) (show 0 < 2 by decide); omega) (by omega)] at e
        omega⟩
theorem tk_split {k p : Nat} (hk : k < gN x y) (hp : p < 2 ^ k) : tkN x y k p = tkN x y (k + 1) p + tkN x y (k + 1) (p + 2 ^ k) := by
  have hp2 : p < 2 ^ (k + 1) := by rw [Nat.pow_succ]; omega
  have hp3 : p + 2 ^ k < 2 ^ (k + 1) := by rw [Nat.pow_succ]; omega
  unfold tkN tcN
  refine cnt_or (fun q hq => ?_) (fun q hq h1 h2 => ?_)
  · rw [Bool.eq_iff_iff, Bool.or_eq_true, tk_iff (by omega) hp, tk_iff (by omega) hp2, tk_iff (by omega) hp3, cntF.mod_next]
    have hm := Nat.mod_lt q (Nat.pow_pos (n := k) (show 0 < 2 by decide))
    generalize q % 2 ^ k = a at *
    generalize 2 ^ k = P at *
    rcases bt_01 q k with e | e <;> rw [e] <;> constructor
    · rintro ⟨h1, h2, h3⟩; exact .inl ⟨h1, h2, by omega⟩
    · rintro (⟨h1, h2, h3⟩ | ⟨h1, h2, h3⟩)
      · exact ⟨h1, h2, by omega⟩
      · omega
    · rintro ⟨h1, h2, h3⟩; exact .inr ⟨h1, h2, by omega⟩
    · rintro (⟨h1, h2, h3⟩ | ⟨h1, h2, h3⟩)
      · omega
      · exact ⟨h1, h2, by omega⟩
  · rw [tk_iff (by omega) hp2] at h1
    rw [tk_iff (by omega) hp3] at h2
    have := Nat.pow_pos (n := k) (show 0 < 2 by decide)
    omega
theorem tk_one {p : Nat} (hp : p < 2 ^ gN x y) : tkN x y (gN x y) p ≤ 1 ∧ (lp x y p = 0 ∧ pt x y p = 1 ↔ 1 ≤ tkN x y (gN x y) p) := by
  have hi : ∀ q, q < 2 ^ gN x y → (tcB x y p (2 ^ gN x y - 1 - p) q = true ↔ (lp x y q = 0 ∧ pt x y q = 1) ∧ q = p) := fun q hq => by
    rw [tk_iff (Nat.le_refl _) hp, Nat.mod_eq_of_lt hq]
    exact ⟨fun h => ⟨⟨h.1, h.2.1⟩, h.2.2⟩, fun h => ⟨h.1.1, h.1.2, h.2⟩⟩
  unfold tkN tcN
  refine ⟨Nat.le_trans (cnt_le (q := fun k => k == p) fun q hq h => ?_).1 (cnt_single p _), fun h => ?_, fun h => ?_⟩
  · rw [beq_iff_eq]; exact ((hi q hq).1 h).2
  · exact cnt_pos hp ((hi p hp).2 ⟨h, rfl⟩)
  · obtain ⟨q, hq, h⟩ := cnt_some h
    obtain ⟨h1, rfl⟩ := (hi q hq).1 h
    exact h1
/-- A maze's place among those that begin as it does. -/
theorem nu_rank {o : Nat} (ho : o < 2 ^ gN x y) (h0 : lp x y o = 0 ∧ pt x y o = 1) : ∀ d k, k + d = gN x y → nuN x y o (gN x y) < nuN x y o k + tkN x y k (o % 2 ^ k) ∧ nuN x y o k ≤ nuN x y o (gN x y)
  | 0, k, h => by
    obtain rfl : k = gN x y := h
    have := (tk_one ho).2.1 h0
    rw [Nat.mod_eq_of_lt ho]
    omega
  | d + 1, k, h => by
    obtain ⟨h1, h2⟩ := nu_rank ho h0 d (k + 1) (by omega)
    have hs := tk_split (x := x) (y := y) (k := k) (p := o % 2 ^ k) (by omega) (Nat.mod_lt _ (Nat.pow_pos (by decide)))
    have e : nuN x y o (k + 1) = nuN x y o k + if bt o k = 1 then tkN x y (k + 1) (o % 2 ^ k) else 0 := rfl
    rw [cntF.mod_next] at h1
    rcases bt_01 o k with hb | hb
    · rw [if_neg (by omega)] at e
      simp only [hb, Nat.zero_mul, Nat.add_zero] at h1 e
      omega
    · rw [if_pos hb] at e
      simp only [hb, Nat.one_mul] at h1
      omega
theorem nu_lt {o : Nat} (ho : o < 2 ^ gN x y) (h0 : lp x y o = 0 ∧ pt x y o = 1) : nuN x y o (gN x y) < tcN x y 0 0 := by
  have := (nu_rank ho h0 (gN x y) 0 (by omega)).1
  rw [show o % 2 ^ 0 = 0 by rw [Nat.pow_zero, Nat.mod_one]] at this
  have e : tkN x y 0 0 = tcN x y 0 0 := rfl
  have e2 : nuN x y o 0 = 0 := rfl
  omega
/-- A maze is found by its number. -/
theorem ma_of {o : Nat} (ho : o < 2 ^ gN x y) (h0 : lp x y o = 0 ∧ pt x y o = 1) : ∀ k, k ≤ gN x y → maS x y (nuN x y o (gN x y)) k = (o % 2 ^ k, nuN x y o (gN x y) - nuN x y o k)
  | 0, _ => by rw [show o % 2 ^ 0 = 0 by rw [Nat.pow_zero, Nat.mod_one]]; rfl
  | k + 1, h => by
    have ih := ma_of ho h0 k (by omega)
    obtain ⟨h1, h2⟩ := nu_rank ho h0 (gN x y - (k + 1)) (k + 1) (by omega)
    have e : nuN x y o (k + 1) = nuN x y o k + if bt o k = 1 then tkN x y (k + 1) (o % 2 ^ k) else 0 := rfl
    unfold maS
    rw [ih]
    rw [cntF.mod_next] at h1 ⊢
    show (if nuN x y o (gN x y) - nuN x y o k < tkN x y (k + 1) (o % 2 ^ k) then _ else _) = _
    rcases bt_01 o k with hb | hb
    · rw [if_neg (by omega)] at e
      simp only [hb, Nat.zero_mul, Nat.add_zero] at h1 e ⊢
      have h3 := (nu_rank ho h0 (gN x y - k) k (by omega)).2
      rw [if_pos (by omega), e]
    · rw [if_pos hb] at e
      simp only [hb, Nat.one_mul] at h1 ⊢
      rw [if_neg (by omega), e]
      show (_, _) = _
      congr 1
      omega
/-- A number's maze is perfect, and has that number. -/
theorem ma_inv {n : Nat} (hn : n < tcN x y 0 0) : ∀ k, k ≤ gN x y → (maS x y n k).1 < 2 ^ k ∧ (maS x y n k).2 < tkN x y k (maS x y n k).1 ∧ nuN x y (maS x y n k).1 k + (maS x y n k).2 = n
  | 0, _ => ⟨Nat.one_pos, hn, by show 0 + n = n; omega⟩
  | k + 1, h => by
    obtain ⟨h1, h2, h3⟩ := ma_inv hn k (by omega)
    have hs := tk_split (x := x) (y := y) (k := k) (p := (maS x y n k).1) (by omega) h1
    have e : maS x y n (k + 1) = if (maS x y n k).2 < tkN x y (k + 1) (maS x y n k).1 then maS x y n k else ((maS x y n k).1 + 2 ^ k, (maS x y n k).2 - tkN x y (k + 1) (maS x y n k).1) := rfl
    rw [e]
    generalize hp : (maS x y n k).1 = p at *
    generalize hr : (maS x y n k).2 = r at *
    have e2 : 2 ^ (k + 1) = 2 ^ k * 2 := by rw [Nat.pow_succ]
    by_cases hlt : r < tkN x y (k + 1) p
    · rw [if_pos hlt, hp, hr]
      refine ⟨by omega, hlt, ?_⟩
      have hb : bt p k = 0 := bt_lt h1 (Nat.le_refl _)
      unfold nuN
      rw [if_neg (by omega)]; omega
    · rw [if_neg hlt]
      show p + 2 ^ k < _ ∧ r - _ < tkN x y (k + 1) (p + 2 ^ k) ∧ nuN x y (p + 2 ^ k) (k + 1) + (r - tkN x y (k + 1) p) = n
      have hm : (p + 2 ^ k) % 2 ^ k = p := by rw [Nat.add_mod_right, Nat.mod_eq_of_lt h1]
      have hb : bt (p + 2 ^ k) k = 1 := by
        rw [Nat.add_comm]; exact bt_hi h1
      refine ⟨by omega, by omega, ?_⟩
      unfold nuN
      rw [if_pos hb, hm, nu_congr (x := x) (y := y) (o := p + 2 ^ k) (o' := p) (k := k) (by rw [hm, Nat.mod_eq_of_lt h1])]
      omega
theorem ma_is {n : Nat} (hn : n < tcN x y 0 0) : (maS x y n (gN x y)).1 < 2 ^ gN x y ∧ (lp x y (maS x y n (gN x y)).1 = 0 ∧ pt x y (maS x y n (gN x y)).1 = 1) ∧ nuN x y (maS x y n (gN x y)).1 (gN x y) = n := by
  obtain ⟨h1, h2, h3⟩ := ma_inv hn (gN x y) (Nat.le_refl _)
  obtain ⟨h4, h5⟩ := tk_one h1
  exact ⟨h1, h5.2 (by omega), by omega⟩
theorem ma_nu {o : Nat} (ho : o < 2 ^ gN x y) (h0 : lp x y o = 0 ∧ pt x y o = 1) : (maS x y (nuN x y o (gN x y)) (gN x y)).1 = o := by
  rw [ma_of ho h0 (gN x y) (Nat.le_refl _), Nat.mod_eq_of_lt ho]
/-- What is counted on the way. -/
theorem tk_cf (hk : OkZ x y) {k p : Nat} (hkg : k < gN x y) (hp : p < 2 ^ k) : cfZ x y (p : Int) ((2 ^ k - 1 - p + 2 ^ k : Nat) : Int) = (tkN x y (k + 1) p : Int) := by
  have hp2 : p < 2 ^ (k + 1) := by rw [Nat.pow_succ]; omega
  have e2 : 2 ^ (k + 1) = 2 ^ k * 2 := by rw [Nat.pow_succ]
  have hle : 2 ^ (k + 1) ≤ 2 ^ gN x y := Nat.pow_le_pow_right (by decide) (by omega)
  have e : 2 ^ k - 1 - p + 2 ^ k = 2 ^ (k + 1) - 1 - p := by omega
  rw [e, cf_is hk (by omega) (by omega)]
  · rfl
  · apply Nat.eq_of_testBit_eq; intro g
    rw [Nat.testBit_and, bt_test, bt_test, Nat.zero_testBit]
    by_cases hg : g < k + 1
    · rw [bt_compl hp2 hg]
      rcases bt_01 p g with h | h <;> rw [h] <;> rfl
    · rw [bt_lt hp2 (by omega)]; rfl
theorem tk_bd (k p : Nat) : tkN x y k p ≤ 2 ^ gN x y := cnt_most _ _
end
/-- The answers. -/
def nuZ (x y z : Int) : Int := if perfP.ipB x y z = true then (nuN x y z.toNat (gN x y) : Int) else -1
def atB (x y n : Int) : Bool := decide (0 ≤ n ∧ n < cfZ x y 0 0)
def atX (x y n : Int) : Int := if atB x y n = true then x else 0
def atY (x y n : Int) : Int := if atB x y n = true then y else 0
def atO (x y n : Int) : Int := if atB x y n = true then ((maS x y n.toNat (gN x y)).1 : Int) else 0
def nmB (x y z : Int) : Bool := decide (0 ≤ nuZ x y z) && atB x y (nuZ x y z + 1)
def nmO (x y z : Int) : Int := if nmB x y z = true then ((maS x y (nuZ x y z + 1).toNat (gN x y)).1 : Int) else z
end Go.Proofs.Ytnfnandpcjgmmaa.nbrP
