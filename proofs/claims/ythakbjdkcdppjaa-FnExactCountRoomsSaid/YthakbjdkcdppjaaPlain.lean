/- The numbers of grids, without the program: neighbors, gaps and their ends. -/
import Derived.WalkKit
import Derived.IntWalk
import Derived.Laws.BitsAllLaws

namespace Go.Proofs.Ythakbjdkcdppjaa.gridP

/-- The grid is within the limits. -/
def OkZ (w h : Int) : Prop := 1 ≤ w ∧ w ≤ 4 ∧ 1 ≤ h ∧ h ≤ 4
instance (w h : Int) : Decidable (OkZ w h) := by unfold OkZ; infer_instance
/-- The direction to the right, -1 where there is none. -/
def trZ (d : Int) : Int := if 0 ≤ d ∧ d ≤ 3 then (d + 1) % 4 else -1
/-- The neighbor of a cell of a grid, -1 where there is none. -/
def nbZ (w h k d : Int) : Int :=
  if 1 ≤ w ∧ w ≤ 4 ∧ 1 ≤ h ∧ h ≤ 4 then
    if 0 ≤ k ∧ k < w * h then
      if d = 0 then (if k < w then -1 else k - w)
      else if d = 1 then (if k % w + 1 < w then k + 1 else -1)
      else if d = 2 then (if k / w + 1 < h then k + w else -1)
      else if d = 3 then (if k % w = 0 then -1 else k - 1)
      else -1
    else -1
  else -1
/-- The gap between a cell and its neighbor, -1 where there is none. -/
def gpZ (w h k d : Int) : Int :=
  if nbZ w h k d < 0 then -1
  else if d = 1 ∨ d = 3 then min k (nbZ w h k d) - min k (nbZ w h k d) / w
  else (w - 1) * h + min k (nbZ w h k d)
/-- The western or northern cell at a gap. -/
def eaZ (w h g : Int) : Int :=
  if 1 ≤ w ∧ w ≤ 4 ∧ 1 ≤ h ∧ h ≤ 4 then
    if 0 ≤ g ∧ g < (w - 1) * h + w * (h - 1) then
      if g < (w - 1) * h then g + g / (w - 1) else g - (w - 1) * h
    else -1
  else -1
/-- The other cell at a gap. -/
def ebZ (w h g : Int) : Int :=
  if 1 ≤ w ∧ w ≤ 4 ∧ 1 ≤ h ∧ h ≤ 4 then
    if 0 ≤ g ∧ g < (w - 1) * h + w * (h - 1) then
      if g < (w - 1) * h then g + g / (w - 1) + 1 else g - (w - 1) * h + w
    else -1
  else -1

theorem mul_bd (w h : Int) (h1 : 1 ≤ w) (h2 : w ≤ 4) (h3 : 1 ≤ h) (h4 : h ≤ 4) : (1 ≤ w * h ∧ w * h ≤ 16) ∧ (0 ≤ (w - 1) * h ∧ (w - 1) * h ≤ 12) ∧ (0 ≤ w * (h - 1) ∧ w * (h - 1) ≤ 12) := by
  obtain rfl | rfl | rfl | rfl : w = 1 ∨ w = 2 ∨ w = 3 ∨ w = 4 := by omega
  all_goals omega

theorem nb_bad {w h k d : Int} (hn : ¬ (1 ≤ w ∧ w ≤ 4 ∧ 1 ≤ h ∧ h ≤ 4)) : nbZ w h k d = -1 := by unfold nbZ; rw [if_neg hn]
theorem nb_out {w h k d : Int} (hn : ¬ (0 ≤ k ∧ k < w * h)) : nbZ w h k d = -1 := by unfold nbZ; rw [if_neg hn]; split <;> rfl
theorem nb_off {w h k d : Int} (hn : ¬ (0 ≤ d ∧ d ≤ 3)) : nbZ w h k d = -1 := by
  unfold nbZ
  rw [if_neg (by omega : ¬ d = 0), if_neg (by omega : ¬ d = 1), if_neg (by omega : ¬ d = 2), if_neg (by omega : ¬ d = 3)]
  repeat' split
  all_goals rfl
/-- Where there is a neighbor, all is in range. -/
theorem nb_some {w h k d : Int} (hn : ¬ nbZ w h k d < 0) : (1 ≤ w ∧ w ≤ 4 ∧ 1 ≤ h ∧ h ≤ 4) ∧ (0 ≤ k ∧ k < w * h) ∧ (0 ≤ d ∧ d ≤ 3) ∧ 0 ≤ nbZ w h k d ∧ nbZ w h k d < w * h := by
  by_cases h1 : 1 ≤ w ∧ w ≤ 4 ∧ 1 ≤ h ∧ h ≤ 4
  · by_cases h2 : 0 ≤ k ∧ k < w * h
    · by_cases h3 : 0 ≤ d ∧ d ≤ 3
      · refine ⟨h1, h2, h3, by omega, ?_⟩
        obtain ⟨a, b, c, e⟩ := h1
        unfold nbZ
        obtain rfl | rfl | rfl | rfl : w = 1 ∨ w = 2 ∨ w = 3 ∨ w = 4 := by omega
        all_goals
          repeat' split
          all_goals omega
      · exact absurd (nb_off h3 (w := w) (h := h) (k := k)) (by omega)
    · exact absurd (nb_out h2 (d := d)) (by omega)
  · exact absurd (nb_bad h1 (k := k) (d := d)) (by omega)
end Go.Proofs.Ythakbjdkcdppjaa.gridP

/- Binary places of numbers below 2 to the power of 24, and how many of them are 1: plain facts. -/
namespace Go.Proofs.Ythakbjdkcdppjaa.bitP

theorem tb (n g : Nat) : n.testBit g = decide (n / 2 ^ g % 2 = 1) := by
  rw [Nat.testBit_eq_decide_div_mod_eq]
theorem parts (n g : Nat) : n = 2 ^ (g + 1) * (n / 2 ^ (g + 1)) + (2 ^ g * (n / 2 ^ g % 2) + n % 2 ^ g) := by
  have h1 := Nat.div_add_mod n (2 ^ g)
  have h2 := Nat.div_add_mod (n / 2 ^ g) 2
  have h3 : n / 2 ^ g / 2 = n / 2 ^ (g + 1) := by rw [Nat.div_div_eq_div_mul, Nat.pow_succ]
  rw [h3] at h2
  clear h3
  generalize n / 2 ^ (g + 1) = q at h2 ⊢
  generalize n / 2 ^ g % 2 = b at h2 ⊢
  have h4 : 2 ^ g * (n / 2 ^ g) = 2 ^ (g + 1) * q + 2 ^ g * b := by
    rw [Nat.pow_succ, Nat.mul_assoc, ← Nat.mul_add, h2]
  omega
theorem or_set {n g : Nat} (h : n / 2 ^ g % 2 = 1) : n ||| 2 ^ g = n := by
  apply Nat.eq_of_testBit_eq; intro j
  rw [Nat.testBit_or, Nat.testBit_two_pow]
  by_cases e : g = j
  · subst e; rw [tb]; simp [h]
  · simp [e]
theorem or_clear {n g : Nat} (h : n / 2 ^ g % 2 = 0) : n ||| 2 ^ g = n + 2 ^ g := by
  have hp := parts n g
  have hr : n % 2 ^ g < 2 ^ g := Nat.mod_lt _ (Nat.two_pow_pos g)
  rw [h, Nat.mul_zero, Nat.zero_add] at hp
  generalize n / 2 ^ (g + 1) = q at hp
  generalize n % 2 ^ g = r at hp hr
  have hs : 2 ^ (g + 1) = 2 * 2 ^ g := by rw [Nat.pow_succ, Nat.mul_comm]
  have e1 : 2 ^ (g + 1) * q + r = 2 ^ (g + 1) * q ||| r := Nat.two_pow_add_eq_or_of_lt (by omega) q
  have e2 : 2 ^ (g + 1) * q + (2 ^ g + r) = 2 ^ (g + 1) * q ||| (2 ^ g + r) := Nat.two_pow_add_eq_or_of_lt (by omega) q
  have e3 : 2 ^ g + r = 2 ^ g ||| r := by have := Nat.two_pow_add_eq_or_of_lt hr 1; simpa using this
  have e4 : n + 2 ^ g = 2 ^ (g + 1) * q + (2 ^ g + r) := by omega
  rw [e4, e2, e3, hp, e1, Nat.or_assoc, Nat.or_comm r]
theorem xor_clear {n g : Nat} (h : n / 2 ^ g % 2 = 0) : n ^^^ 2 ^ g = n + 2 ^ g := by
  rw [← or_clear h]
  apply Nat.eq_of_testBit_eq; intro j
  rw [Nat.testBit_xor, Nat.testBit_or, Nat.testBit_two_pow]
  by_cases e : g = j
  · subst e; rw [tb]; simp [h]
  · simp [e]
theorem set_le {n g : Nat} (h : n / 2 ^ g % 2 = 1) : 2 ^ g ≤ n ∧ (n - 2 ^ g) / 2 ^ g % 2 = 0 := by
  have hpos := Nat.two_pow_pos g
  have h1 : 1 ≤ n / 2 ^ g := by generalize n / 2 ^ g = q at h ⊢; omega
  have h2 : 2 ^ g ≤ n := by
    have := Nat.div_mul_le_self n (2 ^ g)
    have h3 : 1 * 2 ^ g ≤ n / 2 ^ g * 2 ^ g := Nat.mul_le_mul_right _ h1
    omega
  refine ⟨h2, ?_⟩
  have : (n - 2 ^ g) / 2 ^ g = n / 2 ^ g - 1 := by
    have := Nat.sub_mul_div n (2 ^ g) 1
    simpa using this
  rw [this]
  generalize n / 2 ^ g = q at h h1 ⊢
  omega
theorem xor_set {n g : Nat} (h : n / 2 ^ g % 2 = 1) : n ^^^ 2 ^ g = n - 2 ^ g := by
  obtain ⟨h1, h2⟩ := set_le h
  have h3 := xor_clear h2
  have h4 : n - 2 ^ g + 2 ^ g = n := by omega
  rw [h4] at h3
  have h5 : n ^^^ 2 ^ g = (n - 2 ^ g ^^^ 2 ^ g) ^^^ 2 ^ g := by rw [h3]
  rw [h5, Nat.xor_assoc, Nat.xor_self, Nat.xor_zero]
theorem not_bit {m j : Nat} (hm : m < 2 ^ 64) : (18446744073709551615 - m).testBit j = (decide (j < 64) && !m.testBit j) := by
  have := Nat.testBit_two_pow_sub_succ hm j
  rw [← this]; congr 1; omega
theorem pow_lt64 {g : Nat} (hg : g < 64) : 2 ^ g < 2 ^ 64 := Nat.pow_lt_pow_right (by decide) hg
theorem andNot_set {n g : Nat} (hg : g < 64) (hn : n < 2 ^ 64) (h : n / 2 ^ g % 2 = 1) : n &&& (18446744073709551615 - 2 ^ g) = n - 2 ^ g := by
  rw [← xor_set h]
  apply Nat.eq_of_testBit_eq; intro j
  rw [Nat.testBit_and, not_bit (pow_lt64 hg), Nat.testBit_xor, Nat.testBit_two_pow]
  by_cases e : g = j
  · subst e; rw [tb]; simp [h]
  · by_cases hj : j < 64
    · simp [e, hj]
    · have : n.testBit j = false := Nat.testBit_lt_two_pow (Nat.lt_of_lt_of_le hn (Nat.pow_le_pow_right (by decide) (by omega)))
      simp [e, hj, this]
theorem andNot_clear {n g : Nat} (hg : g < 64) (hn : n < 2 ^ 64) (h : n / 2 ^ g % 2 = 0) : n &&& (18446744073709551615 - 2 ^ g) = n := by
  apply Nat.eq_of_testBit_eq; intro j
  rw [Nat.testBit_and, not_bit (pow_lt64 hg), Nat.testBit_two_pow]
  by_cases e : g = j
  · subst e; rw [tb]; simp [h]
  · by_cases hj : j < 64
    · simp [e, hj]
    · have : n.testBit j = false := Nat.testBit_lt_two_pow (Nat.lt_of_lt_of_le hn (Nat.pow_le_pow_right (by decide) (by omega)))
      simp [this]

/-! The operations on Go's int, for numbers that are not negative. -/
theorem ofInt64 (a : Nat) (ha : a < 9223372036854775808) : (BitVec.ofInt 64 (a : Int)).toNat = a := by
  rw [BitVec.ofInt_natCast, BitVec.toNat_ofNat]; omega
theorem and_i64 (a b : Nat) (ha : a < 9223372036854775808) (hb : b < 9223372036854775808) : bits .and .i64 (a : Int) (b : Int) = ((a &&& b : Nat) : Int) := by
  have hx : a &&& b < 2 ^ 63 := Nat.and_lt_two_pow _ (by omega)
  show IntKind.i64.wrap ((BitVec.ofInt 64 (a : Int) &&& BitVec.ofInt 64 (b : Int)).toNat : Int) = _
  rw [BitVec.toNat_and, ofInt64 a ha, ofInt64 b hb, IntKind.wrap_i64]; omega
theorem or_i64 (a b : Nat) (ha : a < 9223372036854775808) (hb : b < 9223372036854775808) : bits .or .i64 (a : Int) (b : Int) = ((a ||| b : Nat) : Int) := by
  have hx : a ||| b < 2 ^ 63 := Nat.or_lt_two_pow (by omega) (by omega)
  show IntKind.i64.wrap ((BitVec.ofInt 64 (a : Int) ||| BitVec.ofInt 64 (b : Int)).toNat : Int) = _
  rw [BitVec.toNat_or, ofInt64 a ha, ofInt64 b hb, IntKind.wrap_i64]; omega
theorem xor_i64 (a b : Nat) (ha : a < 9223372036854775808) (hb : b < 9223372036854775808) : bits .xor .i64 (a : Int) (b : Int) = ((a ^^^ b : Nat) : Int) := by
  have hx : a ^^^ b < 2 ^ 63 := Nat.xor_lt_two_pow (by omega) (by omega)
  show IntKind.i64.wrap ((BitVec.ofInt 64 (a : Int) ^^^ BitVec.ofInt 64 (b : Int)).toNat : Int) = _
  rw [BitVec.toNat_xor, ofInt64 a ha, ofInt64 b hb, IntKind.wrap_i64]; omega
theorem andNot_i64 (a b : Nat) (ha : a < 9223372036854775808) (hb : b < 9223372036854775808) : bits .andNot .i64 (a : Int) (b : Int) = ((a &&& (18446744073709551615 - b) : Nat) : Int) := by
  have hx : a &&& (18446744073709551615 - b) ≤ a := Nat.and_le_left
  show IntKind.i64.wrap ((BitVec.ofInt 64 (a : Int) &&& ~~~BitVec.ofInt 64 (b : Int)).toNat : Int) = _
  rw [BitVec.toNat_and, BitVec.toNat_not, ofInt64 a ha, ofInt64 b hb, IntKind.wrap_i64]
  have e : 2 ^ 64 - 1 - b = 18446744073709551615 - b := by omega
  rw [e]; omega

/-- The place of number g. -/
def bitZ (o g : Int) : Int := o / 2 ^ g.toNat % 2
theorem bit_bd (o g : Int) : 0 ≤ bitZ o g ∧ bitZ o g ≤ 1 := by unfold bitZ; omega
theorem pow_bd (g : Int) (h1 : g ≤ 24) : 1 ≤ (2 : Int) ^ g.toNat ∧ (2 : Int) ^ g.toNat ≤ 16777216 := by
  have h : ∀ k : Nat, k < 25 → 1 ≤ (2 : Int) ^ k ∧ (2 : Int) ^ k ≤ 16777216 := by decide
  exact h _ (by omega)
theorem nat_form {o g : Int} (o0 : 0 ≤ o) (g0 : 0 ≤ g) : ∃ n k : Nat, o = n ∧ g = k ∧ (2 : Int) ^ g.toNat = ((2 ^ k : Nat) : Int) ∧ bitZ o g = ((n / 2 ^ k % 2 : Nat) : Int) := by
  obtain ⟨n, rfl⟩ := Int.eq_ofNat_of_zero_le o0
  obtain ⟨k, rfl⟩ := Int.eq_ofNat_of_zero_le g0
  refine ⟨n, k, rfl, rfl, by simp, ?_⟩
  unfold bitZ; simp
theorem bit_is {o g : Int} (o0 : 0 ≤ o) (o1 : o < 16777216) (g0 : 0 ≤ g) : bits .and .i64 (o / 2 ^ g.toNat) 1 = bitZ o g := by
  obtain ⟨n, k, rfl, rfl, hp, hb⟩ := nat_form o0 g0
  rw [hb, hp, show ((n : Int) / ((2 ^ k : Nat) : Int)) = ((n / 2 ^ k : Nat) : Int) from by simp, show (1 : Int) = ((1 : Nat) : Int) from rfl, and_i64 _ _ (by have := Nat.div_le_self n (2 ^ k); omega) (by decide), nat_mask1]
theorem or_is {o g : Int} (o0 : 0 ≤ o) (o1 : o < 16777216) (g0 : 0 ≤ g) (g1 : g < 24) : bits .or .i64 o (2 ^ g.toNat) = if bitZ o g = 1 then o else o + 2 ^ g.toNat := by
  have hb := pow_bd g (by omega)
  obtain ⟨n, k, rfl, rfl, hp, hz⟩ := nat_form o0 g0
  rw [hz, hp, or_i64 _ _ (by omega) (by omega)]
  have hm : n / 2 ^ k % 2 < 2 := Nat.mod_lt _ (by decide)
  by_cases h : n / 2 ^ k % 2 = 1
  · rw [if_pos (by omega), or_set h]
  · rw [if_neg (by omega), or_clear (by omega)]; simp
theorem xor_is {o g : Int} (o0 : 0 ≤ o) (o1 : o < 16777216) (g0 : 0 ≤ g) (g1 : g < 24) : bits .xor .i64 o (2 ^ g.toNat) = if bitZ o g = 1 then o - 2 ^ g.toNat else o + 2 ^ g.toNat := by
  have hb := pow_bd g (by omega)
  obtain ⟨n, k, rfl, rfl, hp, hz⟩ := nat_form o0 g0
  rw [hz, hp, xor_i64 _ _ (by omega) (by omega)]
  have hm : n / 2 ^ k % 2 < 2 := Nat.mod_lt _ (by decide)
  by_cases h : n / 2 ^ k % 2 = 1
  · have := (set_le h).1
    rw [if_pos (by omega), xor_set h]; omega
  · rw [if_neg (by omega), xor_clear (by omega)]; omega
theorem andNot_is {o g : Int} (o0 : 0 ≤ o) (o1 : o < 16777216) (g0 : 0 ≤ g) (g1 : g < 24) : bits .andNot .i64 o (2 ^ g.toNat) = if bitZ o g = 1 then o - 2 ^ g.toNat else o := by
  have hb := pow_bd g (by omega)
  obtain ⟨n, k, rfl, rfl, hp, hz⟩ := nat_form o0 g0
  rw [hz, hp, andNot_i64 _ _ (by omega) (by omega)]
  have hm : n / 2 ^ k % 2 < 2 := Nat.mod_lt _ (by decide)
  by_cases h : n / 2 ^ k % 2 = 1
  · have := (set_le h).1
    rw [if_pos (by omega), andNot_set (by omega) (by omega) h]; omega
  · rw [if_neg (by omega), andNot_clear (by omega) (by omega) (by omega)]
/-- What has become of a number whose place g was set or cleared is in range. -/
theorem put_bd {o g t : Int} (o0 : 0 ≤ o) (g0 : 0 ≤ g) (g1 : g < t) (t1 : t ≤ 24) (ho : o ≤ 2 ^ t.toNat - 1) : (bitZ o g = 1 → 0 ≤ o - 2 ^ g.toNat) ∧ (bitZ o g ≠ 1 → o + 2 ^ g.toNat ≤ 2 ^ t.toNat - 1) := by
  have hbt := pow_bd t t1
  obtain ⟨n, k, rfl, rfl, hp, hz⟩ := nat_form o0 g0
  obtain ⟨s, rfl⟩ := Int.eq_ofNat_of_zero_le (show 0 ≤ t by omega)
  have hs : (2 : Int) ^ ((s : Int)).toNat = ((2 ^ s : Nat) : Int) := by simp
  rw [hs] at ho hbt ⊢
  rw [hz, hp]
  have hm : n / 2 ^ k % 2 < 2 := Nat.mod_lt _ (by decide)
  refine ⟨fun h => ?_, fun h => ?_⟩
  · have := (set_le (n := n) (g := k) (by omega)).1; omega
  · have h0 : n / 2 ^ k % 2 = 0 := by omega
    have hlt : n ||| 2 ^ k < 2 ^ s := Nat.or_lt_two_pow (by omega) (Nat.pow_lt_pow_right (by decide) (by omega))
    rw [or_clear h0] at hlt
    omega

/-! How many places are 1. -/
def pcN (n : Nat) : Nat → Nat
  | 0 => 0
  | k + 1 => pcN n k + n / 2 ^ k % 2
theorem pcN_le (n : Nat) : ∀ k, pcN n k ≤ k
  | 0 => Nat.le_refl _
  | k + 1 => by have := pcN_le n k; have := Nat.mod_lt (n / 2 ^ k) (show 0 < 2 by decide); unfold pcN; omega
theorem pcN_top {n t : Nat} (h : n < 2 ^ t) : ∀ k, t ≤ k → pcN n k = pcN n t
  | 0, hk => by obtain rfl : t = 0 := by omega
                rfl
  | k + 1, hk => by
    rcases Nat.lt_or_ge k t with h' | h'
    · obtain rfl : t = k + 1 := by omega
      rfl
    · have := pcN_top h k h'
      have : n / 2 ^ k = 0 := Nat.div_eq_of_lt (Nat.lt_of_lt_of_le h (Nat.pow_le_pow_right (by decide) h'))
      show pcN n k + n / 2 ^ k % 2 = pcN n t
      omega

theorem and_split (a b c d : Nat) (ha : a < 256) (hc : c < 256) : (a + 256 * b) &&& (c + 256 * d) = (a &&& c) + 256 * (b &&& d) := by
  have hac : a &&& c < 2 ^ 8 := Nat.and_lt_two_pow _ (by omega)
  have e : ∀ x y : Nat, x + 256 * y = 2 ^ 8 * y + x := fun x y => by omega
  rw [e a b, e c d, e (a &&& c)]
  apply Nat.eq_of_testBit_eq; intro j
  rw [Nat.testBit_and, Nat.testBit_two_pow_mul_add _ (by omega), Nat.testBit_two_pow_mul_add _ (by omega), Nat.testBit_two_pow_mul_add _ hac]
  by_cases hj : j < 8
  · simp [hj]
  · simp [hj]
/-- Three bytes. -/
def cat (a b c : Nat) : Nat := a + 256 * (b + 256 * c)
theorem and_cat (a b c m : Nat) (r : Nat) (ha : a < 256) (hb : b < 256) (hc : c < 256) (hm : m < 256) : cat a b c &&& (m + 256 * (m + 256 * (m + 256 * r))) = cat (a &&& m) (b &&& m) (c &&& m) := by
  unfold cat
  rw [and_split _ _ _ _ ha hm, and_split _ _ _ _ hb hm]
  have : c &&& (m + 256 * r) = c &&& m := by
    have := and_split c 0 m r hc hm
    simpa using this
  rw [this]
def f1 (a : Nat) : Nat := (a / 2 &&& 85) + (a &&& 85)
def f2 (a : Nat) : Nat := (a / 4 &&& 51) + (a &&& 51)
def f3 (a : Nat) : Nat := a / 16 + a % 16
theorem byte1 : ∀ a, a < 256 → f1 a < 256 ∧ (a / 2 &&& 85) ≤ 85 ∧ (a &&& 85) ≤ 85 ∧ (a / 2 + 128 &&& 85) = (a / 2 &&& 85) := by decide +kernel
theorem byte2 : ∀ a, a < 256 → (a / 4 &&& 51) ≤ 51 ∧ (a &&& 51) ≤ 51 ∧ (a / 4 + 64 &&& 51) = (a / 4 &&& 51) ∧ (a / 4 + 128 &&& 51) = (a / 4 &&& 51) ∧ (a / 4 + 192 &&& 51) = (a / 4 &&& 51) := by decide +kernel
theorem byte3 : ∀ a, a < 256 → f2 (f1 a) % 16 ≤ 4 ∧ f2 (f1 a) / 16 ≤ 4 ∧ f2 (f1 a) < 256 ∧ f3 (f2 (f1 a)) = pcN a 8 := by decide +kernel
theorem step1 (a b c : Nat) (ha : a < 256) (hb : b < 256) (hc : c < 256) : (cat a b c / 2 &&& 6148914691236517205) + (cat a b c &&& 6148914691236517205) = cat (f1 a) (f1 b) (f1 c) := by
  have e : cat a b c / 2 = cat (a / 2 + 128 * (b % 2)) (b / 2 + 128 * (c % 2)) (c / 2) := by unfold cat; omega
  have k : ∀ a t, a < 256 → t < 2 → (a / 2 + 128 * t &&& 85) = (a / 2 &&& 85) := fun a t h1 h2 => by
    obtain rfl | rfl : t = 0 ∨ t = 1 := by omega
    · rfl
    · exact (byte1 a h1).2.2.2
  have m : (6148914691236517205 : Nat) = 85 + 256 * (85 + 256 * (85 + 256 * 366503875925)) := by decide
  rw [e, m, and_cat _ _ _ _ _ (by omega) (by omega) (by omega) (by decide), and_cat _ _ _ _ _ ha hb hc (by decide), k a _ ha (by omega), k b _ hb (by omega)]
  unfold cat f1; omega
theorem step2 (a b c : Nat) (ha : a < 256) (hb : b < 256) (hc : c < 256) : (cat a b c / 4 &&& 3689348814741910323) + (cat a b c &&& 3689348814741910323) = cat (f2 a) (f2 b) (f2 c) := by
  have e : cat a b c / 4 = cat (a / 4 + 64 * (b % 4)) (b / 4 + 64 * (c % 4)) (c / 4) := by unfold cat; omega
  have k : ∀ a t, a < 256 → t < 4 → (a / 4 + 64 * t &&& 51) = (a / 4 &&& 51) := fun a t h1 h2 => by
    obtain rfl | rfl | rfl | rfl : t = 0 ∨ t = 1 ∨ t = 2 ∨ t = 3 := by omega
    · rfl
    · exact (byte2 a h1).2.2.1
    · exact (byte2 a h1).2.2.2.1
    · exact (byte2 a h1).2.2.2.2
  have m : (3689348814741910323 : Nat) = 51 + 256 * (51 + 256 * (51 + 256 * 219902325555)) := by decide
  rw [e, m, and_cat _ _ _ _ _ (by omega) (by omega) (by omega) (by decide), and_cat _ _ _ _ _ ha hb hc (by decide), k a _ ha (by omega), k b _ hb (by omega)]
  unfold cat f2; omega
theorem step3 (a b c : Nat) (ha : a % 16 ≤ 4 ∧ a / 16 ≤ 4) (hb : b % 16 ≤ 4 ∧ b / 16 ≤ 4) (hc : c % 16 ≤ 4 ∧ c / 16 ≤ 4) : (cat a b c / 16 + cat a b c &&& 1085102592571150095) = cat (f3 a) (f3 b) (f3 c) := by
  have e : cat a b c / 16 + cat a b c = cat (a / 16 + 16 * (b % 16) + a) (b / 16 + 16 * (c % 16) + b) (c / 16 + c) := by unfold cat; omega
  have m : (1085102592571150095 : Nat) = 15 + 256 * (15 + 256 * (15 + 256 * 64677154575)) := by decide
  rw [e, m, and_cat _ _ _ _ _ (by omega) (by omega) (by omega) (by decide), nat_mask4, nat_mask4, nat_mask4]
  clear e m
  have k : ∀ a t : Nat, a % 16 ≤ 4 ∧ a / 16 ≤ 4 → (a / 16 + 16 * t + a) % 16 = f3 a := fun a t h => by unfold f3; omega
  have k' : (c / 16 + c) % 16 = f3 c := by unfold f3; omega
  rw [k a _ ha, k b _ hb, k']
theorem pc_cat (a b c : Nat) (ha : a < 256) (hb : b < 256) : pcN (cat a b c) 24 = pcN a 8 + pcN b 8 + pcN c 8 := by
  have h1 : ∀ i, i < 8 → cat a b c / 2 ^ i % 2 = a / 2 ^ i % 2 := fun i hi => by
    unfold cat
    obtain rfl | rfl | rfl | rfl | rfl | rfl | rfl | rfl : i = 0 ∨ i = 1 ∨ i = 2 ∨ i = 3 ∨ i = 4 ∨ i = 5 ∨ i = 6 ∨ i = 7 := by omega
    all_goals simp only [Nat.reducePow]; omega
  have h2 : ∀ i, i < 8 → cat a b c / 2 ^ (i + 8) % 2 = b / 2 ^ i % 2 := fun i hi => by
    unfold cat
    obtain rfl | rfl | rfl | rfl | rfl | rfl | rfl | rfl : i = 0 ∨ i = 1 ∨ i = 2 ∨ i = 3 ∨ i = 4 ∨ i = 5 ∨ i = 6 ∨ i = 7 := by omega
    all_goals simp only [Nat.reducePow, Nat.reduceAdd]; omega
  have h3 : ∀ i, i < 8 → cat a b c / 2 ^ (i + 16) % 2 = c / 2 ^ i % 2 := fun i hi => by
    unfold cat
    obtain rfl | rfl | rfl | rfl | rfl | rfl | rfl | rfl : i = 0 ∨ i = 1 ∨ i = 2 ∨ i = 3 ∨ i = 4 ∨ i = 5 ∨ i = 6 ∨ i = 7 := by omega
    all_goals simp only [Nat.reducePow, Nat.reduceAdd]; omega
  have a0 := h1 0 (by decide); have a1 := h1 1 (by decide); have a2 := h1 2 (by decide); have a3 := h1 3 (by decide); have a4 := h1 4 (by decide); have a5 := h1 5 (by decide); have a6 := h1 6 (by decide); have a7 := h1 7 (by decide)
  have b0 := h2 0 (by decide); have b1 := h2 1 (by decide); have b2 := h2 2 (by decide); have b3 := h2 3 (by decide); have b4 := h2 4 (by decide); have b5 := h2 5 (by decide); have b6 := h2 6 (by decide); have b7 := h2 7 (by decide)
  have c0 := h3 0 (by decide); have c1 := h3 1 (by decide); have c2 := h3 2 (by decide); have c3 := h3 3 (by decide); have c4 := h3 4 (by decide); have c5 := h3 5 (by decide); have c6 := h3 6 (by decide); have c7 := h3 7 (by decide)
  simp only [Nat.reduceAdd] at b0 b1 b2 b3 b4 b5 b6 b7 c0 c1 c2 c3 c4 c5 c6 c7
  simp only [pcN, a0, a1, a2, a3, a4, a5, a6, a7, b0, b1, b2, b3, b4, b5, b6, b7, c0, c1, c2, c3, c4, c5, c6, c7]
  omega
theorem gather (p q r : Nat) (hp : p ≤ 8) (hq : q ≤ 8) (hr : r ≤ 8) : (cat p q r + cat p q r / 256 + (cat p q r + cat p q r / 256) / 65536) % 128 = p + q + r := by
  have e1 : cat p q r / 256 = q + 256 * r := by unfold cat; omega
  have e2 : cat p q r + (q + 256 * r) = (p + q) + 256 * (q + r) + 65536 * r := by unfold cat; omega
  have e3 : ((p + q) + 256 * (q + r) + 65536 * r) / 65536 = r := by omega
  rw [e1, e2, e3]
  omega
/-- What the library reckons of a number below 2 to the power of 24. -/
theorem ones {n : Nat} (h : n < 16777216) : ∃ x y z : Nat, (n / 2 &&& 6148914691236517205) + (n &&& 6148914691236517205) = x ∧ (x / 4 &&& 3689348814741910323) + (x &&& 3689348814741910323) = y ∧ (y / 16 + y &&& 1085102592571150095) = z ∧
    x < 16777216 ∧ y < 16777216 ∧ z < 16777216 ∧ (z + z / 256 + (z + z / 256) / 65536) % 128 = pcN n 24 := by
  obtain ⟨a, b, c, ha, hb, hc, rfl⟩ : ∃ a b c, a < 256 ∧ b < 256 ∧ c < 256 ∧ n = cat a b c := ⟨n % 256, n / 256 % 256, n / 65536, by omega, by omega, by omega, by unfold cat; omega⟩
  have A := byte3 a ha; have B := byte3 b hb; have C := byte3 c hc
  have A1 := (byte1 a ha).1; have B1 := (byte1 b hb).1; have C1 := (byte1 c hc).1
  refine ⟨_, _, _, step1 a b c ha hb hc, step2 _ _ _ A1 B1 C1, step3 _ _ _ ⟨A.1, A.2.1⟩ ⟨B.1, B.2.1⟩ ⟨C.1, C.2.1⟩, by unfold cat; omega, by unfold cat; omega, ?_, ?_⟩
  · rw [A.2.2.2, B.2.2.2, C.2.2.2]
    have := pcN_le a 8; have := pcN_le b 8; have := pcN_le c 8
    unfold cat; omega
  · rw [pc_cat a b c ha hb, A.2.2.2, B.2.2.2, C.2.2.2]
    exact gather _ _ _ (pcN_le a 8) (pcN_le b 8) (pcN_le c 8)
end Go.Proofs.Ythakbjdkcdppjaa.bitP

/- The numbers of mazes, without the program: which gaps are open, as a number's binary places. -/
namespace Go.Proofs.Ythakbjdkcdppjaa.mazeP
open gridP bitP

/-- The number of gaps of a grid. -/
def gpsZ (w h : Int) : Int := (w - 1) * h + w * (h - 1)
/-- The greatest number of open gaps' places. -/
def topZ (w h : Int) : Int := 2 ^ (gpsZ w h).toNat - 1
/-- A maze is valid. -/
def OkM (w h o : Int) : Prop := (1 ≤ w ∧ w ≤ 4 ∧ 1 ≤ h ∧ h ≤ 4) ∧ 0 ≤ o ∧ o ≤ topZ w h
instance (w h o : Int) : Decidable (OkM w h o) := by unfold OkM; infer_instance
/-- Whether a maze is valid. -/
def okB (w h o : Int) : Bool := decide (OkM w h o)
/-- Whether a gap is a passage. -/
def psB (w h o g : Int) : Bool := decide (OkM w h o ∧ 0 ≤ g ∧ g < gpsZ w h ∧ bitZ o g = 1)

theorem gps_bd {w h : Int} (h1 : 1 ≤ w) (h2 : w ≤ 4) (h3 : 1 ≤ h) (h4 : h ≤ 4) : 0 ≤ gpsZ w h ∧ gpsZ w h ≤ 24 := by
  unfold gpsZ
  obtain rfl | rfl | rfl | rfl : w = 1 ∨ w = 2 ∨ w = 3 ∨ w = 4 := by omega
  all_goals omega
theorem top_bd {w h : Int} (h1 : 1 ≤ w) (h2 : w ≤ 4) (h3 : 1 ≤ h) (h4 : h ≤ 4) : 0 ≤ topZ w h ∧ topZ w h ≤ 16777215 := by
  have := pow_bd (gpsZ w h) (gps_bd h1 h2 h3 h4).2
  unfold topZ; omega
theorem OkM.lt {w h o : Int} (h : OkM w h o) : 0 ≤ o ∧ o < 16777216 := by
  obtain ⟨⟨a, b, c, d⟩, e, f⟩ := h
  have := top_bd a b c d
  omega
/-- The cell behind a passage, -1 where there is none. -/
def stZ (w h o k d : Int) : Int := if psB w h o (gpZ w h k d) = true then nbZ w h k d else -1
/-- The directions below d in which a passage leads on. -/
def wlN (w h o k : Int) : Nat → List Int
  | 0 => []
  | d + 1 => if 0 ≤ stZ w h o k d then wlN w h o k d ++ [(d : Int)] else wlN w h o k d
/-- The directions in which a passage leads on. -/
def wlZ (w h o k : Int) : List Int := wlN w h o k 4
theorem wlN_len (w h o k : Int) : ∀ d, (wlN w h o k d).length ≤ d
  | 0 => Nat.le_refl _
  | d + 1 => by
    have := wlN_len w h o k d
    unfold wlN; split
    · simp; omega
    · omega
/-- The number of passages. -/
def cpZ (w h o : Int) : Int := if OkM w h o then ((pcN o.toNat 24 : Nat) : Int) else 0
/-- Whether a gap can be set. -/
def sgB (w h o g : Int) : Bool := decide (OkM w h o ∧ 0 ≤ g ∧ g < gpsZ w h)
/-- What becomes of the open gaps. -/
def sgZ (w h o g : Int) (b : Bool) : Int :=
  if sgB w h o g = true then
    if bitZ o g = 1 then (if b = true then o else o - 2 ^ g.toNat) else (if b = true then o + 2 ^ g.toNat else o)
  else o

theorem ps_none (w h o : Int) : psB w h o (-1) = false := by unfold psB; rw [decide_eq_false_iff_not]; omega
theorem nb_ge (w h k d : Int) : -1 ≤ nbZ w h k d := by
  by_cases hn : nbZ w h k d < 0
  · unfold nbZ at hn ⊢
    split
    · rename_i h1
      split
      · rename_i h2
        have : 0 ≤ k / w ∧ 0 ≤ k % w := ⟨Int.ediv_nonneg h2.1 (by omega), Int.emod_nonneg _ (by omega)⟩
        repeat' split
        all_goals omega
      · omega
    · omega
  · omega
theorem st_ge (w h o k d : Int) : -1 ≤ stZ w h o k d := by unfold stZ; have := nb_ge w h k d; split <;> omega
theorem st_le (w h o k d : Int) : stZ w h o k d < 16 := by
  unfold stZ
  split
  · by_cases hn : nbZ w h k d < 0
    · omega
    · obtain ⟨⟨a, b, c, e⟩, _, _, _, n1⟩ := nb_some hn
      have hm := (mul_bd w h a b c e).1
      omega
  · omega
end Go.Proofs.Ythakbjdkcdppjaa.mazeP

/- The numbers of grids, without the program: what the law of grids asks, and how many cells have a neighbor. -/
namespace Go.Proofs.Ythakbjdkcdppjaa.gridQ
open gridP

/-- How many of the first d directions have a neighbor. -/
def cntD (w h k : Int) : Nat → Int
  | 0 => 0
  | d + 1 => cntD w h k d + if nbZ w h k d < 0 then 0 else 1
/-- How many neighbors the first k cells have. -/
def cntK (w h : Int) : Nat → Int
  | 0 => 0
  | k + 1 => cntK w h k + cntD w h k 4
theorem cntD_bd (w h k : Int) (d : Nat) : 0 ≤ cntD w h k d ∧ cntD w h k d ≤ d := by
  induction d with
  | zero => exact ⟨Int.le_refl _, Int.le_refl _⟩
  | succ d ih => unfold cntD; split <;> omega
theorem cntK_bd (w h : Int) (k : Nat) : 0 ≤ cntK w h k ∧ cntK w h k ≤ 4 * k := by
  induction k with
  | zero => exact ⟨Int.le_refl _, Int.le_refl _⟩
  | succ k ih => unfold cntK; have := cntD_bd w h k 4; omega

theorem total_fin : ∀ w h : Fin 4, cntK ((w : Nat) + 1) ((h : Nat) + 1) (((w : Nat) + 1) * ((h : Nat) + 1)) = 2 * ((((w : Nat) + 1 : Int) - 1) * ((h : Nat) + 1) + ((w : Nat) + 1) * (((h : Nat) + 1 : Int) - 1)) := by decide +kernel
/-- Each gap is between two neighbors: all cells together have twice as many neighbors as there are gaps. -/
theorem total (w h : Int) (h1 : 1 ≤ w) (h2 : w ≤ 4) (h3 : 1 ≤ h) (h4 : h ≤ 4) : cntK w h (w * h).toNat = 2 * ((w - 1) * h + w * (h - 1)) := by
  obtain ⟨a, rfl⟩ : ∃ a : Fin 4, w = (a : Nat) + 1 := ⟨⟨(w - 1).toNat, by omega⟩, by simp; omega⟩
  obtain ⟨b, rfl⟩ : ∃ b : Fin 4, h = (b : Nat) + 1 := ⟨⟨(h - 1).toNat, by omega⟩, by simp; omega⟩
  have e : (((a : Nat) + 1 : Int) * ((b : Nat) + 1)).toNat = ((a : Nat) + 1) * ((b : Nat) + 1) := by
    rw [show (((a : Nat) + 1 : Int) * ((b : Nat) + 1)) = ((((a : Nat) + 1) * ((b : Nat) + 1) : Nat) : Int) by push_cast; rfl, Int.toNat_natCast]
  rw [e]
  exact total_fin a b

/-- What the law asks at a cell and a direction that have a neighbor. -/
def Both (w h k d : Int) : Prop := 0 ≤ gpZ w h k d ∧ nbZ w h (nbZ w h k d) ((d + 2) % 4) = k ∧ gpZ w h (nbZ w h k d) ((d + 2) % 4) = gpZ w h k d ∧ eaZ w h (gpZ w h k d) < ebZ w h (gpZ w h k d) ∧
  (eaZ w h (gpZ w h k d) = k ∨ ebZ w h (gpZ w h k d) = k) ∧ (eaZ w h (gpZ w h k d) = nbZ w h k d ∨ ebZ w h (gpZ w h k d) = nbZ w h k d)
instance (w h k d : Int) : Decidable (Both w h k d) := by unfold Both; infer_instance
theorem both_fin : ∀ w h : Fin 4, ∀ k : Fin 16, ∀ d : Fin 4, nbZ ((w : Nat) + 1) ((h : Nat) + 1) (k : Nat) (d : Nat) < 0 ∨ Both ((w : Nat) + 1) ((h : Nat) + 1) (k : Nat) (d : Nat) := by decide +kernel
theorem both (w h k d : Int) (hn : ¬ nbZ w h k d < 0) : Both w h k d := by
  obtain ⟨⟨a, b, c, e⟩, ⟨k0, k1⟩, hd, n0, n1⟩ := nb_some hn
  have hm := (mul_bd w h a b c e).1
  have := both_fin ⟨(w - 1).toNat, by omega⟩ ⟨(h - 1).toNat, by omega⟩ ⟨k.toNat, by omega⟩ ⟨d.toNat, by omega⟩
  rw [show (((w - 1).toNat : Nat) : Int) + 1 = w by omega, show (((h - 1).toNat : Nat) : Int) + 1 = h by omega, Int.toNat_of_nonneg k0, Int.toNat_of_nonneg hd.1] at this
  exact this.resolve_left hn
theorem trz_two (d : Int) (h0 : 0 ≤ d) (h1 : d < 4) : trZ (trZ d) = (d + 2) % 4 := by
  obtain rfl | rfl | rfl | rfl : d = 0 ∨ d = 1 ∨ d = 2 ∨ d = 3 := by omega
  all_goals decide
end Go.Proofs.Ythakbjdkcdppjaa.gridQ

/- The numbers of mazes, without the program: all cells together have twice as many ways as there are passages, and what the law of mazes asks of one gap. -/
namespace Go.Proofs.Ythakbjdkcdppjaa.mazeQ
open gridP gridQ bitP mazeP

/-- The gaps at a cell, in the order of the directions below d. -/
def gl (w h k : Int) : Nat → List Nat
  | 0 => []
  | d + 1 => gl w h k d ++ (if nbZ w h k d < 0 then [] else [(gpZ w h k d).toNat])
/-- The gaps at the first k cells. -/
def gll (w h : Int) : Nat → List Nat
  | 0 => []
  | k + 1 => gll w h k ++ gl w h k 4
def bt (n g : Nat) : Nat := n / 2 ^ g % 2
theorem sum_perm (f : Nat → Nat) {a b : List Nat} (h : a.Perm b) : (a.map f).sum = (b.map f).sum := by
  induction h with
  | nil => rfl
  | cons x _ ih => simp [ih]
  | swap x y l => simp; omega
  | trans _ _ ih1 ih2 => exact ih1.trans ih2
theorem pc_sum (n : Nat) : ∀ k, pcN n k = ((List.range k).map (bt n)).sum
  | 0 => rfl
  | k + 1 => by rw [List.range_succ, List.map_append, List.sum_append, ← pc_sum n k]; simp [pcN, bt]
theorem twice_fin : ∀ w h : Fin 4, (gll ((w : Nat) + 1) ((h : Nat) + 1) (((w : Nat) + 1) * ((h : Nat) + 1))).isPerm (List.range (gpsZ ((w : Nat) + 1) ((h : Nat) + 1)).toNat ++ List.range (gpsZ ((w : Nat) + 1) ((h : Nat) + 1)).toNat) = true := by decide +kernel
theorem twice (w h : Int) (h1 : 1 ≤ w) (h2 : w ≤ 4) (h3 : 1 ≤ h) (h4 : h ≤ 4) : (gll w h (w * h).toNat).Perm (List.range (gpsZ w h).toNat ++ List.range (gpsZ w h).toNat) := by
  obtain ⟨a, rfl⟩ : ∃ a : Fin 4, w = (a : Nat) + 1 := ⟨⟨(w - 1).toNat, by omega⟩, by simp; omega⟩
  obtain ⟨b, rfl⟩ : ∃ b : Fin 4, h = (b : Nat) + 1 := ⟨⟨(h - 1).toNat, by omega⟩, by simp; omega⟩
  have e : (((a : Nat) + 1 : Int) * ((b : Nat) + 1)).toNat = ((a : Nat) + 1) * ((b : Nat) + 1) := by
    rw [show (((a : Nat) + 1 : Int) * ((b : Nat) + 1)) = ((((a : Nat) + 1) * ((b : Nat) + 1) : Nat) : Int) by push_cast; rfl, Int.toNat_natCast]
  rw [e]
  exact List.isPerm_iff.1 (twice_fin a b)

theorem gp_fin : ∀ w h : Fin 4, ∀ k : Fin 16, ∀ d : Fin 4, nbZ ((w : Nat) + 1) ((h : Nat) + 1) (k : Nat) (d : Nat) < 0 ∨ gpZ ((w : Nat) + 1) ((h : Nat) + 1) (k : Nat) (d : Nat) < gpsZ ((w : Nat) + 1) ((h : Nat) + 1) := by decide +kernel
theorem gp_lt (w h k d : Int) (hn : ¬ nbZ w h k d < 0) : gpZ w h k d < gpsZ w h := by
  obtain ⟨⟨a, b, c, e⟩, ⟨k0, k1⟩, hd, n0, n1⟩ := nb_some hn
  have hm := (mul_bd w h a b c e).1
  have := gp_fin ⟨(w - 1).toNat, by omega⟩ ⟨(h - 1).toNat, by omega⟩ ⟨k.toNat, by omega⟩ ⟨d.toNat, by omega⟩
  rw [show (((w - 1).toNat : Nat) : Int) + 1 = w by omega, show (((h - 1).toNat : Nat) : Int) + 1 = h by omega, Int.toNat_of_nonneg k0, Int.toNat_of_nonneg hd.1] at this
  exact this.resolve_left hn
theorem bitZ_bt {o g : Int} (o0 : 0 ≤ o) (g0 : 0 ≤ g) : bitZ o g = ((bt o.toNat g.toNat : Nat) : Int) := by
  obtain ⟨n, k, rfl, rfl, _, hz⟩ := nat_form o0 g0
  rw [hz]; simp [bt]
theorem bt_le (n g : Nat) : bt n g ≤ 1 := by unfold bt; omega
/-- A step is there just if the gap between is open. -/
theorem st_pos {w h o k d : Int} (hv : OkM w h o) (hn : ¬ nbZ w h k d < 0) : (0 ≤ stZ w h o k d) ↔ bt o.toNat (gpZ w h k d).toNat = 1 := by
  have hb := both w h k d hn
  have hg0 := hb.1
  have hg1 := gp_lt w h k d hn
  have hz := bitZ_bt (o := o) (g := gpZ w h k d) hv.2.1 hg0
  have hn0 : 0 ≤ nbZ w h k d := by omega
  unfold stZ
  by_cases h1 : bt o.toNat (gpZ w h k d).toNat = 1
  · have hp : psB w h o (gpZ w h k d) = true := decide_eq_true ⟨hv, hg0, hg1, by omega⟩
    rw [if_pos hp]; omega
  · have hp : psB w h o (gpZ w h k d) = false := decide_eq_false fun e => h1 (by have := e.2.2.2; omega)
    rw [hp, if_neg (by decide)]; omega
theorem st_neg {w h o k d : Int} (hn : nbZ w h k d < 0) : ¬ 0 ≤ stZ w h o k d := by
  unfold stZ
  rw [show gpZ w h k d = -1 from by unfold gpZ; rw [if_pos hn], ps_none]
  simp
theorem wl_sum {w h o k : Int} (hv : OkM w h o) : ∀ d, (wlN w h o k d).length = ((gl w h k d).map (bt o.toNat)).sum
  | 0 => rfl
  | d + 1 => by
    have ih := wl_sum (k := k) hv d
    unfold wlN gl
    rw [List.map_append, List.sum_append, ← ih]
    by_cases hn : nbZ w h k d < 0
    · rw [if_neg (st_neg hn), if_pos hn]; simp
    · rw [if_neg hn]
      have hs := st_pos (d := (d : Int)) hv hn
      have hle := bt_le o.toNat (gpZ w h k d).toNat
      by_cases h0 : 0 ≤ stZ w h o k d
      · rw [if_pos h0]; have := hs.1 h0; simp [this]
      · rw [if_neg h0]
        have : bt o.toNat (gpZ w h k d).toNat = 0 := by
          have : ¬ bt o.toNat (gpZ w h k d).toNat = 1 := fun e => h0 (hs.2 e)
          omega
        simp [this]
/-- How many ways the first k cells have. -/
def cntM (w h o : Int) : Nat → Nat
  | 0 => 0
  | k + 1 => cntM w h o k + (wlZ w h o k).length
theorem cntM_sum {w h o : Int} (hv : OkM w h o) : ∀ k, cntM w h o k = ((gll w h k).map (bt o.toNat)).sum
  | 0 => rfl
  | k + 1 => by
    unfold cntM gll
    rw [List.map_append, List.sum_append, ← cntM_sum hv k]
    unfold wlZ
    rw [wl_sum hv 4]
theorem cntM_le (w h o : Int) : ∀ k, cntM w h o k ≤ 4 * k
  | 0 => Nat.le_refl _
  | k + 1 => by
    have := cntM_le w h o k
    have := wlN_len w h o k 4
    unfold cntM wlZ; omega
theorem pc_all {w h o : Int} (hv : OkM w h o) : pcN o.toNat (gpsZ w h).toNat = pcN o.toNat 24 := by
  obtain ⟨⟨h1, h2, h3, h4⟩, h0, ht⟩ := hv
  obtain ⟨g0, g1⟩ := gps_bd h1 h2 h3 h4
  refine (pcN_top (n := o.toNat) (t := (gpsZ w h).toNat) ?_ 24 (by omega)).symm
  unfold topZ at ht
  have : ((2 ^ (gpsZ w h).toNat : Nat) : Int) = 2 ^ (gpsZ w h).toNat := by simp
  omega
/-- All cells together have twice as many ways as there are passages. -/
theorem ways_twice {w h o : Int} (hv : OkM w h o) : ((cntM w h o (w * h).toNat : Nat) : Int) = 2 * cpZ w h o := by
  rw [cntM_sum hv, sum_perm _ (twice w h hv.1.1 hv.1.2.1 hv.1.2.2.1 hv.1.2.2.2), List.map_append, List.sum_append, ← pc_sum, pc_all hv]
  unfold cpZ
  rw [if_pos hv]; omega
/-- Back again. -/
theorem step_back {w h o k d : Int} (hs : 0 ≤ stZ w h o k d) : stZ w h o (stZ w h o k d) ((d + 2) % 4) = k := by
  by_cases hn : nbZ w h k d < 0
  · exact absurd hs (st_neg hn)
  · obtain ⟨g0, f1, f2, -, -, -⟩ := both w h k d hn
    have hp : psB w h o (gpZ w h k d) = true := by
      unfold stZ at hs
      split at hs
      · assumption
      · omega
    have e : stZ w h o k d = nbZ w h k d := by unfold stZ; rw [if_pos hp]
    rw [e]
    unfold stZ
    rw [f2, if_pos hp, f1]
theorem bit_sub {o p : Int} (hp : 0 < p) (h : o / p % 2 = 1) : (o - p) / p % 2 = 0 := by
  have e : o - p = o + (-1) * p := by omega
  rw [e, Int.add_mul_ediv_right _ _ (by omega)]
  generalize o / p = q at *
  omega
theorem bit_add {o p : Int} (hp : 0 < p) (h : o / p % 2 = 0) : (o + p) / p % 2 = 1 := by
  have e : o + p = o + 1 * p := by omega
  rw [e, Int.add_mul_ediv_right _ _ (by omega)]
  generalize o / p = q at *
  omega
/-- A gap that is set the other way and back again. -/
theorem flip {w h o t : Int} (hv : OkM w h o) (t0 : 0 ≤ t) (t1 : t < gpsZ w h) :
    OkM w h (sgZ w h o t (!psB w h o t)) ∧ psB w h (sgZ w h o t (!psB w h o t)) t = (!psB w h o t) ∧ sgZ w h (sgZ w h o t (!psB w h o t)) t (psB w h o t) = o ∧ sgZ w h o t (!psB w h o t) ≠ o ∧ sgB w h o t = true ∧ sgB w h (sgZ w h o t (!psB w h o t)) t = true := by
  obtain ⟨⟨h1, h2, h3, h4⟩, o0, ht⟩ := id hv
  obtain ⟨g0, g1⟩ := gps_bd h1 h2 h3 h4
  have hpw := pow_bd t (by omega)
  have hs : sgB w h o t = true := decide_eq_true ⟨hv, t0, t1⟩
  have hpb := put_bd o0 t0 t1 g1 (by unfold topZ at ht; exact ht)
  have hbd := bit_bd o t
  by_cases hb : bitZ o t = 1
  · have hp : psB w h o t = true := decide_eq_true ⟨hv, t0, t1, hb⟩
    have hx : sgZ w h o t false = o - 2 ^ t.toNat := by unfold sgZ; rw [if_pos hs, if_pos hb, if_neg (by decide)]
    rw [hp]
    show OkM w h (sgZ w h o t false) ∧ psB w h (sgZ w h o t false) t = false ∧ sgZ w h (sgZ w h o t false) t true = o ∧ sgZ w h o t false ≠ o ∧ sgB w h o t = true ∧ sgB w h (sgZ w h o t false) t = true
    rw [hx]
    have hv' : OkM w h (o - 2 ^ t.toNat) := ⟨⟨h1, h2, h3, h4⟩, hpb.1 hb, by omega⟩
    have hb' : bitZ (o - 2 ^ t.toNat) t = 0 := bit_sub (by omega) hb
    have hs' : sgB w h (o - 2 ^ t.toNat) t = true := decide_eq_true ⟨hv', t0, t1⟩
    refine ⟨hv', decide_eq_false fun e => by have := e.2.2.2; omega, ?_, by omega, hs, hs'⟩
    unfold sgZ; rw [if_pos hs', if_neg (by omega), if_pos rfl]; omega
  · have hb0 : bitZ o t = 0 := by omega
    have hp : psB w h o t = false := decide_eq_false fun e => hb e.2.2.2
    have hx : sgZ w h o t true = o + 2 ^ t.toNat := by unfold sgZ; rw [if_pos hs, if_neg hb, if_pos rfl]
    rw [hp]
    show OkM w h (sgZ w h o t true) ∧ psB w h (sgZ w h o t true) t = true ∧ sgZ w h (sgZ w h o t true) t false = o ∧ sgZ w h o t true ≠ o ∧ sgB w h o t = true ∧ sgB w h (sgZ w h o t true) t = true
    rw [hx]
    have hv' : OkM w h (o + 2 ^ t.toNat) := ⟨⟨h1, h2, h3, h4⟩, by omega, by have := hpb.2 hb; unfold topZ; omega⟩
    have hb' : bitZ (o + 2 ^ t.toNat) t = 1 := bit_add (by omega) hb0
    have hs' : sgB w h (o + 2 ^ t.toNat) t = true := decide_eq_true ⟨hv', t0, t1⟩
    refine ⟨hv', decide_eq_true ⟨hv', t0, t1, hb'⟩, ?_, by omega, hs, hs'⟩
    unfold sgZ; rw [if_pos hs', if_pos hb', if_neg (by decide)]; omega
theorem full_fin : ∀ G : Fin 25, pcN (2 ^ (G : Nat) - 1) 24 = (G : Nat) := by decide +kernel
/-- The full maze has as many passages as its grid has gaps. -/
theorem full_count {w h : Int} (h1 : 1 ≤ w) (h2 : w ≤ 4) (h3 : 1 ≤ h) (h4 : h ≤ 4) : cpZ w h (topZ w h) = gpsZ w h := by
  obtain ⟨g0, g1⟩ := gps_bd h1 h2 h3 h4
  have ht := top_bd h1 h2 h3 h4
  have hf := full_fin ⟨(gpsZ w h).toNat, by omega⟩
  unfold cpZ
  rw [if_pos ⟨⟨h1, h2, h3, h4⟩, ht.1, Int.le_refl _⟩]
  have e : (topZ w h).toNat = 2 ^ (gpsZ w h).toNat - 1 := by
    unfold topZ
    have : (2 : Int) ^ (gpsZ w h).toNat = ((2 ^ (gpsZ w h).toNat : Nat) : Int) := by simp
    omega
  rw [e, hf]
  simp; omega

/-- Each element of the ways is a direction in which a step is there. -/
theorem wl_mem {w h o k : Int} : ∀ n, ∀ d ∈ wlN w h o k n, (0 ≤ d ∧ d < n) ∧ 0 ≤ stZ w h o k d
  | 0 => by intro d hd; cases hd
  | n + 1 => by
    intro d hd
    unfold wlN at hd
    split at hd
    · rename_i hs
      rcases List.mem_append.1 hd with h1 | h1
      · have := wl_mem n d h1; omega
      · have e : d = (n : Int) := by simpa using h1
        subst e
        exact ⟨by omega, hs⟩
    · have := wl_mem n d hd; omega
end Go.Proofs.Ythakbjdkcdppjaa.mazeQ

/- Distances in a graph of at most four ways from each cell, without the program: what a search cell by cell finds. -/
namespace Go.Proofs.Ythakbjdkcdppjaa.reachP

/-- A walk of n steps from cell a: 'st u q' is the cell behind direction q of cell u, negative where there is none. -/
inductive Wk (st : Nat → Nat → Int) (a : Nat) : Nat → Nat → Prop
  | zero : Wk st a 0 a
  | step {n u q v : Nat} (h : Wk st a n u) (hq : q < 4) (hs : st u q = ((v : Nat) : Int)) : Wk st a (n + 1) v

/-- The least number below n of which p holds, -1 where there is none. -/
def leastZ (p : Nat → Bool) : Nat → Int
  | 0 => -1
  | n + 1 => if 0 ≤ leastZ p n then leastZ p n else if p n = true then (n : Int) else -1
theorem least_none {p : Nat → Bool} : ∀ {N : Nat}, (∀ m, m < N → p m = false) → leastZ p N = -1
  | 0, _ => rfl
  | N + 1, h => by
    have ih := least_none (p := p) (N := N) fun m hm => h m (by omega)
    unfold leastZ
    rw [ih, if_neg (by decide), h N (by omega)]
    rfl
theorem least_some {p : Nat → Bool} {n : Nat} (hp : p n = true) (hl : ∀ m, m < n → p m = false) : ∀ {N : Nat}, n < N → leastZ p N = (n : Int)
  | 0, h => absurd h (by omega)
  | N + 1, h => by
    rcases Nat.lt_or_ge n N with h' | h'
    · have ih := least_some hp hl h'
      unfold leastZ
      rw [ih, if_pos (by omega)]
    · obtain rfl : n = N := by omega
      unfold leastZ
      rw [least_none hl, if_neg (by decide), if_pos hp]

/-- Whether there is a walk of n steps, among cells below N. -/
def wkB (st : Nat → Nat → Int) (N a : Nat) : Nat → Nat → Bool
  | 0, v => v == a
  | n + 1, v => (List.range N).any fun u => wkB st N a n u && (List.range 4).any fun q => st u q == (v : Int)
/-- The distance from cell a to cell v, -1 where there is no way. -/
def dZ (st : Nat → Nat → Int) (N a v : Nat) : Int := leastZ (fun n => wkB st N a n v) N

section
variable {st : Nat → Nat → Int} {N a : Nat}
theorem wk_lt (ha : a < N) (hst : ∀ u q v : Nat, st u q = (v : Int) → v < N) {n v : Nat} (h : Wk st a n v) : v < N := by
  cases h with
  | zero => exact ha
  | step _ _ hs => exact hst _ _ _ hs
theorem wkB_iff (ha : a < N) (hst : ∀ u q v : Nat, st u q = (v : Int) → v < N) : ∀ n v, wkB st N a n v = true ↔ Wk st a n v
  | 0, v => by
    unfold wkB
    constructor
    · intro h
      have : v = a := by simpa using h
      subst this; exact .zero
    · intro h
      cases h; simp
  | n + 1, v => by
    unfold wkB
    rw [List.any_eq_true]
    constructor
    · rintro ⟨u, hu, h⟩
      rw [Bool.and_eq_true, List.any_eq_true] at h
      obtain ⟨h1, q, hq, h2⟩ := h
      exact .step ((wkB_iff ha hst n u).1 h1) (List.mem_range.1 hq) (by simpa using h2)
    · intro h
      cases h with
      | @step _ u q _ h hq hs =>
        refine ⟨u, List.mem_range.2 (wk_lt ha hst h), ?_⟩
        rw [Bool.and_eq_true, List.any_eq_true]
        exact ⟨(wkB_iff ha hst n u).2 h, q, List.mem_range.2 hq, by simpa using hs⟩
end

/-- What a search knows when it stands at place k of its list of cells and has looked in q directions. -/
structure Inv (st : Nat → Nat → Int) (N a : Nat) (D : List Int) (L : List Nat) (k q : Nat) : Prop where
  len : D.length = N
  ins : ∀ v ∈ L, v < N
  nod : L.Nodup
  head : L[0]? = some a
  low : ∀ v : Nat, D.getD v (-1) = -1 ∨ v ∈ L
  wk : ∀ j v : Nat, L[j]? = some v → ∃ n : Nat, D.getD v (-1) = (n : Int) ∧ n ≤ j ∧ Wk st a n v
  zero : D.getD a (-1) = 0
  mono : ∀ i j u v : Nat, i ≤ j → L[i]? = some u → L[j]? = some v → D.getD u (-1) ≤ D.getD v (-1)
  near : ∀ j u v : Nat, L[j]? = some v → L[k]? = some u → D.getD v (-1) ≤ D.getD u (-1) + 1
  done : ∀ i u q' v : Nat, i < k → L[i]? = some u → q' < 4 → st u q' = (v : Int) → v ∈ L ∧ D.getD v (-1) ≤ D.getD u (-1) + 1
  now : ∀ u q' v : Nat, L[k]? = some u → q' < q → st u q' = (v : Int) → v ∈ L ∧ D.getD v (-1) ≤ D.getD u (-1) + 1

section
variable {st : Nat → Nat → Int} {N a : Nat} {D : List Int} {L : List Nat} {k q : Nat}

theorem getD_set (D : List Int) (i j : Nat) (x : Int) (hi : i < D.length) : (D.set i x).getD j (-1) = if i = j then x else D.getD j (-1) := by
  simp only [List.getD_eq_getElem?_getD, List.getElem?_set]
  by_cases h : i = j
  · subst h; simp [hi]
  · simp [h]
theorem nodup_le : ∀ (N : Nat) (L : List Nat), L.Nodup → (∀ v ∈ L, v < N) → L.length ≤ N
  | 0, L, _, h => by
    cases L with
    | nil => simp
    | cons x l => exact absurd (h x (by simp)) (by omega)
  | N + 1, L, hn, h => by
    by_cases hm : N ∈ L
    · have h1 := nodup_le N (L.erase N) (hn.erase N) fun v hv => by
        have h2 := h v (List.mem_of_mem_erase hv)
        have h3 : v ≠ N := fun e => by subst e; exact (hn.not_mem_erase) hv
        omega
      rw [List.length_erase_of_mem hm] at h1
      omega
    · have h1 := nodup_le N L hn fun v hv => by
        have h2 := h v hv
        have h3 : v ≠ N := fun e => by subst e; exact hm hv
        omega
      omega
theorem Inv.le (h : Inv st N a D L k q) : L.length ≤ N := nodup_le N L h.nod h.ins
theorem Inv.pos (h : Inv st N a D L k q) {v : Nat} (hv : v ∈ L) : 0 ≤ D.getD v (-1) := by
  obtain ⟨j, hj⟩ := List.getElem?_of_mem hv
  obtain ⟨n, hn, _⟩ := h.wk j v hj
  omega
theorem Inv.mem (h : Inv st N a D L k q) {v : Nat} (hv : 0 ≤ D.getD v (-1)) : v ∈ L := by
  rcases h.low v with h1 | h1
  · omega
  · exact h1

theorem inv_start (ha : a < N) : Inv st N a ((List.replicate N (-1)).set a 0) [a] 0 0 := by
  have hg : ∀ v : Nat, ((List.replicate N (-1 : Int)).set a 0).getD v (-1) = if a = v then 0 else -1 := fun v => by
    rw [getD_set _ _ _ _ (by simpa using ha)]
    split
    · rfl
    · simp [List.getD_eq_getElem?_getD, List.getElem?_replicate]; split <;> rfl
  have h1 : ∀ j v : Nat, ([a] : List Nat)[j]? = some v → j = 0 ∧ v = a := fun j v hv => by
    cases j with
    | zero => exact ⟨rfl, by simpa using hv.symm⟩
    | succ j => simp at hv
  refine ⟨by simp, fun v hv => by simp at hv; omega, by simp, rfl, fun v => ?_, fun j v hv => ?_, by rw [hg]; simp, fun i j u v _ hu hv => ?_, fun j u v hv hu => ?_, fun i u q' v hi => by omega, fun u q' v _ hq => by omega⟩
  · rw [hg]; split
    · rename_i e; subst e; exact .inr (by simp)
    · exact .inl rfl
  · obtain ⟨rfl, rfl⟩ := h1 j v hv
    exact ⟨0, by rw [hg]; simp, Nat.le_refl _, .zero⟩
  · obtain ⟨_, rfl⟩ := h1 i u hu
    obtain ⟨_, rfl⟩ := h1 j v hv
    exact Int.le_refl _
  · obtain ⟨_, rfl⟩ := h1 j v hv
    obtain ⟨_, rfl⟩ := h1 0 u hu
    omega

theorem inv_none (h : Inv st N a D L k q) {u : Nat} (hu : L[k]? = some u) (hs : st u q < 0) : Inv st N a D L k (q + 1) :=
  ⟨h.len, h.ins, h.nod, h.head, h.low, h.wk, h.zero, h.mono, h.near, h.done, fun u' q' v hu' hq' hs' => by
    rcases Nat.lt_or_ge q' q with h1 | h1
    · exact h.now u' q' v hu' h1 hs'
    · obtain rfl : q' = q := by omega
      rw [hu] at hu'; cases hu'
      omega⟩
theorem inv_seen (h : Inv st N a D L k q) {u v : Nat} (hu : L[k]? = some u) (hs : st u q = (v : Int)) (hv : 0 ≤ D.getD v (-1)) : Inv st N a D L k (q + 1) :=
  ⟨h.len, h.ins, h.nod, h.head, h.low, h.wk, h.zero, h.mono, h.near, h.done, fun u' q' v' hu' hq' hs' => by
    rcases Nat.lt_or_ge q' q with h1 | h1
    · exact h.now u' q' v' hu' h1 hs'
    · obtain rfl : q' = q := by omega
      rw [hu] at hu'; cases hu'
      obtain rfl : v' = v := by omega
      have hm := h.mem hv
      obtain ⟨j, hj⟩ := List.getElem?_of_mem hm
      exact ⟨hm, h.near j u v' hj hu⟩⟩
theorem inv_new (h : Inv st N a D L k q) (hq : q < 4) {u v : Nat} (hu : L[k]? = some u) (hs : st u q = (v : Int)) (hvN : v < N) (hv : D.getD v (-1) < 0) :
    Inv st N a (D.set v (D.getD u (-1) + 1)) (L ++ [v]) k (q + 1) := by
  have hvL : v ∉ L := fun hm => by have := h.pos hm; omega
  have hkl : k < L.length := (List.getElem?_eq_some_iff.1 hu).1
  have huL : u ∈ L := List.mem_of_getElem? hu
  have hg : ∀ x : Nat, (D.set v (D.getD u (-1) + 1)).getD x (-1) = if v = x then D.getD u (-1) + 1 else D.getD x (-1) := fun x => getD_set _ _ _ _ (by rw [h.len]; exact hvN)
  have hold : ∀ x : Nat, x ∈ L → (D.set v (D.getD u (-1) + 1)).getD x (-1) = D.getD x (-1) := fun x hx => by
    rw [hg, if_neg (fun e => hvL (by rw [e]; exact hx))]
  have hnew : (D.set v (D.getD u (-1) + 1)).getD v (-1) = D.getD u (-1) + 1 := by rw [hg, if_pos rfl]
  have hat : ∀ j x : Nat, (L ++ [v])[j]? = some x → (L[j]? = some x ∧ x ∈ L ∧ j < L.length) ∨ (j = L.length ∧ x = v) := fun j x hx => by
    rw [List.getElem?_append] at hx
    split at hx
    · rename_i hj; exact .inl ⟨hx, List.mem_of_getElem? hx, hj⟩
    · rename_i hj
      have : j - L.length = 0 := by
        rcases Nat.eq_zero_or_pos (j - L.length) with e | e
        · exact e
        · rw [List.getElem?_eq_none (by simp; omega)] at hx; cases hx
      rw [this] at hx
      exact .inr ⟨by omega, by simpa using hx.symm⟩
  have hleft : ∀ j x : Nat, L[j]? = some x → (L ++ [v])[j]? = some x := fun j x hx => by
    rw [List.getElem?_append_left (List.getElem?_eq_some_iff.1 hx).1]; exact hx
  have hk2 : (L ++ [v])[k]? = some u := hleft k u hu
  refine ⟨by simp [h.len], fun x hx => ?_, ?_, hleft 0 a h.head, fun x => ?_, fun j x hx => ?_, ?_, fun i j x y hij hx hy => ?_, fun j x y hy hx => ?_, fun i x q' y hi hx hq' hs' => ?_, fun x q' y hx hq' hs' => ?_⟩
  · rcases List.mem_append.1 hx with h1 | h1
    · exact h.ins x h1
    · have : x = v := by simpa using h1
      omega
  · rw [List.nodup_append]
    refine ⟨h.nod, by simp, fun x hx y hy e => ?_⟩
    have : y = v := by simpa using hy
    subst this; subst e; exact hvL hx
  · rw [hg]
    by_cases e : v = x
    · subst e; exact .inr (by simp)
    · rw [if_neg e]
      rcases h.low x with h1 | h1
      · exact .inl h1
      · exact .inr (by simp [h1])
  · rcases hat j x hx with ⟨h1, h2, h3⟩ | ⟨rfl, rfl⟩
    · obtain ⟨n, a1, a2, a3⟩ := h.wk j x h1
      exact ⟨n, by rw [hold x h2]; exact a1, a2, a3⟩
    · obtain ⟨n, a1, a2, a3⟩ := h.wk k u hu
      exact ⟨n + 1, by rw [hnew, a1]; omega, by omega, .step a3 hq hs⟩
  · rw [hold a (List.mem_of_getElem? h.head)]; exact h.zero
  · rcases hat j y hy with ⟨h1, h2, h3⟩ | ⟨rfl, rfl⟩
    · rcases hat i x hx with ⟨g1, g2, g3⟩ | ⟨rfl, rfl⟩
      · rw [hold x g2, hold y h2]; exact h.mono i j x y hij g1 h1
      · omega
    · rcases hat i x hx with ⟨g1, g2, g3⟩ | ⟨_, rfl⟩
      · rw [hold x g2, hnew]; exact h.near i u x g1 hu
      · exact Int.le_refl _
  · rw [hk2] at hx; cases hx
    rw [hold u huL]
    rcases hat j y hy with ⟨h1, h2, h3⟩ | ⟨_, rfl⟩
    · rw [hold y h2]; exact h.near j u y h1 hu
    · rw [hnew]; exact Int.le_refl _
  · rcases hat i x hx with ⟨g1, g2, g3⟩ | ⟨h1, _⟩
    · obtain ⟨b1, b2⟩ := h.done i x q' y hi g1 hq' hs'
      exact ⟨by simp [b1], by rw [hold x g2, hold y b1]; exact b2⟩
    · omega
  · rw [hk2] at hx; cases hx
    rw [hold u huL]
    rcases Nat.lt_or_ge q' q with h1 | h1
    · obtain ⟨b1, b2⟩ := h.now u q' y hu h1 hs'
      exact ⟨by simp [b1], by rw [hold y b1]; exact b2⟩
    · obtain rfl : q' = q := by omega
      obtain rfl : y = v := by omega
      exact ⟨by simp, by rw [hnew]; exact Int.le_refl _⟩
theorem inv_next (h : Inv st N a D L k 4) {u : Nat} (hu : L[k]? = some u) : Inv st N a D L (k + 1) 0 :=
  ⟨h.len, h.ins, h.nod, h.head, h.low, h.wk, h.zero, h.mono, fun j x y hy hx => by
      have h1 := h.near j u y hy hu
      have h2 := h.mono k (k + 1) u x (by omega) hu hx
      omega,
    fun i x q' y hi hx hq' hs' => by
      rcases Nat.lt_or_ge i k with h1 | h1
      · exact h.done i x q' y h1 hx hq' hs'
      · obtain rfl : i = k := by omega
        exact h.now x q' y hx hq' hs',
    fun _ _ _ _ hq' => by omega⟩
/-- The search is over: what it knows are the distances. -/
theorem inv_end (h : Inv st N a D L k q) (hk : L.length ≤ k) (ha : a < N) (hst : ∀ u q v : Nat, st u q = (v : Int) → v < N) (v : Nat) : D.getD v (-1) = dZ st N a v := by
  have hall : ∀ n x, Wk st a n x → x ∈ L ∧ D.getD x (-1) ≤ (n : Int) := fun n x hx => by
    induction hx with
    | zero => exact ⟨List.mem_of_getElem? h.head, by rw [h.zero]; simp⟩
    | @step n u q' v _ hq' hs' ih =>
      obtain ⟨h1, h2⟩ := ih
      obtain ⟨i, hi⟩ := List.getElem?_of_mem h1
      have hil : i < L.length := (List.getElem?_eq_some_iff.1 hi).1
      obtain ⟨b1, b2⟩ := h.done i u q' v (by omega) hi hq' hs'
      exact ⟨b1, by omega⟩
  unfold dZ
  by_cases hv : v ∈ L
  · obtain ⟨j, hj⟩ := List.getElem?_of_mem hv
    have hjl : j < L.length := (List.getElem?_eq_some_iff.1 hj).1
    obtain ⟨n, h1, h2, h3⟩ := h.wk j v hj
    have hle := h.le
    rw [h1]
    refine (least_some (p := fun n => wkB st N a n v) (n := n) ((wkB_iff ha hst n v).2 h3) (fun m hm => ?_) (by omega)).symm
    have : ¬ wkB st N a m v = true := fun e => by
      have := (hall m v ((wkB_iff ha hst m v).1 e)).2
      omega
    simpa using this
  · have h1 : D.getD v (-1) = -1 := (h.low v).resolve_right hv
    rw [h1]
    refine (least_none fun m _ => ?_).symm
    have : ¬ wkB st N a m v = true := fun e => hv (hall m v ((wkB_iff ha hst m v).1 e)).1
    simpa using this
end
end Go.Proofs.Ythakbjdkcdppjaa.reachP

/- Distances in mazes, without the program: they are the same both ways, have the parity of the grid, and part the cells. -/
namespace Go.Proofs.Ythakbjdkcdppjaa.reachM
open gridP gridQ bitP mazeP mazeQ reachP

/-- The cell behind a passage. -/
def stN (x y z : Int) (u q : Nat) : Int := stZ x y z u q
/-- How many cells a grid has. -/
def cN (x y : Int) : Nat := (x * y).toNat
theorem stN_lt {x y z : Int} (u q v : Nat) (h : stN x y z u q = (v : Int)) : v < cN x y := by
  unfold stN stZ at h
  split at h
  · have hn : ¬ nbZ x y u q < 0 := by omega
    obtain ⟨_, _, _, _, h1⟩ := nb_some hn
    unfold cN; omega
  · omega
theorem stN_back {x y z : Int} {u q v : Nat} (_hq : q < 4) (h : stN x y z u q = (v : Int)) : ∃ q', q' < 4 ∧ stN x y z v q' = (u : Int) := by
  refine ⟨(q + 2) % 4, Nat.mod_lt _ (by decide), ?_⟩
  have := step_back (w := x) (h := y) (o := z) (k := u) (d := q) (by unfold stN at h; omega)
  unfold stN at h ⊢
  rw [h] at this
  rw [show (((q + 2) % 4 : Nat) : Int) = ((q : Int) + 2) % 4 from by omega]
  exact this

section
variable {st : Nat → Nat → Int} {N a : Nat}
theorem wk_head {b q n v : Nat} (hq : q < 4) (hs : st a q = (b : Int)) (h : Wk st b n v) : Wk st a (n + 1) v := by
  induction h with
  | zero => exact .step .zero hq hs
  | step _ hq' hs' ih => exact .step ih hq' hs'
theorem wk_rev (hb : ∀ u q v : Nat, q < 4 → st u q = (v : Int) → ∃ q', q' < 4 ∧ st v q' = (u : Int)) {n v : Nat} (h : Wk st a n v) : Wk st v n a := by
  induction h with
  | zero => exact .zero
  | step _ hq hs ih =>
    obtain ⟨q', hq', hs'⟩ := hb _ _ _ hq hs
    exact wk_head hq' hs' ih
theorem wk_trans {b n m v : Nat} (h1 : Wk st a n b) (h2 : Wk st b m v) : Wk st a (n + m) v := by
  induction h2 with
  | zero => exact h1
  | step _ hq hs ih => exact .step ih hq hs

/-- A search comes to an end. -/
theorem inv_runs (hst : ∀ u q v : Nat, st u q = (v : Int) → v < N) : ∀ (fuel : Nat) (D : List Int) (L : List Nat) (k q : Nat), Inv st N a D L k q → k ≤ L.length → q ≤ 4 → 5 * (N + 1 - k) ≤ fuel + q → ∃ D' L' k', Inv st N a D' L' k' 0 ∧ L'.length ≤ k'
  | 0, D, L, k, q, h, hk, hq, hf => by have := h.le; omega
  | fuel + 1, D, L, k, q, h, hk, hq, hf => by
    rcases Nat.lt_or_ge k L.length with hlt | hge
    · have hu : L[k]? = some L[k] := List.getElem?_eq_getElem hlt
      by_cases h4 : q = 4
      · subst h4
        exact inv_runs hst fuel D L (k + 1) 0 (inv_next h hu) (by omega) (by omega) (by omega)
      · by_cases hneg : st L[k] q < 0
        · exact inv_runs hst fuel D L k (q + 1) (inv_none h hu hneg) hk (by omega) (by omega)
        · obtain ⟨v, hv⟩ := Int.eq_ofNat_of_zero_le (show 0 ≤ st L[k] q by omega)
          by_cases hs : 0 ≤ D.getD v (-1)
          · exact inv_runs hst fuel D L k (q + 1) (inv_seen h hu hv hs) hk (by omega) (by omega)
          · exact inv_runs hst fuel _ _ k (q + 1) (inv_new h (by omega) hu hv (hst _ _ _ hv) (by omega)) (by simp; omega) (by omega) (by omega)
    · refine ⟨D, L, k, ⟨h.len, h.ins, h.nod, h.head, h.low, h.wk, h.zero, h.mono, h.near, h.done, fun _ _ _ _ hq' => by omega⟩, hge⟩
theorem inv_exists (ha : a < N) (hst : ∀ u q v : Nat, st u q = (v : Int) → v < N) : ∃ D L k, Inv st N a D L k 0 ∧ L.length ≤ k :=
  inv_runs hst (5 * (N + 1)) _ _ 0 0 (inv_start ha) (by simp) (by omega) (by omega)
/-- What the distance says. -/
theorem dZ_spec (ha : a < N) (hst : ∀ u q v : Nat, st u q = (v : Int) → v < N) (v : Nat) :
    (dZ st N a v = -1 ∧ ∀ n, ¬ Wk st a n v) ∨ ∃ n : Nat, dZ st N a v = (n : Int) ∧ n < N ∧ Wk st a n v ∧ ∀ m, Wk st a m v → n ≤ m := by
  by_cases hex : ∃ n, Wk st a n v
  · obtain ⟨D, L, k, h, hk⟩ := inv_exists ha hst
    have he := inv_end h hk ha hst v
    -- a walk ends at a cell of the list
    have hall : ∀ n x, Wk st a n x → x ∈ L ∧ D.getD x (-1) ≤ (n : Int) := fun n x hx => by
      induction hx with
      | zero => exact ⟨List.mem_of_getElem? h.head, by rw [h.zero]; simp⟩
      | @step n u q' v _ hq' hs' ih =>
        obtain ⟨h1, h2⟩ := ih
        obtain ⟨i, hi⟩ := List.getElem?_of_mem h1
        have hil : i < L.length := (List.getElem?_eq_some_iff.1 hi).1
        obtain ⟨b1, b2⟩ := h.done i u q' v (by omega) hi hq' hs'
        exact ⟨b1, by omega⟩
    obtain ⟨m, hm⟩ := hex
    obtain ⟨j, hj⟩ := List.getElem?_of_mem (hall m v hm).1
    have hjl : j < L.length := (List.getElem?_eq_some_iff.1 hj).1
    obtain ⟨n, h1, h2, h3⟩ := h.wk j v hj
    have := h.le
    exact .inr ⟨n, by rw [← he, h1], by omega, h3, fun m' hm' => by have := (hall m' v hm').2; omega⟩
  · refine .inl ⟨least_none fun m _ => ?_, fun n hn => hex ⟨n, hn⟩⟩
    have : ¬ wkB st N a m v = true := fun e => hex ⟨m, (wkB_iff ha hst m v).1 e⟩
    simpa using this
theorem dZ_self (ha : a < N) (hst : ∀ u q v : Nat, st u q = (v : Int) → v < N) (v : Nat) : dZ st N a v = 0 ↔ v = a := by
  rcases dZ_spec ha hst v with ⟨h1, h2⟩ | ⟨n, h1, _, h3, h4⟩
  · refine ⟨fun e => by omega, fun e => ?_⟩
    subst e; exact absurd .zero (h2 0)
  · refine ⟨fun e => ?_, fun e => ?_⟩
    · obtain rfl : n = 0 := by omega
      cases h3; rfl
    · subst e
      have := h4 0 .zero
      omega
theorem dZ_sym {b : Nat} (ha : a < N) (hb : b < N) (hst : ∀ u q v : Nat, st u q = (v : Int) → v < N) (hbk : ∀ u q v : Nat, q < 4 → st u q = (v : Int) → ∃ q', q' < 4 ∧ st v q' = (u : Int)) : dZ st N a b = dZ st N b a := by
  rcases dZ_spec ha hst b with ⟨h1, h2⟩ | ⟨n, h1, _, h3, h4⟩
  · rcases dZ_spec hb hst a with ⟨g1, _⟩ | ⟨m, _, _, g3, _⟩
    · rw [h1, g1]
    · exact absurd (wk_rev hbk g3) (h2 m)
  · rcases dZ_spec hb hst a with ⟨_, g2⟩ | ⟨m, g1, _, g3, g4⟩
    · exact absurd (wk_rev hbk h3) (g2 n)
    · have := h4 m (wk_rev hbk g3)
      have := g4 n (wk_rev hbk h3)
      rw [h1, g1]; omega
theorem dZ_pos (ha : a < N) (hst : ∀ u q v : Nat, st u q = (v : Int) → v < N) (v : Nat) : 0 ≤ dZ st N a v ↔ ∃ n, Wk st a n v := by
  rcases dZ_spec ha hst v with ⟨h1, h2⟩ | ⟨n, h1, _, h3, _⟩
  · exact ⟨fun e => by omega, fun ⟨n, hn⟩ => absurd hn (h2 n)⟩
  · exact ⟨fun _ => ⟨n, h3⟩, fun _ => by omega⟩
theorem dZ_ge (v : Nat) (ha : a < N) (hst : ∀ u q v : Nat, st u q = (v : Int) → v < N) : -1 ≤ dZ st N a v ∧ dZ st N a v < N := by
  rcases dZ_spec ha hst v with ⟨h1, _⟩ | ⟨n, h1, h2, _, _⟩ <;> omega
end

/-- The parity of a cell: its column and its row. -/
def par (w k : Int) : Int := (k % w + k / w) % 2
theorem par_fin : ∀ w h : Fin 4, ∀ k : Fin 16, ∀ d : Fin 4, nbZ ((w : Nat) + 1) ((h : Nat) + 1) (k : Nat) (d : Nat) < 0 ∨ par ((w : Nat) + 1) (nbZ ((w : Nat) + 1) ((h : Nat) + 1) (k : Nat) (d : Nat)) = 1 - par ((w : Nat) + 1) (k : Nat) := by decide +kernel
theorem par_step (w h k d : Int) (hn : ¬ nbZ w h k d < 0) : par w (nbZ w h k d) = 1 - par w k := by
  obtain ⟨⟨a, b, c, e⟩, ⟨k0, k1⟩, hd, n0, n1⟩ := nb_some hn
  have hm := (mul_bd w h a b c e).1
  have := par_fin ⟨(w - 1).toNat, by omega⟩ ⟨(h - 1).toNat, by omega⟩ ⟨k.toNat, by omega⟩ ⟨d.toNat, by omega⟩
  rw [show (((w - 1).toNat : Nat) : Int) + 1 = w by omega, show (((h - 1).toNat : Nat) : Int) + 1 = h by omega, Int.toNat_of_nonneg k0, Int.toNat_of_nonneg hd.1] at this
  exact this.resolve_left hn
theorem wk_par {x y z : Int} {a n v : Nat} (h : Wk (stN x y z) a n v) : ((n : Int) + par x a + par x v) % 2 = 0 := by
  induction h with
  | zero => have : 0 ≤ par x a := by unfold par; omega
            omega
  | @step n u q v _ hq hs ih =>
    have hn : ¬ nbZ x y u q < 0 := by
      intro e
      have := st_neg (w := x) (h := y) (o := z) (k := u) (d := q) e
      unfold stN at hs; omega
    have hv : nbZ x y u q = (v : Int) := by
      unfold stN stZ at hs
      split at hs
      · exact hs
      · omega
    have := par_step x y u q hn
    rw [hv] at this
    have h1 : 0 ≤ par x u ∧ par x u ≤ 1 := by unfold par; omega
    omega
end Go.Proofs.Ythakbjdkcdppjaa.reachM

/- Cells that are reached, the parts of a maze and the farthest cell, without the program. -/
namespace Go.Proofs.Ythakbjdkcdppjaa.reachN
open gridP bitP mazeP mazeQ reachP reachM

section
variable {st : Nat → Nat → Int} {N a : Nat}
/-- The distances from a cell, as a list. -/
def dl (st : Nat → Nat → Int) (N a : Nat) : List Int := (List.range N).map fun v => dZ st N a v
theorem dl_len (st : Nat → Nat → Int) (N a : Nat) : (dl st N a).length = N := by simp [dl]
theorem dl_at (st : Nat → Nat → Int) (N a v : Nat) (hv : v < N) : (dl st N a)[v]? = some (dZ st N a v) := by simp [dl, hv]
/-- What a search knows in the end is the list of the distances. -/
theorem dl_eq {D : List Int} {L : List Nat} {k q : Nat} (h : Inv st N a D L k q) (hk : L.length ≤ k) (ha : a < N) (hst : ∀ u q v : Nat, st u q = (v : Int) → v < N) : D = dl st N a := by
  apply List.ext_getElem?
  intro v
  by_cases hv : v < N
  · rw [dl_at st N a v hv]
    have := inv_end h hk ha hst v
    rw [List.getD_eq_getElem?_getD] at this
    have hl : v < D.length := by rw [h.len]; exact hv
    rw [List.getElem?_eq_getElem hl] at this ⊢
    simpa using this
  · rw [List.getElem?_eq_none (by rw [h.len]; omega), List.getElem?_eq_none (by rw [dl_len]; omega)]

/-- The cells below n that are reached from a cell. -/
def rlN (st : Nat → Nat → Int) (N a : Nat) : Nat → List Int
  | 0 => []
  | n + 1 => if 0 ≤ dZ st N a n then rlN st N a n ++ [(n : Int)] else rlN st N a n
theorem rlN_len (st : Nat → Nat → Int) (N a : Nat) : ∀ n, (rlN st N a n).length ≤ n
  | 0 => Nat.le_refl _
  | n + 1 => by
    have := rlN_len st N a n
    unfold rlN; split
    · simp; omega
    · omega
theorem rlN_full (st : Nat → Nat → Int) (N a : Nat) : ∀ n, (rlN st N a n).length = n ↔ ∀ v, v < n → 0 ≤ dZ st N a v
  | 0 => by simp [rlN]
  | n + 1 => by
    have ih := rlN_full st N a n
    have hl := rlN_len st N a n
    unfold rlN
    split
    · rename_i h
      rw [List.length_append, List.length_singleton]
      refine ⟨fun e v hv => ?_, fun e => ?_⟩
      · rcases Nat.lt_or_ge v n with h1 | h1
        · exact ih.1 (by omega) v h1
        · obtain rfl : v = n := by omega
          exact h
      · rw [ih.2 fun v hv => e v (by omega)]
    · rename_i h
      refine ⟨fun e => by omega, fun e => absurd (e n (by omega)) h⟩
theorem rlN_mem (st : Nat → Nat → Int) (N a : Nat) : ∀ (n : Nat) (x : Int), x ∈ rlN st N a n ↔ ∃ v : Nat, x = v ∧ v < n ∧ 0 ≤ dZ st N a v
  | 0, x => by simp [rlN]
  | n + 1, x => by
    have ih := rlN_mem st N a n x
    unfold rlN
    split
    · rename_i h
      rw [List.mem_append, ih]
      refine ⟨fun e => ?_, fun ⟨v, e, hv, hd⟩ => ?_⟩
      · rcases e with ⟨v, e, hv, hd⟩ | e
        · exact ⟨v, e, by omega, hd⟩
        · exact ⟨n, by simpa using e, by omega, h⟩
      · rcases Nat.lt_or_ge v n with h1 | h1
        · exact .inl ⟨v, e, h1, hd⟩
        · obtain rfl : v = n := by omega
          exact .inr (by simp [e])
    · rename_i h
      rw [ih]
      refine ⟨fun ⟨v, e, hv, hd⟩ => ⟨v, e, by omega, hd⟩, fun ⟨v, e, hv, hd⟩ => ?_⟩
      rcases Nat.lt_or_ge v n with h1 | h1
      · exact ⟨v, e, h1, hd⟩
      · obtain rfl : v = n := by omega
        exact absurd hd h

/-- Whether no cell with a smaller number is reached from a cell. -/
def isLeast (st : Nat → Nat → Int) (N a : Nat) : Bool := (List.range a).all fun j => decide (dZ st N a j < 0)
theorem isLeast_iff (st : Nat → Nat → Int) (N a : Nat) : isLeast st N a = true ↔ ∀ j, j < a → dZ st N a j < 0 := by
  unfold isLeast; simp
/-- How many of the first n cells are the least of their part. -/
def cpN (st : Nat → Nat → Int) (N : Nat) : Nat → Nat
  | 0 => 0
  | n + 1 => cpN st N n + if isLeast st N n = true then 1 else 0
theorem cpN_le (st : Nat → Nat → Int) (N : Nat) : ∀ n, cpN st N n ≤ n
  | 0 => Nat.le_refl _
  | n + 1 => by have := cpN_le st N n; unfold cpN; split <;> omega
theorem cpN_pos (st : Nat → Nat → Int) (N : Nat) : ∀ n, 0 < n → 1 ≤ cpN st N n
  | 0, h => absurd h (by omega)
  | 1, _ => by unfold cpN cpN; rw [if_pos (by rw [isLeast_iff]; intro j hj; omega)]; omega
  | n + 2, _ => by have := cpN_pos st N (n + 1) (by omega); rw [cpN]; omega
theorem cpN_one (st : Nat → Nat → Int) (N : Nat) : ∀ n, 0 < n → (cpN st N n = 1 ↔ ∀ k, 0 < k → k < n → isLeast st N k = false)
  | 0, h => absurd h (by omega)
  | 1, _ => ⟨fun _ k hk hk' => by omega, fun _ => by unfold cpN cpN; rw [if_pos (by rw [isLeast_iff]; intro j hj; omega)]⟩
  | n + 2, _ => by
    have ih := cpN_one st N (n + 1) (by omega)
    have hp := cpN_pos st N (n + 1) (by omega)
    rw [cpN]
    by_cases hl : isLeast st N (n + 1) = true
    · rw [if_pos hl]
      refine ⟨fun e => by omega, fun e => ?_⟩
      have := e (n + 1) (by omega) (by omega)
      rw [this] at hl; cases hl
    · rw [if_neg hl]
      refine ⟨fun e k hk hk' => ?_, fun e => ?_⟩
      · rcases Nat.lt_or_ge k (n + 1) with h1 | h1
        · exact ih.1 (by omega) k hk h1
        · obtain rfl : k = n + 1 := by omega
          simpa using hl
      · have := ih.2 fun k hk hk' => e k hk (by omega)
        omega
/-- The first cell that is reached from a cell is the cell itself just if it is the least of its part. -/
theorem rlN_head (ha : a < N) (hst : ∀ u q v : Nat, st u q = (v : Int) → v < N) : ∀ n, a < n → ∃ j : Nat, (rlN st N a n)[0]? = some (j : Int) ∧ j ≤ a ∧ (j = a ↔ isLeast st N a = true)
  | 0, h => absurd h (by omega)
  | n + 1, h => by
    rcases Nat.lt_or_ge a n with h' | h'
    · obtain ⟨j, h1, h2⟩ := rlN_head ha hst n h'
      refine ⟨j, ?_, h2⟩
      unfold rlN
      split
      · rw [List.getElem?_append_left (List.getElem?_eq_some_iff.1 h1).1]; exact h1
      · exact h1
    · obtain rfl : a = n := by omega
      have h0 : 0 ≤ dZ st N a a := by rw [(dZ_self ha hst a).2 rfl]; omega
      unfold rlN
      rw [if_pos h0]
      cases hr : rlN st N a a with
      | nil =>
        refine ⟨a, by simp, Nat.le_refl _, fun _ => ?_, fun _ => rfl⟩
        rw [isLeast_iff]
        intro j hj
        rcases Int.lt_or_le (dZ st N a j) 0 with h1 | h1
        · exact h1
        · have := (rlN_mem st N a a (j : Int)).2 ⟨j, rfl, hj, h1⟩
          rw [hr] at this; cases this
      | cons x l =>
        obtain ⟨j, e, hj, hd⟩ := (rlN_mem st N a a x).1 (by rw [hr]; simp)
        subst e
        refine ⟨j, by simp, by omega, fun e => by omega, fun e => ?_⟩
        rw [isLeast_iff] at e
        have := e j hj
        omega

variable (hst : ∀ u q v : Nat, st u q = (v : Int) → v < N) (hbk : ∀ u q v : Nat, q < 4 → st u q = (v : Int) → ∃ q', q' < 4 ∧ st v q' = (u : Int))
include hst hbk
/-- There is one part just if from a cell all are reached. -/
theorem one_part (ha : a < N) : cpN st N N = 1 ↔ (rlN st N a N).length = N := by
  rw [cpN_one st N N (by omega), rlN_full]
  constructor
  · intro h v hv
    have hz : ∀ m k, k ≤ m → k < N → ∃ n, Wk st k n 0 := fun m => by
      induction m with
      | zero => intro k hk _; obtain rfl : k = 0 := by omega
                exact ⟨0, .zero⟩
      | succ m ih =>
        intro k hk hkN
        by_cases h0 : k = 0
        · subst h0; exact ⟨0, .zero⟩
        · have hl := h k (by omega) hkN
          have hn : ¬ ∀ j, j < k → dZ st N k j < 0 := fun e => by
            rw [(isLeast_iff st N k).2 e] at hl; cases hl
          have hex : ∃ j, j < k ∧ 0 ≤ dZ st N k j := by
            refine Classical.byContradiction fun hno => hn fun j hj => ?_
            rcases Int.lt_or_le (dZ st N k j) 0 with h1 | h1
            · exact h1
            · exact absurd ⟨j, hj, h1⟩ hno
          obtain ⟨j, hj, hd⟩ := hex
          obtain ⟨n, hn⟩ := (dZ_pos hkN hst j).1 hd
          obtain ⟨n', hn'⟩ := ih j (by omega) (by omega)
          exact ⟨_, wk_trans hn hn'⟩
    obtain ⟨n, hn⟩ := hz a a (Nat.le_refl _) ha
    obtain ⟨n', hn'⟩ := hz v v (Nat.le_refl _) hv
    exact (dZ_pos ha hst v).2 ⟨_, wk_trans hn (wk_rev hbk hn')⟩
  · intro h k hk hkN
    have h1 := (dZ_pos ha hst k).1 (h k hkN)
    have h2 := (dZ_pos ha hst 0).1 (h 0 (by omega))
    obtain ⟨n, hn⟩ := h1
    obtain ⟨n', hn'⟩ := h2
    have h3 := (dZ_pos hkN hst 0).2 ⟨_, wk_trans (wk_rev hbk hn) hn'⟩
    rcases hl : isLeast st N k with _ | _
    · rfl
    · rw [isLeast_iff] at hl
      have := hl 0 hk
      omega
end

/-- The number of the greatest of the first n, the least of several, begun with o. -/
def farN (D : Nat → Int) (o : Nat) : Nat → Nat
  | 0 => o
  | k + 1 => if D (farN D o k) < D k ∨ (D k = D (farN D o k) ∧ k < farN D o k) then k else farN D o k
/-- The greatest, the least of several. -/
def IsFar (D : Nat → Int) (N f : Nat) : Prop := f < N ∧ ∀ k, k < N → D k < D f ∨ (D k = D f ∧ f ≤ k)
theorem far_one {D : Nat → Int} {N f f' : Nat} (h : IsFar D N f) (h' : IsFar D N f') : f = f' := by
  have h1 := h.2 f' h'.1
  have h2 := h'.2 f h.1
  omega
theorem farN_lt {D : Nat → Int} {o N : Nat} (ho : o < N) : ∀ k, k ≤ N → farN D o k < N
  | 0, _ => ho
  | k + 1, hk => by
    have := farN_lt (D := D) ho k (by omega)
    unfold farN; split <;> omega
theorem farN_best {D : Nat → Int} {o : Nat} : ∀ n, ∀ k, (k < n ∨ k = o) → D k < D (farN D o n) ∨ (D k = D (farN D o n) ∧ farN D o n ≤ k)
  | 0, k, h => by
    obtain rfl : k = o := by omega
    exact .inr ⟨rfl, Nat.le_refl _⟩
  | n + 1, k, h => by
    have ih := farN_best (D := D) (o := o) n
    unfold farN
    split
    · rename_i hc
      by_cases hk : k < n ∨ k = o
      · have := ih k hk
        omega
      · obtain rfl : k = n := by omega
        exact .inr ⟨rfl, Nat.le_refl _⟩
    · rename_i hc
      by_cases hk : k < n ∨ k = o
      · exact ih k hk
      · obtain rfl : k = n := by omega
        omega
theorem farN_far {D : Nat → Int} {o N : Nat} (ho : o < N) : IsFar D N (farN D o N) := ⟨farN_lt ho N (Nat.le_refl _), fun k hk => farN_best N k (.inl hk)⟩
end Go.Proofs.Ythakbjdkcdppjaa.reachN
