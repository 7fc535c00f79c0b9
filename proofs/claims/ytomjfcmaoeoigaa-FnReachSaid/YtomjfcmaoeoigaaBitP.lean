/- Binary places of numbers below 2 to the power of 24, and how many of them are 1: plain facts. -/
import Derived.IntWalk
import Derived.Laws.BitsAllLaws
namespace Go.Proofs.Ytomjfcmaoeoigaa.bitP

theorem tb (n g : Nat) : n.testBit g = decide (n / 2 ^ g % 2 = 1) := by
  rw [Nat.testBit_eq_decide_div_mod_eq]
theorem parts (n g : Nat) : n = 2 ^ (g + 1) * (n / 2 ^ (g + 1)) + (2 ^ g * (n / 2 ^ g % 2) + n % 2 ^ g) := by
  have h1 := Nat.div_add_mod n (2 ^ g)
  have h2 := Nat.div_add_mod (n / 2 ^ g) 2
  have h3 : n / 2 ^ g / 2 = n / 2 ^ (g + 1) := by rw [Nat.div_div_eq_div_mul, Nat.pow_succ]
  rw [h3] at h2
  clear h3
  generalize n / 2 ^ (g + 1) = q at h2 ⊢
  generalize n / 2 ^ g % 2 = b at h2 ⊢
  have h4 : 2 ^ g * (n / 2 ^ g) = 2 ^ (g + 1) * q + 2 ^ g * b := by
    rw [Nat.pow_succ, Nat.mul_assoc, ← Nat.mul_add, h2]
  omega
theorem or_set {n g : Nat} (h : n / 2 ^ g % 2 = 1) : n ||| 2 ^ g = n := by
  apply Nat.eq_of_testBit_eq; intro j
  rw [Nat.testBit_or, Nat.testBit_two_pow]
  by_cases e : g = j
  · subst e; rw [tb]; simp [h]
  · simp [e]
theorem or_clear {n g : Nat} (h : n / 2 ^ g % 2 = 0) : n ||| 2 ^ g = n + 2 ^ g := by
  have hp := parts n g
  have hr : n % 2 ^ g < 2 ^ g := Nat.mod_lt _ (Nat.two_pow_pos g)
  rw [h, Nat.mul_zero, Nat.zero_add] at hp
  generalize n / 2 ^ (g + 1) = q at hp
  generalize n % 2 ^ g = r at hp hr
  have hs : 2 ^ (g + 1) = 2 * 2 ^ g := by rw [Nat.pow_succ, Nat.mul_comm]
  have e1 : 2 ^ (g + 1) * q + r = 2 ^ (g + 1) * q ||| r := Nat.two_pow_add_eq_or_of_lt (by omega) q
  have e2 : 2 ^ (g + 1) * q + (2 ^ g + r) = 2 ^ (g + 1) * q ||| (2 ^ g + r) := Nat.two_pow_add_eq_or_of_lt (by omega) q
  have e3 : 2 ^ g + r = 2 ^ g ||| r := by have := Nat.two_pow_add_eq_or_of_lt hr 1; simpa using this
  have e4 : n + 2 ^ g = 2 ^ (g + 1) * q + (2 ^ g + r) := by omega
  rw [e4, e2, e3, hp, e1, Nat.or_assoc, Nat.or_comm r]
theorem xor_clear {n g : Nat} (h : n / 2 ^ g % 2 = 0) : n ^^^ 2 ^ g = n + 2 ^ g := by
  rw [← or_clear h]
  apply Nat.eq_of_testBit_eq; intro j
  rw [Nat.testBit_xor, Nat.testBit_or, Nat.testBit_two_pow]
  by_cases e : g = j
  · subst e; rw [tb]; simp [h]
  · simp [e]
theorem set_le {n g : Nat} (h : n / 2 ^ g % 2 = 1) : 2 ^ g ≤ n ∧ (n - 2 ^ g) / 2 ^ g % 2 = 0 := by
  have hpos := Nat.two_pow_pos g
  have h1 : 1 ≤ n / 2 ^ g := by generalize n / 2 ^ g = q at h ⊢; omega
  have h2 : 2 ^ g ≤ n := by
    have := Nat.div_mul_le_self n (2 ^ g)
    have h3 : 1 * 2 ^ g ≤ n / 2 ^ g * 2 ^ g := Nat.mul_le_mul_right _ h1
    omega
  refine ⟨h2, ?_⟩
  have : (n - 2 ^ g) / 2 ^ g = n / 2 ^ g - 1 := by
    have := Nat.sub_mul_div n (2 ^ g) 1
    simpa using this
  rw [this]
  generalize n / 2 ^ g = q at h h1 ⊢
  omega
theorem xor_set {n g : Nat} (h : n / 2 ^ g % 2 = 1) : n ^^^ 2 ^ g = n - 2 ^ g := by
  obtain ⟨h1, h2⟩ := set_le h
  have h3 := xor_clear h2
  have h4 : n - 2 ^ g + 2 ^ g = n := by omega
  rw [h4] at h3
  have h5 : n ^^^ 2 ^ g = (n - 2 ^ g ^^^ 2 ^ g) ^^^ 2 ^ g := by rw [h3]
  rw [h5, Nat.xor_assoc, Nat.xor_self, Nat.xor_zero]
theorem not_bit {m j : Nat} (hm : m < 2 ^ 64) : (18446744073709551615 - m).testBit j = (decide (j < 64) && !m.testBit j) := by
  have := Nat.testBit_two_pow_sub_succ hm j
  rw [← this]; congr 1; omega
theorem pow_lt64 {g : Nat} (hg : g < 64) : 2 ^ g < 2 ^ 64 := Nat.pow_lt_pow_right (by decide) hg
theorem andNot_set {n g : Nat} (hg : g < 64) (hn : n < 2 ^ 64) (h : n / 2 ^ g % 2 = 1) : n &&& (18446744073709551615 - 2 ^ g) = n - 2 ^ g := by
  rw [← xor_set h]
  apply Nat.eq_of_testBit_eq; intro j
  rw [Nat.testBit_and, not_bit (pow_lt64 hg), Nat.testBit_xor, Nat.testBit_two_pow]
  by_cases e : g = j
  · subst e; rw [tb]; simp [h]
  · by_cases hj : j < 64
    · simp [e, hj]
    · have : n.testBit j = false := Nat.testBit_lt_two_pow (Nat.lt_of_lt_of_le hn (Nat.pow_le_pow_right (by decide) (by omega)))
      simp [e, hj, this]
theorem andNot_clear {n g : Nat} (hg : g < 64) (hn : n < 2 ^ 64) (h : n / 2 ^ g % 2 = 0) : n &&& (18446744073709551615 - 2 ^ g) = n := by
  apply Nat.eq_of_testBit_eq; intro j
  rw [Nat.testBit_and, not_bit (pow_lt64 hg), Nat.testBit_two_pow]
  by_cases e : g = j
  · subst e; rw [tb]; simp [h]
  · by_cases hj : j < 64
    · simp [e, hj]
    · have : n.testBit j = false := Nat.testBit_lt_two_pow (Nat.lt_of_lt_of_le hn (Nat.pow_le_pow_right (by decide) (by omega)))
      simp [this]

/-! The operations on Go's int, for numbers that are not negative. -/
theorem ofInt64 (a : Nat) (ha : a < 9223372036854775808) : (BitVec.ofInt 64 (a : Int)).toNat = a := by
  rw [BitVec.ofInt_natCast, BitVec.toNat_ofNat]; omega
theorem and_i64 (a b : Nat) (ha : a < 9223372036854775808) (hb : b < 9223372036854775808) : bits .and .i64 (a : Int) (b : Int) = ((a &&& b : Nat) : Int) := by
  have hx : a &&& b < 2 ^ 63 := Nat.and_lt_two_pow _ (by omega)
  show IntKind.i64.wrap ((BitVec.ofInt 64 (a : Int) &&& BitVec.ofInt 64 (b : Int)).toNat : Int) = _
  rw [BitVec.toNat_and, ofInt64 a ha, ofInt64 b hb, IntKind.wrap_i64]; omega
theorem or_i64 (a b : Nat) (ha : a < 9223372036854775808) (hb : b < 9223372036854775808) : bits .or .i64 (a : Int) (b : Int) = ((a ||| b : Nat) : Int) := by
  have hx : a ||| b < 2 ^ 63 := Nat.or_lt_two_pow (by omega) (by omega)
  show IntKind.i64.wrap ((BitVec.ofInt 64 (a : Int) ||| BitVec.ofInt 64 (b : Int)).toNat : Int) = _
  rw [BitVec.toNat_or, ofInt64 a ha, ofInt64 b hb, IntKind.wrap_i64]; omega
theorem xor_i64 (a b : Nat) (ha : a < 9223372036854775808) (hb : b < 9223372036854775808) : bits .xor .i64 (a : Int) (b : Int) = ((a ^^^ b : Nat) : Int) := by
  have hx : a ^^^ b < 2 ^ 63 := Nat.xor_lt_two_pow (by omega) (by omega)
  show IntKind.i64.wrap ((BitVec.ofInt 64 (a : Int) ^^^ BitVec.ofInt 64 (b : Int)).toNat : Int) = _
  rw [BitVec.toNat_xor, ofInt64 a ha, ofInt64 b hb, IntKind.wrap_i64]; omega
theorem andNot_i64 (a b : Nat) (ha : a < 9223372036854775808) (hb : b < 9223372036854775808) : bits .andNot .i64 (a : Int) (b : Int) = ((a &&& (18446744073709551615 - b) : Nat) : Int) := by
  have hx : a &&& (18446744073709551615 - b) ≤ a := Nat.and_le_left
  show IntKind.i64.wrap ((BitVec.ofInt 64 (a : Int) &&& ~~~BitVec.ofInt 64 (b : Int)).toNat : Int) = _
  rw [BitVec.toNat_and, BitVec.toNat_not, ofInt64 a ha, ofInt64 b hb, IntKind.wrap_i64]
  have e : 2 ^ 64 - 1 - b = 18446744073709551615 - b := by omega
  rw [e]; omega

/-- The place of number g. -/
def bitZ (o g : Int) : Int := o / 2 ^ g.toNat % 2
theorem bit_bd (o g : Int) : 0 ≤ bitZ o g ∧ bitZ o g ≤ 1 := by unfold bitZ; omega
theorem pow_bd (g : Int) (h1 : g ≤ 24) : 1 ≤ (2 : Int) ^ g.toNat ∧ (2 : Int) ^ g.toNat ≤ 16777216 := by
  have h : ∀ k : Nat, k < 25 → 1 ≤ (2 : Int) ^ k ∧ (2 : Int) ^ k ≤ 16777216 := by decide
  exact h _ (by omega)
theorem nat_form {o g : Int} (o0 : 0 ≤ o) (g0 : 0 ≤ g) : ∃ n k : Nat, o = n ∧ g = k ∧ (2 : Int) ^ g.toNat = ((2 ^ k : Nat) : Int) ∧ bitZ o g = ((n / 2 ^ k % 2 : Nat) : Int) := by
  obtain ⟨n, rfl⟩ := Int.eq_ofNat_of_zero_le o0
  obtain ⟨k, rfl⟩ := Int.eq_ofNat_of_zero_le g0
  refine ⟨n, k, rfl, rfl, by simp, ?_⟩
  unfold bitZ; simp
theorem bit_is {o g : Int} (o0 : 0 ≤ o) (o1 : o < 16777216) (g0 : 0 ≤ g) : bits .and .i64 (o / 2 ^ g.toNat) 1 = bitZ o g := by
  obtain ⟨n, k, rfl, rfl, hp, hb⟩ := nat_form o0 g0
  rw [hb, hp, show ((n : Int) / ((2 ^ k : Nat) : Int)) = ((n / 2 ^ k : Nat) : Int) from by simp, show (1 : Int) = ((1 : Nat) : Int) from rfl, and_i64 _ _ (by have := Nat.div_le_self n (2 ^ k); omega) (by decide), nat_mask1]
theorem or_is {o g : Int} (o0 : 0 ≤ o) (o1 : o < 16777216) (g0 : 0 ≤ g) (g1 : g < 24) : bits .or .i64 o (2 ^ g.toNat) = if bitZ o g = 1 then o else o + 2 ^ g.toNat := by
  have hb := pow_bd g (by omega)
  obtain ⟨n, k, rfl, rfl, hp, hz⟩ := nat_form o0 g0
  rw [hz, hp, or_i64 _ _ (by omega) (by omega)]
  have hm : n / 2 ^ k % 2 < 2 := Nat.mod_lt _ (by decide)
  by_cases h : n / 2 ^ k % 2 = 1
  · rw [if_pos (by omega), or_set h]
  · rw [if_neg (by omega), or_clear (by omega)]; simp
theorem xor_is {o g : Int} (o0 : 0 ≤ o) (o1 : o < 16777216) (g0 : 0 ≤ g) (g1 : g < 24) : bits .xor .i64 o (2 ^ g.toNat) = if bitZ o g = 1 then o - 2 ^ g.toNat else o + 2 ^ g.toNat := by
  have hb := pow_bd g (by omega)
  obtain ⟨n, k, rfl, rfl, hp, hz⟩ := nat_form o0 g0
  rw [hz, hp, xor_i64 _ _ (by omega) (by omega)]
  have hm : n / 2 ^ k % 2 < 2 := Nat.mod_lt _ (by decide)
  by_cases h : n / 2 ^ k % 2 = 1
  · have := (set_le h).1
    rw [if_pos (by omega), xor_set h]; omega
  · rw [if_neg (by omega), xor_clear (by omega)]; omega
theorem andNot_is {o g : Int} (o0 : 0 ≤ o) (o1 : o < 16777216) (g0 : 0 ≤ g) (g1 : g < 24) : bits .andNot .i64 o (2 ^ g.toNat) = if bitZ o g = 1 then o - 2 ^ g.toNat else o := by
  have hb := pow_bd g (by omega)
  obtain ⟨n, k, rfl, rfl, hp, hz⟩ := nat_form o0 g0
  rw [hz, hp, andNot_i64 _ _ (by omega) (by omega)]
  have hm : n / 2 ^ k % 2 < 2 := Nat.mod_lt _ (by decide)
  by_cases h : n / 2 ^ k % 2 = 1
  · have := (set_le h).1
    rw [if_pos (by omega), andNot_set (by omega) (by omega) h]; omega
  · rw [if_neg (by omega), andNot_clear (by omega) (by omega) (by omega)]
/-- What has become of a number whose place g was set or cleared is in range. -/
theorem put_bd {o g t : Int} (o0 : 0 ≤ o) (g0 : 0 ≤ g) (g1 : g < t) (t1 : t ≤ 24) (ho : o ≤ 2 ^ t.toNat - 1) : (bitZ o g = 1 → 0 ≤ o - 2 ^ g.toNat) ∧ (bitZ o g ≠ 1 → o + 2 ^ g.toNat ≤ 2 ^ t.toNat - 1) := by
  have hbt := pow_bd t t1
  obtain ⟨n, k, rfl, rfl, hp, hz⟩ := nat_form o0 g0
  obtain ⟨s, rfl⟩ := Int.eq_ofNat_of_zero_le (show 0 ≤ t by omega)
  have hs : (2 : Int) ^ ((s : Int)).toNat = ((2 ^ s : Nat) : Int) := by simp
  rw [hs] at ho hbt ⊢
  rw [hz, hp]
  have hm : n / 2 ^ k % 2 < 2 := Nat.mod_lt _ (by decide)
  refine ⟨fun h => ?_, fun h => ?_⟩
  · have := (set_le (n := n) (g := k) (by omega)).1; omega
  · have h0 : n / 2 ^ k % 2 = 0 := by omega
    have hlt : n ||| 2 ^ k < 2 ^ s := Nat.or_lt_two_pow (by omega) (Nat.pow_lt_pow_right (by decide) (by omega))
    rw [or_clear h0] at hlt
    omega

/-! How many places are 1. -/
def pcN (n : Nat) : Nat → Nat
  | 0 => 0
  | k + 1 => pcN n k + n / 2 ^ k % 2
theorem pcN_le (n : Nat) : ∀ k, pcN n k ≤ k
  | 0 => Nat.le_refl _
  | k + 1 => by have := pcN_le n k; have := Nat.mod_lt (n / 2 ^ k) (show 0 < 2 by decide); unfold pcN; omega
theorem pcN_top {n t : Nat} (h : n < 2 ^ t) : ∀ k, t ≤ k → pcN n k = pcN n t
  | 0, hk => by obtain rfl : t = 0 := by omega
                rfl
  | k + 1, hk => by
    rcases Nat.lt_or_ge k t with h' | h'
    · obtain rfl : t = k + 1 := by omega
      rfl
    · have := pcN_top h k h'
      have : n / 2 ^ k = 0 := Nat.div_eq_of_lt (Nat.lt_of_lt_of_le h (Nat.pow_le_pow_right (by decide) h'))
      show pcN n k + n / 2 ^ k % 2 = pcN n t
      omega

theorem and_split (a b c d : Nat) (ha : a < 256) (hc : c < 256) : (a + 256 * b) &&& (c + 256 * d) = (a &&& c) + 256 * (b &&& d) := by
  have hac : a &&& c < 2 ^ 8 := Nat.and_lt_two_pow _ (by omega)
  have e : ∀ x y : Nat, x + 256 * y = 2 ^ 8 * y + x := fun x y => by omega
  rw [e a b, e c d, e (a &&& c)]
  apply Nat.eq_of_testBit_eq; intro j
  rw [Nat.testBit_and, Nat.testBit_two_pow_mul_add _ (by omega), Nat.testBit_two_pow_mul_add _ (by omega), Nat.testBit_two_pow_mul_add _ hac]
  by_cases hj : j < 8
  · simp [hj]
  · simp [hj]
/-- Three bytes. -/
def cat (a b c : Nat) : Nat := a + 256 * (b + 256 * c)
theorem and_cat (a b c m : Nat) (r : Nat) (ha : a < 256) (hb : b < 256) (hc : c < 256) (hm : m < 256) : cat a b c &&& (m + 256 * (m + 256 * (m + 256 * r))) = cat (a &&& m) (b &&& m) (c &&& m) := by
  unfold cat
  rw [and_split _ _ _ _ ha hm, and_split _ _ _ _ hb hm]
  have : c &&& (m + 256 * r) = c &&& m := by
    have := and_split c 0 m r hc hm
    simpa using this
  rw [this]
def f1 (a : Nat) : Nat := (a / 2 &&& 85) + (a &&& 85)
def f2 (a : Nat) : Nat := (a / 4 &&& 51) + (a &&& 51)
def f3 (a : Nat) : Nat := a / 16 + a % 16
theorem byte1 : ∀ a, a < 256 → f1 a < 256 ∧ (a / 2 &&& 85) ≤ 85 ∧ (a &&& 85) ≤ 85 ∧ (a / 2 + 128 &&& 85) = (a / 2 &&& 85) := by decide +kernel
theorem byte2 : ∀ a, a < 256 → (a / 4 &&& 51) ≤ 51 ∧ (a &&& 51) ≤ 51 ∧ (a / 4 + 64 &&& 51) = (a / 4 &&& 51) ∧ (a / 4 + 128 &&& 51) = (a / 4 &&& 51) ∧ (a / 4 + 192 &&& 51) = (a / 4 &&& 51) := by decide +kernel
theorem byte3 : ∀ a, a < 256 → f2 (f1 a) % 16 ≤ 4 ∧ f2 (f1 a) / 16 ≤ 4 ∧ f2 (f1 a) < 256 ∧ f3 (f2 (f1 a)) = pcN a 8 := by decide +kernel
theorem step1 (a b c : Nat) (ha : a < 256) (hb : b < 256) (hc : c < 256) : (cat a b c / 2 &&& 6148914691236517205) + (cat a b c &&& 6148914691236517205) = cat (f1 a) (f1 b) (f1 c) := by
  have e : cat a b c / 2 = cat (a / 2 + 128 * (b % 2)) (b / 2 + 128 * (c % 2)) (c / 2) := by unfold cat; omega
  have k : ∀ a t, a < 256 → t < 2 → (a / 2 + 128 * t &&& 85) = (a / 2 &&& 85) := fun a t h1 h2 => by
    obtain rfl | rfl : t = 0 ∨ t = 1 := by omega
    · rfl
    · exact (byte1 a h1).2.2.2
  have m : (6148914691236517205 : Nat) = 85 + 256 * (85 + 256 * (85 + 256 * 366503875925)) := by decide
  rw [e, m, and_cat _ _ _ _ _ (by omega) (by omega) (by omega) (by decide), and_cat _ _ _ _ _ ha hb hc (by decide), k a _ ha (by omega), k b _ hb (by omega)]
  unfold cat f1; omega
theorem step2 (a b c : Nat) (ha : a < 256) (hb : b < 256) (hc : c < 256) : (cat a b c / 4 &&& 3689348814741910323) + (cat a b c &&& 3689348814741910323) = cat (f2 a) (f2 b) (f2 c) := by
  have e : cat a b c / 4 = cat (a / 4 + 64 * (b % 4)) (b / 4 + 64 * (c % 4)) (c / 4) := by unfold cat; omega
  have k : ∀ a t, a < 256 → t < 4 → (a / 4 + 64 * t &&& 51) = (a / 4 &&& 51) := fun a t h1 h2 => by
    obtain rfl | rfl | rfl | rfl : t = 0 ∨ t = 1 ∨ t = 2 ∨ t = 3 := by omega
    · rfl
    · exact (byte2 a h1).2.2.1
    · exact (byte2 a h1).2.2.2.1
    · exact (byte2 a h1).2.2.2.2
  have m : (3689348814741910323 : Nat) = 51 + 256 * (51 + 256 * (51 + 256 * 219902325555)) := by decide
  rw [e, m, and_cat _ _ _ _ _ (by omega) (by omega) (by omega) (by decide), and_cat _ _ _ _ _ ha hb hc (by decide), k a _ ha (by omega), k b _ hb (by omega)]
  unfold cat f2; omega
theorem step3 (a b c : Nat) (ha : a % 16 ≤ 4 ∧ a / 16 ≤ 4) (hb : b % 16 ≤ 4 ∧ b / 16 ≤ 4) (hc : c % 16 ≤ 4 ∧ c / 16 ≤ 4) : (cat a b c / 16 + cat a b c &&& 1085102592571150095) = cat (f3 a) (f3 b) (f3 c) := by
  have e : cat a b c / 16 + cat a b c = cat (a / 16 + 16 * (b % 16) + a) (b / 16 + 16 * (c % 16) + b) (c / 16 + c) := by unfold cat; omega
  have m : (1085102592571150095 : Nat) = 15 + 256 * (15 + 256 * (15 + 256 * 64677154575)) := by decide
  rw [e, m, and_cat _ _ _ _ _ (by omega) (by omega) (by omega) (by decide), nat_mask4, nat_mask4, nat_mask4]
  clear e m
  have k : ∀ a t : Nat, a % 16 ≤ 4 ∧ a / 16 ≤ 4 → (a / 16 + 16 * t + a) % 16 = f3 a := fun a t h => by unfold f3; omega
  have k' : (c / 16 + c) % 16 = f3 c := by unfold f3; omega
  rw [k a _ ha, k b _ hb, k']
theorem pc_cat (a b c : Nat) (ha : a < 256) (hb : b < 256) : pcN (cat a b c) 24 = pcN a 8 + pcN b 8 + pcN c 8 := by
  have h1 : ∀ i, i < 8 → cat a b c / 2 ^ i % 2 = a / 2 ^ i % 2 := fun i hi => by
    unfold cat
    obtain rfl | rfl | rfl | rfl | rfl | rfl | rfl | rfl : i = 0 ∨ i = 1 ∨ i = 2 ∨ i = 3 ∨ i = 4 ∨ i = 5 ∨ i = 6 ∨ i = 7 := by omega
    all_goals simp only [Nat.reducePow]; omega
  have h2 : ∀ i, i < 8 → cat a b c / 2 ^ (i + 8) % 2 = b / 2 ^ i % 2 := fun i hi => by
    unfold cat
    obtain rfl | rfl | rfl | rfl | rfl | rfl | rfl | rfl : i = 0 ∨ i = 1 ∨ i = 2 ∨ i = 3 ∨ i = 4 ∨ i = 5 ∨ i = 6 ∨ i = 7 := by omega
    all_goals simp only [Nat.reducePow, Nat.reduceAdd]; omega
  have h3 : ∀ i, i < 8 → cat a b c / 2 ^ (i + 16) % 2 = c / 2 ^ i % 2 := fun i hi => by
    unfold cat
    obtain rfl | rfl | rfl | rfl | rfl | rfl | rfl | rfl : i = 0 ∨ i = 1 ∨ i = 2 ∨ i = 3 ∨ i = 4 ∨ i = 5 ∨ i = 6 ∨ i = 7 := by omega
    all_goals simp only [Nat.reducePow, Nat.reduceAdd]; omega
  have a0 := h1 0 (by decide); have a1 := h1 1 (by decide); have a2 := h1 2 (by decide); have a3 := h1 3 (by decide); have a4 := h1 4 (by decide); have a5 := h1 5 (by decide); have a6 := h1 6 (by decide); have a7 := h1 7 (by decide)
  have b0 := h2 0 (by decide); have b1 := h2 1 (by decide); have b2 := h2 2 (by decide); have b3 := h2 3 (by decide); have b4 := h2 4 (by decide); have b5 := h2 5 (by decide); have b6 := h2 6 (by decide); have b7 := h2 7 (by decide)
  have c0 := h3 0 (by decide); have c1 := h3 1 (by decide); have c2 := h3 2 (by decide); have c3 := h3 3 (by decide); have c4 := h3 4 (by decide); have c5 := h3 5 (by decide); have c6 := h3 6 (by decide); have c7 := h3 7 (by decide)
  simp only [Nat.reduceAdd] at b0 b1 b2 b3 b4 b5 b6 b7 c0 c1 c2 c3 c4 c5 c6 c7
  simp only [pcN, a0, a1, a2, a3, a4, a5, a6, a7, b0, b1, b2, b3, b4, b5, b6, b7, c0, c1, c2, c3, c4, c5, c6, c7]
  omega
theorem gather (p q r : Nat) (hp : p ≤ 8) (hq : q ≤ 8) (hr : r ≤ 8) : (cat p q r + cat p q r / 256 + (cat p q r + cat p q r / 256) / 65536) % 128 = p + q + r := by
  have e1 : cat p q r / 256 = q + 256 * r := by unfold cat; omega
  have e2 : cat p q r + (q + 256 * r) = (p + q) + 256 * (q + r) + 65536 * r := by unfold cat; omega
  have e3 : ((p + q) + 256 * (q + r) + 65536 * r) / 65536 = r := by omega
  rw [e1, e2, e3]
  omega
/-- What the library reckons of a number below 2 to the power of 24. -/
theorem ones {n : Nat} (h : n < 16777216) : ∃ x y z : Nat, (n / 2 &&& 6148914691236517205) + (n &&& 6148914691236517205) = x ∧ (x / 4 &&& 3689348814741910323) + (x &&& 3689348814741910323) = y ∧ (y / 16 + y &&& 1085102592571150095) = z ∧
    x < 16777216 ∧ y < 16777216 ∧ z < 16777216 ∧ (z + z / 256 + (z + z / 256) / 65536) % 128 = pcN n 24 := by
  obtain ⟨a, b, c, ha, hb, hc, rfl⟩ : ∃ a b c, a < 256 ∧ b < 256 ∧ c < 256 ∧ n = cat a b c := ⟨n % 256, n / 256 % 256, n / 65536, by omega, by omega, by omega, by unfold cat; omega⟩
  have A := byte3 a ha; have B := byte3 b hb; have C := byte3 c hc
  have A1 := (byte1 a ha).1; have B1 := (byte1 b hb).1; have C1 := (byte1 c hc).1
  refine ⟨_, _, _, step1 a b c ha hb hc, step2 _ _ _ A1 B1 C1, step3 _ _ _ ⟨A.1, A.2.1⟩ ⟨B.1, B.2.1⟩ ⟨C.1, C.2.1⟩, by unfold cat; omega, by unfold cat; omega, ?_, ?_⟩
  · rw [A.2.2.2, B.2.2.2, C.2.2.2]
    have := pcN_le a 8; have := pcN_le b 8; have := pcN_le c 8
    unfold cat; omega
  · rw [pc_cat a b c ha hb, A.2.2.2, B.2.2.2, C.2.2.2]
    exact gather _ _ _ (pcN_le a 8) (pcN_le b 8) (pcN_le c 8)
end Go.Proofs.Ytomjfcmaoeoigaa.bitP
