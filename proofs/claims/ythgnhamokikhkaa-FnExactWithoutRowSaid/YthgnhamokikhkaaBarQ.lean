/- The rounds of exact division over a graph's matrix, without the program: what they come to. -/
import Derived.Test.YthgnhamokikhkaaBarP
namespace Go.Proofs.Ythgnhamokikhkaa.barQ
open gridP gridQ bitP mazeP mazeQ forest deadP detP trsP barP
set_option linter.unusedVariables false

/-- What stands at a place after k rounds; the divisor of a round. -/
def bz (a : Nat → Nat → Int) : Nat → Nat → Nat → Int
  | 0, i, j => a i j
  | k + 1, i, j => if k < i ∧ k < j then (bz a k i j * bz a k k k - bz a k i k * bz a k k j).tdiv (match k with | 0 => 1 | k' + 1 => bz a k' k' k') else bz a k i j
def bv (a : Nat → Nat → Int) : Nat → Int
  | 0 => 1
  | k + 1 => bz a k k k
theorem bz_succ (a : Nat → Nat → Int) (k i j : Nat) : bz a (k + 1) i j = if k < i ∧ k < j then (bz a k i j * bz a k k k - bz a k i k * bz a k k j).tdiv (bv a k) else bz a k i j := by
  cases k <;> rfl
/-- The result: 0 where a pivot is. -/
def brZ (a : Nat → Nat → Int) (n : Nat) : Int := if n = 0 then 1 else if (List.range (n - 1)).any (fun k => bz a k k k == 0) = true then 0 else bz a (n - 1) (n - 1) (n - 1)

section
variable {a : Nat → Nat → Int}
theorem bz_is : ∀ (k : Nat), (∀ t, t ≤ k → pk a t ≠ 0) → (∀ i j, k ≤ i → k ≤ j → bz a k i j = fk a k i j) ∧ bv a k = pk a k
  | 0, _ => ⟨fun i j _ _ => (fk_zero i j).symm, rfl⟩
  | k + 1, h => by
    obtain ⟨ih, ihv⟩ := bz_is k fun t ht => h t (by omega)
    obtain ⟨w, hw⟩ := vk_all k fun t ht => h t (by omega)
    refine ⟨fun i j hi hj => ?_, by show bz a k k k = _; rw [ih k k (Nat.le_refl _) (Nat.le_refl _), fk_pk]⟩
    rw [bz_succ, if_pos ⟨by omega, by omega⟩, ihv, ih i j (by omega) (by omega), ih k k (Nat.le_refl _) (Nat.le_refl _), ih i k (by omega) (Nat.le_refl _), ih k j (Nat.le_refl _) (by omega), fk_pk, fk_next hw (h k (by omega)) i j (by omega)]
    exact Int.mul_tdiv_cancel_left _ (h k (by omega))
/-- No pivot is 0 in the rounds before. -/
theorem pk_ne : ∀ {k : Nat}, (∀ t, t < k → bz a t t t ≠ 0) → ∀ t, t ≤ k → pk a t ≠ 0
  | 0, _, t, ht => by rw [show t = 0 by omega, pk_zero]; decide
  | k + 1, h, t, ht => by
    have ih := pk_ne (k := k) fun t ht => h t (by omega)
    by_cases e : t = k + 1
    · subst e
      have h1 := (bz_is k ih).1 k k (Nat.le_refl _) (Nat.le_refl _)
      rw [fk_pk] at h1
      rw [← h1]; exact h k (by omega)
    · exact ih t (by omega)
end

/-! ### a graph's matrix -/
section
variable {G : Nat} {u v : Nat → Nat} {a : Nat → Nat → Int} {E : Nat → Bool} {w : Nat → Nat} {n : Nat}
theorem map_nodup {l : List Nat} (hl : l.Nodup) (hw : ∀ i j, i ∈ l → j ∈ l → w i = w j → i = j) : (l.map w).Nodup := by
  induction l with
  | nil => simp
  | cons x l ih =>
    have h := List.nodup_cons.1 hl
    rw [List.map_cons, List.nodup_cons]
    refine ⟨fun hm => ?_, ih h.2 fun i j hi hj => hw i j (by simp [hi]) (by simp [hj])⟩
    obtain ⟨y, hy, e⟩ := List.mem_map.1 hm
    exact h.1 ((hw y x (by simp [hy]) (by simp) e) ▸ hy)
theorem graph_dm (ha : ∀ i j, i < n → j < n → a i j = lap G u v E (w i) (w j)) {J : List Nat} (hJ : ∀ i ∈ J, i < n) : dm a J = dm (lap G u v E) (J.map w) := by
  rw [← dm_map]
  exact dm_congr fun i hi j hj => ha i j (hJ i hi) (hJ j hj)
/-- In every round that comes: what stands there, and that it is not large. -/
theorem graph_bz (hw : ∀ i j, i < n → j < n → w i = w j → i = j) (ha : ∀ i j, a i j = lap G u v E (w i) (w j)) {k : Nat} (hk : k ≤ n) (h : ∀ t, t < k → bz a t t t ≠ 0) {i j : Nat} (hi : k ≤ i) (hj : k ≤ j) (hin : i < n) (hjn : j < n) :
    bz a k i j = fk a k i j ∧ -(2 ^ G) ≤ bz a k i j ∧ bz a k i j ≤ 2 ^ G ∧ bv a k = pk a k ∧ 0 < pk a k := by
  have hp := pk_ne h
  obtain ⟨e1, e2⟩ := bz_is k hp
  have hnd : ∀ J : List Nat, J.Nodup → (∀ i ∈ J, i < n) → (J.map w).Nodup := fun J hJ hm => map_nodup hJ fun i j hi hj => hw i j (hm i hi) (hm j hj)
  have hb : ∀ J : List Nat, J.Nodup → (∀ i ∈ J, i < n) → 0 ≤ dm a J ∧ dm a J ≤ 2 ^ G := fun J hJ hm => by
    rw [graph_dm (n := n) (fun i j _ _ => ha i j) hm]
    exact minor_bd E (hnd J hJ hm)
  have hr : ∀ l : List Nat, l.Nodup → (∀ x ∈ l, k ≤ x ∧ x < n) → (List.range k ++ l).Nodup ∧ ∀ x ∈ List.range k ++ l, x < n := fun l hl hm => by
    refine ⟨List.nodup_append.2 ⟨List.nodup_range, hl, fun x hx y hy e => ?_⟩, fun x hx => ?_⟩
    · have := List.mem_range.1 hx; have := (hm y hy).1; omega
    · rcases List.mem_append.1 hx with h | h
      · have := List.mem_range.1 h; omega
      · exact (hm x h).2
  have hpk : 0 < pk a k := by
    have := (hb (List.range k) List.nodup_range fun x hx => by have := List.mem_range.1 hx; omega).1
    have h2 := hp k (Nat.le_refl _)
    unfold pk at h2 ⊢
    omega
  have b : ∀ i, k ≤ i → i < n → 0 ≤ fk a k i i ∧ fk a k i i ≤ 2 ^ G := fun i hi hin => by
    rw [fk_dm]
    obtain ⟨h1, h2⟩ := hr [i] (by simp) (fun x hx => by rw [List.mem_singleton.1 hx]; exact ⟨hi, hin⟩)
    exact hb _ h1 h2
  have hbd := fk_bd (a := a) (B := 2 ^ G) (fun i j => by rw [ha, ha, lap_symm]) (k := k) (i := i) (j := j) (fun t ht => hp t (by omega)) hpk hi hj (fun hij => by
    obtain ⟨h1, h2⟩ := hr [j, i] (by simp; omega) (fun x hx => by simp at hx; omega)
    exact (hb _ h1 h2).1) (b i hi hin) (b j hj hjn)
  rw [e1 i j hi hj]
  exact ⟨rfl, hbd.1, hbd.2, e2, hpk⟩
/-- The result is the minor. -/
theorem graph_br (hw : ∀ i j, i < n → j < n → w i = w j → i = j) (ha : ∀ i j, a i j = lap G u v E (w i) (w j)) : brZ a n = dm (lap G u v E) ((List.range n).map w) := by
  have hm : ∀ k, k ≤ n → ∀ i ∈ List.range k, i < n := fun k hk i hi => by have := List.mem_range.1 hi; omega
  have hnd : ∀ k, k ≤ n → ((List.range k).map w).Nodup := fun k hk => map_nodup List.nodup_range fun i j hi hj => hw i j (hm k hk i hi) (hm k hk j hj)
  unfold brZ
  by_cases h0 : n = 0
  · subst h0; rfl
  · rw [if_neg h0]
    by_cases hz : (List.range (n - 1)).any (fun k => bz a k k k == 0) = true
    · rw [if_pos hz]
      -- the first pivot that is 0
      obtain ⟨k, hk, hkz, hmin⟩ : ∃ k, k < n - 1 ∧ bz a k k k = 0 ∧ ∀ t, t < k → bz a t t t ≠ 0 := by
        obtain ⟨k, hk0, hkz0⟩ := List.any_eq_true.1 hz
        have hk := List.mem_range.1 hk0
        have hkz : bz a k k k = 0 := by simpa using hkz0
        clear hz hk0 hkz0
        induction k using Nat.strongRecOn with
        | ind k ih =>
          by_cases hex : ∃ t, t < k ∧ bz a t t t = 0
          · obtain ⟨t, ht, htz⟩ := hex
            exact ih t ht (by omega) htz
          · exact ⟨k, hk, hkz, fun t ht e => hex ⟨t, ht, e⟩⟩
      have h1 := graph_bz hw ha (k := k) (by omega) hmin (i := k) (j := k) (Nat.le_refl _) (Nat.le_refl _) (by omega) (by omega)
      rw [h1.1, fk_pk] at hkz
      unfold pk at hkz
      rw [graph_dm (n := n) (fun i j _ _ => ha i j) (hm (k + 1) (by omega))] at hkz
      refine (minor_zero (hnd n (Nat.le_refl _)) (hnd (k + 1) (by omega)) (fun x hx => ?_) hkz).symm
      obtain ⟨i, hi, rfl⟩ := List.mem_map.1 hx
      exact List.mem_map.2 ⟨i, List.mem_range.2 (by have := List.mem_range.1 hi; omega), rfl⟩
    · rw [if_neg hz]
      have hne : ∀ t, t < n - 1 → bz a t t t ≠ 0 := fun t ht e => hz (List.any_eq_true.2 ⟨t, List.mem_range.2 ht, by simp [e]⟩)
      have h1 := graph_bz hw ha (k := n - 1) (by omega) hne (i := n - 1) (j := n - 1) (Nat.le_refl _) (Nat.le_refl _) (by omega) (by omega)
      rw [h1.1, fk_pk, show n - 1 + 1 = n by omega]
      unfold pk
      exact graph_dm (n := n) (fun i j _ _ => ha i j) (hm n (Nat.le_refl _))
end
end Go.Proofs.Ythgnhamokikhkaa.barQ
