/- The sums over the sets of columns that are used, in memory. -/
import Derived.Test.YthgnhamokikhkaaMatP
import Derived.Test.YthgnhamokikhkaaRowsP
namespace Go.Proofs.Ythgnhamokikhkaa.matN
open Go.ChangeShapes Go.WideShapes Go.ChangeAt Go.RowKit
open draw gridP gridC bitP mazeP mazeQ mazeC mazeM intsP reachD intA listK forest deadP detP trsP barP rowsP matP
set_option linter.unusedVariables false

section
variable (a : Nat → Nat → Int) (n : Nat)
/-- The sums that stand there. -/
def plL (S κ : Nat) : List Int := (List.range (2 ^ n)).map fun t => wrap64 (acc a n t S κ)
end
section
variable {a : Nat → Nat → Int} {n : Nat}
theorem pl_len (S κ : Nat) : (plL a n S κ).length = 2 ^ n := by simp [plL]
theorem pl_at {S κ t : Nat} (h : t < 2 ^ n) : (plL a n S κ)[t]? = some (wrap64 (acc a n t S κ)) := by
  unfold plL; rw [List.getElem?_map, List.getElem?_range h]; rfl
theorem pl_ext {S κ S' κ' : Nat} (h : ∀ t, t < 2 ^ n → wrap64 (acc a n t S κ) = wrap64 (acc a n t S' κ')) : plL a n S κ = plL a n S' κ' := List.map_congr_left fun t ht => h t (List.mem_range.1 ht)
theorem pl_start : (List.replicate (2 ^ n) (0 : Int)).set 0 1 = plL a n 0 n := by
  apply List.ext_getElem?
  intro i
  by_cases hi : i < 2 ^ n
  · rw [pl_at hi, acc_start]
    by_cases h0 : i = 0
    · subst h0
      rw [List.getElem?_set_self (by simpa using hi), if_pos rfl, show wrap64 1 = 1 by unfold wrap64; omega]
    · rw [List.getElem?_set_ne (fun e => h0 e.symm), if_neg h0, List.getElem?_replicate, if_pos hi, show wrap64 0 = 0 by unfold wrap64; omega]
  · rw [List.getElem?_eq_none (by simp; omega), List.getElem?_eq_none (by rw [pl_len]; omega)]
theorem pl_turn (S : Nat) : plL a n S 0 = plL a n (S + 1) n := pl_ext fun t _ => by rw [acc_turn]
theorem pl_skip {S : Nat} (hS : S < 2 ^ n) (h : (∀ k, k < n → bt S k = 1) ∨ wrap64 (dsN a n S) = 0) : plL a n S n = plL a n (S + 1) n := by
  rw [← pl_turn]
  exact pl_ext fun t _ => (acc_skip hS h (Nat.zero_le _)).symm
theorem pl_same {S k : Nat} (hk : k < n) (h : bt S k = 1 ∨ a (pcN S n) k = 0) : plL a n S (k + 1) = plL a n S k := pl_ext fun t ht => by
  rw [acc_step (κ := k) hk]
  by_cases hc : bt S k = 0 ∧ t = S + 2 ^ k
  · rw [if_pos hc]
    rcases h with h | h
    · omega
    · obtain ⟨h0, rfl⟩ := hc
      unfold term
      rw [pc_add h0 hk, Nat.add_sub_cancel, h]; simp
  · rw [if_neg hc]; simp
theorem pl_put {S k : Nat} (hk : k < n) (h0 : bt S k = 0) (hS : S < 2 ^ n) :
    (plL a n S (k + 1)).set (S + 2 ^ k) (wrap64 (acc a n (S + 2 ^ k) S (k + 1) + sg (pcN S n - pcN S (k + 1)) * wrap64 (dsN a n S) * a (pcN S n) k)) = plL a n S k := by
  have hT := add_lt hS hk h0
  have hterm : term a n (S + 2 ^ k) k = sg (pcN S n - pcN S (k + 1)) * a (pcN S n) k * dsN a n S := by
    unfold term hi
    have h1 : pcN (S + 2 ^ k) (k + 1) = pcN S (k + 1) + 1 := pc_add h0 (Nat.lt_succ_self k)
    rw [pc_add h0 hk, h1, Nat.add_sub_cancel, Nat.add_sub_cancel_right, show pcN S n + 1 - (pcN S (k + 1) + 1) = pcN S n - pcN S (k + 1) by omega]
  apply List.ext_getElem?
  intro i
  by_cases hi : i < 2 ^ n
  · rw [pl_at hi, acc_step (κ := k) hk]
    by_cases he : i = S + 2 ^ k
    · subst he
      rw [List.getElem?_set_self (by rw [pl_len]; exact hi), if_pos ⟨h0, rfl⟩, hterm]
      congr 1
      rw [← wrap_add', ← wrap_add' _ (sg _ * _ * dsN a n S)]
      congr 2
      rw [show sg (pcN S n - pcN S (k + 1)) * wrap64 (dsN a n S) * a (pcN S n) k = sg (pcN S n - pcN S (k + 1)) * a (pcN S n) k * wrap64 (dsN a n S) by rw [Int.mul_assoc, Int.mul_comm (wrap64 _), ← Int.mul_assoc], wrap_mul']
    · rw [List.getElem?_set_ne (fun e => he e.symm), pl_at hi, if_neg (fun h => he h.2)]; simp
  · rw [List.getElem?_eq_none (by rw [List.length_set, pl_len]; omega), List.getElem?_eq_none (by rw [pl_len]; omega)]
theorem pc_le' (S : Nat) : ∀ k, pcN S k ≤ k
  | 0 => Nat.zero_le _
  | k + 1 => by have := pc_le' S k; have := bt_le S k; unfold pcN; unfold bt at this; omega
theorem pc_mono (S k : Nat) : ∀ d, pcN S k ≤ pcN S (k + d)
  | 0 => Nat.le_refl _
  | d + 1 => Nat.le_trans (pc_mono S k d) (Nat.le_add_right _ _)
theorem pc_succ (S k : Nat) : pcN S (k + 1) = pcN S k + bt S k := rfl
theorem full_of {S : Nat} : ∀ {n : Nat}, pcN S n = n → ∀ k, k < n → bt S k = 1
  | 0, _, k, h => absurd h (by omega)
  | n + 1, h, k, hk => by
    rw [pc_succ] at h
    have h1 := pc_le' S n
    have h2 := bt_le S n
    by_cases e : k = n
    · subst e; omega
    · exact full_of (n := n) (by omega) k (by omega)
theorem bt_ones {n : Nat} : ∀ k, k < n → bt (2 ^ n - 1) k = 1 := fun k hk => by
  have h := bt_test (2 ^ n - 1) k
  rw [Nat.testBit_two_pow_sub_one] at h
  rw [decide_eq_true hk] at h
  exact of_decide_eq_true h.symm
theorem pl_end {S κ : Nat} (h : 2 ^ n ≤ S) : (plL a n S κ)[2 ^ n - 1]? = some (wrap64 (dm a (List.range n))) := by
  have hp : 0 < 2 ^ n := Nat.pow_pos (by decide)
  rw [pl_at (by omega), acc_all (by omega) (by omega), ds_full bt_ones]
end
/-- The sums in memory. -/
def DN (W : World) (a : Nat → Nat → Int) (n S κ : Nat) (X : World) : Prop := Below W.heap.size W X ∧ X.ownsRow W.heap.size 3 1 (.slice (some ⟨W.heap.size, 0, none⟩) (2 ^ n) (2 ^ n)) (2 ^ n) (icells (plL a n S κ))
theorem DN.call {W X X' : World} {a : Nat → Nat → Int} {n S κ : Nat} (h : DN W a n S κ X) (hb : Below X.heap.size X X') : DN W a n S κ X' := ⟨below_call h.1 hb, own_call h.2 hb⟩
theorem DN.same {W X : World} {a : Nat → Nat → Int} {n S κ S' κ' : Nat} (h : DN W a n S κ X) (e : plL a n S κ = plL a n S' κ') : DN W a n S' κ' X := ⟨h.1, by rw [← e]; exact h.2⟩
theorem DN.cell {W X : World} {a : Nat → Nat → Int} {n S κ t : Nat} (h : DN W a n S κ X) (ht : t < 2 ^ n) : X.cell? ⟨W.heap.size, t, none⟩ = some (.int .i64 (wrap64 (acc a n t S κ))) := own_cellI h.2 (pl_at ht)
theorem DN.put {W X : World} {a : Nat → Nat → Int} {n S κ κ' S' t : Nat} {z : Int} (h : DN W a n S κ X) (e : (plL a n S κ).set t z = plL a n S' κ') : DN W a n S' κ' (X.setCell ⟨W.heap.size, t, none⟩ (.int .i64 z)) := by
  refine ⟨h.1.setCell (Nat.le_refl _) _, ?_⟩
  have h1 := (h.2.stored t (.int .i64 z)).1
  have e2 : (icells (plL a n S κ)).set t (.int .i64 z) = icells (plL a n S' κ') := by rw [← e]; simp [icells, List.map_set]
  rwa [e2] at h1
end Go.Proofs.Ythgnhamokikhkaa.matN
