/- The numbers of grids, without the program: what the law of grids asks, and how many cells have a neighbor. -/
import Derived.Test.YtomjfcmaoeoigaaGridP
namespace Go.Proofs.Ytomjfcmaoeoigaa.gridQ
open gridP

/-- How many of the first d directions have a neighbor. -/
def cntD (w h k : Int) : Nat → Int
  | 0 => 0
  | d + 1 => cntD w h k d + if nbZ w h k d < 0 then 0 else 1
/-- How many neighbors the first k cells have. -/
def cntK (w h : Int) : Nat → Int
  | 0 => 0
  | k + 1 => cntK w h k + cntD w h k 4
theorem cntD_bd (w h k : Int) (d : Nat) : 0 ≤ cntD w h k d ∧ cntD w h k d ≤ d := by
  induction d with
  | zero => exact ⟨Int.le_refl _, Int.le_refl _⟩
  | succ d ih => unfold cntD; split <;> omega
theorem cntK_bd (w h : Int) (k : Nat) : 0 ≤ cntK w h k ∧ cntK w h k ≤ 4 * k := by
  induction k with
  | zero => exact ⟨Int.le_refl _, Int.le_refl _⟩
  | succ k ih => unfold cntK; have := cntD_bd w h k 4; omega

theorem total_fin : ∀ w h : Fin 4, cntK ((w : Nat) + 1) ((h : Nat) + 1) (((w : Nat) + 1) * ((h : Nat) + 1)) = 2 * ((((w : Nat) + 1 : Int) - 1) * ((h : Nat) + 1) + ((w : Nat) + 1) * (((h : Nat) + 1 : Int) - 1)) := by decide +kernel
/-- Each gap is between two neighbors: all cells together have twice as many neighbors as there are gaps. -/
theorem total (w h : Int) (h1 : 1 ≤ w) (h2 : w ≤ 4) (h3 : 1 ≤ h) (h4 : h ≤ 4) : cntK w h (w * h).toNat = 2 * ((w - 1) * h + w * (h - 1)) := by
  obtain ⟨a, rfl⟩ : ∃ a : Fin 4, w = (a : Nat) + 1 := ⟨⟨(w - 1).toNat, by omega⟩, by simp; omega⟩
  obtain ⟨b, rfl⟩ : ∃ b : Fin 4, h = (b : Nat) + 1 := ⟨⟨(h - 1).toNat, by omega⟩, by simp; omega⟩
  have e : (((a : Nat) + 1 : Int) * ((b : Nat) + 1)).toNat = ((a : Nat) + 1) * ((b : Nat) + 1) := by
    rw [show (((a : Nat) + 1 : Int) * ((b : Nat) + 1)) = ((((a : Nat) + 1) * ((b : Nat) + 1) : Nat) : Int) by push_cast; rfl, Int.toNat_natCast]
  rw [e]
  exact total_fin a b

/-- What the law asks at a cell and a direction that have a neighbor. -/
def Both (w h k d : Int) : Prop := 0 ≤ gpZ w h k d ∧ nbZ w h (nbZ w h k d) ((d + 2) % 4) = k ∧ gpZ w h (nbZ w h k d) ((d + 2) % 4) = gpZ w h k d ∧ eaZ w h (gpZ w h k d) < ebZ w h (gpZ w h k d) ∧
  (eaZ w h (gpZ w h k d) = k ∨ ebZ w h (gpZ w h k d) = k) ∧ (eaZ w h (gpZ w h k d) = nbZ w h k d ∨ ebZ w h (gpZ w h k d) = nbZ w h k d)
instance (w h k d : Int) : Decidable (Both w h k d) := by unfold Both; infer_instance
theorem both_fin : ∀ w h : Fin 4, ∀ k : Fin 16, ∀ d : Fin 4, nbZ ((w : Nat) + 1) ((h : Nat) + 1) (k : Nat) (d : Nat) < 0 ∨ Both ((w : Nat) + 1) ((h : Nat) + 1) (k : Nat) (d : Nat) := by decide +kernel
theorem both (w h k d : Int) (hn : ¬ nbZ w h k d < 0) : Both w h k d := by
  obtain ⟨⟨a, b, c, e⟩, ⟨k0, k1⟩, hd, n0, n1⟩ := nb_some hn
  have hm := (mul_bd w h a b c e).1
  have := both_fin ⟨(w - 1).toNat, by omega⟩ ⟨(h - 1).toNat, by omega⟩ ⟨k.toNat, by omega⟩ ⟨d.toNat, by omega⟩
  rw [show (((w - 1).toNat : Nat) : Int) + 1 = w by omega, show (((h - 1).toNat : Nat) : Int) + 1 = h by omega, Int.toNat_of_nonneg k0, Int.toNat_of_nonneg hd.1] at this
  exact this.resolve_left hn
theorem trz_two (d : Int) (h0 : 0 ≤ d) (h1 : d < 4) : trZ (trZ d) = (d + 2) % 4 := by
  obtain rfl | rfl | rfl | rfl : d = 0 ∨ d = 1 ∨ d = 2 ∨ d = 3 := by omega
  all_goals decide
end Go.Proofs.Ytomjfcmaoeoigaa.gridQ
