/- Numbers read back from decimal text: plain facts. -/
import Derived.Test.YtmmdngfhfceefaaDoorFmtP
import Derived.Lib.AtoiTie
import Derived.Below
namespace Go.Proofs.YtmmdngfhfceefaaDoor.puP
open Go.RowKit
open hexP fmtP
set_option linter.unusedVariables false

theorem decFrom_snoc : ∀ (l : List UInt8) (acc : Nat) (b : UInt8), Lib.decFrom acc (l ++ [b]) = (Lib.decFrom acc l).bind fun n => (Lib.digitVal b).map fun d => n * 10 + d
  | [], acc, b => by simp only [List.nil_append, Lib.decFrom]; cases Lib.digitVal b <;> rfl
  | c :: l, acc, b => by
    simp only [List.cons_append, Lib.decFrom]
    cases Lib.digitVal c with
    | none => rfl
    | some d => exact decFrom_snoc l _ b
theorem digit_fig (d : Nat) (h : d < 10) : Lib.digitVal (fig d) = some d := by
  rw [fig_ofNat d h]
  have e : (UInt8.ofNat (48 + d)).toNat = 48 + d := by rw [UInt8.toNat_ofNat']; omega
  unfold Lib.digitVal
  rw [e, if_pos (by omega)]
  congr 1; omega
theorem dec_dg (u : Nat) : Lib.decFrom 0 (dg u) = some u := by
  induction u using Nat.strongRecOn with
  | ind u ih =>
    by_cases h : u = 0
    · subst h; rfl
    · rw [dg_step u h, decFrom_snoc, ih (u / 10) (by omega), digit_fig _ (by omega)]
      simp only [Option.bind_some, Option.map_some]
      congr 1; omega
theorem dec_itoa (v : Int) (h : 0 ≤ v) : Lib.decFrom 0 (Lib.itoa v) = some v.toNat := by
  by_cases h0 : v = 0
  · subst h0; rw [itoa_zero]; rfl
  · rw [itoa_pos v (by omega), dec_dg]; congr 1; omega
theorem itoa_ne (v : Int) : Lib.itoa v ≠ [] := by
  by_cases h0 : v = 0
  · subst h0; rw [itoa_zero]; simp
  · by_cases hn : v < 0
    · rw [itoa_neg v hn]; simp
    · rw [itoa_pos v (by omega), dg_step _ (by omega)]; simp
theorem itoa_len10 (v : Int) (h : 0 ≤ v) (h2 : v ≤ 1000000000) : (Lib.itoa v).length ≤ 10 := by
  by_cases h0 : v = 0
  · subst h0; rw [itoa_zero]; simp
  · rw [itoa_pos v (by omega)]
    exact dg_len 10 _ (by have : (10 : Nat) ^ 10 = 10000000000 := by decide
                          omega)
/-- A text of digits is read as their number. -/
theorem atoi_dec {l : List UInt8} {u : Nat} (hne : l ≠ []) (h : Lib.decFrom 0 l = some u) : Lib.atoi l = some (u : Int) := by
  cases l with
  | nil => exact absurd rfl hne
  | cons b r =>
    have hb : Lib.digitVal b ≠ none := by
      intro e
      simp only [Lib.decFrom, e] at h
      cases h
    have hd : 48 ≤ b.toNat ∧ b.toNat ≤ 57 := by
      unfold Lib.digitVal at hb
      by_cases hd : 48 ≤ b.toNat ∧ b.toNat ≤ 57
      · exact hd
      · rw [if_neg hd] at hb; exact absurd rfl hb
    have n45 : (b == 45) = false := by
      rw [beq_eq_false_iff_ne]; rintro rfl; exact absurd hd.1 (by decide)
    have n43 : (b == 43) = false := by
      rw [beq_eq_false_iff_ne]; rintro rfl; exact absurd hd.1 (by decide)
    have e : Lib.decNat (b :: r) = some u := by unfold Lib.decNat; simpa using h
    simp only [Lib.atoi, n45, n43, e]
    rfl

/-- The text l is the decimal text of v, and v is in the range. -/
def IsNum (l : List UInt8) (v : Int) : Prop := 0 ≤ v ∧ v ≤ 1000000000 ∧ Lib.itoa v = l
theorem IsNum.dec {l : List UInt8} {v : Int} (h : IsNum l v) : Lib.decFrom 0 l = some v.toNat := by rw [← h.2.2]; exact dec_itoa v h.1
theorem IsNum.all {l : List UInt8} {v : Int} (h : IsNum l v) : Lib.atoiAll l = .ok v := by
  have hl : l.length ≤ 10 := by rw [← h.2.2]; exact itoa_len10 v h.1 h.2.1
  rw [Lib.atoiAll_short l (by omega), atoi_dec (by rw [← h.2.2]; exact itoa_ne v) h.dec]
  simp only [Lib.NumEnd.ofOption]
  congr 1
  have := h.1; omega
theorem IsNum.same {l : List UInt8} {v v' : Int} (h : IsNum l v) (h' : IsNum l v') : v = v' := by
  have e := h.dec.symm.trans h'.dec
  injection e with e
  have := h.1; have := h'.1; omega
theorem IsNum.len {l : List UInt8} {v : Int} (h : IsNum l v) : l.length ≤ 10 := by rw [← h.2.2]; exact itoa_len10 v h.1 h.2.1

/-- What ParseUint answers. -/
def PuPost (l : List UInt8) (w : World) (e : Ending) (w' : World) : Prop :=
  ((∃ v, IsNum l v ∧ e = .returned (.tuple #[.int .i64 v, .bool true])) ∨ ((∀ v, ¬ IsNum l v) ∧ e = .returned (.tuple #[.int .i64 0, .bool false]))) ∧ Below w.heap.size w w'
theorem pu_yes {l : List UInt8} {w w' : World} {v : Int} (h : IsNum l v) (hb : Below w.heap.size w w') : PuPost l w (.returned (.tuple #[.int .i64 v, .bool true])) w' := ⟨.inl ⟨v, h, rfl⟩, hb⟩
theorem pu_no {l : List UInt8} {w w' : World} (h : ∀ v, ¬ IsNum l v) (hb : Below w.heap.size w w') : PuPost l w (.returned (.tuple #[.int .i64 0, .bool false])) w' := ⟨.inr ⟨h, rfl⟩, hb⟩
theorem no_of_bad {l : List UInt8} (h : ∀ v, Lib.atoiAll l ≠ .ok v) : ∀ v, ¬ IsNum l v := fun v hv => h v hv.all
theorem no_of_range {l : List UInt8} (h : Lib.atoiAll l = .range) : ∀ v, ¬ IsNum l v := fun v hv => by rw [hv.all] at h; cases h
theorem no_of_ok {l : List UInt8} {u : Int} (h : Lib.atoiAll l = .ok u) (hu : ¬ IsNum l u) : ∀ v, ¬ IsNum l v := fun v hv => by
  rw [hv.all] at h
  injection h with h
  subst h; exact hu hv
theorem no_of_dec {l : List UInt8} {u : Nat} (h : Lib.decFrom 0 l = some u) (hu : ¬ IsNum l u) : ∀ v, ¬ IsNum l v := fun v hv => by
  have e := hv.dec.symm.trans h
  injection e with e
  have : v = (u : Int) := by have := hv.1; omega
  subst this; exact hu hv
theorem no_of_none {l : List UInt8} (h : Lib.decFrom 0 l = none) : ∀ v, ¬ IsNum l v := fun v hv => by rw [hv.dec] at h; cases h
end Go.Proofs.YtmmdngfhfceefaaDoor.puP
