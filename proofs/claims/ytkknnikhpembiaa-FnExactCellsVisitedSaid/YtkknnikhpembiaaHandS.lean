/- A list that is sorted and then freed of its doubles: it is the ascending list of what is in it. -/
import Derived.Test.YtkknnikhpembiaaDeadR
import Derived.Lib.SlicesCompact
namespace Go.Proofs.Ytkknnikhpembiaa.handS
open deadR

/-- Two ascending lists of the same numbers are one. -/
theorem asc_ext : ∀ (a b : List Int), a.Pairwise (· < ·) → b.Pairwise (· < ·) → (∀ v, v ∈ a ↔ v ∈ b) → a = b
  | [], b, _, _, h => by
    cases b with
    | nil => rfl
    | cons u b => exact absurd ((h u).2 (List.mem_cons_self ..)) (by simp)
  | u :: a, [], _, _, h => absurd ((h u).1 (List.mem_cons_self ..)) (by simp)
  | u :: a, v :: b, ha, hb, h => by
    obtain ⟨ha1, ha2⟩ := List.pairwise_cons.1 ha
    obtain ⟨hb1, hb2⟩ := List.pairwise_cons.1 hb
    have e : u = v := by
      have h1 : u = v ∨ u ∈ b := by simpa using (h u).1 (List.mem_cons_self ..)
      have h2 : v = u ∨ v ∈ a := by simpa using (h v).2 (List.mem_cons_self ..)
      rcases h1 with h1 | h1
      · exact h1
      · rcases h2 with h2 | h2
        · exact h2.symm
        · have := hb1 u h1; have := ha1 v h2; omega
    subst e
    rw [asc_ext a b ha2 hb2 fun w => ?_]
    constructor
    · intro hw
      have hne := ha1 w hw
      have : w = u ∨ w ∈ b := by simpa using (h w).1 (List.mem_cons_of_mem _ hw)
      rcases this with e | e
      · omega
      · exact e
    · intro hw
      have hne := hb1 w hw
      have : w = u ∨ w ∈ a := by simpa using (h w).2 (List.mem_cons_of_mem _ hw)
      rcases this with e | e
      · omega
      · exact e

theorem cut_asc {d : Array Int} (hm : ∀ i j, i ≤ j → j < d.size → d[i]! ≤ d[j]!) : ∀ m, m ≤ d.size → (Lib.compactUpTo d m).Pairwise (· < ·) ∧ ∀ v, v ∈ Lib.compactUpTo d m ↔ ∃ j, j < m ∧ d[j]! = v
  | 0, _ => by
    refine ⟨by simp [Lib.compactUpTo], fun v => ?_⟩
    simp [Lib.compactUpTo]
  | m + 1, h => by
    obtain ⟨h1, h2⟩ := cut_asc hm m (by omega)
    rw [Lib.compactUpTo_succ]
    by_cases hk : Lib.keeps d m = true
    · rw [if_pos hk]
      refine ⟨List.pairwise_append.2 ⟨h1, by simp, fun a ha b hb => ?_⟩, fun v => ?_⟩
      · rw [List.mem_singleton.1 hb]
        obtain ⟨j, hj, rfl⟩ := (h2 a).1 ha
        have hk' : m = 0 ∨ d[m]! ≠ d[m - 1]! := by simpa [Lib.keeps] using hk
        have e1 := hm j (m - 1) (by omega) (by omega)
        have e2 := hm (m - 1) m (by omega) (by omega)
        rcases hk' with h0 | h0 <;> omega
      · rw [List.mem_append, List.mem_singleton, h2]
        constructor
        · rintro (⟨j, hj, e⟩ | e)
          · exact ⟨j, by omega, e⟩
          · exact ⟨m, by omega, e.symm⟩
        · rintro ⟨j, hj, e⟩
          by_cases hjm : j = m
          · subst hjm; exact .inr e.symm
          · exact .inl ⟨j, by omega, e⟩
    · rw [if_neg hk, List.append_nil]
      refine ⟨h1, fun v => ?_⟩
      rw [h2]
      constructor
      · rintro ⟨j, hj, e⟩; exact ⟨j, by omega, e⟩
      · rintro ⟨j, hj, e⟩
        by_cases hjm : j = m
        · subst hjm
          have hk' : ¬ (j = 0 ∨ d[j]! ≠ d[j - 1]!) := by simpa [Lib.keeps] using hk
          have h0 : ¬ j = 0 := fun e0 => hk' (.inl e0)
          have h1' : d[j]! = d[j - 1]! := Decidable.not_not.1 fun e0 => hk' (.inr e0)
          exact ⟨j - 1, by omega, h1'.symm.trans e⟩
        · exact ⟨j, by omega, e⟩

theorem sort_cut (l : List Int) : (Lib.compact (l.mergeSort fun x y => decide (x ≤ y))).Pairwise (· < ·) ∧ ∀ v, v ∈ Lib.compact (l.mergeSort fun x y => decide (x ≤ y)) ↔ v ∈ l := by
  have hs : (l.mergeSort fun x y => decide (x ≤ y)).Pairwise fun a b => decide (a ≤ b) = true :=
    List.pairwise_mergeSort (le := fun x y : Int => decide (x ≤ y)) (fun a b c h1 h2 => decide_eq_true (by have := of_decide_eq_true h1; have := of_decide_eq_true h2; omega)) (fun a b => by rw [Bool.or_eq_true, decide_eq_true_iff, decide_eq_true_iff]; omega) l
  have hp : ∀ v, v ∈ (l.mergeSort fun x y => decide (x ≤ y)) ↔ v ∈ l := fun v => List.mem_mergeSort
  generalize (l.mergeSort fun x y => decide (x ≤ y)) = s at *
  have hm : ∀ i j, i ≤ j → j < s.toArray.size → s.toArray[i]! ≤ s.toArray[j]! := fun i j hij hj => by
    have hj' : j < s.length := by simpa using hj
    rcases Nat.lt_or_ge i j with h | h
    · have := List.pairwise_iff_getElem.1 hs i j (by omega) hj' h
      have h2 := of_decide_eq_true this
      simpa [getElem!_pos, show i < s.length by omega, hj'] using h2
    · obtain rfl : i = j := by omega
      exact Int.le_refl _
  obtain ⟨h1, h2⟩ := cut_asc hm s.length (by simp)
  refine ⟨h1, fun v => ?_⟩
  rw [← hp v]
  refine (h2 v).trans ⟨?_, fun hv => ?_⟩
  · rintro ⟨j, hj, rfl⟩
    have e : s.toArray[j]! = s[j] := by simp [getElem!_pos, hj]
    rw [e]; exact List.getElem_mem hj
  · obtain ⟨j, hj, rfl⟩ := List.getElem_of_mem hv
    exact ⟨j, hj, by simp [getElem!_pos, hj]⟩

theorem cl_asc (p : Nat → Bool) : ∀ n : Nat, (clN p n).Pairwise (· < ·)
  | 0 => List.Pairwise.nil
  | n + 1 => by
    unfold clN
    split
    · refine List.pairwise_append.2 ⟨cl_asc p n, by simp, fun a ha b hb => ?_⟩
      obtain ⟨c, rfl, hc, -⟩ := (clN_mem _ _ _).1 ha
      rw [List.mem_singleton.1 hb]; omega
    · exact cl_asc p n

/-- Sorted and freed of its doubles: the cells with a property in their order. -/
theorem sort_cells {l : List Int} {p : Nat → Bool} {n : Nat} (h : ∀ v, v ∈ l ↔ ∃ k : Nat, v = k ∧ k < n ∧ p k = true) : Lib.compact (l.mergeSort fun x y => decide (x ≤ y)) = clN p n := by
  obtain ⟨h1, h2⟩ := sort_cut l
  refine asc_ext _ _ h1 (cl_asc p n) fun v => (h2 v).trans ((h v).trans ?_)
  rw [clN_mem]
end Go.Proofs.Ytkknnikhpembiaa.handS
