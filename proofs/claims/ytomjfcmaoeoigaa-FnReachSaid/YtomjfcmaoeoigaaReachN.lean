/- Cells that are reached, the parts of a maze and the farthest cell, without the program. -/
import Derived.Test.YtomjfcmaoeoigaaReachM
namespace Go.Proofs.Ytomjfcmaoeoigaa.reachN
open gridP bitP mazeP mazeQ reachP reachM

section
variable {st : Nat → Nat → Int} {N a : Nat}
/-- The distances from a cell, as a list. -/
def dl (st : Nat → Nat → Int) (N a : Nat) : List Int := (List.range N).map fun v => dZ st N a v
theorem dl_len (st : Nat → Nat → Int) (N a : Nat) : (dl st N a).length = N := by simp [dl]
theorem dl_at (st : Nat → Nat → Int) (N a v : Nat) (hv : v < N) : (dl st N a)[v]? = some (dZ st N a v) := by simp [dl, hv]
/-- What a search knows in the end is the list of the distances. -/
theorem dl_eq {D : List Int} {L : List Nat} {k q : Nat} (h : Inv st N a D L k q) (hk : L.length ≤ k) (ha : a < N) (hst : ∀ u q v : Nat, st u q = (v : Int) → v < N) : D = dl st N a := by
  apply List.ext_getElem?
  intro v
  by_cases hv : v < N
  · rw [dl_at st N a v hv]
    have := inv_end h hk ha hst v
    rw [List.getD_eq_getElem?_getD] at this
    have hl : v < D.length := by rw [h.len]; exact hv
    rw [List.getElem?_eq_getElem hl] at this ⊢
    simpa using this
  · rw [List.getElem?_eq_none (by rw [h.len]; omega), List.getElem?_eq_none (by rw [dl_len]; omega)]

/-- The cells below n that are reached from a cell. -/
def rlN (st : Nat → Nat → Int) (N a : Nat) : Nat → List Int
  | 0 => []
  | n + 1 => if 0 ≤ dZ st N a n then rlN st N a n ++ [(n : Int)] else rlN st N a n
theorem rlN_len (st : Nat → Nat → Int) (N a : Nat) : ∀ n, (rlN st N a n).length ≤ n
  | 0 => Nat.le_refl _
  | n + 1 => by
    have := rlN_len st N a n
    unfold rlN; split
    · simp; omega
    · omega
theorem rlN_full (st : Nat → Nat → Int) (N a : Nat) : ∀ n, (rlN st N a n).length = n ↔ ∀ v, v < n → 0 ≤ dZ st N a v
  | 0 => by simp [rlN]
  | n + 1 => by
    have ih := rlN_full st N a n
    have hl := rlN_len st N a n
    unfold rlN
    split
    · rename_i h
      rw [List.length_append, List.length_singleton]
      refine ⟨fun e v hv => ?_, fun e => ?_⟩
      · rcases Nat.lt_or_ge v n with h1 | h1
        · exact ih.1 (by omega) v h1
        · obtain rfl : v = n := by omega
          exact h
      · rw [ih.2 fun v hv => e v (by omega)]
    · rename_i h
      refine ⟨fun e => by omega, fun e => absurd (e n (by omega)) h⟩
theorem rlN_mem (st : Nat → Nat → Int) (N a : Nat) : ∀ (n : Nat) (x : Int), x ∈ rlN st N a n ↔ ∃ v : Nat, x = v ∧ v < n ∧ 0 ≤ dZ st N a v
  | 0, x => by simp [rlN]
  | n + 1, x => by
    have ih := rlN_mem st N a n x
    unfold rlN
    split
    · rename_i h
      rw [List.mem_append, ih]
      refine ⟨fun e => ?_, fun ⟨v, e, hv, hd⟩ => ?_⟩
      · rcases e with ⟨v, e, hv, hd⟩ | e
        · exact ⟨v, e, by omega, hd⟩
        · exact ⟨n, by simpa using e, by omega, h⟩
      · rcases Nat.lt_or_ge v n with h1 | h1
        · exact .inl ⟨v, e, h1, hd⟩
        · obtain rfl : v = n := by omega
          exact .inr (by simp [e])
    · rename_i h
      rw [ih]
      refine ⟨fun ⟨v, e, hv, hd⟩ => ⟨v, e, by omega, hd⟩, fun ⟨v, e, hv, hd⟩ => ?_⟩
      rcases Nat.lt_or_ge v n with h1 | h1
      · exact ⟨v, e, h1, hd⟩
      · obtain rfl : v = n := by omega
        exact absurd hd h

/-- Whether no cell with a smaller number is reached from a cell. -/
def isLeast (st : Nat → Nat → Int) (N a : Nat) : Bool := (List.range a).all fun j => decide (dZ st N a j < 0)
theorem isLeast_iff (st : Nat → Nat → Int) (N a : Nat) : isLeast st N a = true ↔ ∀ j, j < a → dZ st N a j < 0 := by
  unfold isLeast; simp
/-- How many of the first n cells are the least of their part. -/
def cpN (st : Nat → Nat → Int) (N : Nat) : Nat → Nat
  | 0 => 0
  | n + 1 => cpN st N n + if isLeast st N n = true then 1 else 0
theorem cpN_le (st : Nat → Nat → Int) (N : Nat) : ∀ n, cpN st N n ≤ n
  | 0 => Nat.le_refl _
  | n + 1 => by have := cpN_le st N n; unfold cpN; split <;> omega
theorem cpN_pos (st : Nat → Nat → Int) (N : Nat) : ∀ n, 0 < n → 1 ≤ cpN st N n
  | 0, h => absurd h (by omega)
  | 1, _ => by unfold cpN cpN; rw [if_pos (by rw [isLeast_iff]; intro j hj; omega)]; omega
  | n + 2, _ => by have := cpN_pos st N (n + 1) (by omega); rw [cpN]; omega
theorem cpN_one (st : Nat → Nat → Int) (N : Nat) : ∀ n, 0 < n → (cpN st N n = 1 ↔ ∀ k, 0 < k → k < n → isLeast st N k = false)
  | 0, h => absurd h (by omega)
  | 1, _ => ⟨fun _ k hk hk' => by omega, fun _ => by unfold cpN cpN; rw [if_pos (by rw [isLeast_iff]; intro j hj; omega)]⟩
  | n + 2, _ => by
    have ih := cpN_one st N (n + 1) (by omega)
    have hp := cpN_pos st N (n + 1) (by omega)
    rw [cpN]
    by_cases hl : isLeast st N (n + 1) = true
    · rw [if_pos hl]
      refine ⟨fun e => by omega, fun e => ?_⟩
      have := e (n + 1) (by omega) (by omega)
      rw [this] at hl; cases hl
    · rw [if_neg hl]
      refine ⟨fun e k hk hk' => ?_, fun e => ?_⟩
      · rcases Nat.lt_or_ge k (n + 1) with h1 | h1
        · exact ih.1 (by omega) k hk h1
        · obtain rfl : k = n + 1 := by omega
          simpa using hl
      · have := ih.2 fun k hk hk' => e k hk (by omega)
        omega
/-- The first cell that is reached from a cell is the cell itself just if it is the least of its part. -/
theorem rlN_head (ha : a < N) (hst : ∀ u q v : Nat, st u q = (v : Int) → v < N) : ∀ n, a < n → ∃ j : Nat, (rlN st N a n)[0]? = some (j : Int) ∧ j ≤ a ∧ (j = a ↔ isLeast st N a = true)
  | 0, h => absurd h (by omega)
  | n + 1, h => by
    rcases Nat.lt_or_ge a n with h' | h'
    · obtain ⟨j, h1, h2⟩ := rlN_head ha hst n h'
      refine ⟨j, ?_, h2⟩
      unfold rlN
      split
      · rw [List.getElem?_append_left (List.getElem?_eq_some_iff.1 h1).1]; exact h1
      · exact h1
    · obtain rfl : a = n := by omega
      have h0 : 0 ≤ dZ st N a a := by rw [(dZ_self ha hst a).2 rfl]; omega
      unfold rlN
      rw [if_pos h0]
      cases hr : rlN st N a a with
      | nil =>
        refine ⟨a, by simp, Nat.le_refl _, fun _ => ?_, fun _ => rfl⟩
        rw [isLeast_iff]
        intro j hj
        rcases Int.lt_or_le (dZ st N a j) 0 with h1 | h1
        · exact h1
        · have := (rlN_mem st N a a (j : Int)).2 ⟨j, rfl, hj, h1⟩
          rw [hr] at this; cases this
      | cons x l =>
        obtain ⟨j, e, hj, hd⟩ := (rlN_mem st N a a x).1 (by rw [hr]; simp)
        subst e
        refine ⟨j, by simp, by omega, fun e => by omega, fun e => ?_⟩
        rw [isLeast_iff] at e
        have := e j hj
        omega

variable (hst : ∀ u q v : Nat, st u q = (v : Int) → v < N) (hbk : ∀ u q v : Nat, q < 4 → st u q = (v : Int) → ∃ q', q' < 4 ∧ st v q' = (u : Int))
include hst hbk
/-- There is one part just if from a cell all are reached. -/
theorem one_part (ha : a < N) : cpN st N N = 1 ↔ (rlN st N a N).length = N := by
  rw [cpN_one st N N (by omega), rlN_full]
  constructor
  · intro h v hv
    have hz : ∀ m k, k ≤ m → k < N → ∃ n, Wk st k n 0 := fun m => by
      induction m with
      | zero => intro k hk _; obtain rfl : k = 0 := by omega
                exact ⟨0, .zero⟩
      | succ m ih =>
        intro k hk hkN
        by_cases h0 : k = 0
        · subst h0; exact ⟨0, .zero⟩
        · have hl := h k (by omega) hkN
          have hn : ¬ ∀ j, j < k → dZ st N k j < 0 := fun e => by
            rw [(isLeast_iff st N k).2 e] at hl; cases hl
          have hex : ∃ j, j < k ∧ 0 ≤ dZ st N k j := by
            refine Classical.byContradiction fun hno => hn fun j hj => ?_
            rcases Int.lt_or_le (dZ st N k j) 0 with h1 | h1
            · exact h1
            · exact absurd ⟨j, hj, h1⟩ hno
          obtain ⟨j, hj, hd⟩ := hex
          obtain ⟨n, hn⟩ := (dZ_pos hkN hst j).1 hd
          obtain ⟨n', hn'⟩ := ih j (by omega) (by omega)
          exact ⟨_, wk_trans hn hn'⟩
    obtain ⟨n, hn⟩ := hz a a (Nat.le_refl _) ha
    obtain ⟨n', hn'⟩ := hz v v (Nat.le_refl _) hv
    exact (dZ_pos ha hst v).2 ⟨_, wk_trans hn (wk_rev hbk hn')⟩
  · intro h k hk hkN
    have h1 := (dZ_pos ha hst k).1 (h k hkN)
    have h2 := (dZ_pos ha hst 0).1 (h 0 (by omega))
    obtain ⟨n, hn⟩ := h1
    obtain ⟨n', hn'⟩ := h2
    have h3 := (dZ_pos hkN hst 0).2 ⟨_, wk_trans (wk_rev hbk hn) hn'⟩
    rcases hl : isLeast st N k with _ | _
    · rfl
    · rw [isLeast_iff] at hl
      have := hl 0 hk
      omega
end

/-- The number of the greatest of the first n, the least of several, begun with o. -/
def farN (D : Nat → Int) (o : Nat) : Nat → Nat
  | 0 => o
  | k + 1 => if D (farN D o k) < D k ∨ (D k = D (farN D o k) ∧ k < farN D o k) then k else farN D o k
/-- The greatest, the least of several. -/
def IsFar (D : Nat → Int) (N f : Nat) : Prop := f < N ∧ ∀ k, k < N → D k < D f ∨ (D k = D f ∧ f ≤ k)
theorem far_one {D : Nat → Int} {N f f' : Nat} (h : IsFar D N f) (h' : IsFar D N f') : f = f' := by
  have h1 := h.2 f' h'.1
  have h2 := h'.2 f h.1
  omega
theorem farN_lt {D : Nat → Int} {o N : Nat} (ho : o < N) : ∀ k, k ≤ N → farN D o k < N
  | 0, _ => ho
  | k + 1, hk => by
    have := farN_lt (D := D) ho k (by omega)
    unfold farN; split <;> omega
theorem farN_best {D : Nat → Int} {o : Nat} : ∀ n, ∀ k, (k < n ∨ k = o) → D k < D (farN D o n) ∨ (D k = D (farN D o n) ∧ farN D o n ≤ k)
  | 0, k, h => by
    obtain rfl : k = o := by omega
    exact .inr ⟨rfl, Nat.le_refl _⟩
  | n + 1, k, h => by
    have ih := farN_best (D := D) (o := o) n
    unfold farN
    split
    · rename_i hc
      by_cases hk : k < n ∨ k = o
      · have := ih k hk
        omega
      · obtain rfl : k = n := by omega
        exact .inr ⟨rfl, Nat.le_refl _⟩
    · rename_i hc
      by_cases hk : k < n ∨ k = o
      · exact ih k hk
      · obtain rfl : k = n := by omega
        omega
theorem farN_far {D : Nat → Int} {o N : Nat} (ho : o < N) : IsFar D N (farN D o N) := ⟨farN_lt ho N (Nat.le_refl _), fun k hk => farN_best N k (.inl hk)⟩
end Go.Proofs.Ytomjfcmaoeoigaa.reachN
