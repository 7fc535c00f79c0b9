/- Distances in a graph of at most four ways from each cell, without the program: what a search cell by cell finds. -/
import Derived.WalkKit
namespace Go.Proofs.Ytomjfcmaoeoigaa.reachP

/-- A walk of n steps from cell a: 'st u q' is the cell behind direction q of cell u, negative where there is none. -/
inductive Wk (st : Nat → Nat → Int) (a : Nat) : Nat → Nat → Prop
  | zero : Wk st a 0 a
  | step {n u q v : Nat} (h : Wk st a n u) (hq : q < 4) (hs : st u q = ((v : Nat) : Int)) : Wk st a (n + 1) v

/-- The least number below n of which p holds, -1 where there is none. -/
def leastZ (p : Nat → Bool) : Nat → Int
  | 0 => -1
  | n + 1 => if 0 ≤ leastZ p n then leastZ p n else if p n = true then (n : Int) else -1
theorem least_none {p : Nat → Bool} : ∀ {N : Nat}, (∀ m, m < N → p m = false) → leastZ p N = -1
  | 0, _ => rfl
  | N + 1, h => by
    have ih := least_none (p := p) (N := N) fun m hm => h m (by omega)
    unfold leastZ
    rw [ih, if_neg (by decide), h N (by omega)]
    rfl
theorem least_some {p : Nat → Bool} {n : Nat} (hp : p n = true) (hl : ∀ m, m < n → p m = false) : ∀ {N : Nat}, n < N → leastZ p N = (n : Int)
  | 0, h => absurd h (by omega)
  | N + 1, h => by
    rcases Nat.lt_or_ge n N with h' | h'
    · have ih := least_some hp hl h'
      unfold leastZ
      rw [ih, if_pos (by omega)]
    · obtain rfl : n = N := by omega
      unfold leastZ
      rw [least_none hl, if_neg (by decide), if_pos hp]

/-- Whether there is a walk of n steps, among cells below N. -/
def wkB (st : Nat → Nat → Int) (N a : Nat) : Nat → Nat → Bool
  | 0, v => v == a
  | n + 1, v => (List.range N).any fun u => wkB st N a n u && (List.range 4).any fun q => st u q == (v : Int)
/-- The distance from cell a to cell v, -1 where there is no way. -/
def dZ (st : Nat → Nat → Int) (N a v : Nat) : Int := leastZ (fun n => wkB st N a n v) N

section
variable {st : Nat → Nat → Int} {N a : Nat}
theorem wk_lt (ha : a < N) (hst : ∀ u q v : Nat, st u q = (v : Int) → v < N) {n v : Nat} (h : Wk st a n v) : v < N := by
  cases h with
  | zero => exact ha
  | step _ _ hs => exact hst _ _ _ hs
theorem wkB_iff (ha : a < N) (hst : ∀ u q v : Nat, st u q = (v : Int) → v < N) : ∀ n v, wkB st N a n v = true ↔ Wk st a n v
  | 0, v => by
    unfold wkB
    constructor
    · intro h
      have : v = a := by simpa using h
      subst this; exact .zero
    · intro h
      cases h; simp
  | n + 1, v => by
    unfold wkB
    rw [List.any_eq_true]
    constructor
    · rintro ⟨u, hu, h⟩
      rw [Bool.and_eq_true, List.any_eq_true] at h
      obtain ⟨h1, q, hq, h2⟩ := h
      exact .step ((wkB_iff ha hst n u).1 h1) (List.mem_range.1 hq) (by simpa using h2)
    · intro h
      cases h with
      | @step _ u q _ h hq hs =>
        refine ⟨u, List.mem_range.2 (wk_lt ha hst h), ?_⟩
        rw [Bool.and_eq_true, List.any_eq_true]
        exact ⟨(wkB_iff ha hst n u).2 h, q, List.mem_range.2 hq, by simpa using hs⟩
end

/-- What a search knows when it stands at place k of its list of cells and has looked in q directions. -/
structure Inv (st : Nat → Nat → Int) (N a : Nat) (D : List Int) (L : List Nat) (k q : Nat) : Prop where
  len : D.length = N
  ins : ∀ v ∈ L, v < N
  nod : L.Nodup
  head : L[0]? = some a
  low : ∀ v : Nat, D.getD v (-1) = -1 ∨ v ∈ L
  wk : ∀ j v : Nat, L[j]? = some v → ∃ n : Nat, D.getD v (-1) = (n : Int) ∧ n ≤ j ∧ Wk st a n v
  zero : D.getD a (-1) = 0
  mono : ∀ i j u v : Nat, i ≤ j → L[i]? = some u → L[j]? = some v → D.getD u (-1) ≤ D.getD v (-1)
  near : ∀ j u v : Nat, L[j]? = some v → L[k]? = some u → D.getD v (-1) ≤ D.getD u (-1) + 1
  done : ∀ i u q' v : Nat, i < k → L[i]? = some u → q' < 4 → st u q' = (v : Int) → v ∈ L ∧ D.getD v (-1) ≤ D.getD u (-1) + 1
  now : ∀ u q' v : Nat, L[k]? = some u → q' < q → st u q' = (v : Int) → v ∈ L ∧ D.getD v (-1) ≤ D.getD u (-1) + 1

section
variable {st : Nat → Nat → Int} {N a : Nat} {D : List Int} {L : List Nat} {k q : Nat}

theorem getD_set (D : List Int) (i j : Nat) (x : Int) (hi : i < D.length) : (D.set i x).getD j (-1) = if i = j then x else D.getD j (-1) := by
  simp only [List.getD_eq_getElem?_getD, List.getElem?_set]
  by_cases h : i = j
  · subst h; simp [hi]
  · simp [h]
theorem nodup_le : ∀ (N : Nat) (L : List Nat), L.Nodup → (∀ v ∈ L, v < N) → L.length ≤ N
  | 0, L, _, h => by
    cases L with
    | nil => simp
    | cons x l => exact absurd (h x (by simp)) (by omega)
  | N + 1, L, hn, h => by
    by_cases hm : N ∈ L
    · have h1 := nodup_le N (L.erase N) (hn.erase N) fun v hv => by
        have h2 := h v (List.mem_of_mem_erase hv)
        have h3 : v ≠ N := fun e => by subst e; exact (hn.not_mem_erase) hv
        omega
      rw [List.length_erase_of_mem hm] at h1
      omega
    · have h1 := nodup_le N L hn fun v hv => by
        have h2 := h v hv
        have h3 : v ≠ N := fun e => by subst e; exact hm hv
        omega
      omega
theorem Inv.le (h : Inv st N a D L k q) : L.length ≤ N := nodup_le N L h.nod h.ins
theorem Inv.pos (h : Inv st N a D L k q) {v : Nat} (hv : v ∈ L) : 0 ≤ D.getD v (-1) := by
  obtain ⟨j, hj⟩ := List.getElem?_of_mem hv
  obtain ⟨n, hn, _⟩ := h.wk j v hj
  omega
theorem Inv.mem (h : Inv st N a D L k q) {v : Nat} (hv : 0 ≤ D.getD v (-1)) : v ∈ L := by
  rcases h.low v with h1 | h1
  · omega
  · exact h1

theorem inv_start (ha : a < N) : Inv st N a ((List.replicate N (-1)).set a 0) [a] 0 0 := by
  have hg : ∀ v : Nat, ((List.replicate N (-1 : Int)).set a 0).getD v (-1) = if a = v then 0 else -1 := fun v => by
    rw [getD_set _ _ _ _ (by simpa using ha)]
    split
    · rfl
    · simp [List.getD_eq_getElem?_getD, List.getElem?_replicate]; split <;> rfl
  have h1 : ∀ j v : Nat, ([a] : List Nat)[j]? = some v → j = 0 ∧ v = a := fun j v hv => by
    cases j with
    | zero => exact ⟨rfl, by simpa using hv.symm⟩
    | succ j => simp at hv
  refine ⟨by simp, fun v hv => by simp at hv; omega, by simp, rfl, fun v => ?_, fun j v hv => ?_, by rw [hg]; simp, fun i j u v _ hu hv => ?_, fun j u v hv hu => ?_, fun i u q' v hi => by omega, fun u q' v _ hq => by omega⟩
  · rw [hg]; split
    · rename_i e; subst e; exact .inr (by simp)
    · exact .inl rfl
  · obtain ⟨rfl, rfl⟩ := h1 j v hv
    exact ⟨0, by rw [hg]; simp, Nat.le_refl _, .zero⟩
  · obtain ⟨_, rfl⟩ := h1 i u hu
    obtain ⟨_, rfl⟩ := h1 j v hv
    exact Int.le_refl _
  · obtain ⟨_, rfl⟩ := h1 j v hv
    obtain ⟨_, rfl⟩ := h1 0 u hu
    omega

theorem inv_none (h : Inv st N a D L k q) {u : Nat} (hu : L[k]? = some u) (hs : st u q < 0) : Inv st N a D L k (q + 1) :=
  ⟨h.len, h.ins, h.nod, h.head, h.low, h.wk, h.zero, h.mono, h.near, h.done, fun u' q' v hu' hq' hs' => by
    rcases Nat.lt_or_ge q' q with h1 | h1
    · exact h.now u' q' v hu' h1 hs'
    · obtain rfl : q' = q := by omega
      rw [hu] at hu'; cases hu'
      omega⟩
theorem inv_seen (h : Inv st N a D L k q) {u v : Nat} (hu : L[k]? = some u) (hs : st u q = (v : Int)) (hv : 0 ≤ D.getD v (-1)) : Inv st N a D L k (q + 1) :=
  ⟨h.len, h.ins, h.nod, h.head, h.low, h.wk, h.zero, h.mono, h.near, h.done, fun u' q' v' hu' hq' hs' => by
    rcases Nat.lt_or_ge q' q with h1 | h1
    · exact h.now u' q' v' hu' h1 hs'
    · obtain rfl : q' = q := by omega
      rw [hu] at hu'; cases hu'
      obtain rfl : v' = v := by omega
      have hm := h.mem hv
      obtain ⟨j, hj⟩ := List.getElem?_of_mem hm
      exact ⟨hm, h.near j u v' hj hu⟩⟩
theorem inv_new (h : Inv st N a D L k q) (hq : q < 4) {u v : Nat} (hu : L[k]? = some u) (hs : st u q = (v : Int)) (hvN : v < N) (hv : D.getD v (-1) < 0) :
    Inv st N a (D.set v (D.getD u (-1) + 1)) (L ++ [v]) k (q + 1) := by
  have hvL : v ∉ L := fun hm => by have := h.pos hm; omega
  have hkl : k < L.length := (List.getElem?_eq_some_iff.1 hu).1
  have huL : u ∈ L := List.mem_of_getElem? hu
  have hg : ∀ x : Nat, (D.set v (D.getD u (-1) + 1)).getD x (-1) = if v = x then D.getD u (-1) + 1 else D.getD x (-1) := fun x => getD_set _ _ _ _ (by rw [h.len]; exact hvN)
  have hold : ∀ x : Nat, x ∈ L → (D.set v (D.getD u (-1) + 1)).getD x (-1) = D.getD x (-1) := fun x hx => by
    rw [hg, if_neg (fun e => hvL (by rw [e]; exact hx))]
  have hnew : (D.set v (D.getD u (-1) + 1)).getD v (-1) = D.getD u (-1) + 1 := by rw [hg, if_pos rfl]
  have hat : ∀ j x : Nat, (L ++ [v])[j]? = some x → (L[j]? = some x ∧ x ∈ L ∧ j < L.length) ∨ (j = L.length ∧ x = v) := fun j x hx => by
    rw [List.getElem?_append] at hx
    split at hx
    · rename_i hj; exact .inl ⟨hx, List.mem_of_getElem? hx, hj⟩
    · rename_i hj
      have : j - L.length = 0 := by
        rcases Nat.eq_zero_or_pos (j - L.length) with e | e
        · exact e
        · rw [List.getElem?_eq_none (by simp; omega)] at hx; cases hx
      rw [this] at hx
      exact .inr ⟨by omega, by simpa using hx.symm⟩
  have hleft : ∀ j x : Nat, L[j]? = some x → (L ++ [v])[j]? = some x := fun j x hx => by
    rw [List.getElem?_append_left (List.getElem?_eq_some_iff.1 hx).1]; exact hx
  have hk2 : (L ++ [v])[k]? = some u := hleft k u hu
  refine ⟨by simp [h.len], fun x hx => ?_, ?_, hleft 0 a h.head, fun x => ?_, fun j x hx => ?_, ?_, fun i j x y hij hx hy => ?_, fun j x y hy hx => ?_, fun i x q' y hi hx hq' hs' => ?_, fun x q' y hx hq' hs' => ?_⟩
  · rcases List.mem_append.1 hx with h1 | h1
    · exact h.ins x h1
    · have : x = v := by simpa using h1
      omega
  · rw [List.nodup_append]
    refine ⟨h.nod, by simp, fun x hx y hy e => ?_⟩
    have : y = v := by simpa using hy
    subst this; subst e; exact hvL hx
  · rw [hg]
    by_cases e : v = x
    · subst e; exact .inr (by simp)
    · rw [if_neg e]
      rcases h.low x with h1 | h1
      · exact .inl h1
      · exact .inr (by simp [h1])
  · rcases hat j x hx with ⟨h1, h2, h3⟩ | ⟨rfl, rfl⟩
    · obtain ⟨n, a1, a2, a3⟩ := h.wk j x h1
      exact ⟨n, by rw [hold x h2]; exact a1, a2, a3⟩
    · obtain ⟨n, a1, a2, a3⟩ := h.wk k u hu
      exact ⟨n + 1, by rw [hnew, a1]; omega, by omega, .step a3 hq hs⟩
  · rw [hold a (List.mem_of_getElem? h.head)]; exact h.zero
  · rcases hat j y hy with ⟨h1, h2, h3⟩ | ⟨rfl, rfl⟩
    · rcases hat i x hx with ⟨g1, g2, g3⟩ | ⟨rfl, rfl⟩
      · rw [hold x g2, hold y h2]; exact h.mono i j x y hij g1 h1
      · omega
    · rcases hat i x hx with ⟨g1, g2, g3⟩ | ⟨_, rfl⟩
      · rw [hold x g2, hnew]; exact h.near i u x g1 hu
      · exact Int.le_refl _
  · rw [hk2] at hx; cases hx
    rw [hold u huL]
    rcases hat j y hy with ⟨h1, h2, h3⟩ | ⟨_, rfl⟩
    · rw [hold y h2]; exact h.near j u y h1 hu
    · rw [hnew]; exact Int.le_refl _
  · rcases hat i x hx with ⟨g1, g2, g3⟩ | ⟨h1, _⟩
    · obtain ⟨b1, b2⟩ := h.done i x q' y hi g1 hq' hs'
      exact ⟨by simp [b1], by rw [hold x g2, hold y b1]; exact b2⟩
    · omega
  · rw [hk2] at hx; cases hx
    rw [hold u huL]
    rcases Nat.lt_or_ge q' q with h1 | h1
    · obtain ⟨b1, b2⟩ := h.now u q' y hu h1 hs'
      exact ⟨by simp [b1], by rw [hold y b1]; exact b2⟩
    · obtain rfl : q' = q := by omega
      obtain rfl : y = v := by omega
      exact ⟨by simp, by rw [hnew]; exact Int.le_refl _⟩
theorem inv_next (h : Inv st N a D L k 4) {u : Nat} (hu : L[k]? = some u) : Inv st N a D L (k + 1) 0 :=
  ⟨h.len, h.ins, h.nod, h.head, h.low, h.wk, h.zero, h.mono, fun j x y hy hx => by
      have h1 := h.near j u y hy hu
      have h2 := h.mono k (k + 1) u x (by omega) hu hx
      omega,
    fun i x q' y hi hx hq' hs' => by
      rcases Nat.lt_or_ge i k with h1 | h1
      · exact h.done i x q' y h1 hx hq' hs'
      · obtain rfl : i = k := by omega
        exact h.now x q' y hx hq' hs',
    fun _ _ _ _ hq' => by omega⟩
/-- The search is over: what it knows are the distances. -/
theorem inv_end (h : Inv st N a D L k q) (hk : L.length ≤ k) (ha : a < N) (hst : ∀ u q v : Nat, st u q = (v : Int) → v < N) (v : Nat) : D.getD v (-1) = dZ st N a v := by
  have hall : ∀ n x, Wk st a n x → x ∈ L ∧ D.getD x (-1) ≤ (n : Int) := fun n x hx => by
    induction hx with
    | zero => exact ⟨List.mem_of_getElem? h.head, by rw [h.zero]; simp⟩
    | @step n u q' v _ hq' hs' ih =>
      obtain ⟨h1, h2⟩ := ih
      obtain ⟨i, hi⟩ := List.getElem?_of_mem h1
      have hil : i < L.length := (List.getElem?_eq_some_iff.1 hi).1
      obtain ⟨b1, b2⟩ := h.done i u q' v (by omega) hi hq' hs'
      exact ⟨b1, by omega⟩
  unfold dZ
  by_cases hv : v ∈ L
  · obtain ⟨j, hj⟩ := List.getElem?_of_mem hv
    have hjl : j < L.length := (List.getElem?_eq_some_iff.1 hj).1
    obtain ⟨n, h1, h2, h3⟩ := h.wk j v hj
    have hle := h.le
    rw [h1]
    refine (least_some (p := fun n => wkB st N a n v) (n := n) ((wkB_iff ha hst n v).2 h3) (fun m hm => ?_) (by omega)).symm
    have : ¬ wkB st N a m v = true := fun e => by
      have := (hall m v ((wkB_iff ha hst m v).1 e)).2
      omega
    simpa using this
  · have h1 : D.getD v (-1) = -1 := (h.low v).resolve_right hv
    rw [h1]
    refine (least_none fun m _ => ?_).symm
    have : ¬ wkB st N a m v = true := fun e => hv (hall m v ((wkB_iff ha hst m v).1 e)).1
    simpa using this
end
end Go.Proofs.Ytomjfcmaoeoigaa.reachP
