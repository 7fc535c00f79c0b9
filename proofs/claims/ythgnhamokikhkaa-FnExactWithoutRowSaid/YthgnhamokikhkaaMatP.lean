/- Square matrices, without the program: which are valid, a row and a column left out, the determinant row by row over the sets of columns that are used. -/
import Derived.Test.YthgnhamokikhkaaBarQ
import Derived.RowKit
namespace Go.Proofs.Ythgnhamokikhkaa.matP
open gridP gridQ bitP mazeP mazeQ forest deadP detP trsP barP
set_option linter.unusedVariables false

/-! ### valid matrices -/
def abS (l : List Int) : Int := (l.map fun z => max z (-z)).sum
def rowB (n : Nat) (l : List Int) : Bool := decide (l.length = n) && l.all (fun z => decide (-16 ≤ z ∧ z ≤ 16)) && decide (abS l ≤ 16)
def sqB (ls : List (List Int)) : Bool := ls.all (rowB ls.length) && decide (ls.length ≤ 16)
theorem abS_next {l : List Int} {k : Nat} {z : Int} (h : l[k]? = some z) : abS (l.take (k + 1)) = abS (l.take k) + max z (-z) := by
  unfold abS
  rw [List.take_add_one, h]; simp
theorem abS_bd : ∀ {l : List Int}, (∀ z ∈ l, -16 ≤ z ∧ z ≤ 16) → 0 ≤ abS l ∧ abS l ≤ 16 * (l.length : Int)
  | [], _ => by simp [abS]
  | z :: l, h => by
    have h1 := h z (by simp)
    have ih := abS_bd (l := l) (fun y hy => h y (by simp [hy]))
    have e : abS (z :: l) = max z (-z) + abS l := by simp [abS]
    rw [e, List.length_cons]
    have : 0 ≤ max z (-z) ∧ max z (-z) ≤ 16 := by
      rw [Int.max_def]; split <;> omega
    omega
theorem sq_len {ls : List (List Int)} (h : sqB ls = true) : ls.length ≤ 16 ∧ ∀ l ∈ ls, l.length = ls.length ∧ ∀ z ∈ l, -16 ≤ z ∧ z ≤ 16 := by
  unfold sqB at h
  rw [Bool.and_eq_true, List.all_eq_true] at h
  refine ⟨of_decide_eq_true h.2, fun l hl => ?_⟩
  have h1 := h.1 l hl
  unfold rowB at h1
  rw [Bool.and_eq_true, Bool.and_eq_true, List.all_eq_true] at h1
  exact ⟨of_decide_eq_true h1.1.1, fun z hz => of_decide_eq_true (h1.1.2 z hz)⟩
theorem sq_bad {ls : List (List Int)} {l : List Int} (hl : l ∈ ls) (h : rowB ls.length l = false) : sqB ls = false := by
  unfold sqB
  rw [← Bool.not_eq_true, Bool.and_eq_true, List.all_eq_true]
  rintro ⟨h1, -⟩
  rw [h1 l hl] at h; cases h
theorem row_bad {n : Nat} {l : List Int} {z : Int} (hz : z ∈ l) (h : ¬ (-16 ≤ z ∧ z ≤ 16)) : rowB n l = false := by
  unfold rowB
  rw [← Bool.not_eq_true, Bool.and_eq_true, Bool.and_eq_true, List.all_eq_true]
  rintro ⟨⟨-, h1⟩, -⟩
  exact h (of_decide_eq_true (h1 z hz))
/-- A row and a column are left out. -/
def woL (ls : List (List Int)) (k : Int) : List (List Int) := if sqB ls = true ∧ 0 ≤ k ∧ k < ls.length then (ls.eraseIdx k.toNat).map (fun l => l.eraseIdx k.toNat) else []
theorem woL_len (ls : List (List Int)) (k : Int) : (woL ls k).length ≤ 15 ∧ ∀ l ∈ woL ls k, l.length ≤ 15 := by
  unfold woL
  split
  · rename_i h
    obtain ⟨h1, h2⟩ := sq_len h.1
    refine ⟨?_, fun l hl => ?_⟩
    · rw [List.length_map, List.length_eraseIdx]; split <;> omega
    · obtain ⟨m, hm, rfl⟩ := List.mem_map.1 hl
      have hm' := List.mem_of_mem_eraseIdx hm
      have := (h2 m hm').1
      rw [List.length_eraseIdx]; split <;> omega
  · simp
/-- The matrix as a function. -/
def mfn (ls : List (List Int)) (i j : Nat) : Int := (ls.getD i []).getD j 0

/-! ### wraparound -/
open Go.RowKit
theorem wrap_shift (x q : Int) : wrap64 (x + 18446744073709551616 * q) = wrap64 x := by unfold wrap64; omega
theorem wrap_form (x : Int) : ∃ q, wrap64 x = x + 18446744073709551616 * q := ⟨-((x + 9223372036854775808) / 18446744073709551616), by unfold wrap64; omega⟩
theorem wrap_add (x y : Int) : wrap64 (wrap64 x + y) = wrap64 (x + y) := by
  obtain ⟨q, h⟩ := wrap_form x
  rw [h, show x + 18446744073709551616 * q + y = (x + y) + 18446744073709551616 * q by omega, wrap_shift]
theorem wrap_add' (x y : Int) : wrap64 (x + wrap64 y) = wrap64 (x + y) := by rw [Int.add_comm, wrap_add, Int.add_comm]
theorem wrap_mul (x y : Int) : wrap64 (wrap64 x * y) = wrap64 (x * y) := by
  obtain ⟨q, h⟩ := wrap_form x
  rw [h, Int.add_mul, Int.mul_assoc, wrap_shift]
theorem wrap_mul' (x y : Int) : wrap64 (x * wrap64 y) = wrap64 (x * y) := by rw [Int.mul_comm, wrap_mul, Int.mul_comm]
theorem wrap_neg (x : Int) : wrap64 (- wrap64 x) = wrap64 (-x) := by
  obtain ⟨q, h⟩ := wrap_form x
  rw [h, show -(x + 18446744073709551616 * q) = -x + 18446744073709551616 * (-q) by omega, wrap_shift]
theorem wrap_twice (x : Int) : wrap64 (wrap64 x) = wrap64 x := by have := wrap_add x 0; simpa using this
theorem wrap_zero {x : Int} (h : wrap64 x = 0) (y z : Int) : wrap64 (z + x * y) = wrap64 z := by
  have := wrap_mul x y
  rw [h, Int.zero_mul] at this
  rw [← wrap_add', ← this, wrap_add']; simp
theorem wrap_bd (x : Int) : -9223372036854775808 ≤ wrap64 x ∧ wrap64 x ≤ 9223372036854775807 := by unfold wrap64; omega

/-! ### a row expanded as a sum -/
def aft (cs : List Nat) (c : Nat) : Nat := cs.length - 1 - cs.idxOf c
theorem io_sum (r : Nat → Int) : ∀ {cs : List Nat} (f : List Nat → Int), cs.Nodup → io r f cs = (cs.map fun c => sg (aft cs c) * r c * f (cs.erase c)).sum
  | [], f, _ => rfl
  | c :: cs, f, h => by
    have h2 := List.nodup_cons.1 h
    show sg cs.length * r c * f cs + io r (fun l => f (c :: l)) cs = _
    rw [io_sum r (fun l => f (c :: l)) h2.2, List.map_cons, List.sum_cons]
    congr 1
    · simp [aft]
    · congr 1
      refine List.map_congr_left fun d hd => ?_
      have hne : c ≠ d := by rintro rfl; exact h2.1 hd
      have e1 : aft (c :: cs) d = aft cs d := by
        unfold aft
        have : (c :: cs).idxOf d = cs.idxOf d + 1 := by rw [List.idxOf_cons, beq_eq_false_iff_ne.2 hne]; rfl
        rw [this, List.length_cons]; omega
      have e2 : (c :: cs).erase d = c :: cs.erase d := by rw [List.erase_cons_tail (by simpa using hne)]
      rw [e1, e2]

/-! ### sets of columns -/
def cols (n s : Nat) : List Nat := (List.range n).filter fun k => decide (bt s k = 1)
theorem cols_nodup (n s : Nat) : (cols n s).Nodup := List.Pairwise.filter _ List.nodup_range
theorem cols_len (s : Nat) : ∀ n, (cols n s).length = pcN s n
  | 0 => rfl
  | n + 1 => by
    have := cols_len s n
    unfold cols at this ⊢
    rw [List.range_succ, List.filter_append, List.length_append, this]
    have hb := bt_le s n
    show pcN s n + _ = pcN s n + bt s n
    by_cases h : bt s n = 1
    · rw [List.filter_cons_of_pos (by simp [h])]; simp [h]
    · rw [List.filter_cons_of_neg (by simp [h])]
      simp; omega
theorem cols_mem {n s k : Nat} : k ∈ cols n s ↔ k < n ∧ bt s k = 1 := by unfold cols; simp
theorem filter_congr' {p q : Nat → Bool} : ∀ {l : List Nat}, (∀ k ∈ l, p k = q k) → l.filter p = l.filter q
  | [], _ => rfl
  | k :: l, h => by
    rw [List.filter_cons, List.filter_cons, h k (by simp), filter_congr' (fun j hj => h j (by simp [hj]))]
theorem cols_erase {n s k : Nat} (hk : bt s k = 1) : (cols n s).erase k = cols n (s - 2 ^ k) := by
  obtain ⟨h1, h2, h3⟩ := bt_take hk
  rw [(cols_nodup n s).erase_eq_filter]
  unfold cols
  rw [List.filter_filter]
  refine filter_congr' fun j hj => ?_
  have hb := bt_add h2 j
  rw [h3] at hb
  rw [Bool.eq_iff_iff]
  simp only [Bool.and_eq_true, decide_eq_true_iff, bne_iff_ne, ne_eq]
  rw [hb]
  by_cases e : j = k
  · subst e; simp [h2]
  · simp [e]
/-- How many columns of a set stand behind one. -/
def hi (n s k : Nat) : Nat := pcN s n - pcN s (k + 1)
theorem cols_split {n s k : Nat} (hk : k < n) (hb : bt s k = 1) : ∃ ys, cols n s = cols k s ++ k :: ys := by
  obtain ⟨d, rfl⟩ : ∃ d, n = k + 1 + d := ⟨n - k - 1, by omega⟩
  unfold cols
  rw [List.range_add, List.range_succ, List.filter_append, List.filter_append, List.filter_cons_of_pos (by simp [hb]), List.filter_nil]
  refine ⟨List.filter (fun k => decide (bt s k = 1)) ((List.range d).map (fun x => k + 1 + x)), ?_⟩
  rw [List.append_assoc]; rfl
theorem aft_cols {n s k : Nat} (hk : k < n) (hb : bt s k = 1) : aft (cols n s) k = hi n s k := by
  obtain ⟨ys, h⟩ := cols_split hk hb
  have h1 := cols_len s n
  have h2 := cols_len s k
  have h3 : k ∉ cols k s := fun hm => by have := (cols_mem.1 hm).1; omega
  have h4 : (cols n s).idxOf k = (cols k s).length := by rw [h, List.idxOf_append, if_neg h3]; simp
  unfold aft hi
  rw [h4, h1, h2]
  show _ = pcN s n - (pcN s k + bt s k)
  omega

/-! ### row by row -/
section
variable (a : Nat → Nat → Int) (n : Nat)
/-- The signed sum over the ways to choose the columns of a set. -/
def dsN (s : Nat) : Int := dt (rowsN a (pcN s n)) (cols n s)
def term (t k : Nat) : Int := sg (hi n t k) * a (pcN t n - 1) k * dsN a n (t - 2 ^ k)
/-- What was added up for a set after the sources below S, and the columns from κ on of S. -/
def acc (t S κ : Nat) : Int := if t = 0 then 1 else ((List.range n).map fun k => if bt t k = 1 ∧ (t - 2 ^ k < S ∨ (t - 2 ^ k = S ∧ κ ≤ k)) then term a n t k else 0).sum
end
section
variable {a : Nat → Nat → Int} {n : Nat}
theorem pc_take {t k : Nat} (hk : k < n) (h : bt t k = 1) : pcN t n = pcN (t - 2 ^ k) n + 1 := by
  obtain ⟨h1, h2, h3⟩ := bt_take h
  have := pc_add h2 hk
  rw [h3] at this; exact this
theorem ds_zero : dsN a n 0 = 1 := by
  have h1 : pcN 0 n = 0 := by
    induction n with
    | zero => rfl
    | succ n ih => rw [pcN, ih]; simp
  unfold dsN
  rw [h1]; rfl
theorem filter_sum (p : Nat → Bool) (f : Nat → Int) : ∀ l : List Nat, ((l.filter p).map f).sum = (l.map fun k => if p k = true then f k else 0).sum
  | [] => rfl
  | k :: l => by
    rw [List.filter_cons]
    simp only [List.map_cons, List.sum_cons]
    rw [← filter_sum p f l]
    split <;> simp
theorem ds_sum {t : Nat} (ht : 0 < pcN t n) : dsN a n t = ((List.range n).map fun k => if bt t k = 1 then term a n t k else 0).sum := by
  obtain ⟨m, hm⟩ : ∃ m, pcN t n = m + 1 := ⟨pcN t n - 1, by omega⟩
  unfold dsN
  rw [hm, rows_succ]
  show io (a m) (dt (rowsN a m)) (cols n t) = _
  rw [io_sum _ _ (cols_nodup n t)]
  unfold cols
  rw [filter_sum]
  congr 1
  refine List.map_congr_left fun k hk => ?_
  have hk := List.mem_range.1 hk
  by_cases h : bt t k = 1
  · rw [if_pos (by simp [h]), if_pos h]
    have h1 := aft_cols hk h
    have h2 := cols_erase (n := n) h
    unfold cols at h1 h2
    rw [h1, h2]
    unfold term dsN
    have h3 := pc_take (n := n) hk h
    rw [hm, Nat.add_sub_cancel, show pcN (t - 2 ^ k) n = m by omega]; rfl
  · rw [if_neg (by simp [h]), if_neg h]
theorem pos_pc {t : Nat} (ht : t < 2 ^ n) (h0 : t ≠ 0) : 0 < pcN t n := by
  apply Nat.pos_of_ne_zero
  intro h
  exact h0 (zero_of_bits ht (pc_none h))
/-- All sources were there. -/
theorem acc_all {t S κ : Nat} (ht : t < 2 ^ n) (h : t ≤ S) : acc a n t S κ = dsN a n t := by
  unfold acc
  by_cases h0 : t = 0
  · rw [if_pos h0, h0, ds_zero]
  · rw [if_neg h0, ds_sum (pos_pc ht h0)]
    congr 1
    refine List.map_congr_left fun k _ => ?_
    by_cases hb : bt t k = 1
    · have := (bt_take hb).1
      have hp : 0 < 2 ^ k := Nat.pow_pos (by decide)
      rw [if_pos hb, if_pos ⟨hb, .inl (by omega)⟩]
    · rw [if_neg hb, if_neg (fun h => hb h.1)]
theorem acc_start (t : Nat) : acc a n t 0 n = if t = 0 then 1 else 0 := by
  unfold acc
  split
  · rfl
  · exact sum_zero fun k hk => if_neg (by have := List.mem_range.1 hk; omega)
theorem acc_turn (t S : Nat) : acc a n t S 0 = acc a n t (S + 1) n := by
  unfold acc
  split
  · rfl
  · congr 1
    refine List.map_congr_left fun k hk => ?_
    have := List.mem_range.1 hk
    by_cases h : bt t k = 1 ∧ (t - 2 ^ k < S ∨ (t - 2 ^ k = S ∧ 0 ≤ k))
    · rw [if_pos h, if_pos ⟨h.1, .inl (by omega)⟩]
    · rw [if_neg h, if_neg (fun h' => h ⟨h'.1, by omega⟩)]
/-- A column of the source. -/
theorem acc_step {t S κ : Nat} (hκ : κ < n) : acc a n t S κ = acc a n t S (κ + 1) + (if bt S κ = 0 ∧ t = S + 2 ^ κ then term a n t κ else 0) := by
  unfold acc
  by_cases h0 : t = 0
  · subst h0
    have hp : 0 < 2 ^ κ := Nat.pow_pos (by decide)
    rw [if_pos rfl, if_pos rfl, if_neg (by omega)]; simp
  · rw [if_neg h0, if_neg h0]
    have h1 := sum_del (e := κ) (f := fun k => if bt t k = 1 ∧ (t - 2 ^ k < S ∨ (t - 2 ^ k = S ∧ κ ≤ k)) then term a n t k else 0)
      (f' := fun k => if k = κ then 0 else if bt t k = 1 ∧ (t - 2 ^ k < S ∨ (t - 2 ^ k = S ∧ κ ≤ k)) then term a n t k else 0) (by simp) hκ (fun g _ hg => by simp [hg])
    have h2 := sum_del (e := κ) (f := fun k => if bt t k = 1 ∧ (t - 2 ^ k < S ∨ (t - 2 ^ k = S ∧ κ + 1 ≤ k)) then term a n t k else 0)
      (f' := fun k => if k = κ then 0 else if bt t k = 1 ∧ (t - 2 ^ k < S ∨ (t - 2 ^ k = S ∧ κ ≤ k)) then term a n t k else 0) (by simp) hκ (fun g _ hg => by
        simp only [hg, if_false]
        by_cases hc : bt t g = 1 ∧ (t - 2 ^ g < S ∨ (t - 2 ^ g = S ∧ κ ≤ g))
        · rw [if_pos hc, if_pos ⟨hc.1, by omega⟩]
        · rw [if_neg hc, if_neg (fun h' => hc ⟨h'.1, by omega⟩)])
    rw [h1, h2]
    have hp : 0 < 2 ^ κ := Nat.pow_pos (by decide)
    by_cases hb : bt t κ = 1
    · obtain ⟨b1, b2, b3⟩ := bt_take hb
      by_cases hs : t - 2 ^ κ = S
      · have hs2 : t = S + 2 ^ κ := by omega
        rw [if_pos ⟨hb, .inr ⟨hs, Nat.le_refl _⟩⟩, if_neg (by omega), if_pos ⟨by rw [← hs]; exact b2, hs2⟩]; omega
      · have hs2 : ¬ (bt S κ = 0 ∧ t = S + 2 ^ κ) := by rintro ⟨_, h⟩; omega
        rw [if_neg hs2]
        by_cases hl : t - 2 ^ κ < S
        · rw [if_pos ⟨hb, .inl hl⟩, if_pos ⟨hb, .inl hl⟩]; omega
        · rw [if_neg (by omega), if_neg (by omega)]; omega
    · have hs2 : ¬ (bt S κ = 0 ∧ t = S + 2 ^ κ) := by
        rintro ⟨h, rfl⟩
        have := bt_add h κ
        rw [if_pos rfl] at this
        exact hb this
      rw [if_neg (fun h => hb h.1), if_neg (fun h => hb h.1), if_neg hs2]; omega
/-- Nothing comes from a source whose sum is 0, and nothing from the full set. -/
theorem acc_skip {t S : Nat} (hS : S < 2 ^ n) (h : (∀ k, k < n → bt S k = 1) ∨ Go.RowKit.wrap64 (dsN a n S) = 0) : ∀ {κ : Nat}, κ ≤ n → Go.RowKit.wrap64 (acc a n t S κ) = Go.RowKit.wrap64 (acc a n t S n) := by
  intro κ hκ
  obtain ⟨d, hd⟩ : ∃ d, n = κ + d := ⟨n - κ, by omega⟩
  induction d generalizing κ with
  | zero => rw [show κ = n by omega]
  | succ d ih =>
    rw [acc_step (by omega), ← ih (κ := κ + 1) (by omega) (by omega)]
    by_cases hc : bt S κ = 0 ∧ t = S + 2 ^ κ
    · rw [if_pos hc]
      rcases h with h | h
      · have := h κ (by omega); omega
      · unfold term
        rw [show t - 2 ^ κ = S by omega, Int.mul_comm (sg _ * _)]
        exact wrap_zero h _ _
    · rw [if_neg hc]; simp
theorem ds_full (hn : ∀ k, k < n → bt (2 ^ n - 1) k = 1) : dsN a n (2 ^ n - 1) = dm a (List.range n) := by
  have h1 : cols n (2 ^ n - 1) = List.range n := by
    unfold cols
    rw [List.filter_eq_self]
    intro k hk
    simp [hn k (List.mem_range.1 hk)]
  have h2 : pcN (2 ^ n - 1) n = n := by rw [← cols_len, h1]; simp
  unfold dsN dm
  rw [h1, h2]; rfl
end
/-- The determinant of a valid matrix, as it wraps around. -/
def deZ (ls : List (List Int)) : Int := if sqB ls = true then Go.RowKit.wrap64 (dm (mfn ls) (List.range ls.length)) else 0
end Go.Proofs.Ythgnhamokikhkaa.matP
