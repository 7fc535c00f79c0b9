/- First entries, without the program: the maze that a walk leaves behind, when it has been everywhere, the way row by row. -/
import Derived.Test.YthakbjdkcdppjaaWayP
import Derived.Test.YthakbjdkcdppjaaPerfP
namespace Go.Proofs.Ythakbjdkcdppjaa.entP
open gridP gridQ bitP mazeP mazeQ mazeM reachP reachM reachN reachD wayP perfP
set_option linter.unusedVariables false

/-- The number at a place. -/
def atN (l : List Int) (k : Nat) : Int := (l[k]?).getD 0
theorem at_is {l : List Int} {k : Nat} {u : Int} (h : l[k]? = some u) : atN l k = u := by unfold atN; rw [h]; rfl
theorem at_some {l : List Int} {k : Nat} (h : k < l.length) : l[k]? = some (atN l k) := by unfold atN; rw [List.getElem?_eq_getElem h]; rfl
theorem at_mem {l : List Int} {k : Nat} (h : k < l.length) : atN l k ∈ l := List.mem_of_getElem? (at_some h)
/-- The gap of a step. -/
def geZ (x y : Int) (l w : List Int) (k : Nat) : Int := gpZ x y (atN l k) (atN w k)
/-- The open gaps behind the first k steps: those of first entries. -/
def feO (x y : Int) (l w : List Int) : Nat → Int
  | 0 => 0
  | k + 1 => if atN l (k + 1) ∈ l.take (k + 1) then feO x y l w k else sgZ x y (feO x y l w k) (geZ x y l w k) true
/-- Those of last exits. -/
def leO (x y : Int) (l w : List Int) : Nat → Int
  | 0 => 0
  | k + 1 => if atN l k ∈ l.drop (k + 1) then leO x y l w k else sgZ x y (leO x y l w k) (geZ x y l w k) true
theorem fe_in {x y : Int} {l w : List Int} {k : Nat} (h : atN l (k + 1) ∈ l.take (k + 1)) : feO x y l w (k + 1) = feO x y l w k := by rw [feO, if_pos h]
theorem fe_out {x y : Int} {l w : List Int} {k : Nat} (h : atN l (k + 1) ∉ l.take (k + 1)) : feO x y l w (k + 1) = sgZ x y (feO x y l w k) (geZ x y l w k) true := by rw [feO, if_neg h]
theorem le_in {x y : Int} {l w : List Int} {k : Nat} (h : atN l k ∈ l.drop (k + 1)) : leO x y l w (k + 1) = leO x y l w k := by rw [leO, if_pos h]
theorem le_out {x y : Int} {l w : List Int} {k : Nat} (h : atN l k ∉ l.drop (k + 1)) : leO x y l w (k + 1) = sgZ x y (leO x y l w k) (geZ x y l w k) true := by rw [leO, if_neg h]

/-- Whether a walk through the open grid goes on to its end, its cells, where it ends. -/
def twB (x y c : Int) (w : List Int) : Bool := wwB (fmX x y) (fmY x y) (fmO x y) c w
def twL (x y c : Int) (w : List Int) : List Int := coL (fmX x y) (fmY x y) (fmO x y) c w
def twZ (x y c : Int) (w : List Int) : Int := wwZ (fmX x y) (fmY x y) (fmO x y) c w
/-- What first entries answer. -/
def feX (x y c : Int) (w : List Int) : Int := if twB x y c w = true then x else 0
def feY (x y c : Int) (w : List Int) : Int := if twB x y c w = true then y else 0
def feZ (x y c : Int) (w : List Int) : Int := if twB x y c w = true then feO x y (twL x y c w) w w.length else 0
def feB (x y c : Int) (w : List Int) : Bool := twB x y c w && ipB x y (feZ x y c w)
/-- What last exits answer. -/
def leZ (x y c : Int) (w : List Int) : Int := if twB x y c w = true then leO x y (twL x y c w) w w.length else 0
def leB (x y c : Int) (w : List Int) : Bool := twB x y c w && ipB x y (leZ x y c w)
theorem tw_none {x y c : Int} {w : List Int} (h : twB x y c w = false) : twL x y c w = [] := by
  unfold twL coL; unfold twB at h; rw [if_neg (by rw [h]; decide)]
theorem tw_len {x y c : Int} {w : List Int} (h : twB x y c w = true) : (twL x y c w).length = w.length + 1 := by
  unfold twL coL; unfold twB at h; rw [if_pos h, ceL_len]
theorem tw_pos {x y c : Int} {w : List Int} (h : 0 < (twL x y c w).length) : twB x y c w = true := by
  cases hb : twB x y c w with
  | true => rfl
  | false => rw [tw_none hb] at h; exact absurd h (by simp)
theorem fm_is {x y : Int} (h : OkZ x y) : fmX x y = x ∧ fmY x y = y ∧ fmO x y = topZ x y := by
  unfold fmX fmY fmO
  exact ⟨if_pos h, if_pos h, if_pos h⟩
theorem tw_ok {x y c : Int} {w : List Int} (h : twB x y c w = true) : OkZ x y := by
  unfold twB wwB at h
  simp only [Bool.and_eq_true] at h
  have h1 := (of_decide_eq_true h.1).1.1
  by_cases hk : 1 ≤ x ∧ x ≤ 4 ∧ 1 ≤ y ∧ y ≤ 4
  · exact hk
  · unfold fmX fmY at h1
    rw [if_neg hk] at h1
    omega
theorem tw_far {x y c : Int} {w : List Int} (h : twB x y c w = true) : w.length ≤ 400 := by
  unfold twB wwB at h
  simp only [Bool.and_eq_true, decide_eq_true_iff] at h
  exact h.2.1

/-! ### how many cells there were -/
def frN (l : List Int) : Nat → Nat
  | 0 => 0
  | k + 1 => frN l k + if atN l k ∈ l.take k then 0 else 1
/-- The places at which a number is new. -/
def fsL (l : List Int) : Nat → List Int
  | 0 => []
  | k + 1 => if atN l k ∈ l.take k then fsL l k else fsL l k ++ [(k : Int)]
/-- The new numbers. -/
def fcL (l : List Int) : Nat → List Int
  | 0 => []
  | k + 1 => if atN l k ∈ l.take k then fcL l k else fcL l k ++ [atN l k]
theorem fr_in {l : List Int} {k : Nat} (h : atN l k ∈ l.take k) : frN l (k + 1) = frN l k := by rw [frN, if_pos h]; rfl
theorem fr_out {l : List Int} {k : Nat} (h : atN l k ∉ l.take k) : frN l (k + 1) = frN l k + 1 := by rw [frN, if_neg h]
theorem fs_in {l : List Int} {k : Nat} (h : atN l k ∈ l.take k) : fsL l (k + 1) = fsL l k := by rw [fsL, if_pos h]
theorem fs_out {l : List Int} {k : Nat} (h : atN l k ∉ l.take k) : fsL l (k + 1) = fsL l k ++ [(k : Int)] := by rw [fsL, if_neg h]
theorem fr_le (l : List Int) : ∀ k, frN l k ≤ k
  | 0 => Nat.le_refl _
  | k + 1 => by have := fr_le l k; rw [frN]; split <;> omega
theorem fr_mono (l : List Int) {j : Nat} : ∀ k, j ≤ k → frN l j ≤ frN l k
  | 0, h => by obtain rfl : j = 0 := by omega
               exact Nat.le_refl _
  | k + 1, h => by
    rcases Nat.lt_or_ge j (k + 1) with h' | h'
    · have := fr_mono l k (show j ≤ k by omega); rw [frN]; omega
    · obtain rfl : j = k + 1 := by omega
      exact Nat.le_refl _
theorem fs_len (l : List Int) : ∀ k, (fsL l k).length = frN l k
  | 0 => rfl
  | k + 1 => by
    by_cases h : atN l k ∈ l.take k
    · rw [fs_in h, fr_in h, fs_len l k]
    · rw [fs_out h, fr_out h, List.length_append, fs_len l k]; rfl
theorem fc_len (l : List Int) : ∀ k, (fcL l k).length = frN l k
  | 0 => rfl
  | k + 1 => by
    by_cases h : atN l k ∈ l.take k
    · rw [fr_in h, fcL, if_pos h, fc_len l k]
    · rw [fr_out h, fcL, if_neg h, List.length_append, fc_len l k]; rfl
theorem fc_mem (l : List Int) : ∀ k, k ≤ l.length → ∀ u, u ∈ fcL l k ↔ u ∈ l.take k
  | 0, _, u => by simp [fcL]
  | k + 1, hk, u => by
    have hu := at_some (show k < l.length by omega)
    rw [take_one hu]
    by_cases h : atN l k ∈ l.take k
    · rw [fcL, if_pos h, fc_mem l k (by omega) u, List.mem_append, List.mem_singleton]
      exact ⟨.inl, fun h' => h'.elim id fun e => by rw [e]; exact h⟩
    · rw [fcL, if_neg h, List.mem_append, List.mem_append, fc_mem l k (by omega) u]
theorem fc_nodup (l : List Int) : ∀ k, k ≤ l.length → (fcL l k).Nodup
  | 0, _ => by simp [fcL]
  | k + 1, hk => by
    by_cases h : atN l k ∈ l.take k
    · rw [fcL, if_pos h]; exact fc_nodup l k (by omega)
    · rw [fcL, if_neg h, List.nodup_append]
      exact ⟨fc_nodup l k (by omega), by simp, fun a ha b hb => by simp at hb; subst hb; exact fun e => h (by rw [← e]; exact (fc_mem l k (by omega) a).1 ha)⟩
/-- The places of new numbers. -/
theorem fs_mem (l : List Int) : ∀ k, ∀ u ∈ fsL l k, ∃ j : Nat, u = (j : Int) ∧ j < k ∧ atN l j ∉ l.take j
  | 0, u, h => by simp [fsL] at h
  | k + 1, u, h => by
    by_cases hm : atN l k ∈ l.take k
    · rw [fs_in hm] at h
      obtain ⟨j, h1, h2, h3⟩ := fs_mem l k u h
      exact ⟨j, h1, by omega, h3⟩
    · rw [fs_out hm] at h
      rcases List.mem_append.1 h with h | h
      · obtain ⟨j, h1, h2, h3⟩ := fs_mem l k u h
        exact ⟨j, h1, by omega, h3⟩
      · exact ⟨k, List.mem_singleton.1 h, by omega, hm⟩
/-- The last of them. -/
theorem fs_last (l : List Int) : ∀ k, 0 < frN l k → ∃ j : Nat, j < k ∧ (fsL l k)[frN l k - 1]? = some (j : Int) ∧ frN l (j + 1) = frN l k ∧ frN l j + 1 = frN l k
  | 0, h => absurd h (by simp [frN])
  | k + 1, h => by
    by_cases hm : atN l k ∈ l.take k
    · rw [fr_in hm] at h ⊢
      rw [fs_in hm]
      obtain ⟨j, h1, h2, h3, h4⟩ := fs_last l k h
      exact ⟨j, by omega, h2, h3, h4⟩
    · rw [fr_out hm, fs_out hm]
      refine ⟨k, by omega, ?_, fr_out hm, rfl⟩
      rw [Nat.add_sub_cancel, ← fs_len l k]; simp
/-- The first is the first. -/
theorem fs_first (l : List Int) : ∀ k, (fsL l (k + 1))[0]? = some 0
  | 0 => by simp [fsL]
  | k + 1 => by
    by_cases hm : atN l (k + 1) ∈ l.take (k + 1)
    · rw [fs_in hm]; exact fs_first l k
    · rw [fs_out hm]
      have h := fs_first l k
      rw [List.getElem?_append_left (List.getElem?_eq_some_iff.1 h).1]; exact h

/-- A first entry's gap is opened. -/
def stO (x y : Int) (l w : List Int) (z s : Int) : Int := sgZ x y z (geZ x y l w (s - 1).toNat) true
def foO (x y : Int) (l w F : List Int) : Int := F.foldl (stO x y l w) 0
theorem fo_next {x y : Int} {l w F : List Int} {j : Nat} {s : Int} (h : F[j]? = some s) : foO x y l w (F.take (j + 1)) = stO x y l w (foO x y l w (F.take j)) s := by
  rw [take_one h]; unfold foO; rw [List.foldl_append]; rfl
theorem fs_one (l : List Int) (k : Nat) : 1 ≤ (fsL l (k + 1)).length := (List.getElem?_eq_some_iff.1 (fs_first l k)).1
theorem fs_tail_in {l : List Int} {k : Nat} (h : atN l (k + 1) ∈ l.take (k + 1)) : (fsL l (k + 2)).drop 1 = (fsL l (k + 1)).drop 1 := by rw [fs_in h]
theorem fs_tail_out {l : List Int} {k : Nat} (h : atN l (k + 1) ∉ l.take (k + 1)) : (fsL l (k + 2)).drop 1 = (fsL l (k + 1)).drop 1 ++ [(k : Int) + 1] := by
  rw [fs_out h, List.drop_append_of_le_length (fs_one l k)]; rfl
theorem fo_fe (x y : Int) (l w : List Int) : ∀ k, foO x y l w ((fsL l (k + 1)).drop 1) = feO x y l w k
  | 0 => by simp [fsL, foO, feO]
  | k + 1 => by
    by_cases h : atN l (k + 1) ∈ l.take (k + 1)
    · rw [fs_tail_in h, fe_in h, fo_fe x y l w k]
    · rw [fs_tail_out h, fe_out h]
      unfold foO
      rw [List.foldl_append]
      have := fo_fe x y l w k
      unfold foO at this
      rw [this]
      show stO x y l w (feO x y l w k) ((k : Int) + 1) = _
      unfold stO
      rw [show ((k : Int) + 1 - 1).toNat = k by omega]
theorem fs_rng (l : List Int) : ∀ k, ∀ s ∈ (fsL l (k + 1)).drop 1, ∃ i : Nat, s = (i : Int) + 1 ∧ i < k
  | 0, s, h => by simp [fsL] at h
  | k + 1, s, h => by
    by_cases hm : atN l (k + 1) ∈ l.take (k + 1)
    · rw [fs_tail_in hm] at h
      obtain ⟨i, h1, h2⟩ := fs_rng l k s h
      exact ⟨i, h1, by omega⟩
    · rw [fs_tail_out hm] at h
      rcases List.mem_append.1 h with h | h
      · obtain ⟨i, h1, h2⟩ := fs_rng l k s h
        exact ⟨i, h1, by omega⟩
      · exact ⟨k, List.mem_singleton.1 h, by omega⟩

/-! ### when it has been everywhere -/
def ctF (l : List Int) (N : Int) : Option Nat := (List.range l.length).find? fun k => decide ((frN l (k + 1) : Int) = N)
def ctZ (x y c : Int) (w : List Int) : Int := match ctF (twL x y c w) (x * y) with | some k => (k : Int) | none => -1
theorem ct_some {x y c : Int} {w : List Int} {k : Nat} (hk : k < (twL x y c w).length) (he : (frN (twL x y c w) (k + 1) : Int) = x * y) (hn : ∀ j, j < k → (frN (twL x y c w) (j + 1) : Int) ≠ x * y) : ctZ x y c w = k := by
  have : ctF (twL x y c w) (x * y) = some k := by
    unfold ctF
    rw [List.find?_range_eq_some]
    exact ⟨decide_eq_true he, List.mem_range.2 hk, fun j hj => by simpa using hn j hj⟩
  unfold ctZ; rw [this]
theorem ct_none {x y c : Int} {w : List Int} (hn : ∀ j, j < (twL x y c w).length → (frN (twL x y c w) (j + 1) : Int) ≠ x * y) : ctZ x y c w = -1 := by
  have : ctF (twL x y c w) (x * y) = none := by
    unfold ctF
    rw [List.find?_range_eq_none]
    exact fun j hj => by simpa using hn j hj
  unfold ctZ; rw [this]

/-! ### the way row by row -/
def snD (k : Nat) : Int := if k % 2 = 1 then 3 else 1
/-- The steps of a row, with the one to it. -/
def snR (x : Int) (k : Nat) : List Int := (if k = 0 then [] else [2]) ++ List.replicate (x - 1).toNat (snD k)
def snK (x : Int) : Nat → List Int
  | 0 => []
  | k + 1 => snK x k ++ snR x k
/-- While a row is written. -/
def snP (x : Int) (k i : Nat) : List Int := snK x k ++ ((if k = 0 then [] else [2]) ++ List.replicate i (snD k))
theorem sn_zero (x : Int) {k : Nat} (h : k = 0) : snP x k 0 = snK x k := by unfold snP; rw [if_pos h]; simp
theorem sn_down (x : Int) {k : Nat} (h : k ≠ 0) : snP x k 0 = snK x k ++ [2] := by unfold snP; rw [if_neg h]; simp
theorem sn_next (x : Int) (k i : Nat) : snP x k (i + 1) = snP x k i ++ [snD k] := by unfold snP; rw [List.replicate_succ']; simp
theorem sn_full (x : Int) (k : Nat) : snP x k (x - 1).toNat = snK x (k + 1) := rfl
def snL (x y : Int) : List Int := if 1 ≤ x ∧ x ≤ 4 ∧ 1 ≤ y ∧ y ≤ 4 then snK x y.toNat else []
theorem sn_len {x : Int} (h : x ≤ 4) : ∀ k, (snK x k).length ≤ 4 * k
  | 0 => Nat.le_refl _
  | k + 1 => by
    have := sn_len h k
    rw [snK, List.length_append]
    unfold snR
    rw [List.length_append, List.length_replicate]
    split <;> simp <;> omega
theorem sp_len {x : Int} (h : x ≤ 4) (k i : Nat) (hi : i ≤ 3) : (snP x k i).length ≤ 4 * k + 4 := by
  have := sn_len h k
  unfold snP
  rw [List.length_append, List.length_append, List.length_replicate]
  split <;> simp <;> omega
theorem sn_most (x y : Int) : (snL x y).length ≤ 16 := by
  unfold snL
  split
  · rename_i h
    have := sn_len (x := x) (by omega) y.toNat
    omega
  · simp
end Go.Proofs.Ythakbjdkcdppjaa.entP
