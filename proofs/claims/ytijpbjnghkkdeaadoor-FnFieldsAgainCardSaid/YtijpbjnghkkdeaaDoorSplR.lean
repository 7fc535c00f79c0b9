/- The fields of a line, joined again: plain facts. -/
import Derived.Test.YtijpbjnghkkdeaaDoorSplP
namespace Go.Proofs.YtijpbjnghkkdeaaDoor.splR
open hexP splP
set_option linter.unusedVariables false

/-- The fields, each behind it a space. -/
def joined (fs : List (List UInt8)) : List UInt8 := fs.flatMap fun f => f ++ [32]
theorem joined_append (a b : List (List UInt8)) : joined (a ++ b) = joined a ++ joined b := by simp [joined]
theorem joined_one (f : List UInt8) : joined [f] = f ++ [32] := by simp [joined]

/-- What holds of the fields on the way. -/
structure Inv (l : List UInt8) (p : List (List UInt8) × List UInt8) : Prop where
  fs : ∀ f ∈ p.1, f ≠ [] ∧ ∀ b ∈ f, b.toNat ≠ 32 ∧ b ∈ l
  cur : ∀ b ∈ p.2, b.toNat ≠ 32 ∧ b ∈ l
theorem inv_step {l : List UInt8} {p : List (List UInt8) × List UInt8} {b : UInt8} (h : Inv l p) (hb : b ∈ l) : Inv l (stp p b) := by
  unfold stp
  by_cases h32 : b.toNat = 32
  · rw [if_pos h32]
    by_cases hz : p.2 = []
    · rw [if_pos hz]; exact ⟨h.fs, fun _ hx => by cases hx⟩
    · rw [if_neg hz]
      refine ⟨fun f hf => ?_, fun _ hx => by cases hx⟩
      rcases List.mem_append.1 hf with hf | hf
      · exact h.fs f hf
      · simp at hf; subst hf; exact ⟨hz, h.cur⟩
  · rw [if_neg h32]
    refine ⟨h.fs, fun x hx => ?_⟩
    rcases List.mem_append.1 hx with hx | hx
    · exact h.cur x hx
    · simp at hx; subst hx; exact ⟨h32, hb⟩
theorem inv_fold {l : List UInt8} : ∀ (m : List UInt8) (p : List (List UInt8) × List UInt8), Inv l p → (∀ b ∈ m, b ∈ l) → Inv l (m.foldl stp p)
  | [], p, h, _ => h
  | b :: m, p, h, hm => inv_fold m (stp p b) (inv_step h (hm b (by simp))) (fun x hx => hm x (by simp [hx]))
theorem inv_scan (l : List UInt8) : Inv l (scan l) := inv_fold l ([], []) ⟨fun _ h => (by cases h), fun _ h => (by cases h)⟩ (fun _ h => h)
theorem split_inv (l : List UInt8) : ∀ f ∈ split l, f ≠ [] ∧ ∀ b ∈ f, b.toNat ≠ 32 ∧ b ∈ l := by
  intro f hf
  unfold split close at hf
  by_cases hz : (scan l).2 = []
  · rw [if_pos hz] at hf; exact (inv_scan l).fs f hf
  · rw [if_neg hz] at hf
    rcases List.mem_append.1 hf with hf | hf
    · exact (inv_scan l).fs f hf
    · simp at hf; subst hf; exact ⟨hz, (inv_scan l).cur⟩

theorem fold_field : ∀ (f : List UInt8) (acc : List (List UInt8)) (cur : List UInt8), (∀ b ∈ f, b.toNat ≠ 32) → f.foldl stp (acc, cur) = (acc, cur ++ f)
  | [], acc, cur, _ => by simp
  | b :: f, acc, cur, h => by
    have hb : b.toNat ≠ 32 := h b (by simp)
    simp only [List.foldl_cons]
    have e : stp (acc, cur) b = (acc, cur ++ [b]) := by unfold stp; rw [if_neg hb]
    rw [e, fold_field f acc (cur ++ [b]) (fun x hx => h x (by simp [hx]))]
    simp
theorem fold_joined : ∀ (fs : List (List UInt8)) (acc : List (List UInt8)), (∀ f ∈ fs, f ≠ [] ∧ ∀ b ∈ f, b.toNat ≠ 32) → (joined fs).foldl stp (acc, []) = (acc ++ fs, [])
  | [], acc, _ => by simp [joined]
  | f :: fs, acc, h => by
    have hf := h f (by simp)
    have e : joined (f :: fs) = f ++ ([32] ++ joined fs) := by simp [joined]
    rw [e, List.foldl_append, List.foldl_append, fold_field f acc [] hf.2]
    have e2 : [(32 : UInt8)].foldl stp (acc, [] ++ f) = (acc ++ [f], []) := by
      simp only [List.foldl_cons, List.foldl_nil, List.nil_append]
      unfold stp
      rw [if_pos (by decide), if_neg hf.1]
    rw [e2, fold_joined fs (acc ++ [f]) (fun x hx => h x (by simp [hx]))]
    simp
theorem split_joined (l : List UInt8) : split (joined (split l)) = split l := by
  have h := fold_joined (split l) [] (fun f hf => ⟨(split_inv l f hf).1, fun b hb => ((split_inv l f hf).2 b hb).1⟩)
  show close (scan (joined (split l))) = split l
  unfold scan
  rw [h]
  simp [close]

theorem fold_size : ∀ (m : List UInt8) (p : List (List UInt8) × List UInt8), (joined (m.foldl stp p).1).length + 2 * (m.foldl stp p).2.length ≤ 2 * m.length + ((joined p.1).length + 2 * p.2.length)
  | [], p => by simp
  | b :: m, p => by
    have ih := fold_size m (stp p b)
    have h1 : (joined (stp p b).1).length + 2 * (stp p b).2.length ≤ 2 + ((joined p.1).length + 2 * p.2.length) := by
      unfold stp
      by_cases h32 : b.toNat = 32
      · rw [if_pos h32]
        by_cases hz : p.2 = []
        · rw [if_pos hz]; simp; omega
        · rw [if_neg hz]
          have := List.length_pos_iff.2 hz
          simp only [joined_append, joined_one, List.length_append, List.length_nil, List.length_cons]; omega
      · rw [if_neg h32]; simp; omega
    simp only [List.foldl_cons, List.length_cons]
    omega
theorem joined_size (l : List UInt8) : (joined (split l)).length ≤ 2 * l.length := by
  have h := fold_size l ([], [])
  simp only [joined, List.flatMap_nil, List.length_nil] at h
  have h' : (joined (scan l).1).length + 2 * (scan l).2.length ≤ 2 * l.length := by
    unfold scan joined
    omega
  unfold split close
  by_cases hz : (scan l).2 = []
  · rw [if_pos hz]; omega
  · rw [if_neg hz]
    have := List.length_pos_iff.2 hz
    rw [joined_append, joined_one]
    simp only [List.length_append, List.length_cons, List.length_nil]; omega
theorem joined_take (fs : List (List UInt8)) (i : Nat) : (joined (fs.take i)).length ≤ (joined fs).length := by
  have e : joined fs = joined (fs.take i) ++ joined (fs.drop i) := by rw [← joined_append, List.take_append_drop]
  rw [e, List.length_append]; omega
theorem joined_succ (fs : List (List UInt8)) (i : Nat) (h : i < fs.length) : joined (fs.take (i + 1)) = joined (fs.take i) ++ (fs[i] ++ [32]) := by
  rw [List.take_succ_eq_append_getElem h, joined_append, joined_one]
theorem joined_part (fs : List (List UInt8)) (i : Nat) (h : i < fs.length) : (fs[i]).length ≤ (joined fs).length := by
  have h1 := joined_take fs (i + 1)
  rw [joined_succ fs i h] at h1
  simp only [List.length_append] at h1; omega

/-- The joined fields of a valid line are a valid line, if they are short enough. -/
theorem ok_joined {s : ByteArray} (h : OK s) (hsz : (joined (split s.data.toList)).length ≤ 600) : OK ⟨(joined (split s.data.toList)).toArray⟩ := by
  refine ⟨by show (joined (split s.data.toList)).toArray.size ≤ 600; rw [List.size_toArray]; exact hsz, fun j hj => ?_, ?_⟩
  · have hj' : j < (joined (split s.data.toList)).length := by
      have e : (⟨(joined (split s.data.toList)).toArray⟩ : ByteArray).size = (joined (split s.data.toList)).length := by
        show (joined (split s.data.toList)).toArray.size = _
        rw [List.size_toArray]
      omega
    show okB ((joined (split s.data.toList))[j]'hj')
    have hm : (joined (split s.data.toList))[j]'hj' ∈ joined (split s.data.toList) := List.getElem_mem hj'
    generalize (joined (split s.data.toList))[j]'hj' = b at hm
    unfold joined at hm
    obtain ⟨f, hf, hb⟩ := List.mem_flatMap.1 hm
    rcases List.mem_append.1 hb with hb | hb
    · have hbl := ((split_inv s.data.toList f hf).2 b hb).2
      obtain ⟨i, hi, rfl⟩ := List.mem_iff_getElem.1 hbl
      exact h.2.1 i (by simpa using hi)
    · simp at hb; subst hb; unfold okB; decide
  · show (split (joined (split s.data.toList))).length ≤ 24
    rw [split_joined]; exact h.2.2
end Go.Proofs.YtijpbjnghkkdeaaDoor.splR
