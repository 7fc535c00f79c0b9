/- The contracts of the library's Delete at rows and at integers, and of the program's leaving out of a row and a column. -/
import Derived.Test.YthgnhamokikhkaaDetI1
import Derived.Test.YthgnhamokikhkaaDetI2
import Derived.Deep.RegionLaw
namespace Go.Proofs.Ythgnhamokikhkaa.detI
open Go.ChangeShapes Go.WideShapes Go.ChangeAt Go.RowKit
open draw gridC mazeC intsP reachD intA intK listK rowsP rowsL matP
set_option linter.unusedVariables false

/-! ### cells stored one after the other -/
def sets (xs : List Value) (o : Nat) : List Value → List Value
  | [] => xs
  | v :: vs => sets (xs.set o v) (o + 1) vs
theorem sets_len : ∀ (vs xs : List Value) (o : Nat), (sets xs o vs).length = xs.length
  | [], _, _ => rfl
  | v :: vs, xs, o => by rw [sets, sets_len vs, List.length_set]
theorem sets_at : ∀ (vs xs : List Value) (o j : Nat), j < xs.length → (sets xs o vs)[j]? = if o ≤ j ∧ j < o + vs.length then vs[j - o]? else xs[j]?
  | [], xs, o, j, h => by rw [sets, if_neg (by simp only [List.length_nil]; omega)]
  | v :: vs, xs, o, j, h => by
    rw [sets, sets_at vs _ _ _ (by simpa using h)]
    by_cases h1 : o + 1 ≤ j ∧ j < o + 1 + vs.length
    · rw [if_pos h1, if_pos ⟨by omega, by simp; omega⟩, show j - o = (j - (o + 1)) + 1 by omega, List.getElem?_cons_succ]
    · rw [if_neg h1]
      by_cases h2 : j = o
      · subst h2
        rw [if_pos ⟨Nat.le_refl _, by simp⟩, List.getElem?_set_self h, Nat.sub_self]; rfl
      · rw [if_neg (by simp; omega), List.getElem?_set_ne (fun e => h2 e.symm)]
theorem own_sets {b s g n cap : Nat} {e : TypeId} : ∀ (vs : List Value) (o : Nat) {xs : List Value} {X : World}, X.ownsRow b e s (.slice (some ⟨g, 0, none⟩) n cap) n xs →
    (X.setCells g o vs).ownsRow b e s (.slice (some ⟨g, 0, none⟩) n cap) n (sets xs o vs) ∧ X.grownBy (X.setCells g o vs) (some g)
  | [], o, xs, X, h => ⟨h, ⟨rfl, rfl, rfl, Nat.le_refl _, fun _ _ _ => rfl⟩⟩
  | v :: vs, o, xs, X, h => by
    obtain ⟨h1, g1⟩ := h.stored o v
    obtain ⟨h2, g2⟩ := own_sets vs (o + 1) h1
    exact ⟨h2, ⟨g2.os.trans g1.os, g2.tape.trans g1.tape, g2.output.trans g1.output, Nat.le_trans g1.size g2.size, fun k hk hne => (g2.block k (Nat.lt_of_lt_of_le hk g1.size) hne).trans (g1.block k hk hne)⟩⟩
/-- The first m elements. -/
theorem own_cut {X : World} {b g n cap m : Nat} {e : TypeId} {xs : List Value} (h : X.ownsRow b e 1 (.slice (some ⟨g, 0, none⟩) n cap) n xs) (hm : m ≤ n) : X.ownsRow b e 1 (.slice (some ⟨g, 0, none⟩) m cap) m (xs.take m) := by
  have hl := h.1
  refine ⟨by rw [List.length_take]; omega, ?_⟩
  rcases h.2 with ⟨e1, _⟩ | ⟨g', cap', cur, e1, hb, hh, hn, hc, hs, ht⟩
  · cases e1
  · cases e1
    refine .inr ⟨g, cap, cur, rfl, hb, hh, by omega, hc, hs, ?_⟩
    rw [← ht, List.take_take, Nat.min_eq_left (by omega), Nat.mul_one]
/-- What is left when an element was left out and the last place cleared. -/
theorem sets_erase {xs : List Value} {k n : Nat} (z : Value) (hn : xs.length = n) (hk : k < n) : (sets (sets xs k (xs.drop (k + 1))) (n - 1) [z]).take (n - 1) = xs.eraseIdx k := by
  apply List.ext_getElem?
  intro j
  rw [List.getElem?_take, List.getElem?_eraseIdx]
  by_cases hj : j < n - 1
  · rw [if_pos hj, sets_at _ _ _ _ (by rw [sets_len]; omega), if_neg (by omega), sets_at _ _ _ _ (by omega), List.length_drop]
    by_cases hjk : j < k
    · rw [if_neg (by omega), if_pos hjk]
    · rw [if_pos (by omega), if_neg hjk, List.getElem?_drop]
      congr 1; omega
  · rw [if_neg hj]
    split
    · rw [List.getElem?_eq_none (by omega)]
    · rw [List.getElem?_eq_none (by omega)]

/-- An owned row of which an element is left out. -/
def Del (b : Nat) (e : TypeId) (g n cap k : Nat) (xs : List Value) (W : World) (en : Ending) (w' : World) : Prop :=
  en = .returned (.slice (some ⟨g, 0, none⟩) (n - 1) cap) ∧ w'.ownsRow b e 1 (.slice (some ⟨g, 0, none⟩) (n - 1) cap) (n - 1) (xs.eraseIdx k) ∧ W.grownBy w' (some g)

set_option maxRecDepth 100000 in
set_option maxHeartbeats 4000000 in
theorem delRows_any (b g n cap k : Nat) (xs : List Value) (W : World) (ho : W.ownsRow b 34 1 (.slice (some ⟨g, 0, none⟩) n cap) n xs) (h1 : ∀ u ∈ xs, u.oneCell' = true) (hk : k < n) (hn : n ≤ 1048576) (hcap : n ≤ cap) (hcm : cap ≤ maxLen) :
    Calls Try.prog 137 #[.slice (some ⟨g, 0, none⟩) n cap, .int .i64 k, .int .i64 (k + 1)] W (Del b 34 g n cap k xs W) := by
  obtain ⟨i0, hi0, hz0, hz1, hz2⟩ := info_parts info_row
  have hl : xs.length = n := by have := ho.1; omega
  have hkz : (0 : Int) ≤ (k : Int) := Int.natCast_nonneg _
  have hk1 : (k : Int) + 1 ≤ (n : Int) := by omega
  have hp0 : (0 : Int) ≤ (k : Int) + 1 := by omega
  have hm : cap ≤ 9223372036854775807 := by unfold maxLen at hcm; omega
  -- the cells that are moved
  obtain ⟨A, hA, hsrc⟩ : ∃ A : Addr, (if cap = k + 1 then some (⟨g, 0, none⟩ : Addr) else some ⟨g, k + 1, none⟩) = some A ∧ Hid (∀ t u, (xs.drop (k + 1))[t]? = some u → W.drew.cell? (A.add t) = some u) := by
    by_cases h : cap = k + 1
    · refine ⟨⟨g, 0, none⟩, if_pos h, fun t u hu => ?_⟩
      rw [List.drop_eq_nil_of_le (by omega)] at hu
      cases hu
    · refine ⟨⟨g, k + 1, none⟩, if_neg h, fun t u hu => ?_⟩
      rw [List.getElem?_drop] at hu
      have ht := (List.getElem?_eq_some_iff.1 hu).1
      have := ho.cellAt (k + 1 + t) (by omega)
      rw [Addr.add_lit]
      exact this.trans hu
  have s1 : Hid ((xs.drop (k + 1)).length = (n - (k + 1)) * 1) := Lib.hid (by rw [List.length_drop]; omega)
  have s2 : Hid (∀ u ∈ xs.drop (k + 1), u.oneCell' = true) := Lib.hid fun u hu => h1 u (List.mem_of_mem_drop hu)
  have s3 : Hid (∀ t, t < (xs.drop (k + 1)).length → (W.drew.cell? ⟨g, 0 + k * 1 + t, none⟩).isSome = true ∧ W.drew.frozen? ⟨g, 0 + k * 1 + t, none⟩ = false) := Lib.hid fun t ht => by
    rw [List.length_drop] at ht
    have := ho.cellAt (0 + k * 1 + t) (by omega)
    refine ⟨?_, ho.frozenAt _⟩
    show (W.cell? _).isSome = true
    rw [this, List.getElem?_eq_getElem (by omega)]; rfl
  -- the world behind the append
  obtain ⟨W1, hW1⟩ : ∃ W1, W1 = W.drew.setCells g (0 + k * 1) (xs.drop (k + 1)) := ⟨_, rfl⟩
  have ho0 : W.drew.ownsRow b 34 1 (.slice (some ⟨g, 0, none⟩) n cap) n xs := ho
  obtain ⟨o1, g1⟩ := own_sets (xs.drop (k + 1)) (0 + k * 1) ho0
  rw [← hW1] at o1 g1
  obtain ⟨o2, g2⟩ := own_sets [.slice none 0 0] (n - 1) o1
  have hcl : ∀ ty, (Builtin.clear_ #[38] ty #[.slice (some ⟨g, k + (n - (k + 1)), none⟩) (n - (k + (n - (k + 1)))) (cap - (k + (n - (k + 1))))]).run Try.prog W1 = .ok (.tuple #[]) (W1.setCells g (k + (n - (k + 1))) (List.replicate (n - (k + (n - (k + 1)))) (.slice none 0 0))) :=
    fun ty => Lib.run_clear_slice W1 _ _ ty _ Try.underlying38 Try.zeroValue34 rfl rfl g (k + (n - (k + 1))) _ _ (by omega)
      (fun t ht => by rw [o1.cellAt _ (by omega), List.getElem?_eq_getElem (by rw [sets_len]; omega)]; rfl) (fun t ht => o1.frozenAt _)
  have HE : Hid (Del b 34 g n cap k xs W (.returned (.slice (some ⟨g, 0, none⟩) (k + (n - (k + 1))) cap)) (W1.setCells g (k + (n - (k + 1))) (List.replicate (n - (k + (n - (k + 1)))) (.slice none 0 0)))) := Lib.hid (by
    have q1 : k + (n - (k + 1)) = n - 1 := by omega
    have q2 : n - (n - 1) = 1 := by omega
    rw [q1, q2]
    have o3 := own_cut o2 (m := n - 1) (by omega)
    rw [show 0 + k * 1 = k by omega, sets_erase _ hl hk] at o3
    exact ⟨rfl, o3, ⟨g2.os.trans g1.os, g2.tape.trans g1.tape, g2.output.trans g1.output, Nat.le_trans g1.size g2.size, fun j hj hne => (g2.block j (Nat.lt_of_lt_of_le hj g1.size) hne).trans (g1.block j hj hne)⟩⟩)
  have hW : Hid (W1 = W.drew.setCells g (0 + k * 1) (xs.drop (k + 1))) := hW1
  have hkc : k ≤ cap := by omega
  have hk1c : k + 1 ≤ cap := by omega
  clear hW1 o1 o2 g1 g2 ho0 ho h1 hl
  go_enter Try.func137, Try.ntmps137
  go_wp2_with fail
  go_region_law (refine step_append_room rfl (.tmp 22) (.tmp 25) 38 rfl 34 i0 1 Try.underlying38 hi0 hz1 g 0 k cap (by simp [Act.eval, Act.put]) A (n - (k + 1)) (cap - (k + 1)) (xs.drop (k + 1)) (by simp [Act.eval, Act.put]) s1.out hsrc.out s2.out (by omega) s3.out ?_; rw [← hW.out])
  go_wp2_with fail
  go_ret
  exact HE.out
set_option maxRecDepth 100000 in
set_option maxHeartbeats 4000000 in
theorem delInts_any (b g n cap k : Nat) (xs : List Value) (W : World) (ho : W.ownsRow b 3 1 (.slice (some ⟨g, 0, none⟩) n cap) n xs) (h1 : ∀ u ∈ xs, u.oneCell' = true) (hk : k < n) (hn : n ≤ 1048576) (hcap : n ≤ cap) (hcm : cap ≤ maxLen) :
    Calls Try.prog 138 #[.slice (some ⟨g, 0, none⟩) n cap, .int .i64 k, .int .i64 (k + 1)] W (Del b 3 g n cap k xs W) := by
  obtain ⟨i0, hi0, hz0, hz1, hz2⟩ := info_parts info_int
  have hl : xs.length = n := by have := ho.1; omega
  have hkz : (0 : Int) ≤ (k : Int) := Int.natCast_nonneg _
  have hk1 : (k : Int) + 1 ≤ (n : Int) := by omega
  have hp0 : (0 : Int) ≤ (k : Int) + 1 := by omega
  have hm : cap ≤ 9223372036854775807 := by unfold maxLen at hcm; omega
  -- the cells that are moved
  obtain ⟨A, hA, hsrc⟩ : ∃ A : Addr, (if cap = k + 1 then some (⟨g, 0, none⟩ : Addr) else some ⟨g, k + 1, none⟩) = some A ∧ Hid (∀ t u, (xs.drop (k + 1))[t]? = some u → W.drew.cell? (A.add t) = some u) := by
    by_cases h : cap = k + 1
    · refine ⟨⟨g, 0, none⟩, if_pos h, fun t u hu => ?_⟩
      rw [List.drop_eq_nil_of_le (by omega)] at hu
      cases hu
    · refine ⟨⟨g, k + 1, none⟩, if_neg h, fun t u hu => ?_⟩
      rw [List.getElem?_drop] at hu
      have ht := (List.getElem?_eq_some_iff.1 hu).1
      have := ho.cellAt (k + 1 + t) (by omega)
      rw [Addr.add_lit]
      exact this.trans hu
  have s1 : Hid ((xs.drop (k + 1)).length = (n - (k + 1)) * 1) := Lib.hid (by rw [List.length_drop]; omega)
  have s2 : Hid (∀ u ∈ xs.drop (k + 1), u.oneCell' = true) := Lib.hid fun u hu => h1 u (List.mem_of_mem_drop hu)
  have s3 : Hid (∀ t, t < (xs.drop (k + 1)).length → (W.drew.cell? ⟨g, 0 + k * 1 + t, none⟩).isSome = true ∧ W.drew.frozen? ⟨g, 0 + k * 1 + t, none⟩ = false) := Lib.hid fun t ht => by
    rw [List.length_drop] at ht
    have := ho.cellAt (0 + k * 1 + t) (by omega)
    refine ⟨?_, ho.frozenAt _⟩
    show (W.cell? _).isSome = true
    rw [this, List.getElem?_eq_getElem (by omega)]; rfl
  -- the world behind the append
  obtain ⟨W1, hW1⟩ : ∃ W1, W1 = W.drew.setCells g (0 + k * 1) (xs.drop (k + 1)) := ⟨_, rfl⟩
  have ho0 : W.drew.ownsRow b 3 1 (.slice (some ⟨g, 0, none⟩) n cap) n xs := ho
  obtain ⟨o1, g1⟩ := own_sets (xs.drop (k + 1)) (0 + k * 1) ho0
  rw [← hW1] at o1 g1
  obtain ⟨o2, g2⟩ := own_sets [.int .i64 0] (n - 1) o1
  have hcl : ∀ ty, (Builtin.clear_ #[34] ty #[.slice (some ⟨g, k + (n - (k + 1)), none⟩) (n - (k + (n - (k + 1)))) (cap - (k + (n - (k + 1))))]).run Try.prog W1 = .ok (.tuple #[]) (W1.setCells g (k + (n - (k + 1))) (List.replicate (n - (k + (n - (k + 1)))) (.int .i64 0))) :=
    fun ty => Lib.run_clear_slice W1 _ _ ty _ Try.underlying34 Try.zeroValue3 rfl rfl g (k + (n - (k + 1))) _ _ (by omega)
      (fun t ht => by rw [o1.cellAt _ (by omega), List.getElem?_eq_getElem (by rw [sets_len]; omega)]; rfl) (fun t ht => o1.frozenAt _)
  have HE : Hid (Del b 3 g n cap k xs W (.returned (.slice (some ⟨g, 0, none⟩) (k + (n - (k + 1))) cap)) (W1.setCells g (k + (n - (k + 1))) (List.replicate (n - (k + (n - (k + 1)))) (.int .i64 0)))) := Lib.hid (by
    have q1 : k + (n - (k + 1)) = n - 1 := by omega
    have q2 : n - (n - 1) = 1 := by omega
    rw [q1, q2]
    have o3 := own_cut o2 (m := n - 1) (by omega)
    rw [show 0 + k * 1 = k by omega, sets_erase _ hl hk] at o3
    exact ⟨rfl, o3, ⟨g2.os.trans g1.os, g2.tape.trans g1.tape, g2.output.trans g1.output, Nat.le_trans g1.size g2.size, fun j hj hne => (g2.block j (Nat.lt_of_lt_of_le hj g1.size) hne).trans (g1.block j hj hne)⟩⟩)
  have hW : Hid (W1 = W.drew.setCells g (0 + k * 1) (xs.drop (k + 1))) := hW1
  have hkc : k ≤ cap := by omega
  have hk1c : k + 1 ≤ cap := by omega
  clear hW1 o1 o2 g1 g2 ho0 ho h1 hl
  go_enter Try.func138, Try.ntmps138
  go_wp2_with fail
  go_region_law (refine step_append_room rfl (.tmp 22) (.tmp 25) 34 rfl 3 i0 1 Try.underlying34 hi0 hz1 g 0 k cap (by simp [Act.eval, Act.put]) A (n - (k + 1)) (cap - (k + 1)) (xs.drop (k + 1)) (by simp [Act.eval, Act.put]) s1.out hsrc.out s2.out (by omega) s3.out ?_; rw [← hW.out])
  go_wp2_with fail
  go_ret
  exact HE.out
end Go.Proofs.Ythgnhamokikhkaa.detI
