/- The text of a maze, without the program. -/
import Derived.Test.YtmmdngfhfceefaaDoorSplP
import Derived.Test.YtmmdngfhfceefaaDoorPuP
import Derived.Test.YtmmdngfhfceefaaDoorPlain
namespace Go.Proofs.YtmmdngfhfceefaaDoor.txtP
open gridP bitP mazeP splP puP fmtP hexP
set_option linter.unusedVariables false

instance (l : List UInt8) (v : Int) : Decidable (IsNum l v) := by unfold IsNum; infer_instance
instance (x y z : Int) : Decidable (OkM x y z) := by unfold OkM; infer_instance
/-- The text of a maze. -/
def mtL (x y z : Int) : List UInt8 := if OkM x y z then Lib.itoa x ++ 32 :: (Lib.itoa y ++ 32 :: Lib.itoa z) else []
/-- The number of a text, 0 where it is none. -/
def puZ (l : List UInt8) : Int := match Lib.decFrom 0 l with
  | some u => if IsNum l u then (u : Int) else 0
  | none => 0
theorem puZ_yes {l : List UInt8} {v : Int} (h : IsNum l v) : puZ l = v := by
  unfold puZ
  rw [h.dec]
  have e : ((v.toNat : Nat) : Int) = v := by have := h.1; omega
  simp only
  rw [e, if_pos h]
theorem puZ_no {l : List UInt8} (h : ∀ v, ¬ IsNum l v) : puZ l = 0 := by
  unfold puZ
  split
  · rw [if_neg (h _)]
  · rfl
/-- The maze of a text. -/
def pmT (l : List UInt8) : Option (Int × Int × Int) := match split l with
  | [a, b, c] => if OkM (puZ a) (puZ b) (puZ c) ∧ mtL (puZ a) (puZ b) (puZ c) = l then some (puZ a, puZ b, puZ c) else none
  | _ => none
def pmX (l : List UInt8) : Int := match pmT l with | some (x, _, _) => x | none => 0
def pmY (l : List UInt8) : Int := match pmT l with | some (_, y, _) => y | none => 0
def pmZ (l : List UInt8) : Int := match pmT l with | some (_, _, z) => z | none => 0
def pmB (l : List UInt8) : Bool := (pmT l).isSome
theorem pm_some {l : List UInt8} {x y z : Int} (h : pmT l = some (x, y, z)) : pmX l = x ∧ pmY l = y ∧ pmZ l = z ∧ pmB l = true := by
  unfold pmX pmY pmZ pmB; rw [h]; exact ⟨rfl, rfl, rfl, rfl⟩
theorem pm_none {l : List UInt8} (h : pmT l = none) : pmX l = 0 ∧ pmY l = 0 ∧ pmZ l = 0 ∧ pmB l = false := by
  unfold pmX pmY pmZ pmB; rw [h]; exact ⟨rfl, rfl, rfl, rfl⟩

/-! ### the fields of such a text -/
theorem fold_word : ∀ (a : List UInt8) (fs : List (List UInt8)) (cur : List UInt8), (∀ c ∈ a, c.toNat ≠ 32) → a.foldl stp (fs, cur) = (fs, cur ++ a)
  | [], fs, cur, _ => by simp
  | c :: a, fs, cur, h => by
    rw [List.foldl_cons]
    have : stp (fs, cur) c = (fs, cur ++ [c]) := by unfold stp; rw [if_neg (h c (by simp))]
    rw [this, fold_word a fs _ (fun d hd => h d (by simp [hd]))]
    simp
theorem stp_space {fs : List (List UInt8)} {cur : List UInt8} (h : cur ≠ []) : stp (fs, cur) 32 = (fs ++ [cur], []) := by
  unfold stp; rw [if_pos (by decide)]; simp only; rw [if_neg h]
theorem split_three {a b c : List UInt8} (ha : ∀ u ∈ a, u.toNat ≠ 32) (hb : ∀ u ∈ b, u.toNat ≠ 32) (hc : ∀ u ∈ c, u.toNat ≠ 32) (na : a ≠ []) (nb : b ≠ []) (nc : c ≠ []) : split (a ++ 32 :: (b ++ 32 :: c)) = [a, b, c] := by
  unfold split scan
  rw [List.foldl_append, fold_word a _ _ ha, List.foldl_cons, List.nil_append, stp_space na, List.foldl_append, fold_word b _ _ hb, List.foldl_cons, List.nil_append, List.nil_append, stp_space nb, fold_word c _ _ hc]
  unfold close
  simp [nc]
theorem dec_digits : ∀ (l : List UInt8) (acc u : Nat), Lib.decFrom acc l = some u → ∀ c ∈ l, 48 ≤ c.toNat ∧ c.toNat ≤ 57
  | [], _, _, _, c, hc => by simp at hc
  | b :: l, acc, u, h, c, hc => by
    simp only [Lib.decFrom] at h
    cases hd : Lib.digitVal b with
    | none => rw [hd] at h; cases h
    | some d =>
      rw [hd] at h
      rcases List.mem_cons.1 hc with e | e
      · subst e
        unfold Lib.digitVal at hd
        split at hd
        · rename_i h'; exact h'
        · cases hd
      · exact dec_digits l _ u h c e
theorem itoa_digits {v : Int} (h : 0 ≤ v) : ∀ c ∈ Lib.itoa v, 48 ≤ c.toNat ∧ c.toNat ≤ 57 := dec_digits _ 0 _ (dec_itoa v h)
theorem ok_num {x y z : Int} (h : OkM x y z) : IsNum (Lib.itoa x) x ∧ IsNum (Lib.itoa y) y ∧ IsNum (Lib.itoa z) z := by
  have hlt := h.lt
  obtain ⟨⟨h1, h2, h3, h4⟩, h5, h6⟩ := h
  exact ⟨⟨by omega, by omega, rfl⟩, ⟨by omega, by omega, rfl⟩, ⟨by omega, by omega, rfl⟩⟩
theorem mt_is {x y z : Int} (h : OkM x y z) : mtL x y z = Lib.itoa x ++ 32 :: (Lib.itoa y ++ 32 :: Lib.itoa z) := by unfold mtL; rw [if_pos h]
theorem mt_split {x y z : Int} (h : OkM x y z) : split (mtL x y z) = [Lib.itoa x, Lib.itoa y, Lib.itoa z] := by
  obtain ⟨h1, h2, h3⟩ := ok_num h
  have d : ∀ v : Int, 0 ≤ v → ∀ u ∈ Lib.itoa v, u.toNat ≠ 32 := fun v hv u hu => by have := itoa_digits hv u hu; omega
  rw [mt_is h]
  exact split_three (d x h1.1) (d y h2.1) (d z h3.1) (itoa_ne x) (itoa_ne y) (itoa_ne z)
theorem mt_len {x y z : Int} (h : OkM x y z) : (mtL x y z).length ≤ 32 := by
  obtain ⟨h1, h2, h3⟩ := ok_num h
  rw [mt_is h]
  have := h1.len; have := h2.len; have := h3.len
  simp; omega
theorem mt_ok {x y z : Int} (h : OkM x y z) : OK ⟨(mtL x y z).toArray⟩ := by
  obtain ⟨h1, h2, h3⟩ := ok_num h
  refine ⟨by have := mt_len h; show (mtL x y z).toArray.size ≤ 600; simp; omega, fun j hj => ?_, by rw [show (⟨(mtL x y z).toArray⟩ : ByteArray).data.toList = mtL x y z by simp, mt_split h]; simp⟩
  have hj' : j < (mtL x y z).length := by simpa [ByteArray.size] using hj
  have e : (⟨(mtL x y z).toArray⟩ : ByteArray)[j] = (mtL x y z)[j] := by
    show (mtL x y z).toArray[j] = _
    simp
  rw [e]
  have hm := List.getElem_mem hj'
  generalize (mtL x y z)[j] = u at hm
  rw [mt_is h] at hm
  have d : ∀ v : Int, 0 ≤ v → u ∈ Lib.itoa v → splP.okB u := fun v hv hu => by have := itoa_digits hv u hu; unfold splP.okB; omega
  have s : u = 32 → splP.okB u := fun e => by subst e; unfold splP.okB; decide
  simp only [List.mem_append, List.mem_cons] at hm
  rcases hm with e | e | e | e | e
  · exact d x h1.1 e
  · exact s e
  · exact d y h2.1 e
  · exact s e
  · exact d z h3.1 e
theorem pm_yes {x y z : Int} (h : OkM x y z) : pmT (mtL x y z) = some (x, y, z) := by
  obtain ⟨h1, h2, h3⟩ := ok_num h
  unfold pmT
  rw [mt_split h]
  simp only
  rw [puZ_yes h1, puZ_yes h2, puZ_yes h3, if_pos ⟨h, rfl⟩]
theorem pm_form {l : List UInt8} {x y z : Int} (h : pmT l = some (x, y, z)) : OkM x y z ∧ mtL x y z = l := by
  unfold pmT at h
  split at h
  · split at h
    · rename_i h'
      simp only [Option.some.injEq, Prod.mk.injEq] at h
      obtain ⟨rfl, rfl, rfl⟩ := h
      exact h'
    · cases h
  · cases h
/-- No maze has the text. -/
theorem pm_no {l : List UInt8} (h : ∀ x y z, OkM x y z → mtL x y z ≠ l) : pmT l = none := by
  cases hp : pmT l with
  | none => rfl
  | some q =>
    obtain ⟨x, y, z⟩ := q
    obtain ⟨h1, h2⟩ := pm_form hp
    exact absurd h2 (h x y z h1)
theorem pm_len {l : List UInt8} (h : ¬ (split l).length = 3) : pmT l = none := by
  unfold pmT
  split
  · rename_i a b c e; rw [e] at h; simp at h
  · rfl
theorem fields_len : ∀ (l : List UInt8) (p : List (List UInt8) × List UInt8) (M : Nat), (∀ f ∈ p.1, f.length ≤ M) → p.2.length ≤ M → (∀ f ∈ (l.foldl stp p).1, f.length ≤ M + l.length) ∧ (l.foldl stp p).2.length ≤ M + l.length
  | [], p, M, h1, h2 => by simpa using ⟨h1, h2⟩
  | b :: l, p, M, h1, h2 => by
    have key : (∀ f ∈ (stp p b).1, f.length ≤ M + 1) ∧ (stp p b).2.length ≤ M + 1 := by
      unfold stp
      split
      · split
        · exact ⟨fun f hf => Nat.le_succ_of_le (h1 f hf), by simp⟩
        · refine ⟨fun f hf => ?_, by simp⟩
          rcases List.mem_append.1 hf with e | e
          · exact Nat.le_succ_of_le (h1 f e)
          · have : f = p.2 := by simpa using e
            rw [this]; omega
      · exact ⟨fun f hf => Nat.le_succ_of_le (h1 f hf), by simp; omega⟩
    obtain ⟨k1, k2⟩ := fields_len l (stp p b) (M + 1) key.1 key.2
    rw [List.foldl_cons]
    refine ⟨fun f hf => by have := k1 f hf; simp only [List.length_cons]; omega, by simp only [List.length_cons]; omega⟩
theorem field_len (l : List UInt8) : ∀ u ∈ split l, u.length ≤ l.length := by
  obtain ⟨h1, h2⟩ := fields_len l ([], []) 0 (by simp) (by simp)
  intro u hu
  unfold split close scan at hu
  split at hu
  · have := h1 u hu; omega
  · rcases List.mem_append.1 hu with e | e
    · have := h1 u e; omega
    · have : u = (l.foldl stp ([], [])).2 := by simpa using e
      rw [this]; omega
end Go.Proofs.YtmmdngfhfceefaaDoor.txtP
