/- Hexadecimal text, written and read back: plain facts. -/
import Derived.Test.YtijpbjnghkkdeaaDoorDecP
namespace Go.Proofs.YtijpbjnghkkdeaaDoor.hexR
open hexP decP
set_option linter.unusedVariables false

theorem fig_all : ∀ x : Fin 16, val (fig x.val) = (x.val : Int) := by decide +kernel
theorem val_fig (x : Nat) (h : x < 16) : val (fig x) = (x : Int) := fig_all ⟨x, h⟩
theorem byte_pair (c : UInt8) : byteAt (fig (c.toNat / 16)) (fig (c.toNat % 16)) = c := by
  have hc := c.toNat_lt
  unfold byteAt
  rw [val_fig _ (by omega), val_fig _ (by omega)]
  simp only [Int.toNat_natCast]
  have : 16 * (c.toNat / 16) + c.toNat % 16 = c.toNat := by omega
  rw [this]; simp
theorem hexOf_cons (c : UInt8) (l : List UInt8) : hexOf (c :: l) = fig (c.toNat / 16) :: fig (c.toNat % 16) :: hexOf l := rfl
theorem hexOf_at : ∀ (l : List UInt8) (j : Nat) (c : UInt8), l[j]? = some c → (hexOf l).getD (2 * j) 0 = fig (c.toNat / 16) ∧ (hexOf l).getD (2 * j + 1) 0 = fig (c.toNat % 16)
  | [], _, _, h => by simp at h
  | a :: l, 0, c, h => by
    simp at h; subst h
    rw [hexOf_cons]
    exact ⟨rfl, rfl⟩
  | a :: l, j + 1, c, h => by
    have ih := hexOf_at l j c (by simpa using h)
    rw [hexOf_cons]
    have e1 : 2 * (j + 1) = 2 * j + 1 + 1 := by omega
    rw [e1]
    simpa using ih
theorem dec_hexOf (l : List UInt8) : decI (hexOf l) l.length = l := by
  apply List.ext_getElem?
  intro j
  unfold decI
  rw [List.getElem?_map]
  by_cases hj : j < l.length
  · have h := hexOf_at l j l[j] (List.getElem?_eq_getElem hj)
    rw [List.getElem?_eq_getElem (by simpa using hj), List.getElem?_eq_getElem hj]
    simp only [List.getElem_range, Option.map_some, h.1, h.2, byte_pair]
  · rw [List.getElem?_eq_none (by simpa using hj), List.getElem?_eq_none (by omega)]; rfl
theorem hex_good (l : List UInt8) : AllGood ⟨(hexOf l).toArray⟩ := by
  intro i h2 hi
  have hsz : (⟨(hexOf l).toArray⟩ : ByteArray).size = 2 * l.length := by simp [ByteArray.size, hexOf_length]
  obtain ⟨j, rfl⟩ : ∃ j, i = 2 * j := ⟨i / 2, by omega⟩
  have hj : j < l.length := by omega
  have h := hexOf_at l j l[j] (List.getElem?_eq_getElem hj)
  have hc := (l[j]).toNat_lt
  unfold good
  simp only [h.1, h.2]
  rw [val_fig _ (by omega), val_fig _ (by omega)]
  omega
end Go.Proofs.YtijpbjnghkkdeaaDoor.hexR
