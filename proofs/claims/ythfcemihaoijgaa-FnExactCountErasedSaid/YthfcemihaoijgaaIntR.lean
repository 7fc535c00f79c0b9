/- A slice of integers that comes in: each number is an int. -/
import Derived.Test.YthfcemihaoijgaaIntA
namespace Go.Proofs.Ythfcemihaoijgaa.intR
open Go.ChangeShapes Go.WideShapes Go.ChangeAt Go.RowKit
open draw lawKit gridC intsP reachD intA
set_option linter.unusedVariables false

theorem in_wf {u : Int} (h : (Lit.int .i64 u).wf = true) : -9223372036854775808 ≤ u ∧ u ≤ 9223372036854775807 := by
  simp [Lit.wf, IntKind.min, IntKind.max, IntKind.signed, IntKind.bits] at h
  omega
section
variable {H : Type} {enc : TypeId × Value → H} {P : Program}
/-- Integers that come in: each is one. -/
theorem open_intSr {t e : TypeId} (ht : P.underlying t = some (.slice e)) (he : P.underlying e = some (.int .i64)) (hc : P.cellsOf e = 1) {W : World} {base : Nat} {v : Value} {d : DataW H} {ps : List MemPlace}
    (hval : Value.okWide P W .any base t v) (h : DataW.Trod enc P W 0 (fun _ => true) true t v d ps) (hlt : ∀ x ∈ ps, x.block < W.heap.size) :
    ∃ A c l, v = .slice A l.length c ∧ l.length ≤ maxLen ∧ IntsIn W W.heap.size A l ∧ ∀ u ∈ l, -9223372036854775808 ≤ u ∧ u ≤ 9223372036854775807 := by
  obtain ⟨A, n, c, rfl⟩ := okWide_slice ht hval
  obtain ⟨fuel, hf⟩ := h
  rcases open_ints ht he hc hf with ⟨hcs, _⟩ | ⟨a, len', cap', zs, hcs, _, hl, hm, hz, hx, hcell, hwz⟩
  · simp [Value.cells] at hcs
    obtain ⟨rfl, rfl, rfl⟩ := hcs
    exact ⟨none, 0, [], rfl, Nat.zero_le _, fun h0 => absurd rfl h0, by simp⟩
  · simp [Value.cells] at hcs
    obtain ⟨rfl, rfl, rfl⟩ := hcs
    simp only [if_true] at hz
    simp only [Prod.mk.injEq] at hx
    obtain ⟨-, rfl⟩ := hx
    refine ⟨some a, c, zs.take n, ?_, ?_, fun h0 => ⟨a, rfl, ?_, fun j u hj => ?_⟩, fun u hu => in_wf (hwz u (List.mem_of_mem_take hu))⟩
    · have : (zs.take n).length = n := by rw [List.length_take]; omega
      rw [this]
    · rw [List.length_take]; omega
    · have hn0 : 0 < n := by
        rcases Nat.eq_zero_or_pos n with e | e
        · subst e; simp at h0
        · exact e
      obtain ⟨b, off, spot⟩ := a
      exact hlt (.cell b off) (MemPlace.mem_row.2 ⟨0, by omega, by simp⟩)
    · have hj1 : j < (zs.take n).length := (List.getElem?_eq_some_iff.1 hj).1
      rw [List.length_take] at hj1
      have hj' : j < zs.length := by omega
      rw [hcell j hj', List.getD_eq_getElem?_getD]
      rw [List.getElem?_take_of_lt (by omega)] at hj
      rw [hj]; rfl
end
end Go.Proofs.Ythfcemihaoijgaa.intR
