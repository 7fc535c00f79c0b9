/- The contract of the model's reading of a maze. -/
import Derived.Test.YtmmdngfhfceefaaLinR
import Derived.Test.YtmmdngfhfceefaaLinM
namespace Go.Proofs.Ytmmdngfhfceefaa.linN
open Go.ChangeShapes Go.WideShapes Go.ChangeAt Go.RowKit
open draw gridP gridC gridE bitP mazeP mazeC mazeM mazeR mazeS mazeQ intsP reachP reachM reachN reachD intA listK forest deadP linP splP listT linR linM
set_option linter.unusedVariables false

theorem at_yes {ls : List (List UInt8)} {r c : Nat} {l : List UInt8} {s : ByteArray} (hl : ls[r]? = some l) (hs : s = ⟨l.toArray⟩) (hc : c < s.size) : atL ls r c = some 32 ↔ s[c].toNat = 32 := by
  subst hs
  have hcl : c < l.length := hc
  have e : (⟨l.toArray⟩ : ByteArray)[c] = l[c] := rfl
  unfold atL
  rw [hl, Option.bind_some, List.getElem?_eq_getElem hcl, e]
  constructor
  · intro h; rw [Option.some.inj h]; decide
  · intro h; rw [show l[c] = 32 from UInt8.toNat_inj.1 (h.trans (by decide))]
theorem at_far {ls : List (List UInt8)} {r c : Nat} (hr : ¬ r < ls.length) : atL ls r c ≠ some 32 := by
  unfold atL; rw [List.getElem?_eq_none (by omega)]; intro h; cases h
theorem at_out {ls : List (List UInt8)} {r c : Nat} {l : List UInt8} {s : ByteArray} (hl : ls[r]? = some l) (hs : s = ⟨l.toArray⟩) (hc : ¬ c < s.size) : atL ls r c ≠ some 32 := by
  subst hs
  unfold atL
  rw [hl, Option.bind_some, List.getElem?_eq_none (show l.length ≤ c from Nat.not_lt.1 hc)]; intro h; cases h
/-- Where a gap is drawn, as it is counted out. -/
theorem pl_nat {x y : Int} {k : Nat} (hk : OkZ x y) (hg : k < gN x y) : ∃ r1 c1 : Nat, 2 * (eaZ x y k / x) + 1 = (r1 : Int) ∧ 2 * (eaZ x y k % x) + 1 = (c1 : Int) ∧ r1 ≤ 9 ∧ c1 ≤ 9 ∧ 0 ≤ eaZ x y k / x ∧ eaZ x y k / x ≤ 4 ∧ 0 ≤ eaZ x y k % x ∧ eaZ x y k % x ≤ 4 ∧ 0 ≤ eaZ x y k ∧ eaZ x y k ≤ 16 ∧
    plR x y k = r1 + (if eB x y k = true then 0 else 1) ∧ plC x y k = c1 + (if eB x y k = true then 1 else 0) := by
  obtain ⟨⟨e1, e2, e3⟩, -⟩ := ends hk hg
  obtain ⟨h1, h2, h3, h4⟩ := id hk
  have hxy : x * y ≤ 4 * y := Int.mul_le_mul_of_nonneg_right h2 (by omega)
  have hq0 : 0 ≤ eaZ x y k / x := Int.ediv_nonneg e1 (by omega)
  have hq4 : eaZ x y k / x < y := Int.ediv_lt_of_lt_mul (by omega) (by rw [Int.mul_comm]; omega)
  have hm0 : 0 ≤ eaZ x y k % x := Int.emod_nonneg _ (by omega)
  have hm4 : eaZ x y k % x < x := Int.emod_lt_of_pos _ (by omega)
  refine ⟨(2 * (eaZ x y k / x) + 1).toNat, (2 * (eaZ x y k % x) + 1).toNat, by omega, by omega, by omega, by omega, hq0, by omega, hm0, by omega, e1, by omega, rfl, rfl⟩

theorem row3_set {b : Nat} {x y z x' y' z' : Int} {X : World} (h : Row3 b x y z X) : Row3 b x' y' z' (((X.setCell ⟨b, 0, none⟩ (.int .i64 x')).setCell ⟨b, 1, none⟩ (.int .i64 y')).setCell ⟨b, 2, none⟩ (.int .i64 z')) := by
  obtain ⟨T, h⟩ := h
  exact ⟨T, by simp [World.setCell, Array.getElem?_modify, h]⟩
theorem rs_start {W : World} {A : Option Addr} {ls : List (List UInt8)} (hi : TxIn W W.heap.size A ls) (x y : Int) (T1 T2 : TypeId) :
    RS W x y 0 A ls (((((W.alloc (.cells #[.int .i64 0, .int .i64 0, .int .i64 0] T1)).alloc (.cells #[.int .i64 0, .int .i64 0, .int .i64 0] T2)).setCell ⟨W.heap.size + 1, 0, none⟩ (.int .i64 x)).setCell ⟨W.heap.size + 1, 1, none⟩ (.int .i64 y)).setCell ⟨W.heap.size + 1, 2, none⟩ (.int .i64 0)) := by
  obtain ⟨h1, h2, h3, h4⟩ := rs_new hi 0 0 T1 T2
  have hb : Below W.heap.size ((W.alloc (.cells #[.int .i64 0, .int .i64 0, .int .i64 0] T1)).alloc (.cells #[.int .i64 0, .int .i64 0, .int .i64 0] T2)) (((((W.alloc (.cells #[.int .i64 0, .int .i64 0, .int .i64 0] T1)).alloc (.cells #[.int .i64 0, .int .i64 0, .int .i64 0] T2)).setCell ⟨W.heap.size + 1, 0, none⟩ (.int .i64 x)).setCell ⟨W.heap.size + 1, 1, none⟩ (.int .i64 y)).setCell ⟨W.heap.size + 1, 2, none⟩ (.int .i64 0)) :=
    (((Below.refl _ _).setCell (by simp) _).setCell (by simp) _).setCell (by simp) _
  exact ⟨h1.trans hb, linR.row3_far (linR.row3_far (linR.row3_far h2 (by simp) _) (by simp) _) (by simp) _, row3_set h3, h4.below hb⟩
theorem rd_yes {x y : Int} {ls : List (List UInt8)} {k : Nat} (h : atL ls (plR x y k) (plC x y k) = some 32) : rdN x y ls (k + 1) = rdN x y ls k + 2 ^ k := by
  conv => lhs; unfold rdN
  rw [if_pos h]
theorem rd_no {x y : Int} {ls : List (List UInt8)} {k : Nat} (h : ¬ atL ls (plR x y k) (plC x y k) = some 32) : rdN x y ls (k + 1) = rdN x y ls k := by
  conv => lhs; unfold rdN
  rw [if_neg h]
end Go.Proofs.Ytmmdngfhfceefaa.linN
