/- How a maze is read from lines: plain facts, and what stands while lines are read. -/
import Derived.Test.YtmmdngfhfceefaaDoorLinP
import Derived.Test.YtmmdngfhfceefaaDoorListT
namespace Go.Proofs.YtmmdngfhfceefaaDoor.linR
open Go.ChangeShapes Go.WideShapes Go.ChangeAt Go.RowKit
open draw gridP gridC gridE bitP mazeP mazeC mazeM mazeQ intsP reachP reachM reachN reachD intA listK forest deadP linP splP listT
set_option linter.unusedVariables false

/-- The maze that lines would be of. -/
def rmX (ls : List (List UInt8)) : Int := (((ls.headD []).length / 2 : Nat) : Int)
def rmY (ls : List (List UInt8)) : Int := ((ls.length / 2 : Nat) : Int)
def rmO (ls : List (List UInt8)) : Int := if OkZ (rmX ls) (rmY ls) then rdN (rmX ls) (rmY ls) ls (gN (rmX ls) (rmY ls)) else 0
/-- Whether they are. -/
def rmB (ls : List (List UInt8)) : Bool := decide (ls ≠ [] ∧ mlL (rmX ls) (rmY ls) (rmO ls) = ls)
def rmC (ls : List (List UInt8)) (v : Int) : Int := if rmB ls = true then v else 0
theorem rm_read {x y z : Int} (hv : OkM x y z) : rmB (mlL x y z) = true ∧ rmX (mlL x y z) = x ∧ rmY (mlL x y z) = y ∧ rmO (mlL x y z) = z := by
  obtain ⟨l, h1, h2⟩ := ml_line hv
  have h3 := ml_len hv
  obtain ⟨⟨g1, g2, g3, g4⟩, -⟩ := id hv
  have hne : mlL x y z ≠ [] := by intro e; rw [e] at h1; cases h1
  have hd : (mlL x y z).headD [] = l := by
    cases hm : mlL x y z with
    | nil => exact absurd hm hne
    | cons a t => rw [hm] at h1; simpa using h1
  have ex : rmX (mlL x y z) = x := by unfold rmX; rw [hd, h2]; unfold cW; omega
  have ey : rmY (mlL x y z) = y := by unfold rmY; rw [h3]; unfold cW; omega
  obtain ⟨hk, o, rfl, ho⟩ := okm_of hv
  have eo : rmO (mlL x y o) = (o : Int) := by
    unfold rmO; rw [ex, ey, if_pos hk, rd_is hk ho _ (Nat.le_refl _), Nat.mod_eq_of_lt ho]
  refine ⟨decide_eq_true ⟨hne, ?_⟩, ex, ey, eo⟩
  rw [ex, ey, eo]
theorem ml_small (x y z : Int) : (mlL x y z).length ≤ 9 := by
  by_cases hv : OkM x y z
  · rw [ml_len hv]; unfold cW; have := hv.1.2.2.2; omega
  · unfold mlL; rw [if_neg hv]; simp
theorem rd_bd (x y : Int) (ls : List (List UInt8)) : ∀ k, ∃ o : Nat, rdN x y ls k = (o : Int) ∧ o < 2 ^ k
  | 0 => ⟨0, rfl, by decide⟩
  | k + 1 => by
    obtain ⟨o, h, h'⟩ := rd_bd x y ls k
    unfold rdN
    split
    · exact ⟨o + 2 ^ k, by rw [h]; simp, by rw [Nat.pow_succ]; omega⟩
    · exact ⟨o, h, by rw [Nat.pow_succ]; omega⟩
theorem rd_or {o k : Nat} (ho : o < 2 ^ k) (hk : k < 24) : bits .or .i64 (o : Int) (wrap64 (2 ^ (k : Int).toNat)) = ((o : Int) + 2 ^ k) ∧ o < 16777216 := by
  have hb := pow_bd (k : Int) (by omega)
  have ho24 : o < 16777216 := by
    have h2 : 2 ^ k ≤ 2 ^ 24 := Nat.pow_le_pow_right (by decide) (by omega)
    have h3 : (2 : Nat) ^ 24 = 16777216 := by decide
    omega
  refine ⟨?_, ho24⟩
  rw [IntWalk.wrap64_in _ (by omega), or_is (by omega) (by omega) (by omega) (by omega), if_neg (by
    rw [bitZ_bt (by omega) (by omega), Int.toNat_natCast, Int.toNat_natCast]
    unfold bt
    rw [Nat.div_eq_of_lt ho]; decide)]
  simp

/-- Lines that can be read. -/
def TxIn (w : World) (B : Nat) (A : Option Addr) (ls : List (List UInt8)) : Prop :=
  ls ≠ [] → ∃ ad, A = some ad ∧ ad.block < B ∧ ∀ j u, ls[j]? = some u → w.cell? (ad.add j) = some (.string ⟨u.toArray⟩)
theorem TxIn.keep {w w' : World} {B : Nat} {A : Option Addr} {l : List (List UInt8)} (h : TxIn w B A l) (hk : ∀ p : Addr, p.block < B → w'.cell? p = w.cell? p) : TxIn w' B A l := by
  intro hn
  obtain ⟨ad, e, hb, hc⟩ := h hn
  exact ⟨ad, e, hb, fun j u hj => (hk _ (by rw [block_of_add]; exact hb)).trans (hc j u hj)⟩
theorem TxIn.below {w w' : World} {B : Nat} {A : Option Addr} {l : List (List UInt8)} (h : TxIn w B A l) (hb : Below B w w') : TxIn w' B A l := h.keep fun p hp => hb.cell hp
theorem TxIn.more {w : World} {B B' : Nat} {A : Option Addr} {l : List (List UInt8)} (h : TxIn w B A l) (hB : B ≤ B') : TxIn w B' A l := by
  intro hn
  obtain ⟨ad, e, hb, hc⟩ := h hn
  exact ⟨ad, e, Nat.lt_of_lt_of_le hb hB, hc⟩
theorem TxIn.at {w : World} {B : Nat} {A : Option Addr} {ls : List (List UInt8)} (h : TxIn w B A ls) (hn : ls ≠ []) : ∃ ad, A = some ad ∧ ad.block < B := by
  obtain ⟨ad, e, hb, -⟩ := h hn; exact ⟨ad, e, hb⟩
theorem TxIn.cell {w : World} {B : Nat} {ad : Addr} {ls : List (List UInt8)} (h : TxIn w B (some ad) ls) {j : Nat} {u : List UInt8} (hu : ls[j]? = some u) : w.cell? (ad.add j) = some (.string ⟨u.toArray⟩) := by
  obtain ⟨ad', e, -, hc⟩ := h (by intro e; rw [e] at hu; simp at hu)
  cases e
  exact hc j u hu
theorem txs_own {w : World} {base n c : Nat} {A : Option Addr} {l : List (List UInt8)} (h : w.ownsRow base 9 1 (.slice A n c) n (scells l)) : TxIn w w.heap.size A l ∧ n = l.length := by
  have hl := h.1
  rw [scells_length] at hl
  refine ⟨fun hn => ?_, by omega⟩
  obtain ⟨g, c', e, -, hg⟩ := own_some h (by have := List.length_pos_iff.2 hn; omega)
  cases e
  refine ⟨_, rfl, hg, fun j u hj => ?_⟩
  obtain ⟨hjl, e⟩ := List.getElem?_eq_some_iff.1 hj
  have e2 : (⟨g, 0, none⟩ : Addr).add j = ⟨g, j, none⟩ := by
    simp [Addr.add]
    try omega
  rw [e2, h.cellAt j (by omega)]
  simp [scells, List.getElem?_eq_getElem hjl, e]

theorem row3_put {b : Nat} {x y z z' : Int} {X : World} (h : Row3 b x y z X) : Row3 b x y z' (X.setCell ⟨b, 2, none⟩ (.int .i64 z')) := by
  obtain ⟨T, h⟩ := h
  exact ⟨T, by simp [World.setCell, Array.getElem?_modify, h]⟩
theorem row3_far {b : Nat} {x y z : Int} {X : World} (h : Row3 b x y z X) {p : Addr} (hp : p.block ≠ b) (u : Value) : Row3 b x y z (X.setCell p u) := by
  obtain ⟨T, h⟩ := h
  exact ⟨T, (Below.heap_setCell X p u b (fun e => hp e.symm)).trans h⟩
/-- What stands while lines are read: the answer's block, the maze, the lines. -/
def RS (W : World) (x y z : Int) (A : Option Addr) (ls : List (List UInt8)) (X : World) : Prop :=
  Below W.heap.size W X ∧ Row3 W.heap.size 0 0 0 X ∧ Row3 (W.heap.size + 1) x y z X ∧ TxIn X W.heap.size A ls
theorem RS.call {W X X' : World} {x y z : Int} {A : Option Addr} {ls : List (List UInt8)} (h : RS W x y z A ls X) (hb : Below X.heap.size X X') : RS W x y z A ls X' :=
  ⟨below_call h.1 hb, h.2.1.call hb, h.2.2.1.call hb, h.2.2.2.below (hb.mono h.1.size)⟩
theorem RS.dr {W X : World} {x y z : Int} {A : Option Addr} {ls : List (List UInt8)} (h : RS W x y z A ls X) : RS W x y z A ls X.drew := h.call ⟨rfl, rfl, rfl, Nat.le_refl _, fun _ _ => rfl⟩
theorem RS.put {W X : World} {x y z : Int} {A : Option Addr} {ls : List (List UInt8)} (h : RS W x y z A ls X) (z' : Int) : RS W x y z' A ls (X.setCell ⟨W.heap.size + 1, 2, none⟩ (.int .i64 z')) := by
  obtain ⟨h1, h2, h3, h4⟩ := h
  have hb : Below W.heap.size X (X.setCell ⟨W.heap.size + 1, 2, none⟩ (.int .i64 z')) := (Below.refl _ _).setCell (by simp) _
  exact ⟨h1.trans hb, row3_far h2 (by simp) _, row3_put h3, h4.below hb⟩
theorem rs_new {W : World} {A : Option Addr} {ls : List (List UInt8)} (hi : TxIn W W.heap.size A ls) (x y : Int) (T1 T2 : TypeId) :
    RS W x y 0 A ls ((W.alloc (.cells #[.int .i64 0, .int .i64 0, .int .i64 0] T1)).alloc (.cells #[.int .i64 x, .int .i64 y, .int .i64 0] T2)) := by
  have hb : Below W.heap.size W ((W.alloc (.cells #[.int .i64 0, .int .i64 0, .int .i64 0] T1)).alloc (.cells #[.int .i64 x, .int .i64 y, .int .i64 0] T2)) := ((Below.refl _ _).alloc (Nat.le_refl _) _).alloc (by simp) _
  refine ⟨hb, (row3_new 0 0 0 W T1).call (below_box _ _), ?_, hi.below hb⟩
  have := row3_new x y 0 (W.alloc (.cells #[.int .i64 0, .int .i64 0, .int .i64 0] T1)) T2
  simpa using this
end Go.Proofs.YtmmdngfhfceefaaDoor.linR
