/- What the program's count of parts and its search for the farthest cell know: plain facts; the words of their loops. -/
import Derived.Test.YtomjfcmaoeoigaaReachD
import Derived.Test.YtomjfcmaoeoigaaBoolP
namespace Go.Proofs.Ytomjfcmaoeoigaa.reachX
open Go.ChangeShapes Go.WideShapes Go.ChangeAt Go.RowKit
open draw gridP gridC bitP mazeP mazeC mazeM intsP boolP reachP reachM reachN reachD
set_option linter.unusedVariables false

/-- The distances of all cells from one, none where there is no such cell. -/
def ddZ (x y z a : Int) : List Int := if hasB x y z a = true then dl (stN x y z) (cN x y) a.toNat else []
/-- What a loop over the distances knows of the farthest cell below k. -/
def FP (D : Nat → Int) (k : Nat) (f g : Int) : Prop := (f = -1 ∧ g = -1 ∧ ∀ j, j < k → D j ≤ -1) ∨ ∃ n : Nat, f = (n : Int) ∧ g = D n ∧ 0 ≤ g ∧ IsFar D k n
theorem fp_start (D : Nat → Int) : FP D 0 (-1) (-1) := .inl ⟨rfl, rfl, fun j hj => absurd hj (by omega)⟩
theorem fp_gt {D : Nat → Int} {k : Nat} {f g : Int} (h : FP D k f g) (hg : g < D k) : FP D (k + 1) (k : Int) (D k) := by
  rcases h with ⟨rfl, rfl, h⟩ | ⟨n, rfl, rfl, h0, h1, h2⟩
  · refine .inr ⟨k, rfl, rfl, by omega, by omega, fun j hj => ?_⟩
    rcases Nat.lt_or_ge j k with h' | h'
    · have := h j h'; exact .inl (by omega)
    · obtain rfl : j = k := by omega
      exact .inr ⟨rfl, Nat.le_refl _⟩
  · refine .inr ⟨k, rfl, rfl, by omega, by omega, fun j hj => ?_⟩
    rcases Nat.lt_or_ge j k with h' | h'
    · have := h2 j h'; exact .inl (by omega)
    · obtain rfl : j = k := by omega
      exact .inr ⟨rfl, Nat.le_refl _⟩
theorem fp_le {D : Nat → Int} {k : Nat} {f g : Int} (h : FP D k f g) (hg : ¬ g < D k) : FP D (k + 1) f g := by
  rcases h with ⟨rfl, rfl, h⟩ | ⟨n, rfl, rfl, h0, h1, h2⟩
  · refine .inl ⟨rfl, rfl, fun j hj => ?_⟩
    rcases Nat.lt_or_ge j k with h' | h'
    · exact h j h'
    · obtain rfl : j = k := by omega
      omega
  · refine .inr ⟨n, rfl, rfl, h0, by omega, fun j hj => ?_⟩
    rcases Nat.lt_or_ge j k with h' | h'
    · exact h2 j h'
    · obtain rfl : j = k := by omega
      omega
theorem fp_end {D : Nat → Int} {N a : Nat} {f g : Int} (h : FP D N f g) (ha : a < N) (hD : 0 ≤ D a) : f = ((farN D a N : Nat) : Int) := by
  rcases h with ⟨rfl, rfl, h⟩ | ⟨n, rfl, rfl, h0, h1⟩
  · have := h a ha; omega
  · rw [far_one h1 (farN_far ha)]

/-- What the count of parts knows: the cells that the cells below k reach are counted. -/
def Mk (st : Nat → Nat → Int) (N : Nat) (B : List Bool) (k : Nat) : Prop := B.length = N ∧ ∀ v, v < N → (B.getD v false = true ↔ ∃ u, u < k ∧ 0 ≤ dZ st N u v)
theorem mk_start (st : Nat → Nat → Int) (N : Nat) : Mk st N (List.replicate N false) 0 := by
  refine ⟨by simp, fun v hv => ⟨fun h => ?_, fun ⟨u, hu, _⟩ => absurd hu (by omega)⟩⟩
  rw [List.getD_eq_getElem?_getD, List.getElem?_replicate, if_pos hv] at h; cases h
section
variable {st : Nat → Nat → Int} {N k : Nat} {B : List Bool}
theorem mk_least (hst : ∀ u q v : Nat, st u q = (v : Int) → v < N) (hbk : ∀ u q v : Nat, q < 4 → st u q = (v : Int) → ∃ q', q' < 4 ∧ st v q' = (u : Int)) (hk : k < N) (h : Mk st N B k) : (B.getD k false = true ↔ isLeast st N k = false) := by
  rw [h.2 k hk]
  constructor
  · rintro ⟨u, hu, hd⟩
    have h1 : ¬ isLeast st N k = true := fun e => by
      have h2 := (isLeast_iff st N k).1 e u hu
      rw [dZ_sym hk (by omega) hst hbk] at h2
      omega
    simpa using h1
  · intro e
    have h1 : ¬ ∀ j, j < k → dZ st N k j < 0 := fun h2 => by rw [(isLeast_iff st N k).2 h2] at e; cases e
    apply Classical.byContradiction
    intro hn
    apply h1
    intro j hj
    apply Classical.byContradiction
    intro hd
    exact hn ⟨j, hj, by rw [dZ_sym (by omega) hk hst hbk]; omega⟩
theorem mk_old (hst : ∀ u q v : Nat, st u q = (v : Int) → v < N) (hbk : ∀ u q v : Nat, q < 4 → st u q = (v : Int) → ∃ q', q' < 4 ∧ st v q' = (u : Int)) (hk : k < N) (h : Mk st N B k) (hb : B.getD k false = true) : Mk st N B (k + 1) := by
  refine ⟨h.1, fun v hv => (h.2 v hv).trans ⟨fun ⟨u, hu, hd⟩ => ⟨u, by omega, hd⟩, fun ⟨u, hu, hd⟩ => ?_⟩⟩
  rcases Nat.lt_or_ge u k with h' | h'
  · exact ⟨u, h', hd⟩
  · obtain rfl : u = k := by omega
    obtain ⟨t, ht, hd2⟩ := (h.2 u hk).1 hb
    obtain ⟨n, hn⟩ := (dZ_pos hk hst v).1 hd
    obtain ⟨m, hm⟩ := (dZ_pos (by omega) hst u).1 hd2
    exact ⟨t, ht, (dZ_pos (by omega) hst v).2 ⟨m + n, wk_trans hm hn⟩⟩
/-- While the cells that one reaches are counted: the first i of the list are. -/
def IM (N : Nat) (B : List Bool) (l : List Int) (B' : List Bool) (i : Nat) : Prop := B'.length = N ∧ ∀ v, v < N → (B'.getD v false = true ↔ (B.getD v false = true ∨ (v : Int) ∈ l.take i))
theorem im_start {l : List Int} (h : B.length = N) : IM N B l B 0 := ⟨h, fun v hv => by simp⟩
theorem im_step {l : List Int} {B' : List Bool} {i v : Nat} (h : IM N B l B' i) (hi : l[i]? = some (v : Int)) (hv : v < N) : IM N B l (B'.set v true) (i + 1) := by
  refine ⟨by simpa using h.1, fun u hu => ?_⟩
  rw [getB_set _ _ _ _ (by rw [h.1]; exact hv)]
  have ht : l.take (i + 1) = l.take i ++ [(v : Int)] := by rw [List.take_add_one, hi]; rfl
  rw [ht, List.mem_append]
  by_cases e : v = u
  · subst e; simp
  · rw [if_neg e, h.2 u hu]
    have : ¬ (u : Int) ∈ [(v : Int)] := by simp; omega
    simp [this]
theorem mk_new {B' : List Bool} (h : Mk st N B k) (hi : IM N B (rlN st N k N) B' (rlN st N k N).length) : Mk st N B' (k + 1) := by
  refine ⟨hi.1, fun v hv => (hi.2 v hv).trans ?_⟩
  rw [List.take_length, h.2 v hv, rlN_mem]
  constructor
  · rintro (⟨u, hu, hd⟩ | ⟨u, e, hu, hd⟩)
    · exact ⟨u, by omega, hd⟩
    · obtain rfl : u = v := by omega
      exact ⟨k, by omega, hd⟩
  · rintro ⟨u, hu, hd⟩
    rcases Nat.lt_or_ge u k with h' | h'
    · exact .inl ⟨u, h', hd⟩
    · obtain rfl : u = k := by omega
      exact .inr ⟨v, rfl, hv, hd⟩
theorem cp_step : cpN st N (k + 1) = cpN st N k + if isLeast st N k = true then 1 else 0 := rfl
end

/-- What stands while parts are counted: block b is the maze's box, block Q what is counted. -/
def PB (W : World) (b : Nat) (x y z : Int) (Q N : Nat) (B : List Bool) (X : World) : Prop :=
  Below W.heap.size W X ∧ MBox b x y z X ∧ X.ownsRow (b + 1) 4 1 (.slice (some ⟨Q, 0, none⟩) N N) N (bcells B)
theorem PB.call {W X X' : World} {b Q N : Nat} {x y z : Int} {B : List Bool} (h : PB W b x y z Q N B X) (hb : Below X.heap.size X X') : PB W b x y z Q N B X' :=
  ⟨below_call h.1 hb, h.2.1.call hb, own_call h.2.2 hb⟩
theorem PB.put {W X : World} {b Q N : Nat} {x y z : Int} {B : List Bool} (h : PB W b x y z Q N B X) (hbQ : b < Q) (hW : W.heap.size ≤ b) (j : Nat) (u : Bool) : PB W b x y z Q N (B.set j u) (X.setCell ⟨Q, j, none⟩ (.bool u)) :=
  ⟨h.1.setCell (by simp; omega) _, mbox_set h.2.1 (by simp; omega) _, bools_put h.2.2 j u⟩
theorem PB.cell {W X : World} {b Q N : Nat} {x y z : Int} {B : List Bool} (h : PB W b x y z Q N B X) (hl : B.length = N) (j : Nat) (hj : j < N) : X.cell? ⟨Q, j, none⟩ = some (.bool (B.getD j false)) ∧ X.frozen? ⟨Q, j, none⟩ = false := bools_cell h.2.2 hl j hj
theorem pb_make {W X : World} {b N : Nat} {x y z : Int} (h : Below W.heap.size W X) (hx : MBox b x y z X) (hW : W.heap.size ≤ X.heap.size) (hm : N ≤ maxLen) : PB W b x y z X.heap.size N (List.replicate N false) (X.alloc (.cells (madeCells (Value.bool false).cells N) 4)) :=
  ⟨h.alloc hW _, hx.call (below_box _ _), bools_make _ N X hx.2 hm⟩
/-- A cell of a list of integers that is owned. -/
theorem ints_cell {X : World} {base g c n i : Nat} {l : List Int} {d : Int} (h : X.ownsRow base 3 1 (.slice (some ⟨g, 0, none⟩) n c) n (icells l)) (hd : l[i]? = some d) : X.cell? ⟨g, i, none⟩ = some (.int .i64 d) := by
  have hi : i < l.length := (List.getElem?_eq_some_iff.1 hd).1
  have hn : n = l.length := by have := h.1; rw [icells_length] at this; omega
  rw [h.cellAt i (by omega), icells_at _ i hi]
  rw [List.getElem?_eq_getElem hi] at hd
  rw [Option.some.inj hd]
end Go.Proofs.Ytomjfcmaoeoigaa.reachX
