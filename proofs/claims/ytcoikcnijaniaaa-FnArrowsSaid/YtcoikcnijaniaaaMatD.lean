/- The draw of a matrix. -/
import Derived.Test.YtcoikcnijaniaaaModD
import Derived.Test.YtcoikcnijaniaaaDrwA
namespace Go.Proofs.Ytcoikcnijaniaaa.matD
open Go.ChangeShapes Go.WideShapes Go.ChangeAt Go.RowKit
open draw gridP gridC gridE bitP mazeP mazeC mazeM mazeR mazeS intsP reachD intA intK listK rowsP matP matM matQ matR
set_option linter.unusedVariables false

theorem abS_two : ∀ {l : List Int}, (∀ z ∈ l, -2 ≤ z ∧ z ≤ 2) → abS l ≤ 2 * l.length
  | [], _ => by simp [abS]
  | z :: l, h => by
    have h1 := abS_two (l := l) fun u hu => h u (List.mem_cons_of_mem _ hu)
    have h2 := h z List.mem_cons_self
    have e : abS (z :: l) = max z (-z) + abS l := by simp [abS]
    rw [e, List.length_cons, Int.max_def]
    split <;> omega
/-- A drawn matrix is valid. -/
theorem sq_drawn {ls : List (List Int)} {n : Nat} (hn : n ≤ 5) (hl : ls.length = n) (h : ∀ l ∈ ls, l.length = n ∧ ∀ z ∈ l, -2 ≤ z ∧ z ≤ 2) : sqB ls = true := by
  unfold sqB
  rw [Bool.and_eq_true, List.all_eq_true]
  refine ⟨fun l hm => ?_, decide_eq_true (by omega)⟩
  obtain ⟨h1, h2⟩ := h l hm
  unfold rowB
  have := abS_two h2
  rw [decide_eq_true (show l.length = ls.length by omega), List.all_eq_true.2 fun z hz => decide_eq_true (by have := h2 z hz; omega), decide_eq_true (by omega)]
  rfl

/-- The cursor and the rows so far. -/
def DQ (w : World) (g : Nat) (ls : List (List Int)) (v : Value) (X : World) : Prop := Cur X g ∧ w.grownBy X (some g) ∧ MxOw X w.heap.size X.heap.size v ls
/-- .. and a row that is drawn. -/
def DR (w : World) (g : Nat) (ls : List (List Int)) (v : Value) (RB : Nat) (l : List Int) (r : Value) (X : World) : Prop :=
  Cur X g ∧ w.grownBy X (some g) ∧ MxOw X w.heap.size RB v ls ∧ w.heap.size ≤ RB ∧ RB ≤ X.heap.size ∧ X.ownsRow RB 3 1 r l.length (icells l)
theorem grown_low {w X X' : World} {g B : Nat} (h : w.grownBy X (some g)) (hb : Below B X X') (hB : w.heap.size ≤ B) : w.grownBy X' (some g) :=
  ⟨hb.os.trans h.os, hb.tape.trans h.tape, hb.output.trans h.output, Nat.le_trans h.size hb.size, fun k hk hne => (hb.block k (by omega)).trans (h.block k hk hne)⟩
theorem DQ.draw {w X X' : World} {g : Nat} {ls : List (List Int)} {v : Value} (h : DQ w g ls v X) (hlt : g < w.heap.size) (hc : Cur X' g) (hg : X.grownBy X' (some g)) : DQ w g ls v X' :=
  ⟨hc, only_trans h.2.1 hg, (h.2.2.outside fun k h1 h2 hk => hg.block k hk (fun e => by have := Option.some.inj e; omega)).high hg.size⟩
theorem DQ.new {w X : World} {g : Nat} {ls : List (List Int)} {v : Value} (h : DQ w g ls v X) : DR w g ls v X.heap.size [] (.slice (some ⟨X.heap.size, 0, none⟩) 0 0) (X.alloc (.cells #[] 3)) :=
  ⟨h.1.alloc1 _, only_alloc1 h.2.1 _, h.2.2.call (below_box X _), h.2.1.size, by simp, (ol_new (Below.refl X.heap.size X) (Nat.le_refl _)).2.2.2⟩
theorem DR.draw {w X X' : World} {g RB : Nat} {ls : List (List Int)} {l : List Int} {v r : Value} (h : DR w g ls v RB l r X) (hlt : g < w.heap.size) (hc : Cur X' g) (hg : X.grownBy X' (some g)) : DR w g ls v RB l r X' := by
  obtain ⟨h1, h2, h3, h4, h5, h6⟩ := h
  refine ⟨hc, only_trans h2 hg, h3.outside fun k a b hk => hg.block k hk (fun e => by have := Option.some.inj e; omega), h4, Nat.le_trans h5 hg.size, h6.kept hg ?_⟩
  cases hv : r.ownBlock with
  | none => exact .inl rfl
  | some q => exact .inr fun e => by have := (h6.lt q hv).1; have := Option.some.inj e; omega
theorem DR.app {w X X' : World} {g RB gg cap : Nat} {ls : List (List Int)} {l : List Int} {v r : Value} {o : Obj} {u : Int} (h : DR w g ls v RB l r X) (hlt : g < w.heap.size)
    (ho : X'.ownsRow RB 3 1 (.slice (some ⟨gg, 0, none⟩) (l.length + 1) cap) (l.length + 1) (icells l ++ icells [u])) (hg : (X.alloc o).grownBy X' r.ownBlock) : DR w g ls v RB (l ++ [u]) (.slice (some ⟨gg, 0, none⟩) (l.length + 1) cap) X' := by
  obtain ⟨h1, h2, h3, h4, h5, h6⟩ := h
  have hb : Below RB X X' := below_app (Below.refl _ _) (Nat.le_refl _) h5 h6 hg
  refine ⟨h1.kept hb (by omega), grown_low h2 hb h4, h3.outside fun k a b hk => hb.block k b, h4, Nat.le_trans h5 hb.size, ?_⟩
  rw [List.length_append, icells_append]; exact ho
/-- The row takes its place. -/
theorem DR.done {w X : World} {g RB : Nat} {ls : List (List Int)} {l : List Int} {v r : Value} (h : DR w g ls v RB l r X) (hlt : g < w.heap.size) :
    ∃ cs : List Value, X.ownsRow w.heap.size 32 1 v ls.length cs ∧ ∀ (o : Obj) (X5 : World) (gg cap : Nat), X5.ownsRow w.heap.size 32 1 (.slice (some ⟨gg, 0, none⟩) (ls.length + 1) cap) (ls.length + 1) (cs ++ [r]) → (X.alloc o).grownBy X5 v.ownBlock →
      DQ w g (ls ++ [l]) (.slice (some ⟨gg, 0, none⟩) (ls.length + 1) cap) X5 := by
  obtain ⟨h1, h2, h3, h4, h5, h6⟩ := h
  have hML : ML { X with heap := #[] } w.heap.size ls v X := ⟨⟨rfl, rfl, rfl, Nat.zero_le _, fun k hk => absurd hk (Nat.not_lt_zero k)⟩, Nat.zero_le _, Nat.le_trans h4 h5, h3.high h5⟩
  obtain ⟨cs, c1, c2, c3, c4⟩ := id h3
  refine ⟨cs, c1, fun o X5 gg cap ho hg => ?_⟩
  have hA : ∀ (i : Nat) (k : List Int), ls[i]? = some k → ∃ c, cs[i]? = some c ∧ X.ownsRow w.heap.size 3 1 c k.length (icells k) ∧ ∀ q, c.ownBlock = some q → q < X.heap.size := fun i k hk => by
    obtain ⟨c, d1, d2, d3⟩ := c3 i k hk
    exact ⟨c, d1, d2, fun q hq => Nat.lt_of_lt_of_le (d3 q hq) h5⟩
  have hB : ∀ (i : Nat) (c : Value) (q : Nat), cs[i]? = some c → c.ownBlock = some q → r.ownBlock ≠ some q := fun i c q hc hq e => by
    have hi : i < ls.length := by have := (List.getElem?_eq_some_iff.1 hc).1; have := c1.1; omega
    obtain ⟨c', d1, d2, d3⟩ := c3 i _ (List.getElem?_eq_getElem hi)
    rw [hc] at d1; cases d1
    have := d3 q hq
    have := (h6.lt q e).1
    omega
  obtain ⟨m1, m2⟩ := hML.app ⟨c1, hA, c4⟩ (own_base h6 h4) hB ho hg
  exact ⟨h1.kept m2 hlt, grown_low h2 m2 (Nat.le_refl _), m1.2.2.2⟩
/-- A valid matrix is drawn with the cursor. -/
def DrawnQ (g : Nat) (w : World) (e : Ending) (w' : World) : Prop := ∃ ls v, (sqB ls = true ∧ ls.length ≤ 5) ∧ e = .returned v ∧ Cur w' g ∧ w.grownBy w' (some g) ∧ MxOw w' w.heap.size w'.heap.size v ls
theorem drawnQ_mk {g : Nat} {w w' : World} {ls : List (List Int)} {v : Value} {n : Nat} (hn : n ≤ 5) (hl : ls.length = n) (h : ∀ l ∈ ls, l.length = n ∧ ∀ z ∈ l, -2 ≤ z ∧ z ≤ 2) (hd : DQ w g ls v w') : DrawnQ g w (.returned v) w' :=
  ⟨ls, v, ⟨sq_drawn hn hl h, by omega⟩, rfl, hd.1, hd.2.1, hd.2.2⟩

end Go.Proofs.Ytcoikcnijaniaaa.matD
