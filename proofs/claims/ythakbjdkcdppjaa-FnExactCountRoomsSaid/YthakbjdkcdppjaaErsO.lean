/- Walks without loops: lists that are cut, and a list that is written beside another. -/
import Derived.Test.YthakbjdkcdppjaaErsP
import Derived.Test.YthakbjdkcdppjaaListK
namespace Go.Proofs.Ythakbjdkcdppjaa.ersO
open Go.ChangeShapes Go.WideShapes Go.ChangeAt Go.RowKit
open draw gridP gridC bitP mazeP mazeC intsP reachD intA listK wayP ersP
set_option linter.unusedVariables false

/-- The first m elements of a list of one's own. -/
theorem own_cut {X : World} {b g n cap m : Nat} {e : TypeId} {xs : List Value} (h : X.ownsRow b e 1 (.slice (some ⟨g, 0, none⟩) n cap) n xs) (hm : m ≤ n) : X.ownsRow b e 1 (.slice (some ⟨g, 0, none⟩) m cap) m (xs.take m) := by
  have hl := h.1
  refine ⟨by rw [List.length_take]; omega, ?_⟩
  rcases h.2 with ⟨e1, _⟩ | ⟨g', cap', cur, e1, hb, hh, hn, hc, hs, ht⟩
  · cases e1
  · cases e1
    refine .inr ⟨g, cap, cur, rfl, hb, hh, by omega, hc, hs, ?_⟩
    rw [← ht, List.take_take, Nat.min_eq_left (by omega), Nat.mul_one]
theorem own_cap {X : World} {b n cap : Nat} {A : Option Addr} {e : TypeId} {xs : List Value} (h : X.ownsRow b e 1 (.slice A n cap) n xs) : n ≤ cap ∧ cap ≤ maxLen := by
  rcases h.2 with ⟨e1, _⟩ | ⟨g', cap', cur, e1, hb, hh, hn, hc, hs, ht⟩
  · cases e1
    exact ⟨Nat.le_refl _, Nat.zero_le _⟩
  · cases e1
    exact ⟨hn, hc⟩
theorem ol_cut {W X : World} {b g c m n : Nat} {l : List Int} (h : OL W b l (.slice (some ⟨g, 0, none⟩) n c) X) (hn : n = l.length) (hm : m ≤ l.length) : OL W b (l.take m) (.slice (some ⟨g, 0, none⟩) m c) X := by
  subst hn
  refine ⟨h.1, h.2.1, h.2.2.1, ?_⟩
  have := own_cut h.2.2.2 hm
  rw [List.length_take, Nat.min_eq_left hm]
  have e : icells (l.take m) = (icells l).take m := by unfold icells; rw [List.map_take]
  rw [e]; exact this
theorem ints_take {w : World} {B k : Nat} {A : Option Addr} {l : List Int} (h : IntsIn w B A l) : IntsIn w B A (l.take k) := fun hne => by
  obtain ⟨ad, h1, h2, h3⟩ := h (fun e => hne (by rw [e]; simp))
  refine ⟨ad, h1, h2, fun j u hj => h3 j u ?_⟩
  have := (List.getElem?_eq_some_iff.1 hj).1
  rw [List.length_take] at this
  rwa [List.getElem?_take, if_pos (by omega)] at hj
theorem bq_mk {a b : Bool} {w : World} (h : b = a) : Ending.returned (.bool a) = Ending.returned (.bool b) ∧ w = w := ⟨by rw [h], rfl⟩
/-- While a list is written along another: the list, the maze's box, the other. -/
def TR (W : World) (x y z : Int) (g cg : Nat) (E l : List Int) (v : Value) (X : World) : Prop :=
  OL W (W.heap.size + 1) l v X ∧ v.ownBlock ≠ some g ∧ MBox W.heap.size x y z X ∧ X.ownsRow (W.heap.size + 1) 3 1 (.slice (some ⟨g, 0, none⟩) E.length cg) E.length (icells E)
theorem TR.call {W X X' : World} {x y z : Int} {g cg : Nat} {E l : List Int} {v : Value} (h : TR W x y z g cg E l v X) (hb : Below X.heap.size X X') : TR W x y z g cg E l v X' :=
  ⟨h.1.call hb, h.2.1, h.2.2.1.call hb, own_call h.2.2.2 hb⟩
theorem TR.drs {W X : World} {x y z : Int} {g cg : Nat} {E l : List Int} {v : Value} (h : TR W x y z g cg E l v X) (n : Nat) : TR W x y z g cg E l v (X.drewN n) := h.call ⟨rfl, rfl, rfl, Nat.le_refl _, fun _ _ => rfl⟩
theorem TR.dr {W X : World} {x y z : Int} {g cg : Nat} {E l : List Int} {v : Value} (h : TR W x y z g cg E l v X) : TR W x y z g cg E l v X.drew := h.call ⟨rfl, rfl, rfl, Nat.le_refl _, fun _ _ => rfl⟩
theorem TR.app {W X X' : World} {x y z u : Int} {g cg gg cap : Nat} {E l : List Int} {v : Value} {o : Obj} (h : TR W x y z g cg E l v X)
    (ho : X'.ownsRow (W.heap.size + 1) 3 1 (.slice (some ⟨gg, 0, none⟩) (l.length + 1) cap) (l.length + 1) (icells l ++ icells [u])) (hg : (X.alloc o).grownBy X' v.ownBlock) (hat : v.ownBlock = some gg ∨ gg = X.heap.size + 1) :
    TR W x y z g cg E (l ++ [u]) (.slice (some ⟨gg, 0, none⟩) (l.length + 1) cap) X' := by
  obtain ⟨h1, h2, h3, h4⟩ := h
  obtain ⟨n1, n2⟩ := h1.app ho hg
  exact ⟨n1, blk_app h4 h2 hat, mbox_keep h3 (Nat.lt_succ_self _) n2, row_app h4 h2 hg⟩
/-- One more is appended out of a list that lies there. -/
theorem ol_app0 {W X X' : World} {b gg cap : Nat} {l : List Int} {v : Value} {u : Int} (h : OL W b l v X)
    (ho : X'.ownsRow b 3 1 (.slice (some ⟨gg, 0, none⟩) (l.length + 1) cap) (l.length + 1) (icells l ++ icells [u])) (hg : X.grownBy X' v.ownBlock) :
    OL W b (l ++ [u]) (.slice (some ⟨gg, 0, none⟩) (l.length + 1) cap) X' ∧ Below b X X' := by
  obtain ⟨h1, h2, h3, h4⟩ := h
  have hb : Below b X X' := (Below.refl b X).grown hg h3 (fun j hj => (h4.lt j hj).1)
  refine ⟨⟨h1.grown hg h1.size (fun j hj => Nat.le_trans h2 (h4.lt j hj).1), h2, Nat.le_trans h3 hb.size, ?_⟩, hb⟩
  rw [List.length_append, icells_append]; exact ho
theorem TR.app0 {W X X' : World} {x y z u : Int} {g cg gg cap : Nat} {E l : List Int} {v : Value} (h : TR W x y z g cg E l v X)
    (ho : X'.ownsRow (W.heap.size + 1) 3 1 (.slice (some ⟨gg, 0, none⟩) (l.length + 1) cap) (l.length + 1) (icells l ++ icells [u])) (hg : X.grownBy X' v.ownBlock) (hat : v.ownBlock = some gg ∨ gg = X.heap.size) :
    TR W x y z g cg E (l ++ [u]) (.slice (some ⟨gg, 0, none⟩) (l.length + 1) cap) X' := by
  obtain ⟨h1, h2, h3, h4⟩ := h
  obtain ⟨n1, n2⟩ := ol_app0 h1 ho hg
  have hgx : g < X.heap.size := own_lt h4 g rfl
  refine ⟨n1, ?_, mbox_keep h3 (Nat.lt_succ_self _) n2, h4.kept hg (.inr fun e => h2 (by rw [← e]; rfl))⟩
  show some gg ≠ some g
  rintro e
  have e := Option.some.inj e
  subst e
  rcases hat with h | h
  · exact h2 h
  · omega
end Go.Proofs.Ythakbjdkcdppjaa.ersO
