/- What stands in memory while the program pops arrows. -/
import Derived.Test.YtcoikcnijaniaaaPopO
import Derived.Test.YtcoikcnijaniaaaSetI
import Derived.Maps.OwnSet
import Derived.Maps.OwnOps
namespace Go.Proofs.Ytcoikcnijaniaaa.popW
open Go.ChangeShapes Go.WideShapes Go.ChangeAt Go.RowKit Go.Maps
open draw gridP gridC bitP mazeP mazeC mazeM mazeR intsP reachP reachM reachN reachD intA listK rowsP setI wayP ersP ersO popP popO
set_option linter.unusedVariables false

/-! ### the popping's six cells -/
def Pop6 (P : Nat) (x y o : Int) (bi : Nat) (va : Value) (bt : Nat) (X : World) : Prop :=
  ∃ T, X.heap[P]? = some (.cells #[.int .i64 x, .int .i64 y, .int .i64 o, .map (some bi), va, .map (some bt)] T (0, 0))
theorem pop6_lt {P bi bt : Nat} {x y o : Int} {va : Value} {X : World} (h : Pop6 P x y o bi va bt X) : P < X.heap.size := by
  obtain ⟨T, h⟩ := h
  exact (Array.getElem?_eq_some_iff.1 h).1
theorem pop6_g {P bi bt : Nat} {x y o : Int} {va : Value} {X X' : World} {row : Option Nat} (h : Pop6 P x y o bi va bt X) (hg : X.grownBy X' row) (hr : some P ≠ row) : Pop6 P x y o bi va bt X' := by
  have hl := pop6_lt h
  obtain ⟨T, h⟩ := h
  exact ⟨T, (hg.block P hl hr).trans h⟩
theorem pop6_cells {P bi bt : Nat} {x y o : Int} {va : Value} {X : World} (h : Pop6 P x y o bi va bt X) : (X.cell? ⟨P, 0, none⟩ = some (.int .i64 x) ∧ X.cell? ⟨P, 1, none⟩ = some (.int .i64 y) ∧ X.cell? ⟨P, 2, none⟩ = some (.int .i64 o) ∧ X.cell? ⟨P, 3, none⟩ = some (.map (some bi)) ∧ X.cell? ⟨P, 4, none⟩ = some va ∧ X.cell? ⟨P, 5, none⟩ = some (.map (some bt))) ∧ X.frozen? ⟨P, 0, none⟩ = false ∧ X.frozen? ⟨P, 1, none⟩ = false ∧ X.frozen? ⟨P, 2, none⟩ = false := by
  obtain ⟨T, h⟩ := h
  exact ⟨⟨cell_of_row X P 0 _ _ _ h, cell_of_row X P 1 _ _ _ h, cell_of_row X P 2 _ _ _ h, cell_of_row X P 3 _ _ _ h, cell_of_row X P 4 _ _ _ h, cell_of_row X P 5 _ _ _ h⟩, by simp [World.frozen?, h], by simp [World.frozen?, h], by simp [World.frozen?, h]⟩
theorem pop6_w {P bi bt : Nat} {x y o o' : Int} {va : Value} {X : World} (h : Pop6 P x y o bi va bt X) : Pop6 P x y o' bi va bt (((X.setCell ⟨P, 0, none⟩ (.int .i64 x)).setCell ⟨P, 1, none⟩ (.int .i64 y)).setCell ⟨P, 2, none⟩ (.int .i64 o')) := by
  obtain ⟨T, h⟩ := h
  exact ⟨T, by simp [World.setCell, Array.getElem?_modify, h]⟩

/-! ### the map of tops -/
theorem zeroI (w : World) : (zeroValue 3).run Try.prog w = .ok (.int .i64 0) w := by kernel_rfl
def TM (D : DataW Unit) (t : Int → Nat) : Prop := IsMap D ∧ ∀ u : Int, D.atKey (.int .i64 u) (.lit (.int .i64 0)) = .lit (.int .i64 ((t u : Nat) : Int))
theorem tm_new : TM (.map []) (fun _ => 0) := ⟨isMap_empty, fun u => rfl⟩
theorem tm_put {D : DataW Unit} {t : Int → Nat} (h : TM D t) (u : Int) : TM (D.put (.int .i64 u) (.lit (.int .i64 ((t u : Nat) + 1 : Int)))) (upd t u) := by
  refine ⟨h.1.put _ _, fun v => ?_⟩
  by_cases e : v = u
  · subst e
    rw [atKey_put_same h.1 (show WideAt.IsKeyLit (.int .i64 v) from trivial)]
    simp [upd]
  · rw [atKey_put_other (fun h' => e (by injection h')), h.2 v]
    simp only [upd]; rw [if_neg e]
theorem omap_g {w w' : World} {k : TypeId} {R : Value → Option (DataW Unit × List MemPlace)} {b n : Nat} {D : DataW Unit} {row : Option Nat} (h : w.ownsMap Try.prog k R b n D) (hg : w.grownBy w' row) (hr : some b ≠ row) : w'.ownsMap Try.prog k R b n D := by
  have hlt := h.lt
  obtain ⟨es, clock, hb, F, hs, hD⟩ := h
  exact ⟨es, clock, (hg.block b hlt hr).trans hb, F, hs, hD⟩
theorem omap_more {w : World} {k : TypeId} {R : Value → Option (DataW Unit × List MemPlace)} {b n n' : Nat} {D : DataW Unit} (h : w.ownsMap Try.prog k R b n D) (hn : n ≤ n') : w.ownsMap Try.prog k R b n' D := by
  obtain ⟨es, clock, hb, F, hs, hD⟩ := h
  exact ⟨es, clock, hb, F, Nat.le_trans hs hn, hD⟩
def TopR (bt m : Nat) (t : Int → Nat) (X : World) : Prop := ∃ D, X.ownsMap Try.prog 3 (plainElem Try.prog 3) bt m D ∧ TM D t
set_option maxRecDepth 100000 in
theorem top_at {bt m : Nat} {t : Int → Nat} {X : World} (h : TopR bt m t X) {u : Int} (hu : -9223372036854775808 ≤ u ∧ u ≤ 9223372036854775807) : (Instr.lookup 79 (.map (some bt)) (.int .i64 u) false).run Try.prog X = .ok (.int .i64 ((t u : Nat) : Int)) X := by
  obtain ⟨D, ho, h1, h2⟩ := h
  obtain ⟨c, hrun, hat, -⟩ := ho.lookup_int lawI Try.underlying79 Try.underlying3 (zeroI _) (key_int hu)
  rw [h2 u] at hat
  injection hat with hat
  injection hat with _ hat
  rw [hat]; exact hrun
theorem top_g {bt m : Nat} {t : Int → Nat} {X X' : World} {row : Option Nat} (h : TopR bt m t X) (hg : X.grownBy X' row) (hr : some bt ≠ row) : TopR bt m t X' := let ⟨D, h1, h2⟩ := h; ⟨D, omap_g h1 hg hr, h2⟩
theorem set_g {bi m : Nat} {L : List Int} {X X' : World} {row : Option Nat} (h : SetR bi m L X) (hg : X.grownBy X' row) (hr : some bi ≠ row) : SetR bi m L X' := omap_g h hg hr

/-! ### all of it -/
section
variable {W X X' : World} {P bi bt n : Nat} {x y o : Int} {va v : Value} {t : Int → Nat} {L l w : List Int} {row : Option Nat}
def PS (P bi bt n : Nat) (x y : Int) (va : Value) (t : Int → Nat) (L : List Int) (o : Int) (X : World) : Prop :=
  (Pop6 P x y o bi va bt X ∧ SetR bi L.length L X ∧ TopR bt (tot t n) t X) ∧ P ≠ bi ∧ P ≠ bt ∧ bi ≠ bt
theorem PS.lt (h : PS P bi bt n x y va t L o X) : P < X.heap.size ∧ bi < X.heap.size ∧ bt < X.heap.size := ⟨pop6_lt h.1.1, h.1.2.1.lt, by obtain ⟨D, h1, -⟩ := h.1.2.2; exact h1.lt⟩
theorem PS.grow (h : PS P bi bt n x y va t L o X) (hg : X.grownBy X' row) (hr : ∀ g, row = some g → g ≠ P ∧ g ≠ bi ∧ g ≠ bt) : PS P bi bt n x y va t L o X' :=
  ⟨⟨pop6_g h.1.1 hg fun e => (hr P e.symm).1 rfl, set_g h.1.2.1 hg fun e => (hr bi e.symm).2.1 rfl, top_g h.1.2.2 hg fun e => (hr bt e.symm).2.2 rfl⟩, h.2⟩
theorem PS.call (h : PS P bi bt n x y va t L o X) (hb : Below X.heap.size X X') : PS P bi bt n x y va t L o X' := h.grow (grown_call hb) fun g e => by cases e
/-- An arrow is used up. -/
theorem PS.bump {D : DataW Unit} {u : Int} (h : PS P bi bt n x y va t L o X) (hu : 0 ≤ u ∧ u < (n : Int)) (hD : TM D t) (ho : X'.ownsMap Try.prog 3 (plainElem Try.prog 3) bt (tot t n + 1) (D.put (.int .i64 u) (.lit (.int .i64 ((t u : Nat) + 1 : Int))))) (hg : X.grownBy X' (some bt)) : PS P bi bt n x y va (upd t u) L o X' :=
  ⟨⟨pop6_g h.1.1 hg (ne_some h.2.2.1), set_g h.1.2.1 hg (ne_some h.2.2.2), _, by rw [tot_next hu]; exact ho, tm_put hD u⟩, h.2⟩
/-- A cell comes into the maze. -/
theorem PS.inn {u : Int} (h : PS P bi bt n x y va t L o X) (ho : X'.ownsMap Try.prog 3 (plainElem Try.prog 4) bi (L.length + 1) ((Sd L).put (.int .i64 u) (.lit (.bool true)))) (hg : X.grownBy X' (some bi)) : PS P bi bt n x y va t (L ++ [u]) o X' :=
  ⟨⟨pop6_g h.1.1 hg (ne_some h.2.1), by unfold SetR; rw [sd_snoc, List.length_append]; exact ho, top_g h.1.2.2 hg (ne_some fun e => h.2.2.2 e.symm)⟩, h.2⟩
/-- The maze changes. -/
theorem PS.maz (h : PS P bi bt n x y va t L o X) (o' : Int) : PS P bi bt n x y va t L o' (((X.setCell ⟨P, 0, none⟩ (.int .i64 x)).setCell ⟨P, 1, none⟩ (.int .i64 y)).setCell ⟨P, 2, none⟩ (.int .i64 o')) := by
  have hg : X.grownBy (((X.setCell ⟨P, 0, none⟩ (.int .i64 x)).setCell ⟨P, 1, none⟩ (.int .i64 y)).setCell ⟨P, 2, none⟩ (.int .i64 o')) (some P) := grown_set (grown_set (grown_one X _ _ _) _) _
  exact ⟨⟨pop6_w h.1.1, set_g h.1.2.1 hg (ne_some fun e => h.2.1 e.symm), top_g h.1.2.2 hg (ne_some fun e => h.2.2.1 e.symm)⟩, h.2⟩

/-- Only these blocks, and new ones, have changed. -/
def Kp (P bi bt : Nat) (W X : World) : Prop := (X.os = W.os ∧ X.tape = W.tape ∧ X.output = W.output) ∧ W.heap.size ≤ X.heap.size ∧ ∀ k, k < W.heap.size → k ≠ P → k ≠ bi → k ≠ bt → X.heap[k]? = W.heap[k]?
theorem kp_refl (P bi bt : Nat) (W : World) : Kp P bi bt W W := ⟨⟨rfl, rfl, rfl⟩, Nat.le_refl _, fun _ _ _ _ _ => rfl⟩
theorem Kp.grow (h : Kp P bi bt W X) (hg : X.grownBy X' row) (hr : ∀ g, row = some g → g = P ∨ g = bi ∨ g = bt ∨ W.heap.size ≤ g) : Kp P bi bt W X' := by
  obtain ⟨⟨h1, h2, h3⟩, h4, h5⟩ := h
  refine ⟨⟨hg.os.trans h1, hg.tape.trans h2, hg.output.trans h3⟩, Nat.le_trans h4 hg.size, fun k hk a b c => (hg.block k (Nat.lt_of_lt_of_le hk h4) fun e => ?_).trans (h5 k hk a b c)⟩
  rcases hr k e.symm with e | e | e | e
  · exact a e
  · exact b e
  · exact c e
  · omega
theorem Kp.call (h : Kp P bi bt W X) (hb : Below X.heap.size X X') : Kp P bi bt W X' := h.grow (grown_call hb) fun g e => by cases e
theorem Kp.trans (h : Kp P bi bt W X) (h' : Kp P bi bt X X') : Kp P bi bt W X' :=
  ⟨⟨h'.1.1.trans h.1.1, h'.1.2.1.trans h.1.2.1, h'.1.2.2.trans h.1.2.2⟩, Nat.le_trans h.2.1 h'.2.1, fun k hk a b c => (h'.2.2 k (Nat.lt_of_lt_of_le hk h.2.1) a b c).trans (h.2.2 k hk a b c)⟩
theorem Kp.below {b : Nat} (h : Kp P bi bt W X) (h1 : b ≤ P) (h2 : b ≤ bi) (h3 : b ≤ bt) (hb : b ≤ W.heap.size) : Below b W X :=
  ⟨h.1.1, h.1.2.1, h.1.2.2, h.2.1, fun k hk => h.2.2 k (by omega) (by omega) (by omega) (by omega)⟩
theorem Kp.own {b s m : Nat} {e : TypeId} {v : Value} {xs : List Value} (h : Kp P bi bt W X) (ho : W.ownsRow b e s v m xs) (hv : ∀ g, v.ownBlock = some g → g ≠ P ∧ g ≠ bi ∧ g ≠ bt) : X.ownsRow b e s v m xs := by
  refine ⟨ho.1, ?_⟩
  rcases ho.2 with h2 | ⟨g, cap, cur, rfl, hg, hh, r⟩
  · exact .inl h2
  · have := hv g rfl
    exact .inr ⟨g, cap, cur, rfl, hg, (h.2.2 g (Array.getElem?_eq_some_iff.1 hh).1 this.1 this.2.1 this.2.2).trans hh, r⟩

/-- While a walk is under way, W the world that it began in. -/
def WQ (W : World) (P bi bt n : Nat) (x y : Int) (va : Value) (t : Int → Nat) (L : List Int) (o : Int) (w : List Int) (v : Value) (X : World) : Prop :=
  PS P bi bt n x y va t L o X ∧ (Kp P bi bt W X ∧ P < W.heap.size ∧ bi < W.heap.size ∧ bt < W.heap.size) ∧ X.ownsRow W.heap.size 3 1 v w.length (icells w)
theorem WQ.call (h : WQ W P bi bt n x y va t L o w v X) (hb : Below X.heap.size X X') : WQ W P bi bt n x y va t L o w v X' := ⟨h.1.call hb, ⟨h.2.1.1.call hb, h.2.1.2⟩, own_call h.2.2 hb⟩
theorem WQ.dr (h : WQ W P bi bt n x y va t L o w v X) : WQ W P bi bt n x y va t L o w v X.drew := h.call ⟨rfl, rfl, rfl, Nat.le_refl _, fun _ _ => rfl⟩
theorem WQ.drs (h : WQ W P bi bt n x y va t L o w v X) (m : Nat) : WQ W P bi bt n x y va t L o w v (X.drewN m) := h.call ⟨rfl, rfl, rfl, Nat.le_refl _, fun _ _ => rfl⟩
theorem WQ.form (h : WQ W P bi bt n x y va t L o w v X) : ∃ A c, v = .slice A w.length c := own_form h.2.2
theorem wq_new (h : PS P bi bt n x y va t L o W) : WQ W P bi bt n x y va t L o [] (.slice none 0 0) W := ⟨h, ⟨kp_refl _ _ _ _, h.lt⟩, World.ownsRow_nil W W.heap.size 3 1⟩
theorem WQ.app {gg cap : Nat} {u : Int} {ob : Obj} (h : WQ W P bi bt n x y va t L o w v X) (ho' : X'.ownsRow W.heap.size 3 1 (.slice (some ⟨gg, 0, none⟩) (w.length + 1) cap) (w.length + 1) (icells w ++ icells [u])) (hg : (X.alloc ob).grownBy X' v.ownBlock) :
    WQ W P bi bt n x y va t L o (w ++ [u]) (.slice (some ⟨gg, 0, none⟩) (w.length + 1) cap) X' := by
  obtain ⟨h1, ⟨h2, h3, h4, h5⟩, h6⟩ := h
  have hlt : ∀ g, v.ownBlock = some g → W.heap.size ≤ g := fun g e => (h6.lt g e).1
  exact ⟨(h1.call (below_box X ob)).grow hg fun g e => by have := hlt g e; omega, ⟨(h2.call (below_box X ob)).grow hg fun g e => .inr (.inr (.inr (hlt g e))), h3, h4, h5⟩, by rw [List.length_append, icells_append]; exact ho'⟩
theorem WQ.bump {D : DataW Unit} {u : Int} (h : WQ W P bi bt n x y va t L o w v X) (hu : 0 ≤ u ∧ u < (n : Int)) (hD : TM D t) (ho : X'.ownsMap Try.prog 3 (plainElem Try.prog 3) bt (tot t n + 1) (D.put (.int .i64 u) (.lit (.int .i64 ((t u : Nat) + 1 : Int))))) (hg : X.grownBy X' (some bt)) : WQ W P bi bt n x y va (upd t u) L o w v X' := by
  obtain ⟨h1, ⟨h2, h3, h4, h5⟩, h6⟩ := h
  refine ⟨h1.bump hu hD ho hg, ⟨h2.grow hg fun g e => by cases e; exact .inr (.inr (.inl rfl)), h3, h4, h5⟩, h6.kept hg ?_⟩
  cases hv : v.ownBlock with
  | none => exact .inl rfl
  | some g => exact .inr fun e => by have := (h6.lt g hv).1; have := Option.some.inj e; omega
theorem WQ.cut {g c m : Nat} (h : WQ W P bi bt n x y va t L o w (.slice (some ⟨g, 0, none⟩) w.length c) X) (hm : m ≤ w.length) : WQ W P bi bt n x y va t L o (w.take m) (.slice (some ⟨g, 0, none⟩) m c) X := by
  refine ⟨h.1, h.2.1, ?_⟩
  have := own_cut h.2.2 hm
  rw [List.length_take, Nat.min_eq_left hm]
  have e : icells (w.take m) = (icells w).take m := by unfold icells; rw [List.map_take]
  rw [e]; exact this
/-- While a walk's cells are joined. -/
def JQ (W : World) (P bi bt n : Nat) (x y : Int) (va : Value) (t : Int → Nat) (L : List Int) (o : Int) (X : World) : Prop :=
  PS P bi bt n x y va t L o X ∧ Kp P bi bt W X ∧ P < W.heap.size ∧ bi < W.heap.size ∧ bt < W.heap.size
theorem JQ.call (h : JQ W P bi bt n x y va t L o X) (hb : Below X.heap.size X X') : JQ W P bi bt n x y va t L o X' := ⟨h.1.call hb, h.2.1.call hb, h.2.2⟩
theorem JQ.dr (h : JQ W P bi bt n x y va t L o X) : JQ W P bi bt n x y va t L o X.drew := h.call ⟨rfl, rfl, rfl, Nat.le_refl _, fun _ _ => rfl⟩
theorem JQ.drs (h : JQ W P bi bt n x y va t L o X) (m : Nat) : JQ W P bi bt n x y va t L o (X.drewN m) := h.call ⟨rfl, rfl, rfl, Nat.le_refl _, fun _ _ => rfl⟩
theorem jq_new (h : PS P bi bt n x y va t L o W) : JQ W P bi bt n x y va t L o W := ⟨h, kp_refl _ _ _ _, h.lt⟩
theorem JQ.inn {u : Int} (h : JQ W P bi bt n x y va t L o X) (ho : X'.ownsMap Try.prog 3 (plainElem Try.prog 4) bi (L.length + 1) ((Sd L).put (.int .i64 u) (.lit (.bool true)))) (hg : X.grownBy X' (some bi)) : JQ W P bi bt n x y va t (L ++ [u]) o X' :=
  ⟨h.1.inn ho hg, h.2.1.grow hg fun g e => by cases e; exact .inr (.inl rfl), h.2.2⟩
theorem JQ.maz (h : JQ W P bi bt n x y va t L o X) (o' : Int) : JQ W P bi bt n x y va t L o' (((X.setCell ⟨P, 0, none⟩ (.int .i64 x)).setCell ⟨P, 1, none⟩ (.int .i64 y)).setCell ⟨P, 2, none⟩ (.int .i64 o')) :=
  ⟨h.1.maz o', h.2.1.grow (grown_set (grown_set (grown_one X _ _ _) _) _) fun g e => by cases e; exact .inl rfl, h.2.2⟩
end
end Go.Proofs.Ytcoikcnijaniaaa.popW
