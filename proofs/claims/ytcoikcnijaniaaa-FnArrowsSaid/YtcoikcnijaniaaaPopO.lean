/- What stands in memory while the model pops arrows. -/
import Derived.Test.YtcoikcnijaniaaaPopP
import Derived.Test.YtcoikcnijaniaaaRowsP
import Derived.Test.YtcoikcnijaniaaaErsO
namespace Go.Proofs.Ytcoikcnijaniaaa.popO
open Go.ChangeShapes Go.WideShapes Go.ChangeAt Go.RowKit
open draw gridP gridC bitP mazeP mazeC mazeM mazeR intsP boolP reachP reachD intA intK listK rowsP wayP ersP ersO popP
set_option linter.unusedVariables false

/-- The tops as a list, the cells that are in the maze as a list. -/
def tL (N : Nat) (t : Int → Nat) : List Int := (List.range N).map fun (k : Nat) => ((t k : Nat) : Int)
def iL (N : Nat) (L : List Int) : List Bool := (List.range N).map fun (k : Nat) => decide ((k : Int) ∈ L)
theorem tL_len (N : Nat) (t : Int → Nat) : (tL N t).length = N := by simp [tL]
theorem iL_len (N : Nat) (L : List Int) : (iL N L).length = N := by simp [iL]
theorem tL_at {N k : Nat} (t : Int → Nat) (hk : k < N) : (tL N t)[k]? = some ((t k : Nat) : Int) := by simp [tL, hk]
theorem iL_at {N k : Nat} (L : List Int) (hk : k < N) : (iL N L)[k]? = some (decide ((k : Int) ∈ L)) := by simp [iL, hk]
theorem tL_set {N k : Nat} (t : Int → Nat) (hk : k < N) : (tL N t).set k ((t k : Nat) + 1 : Int) = tL N (upd t k) := by
  apply List.ext_getElem?
  intro i
  rw [List.getElem?_set]
  by_cases hi : i < N
  · rw [tL_at _ hi, tL_at _ hi, tL_len]
    by_cases e : k = i
    · subst e; simp [upd, hi]
    · rw [if_neg e]
      have : ¬ (i : Int) = (k : Int) := by omega
      simp only [upd]; rw [if_neg this]
  · have h1 : (tL N t)[i]? = none := List.getElem?_eq_none (by rw [tL_len]; omega)
    have h2 : (tL N (upd t k))[i]? = none := List.getElem?_eq_none (by rw [tL_len]; omega)
    rw [h1, h2, if_neg (by omega)]
theorem iL_set {N k : Nat} (L : List Int) (hk : k < N) : (iL N L).set k true = iL N (L ++ [(k : Int)]) := by
  apply List.ext_getElem?
  intro i
  rw [List.getElem?_set]
  by_cases hi : i < N
  · rw [iL_at _ hi, iL_at _ hi, iL_len]
    by_cases e : k = i
    · subst e; simp [hi]
    · rw [if_neg e]
      have : ¬ (i : Int) = (k : Int) := by omega
      simp [this]
  · have h1 : (iL N L)[i]? = none := List.getElem?_eq_none (by rw [iL_len]; omega)
    have h2 : (iL N (L ++ [(k : Int)]))[i]? = none := List.getElem?_eq_none (by rw [iL_len]; omega)
    rw [h1, h2, if_neg (by omega)]
theorem tL_zero (N : Nat) : tL N (fun _ => 0) = List.replicate N 0 := by
  apply List.ext_getElem?
  intro i
  by_cases hi : i < N
  · rw [tL_at _ hi]; simp [hi]
  · rw [List.getElem?_eq_none (by rw [tL_len]; omega), List.getElem?_eq_none (by simp; omega)]
theorem iL_zero {N : Nat} (hN : 1 ≤ N) : (List.replicate N false).set 0 true = iL N [0] := by
  have : List.replicate N false = iL N [] := by
    refine List.ext_getElem (by simp [iL]) fun i h1 h2 => ?_
    simp [iL]
  rw [this]
  exact iL_set [] (by omega)

/-! ### blocks that stay -/
theorem grown_call {X X' : World} (hb : Below X.heap.size X X') : X.grownBy X' none := by
  obtain ⟨a, b, c, d, e⟩ := hb
  exact ⟨a, b, c, d, fun k hk _ => e k hk⟩
theorem grown_one (X : World) (g j : Nat) (u : Value) : X.grownBy (X.setCell ⟨g, j, none⟩ u) (some g) := grown_set (grown_refl X (some g)) u
/-- A cell that is there stays over a call. -/
theorem cell_keep {X X' : World} (hb : Below X.heap.size X X') {p : Addr} {u : Value} (h : X.cell? p = some u) : X'.cell? p = some u := by
  by_cases hp : p.block < X.heap.size
  · exact (hb.cell hp).trans h
  · exfalso
    unfold World.cell? at h
    rw [Array.getElem?_eq_none (by omega)] at h
    simp at h
theorem box_g {X X' : World} {b : Nat} {x y : Int} {row : Option Nat} (h : Box b x y X) (hg : X.grownBy X' row) (hr : some b ≠ row) : Box b x y X' := by
  obtain ⟨⟨c0, c1⟩, hl⟩ := h
  exact ⟨⟨hg.cell c0 hr, hg.cell c1 hr⟩, Nat.lt_of_lt_of_le hl hg.size⟩
theorem row3_g {X X' : World} {b : Nat} {x y z : Int} {row : Option Nat} (h : Row3 b x y z X) (hg : X.grownBy X' row) (hr : some b ≠ row) : Row3 b x y z X' := by
  have hl := row3_lt h
  obtain ⟨T, h⟩ := h
  exact ⟨T, (hg.block b hl hr).trans h⟩
theorem row3_w {b : Nat} {x y z x' y' z' : Int} {X : World} (h : Row3 b x y z X) : Row3 b x' y' z' (((X.setCell ⟨b, 0, none⟩ (.int .i64 x')).setCell ⟨b, 1, none⟩ (.int .i64 y')).setCell ⟨b, 2, none⟩ (.int .i64 z')) := by
  obtain ⟨T, h⟩ := h
  exact ⟨T, by simp [World.setCell, Array.getElem?_modify, h]⟩

theorem gb_step {W X X' : World} {r0 row : Option Nat} (h : W.grownBy X r0) (hg : X.grownBy X' row) (hr : ∀ g, row = some g → r0 = some g ∨ W.heap.size ≤ g) : W.grownBy X' r0 := by
  refine ⟨hg.os.trans h.os, hg.tape.trans h.tape, hg.output.trans h.output, Nat.le_trans h.size hg.size, fun k hk hne => (hg.block k (Nat.lt_of_lt_of_le hk h.size) fun e => ?_).trans (h.block k hk hne)⟩
  rcases hr k e.symm with h' | h'
  · exact hne h'.symm
  · omega
section
variable {W X X' : World} {b N bw : Nat} {r0 : Option Nat} {x y o : Int} {A : Option Addr} {ls : List (List Int)} {t : Int → Nat} {L l w : List Int} {vo v : Value} {row : Option Nat}
/-- The arguments' box, the answer's block, the maze, the tops, the cells that are in, the arrows. -/
def MZ (W : World) (r0 : Option Nat) (b N : Nat) (x y : Int) (A : Option Addr) (ls : List (List Int)) (t : Int → Nat) (L : List Int) (o : Int) (X : World) : Prop :=
  ((Below b W X ∧ W.grownBy X r0 ∧ ∀ g, r0 = some g → b ≤ g ∧ g < W.heap.size) ∧ b ≤ W.heap.size ∧ W.heap.size + 5 ≤ X.heap.size) ∧ (Box W.heap.size x y X ∧ Row3 (W.heap.size + 1) 0 0 0 X ∧ Row3 (W.heap.size + 1 + 1) x y o X) ∧
  X.ownsRow b 3 1 (.slice (some ⟨W.heap.size + 1 + 1 + 1, 0, none⟩) N N) N (icells (tL N t)) ∧
  X.ownsRow b 4 1 (.slice (some ⟨W.heap.size + 1 + 1 + 1 + 1, 0, none⟩) N N) N (bcells (iL N L)) ∧ MxIn X b A ls
theorem MZ.grow (h : MZ W r0 b N x y A ls t L o X) (hg : X.grownBy X' row) (hr : ∀ g, row = some g → r0 = some g ∨ W.heap.size + 4 < g) : MZ W r0 b N x y A ls t L o X' := by
  obtain ⟨⟨⟨h1, hgb, hr0⟩, h2, h3⟩, ⟨h4, h5, h6⟩, h7, h8, h9⟩ := h
  have hrb : ∀ g, row = some g → b ≤ g ∧ (g < W.heap.size ∨ W.heap.size + 4 < g) := fun g e => by
    rcases hr g e with h | h
    · have := hr0 g h; omega
    · omega
  have hne : ∀ j, j ≤ 4 → some (W.heap.size + j) ≠ row := fun j hj e => by have := hrb _ e.symm; omega
  refine ⟨⟨⟨h1.grown hg (by omega) fun g e => (hrb g e).1, gb_step hgb hg fun g e => (hr g e).imp id fun h => by omega, hr0⟩, h2, Nat.le_trans h3 hg.size⟩, ⟨box_g h4 hg (hne 0 (by omega)), row3_g h5 hg (hne 1 (by omega)), row3_g h6 hg (hne 2 (by omega))⟩, h7.kept hg (.inr (hne 3 (by omega))), h8.kept hg (.inr (hne 4 (by omega))), h9.below ((Below.refl b X).grown hg (by omega) fun g e => (hrb g e).1)⟩
theorem MZ.call (h : MZ W r0 b N x y A ls t L o X) (hb : Below X.heap.size X X') : MZ W r0 b N x y A ls t L o X' := h.grow (grown_call hb) fun g e => by cases e
theorem MZ.set {X' : World} {g : Nat} (h : MZ W r0 b N x y A ls t L o X) (hg : X.grownBy X' (some g)) (hb : W.heap.size ≤ g) :
    ((Below b W X' ∧ W.grownBy X' r0 ∧ ∀ g, r0 = some g → b ≤ g ∧ g < W.heap.size) ∧ b ≤ W.heap.size ∧ W.heap.size + 5 ≤ X'.heap.size) ∧ MxIn X' b A ls := by
  obtain ⟨⟨⟨h1, hgb, hr0⟩, h2, h3⟩, -, -, -, h9⟩ := h
  exact ⟨⟨⟨h1.grown hg (by omega) fun g' e => by cases e; omega, gb_step hgb hg fun g' e => by cases e; exact .inr hb, hr0⟩, h2, Nat.le_trans h3 hg.size⟩, h9.below ((Below.refl b X).grown hg (by omega) fun g' e => by cases e; omega)⟩
theorem blk_ne {a b n c : Nat} (h : a ≠ b) : (Value.slice (some ⟨a, 0, none⟩) n c).ownBlock ≠ some b := fun e => h (Option.some.inj e)
theorem ne_some {a b : Nat} (h : a ≠ b) : some a ≠ some b := fun e => h (Option.some.inj e)
/-- A top is written. -/
theorem MZ.top (h : MZ W r0 b N x y A ls t L o X) {k : Nat} (hk : k < N) : MZ W r0 b N x y A ls (upd t k) L o (X.setCell ⟨W.heap.size + 1 + 1 + 1, k, none⟩ (.int .i64 ((t k : Nat) + 1 : Int))) := by
  have hg := grown_one X (W.heap.size + 1 + 1 + 1) k (.int .i64 ((t k : Nat) + 1 : Int))
  have h2 := h.1.2.1
  obtain ⟨g1, g2⟩ := h.set hg (by omega)
  obtain ⟨-, ⟨h4, h5, h6⟩, h7, h8, -⟩ := h
  refine ⟨g1, ⟨box_g h4 hg (ne_some (by omega)), row3_g h5 hg (ne_some (by omega)), row3_g h6 hg (ne_some (by omega))⟩, ?_, h8.kept hg (.inr (blk_ne (by omega))), g2⟩
  have := (h7.stored k (.int .i64 ((t k : Nat) + 1 : Int))).1
  have e : (icells (tL N t)).set k (.int .i64 ((t k : Nat) + 1 : Int)) = icells (tL N (upd t k)) := by rw [← tL_set t hk]; unfold icells; rw [List.map_set]
  rwa [e] at this
/-- A cell comes into the maze. -/
theorem MZ.inn (h : MZ W r0 b N x y A ls t L o X) {k : Nat} (hk : k < N) : MZ W r0 b N x y A ls t (L ++ [(k : Int)]) o (X.setCell ⟨W.heap.size + 1 + 1 + 1 + 1, k, none⟩ (.bool true)) := by
  have hg := grown_one X (W.heap.size + 1 + 1 + 1 + 1) k (.bool true)
  have h2 := h.1.2.1
  obtain ⟨g1, g2⟩ := h.set hg (by omega)
  obtain ⟨-, ⟨h4, h5, h6⟩, h7, h8, -⟩ := h
  refine ⟨g1, ⟨box_g h4 hg (ne_some (by omega)), row3_g h5 hg (ne_some (by omega)), row3_g h6 hg (ne_some (by omega))⟩, h7.kept hg (.inr (blk_ne (by omega))), ?_, g2⟩
  rw [← iL_set L hk]
  exact bools_put h8 k true
/-- The maze changes. -/
theorem MZ.maz (h : MZ W r0 b N x y A ls t L o X) (o' : Int) : MZ W r0 b N x y A ls t L o' (((X.setCell ⟨W.heap.size + 1 + 1, 0, none⟩ (.int .i64 x)).setCell ⟨W.heap.size + 1 + 1, 1, none⟩ (.int .i64 y)).setCell ⟨W.heap.size + 1 + 1, 2, none⟩ (.int .i64 o')) := by
  have hg : X.grownBy (((X.setCell ⟨W.heap.size + 1 + 1, 0, none⟩ (.int .i64 x)).setCell ⟨W.heap.size + 1 + 1, 1, none⟩ (.int .i64 y)).setCell ⟨W.heap.size + 1 + 1, 2, none⟩ (.int .i64 o')) (some (W.heap.size + 1 + 1)) := grown_set (grown_set (grown_one X _ _ _) _) _
  have h2 := h.1.2.1
  obtain ⟨g1, g2⟩ := h.set hg (by omega)
  obtain ⟨-, ⟨h4, h5, h6⟩, h7, h8, -⟩ := h
  exact ⟨g1, ⟨box_g h4 hg (ne_some (by omega)), row3_g h5 hg (ne_some (by omega)), row3_w h6⟩, h7.kept hg (.inr (blk_ne (by omega))), h8.kept hg (.inr (blk_ne (by omega))), g2⟩
theorem MZ.tcell (h : MZ W r0 b N x y A ls t L o X) {k : Nat} (hk : k < N) : X.cell? ⟨W.heap.size + 1 + 1 + 1, k, none⟩ = some (.int .i64 ((t k : Nat) : Int)) ∧ X.frozen? ⟨W.heap.size + 1 + 1 + 1, k, none⟩ = false := ⟨own_cellI h.2.2.1 (tL_at t hk), h.2.2.1.frozenAt k⟩
theorem MZ.icell (h : MZ W r0 b N x y A ls t L o X) {k : Nat} (hk : k < N) : X.cell? ⟨W.heap.size + 1 + 1 + 1 + 1, k, none⟩ = some (.bool (decide ((k : Int) ∈ L))) ∧ X.frozen? ⟨W.heap.size + 1 + 1 + 1 + 1, k, none⟩ = false := by
  have h1 := bools_cell h.2.2.2.1 (iL_len N L) k hk
  have e : (iL N L).getD k false = decide ((k : Int) ∈ L) := by rw [List.getD_eq_getElem?_getD, iL_at L hk]; rfl
  rwa [e] at h1
/-- The row of a cell, and its top arrow. -/
theorem MZ.rcell {ad : Addr} (h : MZ W r0 b N x y (some ad) ls t L o X) (hA : Ao x y ls) {k : Nat} (hk : k < ls.length) : ∃ Ai ci, X.cell? (ad.add k) = some (.slice Ai (rwA ls k).length ci) ∧ IntsIn X b Ai (rwA ls k) := by
  obtain ⟨ad', e, hb, Ai, ci, h1, h2⟩ := mx_cell h.2.2.2.2 (ao_rows hA hk)
  cases e
  exact ⟨Ai, ci, h1, h2⟩

/-- The beginnings. -/
def OZ (W : World) (r0 : Option Nat) (b : Nat) (vo : Value) (l : List Int) (X : World) : Prop := X.ownsRow b 3 1 vo l.length (icells l) ∧ ∀ g, vo.ownBlock = some g → r0 = some g ∨ W.heap.size + 4 < g
theorem OZ.grow (h : OZ W r0 b vo l X) (hg : X.grownBy X' row) (hr : vo.ownBlock = none ∨ vo.ownBlock ≠ row) : OZ W r0 b vo l X' := ⟨h.1.kept hg hr, h.2⟩
theorem OZ.call (h : OZ W r0 b vo l X) (hb : Below X.heap.size X X') : OZ W r0 b vo l X' := ⟨own_call h.1 hb, h.2⟩
/-- Both, while one more beginning is appended. -/
theorem mz_app {gg cap : Nat} {u : Int} {ob : Obj} (h : MZ W r0 b N x y A ls t L o X) (ho : OZ W r0 b vo l X) (ho' : X'.ownsRow b 3 1 (.slice (some ⟨gg, 0, none⟩) (l.length + 1) cap) (l.length + 1) (icells l ++ icells [u])) (hg : (X.alloc ob).grownBy X' vo.ownBlock) (hat : vo.ownBlock = some gg ∨ gg = X.heap.size + 1) :
    MZ W r0 b N x y A ls t L o X' ∧ OZ W r0 b (.slice (some ⟨gg, 0, none⟩) (l.length + 1) cap) (l ++ [u]) X' := by
  have h3 := h.1.2.2
  refine ⟨(h.call (below_box X ob)).grow hg (fun g e => ho.2 g e), by rw [List.length_append, icells_append]; exact ho', fun g e => ?_⟩
  obtain rfl : gg = g := Option.some.inj e
  rcases hat with e | e
  · exact ho.2 _ e
  · right; omega

/-- Everything, while a walk is under way: the walk's row lies from bw on. -/
def WZ (W : World) (r0 : Option Nat) (b N : Nat) (x y : Int) (A : Option Addr) (ls : List (List Int)) (vo : Value) (l : List Int) (bw : Nat) (t : Int → Nat) (L : List Int) (o : Int) (w : List Int) (v : Value) (X : World) : Prop :=
  MZ W r0 b N x y A ls t L o X ∧ OZ W r0 b vo l X ∧ ((∀ g, vo.ownBlock = some g → g < bw) ∧ W.heap.size + 5 ≤ bw ∧ bw ≤ X.heap.size) ∧ X.ownsRow bw 3 1 v w.length (icells w)
theorem WZ.call (h : WZ W r0 b N x y A ls vo l bw t L o w v X) (hb : Below X.heap.size X X') : WZ W r0 b N x y A ls vo l bw t L o w v X' :=
  ⟨h.1.call hb, h.2.1.call hb, ⟨h.2.2.1.1, h.2.2.1.2.1, Nat.le_trans h.2.2.1.2.2 hb.size⟩, own_call h.2.2.2 hb⟩
theorem WZ.dr (h : WZ W r0 b N x y A ls vo l bw t L o w v X) : WZ W r0 b N x y A ls vo l bw t L o w v X.drew := h.call ⟨rfl, rfl, rfl, Nat.le_refl _, fun _ _ => rfl⟩
theorem WZ.drs (h : WZ W r0 b N x y A ls vo l bw t L o w v X) (n : Nat) : WZ W r0 b N x y A ls vo l bw t L o w v (X.drewN n) := h.call ⟨rfl, rfl, rfl, Nat.le_refl _, fun _ _ => rfl⟩
theorem wz_new (h : MZ W r0 b N x y A ls t L o X) (ho : OZ W r0 b vo l X) : WZ W r0 b N x y A ls vo l X.heap.size t L o [] (.slice (some ⟨X.heap.size, 0, none⟩) 0 0) (X.alloc (.cells #[] 3)) := by
  have h3 := h.1.2.2
  refine ⟨h.call (below_box _ _), ho.call (below_box _ _), ⟨fun g e => own_lt ho.1 g e, h3, by simp⟩, ?_⟩
  exact World.ownsRow_lit (base := X.heap.size) (e := 3) (size := 1) X #[] 0 (Nat.le_refl _) (by decide) rfl
theorem WZ.form (h : WZ W r0 b N x y A ls vo l bw t L o w v X) : ∃ A c, v = .slice A w.length c := own_form h.2.2.2
theorem WZ.app {gg cap : Nat} {u : Int} {ob : Obj} (h : WZ W r0 b N x y A ls vo l bw t L o w v X) (ho' : X'.ownsRow bw 3 1 (.slice (some ⟨gg, 0, none⟩) (w.length + 1) cap) (w.length + 1) (icells w ++ icells [u])) (hg : (X.alloc ob).grownBy X' v.ownBlock) :
    WZ W r0 b N x y A ls vo l bw t L o (w ++ [u]) (.slice (some ⟨gg, 0, none⟩) (w.length + 1) cap) X' := by
  obtain ⟨h1, h2, ⟨h3, h4, h5⟩, h6⟩ := h
  have hb := h1.1.2.1
  have hlt : ∀ g, v.ownBlock = some g → bw ≤ g := fun g e => (h6.lt g e).1
  refine ⟨(h1.call (below_box X ob)).grow hg (fun g e => .inr (by have := hlt g e; omega)), (h2.call (below_box X ob)).grow hg ?_, ⟨h3, h4, ?_⟩, by rw [List.length_append, icells_append]; exact ho'⟩
  · cases hv : vo.ownBlock with
    | none => exact .inl rfl
    | some g =>
      refine .inr fun e => ?_
      have h7 := h3 g hv
      have h8 := hlt g e.symm
      omega
  · exact Nat.le_trans h5 (Nat.le_trans (by simp) hg.size)
theorem WZ.set {g : Nat} (h : WZ W r0 b N x y A ls vo l bw t L o w v X) (hg : X.grownBy X' (some g)) (h1 : W.heap.size ≤ g) (h2 : g ≤ W.heap.size + 4) : OZ W r0 b vo l X' ∧ ((∀ g, vo.ownBlock = some g → g < bw) ∧ W.heap.size + 5 ≤ bw ∧ bw ≤ X'.heap.size) ∧ X'.ownsRow bw 3 1 v w.length (icells w) := by
  obtain ⟨hm, h3, ⟨h4, h5, h6⟩, h7⟩ := h
  have hr0 := hm.1.1.2.2
  refine ⟨h3.grow hg (.inr fun e => ?_), ⟨h4, h5, Nat.le_trans h6 hg.size⟩, h7.kept hg (.inr fun e => ?_)⟩
  · rcases h3.2 g e with h | h
    · have := hr0 g h; omega
    · omega
  · have := (h7.lt g e).1; omega
theorem WZ.top (h : WZ W r0 b N x y A ls vo l bw t L o w v X) {k : Nat} (hk : k < N) : WZ W r0 b N x y A ls vo l bw (upd t k) L o w v (X.setCell ⟨W.heap.size + 1 + 1 + 1, k, none⟩ (.int .i64 ((t k : Nat) + 1 : Int))) :=
  ⟨h.1.top hk, h.set (grown_one X _ _ _) (by omega) (by omega)⟩
theorem WZ.inn (h : WZ W r0 b N x y A ls vo l bw t L o w v X) {k : Nat} (hk : k < N) : WZ W r0 b N x y A ls vo l bw t (L ++ [(k : Int)]) o w v (X.setCell ⟨W.heap.size + 1 + 1 + 1 + 1, k, none⟩ (.bool true)) :=
  ⟨h.1.inn hk, h.set (grown_one X _ _ _) (by omega) (by omega)⟩
theorem WZ.maz (h : WZ W r0 b N x y A ls vo l bw t L o w v X) (o' : Int) : WZ W r0 b N x y A ls vo l bw t L o' w v (((X.setCell ⟨W.heap.size + 1 + 1, 0, none⟩ (.int .i64 x)).setCell ⟨W.heap.size + 1 + 1, 1, none⟩ (.int .i64 y)).setCell ⟨W.heap.size + 1 + 1, 2, none⟩ (.int .i64 o')) :=
  ⟨h.1.maz o', h.set (grown_set (grown_set (grown_one X _ _ _) _) _) (by omega) (by omega)⟩
theorem WZ.cut {g c : Nat} {m : Nat} (h : WZ W r0 b N x y A ls vo l bw t L o w (.slice (some ⟨g, 0, none⟩) w.length c) X) (hm : m ≤ w.length) : WZ W r0 b N x y A ls vo l bw t L o (w.take m) (.slice (some ⟨g, 0, none⟩) m c) X := by
  refine ⟨h.1, h.2.1, h.2.2.1, ?_⟩
  have := own_cut h.2.2.2 hm
  rw [List.length_take, Nat.min_eq_left hm]
  have e : icells (w.take m) = (icells w).take m := by unfold icells; rw [List.map_take]
  rw [e]; exact this
end
end Go.Proofs.Ytcoikcnijaniaaa.popO
