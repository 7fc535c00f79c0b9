/- A list of integers that a call writes, beside whatever else it keeps; answers with a truth value. -/
import Derived.Test.YthakbjdkcdppjaaIntA
namespace Go.Proofs.Ythakbjdkcdppjaa.listK
open Go.ChangeShapes Go.WideShapes Go.ChangeAt Go.RowKit
open draw gridC mazeC intsP reachD intA intK
set_option linter.unusedVariables false

/-- A call answers a number and a truth value and leaves all that was there. -/
def NmB (v : Int) (b : Bool) (w : World) (e : Ending) (w' : World) : Prop := e = .returned (.tuple #[.int .i64 v, .bool b]) ∧ Below w.heap.size w w'
theorem nmb_mk {v v' : Int} {b b' : Bool} {w w' : World} (h : v' = v) (h' : b' = b) (hb : Below w.heap.size w w') : NmB v b w (.returned (.tuple #[.int .i64 v', .bool b'])) w' := ⟨by rw [h, h'], hb⟩
/-- A call answers a list of its own and a truth value and leaves all that was there. -/
def IntsB (l : List Int) (b : Bool) (w : World) (e : Ending) (w' : World) : Prop := ∃ v, e = .returned (.tuple #[v, .bool b]) ∧ w'.ownsRow w.heap.size 3 1 v l.length (icells l) ∧ Below w.heap.size w w'
theorem intsb_mk {l : List Int} {b b' : Bool} {w w' : World} {v : Value} {n base : Nat} (hn : n = l.length) (h' : b' = b) (ho : w'.ownsRow base 3 1 v n (icells l)) (hB : w.heap.size ≤ base) (hb : Below w.heap.size w w') : IntsB l b w (.returned (.tuple #[v, .bool b'])) w' := by
  subst hn; subst h'
  exact ⟨v, rfl, own_base ho hB, hb⟩
/-- A call answers a text and leaves all that was there. -/
def Tx (s : ByteArray) (w : World) (e : Ending) (w' : World) : Prop := e = .returned (.string s) ∧ Below w.heap.size w w'
theorem tx_mk {s s' : ByteArray} {w w' : World} (h : s' = s) (hb : Below w.heap.size w w') : Tx s w (.returned (.string s')) w' := ⟨by rw [h], hb⟩

/-- What lies below B stays. -/
theorem mbox_keep {b B : Nat} {x y z : Int} {X X' : World} (h : MBox b x y z X) (hb : b < B) (hw : Below B X X') : MBox b x y z X' := by
  obtain ⟨⟨c0, c1, c2⟩, hl⟩ := h
  exact ⟨⟨(hw.cell (p := ⟨b, 0, none⟩) hb).trans c0, (hw.cell (p := ⟨b, 1, none⟩) hb).trans c1, (hw.cell (p := ⟨b, 2, none⟩) hb).trans c2⟩, Nat.lt_of_lt_of_le hl hw.size⟩
theorem IntsIn.low {w w' : World} {B B' : Nat} {A : Option Addr} {l : List Int} (h : IntsIn w B A l) (hB : B ≤ B') (hb : Below B' w w') : IntsIn w' B A l := h.keep fun p hp => hb.cell (Nat.lt_of_lt_of_le hp hB)

/-- A list l that is written, in blocks from b on. -/
def OL (W : World) (b : Nat) (l : List Int) (v : Value) (X : World) : Prop :=
  Below W.heap.size W X ∧ W.heap.size ≤ b ∧ b ≤ X.heap.size ∧ X.ownsRow b 3 1 v l.length (icells l)
theorem OL.call {W X X' : World} {b : Nat} {l : List Int} {v : Value} (h : OL W b l v X) (hb : Below X.heap.size X X') : OL W b l v X' :=
  ⟨below_call h.1 hb, h.2.1, Nat.le_trans h.2.2.1 hb.size, own_call h.2.2.2 hb⟩
theorem OL.dr {W X : World} {b : Nat} {l : List Int} {v : Value} (h : OL W b l v X) : OL W b l v X.drew := h.call ⟨rfl, rfl, rfl, Nat.le_refl _, fun _ _ => rfl⟩
theorem OL.drs {W X : World} {b : Nat} {l : List Int} {v : Value} (h : OL W b l v X) (n : Nat) : OL W b l v (X.drewN n) := h.call ⟨rfl, rfl, rfl, Nat.le_refl _, fun _ _ => rfl⟩
theorem OL.form {W X : World} {b : Nat} {l : List Int} {v : Value} (h : OL W b l v X) : ∃ A c, v = .slice A l.length c := own_form h.2.2.2
/-- An empty list of its own, just made. -/
theorem ol_new {W X : World} (h : Below W.heap.size W X) (hz : W.heap.size ≤ X.heap.size) : OL W X.heap.size [] (.slice (some ⟨X.heap.size, 0, none⟩) 0 0) (X.alloc (.cells #[] 3)) := by
  refine ⟨h.alloc hz _, hz, by simp, ?_⟩
  have := World.ownsRow_lit (base := X.heap.size) (e := 3) (size := 1) X #[] 0 (Nat.le_refl _) (by decide) rfl
  simpa [icells] using this
/-- A list with one element, just made. -/
theorem ol_one {W X : World} (h : Below W.heap.size W X) (hz : W.heap.size ≤ X.heap.size) (u : Int) : OL W X.heap.size [u] (.slice (some ⟨X.heap.size, 0, none⟩) 1 1) (X.alloc (.cells #[.int .i64 u] 3)) := by
  refine ⟨h.alloc hz _, hz, by simp, ?_⟩
  have := World.ownsRow_lit (base := X.heap.size) (e := 3) (size := 1) X #[.int .i64 u] 1 (Nat.le_refl _) (by decide) rfl
  simpa [icells] using this
/-- The list that is nil. -/
theorem ol_nil {W X : World} {b : Nat} (h : Below W.heap.size W X) (hW : W.heap.size ≤ b) (hb : b ≤ X.heap.size) : OL W b [] (.slice none 0 0) X := ⟨h, hW, hb, World.ownsRow_nil X b 3 1⟩
/-- One more is appended. -/
theorem OL.app {W X X' : World} {b gg cap : Nat} {l : List Int} {v : Value} {o : Obj} {u : Int} (h : OL W b l v X)
    (ho : X'.ownsRow b 3 1 (.slice (some ⟨gg, 0, none⟩) (l.length + 1) cap) (l.length + 1) (icells l ++ icells [u])) (hg : (X.alloc o).grownBy X' v.ownBlock) :
    OL W b (l ++ [u]) (.slice (some ⟨gg, 0, none⟩) (l.length + 1) cap) X' ∧ Below b X X' := by
  obtain ⟨h1, h2, h3, h4⟩ := h
  have hb : Below b X X' := below_app (Below.refl _ _) (Nat.le_refl _) h3 h4 hg
  refine ⟨⟨below_app h1 h2 (Nat.le_refl _) h4 hg, h2, Nat.le_trans h3 hb.size, ?_⟩, hb⟩
  rw [List.length_append, icells_append]; exact ho
/-- Another row stays while one is appended. -/
theorem row_app {X X' : World} {base g N c : Nat} {v : Value} {o : Obj} {xs : List Value} (hv : X.ownsRow base 3 1 (.slice (some ⟨g, 0, none⟩) N c) N xs) (hne : v.ownBlock ≠ some g) (hg : (X.alloc o).grownBy X' v.ownBlock) : X'.ownsRow base 3 1 (.slice (some ⟨g, 0, none⟩) N c) N xs :=
  (hv.alloc o).kept hg (.inr fun e => hne (by rw [← e]; rfl))
theorem blk_app {X : World} {base g gg n cap N c : Nat} {v : Value} {xs : List Value} (hv : X.ownsRow base 3 1 (.slice (some ⟨g, 0, none⟩) N c) N xs) (hne : v.ownBlock ≠ some g) (hat : v.ownBlock = some gg ∨ gg = X.heap.size + 1) : (Value.slice (some ⟨gg, 0, none⟩) n cap).ownBlock ≠ some g := by
  have hgx : g < X.heap.size := own_lt hv g rfl
  show some gg ≠ some g
  rintro e
  have e := Option.some.inj e
  subst e
  rcases hat with h | h
  · exact hne h
  · omega

/-- A cell of a list of integers that is owned. -/
theorem own_cellI {X : World} {base g c n i : Nat} {l : List Int} {d : Int} (h : X.ownsRow base 3 1 (.slice (some ⟨g, 0, none⟩) n c) n (icells l)) (hd : l[i]? = some d) : X.cell? ⟨g, i, none⟩ = some (.int .i64 d) := by
  have hi : i < l.length := (List.getElem?_eq_some_iff.1 hd).1
  have hn : n = l.length := by have := h.1; rw [icells_length] at this; omega
  rw [h.cellAt i (by omega), icells_at _ i hi]
  rw [List.getElem?_eq_getElem hi] at hd
  rw [Option.some.inj hd]
/-- Two rows of different calls lie apart. -/
theorem own_apart {w w' : World} {bx n m : Nat} {e e' : TypeId} {s s' : Nat} {vx vy : Value} {xs ys : List Value} (hx : w.ownsRow bx e s vx n xs) (hy : w'.ownsRow w.heap.size e' s' vy m ys) : ∀ g, vx.ownBlock = some g → vy.ownBlock ≠ some g := fun g h1 h2 => by
  have a := (hx.lt g h1).2
  have b := (hy.lt g h2).1
  omega
theorem ne_symm {vx vy : Value} (h : ∀ g, vx.ownBlock = some g → vy.ownBlock ≠ some g) : ∀ g, vy.ownBlock = some g → vx.ownBlock ≠ some g := fun g h1 h2 => h g h2 h1
/-- What stays while one row is marked. -/
theorem below_marked {W X X' : World} {row : Option Nat} (h : Below W.heap.size W X) (hg : X.grownBy X' row) (hr : ∀ g, row = some g → W.heap.size ≤ g) : Below W.heap.size W X' := h.grown hg h.size hr
theorem mbox_marked {b : Nat} {x y z : Int} {X X' : World} {row : Option Nat} (h : MBox b x y z X) (hg : X.grownBy X' row) (hr : ∀ g, row = some g → b < g) : MBox b x y z X' := by
  obtain ⟨⟨c0, c1, c2⟩, hl⟩ := h
  have hne : some b ≠ row := fun e => absurd (hr b e.symm) (Nat.lt_irrefl b)
  exact ⟨⟨hg.cell c0 hne, hg.cell c1 hne, hg.cell c2 hne⟩, Nat.lt_of_lt_of_le hl hg.size⟩
theorem box_marked {b : Nat} {x y : Int} {X X' : World} {row : Option Nat} (h : Box b x y X) (hg : X.grownBy X' row) (hr : ∀ g, row = some g → b < g) : Box b x y X' := by
  obtain ⟨⟨c0, c1⟩, hl⟩ := h
  have hne : some b ≠ row := fun e => absurd (hr b e.symm) (Nat.lt_irrefl b)
  exact ⟨⟨hg.cell c0 hne, hg.cell c1 hne⟩, Nat.lt_of_lt_of_le hl hg.size⟩
theorem row_marked {X X' : World} {base n s : Nat} {e : TypeId} {v v' : Value} {xs : List Value} (h : X.ownsRow base e s v n xs) (hg : X.grownBy X' v'.ownBlock) (hne : ∀ g, v.ownBlock = some g → v'.ownBlock ≠ some g) : X'.ownsRow base e s v n xs :=
  h.kept hg (by
    cases hv : v.ownBlock with
    | none => exact .inl rfl
    | some g => exact .inr fun e => hne g hv e.symm)
theorem grown_refl (w : World) (row : Option Nat) : w.grownBy w row := ⟨rfl, rfl, rfl, Nat.le_refl _, fun _ _ _ => rfl⟩
theorem grown_set {w X : World} {g j : Nat} (h : w.grownBy X (some g)) (u : Value) : w.grownBy (X.setCell ⟨g, j, none⟩ u) (some g) :=
  ⟨h.os, h.tape, h.output, by simpa [World.setCell] using h.size, fun k hk hne => (Below.heap_setCell X ⟨g, j, none⟩ u k (fun e => hne (by rw [e]))).trans (h.block k hk hne)⟩
/-- At the head of a round of marking: only one block has changed. -/
def MkOne (base m n : Nat) (v : Value) (xs : List Value) (w : World) (u1 u5 : Value) (wr : World) : Prop :=
  ∃ j : Nat, j ≤ n ∧ u5 = .int .i64 j ∧ u1 = .int .i64 ((m + j : Nat) : Int) ∧ wr.ownsRow base 3 1 v n (intK.part m j xs) ∧ w.grownBy wr v.ownBlock
theorem mk_one {base m n j g c : Nat} {xs : List Value} {w wr : World} (hlt : j < n) (hx : xs.length = n) (hown : wr.ownsRow base 3 1 (.slice (some ⟨g, 0, none⟩) n c) n (intK.part m j xs)) (hb : w.grownBy wr (some g)) :
    MkOne base m n (.slice (some ⟨g, 0, none⟩) n c) xs w (.int .i64 ((m : Int) + (j : Int) + 1)) (.int .i64 ((j : Int) + 1)) (wr.setCell ⟨g, j, none⟩ (.int .i64 ((m : Int) + (j : Int)))) := by
  have h1 := hown.stored j (.int .i64 ((m + j : Nat) : Int))
  have e : (.int .i64 ((m : Int) + (j : Int)) : Value) = .int .i64 ((m + j : Nat) : Int) := by rw [show ((m + j : Nat) : Int) = (m : Int) + (j : Int) from by omega]
  rw [e]
  refine ⟨j + 1, hlt, by go_num, by rw [show ((m + (j + 1) : Nat) : Int) = (m : Int) + (j : Int) + 1 from by omega], ?_, grown_set hb _⟩
  rw [intK.part_set m j xs (by omega)] at h1
  exact h1.1

end Go.Proofs.Ythakbjdkcdppjaa.listK
