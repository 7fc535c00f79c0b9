/- A search that is under way: a maze in a box, the distances so far, the list of cells. -/
import Derived.Test.YtomjfcmaoeoigaaReachN
import Derived.Test.YtomjfcmaoeoigaaMazeM
import Derived.Test.YtomjfcmaoeoigaaIntsP
import Derived.Laws.OwnMore
import Derived.LoopTactic
namespace Go.Proofs.Ytomjfcmaoeoigaa.reachD
open Go.ChangeShapes Go.WideShapes Go.ChangeAt Go.RowKit
open draw gridP gridC bitP mazeP mazeC mazeM intsP reachP reachM reachN
set_option linter.unusedVariables false

/-- A maze and one of its cells. -/
def hasB (x y z a : Int) : Bool := decide (OkM x y z ∧ 0 ≤ a ∧ a < x * y)

/-- What stands while a search is under way: block b is the maze's box, block Q the distances. -/
def DS (W : World) (b : Nat) (x y z : Int) (Q N : Nat) (D : List Int) (X : World) : Prop :=
  Below W.heap.size W X ∧ MBox b x y z X ∧ X.ownsRow (b + 1) 3 1 (.slice (some ⟨Q, 0, none⟩) N N) N (icells D)
theorem own_at {X : World} {base Q n c : Nat} {xs : List Value} (h : X.ownsRow base 3 1 (.slice (some ⟨Q, 0, none⟩) n c) n xs) : Q < X.heap.size := (own_lt h) Q rfl
theorem DS.call {W X X' : World} {b Q N : Nat} {x y z : Int} {D : List Int} (h : DS W b x y z Q N D X) (hb : Below X.heap.size X X') : DS W b x y z Q N D X' :=
  ⟨below_call h.1 hb, h.2.1.call hb, own_call h.2.2 hb⟩
theorem DS.dr {W X : World} {b Q N : Nat} {x y z : Int} {D : List Int} (h : DS W b x y z Q N D X) (k : Nat) : DS W b x y z Q N D (X.drewN k) := h.call ⟨rfl, rfl, rfl, Nat.le_refl _, fun _ _ => rfl⟩
theorem DS.dr1 {W X : World} {b Q N : Nat} {x y z : Int} {D : List Int} (h : DS W b x y z Q N D X) : DS W b x y z Q N D X.drew := h.dr 1
theorem mbox_set {b : Nat} {x y z : Int} {X : World} (h : MBox b x y z X) {p : Addr} (hne : p.block ≠ b) (u : Value) : MBox b x y z (X.setCell p u) := by
  obtain ⟨⟨c0, c1, c2⟩, hl⟩ := h
  have n : ∀ k, p ≠ (⟨b, k, none⟩ : Addr) := fun k e => hne (by rw [e])
  exact ⟨⟨(World.cell?_setCell_other _ _ _ _ (n 0)).trans c0, (World.cell?_setCell_other _ _ _ _ (n 1)).trans c1, (World.cell?_setCell_other _ _ _ _ (n 2)).trans c2⟩, by simpa [World.setCell] using hl⟩
theorem mbox_grown {X X' : World} {b : Nat} {w h o : Int} {row : Option Nat} (hx : MBox b w h o X) (hg : X.grownBy X' row) (hne : ∀ k, row = some k → b < k) : MBox b w h o X' := by
  obtain ⟨⟨c0, c1, c2⟩, hl⟩ := hx
  have hr : some b ≠ row := fun e => absurd (hne b e.symm) (Nat.lt_irrefl b)
  exact ⟨⟨hg.cell c0 hr, hg.cell c1 hr, hg.cell c2 hr⟩, Nat.lt_of_lt_of_le hl hg.size⟩
/-- A distance is written. -/
theorem DS.put {W X : World} {b Q N : Nat} {x y z : Int} {D : List Int} (h : DS W b x y z Q N D X) (hbQ : b < Q) (hW : W.heap.size ≤ b) (j : Nat) (u : Int) : DS W b x y z Q N (D.set j u) (X.setCell ⟨Q, j, none⟩ (.int .i64 u)) := by
  refine ⟨h.1.setCell (by simp; omega) _, mbox_set h.2.1 (by simp; omega) _, ?_⟩
  have h1 := (h.2.2.stored j (.int .i64 u)).1
  have e : (icells D).set j (.int .i64 u) = icells (D.set j u) := by simp [icells, List.map_set]
  rwa [e] at h1
/-- The list of cells has grown. -/
theorem DS.app {W X X' : World} {b Q N n : Nat} {x y z : Int} {D : List Int} {v : Value} {xs : List Value} {o : Obj} (h : DS W b x y z Q N D X) (hbQ : b < Q) (hW : W.heap.size ≤ b) (hown : X.ownsRow (Q + 1) 3 1 v n xs) (hg : (X.alloc o).grownBy X' v.ownBlock) : DS W b x y z Q N D X' := by
  have hne : ∀ k, v.ownBlock = some k → Q < k := fun k hk => by have := (hown.lt k hk).1; omega
  refine ⟨below_app h.1 (by omega) (Nat.le_refl _) hown hg, mbox_grown (h.2.1.call (below_box _ _)) hg fun k hk => by have := hne k hk; omega, (h.2.2.alloc o).kept hg (.inr fun e => ?_)⟩
  have e' : v.ownBlock = some Q := by rw [← e]; rfl
  have := hne Q e'
  omega
theorem DS.cell {W X : World} {b Q N : Nat} {x y z : Int} {D : List Int} (h : DS W b x y z Q N D X) (hl : D.length = N) (j : Nat) (hj : j < N) : X.cell? ⟨Q, j, none⟩ = some (.int .i64 (D.getD j (-1))) ∧ X.frozen? ⟨Q, j, none⟩ = false := by
  refine ⟨(h.2.2.cellAt j (by omega)).trans ?_, h.2.2.frozenAt j⟩
  rw [icells_at D j (by omega), List.getD_eq_getElem?_getD, List.getElem?_eq_getElem (by omega)]
  rfl
/-- The cells of a list, as integers. -/
def zs (L : List Nat) : List Int := L.map fun v : Nat => (v : Int)
theorem zs_len (L : List Nat) : (zs L).length = L.length := by simp [zs]
theorem zs_snoc (L : List Nat) (v : Nat) : zs (L ++ [v]) = zs L ++ [(v : Int)] := by simp [zs]
theorem zs_cell {X : World} {base g c : Nat} {L : List Nat} (h : X.ownsRow base 3 1 (.slice (some ⟨g, 0, none⟩) L.length c) L.length (icells (zs L))) {k u : Nat} (hu : L[k]? = some u) : X.cell? ⟨g, k, none⟩ = some (.int .i64 (u : Int)) := by
  have hk : k < L.length := (List.getElem?_eq_some_iff.1 hu).1
  rw [h.cellAt k (by omega), icells_at _ k (by rw [zs_len]; exact hk)]
  have : L[k] = u := by rw [List.getElem?_eq_getElem hk] at hu; simpa using hu
  simp [zs, this]

/-- At the head of the search's loop over its list. -/
def LS (W : World) (b : Nat) (x y z : Int) (Q N a : Nat) (u7 u8 : Value) (X : World) : Prop :=
  ∃ (D : List Int) (L : List Nat) (k : Nat), k ≤ L.length ∧ u8 = .int .i64 k ∧ DS W b x y z Q N D X ∧ X.ownsRow (Q + 1) 3 1 u7 L.length (icells (zs L)) ∧ Inv (stN x y z) N a D L k 0
/-- At the head of its loop over the directions. -/
def QS (W : World) (b : Nat) (x y z : Int) (Q N a k : Nat) (u7 u9 : Value) (X : World) : Prop :=
  ∃ (D : List Int) (L : List Nat) (q : Nat), q ≤ 4 ∧ k < L.length ∧ u9 = .int .i64 q ∧ DS W b x y z Q N D X ∧ X.ownsRow (Q + 1) 3 1 u7 L.length (icells (zs L)) ∧ Inv (stN x y z) N a D L k q
theorem made_zero (n : Nat) : (madeCells (Value.int .i64 0).cells n).toList = icells (List.replicate n 0) := by
  unfold madeCells icells
  apply List.ext_getElem?
  intro i
  simp only [Array.toList_map, Array.toList_range, List.getElem?_map, Value.cells]
  by_cases hi : i < n
  · simp [hi, Nat.mod_one]
  · simp [hi]
/-- The distances' row is made. -/
theorem ds_make {W X : World} {b N : Nat} {x y z : Int} (h : Below W.heap.size W X) (hx : MBox b x y z X) (hW : W.heap.size ≤ X.heap.size) (hm : N ≤ maxLen) : DS W b x y z X.heap.size N (List.replicate N 0) (X.alloc (.cells (madeCells (Value.int .i64 0).cells N) 3)) := by
  refine ⟨h.alloc hW _, hx.call (below_box _ _), ?_⟩
  have := World.ownsRow_lit (base := b + 1) (e := 3) (size := 1) X (madeCells (Value.int .i64 0).cells N) N hx.2 hm (by rw [size_madeCells]; omega)
  rwa [made_zero] at this
theorem size_set (w : World) (p : Addr) (u : Value) : (w.setCell p u).heap.size = w.heap.size := by simp [World.setCell]
theorem new_set (w : World) (p : Addr) (u : Value) (o : Obj) : ((w.setCell p u).alloc o).heap[w.heap.size]? = some o := by
  have := heap_alloc_new (w.setCell p u) o
  rwa [size_set] at this
/-- The list begins with one cell. -/
theorem list_start {X : World} {Q : Nat} (a : Nat) (p : Addr) (u : Value) (hQ : Q < X.heap.size) : ((X.setCell p u).alloc (.cells #[.int .i64 (a : Int)] 3)).ownsRow (Q + 1) 3 1 (.slice (some ⟨X.heap.size, 0, none⟩) 1 1) ([a] : List Nat).length (icells (zs [a])) := by
  have := World.ownsRow_lit (base := Q + 1) (e := 3) (size := 1) (X.setCell p u) #[.int .i64 (a : Int)] 1 (by rw [size_set]; omega) (by decide) rfl
  rw [size_set] at this
  exact this
theorem ds_after {W X X' : World} {b Q N : Nat} {x y z : Int} {D : List Int} (hb : Below X.heap.size X X') (h : DS W b x y z Q N D X) : DS W b x y z Q N D X' := h.call hb
theorem own_after {w w' : World} {base n : Nat} {v : Value} {xs : List Value} (hb : Below w.heap.size w w') (h : w.ownsRow base 3 1 v n xs) : w'.ownsRow base 3 1 v n xs := own_call h hb
theorem own_put {X : World} {base n : Nat} {v : Value} {xs : List Value} (h : X.ownsRow base 3 1 v n xs) {p : Addr} (hp : p.block < base) (u : Value) : (X.setCell p u).ownsRow base 3 1 v n xs := ownsRow_setCell_below h hp u
/-- A cell is found for the first time. -/
theorem qs_new {W X X' : World} {b Q N a k q n gg cap : Nat} {x y z : Int} {D : List Int} {L : List Nat} {v : Value} {o : Obj} (hi : Inv (stN x y z) N a D L k (q + 1)) (hq : q < 4) (hk : k < L.length) (hn : n + 1 = L.length) (hds : DS W b x y z Q N D X) (hbQ : b < Q) (hW : W.heap.size ≤ b) {xs : List Value} (hown : X.ownsRow (Q + 1) 3 1 v n xs)
    (ho' : X'.ownsRow (Q + 1) 3 1 (.slice (some ⟨gg, 0, none⟩) (n + 1) cap) (n + 1) (icells (zs L))) (hg : (X.alloc o).grownBy X' v.ownBlock) :
    QS W b x y z Q N a k (.slice (some ⟨gg, 0, none⟩) (n + 1) cap) (.int .i64 ((q : Int) + 1)) X' :=
  ⟨D, L, q + 1, by omega, hk, by go_num, hds.app hbQ hW hown hg, by rw [← hn]; exact ho', hi⟩

/-- The cells that are reached from a cell. -/
def rsZ (x y z a : Int) : List Int := if hasB x y z a = true then rlN (stN x y z) (cN x y) a.toNat (cN x y) else []
/-- The number of parts. -/
def ptZ (x y z : Int) : Int := if OkM x y z then ((cpN (stN x y z) (cN x y) (cN x y) : Nat) : Int) else 0
/-- Whether there is one part. -/
def cnB (x y z : Int) : Bool := ptZ x y z == 1
/-- The distance between two cells. -/
def dsZ (x y z a b : Int) : Int := if hasB x y z a = true ∧ hasB x y z b = true then dZ (stN x y z) (cN x y) a.toNat b.toNat else -1
/-- The farthest cell. -/
def faZ (x y z a : Int) : Int := if hasB x y z a = true then ((farN (fun v => dZ (stN x y z) (cN x y) a.toNat v) a.toNat (cN x y) : Nat) : Int) else -1
/-- What a cell that is there is. -/
theorem has_form {x y z a : Int} (h : hasB x y z a = true) : OkM x y z ∧ ∃ k : Nat, a = (k : Int) ∧ (k : Int) < x * y ∧ k < cN x y ∧ a.toNat = k ∧ cN x y ≤ 16 ∧ x * y = (cN x y : Int) := by
  have h' := of_decide_eq_true h
  obtain ⟨hv, h0, h1⟩ := h'
  obtain ⟨k, rfl⟩ := Int.eq_ofNat_of_zero_le h0
  have := (mul_bd x y hv.1.1 hv.1.2.1 hv.1.2.2.1 hv.1.2.2.2).1
  refine ⟨hv, k, rfl, h1, ?_, by simp, ?_, ?_⟩ <;> unfold cN <;> omega
theorem own_zero (W : World) (o : Obj) : ((W.alloc o).alloc (.cells #[] 3)).ownsRow (W.heap.size + 1) 3 1 (.slice (some ⟨W.heap.size + 1, 0, none⟩) 0 0) 0 [] := by
  have := World.ownsRow_lit (base := W.heap.size + 1) (e := 3) (size := 1) (W.alloc o) #[] 0 (by simp) (by decide) rfl
  simpa using this
/-- A list of distances can be read. -/
theorem dl_cell {X : World} {base g n : Nat} {st : Nat → Nat → Int} {N a c : Nat} (h : X.ownsRow base 3 1 (.slice (some ⟨g, 0, none⟩) n c) n (icells (dl st N a))) (hn : n = N) {k : Nat} (hk : k < N) : X.cell? ⟨g, k, none⟩ = some (.int .i64 (dZ st N a k)) := by
  subst hn
  rw [h.cellAt k (by omega), icells_at _ k (by rw [dl_len]; exact hk)]
  have := dl_at st n a k hk
  rw [List.getElem?_eq_getElem (by rw [dl_len]; exact hk)] at this
  simpa using this
/-- At the head of the loop that counts the parts. -/
def PS (W : World) (b : Nat) (x y z : Int) (st : Nat → Nat → Int) (N : Nat) (u3 u4 : Value) (X : World) : Prop :=
  ∃ k : Nat, k ≤ N ∧ u4 = .int .i64 k ∧ u3 = .int .i64 ((cpN st N k : Nat) : Int) ∧ Below W.heap.size W X ∧ MBox b x y z X
theorem ps_next {W X : World} {b : Nat} {x y z : Int} {st : Nat → Nat → Int} {N k : Nat} {c : Int} (hk : k < N) (hc : c = ((cpN st N (k + 1) : Nat) : Int)) (hb : Below W.heap.size W X) (hx : MBox b x y z X) : PS W b x y z st N (.int .i64 c) (.int .i64 ((k : Int) + 1)) X :=
  ⟨k + 1, by omega, by go_num, by rw [hc], hb, hx⟩
/-- The first of the reached cells can be read. -/
theorem first_cell {X : World} {base g c : Nat} {l : List Int} (h : X.ownsRow base 3 1 (.slice (some ⟨g, 0, none⟩) l.length c) l.length (icells l)) {j : Int} (hj : l[0]? = some j) : X.cell? ⟨g, 0, none⟩ = some (.int .i64 j) := by
  have hl : 0 < l.length := (List.getElem?_eq_some_iff.1 hj).1
  rw [h.cellAt 0 (by omega), icells_at l 0 hl]
  rw [List.getElem?_eq_getElem hl] at hj
  have := Option.some.inj hj
  rw [this]
/-- At the head of the loop that looks for the farthest cell. -/
def FS (W : World) (g N a : Nat) (st : Nat → Nat → Int) (cg : Nat) (u6 u7 : Value) (X : World) : Prop :=
  ∃ k : Nat, k ≤ N ∧ u7 = .int .i64 k ∧ u6 = .int .i64 ((farN (fun v => dZ st N a v) a k : Nat) : Int) ∧ Below W.heap.size W X ∧ X.ownsRow W.heap.size 3 1 (.slice (some ⟨g, 0, none⟩) N cg) N (icells (dl st N a))
theorem fs_next {W X : World} {g N a k cg : Nat} {st : Nat → Nat → Int} {c : Int} (hk : k < N) (hc : c = ((farN (fun v => dZ st N a v) a (k + 1) : Nat) : Int)) (hb : Below W.heap.size W X) (ho : X.ownsRow W.heap.size 3 1 (.slice (some ⟨g, 0, none⟩) N cg) N (icells (dl st N a))) : FS W g N a st cg (.int .i64 c) (.int .i64 ((k : Int) + 1)) X :=
  ⟨k + 1, by omega, by go_num, by rw [hc], hb, ho⟩
/-- At the head of the loop that collects the reached cells. -/
def RS (W : World) (g N a : Nat) (st : Nat → Nat → Int) (vd : Value) (u5 u7 : Value) (X : World) : Prop :=
  ∃ k : Nat, k ≤ N ∧ u7 = .int .i64 k ∧ Below W.heap.size W X ∧ X.ownsRow (W.heap.size + 1) 3 1 u5 (rlN st N a k).length (icells (rlN st N a k)) ∧ u5.ownBlock ≠ some g ∧ X.ownsRow (W.heap.size + 1) 3 1 vd N (icells (dl st N a))
theorem rs_skip {W X : World} {g N a k : Nat} {st : Nat → Nat → Int} {vd u5 : Value} (hk : k < N) (hd : ¬ 0 ≤ dZ st N a k) (hb : Below W.heap.size W X) (ho : X.ownsRow (W.heap.size + 1) 3 1 u5 (rlN st N a k).length (icells (rlN st N a k))) (hne : u5.ownBlock ≠ some g) (hv : X.ownsRow (W.heap.size + 1) 3 1 vd N (icells (dl st N a))) :
    RS W g N a st vd u5 (.int .i64 ((k : Int) + 1)) X :=
  ⟨k + 1, by omega, by go_num, hb, by rw [rlN, if_neg hd]; exact ho, hne, hv⟩
theorem rs_add {W X X' : World} {g N a k gg cap c : Nat} {st : Nat → Nat → Int} {u5 : Value} {o : Obj} (hk : k < N) (hd : 0 ≤ dZ st N a k) (hb : Below W.heap.size W X) (ho : X.ownsRow (W.heap.size + 1) 3 1 u5 (rlN st N a k).length (icells (rlN st N a k))) (hne : u5.ownBlock ≠ some g) (hv : X.ownsRow (W.heap.size + 1) 3 1 (.slice (some ⟨g, 0, none⟩) N c) N (icells (dl st N a)))
    (ho' : X'.ownsRow (W.heap.size + 1) 3 1 (.slice (some ⟨gg, 0, none⟩) ((rlN st N a k).length + 1) cap) ((rlN st N a k).length + 1) (icells (rlN st N a k) ++ icells [(k : Int)])) (hg : (X.alloc o).grownBy X' u5.ownBlock) (hat : u5.ownBlock = some gg ∨ gg = X.heap.size + 1) :
    RS W g N a st (.slice (some ⟨g, 0, none⟩) N c) (.slice (some ⟨gg, 0, none⟩) ((rlN st N a k).length + 1) cap) (.int .i64 ((k : Int) + 1)) X' := by
  have hgx : g < X.heap.size := own_lt hv g rfl
  refine ⟨k + 1, by omega, by go_num, below_app hb (by omega) (Nat.le_refl _) ho hg, ?_, ?_, (hv.alloc o).kept hg (.inr fun e => hne (by rw [← e]; rfl))⟩
  · rw [rlN, if_pos hd, icells_append, List.length_append]; exact ho'
  · show some gg ≠ some g
    rintro e
    have e := Option.some.inj e
    subst e
    rcases hat with h | h
    · exact hne h
    · omega
end Go.Proofs.Ytomjfcmaoeoigaa.reachD
