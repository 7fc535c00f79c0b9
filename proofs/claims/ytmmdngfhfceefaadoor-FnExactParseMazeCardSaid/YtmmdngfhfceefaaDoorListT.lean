/- Lists of texts that a call writes, and a row of bytes beside them. -/
import Derived.Test.YtmmdngfhfceefaaDoorSplP
import Derived.Test.YtmmdngfhfceefaaDoorListK
import Derived.Test.YtmmdngfhfceefaaDoorMzB
namespace Go.Proofs.YtmmdngfhfceefaaDoor.listT
open Go.ChangeShapes Go.WideShapes Go.ChangeAt Go.RowKit
open draw gridC mazeC intsP reachD intA listK splP
set_option linter.unusedVariables false

theorem info_str : (Tryd.prog.info? 9).map (fun i => (i.zero, i.size, i.bytes)) = some (some (.string ⟨#[]⟩), 1, 16) := by kernel_rfl
theorem info_u8 : (Tryd.prog.info? 5).map (fun i => (i.zero, i.size, i.bytes)) = some (some (.int .u8 0), 1, 1) := by kernel_rfl

/-- A call answers a list of texts of its own and leaves all that was there. -/
def Txs (l : List (List UInt8)) (w : World) (e : Ending) (w' : World) : Prop := ∃ v, e = .returned v ∧ w'.ownsRow w.heap.size 9 1 v l.length (scells l) ∧ Below w.heap.size w w'
theorem txs_mk {l : List (List UInt8)} {w w' : World} {v : Value} {n base : Nat} (hn : n = l.length) (ho : w'.ownsRow base 9 1 v n (scells l)) (hB : w.heap.size ≤ base) (hb : Below w.heap.size w w') : Txs l w (.returned v) w' := by
  subst hn
  exact ⟨v, rfl, own_base ho hB, hb⟩

/-- A list l of texts that is written, in blocks from b on. -/
def TL (W : World) (b : Nat) (l : List (List UInt8)) (v : Value) (X : World) : Prop :=
  Below W.heap.size W X ∧ W.heap.size ≤ b ∧ b ≤ X.heap.size ∧ X.ownsRow b 9 1 v l.length (scells l)
theorem TL.call {W X X' : World} {b : Nat} {l : List (List UInt8)} {v : Value} (h : TL W b l v X) (hb : Below X.heap.size X X') : TL W b l v X' :=
  ⟨below_call h.1 hb, h.2.1, Nat.le_trans h.2.2.1 hb.size, own_call h.2.2.2 hb⟩
theorem TL.dr {W X : World} {b : Nat} {l : List (List UInt8)} {v : Value} (h : TL W b l v X) : TL W b l v X.drew := h.call ⟨rfl, rfl, rfl, Nat.le_refl _, fun _ _ => rfl⟩
theorem TL.form {W X : World} {b : Nat} {l : List (List UInt8)} {v : Value} (h : TL W b l v X) : ∃ A c, v = .slice A l.length c := intsP.own_form h.2.2.2
theorem tl_new {W X : World} (h : Below W.heap.size W X) (hz : W.heap.size ≤ X.heap.size) : TL W X.heap.size [] (.slice (some ⟨X.heap.size, 0, none⟩) 0 0) (X.alloc (.cells #[] 9)) := by
  refine ⟨h.alloc hz _, hz, by simp, ?_⟩
  have := World.ownsRow_lit (base := X.heap.size) (e := 9) (size := 1) X #[] 0 (Nat.le_refl _) (by decide) rfl
  simpa [scells] using this
theorem TL.app {W X X' : World} {b gg cap : Nat} {l : List (List UInt8)} {v : Value} {o : Obj} {u : List UInt8} (h : TL W b l v X)
    (ho : X'.ownsRow b 9 1 (.slice (some ⟨gg, 0, none⟩) (l.length + 1) cap) (l.length + 1) (scells l ++ scells [u])) (hg : (X.alloc o).grownBy X' v.ownBlock) :
    TL W b (l ++ [u]) (.slice (some ⟨gg, 0, none⟩) (l.length + 1) cap) X' ∧ Below b X X' := by
  obtain ⟨h1, h2, h3, h4⟩ := h
  have hb : Below b X X' := below_app (Below.refl _ _) (Nat.le_refl _) h3 h4 hg
  refine ⟨⟨below_app h1 h2 (Nat.le_refl _) h4 hg, h2, Nat.le_trans h3 hb.size, ?_⟩, hb⟩
  rw [List.length_append, scells_append]; exact ho
theorem str_cell {x : ByteArray} {cur : List UInt8} (h : x = ⟨cur.toArray⟩) : #[Value.string x].toList = scells [cur] := by subst h; rfl

/-- A row of bytes beside a list of texts and a maze. -/
def TR (W : World) (b bo : Nat) (x y z : Int) (l : List (List UInt8)) (v : Value) (Q n : Nat) (B : List UInt8) (X : World) : Prop :=
  TL W bo l v X ∧ MBox b x y z X ∧ X.ownsRow bo 5 1 (.slice (some ⟨Q, 0, none⟩) n n) n (hexP.bcells B) ∧ W.heap.size ≤ b ∧ b < bo ∧ v.ownBlock ≠ some Q
theorem TR.call {W X X' : World} {b bo Q n : Nat} {x y z : Int} {l : List (List UInt8)} {v : Value} {B : List UInt8} (h : TR W b bo x y z l v Q n B X) (hb : Below X.heap.size X X') : TR W b bo x y z l v Q n B X' :=
  ⟨h.1.call hb, h.2.1.call hb, own_call h.2.2.1 hb, h.2.2.2⟩
theorem TR.dr {W X : World} {b bo Q n : Nat} {x y z : Int} {l : List (List UInt8)} {v : Value} {B : List UInt8} (h : TR W b bo x y z l v Q n B X) : TR W b bo x y z l v Q n B X.drew := h.call ⟨rfl, rfl, rfl, Nat.le_refl _, fun _ _ => rfl⟩
theorem bl_len (B : List UInt8) : (hexP.bcells B).length = B.length := by simp [hexP.bcells]
theorem TR.len {W X : World} {b bo Q n : Nat} {x y z : Int} {l : List (List UInt8)} {v : Value} {B : List UInt8} (h : TR W b bo x y z l v Q n B X) : B.length = n := by
  have := h.2.2.1.1; rw [bl_len] at this; omega
/-- A byte is written. -/
theorem TR.put {W X : World} {b bo Q n : Nat} {x y z : Int} {l : List (List UInt8)} {v : Value} {B : List UInt8} (h : TR W b bo x y z l v Q n B X) (j : Nat) (u : UInt8) (ui : Int) (hui : (u.toNat : Int) = ui) : TR W b bo x y z l v Q n (B.set j u) (X.setCell ⟨Q, j, none⟩ (.int .u8 ui)) := by
  subst hui
  obtain ⟨⟨h1, h2, h3, h4⟩, h5, h6, h7, h8, h9⟩ := h
  have hg : X.grownBy (X.setCell ⟨Q, j, none⟩ (.int .u8 (u.toNat : Int))) (some Q) := grown_set (grown_refl _ _) _
  have hQ : bo ≤ Q := (h6.lt Q rfl).1
  refine ⟨⟨below_marked h1 hg (fun g e => by cases e; omega), h2, Nat.le_trans h3 hg.size, row_marked (v' := .slice (some ⟨Q, 0, none⟩) n n) h4 hg fun g e e' => h9 (e.trans (e'.symm.trans rfl))⟩,
    mbox_marked h5 hg (fun g e => by cases e; omega), ?_, h7, h8, h9⟩
  have h10 := (h6.stored j (.int .u8 (u.toNat : Int))).1
  have e : (hexP.bcells B).set j (.int .u8 (u.toNat : Int)) = hexP.bcells (B.set j u) := by simp [hexP.bcells, List.map_set]
  rwa [e] at h10
theorem TR.cell {W X : World} {b bo Q n : Nat} {x y z : Int} {l : List (List UInt8)} {v : Value} {B : List UInt8} (h : TR W b bo x y z l v Q n B X) (j : Nat) (hj : j < n) : (∃ old, X.cell? ⟨Q, j, none⟩ = some old) ∧ X.frozen? ⟨Q, j, none⟩ = false := by
  have hl := h.len
  refine ⟨⟨_, (h.2.2.1.cellAt j (by omega)).trans (List.getElem?_eq_getElem (by rw [bl_len]; omega))⟩, h.2.2.1.frozenAt j⟩
/-- The row as a text. -/
theorem TR.conv {W X : World} {b bo Q n : Nat} {x y z : Int} {l : List (List UInt8)} {v : Value} {B : List UInt8} (h : TR W b bo x y z l v Q n B X) :
    (convert 22 9 (.slice (some ⟨Q, 0, none⟩) n n)).run Tryd.prog X = .ok (.string ⟨B.toArray⟩) X := by
  have hl := h.len
  have hc := run_convert_bytes_back (P := Tryd.prog) X 22 9 5 ⟨Q, 0, none⟩ n B Tryd.underlying22 Tryd.underlying5 Tryd.underlying9 fun j hj => by
    have e : (⟨Q, 0, none⟩ : Addr).add j = ⟨Q, j, none⟩ := by
      simp [Addr.add]
      try omega
    rw [e, h.2.2.1.cellAt j (by omega)]
    simp [hexP.bcells, List.getElem?_eq_getElem hj]
  rwa [hl] at hc
/-- A row of bytes, just made, all 0. -/
theorem made_u8 : ∀ n : Nat, (madeCells (Value.int .u8 0).cells n).toList = hexP.bcells (List.replicate n 0) := by
  intro n
  unfold madeCells hexP.bcells
  apply List.ext_getElem?
  intro i
  simp only [Array.toList_map, Array.toList_range, List.getElem?_map, Value.cells]
  by_cases hi : i < n
  · simp [hi, Nat.mod_one]
  · simp [hi]
theorem tr_new {W X : World} {b bo : Nat} {x y z : Int} {l : List (List UInt8)} {v : Value} (h : TL W bo l v X) (hx : MBox b x y z X) (hW : W.heap.size ≤ b) (hb : b < bo) (n : Nat) (hm : n ≤ maxLen) :
    TR W b bo x y z l v X.heap.size n (List.replicate n 0) (X.alloc (.cells (madeCells (Value.int .u8 0).cells n) 5)) := by
  refine ⟨h.call (below_box _ _), hx.call (below_box _ _), ?_, hW, hb, fun e => Nat.lt_irrefl _ (own_lt h.2.2.2 _ e)⟩
  have := World.ownsRow_lit (base := bo) (e := 5) (size := 1) X (madeCells (Value.int .u8 0).cells n) n h.2.2.1 hm (by rw [size_madeCells]; omega)
  rwa [made_u8] at this
end Go.Proofs.YtmmdngfhfceefaaDoor.listT
