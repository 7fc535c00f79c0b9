/- The contract of the program's reading of a maze: place after place, over the lines' characters. -/
import Derived.Test.YtmmdngfhfceefaaDoorLinI
import Derived.Test.YtmmdngfhfceefaaDoorLinJ
import Derived.Lib.OthersKept
namespace Go.Proofs.YtmmdngfhfceefaaDoor.linK
open Go.ChangeShapes Go.WideShapes Go.ChangeAt Go.RowKit
open draw gridP gridC gridE bitP mazeP mazeC mazeM mazeI intsP reachP reachM reachN reachD intA listK forest deadP linP splP listT linR linQ linI linJ
set_option linter.unusedVariables false

/-! ### the lines of a maze, as they are read -/
theorem width_pos (s : ByteArray) (pos : Nat) (h : pos < s.size) : 1 ≤ (Utf8.decode s pos).2 := by
  by_cases ha : (s[pos]'h).toNat < 128
  · rw [decode_ascii s pos h ha]; exact Nat.le_refl _
  · exact (decode_high s pos h (by omega)).2
theorem good_line {ls : List (List UInt8)} (h : rmB ls = true) {i : Nat} {l : List UInt8} (hl : ls[i]? = some l) : l = lnL (rmX ls) (rmY ls) (rmO ls) i ∧ i < cW (rmY ls) := by
  obtain ⟨hv, he⟩ := rm_ok h
  have h1 := ml_len hv
  have hi : i < cW (rmY ls) := by
    rw [← h1, he]
    exact (List.getElem?_eq_some_iff.1 hl).1
  refine ⟨?_, hi⟩
  have h2 : (mlL (rmX ls) (rmY ls) (rmO ls))[i]? = some (lnL (rmX ls) (rmY ls) (rmO ls) i) := by
    unfold mlL; rw [if_pos hv, List.getElem?_map, List.getElem?_range hi]; rfl
  rw [he, hl] at h2
  exact Option.some.inj h2
theorem good_step {ls : List (List UInt8)} (h : rmB ls = true) {i p : Nat} {l : List UInt8} {s : ByteArray} (hl : ls[i]? = some l) (hs : s = ⟨l.toArray⟩) :
    s.size = cW (rmX ls) ∧ (p < s.size → (Utf8.decode s p).2 = 1 ∧ (((Utf8.decode s p).1 : Int) == 32) = chB (rmX ls) (rmY ls) (rmO ls) i p) := by
  obtain ⟨rfl, -⟩ := good_line h hl
  subst hs
  have hz : (⟨(lnL (rmX ls) (rmY ls) (rmO ls) i).toArray⟩ : ByteArray).size = cW (rmX ls) := by
    show (lnL (rmX ls) (rmY ls) (rmO ls) i).toArray.size = _
    simp [lnL]
  refine ⟨hz, fun hp => ?_⟩
  have e : (⟨(lnL (rmX ls) (rmY ls) (rmO ls) i).toArray⟩ : ByteArray)[p]'hp = chU (chB (rmX ls) (rmY ls) (rmO ls) i p) := by
    show (lnL (rmX ls) (rmY ls) (rmO ls) i).toArray[p]'hp = _
    simp [lnL]
  have ha : ((⟨(lnL (rmX ls) (rmY ls) (rmO ls) i).toArray⟩ : ByteArray)[p]'hp).toNat < 128 := by
    rw [e]; cases chB (rmX ls) (rmY ls) (rmO ls) i p <;> decide
  rw [decode_ascii _ _ hp ha, e]
  refine ⟨rfl, ?_⟩
  cases chB (rmX ls) (rmY ls) (rmO ls) i p <;> decide
/-- What comes out if the maze that was read has these lines, and if it has not. -/
theorem rd_yes {ls : List (List UInt8)} {x y z : Int} {W : World} (hv : OkM x y z) (h : mlL x y z = ls) (X : World) (hb : Below W.heap.size W X) :
    MzB (rmC ls (rmX ls)) (rmC ls (rmY ls)) (rmC ls (rmO ls)) (rmB ls) W (.returned (.tuple #[.agg #[.int .i64 x, .int .i64 y, .int .i64 z], .bool true])) X := by
  obtain ⟨e1, e2, e3, e4⟩ := rm_yes hv h
  rw [rm_some e1, rm_some e1, rm_some e1, e1, e2, e3, e4]; exact ⟨rfl, hb⟩
theorem rd_none {ls : List (List UInt8)} {W : World} (h : rmB ls = false) (X : World) (hb : Below W.heap.size W X) :
    MzB (rmC ls (rmX ls)) (rmC ls (rmY ls)) (rmC ls (rmO ls)) (rmB ls) W (.returned (.tuple #[.agg #[.int .i64 0, .int .i64 0, .int .i64 0], .bool false])) X := by
  rw [rm_none h, rm_none h, rm_none h, h]; exact ⟨rfl, hb⟩
theorem rd_no {ls : List (List UInt8)} {z : Int} {n : Nat} (hn : ls.length = n) (hz : rmB ls = true → z = acZ (rmX ls) (rmY ls) (rmO ls) (n * cW (rmX ls))) (h : ¬ mlL (rmX ls) (rmY ls) z = ls) : rmB ls = false := by
  rw [← Bool.not_eq_true]; intro hr
  obtain ⟨hv, he⟩ := rm_ok hr
  have h1 := ml_len hv
  rw [he, hn] at h1
  obtain ⟨hk, o, ho, ho'⟩ := okm_of hv
  have h2 := hz hr
  rw [h1, ho, ac_all hk ho'] at h2
  rw [ho] at he
  exact h (by rw [h2]; exact he)

/-! ### what stands while a maze is read -/
theorem row3_sets {b : Nat} {x y z x' y' z' : Int} {X : World} (h : Row3 b x y z X) : Row3 b x' y' z' (((X.setCell ⟨b, 0, none⟩ (.int .i64 x')).setCell ⟨b, 1, none⟩ (.int .i64 y')).setCell ⟨b, 2, none⟩ (.int .i64 z')) := by
  obtain ⟨T, h⟩ := h
  exact ⟨T, by simp [World.setCell, Array.getElem?_modify, h]⟩
/-- While a line is read: and the place that comes next. -/
def IS (W : World) (x y z : Int) (A : Option Addr) (ls : List (List UInt8)) (K : Nat) (s : ByteArray) (pos : Nat) (X : World) : Prop := RS W x y z A ls X ∧ X.heap[K]? = some (.stringIter s pos)
theorem IS.call {W X X' : World} {x y z : Int} {A : Option Addr} {ls : List (List UInt8)} {K pos : Nat} {s : ByteArray} (h : IS W x y z A ls K s pos X) (hb : Below X.heap.size X X') : IS W x y z A ls K s pos X' :=
  ⟨h.1.call hb, (hb.block K (Array.getElem?_eq_some_iff.1 h.2).1).trans h.2⟩
theorem IS.dr {W X : World} {x y z : Int} {A : Option Addr} {ls : List (List UInt8)} {K pos : Nat} {s : ByteArray} (h : IS W x y z A ls K s pos X) : IS W x y z A ls K s pos X.drew := h.call ⟨rfl, rfl, rfl, Nat.le_refl _, fun _ _ => rfl⟩
theorem is_far {W X : World} {x y z : Int} {A : Option Addr} {ls : List (List UInt8)} {K pos : Nat} {s : ByteArray} (h : IS W x y z A ls K s pos X) : W.heap.size + 2 ≤ K ∨ K < W.heap.size := by
  obtain ⟨⟨h1, ⟨T1, h2⟩, ⟨T2, h3⟩, -⟩, h4⟩ := h
  have n1 : K ≠ W.heap.size := by rintro rfl; rw [h4] at h2; cases h2
  have n2 : K ≠ W.heap.size + 1 := by rintro rfl; rw [h4] at h3; cases h3
  omega
theorem IS.put {W X : World} {x y z : Int} {A : Option Addr} {ls : List (List UInt8)} {K pos : Nat} {s : ByteArray} (h : IS W x y z A ls K s pos X) (z' : Int) :
    IS W x y z' A ls K s pos (((X.setCell ⟨W.heap.size + 1, 0, none⟩ (.int .i64 x)).setCell ⟨W.heap.size + 1, 1, none⟩ (.int .i64 y)).setCell ⟨W.heap.size + 1, 2, none⟩ (.int .i64 z')) := by
  have hf := is_far h
  obtain ⟨⟨h1, h2, h3, h4⟩, h5⟩ := h
  have hb : Below W.heap.size X (((X.setCell ⟨W.heap.size + 1, 0, none⟩ (.int .i64 x)).setCell ⟨W.heap.size + 1, 1, none⟩ (.int .i64 y)).setCell ⟨W.heap.size + 1, 2, none⟩ (.int .i64 z')) :=
    (((Below.refl _ _).setCell (by simp) _).setCell (by simp) _).setCell (by simp) _
  refine ⟨⟨h1.trans hb, linR.row3_far (linR.row3_far (linR.row3_far h2 (by simp) _) (by simp) _) (by simp) _, row3_sets h3, h4.below hb⟩, ?_⟩
  rw [Below.heap_setCell _ _ _ _ (by simp; omega), Below.heap_setCell _ _ _ _ (by simp; omega), Below.heap_setCell _ _ _ _ (by simp; omega)]
  exact h5
/-- The next character. -/
theorem IS.next {W X : World} {x y z : Int} {A : Option Addr} {ls : List (List UInt8)} {K pos : Nat} {s : ByteArray} (h : IS W x y z A ls K s pos X) (hK : W.heap.size + 2 ≤ K) (pos' : Nat) : IS W x y z A ls K s pos' (X.iterAt K s pos') := by
  obtain ⟨⟨h1, ⟨T1, h2⟩, ⟨T2, h3⟩, h4⟩, h5⟩ := h
  have hb : Below W.heap.size X (X.iterAt K s pos') := Lib.below_iterAt (Below.refl _ _) (by omega) s pos'
  exact ⟨⟨h1.trans hb, ⟨T1, (Lib.iterAt_other X K _ s pos' (by omega)).trans h2⟩, ⟨T2, (Lib.iterAt_other X K _ s pos' (by omega)).trans h3⟩, h4.below hb⟩, Lib.iterAt_heap X K s pos pos' h5⟩
theorem is_new {W X : World} {x y z : Int} {A : Option Addr} {ls : List (List UInt8)} (h : RS W x y z A ls X) (s : ByteArray) : IS W x y z A ls X.heap.size s 0 (X.iter s 0) := ⟨h.call (below_box _ _), World.iter_heap X s 0⟩
theorem is_pos {W X : World} {x y z : Int} {A : Option Addr} {ls : List (List UInt8)} {K pos : Nat} {s : ByteArray} (h : IS W x y z A ls K s pos X) : X.iterPos K = pos := by unfold World.iterPos; rw [h.2]

abbrev readC : Code := Go.Code.region 12 #[{ dst := some 41, op := Go.Op.load 27 (Go.Operand.tmp 4), type := 27, pos := "l08_draw.go:64", after := #[], guard := none }, { dst := some 42, op := Go.Op.fieldAddr 27 (Go.Operand.tmp 4) 0, type := 0, pos := "l08_draw.go:64", after := #[], guard := none }, { dst := some 43, op := Go.Op.load 25 (Go.Operand.tmp 42), type := 25, pos := "l08_draw.go:64", after := #[{ on := 1, ground := Go.Ground.data }], guard := none }, { dst := some 44, op := Go.Op.move (Go.Operand.tmp 5), type := 3, pos := "l08_draw.go:64", after := #[], guard := none }, { dst := some 45, op := Go.Op.move (Go.Operand.tmp 7), type := 3, pos := "l08_draw.go:64", after := #[], guard := none }, { dst := some 46, op := Go.Op.call { callee := Go.Callee.value (Go.Operand.func 26), args := #[Go.Operand.tmp 43, Go.Operand.tmp 44, Go.Operand.tmp 45], argTypes := #[25, 3, 3] }, type := 3, pos := "l08_draw.go:64", after := #[{ on := 2, ground := Go.Ground.data }, { on := 3, ground := Go.Ground.data }, { on := 4, ground := Go.Ground.data }], guard := none }, { dst := some 47, op := Go.Op.move (Go.Operand.tmp 8), type := 21, pos := "l08_draw.go:64", after := #[], guard := none }, { dst := some 48, op := Go.Op.binOp Go.BinOp.eql 21 (Go.Operand.tmp 47) (Go.Operand.const (Go.Value.int Go.IntKind.i32 32)) 21, type := 4, pos := "l08_draw.go:64", after := #[{ on := 6, ground := Go.Ground.data }], guard := none }, { dst := some 49, op := Go.Op.call { callee := Go.Callee.value (Go.Operand.func 25), args := #[Go.Operand.tmp 41, Go.Operand.tmp 46, Go.Operand.tmp 48], argTypes := #[27, 3, 4] }, type := 31, pos := "l08_draw.go:64", after := #[{ on := 0, ground := Go.Ground.data }, { on := 5, ground := Go.Ground.data }, { on := 7, ground := Go.Ground.data }, { on := 5, ground := Go.Ground.chain }], guard := none }, { dst := some 40, op := Go.Op.move (Go.Operand.tmp 49), type := 31, pos := "l08_draw.go:64", after := #[{ on := 8, ground := Go.Ground.data }], guard := none }, { dst := some 50, op := Go.Op.extract (Go.Operand.tmp 40) 0, type := 27, pos := "l08_draw.go:64", after := #[{ on := 9, ground := Go.Ground.data }], guard := none }, { dst := some 51, op := Go.Op.extract (Go.Operand.tmp 40) 1, type := 4, pos := "l08_draw.go:64", after := #[{ on := 9, ground := Go.Ground.data }, { on := 12, ground := Go.Ground.gcOnly Go.Departure.lateStores }], guard := none }, { dst := none, op := Go.Op.store 27 (Go.Operand.tmp 4) (Go.Operand.tmp 50), type := 0, pos := "l08_draw.go:64", after := #[{ on := 10, ground := Go.Ground.data }, { on := 8, ground := Go.Ground.chain }, { on := 0, ground := Go.Ground.phase }, { on := 1, ground := Go.Ground.phase }, { on := 2, ground := Go.Ground.phase }, { on := 3, ground := Go.Ground.phase }, { on := 4, ground := Go.Ground.phase }, { on := 5, ground := Go.Ground.phase }, { on := 6, ground := Go.Ground.phase }, { on := 7, ground := Go.Ground.phase }, { on := 8, ground := Go.Ground.phase }, { on := 9, ground := Go.Ground.phase }, { on := 10, ground := Go.Ground.phase }, { on := 11, ground := Go.Ground.textOnly Go.Departure.lateStores }], guard := none }] true
set_option maxRecDepth 100000 in
set_option maxHeartbeats 4000000 in
/-- A character is read. -/
theorem read_round (W w : World) (x y z z2 g ch : Int) (r p K pos : Nat) (b sb : Bool) (s : ByteArray) (A : Option Addr) (ls : List (List UInt8)) (Q : Exit → Act → World → Prop) (u0 u1 u2 u3 u6 u9 u10 u11 u12 u13 u14 u15 u16 u17 u18 u19 u20 u21 u22 u23 u24 u25 u26 u27 u28 u29 u30 u31 u32 u33 u34 u35 u36 u37 u38 u39 u40 u41 u42 u43 u44 u45 u46 u47 u48 u49 u50 u51 u52 u53 u54 u55 u56 u57 u58 u59 : Value) (hch : (ch == 32) = b) (his : IS W x y z A ls K s pos w)
    (HG1 : Hid (∀ X, Calls Tryd.prog 26 #[.agg #[.int .i64 x, .int .i64 y], .int .i64 r, .int .i64 p] X (Nm g X)))
    (HS1 : Hid (∀ X, Calls Tryd.prog 25 #[.agg #[.int .i64 x, .int .i64 y, .int .i64 z], .int .i64 g, .bool b] X (MzB x y z2 sb X)))
    (HP : ∀ (d : Option Tmp) (v : Value) c a w, Q (.panic c) (a.put d v) w → Q (.panic c) a w)
    (HQ : Hid (∀ v40 v41 v42 v43 v44 v45 v46 v47 v48 v49 v50 v51 X, IS W x y z2 A ls K s pos X → Q .normal { tmps := #[u0, u1, u2, u3, (.pointer (some ⟨W.heap.size + 1, 0, none⟩)), (.int .i64 (r : Int)), u6, (.int .i64 (p : Int)), (.int .i32 ch), u9, u10, u11, u12, u13, u14, u15, u16, u17, u18, u19, u20, u21, u22, u23, u24, u25, u26, u27, u28, u29, u30, u31, u32, u33, u34, u35, u36, u37, u38, u39, v40, v41, v42, v43, v44, v45, v46, v47, v48, v49, v50, v51, u52, u53, u54, u55, u56, u57, u58, u59], defers := [] } X)) :
    Code.wp Tryd.prog readC Q { tmps := #[u0, u1, u2, u3, (.pointer (some ⟨W.heap.size + 1, 0, none⟩)), (.int .i64 (r : Int)), u6, (.int .i64 (p : Int)), (.int .i32 ch), u9, u10, u11, u12, u13, u14, u15, u16, u17, u18, u19, u20, u21, u22, u23, u24, u25, u26, u27, u28, u29, u30, u31, u32, u33, u34, u35, u36, u37, u38, u39, u40, u41, u42, u43, u44, u45, u46, u47, u48, u49, u50, u51, u52, u53, u54, u55, u56, u57, u58, u59], defers := [] } w := by
  have hw := Lib.hid his
  obtain ⟨⟨m0, m1, m2⟩, f0, f1, f2⟩ := row3_cells his.1.2.2.1
  clear his
  dsimp only [readC]
  try simp only [List.cons_append, List.nil_append, List.append_eq]
  refine wp_region_held_drew (S := (fun w' => w'.cell? ⟨W.heap.size + 1, 0, none⟩ = some (.int .i64 x) ∧ w'.cell? ⟨W.heap.size + 1, 1, none⟩ = some (.int .i64 y))) (by kernel_rfl) ?_ (fun hHeld0 => ?_)
  · (try dsimp only); (first | go_keep | exact ⟨(row3_cells (hw4.out.put (z2 : Int)).1.2.2.1).1.1, (row3_cells (hw4.out.put (z2 : Int)).1.2.2.1).1.2.1⟩)
  refine wpAnyH_take (i := 1) (oi := { dst := some 42, op := Go.Op.fieldAddr 27 (Go.Operand.tmp 4) 0, type := 0, pos := "l08_draw.go:64", after := #[], guard := none }) (v := ?_) rfl (by kernel_rfl) (by kernel_rfl) (by kernel_rfl) (HP _ _) (Or.inl ⟨by rfl, ?_⟩) (by assumption) ?_
  rotate_left
  · (intro w hSw; (try dsimp only at hSw); go_simp; try with_reducible rfl)
  try simp only [Act.put, List.setIfInBounds_toArray, List.set_cons_zero, List.set_cons_succ]
  refine wpAnyH_take (i := 2) (oi := { dst := some 43, op := Go.Op.load 25 (Go.Operand.tmp 42), type := 25, pos := "l08_draw.go:64", after := #[{ on := 1, ground := Go.Ground.data }], guard := none }) (v := ?_) rfl (by kernel_rfl) (by kernel_rfl) (by kernel_rfl) (HP _ _) (Or.inl ⟨by rfl, ?_⟩) (by assumption) ?_
  rotate_left
  · (intro w hSw; (try dsimp only at hSw); go_simp; try with_reducible rfl)
  try simp only [Act.put, List.setIfInBounds_toArray, List.set_cons_zero, List.set_cons_succ]
  refine wpAnyH_take (i := 3) (oi := { dst := some 44, op := Go.Op.move (Go.Operand.tmp 5), type := 3, pos := "l08_draw.go:64", after := #[], guard := none }) (v := ?_) rfl (by kernel_rfl) (by kernel_rfl) (by kernel_rfl) (HP _ _) (Or.inl ⟨by rfl, ?_⟩) (by assumption) ?_
  rotate_left
  · (intro w hSw; (try dsimp only at hSw); go_simp; try with_reducible rfl)
  try simp only [Act.put, List.setIfInBounds_toArray, List.set_cons_zero, List.set_cons_succ]
  refine wpAnyH_take (i := 4) (oi := { dst := some 45, op := Go.Op.move (Go.Operand.tmp 7), type := 3, pos := "l08_draw.go:64", after := #[], guard := none }) (v := ?_) rfl (by kernel_rfl) (by kernel_rfl) (by kernel_rfl) (HP _ _) (Or.inl ⟨by rfl, ?_⟩) (by assumption) ?_
  rotate_left
  · (intro w hSw; (try dsimp only at hSw); go_simp; try with_reducible rfl)
  try simp only [Act.put, List.setIfInBounds_toArray, List.set_cons_zero, List.set_cons_succ]
  refine wpAnyH_take (i := 6) (oi := { dst := some 47, op := Go.Op.move (Go.Operand.tmp 8), type := 21, pos := "l08_draw.go:64", after := #[], guard := none }) (v := ?_) rfl (by kernel_rfl) (by kernel_rfl) (by kernel_rfl) (HP _ _) (Or.inl ⟨by rfl, ?_⟩) (by assumption) ?_
  rotate_left
  · (intro w hSw; (try dsimp only at hSw); go_simp; try with_reducible rfl)
  try simp only [Act.put, List.setIfInBounds_toArray, List.set_cons_zero, List.set_cons_succ]
  refine wpAnyH_take (i := 7) (oi := { dst := some 48, op := Go.Op.binOp Go.BinOp.eql 21 (Go.Operand.tmp 47) (Go.Operand.const (Go.Value.int Go.IntKind.i32 32)) 21, type := 4, pos := "l08_draw.go:64", after := #[{ on := 6, ground := Go.Ground.data }], guard := none }) (v := ?_) rfl (by kernel_rfl) (by kernel_rfl) (by kernel_rfl) (HP _ _) (Or.inl ⟨by rfl, ?_⟩) (by assumption) ?_
  rotate_left
  · (intro w hSw; (try dsimp only at hSw); go_simp; try with_reducible rfl)
  try simp only [Act.put, List.setIfInBounds_toArray, List.set_cons_zero, List.set_cons_succ]
  refine wpAnyH_ready (rs := [0, 5]) (by kernel_rfl) (by simp) ?_
  refine (AllReadyH.cons (o := { dst := some 41, op := Go.Op.load 27 (Go.Operand.tmp 4), type := 27, pos := "l08_draw.go:64", after := #[], guard := none }) rfl (fun K0 hK0 => ?_) (AllReadyH.cons (o := { dst := some 46, op := Go.Op.call { callee := Go.Callee.value (Go.Operand.func 26), args := #[Go.Operand.tmp 43, Go.Operand.tmp 44, Go.Operand.tmp 45], argTypes := #[25, 3, 3] }, type := 3, pos := "l08_draw.go:64", after := #[{ on := 2, ground := Go.Ground.data }, { on := 3, ground := Go.Ground.data }, { on := 4, ground := Go.Ground.data }], guard := none }) rfl (fun K5 hK5 => ?_) AllReadyH.nil))
  · as_aux_lemma =>
      go_simp
      refine hK0.out _ _ ?_ (fun hHeld1 => ?_)
      · (try dsimp only); (first | go_keep | exact ⟨(row3_cells (hw4.out.put (z2 : Int)).1.2.2.1).1.1, (row3_cells (hw4.out.put (z2 : Int)).1.2.2.1).1.2.1⟩)
      clear hK0 K0 hHeld0
      try simp only [Act.put, List.setIfInBounds_toArray, List.set_cons_zero, List.set_cons_succ]
      refine wpAnyH_ready (rs := [5]) (by kernel_rfl) (by simp) ?_
      refine AllReadyH.cons (o := { dst := some 46, op := Go.Op.call { callee := Go.Callee.value (Go.Operand.func 26), args := #[Go.Operand.tmp 43, Go.Operand.tmp 44, Go.Operand.tmp 45], argTypes := #[25, 3, 3] }, type := 3, pos := "l08_draw.go:64", after := #[{ on := 2, ground := Go.Ground.data }, { on := 3, ground := Go.Ground.data }, { on := 4, ground := Go.Ground.data }], guard := none }) rfl (fun K5 hK5 => ?_) AllReadyH.nil
      go_simp
      (refine (HG1.out _).mono ?_; rintro e v2 ⟨rfl, hb2⟩; have hw3 := Lib.hid (hw.out.dr.call hb2); obtain ⟨⟨p2, q2, r2⟩, -⟩ := row3_cells hw3.out.1.2.2.1)
      go_wp2_with fail
      refine hK5.out _ _ ?_ (fun hHeld2 => ?_)
      · (try dsimp only); (first | go_keep | exact ⟨(row3_cells (hw4.out.put (z2 : Int)).1.2.2.1).1.1, (row3_cells (hw4.out.put (z2 : Int)).1.2.2.1).1.2.1⟩)
      clear hK5 K5 hHeld1
      try simp only [Act.put, List.setIfInBounds_toArray, List.set_cons_zero, List.set_cons_succ]
      refine wpAnyH_ready (rs := [8]) (by kernel_rfl) (by simp) ?_
      refine AllReadyH.cons (o := { dst := some 49, op := Go.Op.call { callee := Go.Callee.value (Go.Operand.func 25), args := #[Go.Operand.tmp 41, Go.Operand.tmp 46, Go.Operand.tmp 48], argTypes := #[27, 3, 4] }, type := 31, pos := "l08_draw.go:64", after := #[{ on := 0, ground := Go.Ground.data }, { on := 5, ground := Go.Ground.data }, { on := 7, ground := Go.Ground.data }, { on := 5, ground := Go.Ground.chain }], guard := none }) rfl (fun K8 hK8 => ?_) AllReadyH.nil
      go_simp
      (refine (HS1.out _).mono ?_; rintro e v3 ⟨rfl, hb3⟩; have hw4 := Lib.hid (hw3.out.call hb3); obtain ⟨⟨p3, q3, r3⟩, y0, y1, y2⟩ := row3_cells hw4.out.1.2.2.1)
      go_wp2_with fail
      refine hK8.out _ _ ?_ (fun hHeld3 => ?_)
      · (try dsimp only); (first | go_keep | exact ⟨(row3_cells (hw4.out.put (z2 : Int)).1.2.2.1).1.1, (row3_cells (hw4.out.put (z2 : Int)).1.2.2.1).1.2.1⟩)
      clear hK8 K8 hHeld2
      try simp only [Act.put, List.setIfInBounds_toArray, List.set_cons_zero, List.set_cons_succ]
      refine wpAnyH_take (i := 9) (oi := { dst := some 40, op := Go.Op.move (Go.Operand.tmp 49), type := 31, pos := "l08_draw.go:64", after := #[{ on := 8, ground := Go.Ground.data }], guard := none }) (v := ?_) rfl (by kernel_rfl) (by kernel_rfl) (by kernel_rfl) (HP _ _) (Or.inl ⟨by rfl, ?_⟩) (by assumption) ?_
      rotate_left
      · (intro w hSw; (try dsimp only at hSw); go_simp; try with_reducible rfl)
      try simp only [Act.put, List.setIfInBounds_toArray, List.set_cons_zero, List.set_cons_succ]
      refine wpAnyH_take (i := 10) (oi := { dst := some 50, op := Go.Op.extract (Go.Operand.tmp 40) 0, type := 27, pos := "l08_draw.go:64", after := #[{ on := 9, ground := Go.Ground.data }], guard := none }) (v := ?_) rfl (by kernel_rfl) (by kernel_rfl) (by kernel_rfl) (HP _ _) (Or.inl ⟨by rfl, ?_⟩) (by assumption) ?_
      rotate_left
      · (intro w hSw; (try dsimp only at hSw); go_simp; try with_reducible rfl)
      try simp only [Act.put, List.setIfInBounds_toArray, List.set_cons_zero, List.set_cons_succ]
      refine wpAnyH_take (i := 11) (oi := { dst := some 51, op := Go.Op.extract (Go.Operand.tmp 40) 1, type := 4, pos := "l08_draw.go:64", after := #[{ on := 9, ground := Go.Ground.data }, { on := 12, ground := Go.Ground.gcOnly Go.Departure.lateStores }], guard := none }) (v := ?_) rfl (by kernel_rfl) (by kernel_rfl) (by kernel_rfl) (HP _ _) (Or.inl ⟨by rfl, ?_⟩) (by assumption) ?_
      rotate_left
      · (intro w hSw; (try dsimp only at hSw); go_simp; try with_reducible rfl)
      try simp only [Act.put, List.setIfInBounds_toArray, List.set_cons_zero, List.set_cons_succ]
      refine wpAnyH_ready (rs := [12]) (by kernel_rfl) (by simp) ?_
      refine AllReadyH.cons (o := { dst := none, op := Go.Op.store 27 (Go.Operand.tmp 4) (Go.Operand.tmp 50), type := 0, pos := "l08_draw.go:64", after := #[{ on := 10, ground := Go.Ground.data }, { on := 8, ground := Go.Ground.chain }, { on := 0, ground := Go.Ground.phase }, { on := 1, ground := Go.Ground.phase }, { on := 2, ground := Go.Ground.phase }, { on := 3, ground := Go.Ground.phase }, { on := 4, ground := Go.Ground.phase }, { on := 5, ground := Go.Ground.phase }, { on := 6, ground := Go.Ground.phase }, { on := 7, ground := Go.Ground.phase }, { on := 8, ground := Go.Ground.phase }, { on := 9, ground := Go.Ground.phase }, { on := 10, ground := Go.Ground.phase }, { on := 11, ground := Go.Ground.textOnly Go.Departure.lateStores }], guard := none }) rfl (fun K12 hK12 => ?_) AllReadyH.nil
      go_simp
      refine hK12.out _ _ ?_ (fun hHeld4 => ?_)
      · (try dsimp only); (first | go_keep | exact ⟨(row3_cells (hw4.out.put (z2 : Int)).1.2.2.1).1.1, (row3_cells (hw4.out.put (z2 : Int)).1.2.2.1).1.2.1⟩)
      clear hK12 K12 hHeld3
      try simp only [Act.put, List.setIfInBounds_toArray, List.set_cons_zero, List.set_cons_succ]
      refine wpAnyH_done (by kernel_rfl) ?_ _
      exact HQ.out _ _ _ _ _ _ _ _ _ _ _ _ _ (hw4.out.put z2)
  · as_aux_lemma =>
      go_simp
      (refine (HG1.out _).mono ?_; rintro e v2 ⟨rfl, hb2⟩; have hw3 := Lib.hid (hw.out.dr.call hb2); obtain ⟨⟨p2, q2, r2⟩, -⟩ := row3_cells hw3.out.1.2.2.1)
      go_wp2_with fail
      refine hK5.out _ _ ?_ (fun hHeld1 => ?_)
      · (try dsimp only); (first | go_keep | exact ⟨(row3_cells (hw4.out.put (z2 : Int)).1.2.2.1).1.1, (row3_cells (hw4.out.put (z2 : Int)).1.2.2.1).1.2.1⟩)
      clear hK5 K5 hHeld0
      try simp only [Act.put, List.setIfInBounds_toArray, List.set_cons_zero, List.set_cons_succ]
      refine wpAnyH_ready (rs := [0]) (by kernel_rfl) (by simp) ?_
      refine AllReadyH.cons (o := { dst := some 41, op := Go.Op.load 27 (Go.Operand.tmp 4), type := 27, pos := "l08_draw.go:64", after := #[], guard := none }) rfl (fun K0 hK0 => ?_) AllReadyH.nil
      go_simp
      refine hK0.out _ _ ?_ (fun hHeld2 => ?_)
      · (try dsimp only); (first | go_keep | exact ⟨(row3_cells (hw4.out.put (z2 : Int)).1.2.2.1).1.1, (row3_cells (hw4.out.put (z2 : Int)).1.2.2.1).1.2.1⟩)
      clear hK0 K0 hHeld1
      try simp only [Act.put, List.setIfInBounds_toArray, List.set_cons_zero, List.set_cons_succ]
      refine wpAnyH_ready (rs := [8]) (by kernel_rfl) (by simp) ?_
      refine AllReadyH.cons (o := { dst := some 49, op := Go.Op.call { callee := Go.Callee.value (Go.Operand.func 25), args := #[Go.Operand.tmp 41, Go.Operand.tmp 46, Go.Operand.tmp 48], argTypes := #[27, 3, 4] }, type := 31, pos := "l08_draw.go:64", after := #[{ on := 0, ground := Go.Ground.data }, { on := 5, ground := Go.Ground.data }, { on := 7, ground := Go.Ground.data }, { on := 5, ground := Go.Ground.chain }], guard := none }) rfl (fun K8 hK8 => ?_) AllReadyH.nil
      go_simp
      (refine (HS1.out _).mono ?_; rintro e v3 ⟨rfl, hb3⟩; have hw4 := Lib.hid (hw3.out.call hb3); obtain ⟨⟨p3, q3, r3⟩, y0, y1, y2⟩ := row3_cells hw4.out.1.2.2.1)
      go_wp2_with fail
      refine hK8.out _ _ ?_ (fun hHeld3 => ?_)
      · (try dsimp only); (first | go_keep | exact ⟨(row3_cells (hw4.out.put (z2 : Int)).1.2.2.1).1.1, (row3_cells (hw4.out.put (z2 : Int)).1.2.2.1).1.2.1⟩)
      clear hK8 K8 hHeld2
      try simp only [Act.put, List.setIfInBounds_toArray, List.set_cons_zero, List.set_cons_succ]
      refine wpAnyH_take (i := 9) (oi := { dst := some 40, op := Go.Op.move (Go.Operand.tmp 49), type := 31, pos := "l08_draw.go:64", after := #[{ on := 8, ground := Go.Ground.data }], guard := none }) (v := ?_) rfl (by kernel_rfl) (by kernel_rfl) (by kernel_rfl) (HP _ _) (Or.inl ⟨by rfl, ?_⟩) (by assumption) ?_
      rotate_left
      · (intro w hSw; (try dsimp only at hSw); go_simp; try with_reducible rfl)
      try simp only [Act.put, List.setIfInBounds_toArray, List.set_cons_zero, List.set_cons_succ]
      refine wpAnyH_take (i := 10) (oi := { dst := some 50, op := Go.Op.extract (Go.Operand.tmp 40) 0, type := 27, pos := "l08_draw.go:64", after := #[{ on := 9, ground := Go.Ground.data }], guard := none }) (v := ?_) rfl (by kernel_rfl) (by kernel_rfl) (by kernel_rfl) (HP _ _) (Or.inl ⟨by rfl, ?_⟩) (by assumption) ?_
      rotate_left
      · (intro w hSw; (try dsimp only at hSw); go_simp; try with_reducible rfl)
      try simp only [Act.put, List.setIfInBounds_toArray, List.set_cons_zero, List.set_cons_succ]
      refine wpAnyH_take (i := 11) (oi := { dst := some 51, op := Go.Op.extract (Go.Operand.tmp 40) 1, type := 4, pos := "l08_draw.go:64", after := #[{ on := 9, ground := Go.Ground.data }, { on := 12, ground := Go.Ground.gcOnly Go.Departure.lateStores }], guard := none }) (v := ?_) rfl (by kernel_rfl) (by kernel_rfl) (by kernel_rfl) (HP _ _) (Or.inl ⟨by rfl, ?_⟩) (by assumption) ?_
      rotate_left
      · (intro w hSw; (try dsimp only at hSw); go_simp; try with_reducible rfl)
      try simp only [Act.put, List.setIfInBounds_toArray, List.set_cons_zero, List.set_cons_succ]
      refine wpAnyH_ready (rs := [12]) (by kernel_rfl) (by simp) ?_
      refine AllReadyH.cons (o := { dst := none, op := Go.Op.store 27 (Go.Operand.tmp 4) (Go.Operand.tmp 50), type := 0, pos := "l08_draw.go:64", after := #[{ on := 10, ground := Go.Ground.data }, { on := 8, ground := Go.Ground.chain }, { on := 0, ground := Go.Ground.phase }, { on := 1, ground := Go.Ground.phase }, { on := 2, ground := Go.Ground.phase }, { on := 3, ground := Go.Ground.phase }, { on := 4, ground := Go.Ground.phase }, { on := 5, ground := Go.Ground.phase }, { on := 6, ground := Go.Ground.phase }, { on := 7, ground := Go.Ground.phase }, { on := 8, ground := Go.Ground.phase }, { on := 9, ground := Go.Ground.phase }, { on := 10, ground := Go.Ground.phase }, { on := 11, ground := Go.Ground.textOnly Go.Departure.lateStores }], guard := none }) rfl (fun K12 hK12 => ?_) AllReadyH.nil
      go_simp
      refine hK12.out _ _ ?_ (fun hHeld4 => ?_)
      · (try dsimp only); (first | go_keep | exact ⟨(row3_cells (hw4.out.put (z2 : Int)).1.2.2.1).1.1, (row3_cells (hw4.out.put (z2 : Int)).1.2.2.1).1.2.1⟩)
      clear hK12 K12 hHeld3
      try simp only [Act.put, List.setIfInBounds_toArray, List.set_cons_zero, List.set_cons_succ]
      refine wpAnyH_done (by kernel_rfl) ?_ _
      exact HQ.out _ _ _ _ _ _ _ _ _ _ _ _ _ (hw4.out.put z2)

set_option maxRecDepth 100000 in
set_option maxHeartbeats 4000000 in
theorem readMaze_some (A : Option Addr) (n c : Nat) (ls : List (List UInt8)) (W : World) (hn : ls.length = n) (h0 : 0 < n) (hm : n ≤ 1048576) (hs : ∀ l ∈ ls, l.length ≤ 1048576) (hi : TxIn W W.heap.size A ls) :
    Calls Tryd.prog 9 #[.slice A n c] W (MzB (rmC ls (rmX ls)) (rmC ls (rmY ls)) (rmC ls (rmO ls)) (rmB ls) W) := by
  have hne : ls ≠ [] := by intro e; rw [e] at hn; simp at hn; omega
  obtain ⟨ad, rfl, hab⟩ := hi.at hne
  obtain ⟨l0, hl0⟩ : ∃ l, ls[0]? = some l := ⟨ls[0]'(by omega), List.getElem?_eq_getElem (by omega)⟩
  obtain ⟨s0, hs0⟩ : ∃ s : ByteArray, s = ⟨l0.toArray⟩ := ⟨_, rfl⟩
  have hsz0 : s0.size = l0.length := by subst hs0; rfl
  have hl0m := hs l0 (List.mem_of_getElem? hl0)
  have hX : (l0.length : Int) / 2 = rmX ls := by
    unfold rmX
    cases hls : ls with
    | nil => exact absurd hls hne
    | cons a t => rw [hls] at hl0; simp at hl0; subst hl0; simp
  have hY : (n : Int) / 2 = rmY ls := by unfold rmY; omega
  have HSt := @Lib.hid _ (fun T1 T2 => @rs_new W (some ad) ls hi (rmX ls) (rmY ls) T1 T2)
  have hc1 : (W.alloc (.cells #[.int .i64 0, .int .i64 0, .int .i64 0] 27)).cell? ad = some (.string s0) := by
    have h := (hi.below (below_box W (.cells #[.int .i64 0, .int .i64 0, .int .i64 0] 27))).cell hl0
    rw [← hs0] at h
    rwa [show ad.add 0 = ad from by unfold Addr.add; split <;> simp_all] at h
  have HO := Lib.hid (fun X => ok_any (rmX ls) (rmY ls) 0 X)
  have HYes := Lib.hid (fun z hv h X hb => @rd_yes ls (rmX ls) (rmY ls) z W hv h X hb)
  have HNone := Lib.hid (fun h X hb => @rd_none ls W h X hb)
  have HNo := Lib.hid (fun z hz h => @rd_no ls z n hn hz h)
  have hx0 : 0 ≤ rmX ls := by unfold rmX; omega
  have hx1 : rmX ls ≤ 1048576 := by omega
  have hy0 : 0 ≤ rmY ls := by unfold rmY; omega
  have hy1 : rmY ls ≤ 1048576 := by omega
  have hn0 : ((n : Int) == 0) = false := by simp; omega
  by_cases hk : OkZ (rmX ls) (rmY ls)
  · have hv0 : OkM (rmX ls) (rmY ls) 0 := okm (o := 0) hk (Nat.pow_pos (by decide))
    rw [show okB (rmX ls) (rmY ls) 0 = true from decide_eq_true hv0] at HO
    have HGs := @Lib.hid _ (fun i p l s h => @good_step ls h i p l s)
    have HAc := @Lib.hid _ (fun r c h => @ac_next (rmX ls) (rmY ls) (rmO ls) r c h)
    have HGd := Lib.hid (fun r c X hr hc => gapDrawn_any (rmX ls) (rmY ls) r c X hk hr hc)
    have HSg := Lib.hid (fun z g b X => setGap_any (rmX ls) (rmY ls) z g b X)
    have HOk := @Lib.hid _ (fun z h g b => @sg_ok (rmX ls) (rmY ls) z h g b)
    have HMl := Lib.hid (fun z X => linJ.mazeLines_any (rmX ls) (rmY ls) z X)
    have HEq := Lib.hid (fun A' c' z X h1 h2 => equal_any A' (some ad) (mlL (rmX ls) (rmY ls) z).length n c' c (mlL (rmX ls) (rmY ls) z) ls X rfl hn (by have := ml_small (rmX ls) (rmY ls) z; omega) hm h1 h2)
    have Hv0 := Lib.hid hv0
    have Hac0 : Hid (acZ (rmX ls) (rmY ls) (rmO ls) (0 * cW (rmX ls)) = 0) := Lib.hid (by rw [Nat.zero_mul]; rfl)
    have Hn := Lib.hid hn
    have HS := Lib.hid hs
    clear hv0 hk hn hs hi hl0 hne
    generalize rmX ls = x at *
    generalize rmY ls = y at *
    generalize hRB : rmB ls = RB at *
    generalize rmO ls = o at *
    generalize acZ x y o = ac at *
    generalize cW x = V at *
    go_enter Tryd.func9, Tryd.ntmps9
    go_wp2_with fail
    have hrs0 := Lib.hid (HSt.out 27 27)
    clear HSt hc1
    refine (HO.out _).mono ?_
    rintro e w1 ⟨rfl, hb⟩
    have hrs1 := Lib.hid (hrs0.out.call hb)
    clear hb hrs0 HO
    go_wp2_with fail
    go_loopw [29] (fun u29 wr => ∃ (i : Nat) (z : Int), i ≤ n ∧ u29 = .int .i64 i ∧ OkM x y z ∧ RS W x y z (some ad) ls wr ∧ (RB = true → z = ac (i * V))) (fun u29 _ => n - (intOf u29).toNat)
    case atStart => exact ⟨0, 0, Nat.zero_le _, rfl, Hv0.out, hrs1.out, fun _ => Hac0.out.symm⟩
    case round =>
      clear hrs1
      obtain ⟨i, z, hin, rfl, hv1, hrs1, hz1⟩ := hrel
      have hv := Lib.hid hv1
      have hrs := Lib.hid hrs1
      have hz := Lib.hid hz1
      have hK := row3_lt hrs1.2.2.1
      clear hv1 hrs1 hz1
      have hi0 : (0 : Int) ≤ (i : Int) := Int.natCast_nonneg _
      by_cases hi2 : i < n
      · have hi1 : (i : Int) < (n : Int) := by omega
        obtain ⟨l, hl⟩ : ∃ l, ls[i]? = some l := ⟨ls[i]'(by have := Hn.out; omega), List.getElem?_eq_getElem (by have := Hn.out; omega)⟩
        obtain ⟨s, hsl⟩ : ∃ s : ByteArray, s = ⟨l.toArray⟩ := ⟨_, rfl⟩
        have hcell := hrs.out.2.2.2.cell hl
        rw [← hsl] at hcell
        have hsm : s.size ≤ 1048576 := by rw [hsl]; exact HS.out l (List.mem_of_getElem? hl)
        have HG1 := Lib.hid (fun p h => HGs.out i p l s h hl hsl)
        have his0 := Lib.hid (is_new hrs.out s)
        clear hl hsl
        go_wp2_with fail
        generalize wr.heap.size = K at *
        go_loopw [] (fun wq => ∃ (p : Nat) (z' : Int), OkM x y z' ∧ IS W x y z' (some ad) ls K s p wq ∧ (RB = true → p ≤ V ∧ z' = ac (i * V + p))) (fun wq => s.size - wq.iterPos K)
        case atStart => exact ⟨0, z, hv.out, his0.out, fun h => ⟨Nat.zero_le _, hz.out h⟩⟩
        case round =>
          clear his0 hrs hv hz hcell
          obtain ⟨p, z', hv1, his1, hz1⟩ := hrel
          have hv := Lib.hid hv1
          have his := Lib.hid his1
          have hz := Lib.hid hz1
          have Hps := Lib.hid (is_pos his1)
          have hit := his1.2
          clear hv1 his1 hz1
          by_cases hp : p < s.size
          · have hnx : ∀ ty, (Instr.next (.pointer (some ⟨K, 0, none⟩)) true ty).run Tryd.prog wr = _ := fun ty => Lib.run_next_any_at wr K s p ty hit hp
            have hwd := width_pos s p hp
            have hdl := decode_le s p
            have HN : Hid (RB = true → p + (Utf8.decode s p).2 ≤ V ∧ sgZ x y z' (gdZ x y i p) (((Utf8.decode s p).1 : Int) == 32) = ac (i * V + (p + (Utf8.decode s p).2))) := Lib.hid fun h => by
              obtain ⟨g1, g2⟩ := HG1.out p h
              obtain ⟨d1, d2⟩ := g2 hp
              obtain ⟨z1, z2⟩ := hz.out h
              have hpV : p < V := by omega
              rw [d1, d2, ← Nat.add_assoc, HAc.out i p hpV, z2]
              exact ⟨by omega, rfl⟩
            have hgd := Lib.hid (fun X => HGd.out i p X (by omega) (by omega))
            have hsg := Lib.hid (fun X => HSg.out z' (gdZ x y i p) (((Utf8.decode s p).1 : Int) == 32) X)
            have hok := Lib.hid (HOk.out z' hv.out (gdZ x y i p) (((Utf8.decode s p).1 : Int) == 32))
            have his2 := Lib.hid (his.out.next (by omega) (p + (Utf8.decode s p).2))
            clear hit
            generalize (Utf8.decode s p).2 = wd at *
            generalize gdZ x y i p = g at *
            generalize hchn : (Utf8.decode s p).1 = chn at *
            clear hchn
            have hch0 : (0 : Int) ≤ (chn : Int) := Int.natCast_nonneg _
            go_wp2_with fail
            refine read_round W _ x y z' _ g _ i p K (p + wd) _ _ s (some ad) ls _ _ _ _ _ _ _ _ _ _ _ _ _ _ _ _ _ _ _ _ _ _ _ _ _ _ _ _ _ _ _ _ _ _ _ _ _ _ _ _ _ _ _ _ _ _ _ _ _ _ _ _ _ _ _ _ _ rfl his2.out hgd hsg (fun d v c a w h => by cases d <;> exact h) (Lib.hid fun v40 v41 v42 v43 v44 v45 v46 v47 v48 v49 v50 v51 X hX => ?_)
            have hps2 := is_pos hX
            have hX2 := Lib.hid hX
            clear hX
            go_wp2_with fail
            go_roundw
            case rel => exact ⟨p + wd, _, hok.out, hX2.out, HN.out⟩
            case measure => rw [hps2, Hps.out]; omega
          · have hnx : ∀ ty, (Instr.next (.pointer (some ⟨K, 0, none⟩)) true ty).run Tryd.prog wr = _ := fun ty => Lib.run_next_end_at wr K s p ty hit hp
            have HN : Hid (RB = true → z' = ac ((i + 1) * V)) := Lib.hid fun h => by
              obtain ⟨g1, -⟩ := HG1.out 0 h
              obtain ⟨z1, z2⟩ := hz.out h
              rw [z2, Nat.succ_mul]
              congr 1; omega
            go_wp2_with fail
            go_roundw
            case rel => exact ⟨i + 1, z', by omega, by go_num, hv.out, his.out.1, HN.out⟩
            case measure => simp [intOf]; omega
      · obtain rfl : i = n := by omega
        have hd : decide ((i : Int) < (i : Int)) = false := by simp
        obtain ⟨⟨m0, m1, m2⟩, -⟩ := row3_cells hrs.out.2.2.1
        have HMl1 := Lib.hid (HMl.out z)
        have HEq1 := Lib.hid (fun A' c' X h1 h2 => HEq.out A' c' z X h1 h2)
        clear HGs HAc HGd HSg HOk HMl HEq
        go_wp2_with fail
        refine (HMl1.out _).mono ?_
        rintro e w2 ⟨v, rfl, ho, hb⟩
        have hrs3 := Lib.hid (hrs.out.call hb)
        obtain ⟨A2, c2, rfl⟩ := intsP.own_form ho
        have hin2 := Lib.hid (txs_own ho).1
        have HEq2 := Lib.hid (fun h2 => HEq1.out A2 c2 w2 hin2.out h2)
        clear ho hb hrs m0 m1 m2 HMl1 HEq1 hin2
        generalize hM : mlL x y z = M at *
        generalize M.length = mm at *
        go_wp2_with fail
        refine (HEq2.out (hrs3.out.2.2.2.more hrs3.out.1.size)).mono ?_
        rintro e w3 ⟨rfl, hb⟩
        have hrs4 := Lib.hid (hrs3.out.call hb)
        clear hb hrs3 HEq2
        have hbl := Lib.hid hrs4.out.1
        obtain ⟨⟨e0, e1, e2⟩, f0, f1, f2⟩ := row3_cells hrs4.out.2.1
        obtain ⟨⟨m0, m1, m2⟩, -⟩ := row3_cells hrs4.out.2.2.1
        by_cases he : M = ls
        · have HE := Lib.hid (HYes.out z hv.out (hM.trans he))
          rw [decide_eq_true he]
          clear he hM HYes HNone HNo
          go_wp2_with fail
          refine bodyPost_ret (v := .tuple #[.agg #[.int .i64 x, .int .i64 y, .int .i64 z], .bool true]) (by simp [results, Tryd.results9, go_sem, e0, e1, e2]) rfl (HE.out _ ?_)
          repeat (first | exact hbl.out | refine Below.setCell ?_ (by simp) _)
        · have HE := Lib.hid (HNone.out (HNo.out z hz.out (fun h => he (hM.symm.trans h))))
          rw [decide_eq_false he]
          clear he hM HYes HNone HNo m0 m1 m2
          go_wp2_with fail
          refine bodyPost_ret (v := .tuple #[.agg #[.int .i64 0, .int .i64 0, .int .i64 0], .bool false]) (by simp [results, Tryd.results9, go_sem, e0, e1, e2]) rfl (HE.out _ ?_)
          repeat (first | exact hbl.out | refine Below.setCell ?_ (by simp) _)
  · have hB : rmB ls = false := by
      rw [← Bool.not_eq_true]; intro h
      exact hk (rm_ok h).1.1
    have HE := Lib.hid (HNone.out hB)
    rw [show okB (rmX ls) (rmY ls) 0 = false from decide_eq_false (fun h => hk h.1)] at HO
    clear hB hk HYes HNone HNo hn hs hi hl0 hne
    generalize rmX ls = x at *
    generalize rmY ls = y at *
    go_enter Tryd.func9, Tryd.ntmps9
    go_wp2_with fail
    have hrs0 := Lib.hid (HSt.out 27 27)
    clear HSt hc1
    refine (HO.out _).mono ?_
    rintro e w1 ⟨rfl, hb⟩
    have hrs1 := Lib.hid (hrs0.out.call hb)
    clear hb hrs0 HO
    have hbl := Lib.hid hrs1.out.1
    obtain ⟨⟨e0, e1, e2⟩, f0, f1, f2⟩ := row3_cells hrs1.out.2.1
    go_wp2_with fail
    refine bodyPost_ret (v := .tuple #[.agg #[.int .i64 0, .int .i64 0, .int .i64 0], .bool false]) (by simp [results, Tryd.results9, go_sem, e0, e1, e2]) rfl (HE.out _ ?_)
    repeat (first | exact hbl.out | refine Below.setCell ?_ (by simp) _)

set_option maxRecDepth 100000 in
theorem readMaze_nil (A : Option Addr) (c : Nat) (W : World) :
    Calls Tryd.prog 9 #[.slice A 0 c] W (MzB 0 0 0 false W) := by
  have HB := Lib.hid (fun T => (Below.refl W.heap.size W).alloc (Nat.le_refl _) (.cells #[.int .i64 0, .int .i64 0, .int .i64 0] T))
  have HR := Lib.hid (fun T => row3_new 0 0 0 W T)
  go_enter Tryd.func9, Tryd.ntmps9
  go_wp2_with fail
  obtain ⟨⟨e0, e1, e2⟩, f0, f1, f2⟩ := row3_cells (HR.out 27)
  have hbl := Lib.hid (HB.out 27)
  refine bodyPost_ret (v := .tuple #[.agg #[.int .i64 0, .int .i64 0, .int .i64 0], .bool false]) (by simp [results, Tryd.results9, go_sem]) rfl ⟨rfl, ?_⟩
  repeat (first | exact hbl.out | refine Below.setCell ?_ (by simp) _)

theorem readMaze_any (A : Option Addr) (n c : Nat) (ls : List (List UInt8)) (W : World) (hn : ls.length = n) (hm : n ≤ 1048576) (hs : ∀ l ∈ ls, l.length ≤ 1048576) (hi : TxIn W W.heap.size A ls) :
    Calls Tryd.prog 9 #[.slice A n c] W (MzB (rmC ls (rmX ls)) (rmC ls (rmY ls)) (rmC ls (rmO ls)) (rmB ls) W) := by
  by_cases h0 : 0 < n
  · exact readMaze_some A n c ls W hn h0 hm hs hi
  · obtain rfl : n = 0 := by omega
    obtain rfl : ls = [] := List.eq_nil_of_length_eq_zero hn
    have hb : rmB [] = false := by unfold rmB; rw [decide_eq_false]; exact fun h => h.1 rfl
    rw [rm_none hb, rm_none hb, rm_none hb, hb]
    exact readMaze_nil A c W
end Go.Proofs.YtmmdngfhfceefaaDoor.linK
