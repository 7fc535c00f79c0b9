/- A round of the model's walls. -/
import Derived.Test.YthakbjdkcdppjaaGrwM
namespace Go.Proofs.Ythakbjdkcdppjaa.grwN
open Go.ChangeShapes Go.WideShapes Go.ChangeAt Go.RowKit
open draw gridP gridC gridE bitP mazeP mazeC mazeM mazeR mazeS intsP boolP reachP reachM reachN reachD forest intA listK wayP ersP ersO entO grwP grwQ grwO grwM
set_option linter.unusedVariables false

def MzI (x y : Int) (s : Int × Nat) (w : World) (e : Ending) (w' : World) : Prop := e = .returned (.tuple #[.agg #[.int .i64 x, .int .i64 y, .int .i64 s.1], .int .i64 (s.2 : Int)]) ∧ Below w.heap.size w w'
/-- The maze at hand, the answer's block, the choices. -/
def DW (W : World) (x y o : Int) (A : Option Addr) (cs : List Int) (X : World) : Prop :=
  Below W.heap.size W X ∧ Row3 W.heap.size x y o X ∧ Row3 (W.heap.size + 1) 0 0 0 X ∧ IntsIn X W.heap.size A cs
section
variable {W X X' : World} {x y o : Int} {A : Option Addr} {cs : List Int}
theorem DW.call (h : DW W x y o A cs X) (hb : Below X.heap.size X X') : DW W x y o A cs X' :=
  ⟨below_call h.1 hb, h.2.1.call hb, h.2.2.1.call hb, h.2.2.2.below (hb.mono h.1.size)⟩
theorem DW.dr (h : DW W x y o A cs X) : DW W x y o A cs X.drew := h.call ⟨rfl, rfl, rfl, Nat.le_refl _, fun _ _ => rfl⟩
theorem DW.drs (h : DW W x y o A cs X) (n : Nat) : DW W x y o A cs (X.drewN n) := h.call ⟨rfl, rfl, rfl, Nat.le_refl _, fun _ _ => rfl⟩
theorem DW.ints (h : DW W x y o A cs X) : IntsIn X X.heap.size A cs := h.2.2.2.more h.1.size
theorem dw_new (hi : IntsIn W W.heap.size A cs) (T1 T2 : TypeId) :
    DW W x y o A cs ((W.alloc (.cells #[.int .i64 x, .int .i64 y, .int .i64 o] T1)).alloc (.cells #[.int .i64 0, .int .i64 0, .int .i64 0] T2)) := by
  have hb : Below W.heap.size W ((W.alloc (.cells #[.int .i64 x, .int .i64 y, .int .i64 o] T1)).alloc (.cells #[.int .i64 0, .int .i64 0, .int .i64 0] T2)) := ((Below.refl _ _).alloc (Nat.le_refl _) _).alloc (by simp) _
  refine ⟨hb, (row3_new x y o W T1).call (below_box _ _), ?_, hi.below hb⟩
  have := row3_new 0 0 0 (W.alloc (.cells #[.int .i64 x, .int .i64 y, .int .i64 o] T1)) T2
  simpa using this
theorem DW.put (h : DW W x y o A cs X) (o' : Int) :
    DW W x y o' A cs (((X.setCell ⟨W.heap.size, 0, none⟩ (.int .i64 x)).setCell ⟨W.heap.size, 1, none⟩ (.int .i64 y)).setCell ⟨W.heap.size, 2, none⟩ (.int .i64 o')) := by
  obtain ⟨h1, h2, h3, h4⟩ := h
  have hb : Below W.heap.size X (((X.setCell ⟨W.heap.size, 0, none⟩ (.int .i64 x)).setCell ⟨W.heap.size, 1, none⟩ (.int .i64 y)).setCell ⟨W.heap.size, 2, none⟩ (.int .i64 o')) :=
    (((Below.refl _ _).setCell (by simp) _).setCell (by simp) _).setCell (by simp) _
  exact ⟨h1.trans hb, row3_set h2, row3_far (row3_far (row3_far h3 (by simp) _) (by simp) _) (by simp) _, h4.below hb⟩
theorem DW.ending (h : DW W x y o A cs X) (u0 u1 u2 : Value) :
    Below W.heap.size W (((X.setCell ⟨W.heap.size + 1, 0, none⟩ u0).setCell ⟨W.heap.size + 1, 1, none⟩ u1).setCell ⟨W.heap.size + 1, 2, none⟩ u2) :=
  ((h.1.setCell (by simp) _).setCell (by simp) _).setCell (by simp) _
theorem dw_base (x y o : Int) (W : World) (T1 T2 : TypeId) :
    Row3 (W.heap.size + 1) x y o ((W.alloc (.cells #[.int .i64 x, .int .i64 y, .int .i64 o] T1)).alloc (.cells #[.int .i64 x, .int .i64 y, .int .i64 o] T2)) ∧
    Below W.heap.size W ((W.alloc (.cells #[.int .i64 x, .int .i64 y, .int .i64 o] T1)).alloc (.cells #[.int .i64 x, .int .i64 y, .int .i64 o] T2)) := by
  refine ⟨?_, ((Below.refl _ _).alloc (Nat.le_refl _) _).alloc (by simp) _⟩
  have := row3_new x y o (W.alloc (.cells #[.int .i64 x, .int .i64 y, .int .i64 o] T1)) T2
  simpa using this
end
/-- What is left over of a choice. -/
theorem rem_is {cs : List Int} {k m r : Nat} {z : Int} (hm : 0 < m) (hz : z = (m : Int)) (hr : (chZ cs k).toNat % m = r) : (chZ cs k).tmod z = (r : Int) ∧ r < m := by
  subst hz; subst hr
  have h0 := ch_ge cs k
  refine ⟨?_, Nat.mod_lt _ hm⟩
  rw [IntWalk.rem_in _ _ (by omega)]
  obtain ⟨v, hv⟩ := Int.eq_ofNat_of_zero_le h0
  rw [hv]; simp

abbrev wallHR : Code := Go.Code.region 11 #[{ dst := some 52, op := Go.Op.load 30 (Go.Operand.tmp 7), type := 30, pos := "l17_grow.go:48", after := #[], guard := none }, { dst := some 53, op := Go.Op.fieldAddr 30 (Go.Operand.tmp 7) 0, type := 0, pos := "l17_grow.go:48", after := #[], guard := none }, { dst := some 54, op := Go.Op.load 25 (Go.Operand.tmp 53), type := 25, pos := "l17_grow.go:48", after := #[{ on := 1, ground := Go.Ground.data }], guard := none }, { dst := some 55, op := Go.Op.move (Go.Operand.tmp 2), type := 3, pos := "l17_grow.go:48", after := #[], guard := none }, { dst := some 56, op := Go.Op.move (Go.Operand.tmp 18), type := 3, pos := "l17_grow.go:48", after := #[], guard := none }, { dst := some 57, op := Go.Op.binOp Go.BinOp.add 3 (Go.Operand.tmp 55) (Go.Operand.tmp 56) 3, type := 3, pos := "l17_grow.go:48", after := #[{ on := 3, ground := Go.Ground.data }, { on := 4, ground := Go.Ground.data }], guard := none }, { dst := some 58, op := Go.Op.fieldAddr 30 (Go.Operand.tmp 7) 0, type := 0, pos := "l17_grow.go:48", after := #[], guard := none }, { dst := some 59, op := Go.Op.fieldAddr 25 (Go.Operand.tmp 58) 0, type := 0, pos := "l17_grow.go:48", after := #[{ on := 6, ground := Go.Ground.data }], guard := none }, { dst := some 60, op := Go.Op.load 3 (Go.Operand.tmp 59), type := 3, pos := "l17_grow.go:48", after := #[{ on := 7, ground := Go.Ground.data }], guard := none }, { dst := some 61, op := Go.Op.binOp Go.BinOp.mul 3 (Go.Operand.tmp 57) (Go.Operand.tmp 60) 3, type := 3, pos := "l17_grow.go:48", after := #[{ on := 5, ground := Go.Ground.data }, { on := 8, ground := Go.Ground.data }], guard := none }, { dst := some 62, op := Go.Op.move (Go.Operand.tmp 1), type := 3, pos := "l17_grow.go:48", after := #[], guard := none }, { dst := some 63, op := Go.Op.binOp Go.BinOp.add 3 (Go.Operand.tmp 61) (Go.Operand.tmp 62) 3, type := 3, pos := "l17_grow.go:48", after := #[{ on := 9, ground := Go.Ground.data }, { on := 10, ground := Go.Ground.data }], guard := none }, { dst := some 64, op := Go.Op.move (Go.Operand.tmp 19), type := 3, pos := "l17_grow.go:48", after := #[], guard := none }, { dst := some 65, op := Go.Op.binOp Go.BinOp.add 3 (Go.Operand.tmp 63) (Go.Operand.tmp 64) 3, type := 3, pos := "l17_grow.go:48", after := #[{ on := 11, ground := Go.Ground.data }, { on := 12, ground := Go.Ground.data }], guard := none }, { dst := some 66, op := Go.Op.call { callee := Go.Callee.value (Go.Operand.func 59), args := #[Go.Operand.tmp 54, Go.Operand.tmp 65, Go.Operand.const (Go.Value.int Go.IntKind.i64 2)], argTypes := #[25, 3, 3] }, type := 3, pos := "l17_grow.go:48", after := #[{ on := 2, ground := Go.Ground.data }, { on := 13, ground := Go.Ground.data }], guard := none }, { dst := some 67, op := Go.Op.move (Go.Operand.tmp 19), type := 3, pos := "l17_grow.go:48", after := #[], guard := none }, { dst := some 68, op := Go.Op.move (Go.Operand.tmp 17), type := 3, pos := "l17_grow.go:48", after := #[], guard := none }, { dst := some 69, op := Go.Op.move (Go.Operand.tmp 3), type := 3, pos := "l17_grow.go:48", after := #[], guard := none }, { dst := some 70, op := Go.Op.binOp Go.BinOp.rem 3 (Go.Operand.tmp 68) (Go.Operand.tmp 69) 3, type := 3, pos := "l17_grow.go:48", after := #[{ on := 16, ground := Go.Ground.data }, { on := 17, ground := Go.Ground.data }], guard := none }, { dst := some 71, op := Go.Op.binOp Go.BinOp.eql 3 (Go.Operand.tmp 67) (Go.Operand.tmp 70) 3, type := 4, pos := "l17_grow.go:48", after := #[{ on := 15, ground := Go.Ground.data }, { on := 18, ground := Go.Ground.data }], guard := none }, { dst := some 72, op := Go.Op.call { callee := Go.Callee.value (Go.Operand.func 39), args := #[Go.Operand.tmp 52, Go.Operand.tmp 66, Go.Operand.tmp 71], argTypes := #[30, 3, 4] }, type := 54, pos := "l17_grow.go:48", after := #[{ on := 0, ground := Go.Ground.data }, { on := 14, ground := Go.Ground.data }, { on := 19, ground := Go.Ground.data }, { on := 14, ground := Go.Ground.chain }], guard := none }, { dst := some 51, op := Go.Op.move (Go.Operand.tmp 72), type := 54, pos := "l17_grow.go:48", after := #[{ on := 20, ground := Go.Ground.data }], guard := none }, { dst := some 73, op := Go.Op.extract (Go.Operand.tmp 51) 0, type := 30, pos := "l17_grow.go:48", after := #[{ on := 21, ground := Go.Ground.data }], guard := none }, { dst := some 74, op := Go.Op.extract (Go.Operand.tmp 51) 1, type := 4, pos := "l17_grow.go:48", after := #[{ on := 21, ground := Go.Ground.data }, { on := 24, ground := Go.Ground.gcOnly Go.Departure.lateStores }], guard := none }, { dst := none, op := Go.Op.store 30 (Go.Operand.tmp 7) (Go.Operand.tmp 73), type := 0, pos := "l17_grow.go:48", after := #[{ on := 22, ground := Go.Ground.data }, { on := 20, ground := Go.Ground.chain }, { on := 0, ground := Go.Ground.phase }, { on := 1, ground := Go.Ground.phase }, { on := 2, ground := Go.Ground.phase }, { on := 3, ground := Go.Ground.phase }, { on := 4, ground := Go.Ground.phase }, { on := 5, ground := Go.Ground.phase }, { on := 6, ground := Go.Ground.phase }, { on := 7, ground := Go.Ground.phase }, { on := 8, ground := Go.Ground.phase }, { on := 9, ground := Go.Ground.phase }, { on := 10, ground := Go.Ground.phase }, { on := 11, ground := Go.Ground.phase }, { on := 12, ground := Go.Ground.phase }, { on := 13, ground := Go.Ground.phase }, { on := 14, ground := Go.Ground.phase }, { on := 15, ground := Go.Ground.phase }, { on := 16, ground := Go.Ground.phase }, { on := 17, ground := Go.Ground.phase }, { on := 18, ground := Go.Ground.phase }, { on := 19, ground := Go.Ground.phase }, { on := 20, ground := Go.Ground.phase }, { on := 21, ground := Go.Ground.phase }, { on := 22, ground := Go.Ground.phase }, { on := 23, ground := Go.Ground.textOnly Go.Departure.lateStores }], guard := none }] true
set_option maxRecDepth 100000 in
set_option maxHeartbeats 800000 in
/-- A round of a wall below. -/
theorem wallH_round (W w : World) (x y o o3 x0 y0 m r i vb p q g : Int) (bb sb : Bool) (A : Option Addr) (cs : List Int) (Q : Exit → Act → World → Prop) (u0 u4 u5 u6 u8 u9 u10 u11 u12 u13 u14 u15 u16 u20 u21 u22 u23 u24 u25 u26 u27 u28 u29 u30 u31 u32 u33 u34 u35 u36 u37 u38 u39 u40 u41 u42 u43 u44 u45 u46 u47 u48 u49 u50 u51 u52 u53 u54 u55 u56 u57 u58 u59 u60 u61 u62 u63 u64 u65 u66 u67 u68 u69 u70 u71 u72 u73 u74 u75 u76 u77 u78 u79 u80 u81 u82 u83 u84 u85 u86 u87 u88 u89 u90 u91 u92 u93 u94 u95 u96 u97 u98 u99 u100 u101 u102 u103 u104 u105 u106 u107 u108 u109 u110 u111 u112 u113 u114 u115 u116 u117 u118 u119 u120 u121 u122 u123 u124 u125 u126 u127 u128 u129 u130 u131 u132 u133 u134 u135 u136 u137 u138 u139 u140 u141 u142 u143 u144 u145 u146 u147 u148 u149 u150 u151 u152 u153 u154 u155 u156 u157 u158 u159 u160 u161 u162 u163 : Value) (hdw : DW W x y o A cs w)
    (h0 : 0 ≤ x0 ∧ x0 ≤ 4) (h1 : 0 ≤ y0 ∧ y0 ≤ 4) (h2 : 0 ≤ r ∧ r ≤ 4) (h3 : 0 ≤ i ∧ i ≤ 4) (h4 : 0 ≤ q ∧ q ≤ 16)
    (hs : IntKind.i64.wrap (y0 + r) = y0 + r) (hq : IntKind.i64.wrap ((y0 + r) * x) = q) (ha1 : IntKind.i64.wrap (q + x0) = q + x0) (ha2 : IntKind.i64.wrap (q + x0 + i) = q + x0 + i) (hm : ¬ m = 0) (hp : vb.tmod m = p) (hd : (i == p) = bb)
    (HG1 : Hid (∀ X, Calls Try.prog 59 #[.agg #[.int .i64 x, .int .i64 y], .int .i64 (q + x0 + i), .int .i64 2] X (Nm g X)))
    (HS1 : Hid (∀ X, Calls Try.prog 39 #[.agg #[.int .i64 x, .int .i64 y, .int .i64 o], .int .i64 g, .bool bb] X (MzB x y o3 sb X)))
    (HP : ∀ (d : Option Tmp) (v : Value) c a w, Q (.panic c) (a.put d v) w → Q (.panic c) a w)
    (HQ : Hid (∀ v51 v52 v53 v54 v55 v56 v57 v58 v59 v60 v61 v62 v63 v64 v65 v66 v67 v68 v69 v70 v71 v72 v73 v74 X, DW W x y o3 A cs X → Q .normal { tmps := #[u0, (.int .i64 x0), (.int .i64 y0), (.int .i64 m), u4, u5, u6, (.pointer (some ⟨W.heap.size, 0, none⟩)), u8, u9, u10, u11, u12, u13, u14, u15, u16, (.int .i64 vb), (.int .i64 r), (.int .i64 i), u20, u21, u22, u23, u24, u25, u26, u27, u28, u29, u30, u31, u32, u33, u34, u35, u36, u37, u38, u39, u40, u41, u42, u43, u44, u45, u46, u47, u48, u49, u50, v51, v52, v53, v54, v55, v56, v57, v58, v59, v60, v61, v62, v63, v64, v65, v66, v67, v68, v69, v70, v71, v72, v73, v74, u75, u76, u77, u78, u79, u80, u81, u82, u83, u84, u85, u86, u87, u88, u89, u90, u91, u92, u93, u94, u95, u96, u97, u98, u99, u100, u101, u102, u103, u104, u105, u106, u107, u108, u109, u110, u111, u112, u113, u114, u115, u116, u117, u118, u119, u120, u121, u122, u123, u124, u125, u126, u127, u128, u129, u130, u131, u132, u133, u134, u135, u136, u137, u138, u139, u140, u141, u142, u143, u144, u145, u146, u147, u148, u149, u150, u151, u152, u153, u154, u155, u156, u157, u158, u159, u160, u161, u162, u163], defers := [] } X)) :
    Code.wp Try.prog wallHR Q { tmps := #[u0, (.int .i64 x0), (.int .i64 y0), (.int .i64 m), u4, u5, u6, (.pointer (some ⟨W.heap.size, 0, none⟩)), u8, u9, u10, u11, u12, u13, u14, u15, u16, (.int .i64 vb), (.int .i64 r), (.int .i64 i), u20, u21, u22, u23, u24, u25, u26, u27, u28, u29, u30, u31, u32, u33, u34, u35, u36, u37, u38, u39, u40, u41, u42, u43, u44, u45, u46, u47, u48, u49, u50, u51, u52, u53, u54, u55, u56, u57, u58, u59, u60, u61, u62, u63, u64, u65, u66, u67, u68, u69, u70, u71, u72, u73, u74, u75, u76, u77, u78, u79, u80, u81, u82, u83, u84, u85, u86, u87, u88, u89, u90, u91, u92, u93, u94, u95, u96, u97, u98, u99, u100, u101, u102, u103, u104, u105, u106, u107, u108, u109, u110, u111, u112, u113, u114, u115, u116, u117, u118, u119, u120, u121, u122, u123, u124, u125, u126, u127, u128, u129, u130, u131, u132, u133, u134, u135, u136, u137, u138, u139, u140, u141, u142, u143, u144, u145, u146, u147, u148, u149, u150, u151, u152, u153, u154, u155, u156, u157, u158, u159, u160, u161, u162, u163], defers := [] } w := by
  have hdw' := Lib.hid hdw
  obtain ⟨⟨m0, m1, m2⟩, f0, f1, f2⟩ := row3_cells hdw.2.1
  clear hdw
  dsimp only [wallHR]
  try simp only [List.cons_append, List.nil_append, List.append_eq]
  refine wp_region_held_drew (S := (fun w' => w'.cell? ⟨W.heap.size, 0, none⟩ = some (.int .i64 x) ∧ w'.cell? ⟨W.heap.size, 1, none⟩ = some (.int .i64 y))) (by kernel_rfl) ?_ (fun hHeld0 => ?_)
  · (try dsimp only); (first | go_keep | exact ⟨(row3_cells (hdw3.out.put o3).2.1).1.1, (row3_cells (hdw3.out.put o3).2.1).1.2.1⟩)
  refine wpAnyH_take (i := 1) (oi := { dst := some 53, op := Go.Op.fieldAddr 30 (Go.Operand.tmp 7) 0, type := 0, pos := "l17_grow.go:48", after := #[], guard := none }) (v := ?_) rfl (by kernel_rfl) (by kernel_rfl) (by kernel_rfl) (HP _ _) (Or.inl ⟨by rfl, ?_⟩) (by assumption) ?_
  rotate_left
  · (intro w hSw; (try dsimp only at hSw); go_simp; try with_reducible rfl)
  try simp only [Act.put, List.setIfInBounds_toArray, List.set_cons_zero, List.set_cons_succ]
  refine wpAnyH_take (i := 2) (oi := { dst := some 54, op := Go.Op.load 25 (Go.Operand.tmp 53), type := 25, pos := "l17_grow.go:48", after := #[{ on := 1, ground := Go.Ground.data }], guard := none }) (v := ?_) rfl (by kernel_rfl) (by kernel_rfl) (by kernel_rfl) (HP _ _) (Or.inl ⟨by rfl, ?_⟩) (by assumption) ?_
  rotate_left
  · (intro w hSw; (try dsimp only at hSw); go_simp; try with_reducible rfl)
  try simp only [Act.put, List.setIfInBounds_toArray, List.set_cons_zero, List.set_cons_succ]
  refine wpAnyH_take (i := 3) (oi := { dst := some 55, op := Go.Op.move (Go.Operand.tmp 2), type := 3, pos := "l17_grow.go:48", after := #[], guard := none }) (v := ?_) rfl (by kernel_rfl) (by kernel_rfl) (by kernel_rfl) (HP _ _) (Or.inl ⟨by rfl, ?_⟩) (by assumption) ?_
  rotate_left
  · (intro w hSw; (try dsimp only at hSw); go_simp; try with_reducible rfl)
  try simp only [Act.put, List.setIfInBounds_toArray, List.set_cons_zero, List.set_cons_succ]
  refine wpAnyH_take (i := 4) (oi := { dst := some 56, op := Go.Op.move (Go.Operand.tmp 18), type := 3, pos := "l17_grow.go:48", after := #[], guard := none }) (v := ?_) rfl (by kernel_rfl) (by kernel_rfl) (by kernel_rfl) (HP _ _) (Or.inl ⟨by rfl, ?_⟩) (by assumption) ?_
  rotate_left
  · (intro w hSw; (try dsimp only at hSw); go_simp; try with_reducible rfl)
  try simp only [Act.put, List.setIfInBounds_toArray, List.set_cons_zero, List.set_cons_succ]
  refine wpAnyH_take (i := 5) (oi := { dst := some 57, op := Go.Op.binOp Go.BinOp.add 3 (Go.Operand.tmp 55) (Go.Operand.tmp 56) 3, type := 3, pos := "l17_grow.go:48", after := #[{ on := 3, ground := Go.Ground.data }, { on := 4, ground := Go.Ground.data }], guard := none }) (v := ?_) rfl (by kernel_rfl) (by kernel_rfl) (by kernel_rfl) (HP _ _) (Or.inl ⟨by rfl, ?_⟩) (by assumption) ?_
  rotate_left
  · (intro w hSw; (try dsimp only at hSw); go_simp; try with_reducible rfl)
  try simp only [Act.put, List.setIfInBounds_toArray, List.set_cons_zero, List.set_cons_succ]
  refine wpAnyH_take (i := 6) (oi := { dst := some 58, op := Go.Op.fieldAddr 30 (Go.Operand.tmp 7) 0, type := 0, pos := "l17_grow.go:48", after := #[], guard := none }) (v := ?_) rfl (by kernel_rfl) (by kernel_rfl) (by kernel_rfl) (HP _ _) (Or.inl ⟨by rfl, ?_⟩) (by assumption) ?_
  rotate_left
  · (intro w hSw; (try dsimp only at hSw); go_simp; try with_reducible rfl)
  try simp only [Act.put, List.setIfInBounds_toArray, List.set_cons_zero, List.set_cons_succ]
  refine wpAnyH_take (i := 7) (oi := { dst := some 59, op := Go.Op.fieldAddr 25 (Go.Operand.tmp 58) 0, type := 0, pos := "l17_grow.go:48", after := #[{ on := 6, ground := Go.Ground.data }], guard := none }) (v := ?_) rfl (by kernel_rfl) (by kernel_rfl) (by kernel_rfl) (HP _ _) (Or.inl ⟨by rfl, ?_⟩) (by assumption) ?_
  rotate_left
  · (intro w hSw; (try dsimp only at hSw); go_simp; try with_reducible rfl)
  try simp only [Act.put, List.setIfInBounds_toArray, List.set_cons_zero, List.set_cons_succ]
  refine wpAnyH_take (i := 8) (oi := { dst := some 60, op := Go.Op.load 3 (Go.Operand.tmp 59), type := 3, pos := "l17_grow.go:48", after := #[{ on := 7, ground := Go.Ground.data }], guard := none }) (v := ?_) rfl (by kernel_rfl) (by kernel_rfl) (by kernel_rfl) (HP _ _) (Or.inl ⟨by rfl, ?_⟩) (by assumption) ?_
  rotate_left
  · (intro w hSw; (try dsimp only at hSw); go_simp; try with_reducible rfl)
  try simp only [Act.put, List.setIfInBounds_toArray, List.set_cons_zero, List.set_cons_succ]
  refine wpAnyH_take (i := 9) (oi := { dst := some 61, op := Go.Op.binOp Go.BinOp.mul 3 (Go.Operand.tmp 57) (Go.Operand.tmp 60) 3, type := 3, pos := "l17_grow.go:48", after := #[{ on := 5, ground := Go.Ground.data }, { on := 8, ground := Go.Ground.data }], guard := none }) (v := ?_) rfl (by kernel_rfl) (by kernel_rfl) (by kernel_rfl) (HP _ _) (Or.inl ⟨by rfl, ?_⟩) (by assumption) ?_
  rotate_left
  · (intro w hSw; (try dsimp only at hSw); go_simp; try with_reducible rfl)
  try simp only [Act.put, List.setIfInBounds_toArray, List.set_cons_zero, List.set_cons_succ]
  refine wpAnyH_take (i := 10) (oi := { dst := some 62, op := Go.Op.move (Go.Operand.tmp 1), type := 3, pos := "l17_grow.go:48", after := #[], guard := none }) (v := ?_) rfl (by kernel_rfl) (by kernel_rfl) (by kernel_rfl) (HP _ _) (Or.inl ⟨by rfl, ?_⟩) (by assumption) ?_
  rotate_left
  · (intro w hSw; (try dsimp only at hSw); go_simp; try with_reducible rfl)
  try simp only [Act.put, List.setIfInBounds_toArray, List.set_cons_zero, List.set_cons_succ]
  refine wpAnyH_take (i := 11) (oi := { dst := some 63, op := Go.Op.binOp Go.BinOp.add 3 (Go.Operand.tmp 61) (Go.Operand.tmp 62) 3, type := 3, pos := "l17_grow.go:48", after := #[{ on := 9, ground := Go.Ground.data }, { on := 10, ground := Go.Ground.data }], guard := none }) (v := ?_) rfl (by kernel_rfl) (by kernel_rfl) (by kernel_rfl) (HP _ _) (Or.inl ⟨by rfl, ?_⟩) (by assumption) ?_
  rotate_left
  · (intro w hSw; (try dsimp only at hSw); go_simp; try with_reducible rfl)
  try simp only [Act.put, List.setIfInBounds_toArray, List.set_cons_zero, List.set_cons_succ]
  refine wpAnyH_take (i := 12) (oi := { dst := some 64, op := Go.Op.move (Go.Operand.tmp 19), type := 3, pos := "l17_grow.go:48", after := #[], guard := none }) (v := ?_) rfl (by kernel_rfl) (by kernel_rfl) (by kernel_rfl) (HP _ _) (Or.inl ⟨by rfl, ?_⟩) (by assumption) ?_
  rotate_left
  · (intro w hSw; (try dsimp only at hSw); go_simp; try with_reducible rfl)
  try simp only [Act.put, List.setIfInBounds_toArray, List.set_cons_zero, List.set_cons_succ]
  refine wpAnyH_take (i := 13) (oi := { dst := some 65, op := Go.Op.binOp Go.BinOp.add 3 (Go.Operand.tmp 63) (Go.Operand.tmp 64) 3, type := 3, pos := "l17_grow.go:48", after := #[{ on := 11, ground := Go.Ground.data }, { on := 12, ground := Go.Ground.data }], guard := none }) (v := ?_) rfl (by kernel_rfl) (by kernel_rfl) (by kernel_rfl) (HP _ _) (Or.inl ⟨by rfl, ?_⟩) (by assumption) ?_
  rotate_left
  · (intro w hSw; (try dsimp only at hSw); go_simp; try with_reducible rfl)
  try simp only [Act.put, List.setIfInBounds_toArray, List.set_cons_zero, List.set_cons_succ]
  refine wpAnyH_take (i := 15) (oi := { dst := some 67, op := Go.Op.move (Go.Operand.tmp 19), type := 3, pos := "l17_grow.go:48", after := #[], guard := none }) (v := ?_) rfl (by kernel_rfl) (by kernel_rfl) (by kernel_rfl) (HP _ _) (Or.inl ⟨by rfl, ?_⟩) (by assumption) ?_
  rotate_left
  · (intro w hSw; (try dsimp only at hSw); go_simp; try with_reducible rfl)
  try simp only [Act.put, List.setIfInBounds_toArray, List.set_cons_zero, List.set_cons_succ]
  refine wpAnyH_take (i := 16) (oi := { dst := some 68, op := Go.Op.move (Go.Operand.tmp 17), type := 3, pos := "l17_grow.go:48", after := #[], guard := none }) (v := ?_) rfl (by kernel_rfl) (by kernel_rfl) (by kernel_rfl) (HP _ _) (Or.inl ⟨by rfl, ?_⟩) (by assumption) ?_
  rotate_left
  · (intro w hSw; (try dsimp only at hSw); go_simp; try with_reducible rfl)
  try simp only [Act.put, List.setIfInBounds_toArray, List.set_cons_zero, List.set_cons_succ]
  refine wpAnyH_take (i := 17) (oi := { dst := some 69, op := Go.Op.move (Go.Operand.tmp 3), type := 3, pos := "l17_grow.go:48", after := #[], guard := none }) (v := ?_) rfl (by kernel_rfl) (by kernel_rfl) (by kernel_rfl) (HP _ _) (Or.inl ⟨by rfl, ?_⟩) (by assumption) ?_
  rotate_left
  · (intro w hSw; (try dsimp only at hSw); go_simp; try with_reducible rfl)
  try simp only [Act.put, List.setIfInBounds_toArray, List.set_cons_zero, List.set_cons_succ]
  refine wpAnyH_take (i := 18) (oi := { dst := some 70, op := Go.Op.binOp Go.BinOp.rem 3 (Go.Operand.tmp 68) (Go.Operand.tmp 69) 3, type := 3, pos := "l17_grow.go:48", after := #[{ on := 16, ground := Go.Ground.data }, { on := 17, ground := Go.Ground.data }], guard := none }) (v := ?_) rfl (by kernel_rfl) (by kernel_rfl) (by kernel_rfl) (HP _ _) (Or.inl ⟨by rfl, ?_⟩) (by assumption) ?_
  rotate_left
  · (intro w hSw; (try dsimp only at hSw); go_simp; try with_reducible rfl)
  try simp only [Act.put, List.setIfInBounds_toArray, List.set_cons_zero, List.set_cons_succ]
  refine wpAnyH_take (i := 19) (oi := { dst := some 71, op := Go.Op.binOp Go.BinOp.eql 3 (Go.Operand.tmp 67) (Go.Operand.tmp 70) 3, type := 4, pos := "l17_grow.go:48", after := #[{ on := 15, ground := Go.Ground.data }, { on := 18, ground := Go.Ground.data }], guard := none }) (v := ?_) rfl (by kernel_rfl) (by kernel_rfl) (by kernel_rfl) (HP _ _) (Or.inl ⟨by rfl, ?_⟩) (by assumption) ?_
  rotate_left
  · (intro w hSw; (try dsimp only at hSw); go_simp; try with_reducible rfl)
  try simp only [Act.put, List.setIfInBounds_toArray, List.set_cons_zero, List.set_cons_succ]
  refine wpAnyH_ready (rs := [0, 14]) (by kernel_rfl) (by simp) ?_
  refine (AllReadyH.cons (o := { dst := some 52, op := Go.Op.load 30 (Go.Operand.tmp 7), type := 30, pos := "l17_grow.go:48", after := #[], guard := none }) rfl (fun K0 hK0 => ?_) (AllReadyH.cons (o := { dst := some 66, op := Go.Op.call { callee := Go.Callee.value (Go.Operand.func 59), args := #[Go.Operand.tmp 54, Go.Operand.tmp 65, Go.Operand.const (Go.Value.int Go.IntKind.i64 2)], argTypes := #[25, 3, 3] }, type := 3, pos := "l17_grow.go:48", after := #[{ on := 2, ground := Go.Ground.data }, { on := 13, ground := Go.Ground.data }], guard := none }) rfl (fun K14 hK14 => ?_) AllReadyH.nil))
  · as_aux_lemma =>
      go_simp
      refine hK0.out _ _ ?_ (fun hHeld1 => ?_)
      · (try dsimp only); (first | go_keep | exact ⟨(row3_cells (hdw3.out.put o3).2.1).1.1, (row3_cells (hdw3.out.put o3).2.1).1.2.1⟩)
      clear hK0 K0 hHeld0
      try simp only [Act.put, List.setIfInBounds_toArray, List.set_cons_zero, List.set_cons_succ]
      refine wpAnyH_ready (rs := [14]) (by kernel_rfl) (by simp) ?_
      refine AllReadyH.cons (o := { dst := some 66, op := Go.Op.call { callee := Go.Callee.value (Go.Operand.func 59), args := #[Go.Operand.tmp 54, Go.Operand.tmp 65, Go.Operand.const (Go.Value.int Go.IntKind.i64 2)], argTypes := #[25, 3, 3] }, type := 3, pos := "l17_grow.go:48", after := #[{ on := 2, ground := Go.Ground.data }, { on := 13, ground := Go.Ground.data }], guard := none }) rfl (fun K14 hK14 => ?_) AllReadyH.nil
      go_simp
      (refine (HG1.out _).mono ?_; rintro e v1 ⟨rfl, hb1⟩; have hdw2 := Lib.hid (hdw'.out.dr.call hb1); obtain ⟨⟨p1, q1, r1⟩, -⟩ := row3_cells hdw2.out.2.1)
      go_wp2_with fail
      refine hK14.out _ _ ?_ (fun hHeld2 => ?_)
      · (try dsimp only); (first | go_keep | exact ⟨(row3_cells (hdw3.out.put o3).2.1).1.1, (row3_cells (hdw3.out.put o3).2.1).1.2.1⟩)
      clear hK14 K14 hHeld1
      try simp only [Act.put, List.setIfInBounds_toArray, List.set_cons_zero, List.set_cons_succ]
      refine wpAnyH_ready (rs := [20]) (by kernel_rfl) (by simp) ?_
      refine AllReadyH.cons (o := { dst := some 72, op := Go.Op.call { callee := Go.Callee.value (Go.Operand.func 39), args := #[Go.Operand.tmp 52, Go.Operand.tmp 66, Go.Operand.tmp 71], argTypes := #[30, 3, 4] }, type := 54, pos := "l17_grow.go:48", after := #[{ on := 0, ground := Go.Ground.data }, { on := 14, ground := Go.Ground.data }, { on := 19, ground := Go.Ground.data }, { on := 14, ground := Go.Ground.chain }], guard := none }) rfl (fun K20 hK20 => ?_) AllReadyH.nil
      go_simp
      (refine (HS1.out _).mono ?_; rintro e v2 ⟨rfl, hb2⟩; have hdw3 := Lib.hid (hdw2.out.call hb2); obtain ⟨⟨p2, q2, r2⟩, t0, t1, t2⟩ := row3_cells hdw3.out.2.1)
      go_wp2_with fail
      refine hK20.out _ _ ?_ (fun hHeld3 => ?_)
      · (try dsimp only); (first | go_keep | exact ⟨(row3_cells (hdw3.out.put o3).2.1).1.1, (row3_cells (hdw3.out.put o3).2.1).1.2.1⟩)
      clear hK20 K20 hHeld2
      try simp only [Act.put, List.setIfInBounds_toArray, List.set_cons_zero, List.set_cons_succ]
      refine wpAnyH_take (i := 21) (oi := { dst := some 51, op := Go.Op.move (Go.Operand.tmp 72), type := 54, pos := "l17_grow.go:48", after := #[{ on := 20, ground := Go.Ground.data }], guard := none }) (v := ?_) rfl (by kernel_rfl) (by kernel_rfl) (by kernel_rfl) (HP _ _) (Or.inl ⟨by rfl, ?_⟩) (by assumption) ?_
      rotate_left
      · (intro w hSw; (try dsimp only at hSw); go_simp; try with_reducible rfl)
      try simp only [Act.put, List.setIfInBounds_toArray, List.set_cons_zero, List.set_cons_succ]
      refine wpAnyH_take (i := 22) (oi := { dst := some 73, op := Go.Op.extract (Go.Operand.tmp 51) 0, type := 30, pos := "l17_grow.go:48", after := #[{ on := 21, ground := Go.Ground.data }], guard := none }) (v := ?_) rfl (by kernel_rfl) (by kernel_rfl) (by kernel_rfl) (HP _ _) (Or.inl ⟨by rfl, ?_⟩) (by assumption) ?_
      rotate_left
      · (intro w hSw; (try dsimp only at hSw); go_simp; try with_reducible rfl)
      try simp only [Act.put, List.setIfInBounds_toArray, List.set_cons_zero, List.set_cons_succ]
      refine wpAnyH_take (i := 23) (oi := { dst := some 74, op := Go.Op.extract (Go.Operand.tmp 51) 1, type := 4, pos := "l17_grow.go:48", after := #[{ on := 21, ground := Go.Ground.data }, { on := 24, ground := Go.Ground.gcOnly Go.Departure.lateStores }], guard := none }) (v := ?_) rfl (by kernel_rfl) (by kernel_rfl) (by kernel_rfl) (HP _ _) (Or.inl ⟨by rfl, ?_⟩) (by assumption) ?_
      rotate_left
      · (intro w hSw; (try dsimp only at hSw); go_simp; try with_reducible rfl)
      try simp only [Act.put, List.setIfInBounds_toArray, List.set_cons_zero, List.set_cons_succ]
      refine wpAnyH_ready (rs := [24]) (by kernel_rfl) (by simp) ?_
      refine AllReadyH.cons (o := { dst := none, op := Go.Op.store 30 (Go.Operand.tmp 7) (Go.Operand.tmp 73), type := 0, pos := "l17_grow.go:48", after := #[{ on := 22, ground := Go.Ground.data }, { on := 20, ground := Go.Ground.chain }, { on := 0, ground := Go.Ground.phase }, { on := 1, ground := Go.Ground.phase }, { on := 2, ground := Go.Ground.phase }, { on := 3, ground := Go.Ground.phase }, { on := 4, ground := Go.Ground.phase }, { on := 5, ground := Go.Ground.phase }, { on := 6, ground := Go.Ground.phase }, { on := 7, ground := Go.Ground.phase }, { on := 8, ground := Go.Ground.phase }, { on := 9, ground := Go.Ground.phase }, { on := 10, ground := Go.Ground.phase }, { on := 11, ground := Go.Ground.phase }, { on := 12, ground := Go.Ground.phase }, { on := 13, ground := Go.Ground.phase }, { on := 14, ground := Go.Ground.phase }, { on := 15, ground := Go.Ground.phase }, { on := 16, ground := Go.Ground.phase }, { on := 17, ground := Go.Ground.phase }, { on := 18, ground := Go.Ground.phase }, { on := 19, ground := Go.Ground.phase }, { on := 20, ground := Go.Ground.phase }, { on := 21, ground := Go.Ground.phase }, { on := 22, ground := Go.Ground.phase }, { on := 23, ground := Go.Ground.textOnly Go.Departure.lateStores }], guard := none }) rfl (fun K24 hK24 => ?_) AllReadyH.nil
      go_simp
      refine hK24.out _ _ ?_ (fun hHeld4 => ?_)
      · (try dsimp only); (first | go_keep | exact ⟨(row3_cells (hdw3.out.put o3).2.1).1.1, (row3_cells (hdw3.out.put o3).2.1).1.2.1⟩)
      clear hK24 K24 hHeld3
      try simp only [Act.put, List.setIfInBounds_toArray, List.set_cons_zero, List.set_cons_succ]
      refine wpAnyH_done (by kernel_rfl) ?_ _
      exact HQ.out _ _ _ _ _ _ _ _ _ _ _ _ _ _ _ _ _ _ _ _ _ _ _ _ _ (hdw3.out.put o3)
  · as_aux_lemma =>
      go_simp
      (refine (HG1.out _).mono ?_; rintro e v1 ⟨rfl, hb1⟩; have hdw2 := Lib.hid (hdw'.out.dr.call hb1); obtain ⟨⟨p1, q1, r1⟩, -⟩ := row3_cells hdw2.out.2.1)
      go_wp2_with fail
      refine hK14.out _ _ ?_ (fun hHeld1 => ?_)
      · (try dsimp only); (first | go_keep | exact ⟨(row3_cells (hdw3.out.put o3).2.1).1.1, (row3_cells (hdw3.out.put o3).2.1).1.2.1⟩)
      clear hK14 K14 hHeld0
      try simp only [Act.put, List.setIfInBounds_toArray, List.set_cons_zero, List.set_cons_succ]
      refine wpAnyH_ready (rs := [0]) (by kernel_rfl) (by simp) ?_
      refine AllReadyH.cons (o := { dst := some 52, op := Go.Op.load 30 (Go.Operand.tmp 7), type := 30, pos := "l17_grow.go:48", after := #[], guard := none }) rfl (fun K0 hK0 => ?_) AllReadyH.nil
      go_simp
      refine hK0.out _ _ ?_ (fun hHeld2 => ?_)
      · (try dsimp only); (first | go_keep | exact ⟨(row3_cells (hdw3.out.put o3).2.1).1.1, (row3_cells (hdw3.out.put o3).2.1).1.2.1⟩)
      clear hK0 K0 hHeld1
      try simp only [Act.put, List.setIfInBounds_toArray, List.set_cons_zero, List.set_cons_succ]
      refine wpAnyH_ready (rs := [20]) (by kernel_rfl) (by simp) ?_
      refine AllReadyH.cons (o := { dst := some 72, op := Go.Op.call { callee := Go.Callee.value (Go.Operand.func 39), args := #[Go.Operand.tmp 52, Go.Operand.tmp 66, Go.Operand.tmp 71], argTypes := #[30, 3, 4] }, type := 54, pos := "l17_grow.go:48", after := #[{ on := 0, ground := Go.Ground.data }, { on := 14, ground := Go.Ground.data }, { on := 19, ground := Go.Ground.data }, { on := 14, ground := Go.Ground.chain }], guard := none }) rfl (fun K20 hK20 => ?_) AllReadyH.nil
      go_simp
      (refine (HS1.out _).mono ?_; rintro e v2 ⟨rfl, hb2⟩; have hdw3 := Lib.hid (hdw2.out.call hb2); obtain ⟨⟨p2, q2, r2⟩, t0, t1, t2⟩ := row3_cells hdw3.out.2.1)
      go_wp2_with fail
      refine hK20.out _ _ ?_ (fun hHeld3 => ?_)
      · (try dsimp only); (first | go_keep | exact ⟨(row3_cells (hdw3.out.put o3).2.1).1.1, (row3_cells (hdw3.out.put o3).2.1).1.2.1⟩)
      clear hK20 K20 hHeld2
      try simp only [Act.put, List.setIfInBounds_toArray, List.set_cons_zero, List.set_cons_succ]
      refine wpAnyH_take (i := 21) (oi := { dst := some 51, op := Go.Op.move (Go.Operand.tmp 72), type := 54, pos := "l17_grow.go:48", after := #[{ on := 20, ground := Go.Ground.data }], guard := none }) (v := ?_) rfl (by kernel_rfl) (by kernel_rfl) (by kernel_rfl) (HP _ _) (Or.inl ⟨by rfl, ?_⟩) (by assumption) ?_
      rotate_left
      · (intro w hSw; (try dsimp only at hSw); go_simp; try with_reducible rfl)
      try simp only [Act.put, List.setIfInBounds_toArray, List.set_cons_zero, List.set_cons_succ]
      refine wpAnyH_take (i := 22) (oi := { dst := some 73, op := Go.Op.extract (Go.Operand.tmp 51) 0, type := 30, pos := "l17_grow.go:48", after := #[{ on := 21, ground := Go.Ground.data }], guard := none }) (v := ?_) rfl (by kernel_rfl) (by kernel_rfl) (by kernel_rfl) (HP _ _) (Or.inl ⟨by rfl, ?_⟩) (by assumption) ?_
      rotate_left
      · (intro w hSw; (try dsimp only at hSw); go_simp; try with_reducible rfl)
      try simp only [Act.put, List.setIfInBounds_toArray, List.set_cons_zero, List.set_cons_succ]
      refine wpAnyH_take (i := 23) (oi := { dst := some 74, op := Go.Op.extract (Go.Operand.tmp 51) 1, type := 4, pos := "l17_grow.go:48", after := #[{ on := 21, ground := Go.Ground.data }, { on := 24, ground := Go.Ground.gcOnly Go.Departure.lateStores }], guard := none }) (v := ?_) rfl (by kernel_rfl) (by kernel_rfl) (by kernel_rfl) (HP _ _) (Or.inl ⟨by rfl, ?_⟩) (by assumption) ?_
      rotate_left
      · (intro w hSw; (try dsimp only at hSw); go_simp; try with_reducible rfl)
      try simp only [Act.put, List.setIfInBounds_toArray, List.set_cons_zero, List.set_cons_succ]
      refine wpAnyH_ready (rs := [24]) (by kernel_rfl) (by simp) ?_
      refine AllReadyH.cons (o := { dst := none, op := Go.Op.store 30 (Go.Operand.tmp 7) (Go.Operand.tmp 73), type := 0, pos := "l17_grow.go:48", after := #[{ on := 22, ground := Go.Ground.data }, { on := 20, ground := Go.Ground.chain }, { on := 0, ground := Go.Ground.phase }, { on := 1, ground := Go.Ground.phase }, { on := 2, ground := Go.Ground.phase }, { on := 3, ground := Go.Ground.phase }, { on := 4, ground := Go.Ground.phase }, { on := 5, ground := Go.Ground.phase }, { on := 6, ground := Go.Ground.phase }, { on := 7, ground := Go.Ground.phase }, { on := 8, ground := Go.Ground.phase }, { on := 9, ground := Go.Ground.phase }, { on := 10, ground := Go.Ground.phase }, { on := 11, ground := Go.Ground.phase }, { on := 12, ground := Go.Ground.phase }, { on := 13, ground := Go.Ground.phase }, { on := 14, ground := Go.Ground.phase }, { on := 15, ground := Go.Ground.phase }, { on := 16, ground := Go.Ground.phase }, { on := 17, ground := Go.Ground.phase }, { on := 18, ground := Go.Ground.phase }, { on := 19, ground := Go.Ground.phase }, { on := 20, ground := Go.Ground.phase }, { on := 21, ground := Go.Ground.phase }, { on := 22, ground := Go.Ground.phase }, { on := 23, ground := Go.Ground.textOnly Go.Departure.lateStores }], guard := none }) rfl (fun K24 hK24 => ?_) AllReadyH.nil
      go_simp
      refine hK24.out _ _ ?_ (fun hHeld4 => ?_)
      · (try dsimp only); (first | go_keep | exact ⟨(row3_cells (hdw3.out.put o3).2.1).1.1, (row3_cells (hdw3.out.put o3).2.1).1.2.1⟩)
      clear hK24 K24 hHeld3
      try simp only [Act.put, List.setIfInBounds_toArray, List.set_cons_zero, List.set_cons_succ]
      refine wpAnyH_done (by kernel_rfl) ?_ _
      exact HQ.out _ _ _ _ _ _ _ _ _ _ _ _ _ _ _ _ _ _ _ _ _ _ _ _ _ (hdw3.out.put o3)

abbrev wallVR : Code := Go.Code.region 18 #[{ dst := some 113, op := Go.Op.load 30 (Go.Operand.tmp 7), type := 30, pos := "l17_grow.go:55", after := #[], guard := none }, { dst := some 114, op := Go.Op.fieldAddr 30 (Go.Operand.tmp 7) 0, type := 0, pos := "l17_grow.go:55", after := #[], guard := none }, { dst := some 115, op := Go.Op.load 25 (Go.Operand.tmp 114), type := 25, pos := "l17_grow.go:55", after := #[{ on := 1, ground := Go.Ground.data }], guard := none }, { dst := some 116, op := Go.Op.move (Go.Operand.tmp 2), type := 3, pos := "l17_grow.go:55", after := #[], guard := none }, { dst := some 117, op := Go.Op.move (Go.Operand.tmp 21), type := 3, pos := "l17_grow.go:55", after := #[], guard := none }, { dst := some 118, op := Go.Op.binOp Go.BinOp.add 3 (Go.Operand.tmp 116) (Go.Operand.tmp 117) 3, type := 3, pos := "l17_grow.go:55", after := #[{ on := 3, ground := Go.Ground.data }, { on := 4, ground := Go.Ground.data }], guard := none }, { dst := some 119, op := Go.Op.fieldAddr 30 (Go.Operand.tmp 7) 0, type := 0, pos := "l17_grow.go:55", after := #[], guard := none }, { dst := some 120, op := Go.Op.fieldAddr 25 (Go.Operand.tmp 119) 0, type := 0, pos := "l17_grow.go:55", after := #[{ on := 6, ground := Go.Ground.data }], guard := none }, { dst := some 121, op := Go.Op.load 3 (Go.Operand.tmp 120), type := 3, pos := "l17_grow.go:55", after := #[{ on := 7, ground := Go.Ground.data }], guard := none }, { dst := some 122, op := Go.Op.binOp Go.BinOp.mul 3 (Go.Operand.tmp 118) (Go.Operand.tmp 121) 3, type := 3, pos := "l17_grow.go:55", after := #[{ on := 5, ground := Go.Ground.data }, { on := 8, ground := Go.Ground.data }], guard := none }, { dst := some 123, op := Go.Op.move (Go.Operand.tmp 1), type := 3, pos := "l17_grow.go:55", after := #[], guard := none }, { dst := some 124, op := Go.Op.binOp Go.BinOp.add 3 (Go.Operand.tmp 122) (Go.Operand.tmp 123) 3, type := 3, pos := "l17_grow.go:55", after := #[{ on := 9, ground := Go.Ground.data }, { on := 10, ground := Go.Ground.data }], guard := none }, { dst := some 125, op := Go.Op.move (Go.Operand.tmp 20), type := 3, pos := "l17_grow.go:55", after := #[], guard := none }, { dst := some 126, op := Go.Op.binOp Go.BinOp.add 3 (Go.Operand.tmp 124) (Go.Operand.tmp 125) 3, type := 3, pos := "l17_grow.go:55", after := #[{ on := 11, ground := Go.Ground.data }, { on := 12, ground := Go.Ground.data }], guard := none }, { dst := some 127, op := Go.Op.call { callee := Go.Callee.value (Go.Operand.func 59), args := #[Go.Operand.tmp 115, Go.Operand.tmp 126, Go.Operand.const (Go.Value.int Go.IntKind.i64 1)], argTypes := #[25, 3, 3] }, type := 3, pos := "l17_grow.go:55", after := #[{ on := 2, ground := Go.Ground.data }, { on := 13, ground := Go.Ground.data }], guard := none }, { dst := some 128, op := Go.Op.move (Go.Operand.tmp 21), type := 3, pos := "l17_grow.go:55", after := #[], guard := none }, { dst := some 129, op := Go.Op.move (Go.Operand.tmp 17), type := 3, pos := "l17_grow.go:55", after := #[], guard := none }, { dst := some 130, op := Go.Op.move (Go.Operand.tmp 4), type := 3, pos := "l17_grow.go:55", after := #[], guard := none }, { dst := some 131, op := Go.Op.binOp Go.BinOp.rem 3 (Go.Operand.tmp 129) (Go.Operand.tmp 130) 3, type := 3, pos := "l17_grow.go:55", after := #[{ on := 16, ground := Go.Ground.data }, { on := 17, ground := Go.Ground.data }], guard := none }, { dst := some 132, op := Go.Op.binOp Go.BinOp.eql 3 (Go.Operand.tmp 128) (Go.Operand.tmp 131) 3, type := 4, pos := "l17_grow.go:55", after := #[{ on := 15, ground := Go.Ground.data }, { on := 18, ground := Go.Ground.data }], guard := none }, { dst := some 133, op := Go.Op.call { callee := Go.Callee.value (Go.Operand.func 39), args := #[Go.Operand.tmp 113, Go.Operand.tmp 127, Go.Operand.tmp 132], argTypes := #[30, 3, 4] }, type := 54, pos := "l17_grow.go:55", after := #[{ on := 0, ground := Go.Ground.data }, { on := 14, ground := Go.Ground.data }, { on := 19, ground := Go.Ground.data }, { on := 14, ground := Go.Ground.chain }], guard := none }, { dst := some 112, op := Go.Op.move (Go.Operand.tmp 133), type := 54, pos := "l17_grow.go:55", after := #[{ on := 20, ground := Go.Ground.data }], guard := none }, { dst := some 134, op := Go.Op.extract (Go.Operand.tmp 112) 0, type := 30, pos := "l17_grow.go:55", after := #[{ on := 21, ground := Go.Ground.data }], guard := none }, { dst := some 135, op := Go.Op.extract (Go.Operand.tmp 112) 1, type := 4, pos := "l17_grow.go:55", after := #[{ on := 21, ground := Go.Ground.data }, { on := 24, ground := Go.Ground.gcOnly Go.Departure.lateStores }], guard := none }, { dst := none, op := Go.Op.store 30 (Go.Operand.tmp 7) (Go.Operand.tmp 134), type := 0, pos := "l17_grow.go:55", after := #[{ on := 22, ground := Go.Ground.data }, { on := 20, ground := Go.Ground.chain }, { on := 0, ground := Go.Ground.phase }, { on := 1, ground := Go.Ground.phase }, { on := 2, ground := Go.Ground.phase }, { on := 3, ground := Go.Ground.phase }, { on := 4, ground := Go.Ground.phase }, { on := 5, ground := Go.Ground.phase }, { on := 6, ground := Go.Ground.phase }, { on := 7, ground := Go.Ground.phase }, { on := 8, ground := Go.Ground.phase }, { on := 9, ground := Go.Ground.phase }, { on := 10, ground := Go.Ground.phase }, { on := 11, ground := Go.Ground.phase }, { on := 12, ground := Go.Ground.phase }, { on := 13, ground := Go.Ground.phase }, { on := 14, ground := Go.Ground.phase }, { on := 15, ground := Go.Ground.phase }, { on := 16, ground := Go.Ground.phase }, { on := 17, ground := Go.Ground.phase }, { on := 18, ground := Go.Ground.phase }, { on := 19, ground := Go.Ground.phase }, { on := 20, ground := Go.Ground.phase }, { on := 21, ground := Go.Ground.phase }, { on := 22, ground := Go.Ground.phase }, { on := 23, ground := Go.Ground.textOnly Go.Departure.lateStores }], guard := none }] true
set_option maxRecDepth 100000 in
set_option maxHeartbeats 800000 in
/-- A round of a wall on the right. -/
theorem wallV_round (W w : World) (x y o o3 x0 y0 m r i vb p q g : Int) (bb sb : Bool) (A : Option Addr) (cs : List Int) (Q : Exit → Act → World → Prop) (u0 u3 u5 u6 u8 u9 u10 u11 u12 u13 u14 u15 u16 u18 u19 u22 u23 u24 u25 u26 u27 u28 u29 u30 u31 u32 u33 u34 u35 u36 u37 u38 u39 u40 u41 u42 u43 u44 u45 u46 u47 u48 u49 u50 u51 u52 u53 u54 u55 u56 u57 u58 u59 u60 u61 u62 u63 u64 u65 u66 u67 u68 u69 u70 u71 u72 u73 u74 u75 u76 u77 u78 u79 u80 u81 u82 u83 u84 u85 u86 u87 u88 u89 u90 u91 u92 u93 u94 u95 u96 u97 u98 u99 u100 u101 u102 u103 u104 u105 u106 u107 u108 u109 u110 u111 u112 u113 u114 u115 u116 u117 u118 u119 u120 u121 u122 u123 u124 u125 u126 u127 u128 u129 u130 u131 u132 u133 u134 u135 u136 u137 u138 u139 u140 u141 u142 u143 u144 u145 u146 u147 u148 u149 u150 u151 u152 u153 u154 u155 u156 u157 u158 u159 u160 u161 u162 u163 : Value) (hdw : DW W x y o A cs w)
    (h0 : 0 ≤ x0 ∧ x0 ≤ 4) (h1 : 0 ≤ y0 ∧ y0 ≤ 4) (h2 : 0 ≤ r ∧ r ≤ 4) (h3 : 0 ≤ i ∧ i ≤ 4) (h4 : 0 ≤ q ∧ q ≤ 16)
    (hs : IntKind.i64.wrap (y0 + i) = y0 + i) (hq : IntKind.i64.wrap ((y0 + i) * x) = q) (ha1 : IntKind.i64.wrap (q + x0) = q + x0) (ha2 : IntKind.i64.wrap (q + x0 + r) = q + x0 + r) (hm : ¬ m = 0) (hp : vb.tmod m = p) (hd : (i == p) = bb)
    (HG1 : Hid (∀ X, Calls Try.prog 59 #[.agg #[.int .i64 x, .int .i64 y], .int .i64 (q + x0 + r), .int .i64 1] X (Nm g X)))
    (HS1 : Hid (∀ X, Calls Try.prog 39 #[.agg #[.int .i64 x, .int .i64 y, .int .i64 o], .int .i64 g, .bool bb] X (MzB x y o3 sb X)))
    (HP : ∀ (d : Option Tmp) (v : Value) c a w, Q (.panic c) (a.put d v) w → Q (.panic c) a w)
    (HQ : Hid (∀ v112 v113 v114 v115 v116 v117 v118 v119 v120 v121 v122 v123 v124 v125 v126 v127 v128 v129 v130 v131 v132 v133 v134 v135 X, DW W x y o3 A cs X → Q .normal { tmps := #[u0, (.int .i64 x0), (.int .i64 y0), u3, (.int .i64 m), u5, u6, (.pointer (some ⟨W.heap.size, 0, none⟩)), u8, u9, u10, u11, u12, u13, u14, u15, u16, (.int .i64 vb), u18, u19, (.int .i64 r), (.int .i64 i), u22, u23, u24, u25, u26, u27, u28, u29, u30, u31, u32, u33, u34, u35, u36, u37, u38, u39, u40, u41, u42, u43, u44, u45, u46, u47, u48, u49, u50, u51, u52, u53, u54, u55, u56, u57, u58, u59, u60, u61, u62, u63, u64, u65, u66, u67, u68, u69, u70, u71, u72, u73, u74, u75, u76, u77, u78, u79, u80, u81, u82, u83, u84, u85, u86, u87, u88, u89, u90, u91, u92, u93, u94, u95, u96, u97, u98, u99, u100, u101, u102, u103, u104, u105, u106, u107, u108, u109, u110, u111, v112, v113, v114, v115, v116, v117, v118, v119, v120, v121, v122, v123, v124, v125, v126, v127, v128, v129, v130, v131, v132, v133, v134, v135, u136, u137, u138, u139, u140, u141, u142, u143, u144, u145, u146, u147, u148, u149, u150, u151, u152, u153, u154, u155, u156, u157, u158, u159, u160, u161, u162, u163], defers := [] } X)) :
    Code.wp Try.prog wallVR Q { tmps := #[u0, (.int .i64 x0), (.int .i64 y0), u3, (.int .i64 m), u5, u6, (.pointer (some ⟨W.heap.size, 0, none⟩)), u8, u9, u10, u11, u12, u13, u14, u15, u16, (.int .i64 vb), u18, u19, (.int .i64 r), (.int .i64 i), u22, u23, u24, u25, u26, u27, u28, u29, u30, u31, u32, u33, u34, u35, u36, u37, u38, u39, u40, u41, u42, u43, u44, u45, u46, u47, u48, u49, u50, u51, u52, u53, u54, u55, u56, u57, u58, u59, u60, u61, u62, u63, u64, u65, u66, u67, u68, u69, u70, u71, u72, u73, u74, u75, u76, u77, u78, u79, u80, u81, u82, u83, u84, u85, u86, u87, u88, u89, u90, u91, u92, u93, u94, u95, u96, u97, u98, u99, u100, u101, u102, u103, u104, u105, u106, u107, u108, u109, u110, u111, u112, u113, u114, u115, u116, u117, u118, u119, u120, u121, u122, u123, u124, u125, u126, u127, u128, u129, u130, u131, u132, u133, u134, u135, u136, u137, u138, u139, u140, u141, u142, u143, u144, u145, u146, u147, u148, u149, u150, u151, u152, u153, u154, u155, u156, u157, u158, u159, u160, u161, u162, u163], defers := [] } w := by
  have hdw' := Lib.hid hdw
  obtain ⟨⟨m0, m1, m2⟩, f0, f1, f2⟩ := row3_cells hdw.2.1
  clear hdw
  dsimp only [wallVR]
  try simp only [List.cons_append, List.nil_append, List.append_eq]
  refine wp_region_held_drew (S := (fun w' => w'.cell? ⟨W.heap.size, 0, none⟩ = some (.int .i64 x) ∧ w'.cell? ⟨W.heap.size, 1, none⟩ = some (.int .i64 y))) (by kernel_rfl) ?_ (fun hHeld0 => ?_)
  · (try dsimp only); (first | go_keep | exact ⟨(row3_cells (hdw3.out.put o3).2.1).1.1, (row3_cells (hdw3.out.put o3).2.1).1.2.1⟩)
  refine wpAnyH_take (i := 1) (oi := { dst := some 114, op := Go.Op.fieldAddr 30 (Go.Operand.tmp 7) 0, type := 0, pos := "l17_grow.go:55", after := #[], guard := none }) (v := ?_) rfl (by kernel_rfl) (by kernel_rfl) (by kernel_rfl) (HP _ _) (Or.inl ⟨by rfl, ?_⟩) (by assumption) ?_
  rotate_left
  · (intro w hSw; (try dsimp only at hSw); go_simp; try with_reducible rfl)
  try simp only [Act.put, List.setIfInBounds_toArray, List.set_cons_zero, List.set_cons_succ]
  refine wpAnyH_take (i := 2) (oi := { dst := some 115, op := Go.Op.load 25 (Go.Operand.tmp 114), type := 25, pos := "l17_grow.go:55", after := #[{ on := 1, ground := Go.Ground.data }], guard := none }) (v := ?_) rfl (by kernel_rfl) (by kernel_rfl) (by kernel_rfl) (HP _ _) (Or.inl ⟨by rfl, ?_⟩) (by assumption) ?_
  rotate_left
  · (intro w hSw; (try dsimp only at hSw); go_simp; try with_reducible rfl)
  try simp only [Act.put, List.setIfInBounds_toArray, List.set_cons_zero, List.set_cons_succ]
  refine wpAnyH_take (i := 3) (oi := { dst := some 116, op := Go.Op.move (Go.Operand.tmp 2), type := 3, pos := "l17_grow.go:55", after := #[], guard := none }) (v := ?_) rfl (by kernel_rfl) (by kernel_rfl) (by kernel_rfl) (HP _ _) (Or.inl ⟨by rfl, ?_⟩) (by assumption) ?_
  rotate_left
  · (intro w hSw; (try dsimp only at hSw); go_simp; try with_reducible rfl)
  try simp only [Act.put, List.setIfInBounds_toArray, List.set_cons_zero, List.set_cons_succ]
  refine wpAnyH_take (i := 4) (oi := { dst := some 117, op := Go.Op.move (Go.Operand.tmp 21), type := 3, pos := "l17_grow.go:55", after := #[], guard := none }) (v := ?_) rfl (by kernel_rfl) (by kernel_rfl) (by kernel_rfl) (HP _ _) (Or.inl ⟨by rfl, ?_⟩) (by assumption) ?_
  rotate_left
  · (intro w hSw; (try dsimp only at hSw); go_simp; try with_reducible rfl)
  try simp only [Act.put, List.setIfInBounds_toArray, List.set_cons_zero, List.set_cons_succ]
  refine wpAnyH_take (i := 5) (oi := { dst := some 118, op := Go.Op.binOp Go.BinOp.add 3 (Go.Operand.tmp 116) (Go.Operand.tmp 117) 3, type := 3, pos := "l17_grow.go:55", after := #[{ on := 3, ground := Go.Ground.data }, { on := 4, ground := Go.Ground.data }], guard := none }) (v := ?_) rfl (by kernel_rfl) (by kernel_rfl) (by kernel_rfl) (HP _ _) (Or.inl ⟨by rfl, ?_⟩) (by assumption) ?_
  rotate_left
  · (intro w hSw; (try dsimp only at hSw); go_simp; try with_reducible rfl)
  try simp only [Act.put, List.setIfInBounds_toArray, List.set_cons_zero, List.set_cons_succ]
  refine wpAnyH_take (i := 6) (oi := { dst := some 119, op := Go.Op.fieldAddr 30 (Go.Operand.tmp 7) 0, type := 0, pos := "l17_grow.go:55", after := #[], guard := none }) (v := ?_) rfl (by kernel_rfl) (by kernel_rfl) (by kernel_rfl) (HP _ _) (Or.inl ⟨by rfl, ?_⟩) (by assumption) ?_
  rotate_left
  · (intro w hSw; (try dsimp only at hSw); go_simp; try with_reducible rfl)
  try simp only [Act.put, List.setIfInBounds_toArray, List.set_cons_zero, List.set_cons_succ]
  refine wpAnyH_take (i := 7) (oi := { dst := some 120, op := Go.Op.fieldAddr 25 (Go.Operand.tmp 119) 0, type := 0, pos := "l17_grow.go:55", after := #[{ on := 6, ground := Go.Ground.data }], guard := none }) (v := ?_) rfl (by kernel_rfl) (by kernel_rfl) (by kernel_rfl) (HP _ _) (Or.inl ⟨by rfl, ?_⟩) (by assumption) ?_
  rotate_left
  · (intro w hSw; (try dsimp only at hSw); go_simp; try with_reducible rfl)
  try simp only [Act.put, List.setIfInBounds_toArray, List.set_cons_zero, List.set_cons_succ]
  refine wpAnyH_take (i := 8) (oi := { dst := some 121, op := Go.Op.load 3 (Go.Operand.tmp 120), type := 3, pos := "l17_grow.go:55", after := #[{ on := 7, ground := Go.Ground.data }], guard := none }) (v := ?_) rfl (by kernel_rfl) (by kernel_rfl) (by kernel_rfl) (HP _ _) (Or.inl ⟨by rfl, ?_⟩) (by assumption) ?_
  rotate_left
  · (intro w hSw; (try dsimp only at hSw); go_simp; try with_reducible rfl)
  try simp only [Act.put, List.setIfInBounds_toArray, List.set_cons_zero, List.set_cons_succ]
  refine wpAnyH_take (i := 9) (oi := { dst := some 122, op := Go.Op.binOp Go.BinOp.mul 3 (Go.Operand.tmp 118) (Go.Operand.tmp 121) 3, type := 3, pos := "l17_grow.go:55", after := #[{ on := 5, ground := Go.Ground.data }, { on := 8, ground := Go.Ground.data }], guard := none }) (v := ?_) rfl (by kernel_rfl) (by kernel_rfl) (by kernel_rfl) (HP _ _) (Or.inl ⟨by rfl, ?_⟩) (by assumption) ?_
  rotate_left
  · (intro w hSw; (try dsimp only at hSw); go_simp; try with_reducible rfl)
  try simp only [Act.put, List.setIfInBounds_toArray, List.set_cons_zero, List.set_cons_succ]
  refine wpAnyH_take (i := 10) (oi := { dst := some 123, op := Go.Op.move (Go.Operand.tmp 1), type := 3, pos := "l17_grow.go:55", after := #[], guard := none }) (v := ?_) rfl (by kernel_rfl) (by kernel_rfl) (by kernel_rfl) (HP _ _) (Or.inl ⟨by rfl, ?_⟩) (by assumption) ?_
  rotate_left
  · (intro w hSw; (try dsimp only at hSw); go_simp; try with_reducible rfl)
  try simp only [Act.put, List.setIfInBounds_toArray, List.set_cons_zero, List.set_cons_succ]
  refine wpAnyH_take (i := 11) (oi := { dst := some 124, op := Go.Op.binOp Go.BinOp.add 3 (Go.Operand.tmp 122) (Go.Operand.tmp 123) 3, type := 3, pos := "l17_grow.go:55", after := #[{ on := 9, ground := Go.Ground.data }, { on := 10, ground := Go.Ground.data }], guard := none }) (v := ?_) rfl (by kernel_rfl) (by kernel_rfl) (by kernel_rfl) (HP _ _) (Or.inl ⟨by rfl, ?_⟩) (by assumption) ?_
  rotate_left
  · (intro w hSw; (try dsimp only at hSw); go_simp; try with_reducible rfl)
  try simp only [Act.put, List.setIfInBounds_toArray, List.set_cons_zero, List.set_cons_succ]
  refine wpAnyH_take (i := 12) (oi := { dst := some 125, op := Go.Op.move (Go.Operand.tmp 20), type := 3, pos := "l17_grow.go:55", after := #[], guard := none }) (v := ?_) rfl (by kernel_rfl) (by kernel_rfl) (by kernel_rfl) (HP _ _) (Or.inl ⟨by rfl, ?_⟩) (by assumption) ?_
  rotate_left
  · (intro w hSw; (try dsimp only at hSw); go_simp; try with_reducible rfl)
  try simp only [Act.put, List.setIfInBounds_toArray, List.set_cons_zero, List.set_cons_succ]
  refine wpAnyH_take (i := 13) (oi := { dst := some 126, op := Go.Op.binOp Go.BinOp.add 3 (Go.Operand.tmp 124) (Go.Operand.tmp 125) 3, type := 3, pos := "l17_grow.go:55", after := #[{ on := 11, ground := Go.Ground.data }, { on := 12, ground := Go.Ground.data }], guard := none }) (v := ?_) rfl (by kernel_rfl) (by kernel_rfl) (by kernel_rfl) (HP _ _) (Or.inl ⟨by rfl, ?_⟩) (by assumption) ?_
  rotate_left
  · (intro w hSw; (try dsimp only at hSw); go_simp; try with_reducible rfl)
  try simp only [Act.put, List.setIfInBounds_toArray, List.set_cons_zero, List.set_cons_succ]
  refine wpAnyH_take (i := 15) (oi := { dst := some 128, op := Go.Op.move (Go.Operand.tmp 21), type := 3, pos := "l17_grow.go:55", after := #[], guard := none }) (v := ?_) rfl (by kernel_rfl) (by kernel_rfl) (by kernel_rfl) (HP _ _) (Or.inl ⟨by rfl, ?_⟩) (by assumption) ?_
  rotate_left
  · (intro w hSw; (try dsimp only at hSw); go_simp; try with_reducible rfl)
  try simp only [Act.put, List.setIfInBounds_toArray, List.set_cons_zero, List.set_cons_succ]
  refine wpAnyH_take (i := 16) (oi := { dst := some 129, op := Go.Op.move (Go.Operand.tmp 17), type := 3, pos := "l17_grow.go:55", after := #[], guard := none }) (v := ?_) rfl (by kernel_rfl) (by kernel_rfl) (by kernel_rfl) (HP _ _) (Or.inl ⟨by rfl, ?_⟩) (by assumption) ?_
  rotate_left
  · (intro w hSw; (try dsimp only at hSw); go_simp; try with_reducible rfl)
  try simp only [Act.put, List.setIfInBounds_toArray, List.set_cons_zero, List.set_cons_succ]
  refine wpAnyH_take (i := 17) (oi := { dst := some 130, op := Go.Op.move (Go.Operand.tmp 4), type := 3, pos := "l17_grow.go:55", after := #[], guard := none }) (v := ?_) rfl (by kernel_rfl) (by kernel_rfl) (by kernel_rfl) (HP _ _) (Or.inl ⟨by rfl, ?_⟩) (by assumption) ?_
  rotate_left
  · (intro w hSw; (try dsimp only at hSw); go_simp; try with_reducible rfl)
  try simp only [Act.put, List.setIfInBounds_toArray, List.set_cons_zero, List.set_cons_succ]
  refine wpAnyH_take (i := 18) (oi := { dst := some 131, op := Go.Op.binOp Go.BinOp.rem 3 (Go.Operand.tmp 129) (Go.Operand.tmp 130) 3, type := 3, pos := "l17_grow.go:55", after := #[{ on := 16, ground := Go.Ground.data }, { on := 17, ground := Go.Ground.data }], guard := none }) (v := ?_) rfl (by kernel_rfl) (by kernel_rfl) (by kernel_rfl) (HP _ _) (Or.inl ⟨by rfl, ?_⟩) (by assumption) ?_
  rotate_left
  · (intro w hSw; (try dsimp only at hSw); go_simp; try with_reducible rfl)
  try simp only [Act.put, List.setIfInBounds_toArray, List.set_cons_zero, List.set_cons_succ]
  refine wpAnyH_take (i := 19) (oi := { dst := some 132, op := Go.Op.binOp Go.BinOp.eql 3 (Go.Operand.tmp 128) (Go.Operand.tmp 131) 3, type := 4, pos := "l17_grow.go:55", after := #[{ on := 15, ground := Go.Ground.data }, { on := 18, ground := Go.Ground.data }], guard := none }) (v := ?_) rfl (by kernel_rfl) (by kernel_rfl) (by kernel_rfl) (HP _ _) (Or.inl ⟨by rfl, ?_⟩) (by assumption) ?_
  rotate_left
  · (intro w hSw; (try dsimp only at hSw); go_simp; try with_reducible rfl)
  try simp only [Act.put, List.setIfInBounds_toArray, List.set_cons_zero, List.set_cons_succ]
  refine wpAnyH_ready (rs := [0, 14]) (by kernel_rfl) (by simp) ?_
  refine (AllReadyH.cons (o := { dst := some 113, op := Go.Op.load 30 (Go.Operand.tmp 7), type := 30, pos := "l17_grow.go:55", after := #[], guard := none }) rfl (fun K0 hK0 => ?_) (AllReadyH.cons (o := { dst := some 127, op := Go.Op.call { callee := Go.Callee.value (Go.Operand.func 59), args := #[Go.Operand.tmp 115, Go.Operand.tmp 126, Go.Operand.const (Go.Value.int Go.IntKind.i64 1)], argTypes := #[25, 3, 3] }, type := 3, pos := "l17_grow.go:55", after := #[{ on := 2, ground := Go.Ground.data }, { on := 13, ground := Go.Ground.data }], guard := none }) rfl (fun K14 hK14 => ?_) AllReadyH.nil))
  · as_aux_lemma =>
      go_simp
      refine hK0.out _ _ ?_ (fun hHeld1 => ?_)
      · (try dsimp only); (first | go_keep | exact ⟨(row3_cells (hdw3.out.put o3).2.1).1.1, (row3_cells (hdw3.out.put o3).2.1).1.2.1⟩)
      clear hK0 K0 hHeld0
      try simp only [Act.put, List.setIfInBounds_toArray, List.set_cons_zero, List.set_cons_succ]
      refine wpAnyH_ready (rs := [14]) (by kernel_rfl) (by simp) ?_
      refine AllReadyH.cons (o := { dst := some 127, op := Go.Op.call { callee := Go.Callee.value (Go.Operand.func 59), args := #[Go.Operand.tmp 115, Go.Operand.tmp 126, Go.Operand.const (Go.Value.int Go.IntKind.i64 1)], argTypes := #[25, 3, 3] }, type := 3, pos := "l17_grow.go:55", after := #[{ on := 2, ground := Go.Ground.data }, { on := 13, ground := Go.Ground.data }], guard := none }) rfl (fun K14 hK14 => ?_) AllReadyH.nil
      go_simp
      (refine (HG1.out _).mono ?_; rintro e v1 ⟨rfl, hb1⟩; have hdw2 := Lib.hid (hdw'.out.dr.call hb1); obtain ⟨⟨p1, q1, r1⟩, -⟩ := row3_cells hdw2.out.2.1)
      go_wp2_with fail
      refine hK14.out _ _ ?_ (fun hHeld2 => ?_)
      · (try dsimp only); (first | go_keep | exact ⟨(row3_cells (hdw3.out.put o3).2.1).1.1, (row3_cells (hdw3.out.put o3).2.1).1.2.1⟩)
      clear hK14 K14 hHeld1
      try simp only [Act.put, List.setIfInBounds_toArray, List.set_cons_zero, List.set_cons_succ]
      refine wpAnyH_ready (rs := [20]) (by kernel_rfl) (by simp) ?_
      refine AllReadyH.cons (o := { dst := some 133, op := Go.Op.call { callee := Go.Callee.value (Go.Operand.func 39), args := #[Go.Operand.tmp 113, Go.Operand.tmp 127, Go.Operand.tmp 132], argTypes := #[30, 3, 4] }, type := 54, pos := "l17_grow.go:55", after := #[{ on := 0, ground := Go.Ground.data }, { on := 14, ground := Go.Ground.data }, { on := 19, ground := Go.Ground.data }, { on := 14, ground := Go.Ground.chain }], guard := none }) rfl (fun K20 hK20 => ?_) AllReadyH.nil
      go_simp
      (refine (HS1.out _).mono ?_; rintro e v2 ⟨rfl, hb2⟩; have hdw3 := Lib.hid (hdw2.out.call hb2); obtain ⟨⟨p2, q2, r2⟩, t0, t1, t2⟩ := row3_cells hdw3.out.2.1)
      go_wp2_with fail
      refine hK20.out _ _ ?_ (fun hHeld3 => ?_)
      · (try dsimp only); (first | go_keep | exact ⟨(row3_cells (hdw3.out.put o3).2.1).1.1, (row3_cells (hdw3.out.put o3).2.1).1.2.1⟩)
      clear hK20 K20 hHeld2
      try simp only [Act.put, List.setIfInBounds_toArray, List.set_cons_zero, List.set_cons_succ]
      refine wpAnyH_take (i := 21) (oi := { dst := some 112, op := Go.Op.move (Go.Operand.tmp 133), type := 54, pos := "l17_grow.go:55", after := #[{ on := 20, ground := Go.Ground.data }], guard := none }) (v := ?_) rfl (by kernel_rfl) (by kernel_rfl) (by kernel_rfl) (HP _ _) (Or.inl ⟨by rfl, ?_⟩) (by assumption) ?_
      rotate_left
      · (intro w hSw; (try dsimp only at hSw); go_simp; try with_reducible rfl)
      try simp only [Act.put, List.setIfInBounds_toArray, List.set_cons_zero, List.set_cons_succ]
      refine wpAnyH_take (i := 22) (oi := { dst := some 134, op := Go.Op.extract (Go.Operand.tmp 112) 0, type := 30, pos := "l17_grow.go:55", after := #[{ on := 21, ground := Go.Ground.data }], guard := none }) (v := ?_) rfl (by kernel_rfl) (by kernel_rfl) (by kernel_rfl) (HP _ _) (Or.inl ⟨by rfl, ?_⟩) (by assumption) ?_
      rotate_left
      · (intro w hSw; (try dsimp only at hSw); go_simp; try with_reducible rfl)
      try simp only [Act.put, List.setIfInBounds_toArray, List.set_cons_zero, List.set_cons_succ]
      refine wpAnyH_take (i := 23) (oi := { dst := some 135, op := Go.Op.extract (Go.Operand.tmp 112) 1, type := 4, pos := "l17_grow.go:55", after := #[{ on := 21, ground := Go.Ground.data }, { on := 24, ground := Go.Ground.gcOnly Go.Departure.lateStores }], guard := none }) (v := ?_) rfl (by kernel_rfl) (by kernel_rfl) (by kernel_rfl) (HP _ _) (Or.inl ⟨by rfl, ?_⟩) (by assumption) ?_
      rotate_left
      · (intro w hSw; (try dsimp only at hSw); go_simp; try with_reducible rfl)
      try simp only [Act.put, List.setIfInBounds_toArray, List.set_cons_zero, List.set_cons_succ]
      refine wpAnyH_ready (rs := [24]) (by kernel_rfl) (by simp) ?_
      refine AllReadyH.cons (o := { dst := none, op := Go.Op.store 30 (Go.Operand.tmp 7) (Go.Operand.tmp 134), type := 0, pos := "l17_grow.go:55", after := #[{ on := 22, ground := Go.Ground.data }, { on := 20, ground := Go.Ground.chain }, { on := 0, ground := Go.Ground.phase }, { on := 1, ground := Go.Ground.phase }, { on := 2, ground := Go.Ground.phase }, { on := 3, ground := Go.Ground.phase }, { on := 4, ground := Go.Ground.phase }, { on := 5, ground := Go.Ground.phase }, { on := 6, ground := Go.Ground.phase }, { on := 7, ground := Go.Ground.phase }, { on := 8, ground := Go.Ground.phase }, { on := 9, ground := Go.Ground.phase }, { on := 10, ground := Go.Ground.phase }, { on := 11, ground := Go.Ground.phase }, { on := 12, ground := Go.Ground.phase }, { on := 13, ground := Go.Ground.phase }, { on := 14, ground := Go.Ground.phase }, { on := 15, ground := Go.Ground.phase }, { on := 16, ground := Go.Ground.phase }, { on := 17, ground := Go.Ground.phase }, { on := 18, ground := Go.Ground.phase }, { on := 19, ground := Go.Ground.phase }, { on := 20, ground := Go.Ground.phase }, { on := 21, ground := Go.Ground.phase }, { on := 22, ground := Go.Ground.phase }, { on := 23, ground := Go.Ground.textOnly Go.Departure.lateStores }], guard := none }) rfl (fun K24 hK24 => ?_) AllReadyH.nil
      go_simp
      refine hK24.out _ _ ?_ (fun hHeld4 => ?_)
      · (try dsimp only); (first | go_keep | exact ⟨(row3_cells (hdw3.out.put o3).2.1).1.1, (row3_cells (hdw3.out.put o3).2.1).1.2.1⟩)
      clear hK24 K24 hHeld3
      try simp only [Act.put, List.setIfInBounds_toArray, List.set_cons_zero, List.set_cons_succ]
      refine wpAnyH_done (by kernel_rfl) ?_ _
      exact HQ.out _ _ _ _ _ _ _ _ _ _ _ _ _ _ _ _ _ _ _ _ _ _ _ _ _ (hdw3.out.put o3)
  · as_aux_lemma =>
      go_simp
      (refine (HG1.out _).mono ?_; rintro e v1 ⟨rfl, hb1⟩; have hdw2 := Lib.hid (hdw'.out.dr.call hb1); obtain ⟨⟨p1, q1, r1⟩, -⟩ := row3_cells hdw2.out.2.1)
      go_wp2_with fail
      refine hK14.out _ _ ?_ (fun hHeld1 => ?_)
      · (try dsimp only); (first | go_keep | exact ⟨(row3_cells (hdw3.out.put o3).2.1).1.1, (row3_cells (hdw3.out.put o3).2.1).1.2.1⟩)
      clear hK14 K14 hHeld0
      try simp only [Act.put, List.setIfInBounds_toArray, List.set_cons_zero, List.set_cons_succ]
      refine wpAnyH_ready (rs := [0]) (by kernel_rfl) (by simp) ?_
      refine AllReadyH.cons (o := { dst := some 113, op := Go.Op.load 30 (Go.Operand.tmp 7), type := 30, pos := "l17_grow.go:55", after := #[], guard := none }) rfl (fun K0 hK0 => ?_) AllReadyH.nil
      go_simp
      refine hK0.out _ _ ?_ (fun hHeld2 => ?_)
      · (try dsimp only); (first | go_keep | exact ⟨(row3_cells (hdw3.out.put o3).2.1).1.1, (row3_cells (hdw3.out.put o3).2.1).1.2.1⟩)
      clear hK0 K0 hHeld1
      try simp only [Act.put, List.setIfInBounds_toArray, List.set_cons_zero, List.set_cons_succ]
      refine wpAnyH_ready (rs := [20]) (by kernel_rfl) (by simp) ?_
      refine AllReadyH.cons (o := { dst := some 133, op := Go.Op.call { callee := Go.Callee.value (Go.Operand.func 39), args := #[Go.Operand.tmp 113, Go.Operand.tmp 127, Go.Operand.tmp 132], argTypes := #[30, 3, 4] }, type := 54, pos := "l17_grow.go:55", after := #[{ on := 0, ground := Go.Ground.data }, { on := 14, ground := Go.Ground.data }, { on := 19, ground := Go.Ground.data }, { on := 14, ground := Go.Ground.chain }], guard := none }) rfl (fun K20 hK20 => ?_) AllReadyH.nil
      go_simp
      (refine (HS1.out _).mono ?_; rintro e v2 ⟨rfl, hb2⟩; have hdw3 := Lib.hid (hdw2.out.call hb2); obtain ⟨⟨p2, q2, r2⟩, t0, t1, t2⟩ := row3_cells hdw3.out.2.1)
      go_wp2_with fail
      refine hK20.out _ _ ?_ (fun hHeld3 => ?_)
      · (try dsimp only); (first | go_keep | exact ⟨(row3_cells (hdw3.out.put o3).2.1).1.1, (row3_cells (hdw3.out.put o3).2.1).1.2.1⟩)
      clear hK20 K20 hHeld2
      try simp only [Act.put, List.setIfInBounds_toArray, List.set_cons_zero, List.set_cons_succ]
      refine wpAnyH_take (i := 21) (oi := { dst := some 112, op := Go.Op.move (Go.Operand.tmp 133), type := 54, pos := "l17_grow.go:55", after := #[{ on := 20, ground := Go.Ground.data }], guard := none }) (v := ?_) rfl (by kernel_rfl) (by kernel_rfl) (by kernel_rfl) (HP _ _) (Or.inl ⟨by rfl, ?_⟩) (by assumption) ?_
      rotate_left
      · (intro w hSw; (try dsimp only at hSw); go_simp; try with_reducible rfl)
      try simp only [Act.put, List.setIfInBounds_toArray, List.set_cons_zero, List.set_cons_succ]
      refine wpAnyH_take (i := 22) (oi := { dst := some 134, op := Go.Op.extract (Go.Operand.tmp 112) 0, type := 30, pos := "l17_grow.go:55", after := #[{ on := 21, ground := Go.Ground.data }], guard := none }) (v := ?_) rfl (by kernel_rfl) (by kernel_rfl) (by kernel_rfl) (HP _ _) (Or.inl ⟨by rfl, ?_⟩) (by assumption) ?_
      rotate_left
      · (intro w hSw; (try dsimp only at hSw); go_simp; try with_reducible rfl)
      try simp only [Act.put, List.setIfInBounds_toArray, List.set_cons_zero, List.set_cons_succ]
      refine wpAnyH_take (i := 23) (oi := { dst := some 135, op := Go.Op.extract (Go.Operand.tmp 112) 1, type := 4, pos := "l17_grow.go:55", after := #[{ on := 21, ground := Go.Ground.data }, { on := 24, ground := Go.Ground.gcOnly Go.Departure.lateStores }], guard := none }) (v := ?_) rfl (by kernel_rfl) (by kernel_rfl) (by kernel_rfl) (HP _ _) (Or.inl ⟨by rfl, ?_⟩) (by assumption) ?_
      rotate_left
      · (intro w hSw; (try dsimp only at hSw); go_simp; try with_reducible rfl)
      try simp only [Act.put, List.setIfInBounds_toArray, List.set_cons_zero, List.set_cons_succ]
      refine wpAnyH_ready (rs := [24]) (by kernel_rfl) (by simp) ?_
      refine AllReadyH.cons (o := { dst := none, op := Go.Op.store 30 (Go.Operand.tmp 7) (Go.Operand.tmp 134), type := 0, pos := "l17_grow.go:55", after := #[{ on := 22, ground := Go.Ground.data }, { on := 20, ground := Go.Ground.chain }, { on := 0, ground := Go.Ground.phase }, { on := 1, ground := Go.Ground.phase }, { on := 2, ground := Go.Ground.phase }, { on := 3, ground := Go.Ground.phase }, { on := 4, ground := Go.Ground.phase }, { on := 5, ground := Go.Ground.phase }, { on := 6, ground := Go.Ground.phase }, { on := 7, ground := Go.Ground.phase }, { on := 8, ground := Go.Ground.phase }, { on := 9, ground := Go.Ground.phase }, { on := 10, ground := Go.Ground.phase }, { on := 11, ground := Go.Ground.phase }, { on := 12, ground := Go.Ground.phase }, { on := 13, ground := Go.Ground.phase }, { on := 14, ground := Go.Ground.phase }, { on := 15, ground := Go.Ground.phase }, { on := 16, ground := Go.Ground.phase }, { on := 17, ground := Go.Ground.phase }, { on := 18, ground := Go.Ground.phase }, { on := 19, ground := Go.Ground.phase }, { on := 20, ground := Go.Ground.phase }, { on := 21, ground := Go.Ground.phase }, { on := 22, ground := Go.Ground.phase }, { on := 23, ground := Go.Ground.textOnly Go.Departure.lateStores }], guard := none }) rfl (fun K24 hK24 => ?_) AllReadyH.nil
      go_simp
      refine hK24.out _ _ ?_ (fun hHeld4 => ?_)
      · (try dsimp only); (first | go_keep | exact ⟨(row3_cells (hdw3.out.put o3).2.1).1.1, (row3_cells (hdw3.out.put o3).2.1).1.2.1⟩)
      clear hK24 K24 hHeld3
      try simp only [Act.put, List.setIfInBounds_toArray, List.set_cons_zero, List.set_cons_succ]
      refine wpAnyH_done (by kernel_rfl) ?_ _
      exact HQ.out _ _ _ _ _ _ _ _ _ _ _ _ _ _ _ _ _ _ _ _ _ _ _ _ _ (hdw3.out.put o3)

end Go.Proofs.Ythakbjdkcdppjaa.grwN
