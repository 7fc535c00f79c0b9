/- The contract of the program's filling of dead ends. -/
import Derived.Test.YtcoikcnijaniaaaDeadI
import Derived.Test.YtcoikcnijaniaaaDeadN1
import Derived.Test.YtcoikcnijaniaaaRchI
import Derived.Test.YtcoikcnijaniaaaHasC
namespace Go.Proofs.Ytcoikcnijaniaaa.deadJ
open Go.ChangeShapes Go.WideShapes Go.ChangeAt Go.RowKit
open draw gridP gridC gridE bitP mazeP mazeC mazeM mazeR mazeI intsP reachP reachM reachN reachD intA listK forest deadP deadR setI deadI
open deadN (FW FW.call FW.dr FW.put fw_new fw_end msr msr_is row3_set row3_far)
open deadM (FQ fq_start)
set_option linter.unusedVariables false

/-- What stands while dead ends are filled: and the set of what is kept. -/
def FS (W : World) (x y z : Int) (A : Option Addr) (K : List Int) (b n : Nat) (X : World) : Prop := FW W x y z A K X ∧ SetR b n K X
theorem FS.call {W X X' : World} {x y z : Int} {A : Option Addr} {K : List Int} {b n : Nat} (h : FS W x y z A K b n X) (hb : Below X.heap.size X X') : FS W x y z A K b n X' := ⟨h.1.call hb, h.2.call hb⟩
theorem FS.dr {W X : World} {x y z : Int} {A : Option Addr} {K : List Int} {b n : Nat} (h : FS W x y z A K b n X) : FS W x y z A K b n X.drew := h.call ⟨rfl, rfl, rfl, Nat.le_refl _, fun _ _ => rfl⟩
theorem set_far {b n : Nat} {K : List Int} {X : World} (h : SetR b n K X) {p : Addr} (hp : p.block ≠ b) (u : Value) : SetR b n K (X.setCell p u) := by
  obtain ⟨es, clock, hb, F, hs, hD⟩ := h
  exact ⟨es, clock, (Below.heap_setCell X p u b (fun e => hp e.symm)).trans hb, F, hs, hD⟩
theorem set_row {b b' n : Nat} {K : List Int} {x y z : Int} {X : World} (h : SetR b n K X) (hr : Row3 b' x y z X) : b' ≠ b := by
  rintro rfl
  obtain ⟨es, clock, hb, -⟩ := h
  obtain ⟨T, hr⟩ := hr
  rw [hb] at hr; cases hr
theorem FS.put {W X : World} {x y z : Int} {A : Option Addr} {K : List Int} {b n : Nat} (h : FS W x y z A K b n X) (z' : Int) :
    FS W x y z' A K b n (((X.setCell ⟨W.heap.size, 0, none⟩ (.int .i64 x)).setCell ⟨W.heap.size, 1, none⟩ (.int .i64 y)).setCell ⟨W.heap.size, 2, none⟩ (.int .i64 z')) := by
  have hne := set_row h.2 h.1.2.1
  exact ⟨h.1.put z', set_far (set_far (set_far h.2 hne _) hne _) hne _⟩

abbrev fillC : Code := Go.Code.region 8 #[{ dst := some 35, op := Go.Op.load 27 (Go.Operand.tmp 2), type := 27, pos := "l07_dead.go:57", after := #[], guard := none }, { dst := some 36, op := Go.Op.fieldAddr 27 (Go.Operand.tmp 2) 0, type := 0, pos := "l07_dead.go:57", after := #[], guard := none }, { dst := some 37, op := Go.Op.load 25 (Go.Operand.tmp 36), type := 25, pos := "l07_dead.go:57", after := #[{ on := 1, ground := Go.Ground.data }], guard := none }, { dst := some 38, op := Go.Op.move (Go.Operand.tmp 6), type := 3, pos := "l07_dead.go:57", after := #[], guard := none }, { dst := some 39, op := Go.Op.move (Go.Operand.tmp 7), type := 3, pos := "l07_dead.go:57", after := #[], guard := none }, { dst := some 40, op := Go.Op.call { callee := Go.Callee.value (Go.Operand.func 47), args := #[Go.Operand.tmp 37, Go.Operand.tmp 38, Go.Operand.tmp 39], argTypes := #[25, 3, 3] }, type := 3, pos := "l07_dead.go:57", after := #[{ on := 2, ground := Go.Ground.data }, { on := 3, ground := Go.Ground.data }, { on := 4, ground := Go.Ground.data }], guard := none }, { dst := some 41, op := Go.Op.call { callee := Go.Callee.value (Go.Operand.func 46), args := #[Go.Operand.tmp 35, Go.Operand.tmp 40, Go.Operand.const (Go.Value.bool false)], argTypes := #[27, 3, 4] }, type := 40, pos := "l07_dead.go:57", after := #[{ on := 0, ground := Go.Ground.data }, { on := 5, ground := Go.Ground.data }, { on := 5, ground := Go.Ground.chain }], guard := none }, { dst := some 34, op := Go.Op.move (Go.Operand.tmp 41), type := 40, pos := "l07_dead.go:57", after := #[{ on := 6, ground := Go.Ground.data }], guard := none }, { dst := some 42, op := Go.Op.extract (Go.Operand.tmp 34) 0, type := 27, pos := "l07_dead.go:57", after := #[{ on := 7, ground := Go.Ground.data }], guard := none }, { dst := some 43, op := Go.Op.extract (Go.Operand.tmp 34) 1, type := 4, pos := "l07_dead.go:57", after := #[{ on := 7, ground := Go.Ground.data }, { on := 10, ground := Go.Ground.gcOnly Go.Departure.lateStores }], guard := none }, { dst := none, op := Go.Op.store 27 (Go.Operand.tmp 2) (Go.Operand.tmp 42), type := 0, pos := "l07_dead.go:57", after := #[{ on := 8, ground := Go.Ground.data }, { on := 6, ground := Go.Ground.chain }, { on := 0, ground := Go.Ground.phase }, { on := 1, ground := Go.Ground.phase }, { on := 2, ground := Go.Ground.phase }, { on := 3, ground := Go.Ground.phase }, { on := 4, ground := Go.Ground.phase }, { on := 5, ground := Go.Ground.phase }, { on := 6, ground := Go.Ground.phase }, { on := 7, ground := Go.Ground.phase }, { on := 8, ground := Go.Ground.phase }, { on := 9, ground := Go.Ground.textOnly Go.Departure.lateStores }], guard := none }] true
set_option maxRecDepth 100000 in
set_option maxHeartbeats 4000000 in
/-- A dead end is filled. -/
theorem fill_roundI (W w : World) (x y : Int) (o o2 c q : Nat) (g : Int) (sb : Bool) (A : Option Addr) (K : List Int) (b n : Nat) (Q : Exit → Act → World → Prop) (u0 u1 u3 u4 u5 u8 u9 u10 u11 u12 u13 u14 u15 u16 u17 u18 u19 u20 u21 u22 u23 u24 u25 u26 u27 u28 u29 u30 u31 u32 u33 u34 u35 u36 u37 u38 u39 u40 u41 u42 u43 u44 : Value) (hfw : FS W x y o A K b n w)
    (HG1 : Hid (∀ X, Calls Try.prog 47 #[.agg #[.int .i64 x, .int .i64 y], .int .i64 c, .int .i64 q] X (Nm g X)))
    (HS1 : Hid (∀ X, Calls Try.prog 46 #[.agg #[.int .i64 x, .int .i64 y, .int .i64 o], .int .i64 g, .bool false] X (MzB x y o2 sb X)))
    (HP : ∀ (d : Option Tmp) (v : Value) c a w, Q (.panic c) (a.put d v) w → Q (.panic c) a w)
    (HQ : Hid (∀ v34 v35 v36 v37 v38 v39 v40 v41 v42 v43 X, FS W x y o2 A K b n X → Q .normal { tmps := #[u0, u1, (.pointer (some ⟨W.heap.size, 0, none⟩)), u3, u4, u5, (.int .i64 (c : Int)), (.int .i64 (q : Int)), u8, u9, u10, u11, u12, u13, u14, u15, u16, u17, u18, u19, u20, u21, u22, u23, u24, u25, u26, u27, u28, u29, u30, u31, u32, u33, v34, v35, v36, v37, v38, v39, v40, v41, v42, v43, u44], defers := [] } X)) :
    Code.wp Try.prog fillC Q { tmps := #[u0, u1, (.pointer (some ⟨W.heap.size, 0, none⟩)), u3, u4, u5, (.int .i64 (c : Int)), (.int .i64 (q : Int)), u8, u9, u10, u11, u12, u13, u14, u15, u16, u17, u18, u19, u20, u21, u22, u23, u24, u25, u26, u27, u28, u29, u30, u31, u32, u33, u34, u35, u36, u37, u38, u39, u40, u41, u42, u43, u44], defers := [] } w := by
  have hfw' := Lib.hid hfw
  obtain ⟨⟨m0, m1, m2⟩, f0, f1, f2⟩ := row3_cells hfw.1.2.1
  clear hfw
  dsimp only [fillC]
  try simp only [List.cons_append, List.nil_append, List.append_eq]
  refine wp_region_held_drew (S := (fun w' => w'.cell? ⟨W.heap.size, 0, none⟩ = some (.int .i64 x) ∧ w'.cell? ⟨W.heap.size, 1, none⟩ = some (.int .i64 y))) (by kernel_rfl) ?_ (fun hHeld0 => ?_)
  · (try dsimp only); (first | go_keep | exact ⟨(row3_cells (hw4.out.put (o2 : Int)).1.2.1).1.1, (row3_cells (hw4.out.put (o2 : Int)).1.2.1).1.2.1⟩)
  refine wpAnyH_take (i := 1) (oi := { dst := some 36, op := Go.Op.fieldAddr 27 (Go.Operand.tmp 2) 0, type := 0, pos := "l07_dead.go:57", after := #[], guard := none }) (v := ?_) rfl (by kernel_rfl) (by kernel_rfl) (by kernel_rfl) (HP _ _) (Or.inl ⟨by rfl, ?_⟩) (by assumption) ?_
  rotate_left
  · (intro w hSw; (try dsimp only at hSw); go_simp; try with_reducible rfl)
  try simp only [Act.put, List.setIfInBounds_toArray, List.set_cons_zero, List.set_cons_succ]
  refine wpAnyH_take (i := 2) (oi := { dst := some 37, op := Go.Op.load 25 (Go.Operand.tmp 36), type := 25, pos := "l07_dead.go:57", after := #[{ on := 1, ground := Go.Ground.data }], guard := none }) (v := ?_) rfl (by kernel_rfl) (by kernel_rfl) (by kernel_rfl) (HP _ _) (Or.inl ⟨by rfl, ?_⟩) (by assumption) ?_
  rotate_left
  · (intro w hSw; (try dsimp only at hSw); go_simp; try with_reducible rfl)
  try simp only [Act.put, List.setIfInBounds_toArray, List.set_cons_zero, List.set_cons_succ]
  refine wpAnyH_take (i := 3) (oi := { dst := some 38, op := Go.Op.move (Go.Operand.tmp 6), type := 3, pos := "l07_dead.go:57", after := #[], guard := none }) (v := ?_) rfl (by kernel_rfl) (by kernel_rfl) (by kernel_rfl) (HP _ _) (Or.inl ⟨by rfl, ?_⟩) (by assumption) ?_
  rotate_left
  · (intro w hSw; (try dsimp only at hSw); go_simp; try with_reducible rfl)
  try simp only [Act.put, List.setIfInBounds_toArray, List.set_cons_zero, List.set_cons_succ]
  refine wpAnyH_take (i := 4) (oi := { dst := some 39, op := Go.Op.move (Go.Operand.tmp 7), type := 3, pos := "l07_dead.go:57", after := #[], guard := none }) (v := ?_) rfl (by kernel_rfl) (by kernel_rfl) (by kernel_rfl) (HP _ _) (Or.inl ⟨by rfl, ?_⟩) (by assumption) ?_
  rotate_left
  · (intro w hSw; (try dsimp only at hSw); go_simp; try with_reducible rfl)
  try simp only [Act.put, List.setIfInBounds_toArray, List.set_cons_zero, List.set_cons_succ]
  refine wpAnyH_ready (rs := [0, 5]) (by kernel_rfl) (by simp) ?_
  refine (AllReadyH.cons (o := { dst := some 35, op := Go.Op.load 27 (Go.Operand.tmp 2), type := 27, pos := "l07_dead.go:57", after := #[], guard := none }) rfl (fun K0 hK0 => ?_) (AllReadyH.cons (o := { dst := some 40, op := Go.Op.call { callee := Go.Callee.value (Go.Operand.func 47), args := #[Go.Operand.tmp 37, Go.Operand.tmp 38, Go.Operand.tmp 39], argTypes := #[25, 3, 3] }, type := 3, pos := "l07_dead.go:57", after := #[{ on := 2, ground := Go.Ground.data }, { on := 3, ground := Go.Ground.data }, { on := 4, ground := Go.Ground.data }], guard := none }) rfl (fun K5 hK5 => ?_) AllReadyH.nil))
  · as_aux_lemma =>
      go_simp
      refine hK0.out _ _ ?_ (fun hHeld1 => ?_)
      · (try dsimp only); (first | go_keep | exact ⟨(row3_cells (hw4.out.put (o2 : Int)).1.2.1).1.1, (row3_cells (hw4.out.put (o2 : Int)).1.2.1).1.2.1⟩)
      clear hK0 K0 hHeld0
      try simp only [Act.put, List.setIfInBounds_toArray, List.set_cons_zero, List.set_cons_succ]
      refine wpAnyH_ready (rs := [5]) (by kernel_rfl) (by simp) ?_
      refine AllReadyH.cons (o := { dst := some 40, op := Go.Op.call { callee := Go.Callee.value (Go.Operand.func 47), args := #[Go.Operand.tmp 37, Go.Operand.tmp 38, Go.Operand.tmp 39], argTypes := #[25, 3, 3] }, type := 3, pos := "l07_dead.go:57", after := #[{ on := 2, ground := Go.Ground.data }, { on := 3, ground := Go.Ground.data }, { on := 4, ground := Go.Ground.data }], guard := none }) rfl (fun K5 hK5 => ?_) AllReadyH.nil
      go_simp
      (refine (HG1.out _).mono ?_; rintro e v2 ⟨rfl, hb2⟩; have hw3 := Lib.hid (hfw'.out.dr.call hb2); obtain ⟨⟨p2, q2, r2⟩, -⟩ := row3_cells hw3.out.1.2.1)
      go_wp2_with fail
      refine hK5.out _ _ ?_ (fun hHeld2 => ?_)
      · (try dsimp only); (first | go_keep | exact ⟨(row3_cells (hw4.out.put (o2 : Int)).1.2.1).1.1, (row3_cells (hw4.out.put (o2 : Int)).1.2.1).1.2.1⟩)
      clear hK5 K5 hHeld1
      try simp only [Act.put, List.setIfInBounds_toArray, List.set_cons_zero, List.set_cons_succ]
      refine wpAnyH_ready (rs := [6]) (by kernel_rfl) (by simp) ?_
      refine AllReadyH.cons (o := { dst := some 41, op := Go.Op.call { callee := Go.Callee.value (Go.Operand.func 46), args := #[Go.Operand.tmp 35, Go.Operand.tmp 40, Go.Operand.const (Go.Value.bool false)], argTypes := #[27, 3, 4] }, type := 40, pos := "l07_dead.go:57", after := #[{ on := 0, ground := Go.Ground.data }, { on := 5, ground := Go.Ground.data }, { on := 5, ground := Go.Ground.chain }], guard := none }) rfl (fun K6 hK6 => ?_) AllReadyH.nil
      go_simp
      (refine (HS1.out _).mono ?_; rintro e v3 ⟨rfl, hb3⟩; have hw4 := Lib.hid (hw3.out.call hb3); obtain ⟨⟨p3, q3, r3⟩, y0, y1, y2⟩ := row3_cells hw4.out.1.2.1)
      go_wp2_with fail
      refine hK6.out _ _ ?_ (fun hHeld3 => ?_)
      · (try dsimp only); (first | go_keep | exact ⟨(row3_cells (hw4.out.put (o2 : Int)).1.2.1).1.1, (row3_cells (hw4.out.put (o2 : Int)).1.2.1).1.2.1⟩)
      clear hK6 K6 hHeld2
      try simp only [Act.put, List.setIfInBounds_toArray, List.set_cons_zero, List.set_cons_succ]
      refine wpAnyH_take (i := 7) (oi := { dst := some 34, op := Go.Op.move (Go.Operand.tmp 41), type := 40, pos := "l07_dead.go:57", after := #[{ on := 6, ground := Go.Ground.data }], guard := none }) (v := ?_) rfl (by kernel_rfl) (by kernel_rfl) (by kernel_rfl) (HP _ _) (Or.inl ⟨by rfl, ?_⟩) (by assumption) ?_
      rotate_left
      · (intro w hSw; (try dsimp only at hSw); go_simp; try with_reducible rfl)
      try simp only [Act.put, List.setIfInBounds_toArray, List.set_cons_zero, List.set_cons_succ]
      refine wpAnyH_take (i := 8) (oi := { dst := some 42, op := Go.Op.extract (Go.Operand.tmp 34) 0, type := 27, pos := "l07_dead.go:57", after := #[{ on := 7, ground := Go.Ground.data }], guard := none }) (v := ?_) rfl (by kernel_rfl) (by kernel_rfl) (by kernel_rfl) (HP _ _) (Or.inl ⟨by rfl, ?_⟩) (by assumption) ?_
      rotate_left
      · (intro w hSw; (try dsimp only at hSw); go_simp; try with_reducible rfl)
      try simp only [Act.put, List.setIfInBounds_toArray, List.set_cons_zero, List.set_cons_succ]
      refine wpAnyH_take (i := 9) (oi := { dst := some 43, op := Go.Op.extract (Go.Operand.tmp 34) 1, type := 4, pos := "l07_dead.go:57", after := #[{ on := 7, ground := Go.Ground.data }, { on := 10, ground := Go.Ground.gcOnly Go.Departure.lateStores }], guard := none }) (v := ?_) rfl (by kernel_rfl) (by kernel_rfl) (by kernel_rfl) (HP _ _) (Or.inl ⟨by rfl, ?_⟩) (by assumption) ?_
      rotate_left
      · (intro w hSw; (try dsimp only at hSw); go_simp; try with_reducible rfl)
      try simp only [Act.put, List.setIfInBounds_toArray, List.set_cons_zero, List.set_cons_succ]
      refine wpAnyH_ready (rs := [10]) (by kernel_rfl) (by simp) ?_
      refine AllReadyH.cons (o := { dst := none, op := Go.Op.store 27 (Go.Operand.tmp 2) (Go.Operand.tmp 42), type := 0, pos := "l07_dead.go:57", after := #[{ on := 8, ground := Go.Ground.data }, { on := 6, ground := Go.Ground.chain }, { on := 0, ground := Go.Ground.phase }, { on := 1, ground := Go.Ground.phase }, { on := 2, ground := Go.Ground.phase }, { on := 3, ground := Go.Ground.phase }, { on := 4, ground := Go.Ground.phase }, { on := 5, ground := Go.Ground.phase }, { on := 6, ground := Go.Ground.phase }, { on := 7, ground := Go.Ground.phase }, { on := 8, ground := Go.Ground.phase }, { on := 9, ground := Go.Ground.textOnly Go.Departure.lateStores }], guard := none }) rfl (fun K10 hK10 => ?_) AllReadyH.nil
      go_simp
      refine hK10.out _ _ ?_ (fun hHeld4 => ?_)
      · (try dsimp only); (first | go_keep | exact ⟨(row3_cells (hw4.out.put (o2 : Int)).1.2.1).1.1, (row3_cells (hw4.out.put (o2 : Int)).1.2.1).1.2.1⟩)
      clear hK10 K10 hHeld3
      try simp only [Act.put, List.setIfInBounds_toArray, List.set_cons_zero, List.set_cons_succ]
      refine wpAnyH_done (by kernel_rfl) ?_ _
      exact HQ.out _ _ _ _ _ _ _ _ _ _ _ (hw4.out.put o2)
  · as_aux_lemma =>
      go_simp
      (refine (HG1.out _).mono ?_; rintro e v2 ⟨rfl, hb2⟩; have hw3 := Lib.hid (hfw'.out.dr.call hb2); obtain ⟨⟨p2, q2, r2⟩, -⟩ := row3_cells hw3.out.1.2.1)
      go_wp2_with fail
      refine hK5.out _ _ ?_ (fun hHeld1 => ?_)
      · (try dsimp only); (first | go_keep | exact ⟨(row3_cells (hw4.out.put (o2 : Int)).1.2.1).1.1, (row3_cells (hw4.out.put (o2 : Int)).1.2.1).1.2.1⟩)
      clear hK5 K5 hHeld0
      try simp only [Act.put, List.setIfInBounds_toArray, List.set_cons_zero, List.set_cons_succ]
      refine wpAnyH_ready (rs := [0]) (by kernel_rfl) (by simp) ?_
      refine AllReadyH.cons (o := { dst := some 35, op := Go.Op.load 27 (Go.Operand.tmp 2), type := 27, pos := "l07_dead.go:57", after := #[], guard := none }) rfl (fun K0 hK0 => ?_) AllReadyH.nil
      go_simp
      refine hK0.out _ _ ?_ (fun hHeld2 => ?_)
      · (try dsimp only); (first | go_keep | exact ⟨(row3_cells (hw4.out.put (o2 : Int)).1.2.1).1.1, (row3_cells (hw4.out.put (o2 : Int)).1.2.1).1.2.1⟩)
      clear hK0 K0 hHeld1
      try simp only [Act.put, List.setIfInBounds_toArray, List.set_cons_zero, List.set_cons_succ]
      refine wpAnyH_ready (rs := [6]) (by kernel_rfl) (by simp) ?_
      refine AllReadyH.cons (o := { dst := some 41, op := Go.Op.call { callee := Go.Callee.value (Go.Operand.func 46), args := #[Go.Operand.tmp 35, Go.Operand.tmp 40, Go.Operand.const (Go.Value.bool false)], argTypes := #[27, 3, 4] }, type := 40, pos := "l07_dead.go:57", after := #[{ on := 0, ground := Go.Ground.data }, { on := 5, ground := Go.Ground.data }, { on := 5, ground := Go.Ground.chain }], guard := none }) rfl (fun K6 hK6 => ?_) AllReadyH.nil
      go_simp
      (refine (HS1.out _).mono ?_; rintro e v3 ⟨rfl, hb3⟩; have hw4 := Lib.hid (hw3.out.call hb3); obtain ⟨⟨p3, q3, r3⟩, y0, y1, y2⟩ := row3_cells hw4.out.1.2.1)
      go_wp2_with fail
      refine hK6.out _ _ ?_ (fun hHeld3 => ?_)
      · (try dsimp only); (first | go_keep | exact ⟨(row3_cells (hw4.out.put (o2 : Int)).1.2.1).1.1, (row3_cells (hw4.out.put (o2 : Int)).1.2.1).1.2.1⟩)
      clear hK6 K6 hHeld2
      try simp only [Act.put, List.setIfInBounds_toArray, List.set_cons_zero, List.set_cons_succ]
      refine wpAnyH_take (i := 7) (oi := { dst := some 34, op := Go.Op.move (Go.Operand.tmp 41), type := 40, pos := "l07_dead.go:57", after := #[{ on := 6, ground := Go.Ground.data }], guard := none }) (v := ?_) rfl (by kernel_rfl) (by kernel_rfl) (by kernel_rfl) (HP _ _) (Or.inl ⟨by rfl, ?_⟩) (by assumption) ?_
      rotate_left
      · (intro w hSw; (try dsimp only at hSw); go_simp; try with_reducible rfl)
      try simp only [Act.put, List.setIfInBounds_toArray, List.set_cons_zero, List.set_cons_succ]
      refine wpAnyH_take (i := 8) (oi := { dst := some 42, op := Go.Op.extract (Go.Operand.tmp 34) 0, type := 27, pos := "l07_dead.go:57", after := #[{ on := 7, ground := Go.Ground.data }], guard := none }) (v := ?_) rfl (by kernel_rfl) (by kernel_rfl) (by kernel_rfl) (HP _ _) (Or.inl ⟨by rfl, ?_⟩) (by assumption) ?_
      rotate_left
      · (intro w hSw; (try dsimp only at hSw); go_simp; try with_reducible rfl)
      try simp only [Act.put, List.setIfInBounds_toArray, List.set_cons_zero, List.set_cons_succ]
      refine wpAnyH_take (i := 9) (oi := { dst := some 43, op := Go.Op.extract (Go.Operand.tmp 34) 1, type := 4, pos := "l07_dead.go:57", after := #[{ on := 7, ground := Go.Ground.data }, { on := 10, ground := Go.Ground.gcOnly Go.Departure.lateStores }], guard := none }) (v := ?_) rfl (by kernel_rfl) (by kernel_rfl) (by kernel_rfl) (HP _ _) (Or.inl ⟨by rfl, ?_⟩) (by assumption) ?_
      rotate_left
      · (intro w hSw; (try dsimp only at hSw); go_simp; try with_reducible rfl)
      try simp only [Act.put, List.setIfInBounds_toArray, List.set_cons_zero, List.set_cons_succ]
      refine wpAnyH_ready (rs := [10]) (by kernel_rfl) (by simp) ?_
      refine AllReadyH.cons (o := { dst := none, op := Go.Op.store 27 (Go.Operand.tmp 2) (Go.Operand.tmp 42), type := 0, pos := "l07_dead.go:57", after := #[{ on := 8, ground := Go.Ground.data }, { on := 6, ground := Go.Ground.chain }, { on := 0, ground := Go.Ground.phase }, { on := 1, ground := Go.Ground.phase }, { on := 2, ground := Go.Ground.phase }, { on := 3, ground := Go.Ground.phase }, { on := 4, ground := Go.Ground.phase }, { on := 5, ground := Go.Ground.phase }, { on := 6, ground := Go.Ground.phase }, { on := 7, ground := Go.Ground.phase }, { on := 8, ground := Go.Ground.phase }, { on := 9, ground := Go.Ground.textOnly Go.Departure.lateStores }], guard := none }) rfl (fun K10 hK10 => ?_) AllReadyH.nil
      go_simp
      refine hK10.out _ _ ?_ (fun hHeld4 => ?_)
      · (try dsimp only); (first | go_keep | exact ⟨(row3_cells (hw4.out.put (o2 : Int)).1.2.1).1.1, (row3_cells (hw4.out.put (o2 : Int)).1.2.1).1.2.1⟩)
      clear hK10 K10 hHeld3
      try simp only [Act.put, List.setIfInBounds_toArray, List.set_cons_zero, List.set_cons_succ]
      refine wpAnyH_done (by kernel_rfl) ?_ _
      exact HQ.out _ _ _ _ _ _ _ _ _ _ _ (hw4.out.put o2)

theorem fs_neg (K : List Int) : ∀ (l : List Int), (∀ u ∈ l, 0 ≤ u) → fsZ K l < 0 → fsZ K l = -1
  | [], _, _ => rfl
  | u :: l, h, hn => by
    rw [fs_cons] at hn ⊢
    split
    · rename_i hu
      rw [if_pos hu] at hn
      exact fs_neg K l (fun v hv => h v (List.mem_cons_of_mem _ hv)) hn
    · rename_i hu
      rw [if_neg hu] at hn
      have := h u (by simp)
      omega
theorem fd_bad {x y z : Int} (K : List Int) (h : ¬ OkM x y z) : z = fdZ x y z K := by
  have hn : atZ x y z K < 0 := by unfold atZ deL; rw [if_neg h]; unfold fsZ; simp
  unfold fdZ
  split
  · rw [fdN, if_pos hn]
  · rfl
theorem fd_any {x y z : Int} {K : List Int} (hv : OkM x y z) (h : (K.any fun u => !decide (0 ≤ u ∧ u < x * y)) = true) : z = fdZ x y z K := by
  obtain ⟨u, hu, hp⟩ := List.any_eq_true.1 h
  unfold fdZ; rw [if_neg]
  unfold keB; rw [List.all_eq_true]
  intro h2
  have := of_decide_eq_true (h2 u hu)
  simp [this.2.1, this.2.2] at hp
theorem fd_all {x y z : Int} {K : List Int} (hv : OkM x y z) (h : (K.any fun u => !decide (0 ≤ u ∧ u < x * y)) = false) : fdN x y K 24 z = fdZ x y z K ∧ ∀ u ∈ K, -9223372036854775808 ≤ u ∧ u ≤ 9223372036854775807 := by
  have h' : ∀ u ∈ K, 0 ≤ u ∧ u < x * y := fun u hu => by
    have := List.any_eq_false.1 h u hu
    simpa using this
  refine ⟨?_, fun u hu => ?_⟩
  · unfold fdZ; rw [if_pos]
    unfold keB; rw [List.all_eq_true]
    exact fun u hu => decide_eq_true ⟨hv, h' u hu⟩
  · have h1 := h' u hu
    have h2 := nn3 hv.1
    omega

set_option maxRecDepth 100000 in
set_option maxHeartbeats 2000000 in
theorem fill_any (x y z : Int) (A : Option Addr) (n c : Nat) (K : List Int) (W : World) (hn : K.length = n) (hm : n ≤ 1048576) (hi : IntsIn W W.heap.size A K) :
    Calls Try.prog 13 #[.agg #[.int .i64 x, .int .i64 y, .int .i64 z], .slice A n c] W (Mz x y (fdZ x y z K) W) := by
  have HO := Lib.hid (fun X => ok_any x y z X)
  have HW := Lib.hid (fun T1 T2 => @fw_new W x y z A K hi T1 T2)
  by_cases hv : OkM x y z
  · rw [show okB x y z = true from decide_eq_true hv] at HO
    have hk : OkZ x y := hv.1
    have HCF := Lib.hid (fun X hi => hasC.hasCells_any x y A n c K X hk hn hm hi)
    have HE1 := Lib.hid (fd_any (K := K) hv)
    have HE2 := Lib.hid (fd_all (K := K) hv)
    have HFd := Lib.hid (fun z b m X h => firstDeadEnd_any x y z b m K X h)
    have HWs := Lib.hid (fun z k X => waysFrom_any x y z k X)
    have HGp := Lib.hid (fun k d X => gridI.gapAt_any x y k d X)
    have HSg := Lib.hid (fun z g X => setGap_any x y z g false X)
    have HSo := Lib.hid (fun X h1 h2 => setOf_any A n c K X hn.symm hm h1 h2)
    have Hn := Lib.hid hn
    generalize hfin : fdZ x y z K = fin at *
    generalize (K.any fun u => !decide (0 ≤ u ∧ u < x * y)) = an at *
    clear hi hn hfin hk
    go_enter Try.func13, Try.ntmps13
    go_wp2_with fail
    have hfw0 := Lib.hid (HW.out 27 27)
    clear HW
    refine (HO.out _).mono ?_
    rintro e w1 ⟨rfl, hb⟩
    have hfw1 := Lib.hid (hfw0.out.call hb)
    clear hb hfw0 HO
    obtain ⟨⟨m0, m1, m2⟩, -⟩ := row3_cells hfw1.out.2.1
    go_wp2_with fail
    refine (HCF.out _ (hfw1.out.2.2.2.more hfw1.out.1.size)).mono ?_
    rintro e w2 ⟨rfl, hb⟩
    have hfw2 := Lib.hid (hfw1.out.call hb)
    clear hb hfw1 HCF m0 m1 m2
    obtain ⟨⟨m0, m1, m2⟩, -⟩ := row3_cells hfw2.out.2.1
    cases an with
    | true =>
      have HE := Lib.hid (HE1.out rfl)
      obtain ⟨⟨e0, e1, e2⟩, f0, f1, f2⟩ := row3_cells hfw2.out.2.2.1
      clear HE1 HE2
      go_wp2_with fail
      refine ret_set3 e0 e1 e2 fun Y g0 g1 g2 hY => ?_
      exact bodyPost_ret (v := .agg #[.int .i64 x, .int .i64 y, .int .i64 z]) (by simp [results, Try.results13, go_sem, g0, g1, g2]) rfl (fw_end hfw2.out HE.out hY)
    | false =>
      obtain ⟨hf0, hr0⟩ := HE2.out rfl
      have HF := Lib.hid hf0
      have HRg := Lib.hid hr0
      clear hf0 hr0 HE1 HE2
      go_wp2_with fail
      refine (HSo.out _ (hfw2.out.2.2.2.more hfw2.out.1.size) HRg.out).mono ?_
      rintro e w3 ⟨b, rfl, hs, hb⟩
      have hfs3 : Hid (FS W x y z A K b K.length w3) := Lib.hid ⟨hfw2.out.call hb, hs⟩
      clear hs hb hfw2 HSo HRg m0 m1 m2
      generalize K.length = m at *
      obtain ⟨⟨m0, m1, m2⟩, -⟩ := row3_cells hfs3.out.1.2.1
      go_wp2_with fail
      refine (HFd.out _ _ _ _ hfs3.out.2).mono ?_
      rintro e w4 ⟨rfl, hb⟩
      have hfs4 := Lib.hid (hfs3.out.call hb)
      clear hb hfs3 m0 m1 m2
      go_wp2_with fail
      go_loopw [6] (fun u6 wr => ∃ (f : Nat) (z' : Int), u6 = .int .i64 (atZ x y z' K) ∧ fdN x y K f z' = fin ∧ FQ x y z' f ∧ FS W x y z' A K b m wr) (fun _ wr => msr W (gN x y) wr)
      case atStart => exact ⟨24, z, rfl, HF.out, fq_start x y z, hfs4.out⟩
      case round =>
        clear hfs4 HF
        obtain ⟨f, z', rfl, hf, hq, hfs0⟩ := hrel
        have hfs := Lib.hid hfs0
        have Hf := Lib.hid hf
        have Hq := Lib.hid hq
        obtain ⟨⟨m0, m1, m2⟩, -⟩ := row3_cells hfs0.1.2.1
        have HMs : Hid (msr W (gN x y) wr = pcN z'.toNat (gN x y)) := Lib.hid (msr_is hfs.out.1)
        clear hf hq hfs0
        by_cases hneg : atZ x y z' K < 0
        · have h1 : atZ x y z' K = -1 := fs_neg K _ de_pos hneg
          have hE : Hid (z' = fin) := Lib.hid (by
            rw [← Hf.out]
            cases f with
            | zero => rfl
            | succ f => unfold fdN; rw [if_pos hneg])
          obtain ⟨⟨e0, e1, e2⟩, g0, g1, g2⟩ := row3_cells hfs.out.1.2.2.1
          rw [h1]
          clear hneg h1 Hf Hq HMs
          go_wp2_with fail
          refine ret_set3 e0 e1 e2 fun Y b0 b1 b2 hY => ?_
          exact bodyPost_ret (v := .agg #[.int .i64 x, .int .i64 y, .int .i64 z']) (by simp [results, Try.results13, go_sem, b0, b1, b2]) rfl (fw_end hfs.out.1 hE.out hY)
        · have hv : OkM x y z' := by
            apply Classical.byContradiction
            intro h
            apply hneg
            unfold atZ deL; rw [if_neg h]; unfold fsZ; simp
          obtain ⟨hk', o, rfl, ho'⟩ := okm_of hv
          rcases at_spec hk' ho' K with ⟨h1, -⟩ | ⟨c', q, g, h1, h2, h3, h4, h5, h6, h7, h8, h9, h10, h11, -⟩
          · exact absurd h1 hneg
          · have hc : ((c' : Int) != -1) = true := by rw [bne_iff_ne]; omega
            have hpc := Hq.out hv
            rw [Int.toNat_natCast] at hpc
            have HF2 : Hid (∃ f', fdN x y K f' ((o - 2 ^ g : Nat) : Int) = fin ∧ FQ x y ((o - 2 ^ g : Nat) : Int) f') := Lib.hid (by
              cases f with
              | zero => omega
              | succ f =>
                refine ⟨f, ?_, fun _ => by rw [Int.toNat_natCast]; omega⟩
                have := Hf.out
                unfold fdN at this
                rw [if_neg hneg, h1, h9] at this
                exact this)
            have HM : Hid (pcN (o - 2 ^ g) (gN x y) < pcN o (gN x y)) := Lib.hid (by omega)
            have HW1 := Lib.hid (HWs.out o c')
            rw [h4] at HW1
            have HG1 := Lib.hid (HGp.out c' q)
            rw [h6] at HG1
            have HS1 := Lib.hid (HSg.out o g)
            have hsg : sgZ x y o g false = ((o - 2 ^ g : Nat) : Int) := by
              rw [← h9]; unfold fd1
              rw [h4, show ([(q : Int)] : List Int).getD 0 0 = (q : Int) from rfl, h6]
            rw [hsg] at HS1
            rw [h1]
            clear hneg hv h1 h2 h3 h4 h5 h6 h7 h8 h9 h10 h11 hpc hsg Hf Hq
            generalize sgB x y o g = sb at *
            generalize hO2 : o - 2 ^ g = o2 at *
            go_wp2_with fail
            refine (HW1.out _).mono ?_
            rintro e w5 ⟨vw, rfl, how, hb⟩
            have hfs5 := Lib.hid (hfs.out.call hb)
            obtain ⟨gw, cw, rfl, -, -⟩ := own_some how (by simp)
            have hcw : w5.cell? ⟨gw, 0, none⟩ = some (.int .i64 (q : Int)) := own_cellI how rfl
            clear how hb hfs m0 m1 m2
            go_wp2_with fail
            refine fill_roundI W _ x y o o2 c' q g sb A K b m _ _ _ _ _ _ _ _ _ _ _ _ _ _ _ _ _ _ _ _ _ _ _ _ _ _ _ _ _ _ _ _ _ _ _ _ _ _ _ _ _ _ _ hfs5.out HG1 HS1 (fun d v c a w h => by cases d <;> exact h) (Lib.hid fun v34 v35 v36 v37 v38 v39 v40 v41 v42 v43 X hX => ?_)
            have hfs6 := Lib.hid hX
            obtain ⟨⟨m0, m1, m2⟩, -⟩ := row3_cells hX.1.2.1
            clear hX hfs5 hcw
            go_wp2_with fail
            refine (HFd.out _ _ _ _ hfs6.out.2).mono ?_
            rintro e w7 ⟨rfl, hb⟩
            have hfs7 := Lib.hid (hfs6.out.call hb)
            clear hb hfs6 m0 m1 m2
            go_wp2_with fail
            go_roundw
            case rel =>
              obtain ⟨f', r1, r2⟩ := HF2.out
              exact ⟨f', _, rfl, r1, r2, hfs7.out⟩
            case measure =>
              rw [msr_is hfs7.out.1, HMs.out]
              simpa using HM.out
  · rw [show okB x y z = false from decide_eq_false hv] at HO
    have HE := Lib.hid (fd_bad K hv)
    clear hi hn hv
    generalize fdZ x y z K = fin at *
    go_enter Try.func13, Try.ntmps13
    go_wp2_with fail
    have hfw0 := Lib.hid (HW.out 27 27)
    clear HW
    refine (HO.out _).mono ?_
    rintro e w1 ⟨rfl, hb⟩
    have hfw2 := Lib.hid (hfw0.out.call hb)
    clear hb hfw0 HO
    obtain ⟨⟨m0, m1, m2⟩, -⟩ := row3_cells hfw2.out.2.1
    obtain ⟨⟨e0, e1, e2⟩, f0, f1, f2⟩ := row3_cells hfw2.out.2.2.1
    go_wp2_with fail
    refine ret_set3 e0 e1 e2 fun Y g0 g1 g2 hY => ?_
    exact bodyPost_ret (v := .agg #[.int .i64 x, .int .i64 y, .int .i64 z]) (by simp [results, Try.results13, go_sem, g0, g1, g2]) rfl (fw_end hfw2.out HE.out hY)
end Go.Proofs.Ytcoikcnijaniaaa.deadJ
