/- The draw of a grid, arrows and two orders. -/
import Derived.Test.YtcoikcnijaniaaaPopD
import Derived.Test.YtcoikcnijaniaaaListW
namespace Go.Proofs.Ytcoikcnijaniaaa.popE
open Go.ChangeShapes Go.WideShapes Go.ChangeAt Go.RowKit
open draw gridP gridC gridE bitP mazeP mazeC mazeM mazeR mazeS intsP reachP reachM reachN reachD intA intK listK rowsP popP matD popD listW
open matD (DQ DR grown_low)
set_option linter.unusedVariables false

theorem bdr (w : World) : Below w.heap.size w w.drew := ⟨rfl, rfl, rfl, Nat.le_refl _, fun _ _ => rfl⟩
/-- While orders are drawn: the grid's block, the arrows, the orders so far. -/
def LD (w : World) (G : Nat) (x y : Int) (v : Value) (ls : List (List Int)) (os : List (Value × List Int)) (X : World) : Prop :=
  Below w.heap.size w X ∧ Row2 w.heap.size 0 0 X ∧ Row2 G x y X ∧ Cur X (w.heap.size + 1) ∧ MxOw X (w.heap.size + 2) X.heap.size v ls ∧
    ∀ q ∈ os, (q.2.length ≤ 5 ∧ ∀ u ∈ q.2, 0 ≤ u ∧ u < x * y) ∧ X.ownsRow (w.heap.size + 2) 3 1 q.1 q.2.length (icells q.2)
theorem LD.draw {w X X' : World} {G : Nat} {x y : Int} {v : Value} {ls : List (List Int)} {os : List (Value × List Int)} (h : LD w G x y v ls os X) (hG : w.heap.size + 1 < G) (hc : Cur X' (w.heap.size + 1)) (hg : X.grownBy X' (some (w.heap.size + 1))) : LD w G x y v ls os X' := by
  obtain ⟨h1, h2, h3, h4, h5, h6⟩ := h
  have hlt := row2_lt h3
  have hz := h1.size
  refine ⟨h1.grown hg (by omega) (fun k hk => by cases hk; omega), row2_grown h2 hg (fun e => by have := Option.some.inj e; omega), row2_grown h3 hg (fun e => by have := Option.some.inj e; omega), hc, (h5.outside fun k a b hk => hg.block k hk (fun e => by have := Option.some.inj e; omega)).high hg.size, fun q hq => ⟨(h6 q hq).1, (h6 q hq).2.kept hg ?_⟩⟩
  cases hv : q.1.ownBlock with
  | none => exact .inl rfl
  | some b => exact .inr fun e => by have := ((h6 q hq).2.lt b hv).1; have := Option.some.inj e; omega
theorem LD.dr {w X : World} {G : Nat} {x y : Int} {v : Value} {ls : List (List Int)} {os : List (Value × List Int)} (h : LD w G x y v ls os X) (hG : w.heap.size + 1 < G) : LD w G x y v ls os X.drew :=
  h.draw hG (h.2.2.2.1.kept (bdr X) h.2.2.2.1.lt) ⟨rfl, rfl, rfl, Nat.le_refl _, fun _ _ _ => rfl⟩
theorem LD.more {w X X' : World} {G : Nat} {x y : Int} {v v2 : Value} {ls : List (List Int)} {l : List Int} {os : List (Value × List Int)} (h : LD w G x y v ls os X) (hG : w.heap.size + 1 < G) (hl : l.length ≤ 5 ∧ ∀ u ∈ l, 0 ≤ u ∧ u < x * y) (hc : Cur X' (w.heap.size + 1)) (hg : X.grownBy X' (some (w.heap.size + 1)))
    (ho : X'.ownsRow X.heap.size 3 1 v2 l.length (icells l)) : LD w G x y v ls (os ++ [(v2, l)]) X' := by
  have hlt := row2_lt h.2.2.1
  obtain ⟨h1, h2, h3, h4, h5, h6⟩ := h.draw hG hc hg
  refine ⟨h1, h2, h3, h4, h5, fun q hq => ?_⟩
  rcases List.mem_append.1 hq with e | e
  · exact h6 q e
  · rw [List.mem_singleton.1 e]; exact ⟨hl, own_base ho (by omega)⟩
theorem LD.cells {w X : World} {G : Nat} {x y : Int} {v : Value} {ls : List (List Int)} {os : List (Value × List Int)} (h : LD w G x y v ls os X) : X.cell? ⟨G, 0, none⟩ = some (.int .i64 x) ∧ X.cell? ⟨G, 1, none⟩ = some (.int .i64 y) := (row2_cells h.2.2.1).1
theorem LD.cells2 {w X : World} {G : Nat} {x y : Int} {v a b : Value} {ls : List (List Int)} {os : List (Value × List Int)} (h : LD w G x y v ls os X) (hG : w.heap.size + 1 < G) : ((X.setCell ⟨w.heap.size, 0, none⟩ a).setCell ⟨w.heap.size, 1, none⟩ b).cell? ⟨G, 0, none⟩ = some (.int .i64 x) ∧ ((X.setCell ⟨w.heap.size, 0, none⟩ a).setCell ⟨w.heap.size, 1, none⟩ b).cell? ⟨G, 1, none⟩ = some (.int .i64 y) :=
  (row2_cells (row2_far (row2_far h.2.2.1 (by simp; omega) a) (by simp; omega) b)).1
/-- What DrawArrows leaves. -/
def ArrD (w : World) (e : Ending) (w' : World) : Prop := ∃ x y ls v l1 v1 l2 v2, (Ao x y ls ∧ (l1.length ≤ 5 ∧ ∀ u ∈ l1, 0 ≤ u ∧ u < x * y) ∧ (l2.length ≤ 5 ∧ ∀ u ∈ l2, 0 ≤ u ∧ u < x * y)) ∧ e = .returned (.tuple #[.agg #[.int .i64 x, .int .i64 y], v, v1, v2]) ∧
  MxOw w' w.heap.size w'.heap.size v ls ∧ w'.ownsRow w.heap.size 3 1 v1 l1.length (icells l1) ∧ w'.ownsRow w.heap.size 3 1 v2 l2.length (icells l2) ∧ Below w.heap.size w w'
theorem LD.fin {w X Y : World} {G : Nat} {x y : Int} {v v1 v2 : Value} {ls : List (List Int)} {l1 l2 : List Int} (h : LD w G x y v ls [(v1, l1), (v2, l2)] X) (hA : Ao x y ls)
    (hY : Y = (X.setCell ⟨w.heap.size, 0, none⟩ (.int .i64 x)).setCell ⟨w.heap.size, 1, none⟩ (.int .i64 y)) :
    Row2 w.heap.size x y Y ∧ ArrD w (.returned (.tuple #[.agg #[.int .i64 x, .int .i64 y], v, v1, v2])) Y := by
  obtain ⟨h1, h2, h3, h4, h5, h6⟩ := h
  have hb : ∀ k, k ≠ w.heap.size → Y.heap[k]? = X.heap[k]? := fun k hk => by
    subst hY
    exact (Below.heap_setCell _ _ _ k hk).trans (Below.heap_setCell _ _ _ k hk)
  have hs : Y.heap.size = X.heap.size := by subst hY; simp [World.setCell]
  obtain ⟨a1, b1⟩ := h6 (v1, l1) (by simp)
  obtain ⟨a2, b2⟩ := h6 (v2, l2) (by simp)
  refine ⟨by subst hY; exact row2_set h2, x, y, ls, v, l1, v1, l2, v2, ⟨hA, a1, a2⟩, rfl, ?_, ?_, ?_, ?_⟩
  · exact ((h5.outside fun k p q hk => hb k (by omega)).high (Nat.le_of_eq hs.symm)).low (by omega)
  · subst hY; exact own_base (ownsRow_setCell_below (ownsRow_setCell_below b1 (by simp) _) (by simp) _) (by omega)
  · subst hY; exact own_base (ownsRow_setCell_below (ownsRow_setCell_below b2 (by simp) _) (by simp) _) (by omega)
  · subst hY; exact Below.setCell (Below.setCell h1 (Nat.le_refl _) _) (Nat.le_refl _) _

set_option maxRecDepth 100000 in
set_option maxHeartbeats 4000000 in
theorem drawArrows_any (A : Option Addr) (n c : Nat) (w : World) (hn : n ≤ maxLen) (hb : BytesIn w w.heap.size A n) :
    Calls Try.prog 21 #[.slice A n c] w (ArrD w) := by
  have hb2 := below_box w (.cells #[.int .i64 0, .int .i64 0] 25)
  have HB := Lib.hid hb2
  have HY := Lib.hid ((hb.keep (w' := (w.alloc (.cells #[.int .i64 0, .int .i64 0] 25))) fun p hp => hb2.cell hp).more (B' := w.heap.size + 1) (by omega))
  have HR1 := Lib.hid (row2_new 0 0 w 25)
  clear hb hb2
  go_enter Try.func21, Try.ntmps21
  go_wp2_with fail
  refine (new_any A n c _ hn (by simpa using HY.out)).mono ?_
  rintro e w1 ⟨rfl, hc1, hb1, hs1⟩
  have hc1' : Cur w1 (w.heap.size + 1) := by simpa using hc1
  have hr1 := Lib.hid (HR1.out.call hb1)
  have HB1 := Lib.hid (HB.out.trans (hb1.mono (by simp)))
  have hz1 : w.heap.size + 1 < w1.heap.size := by simp at hs1; omega
  clear hs1 hb1 HR1 HB HY hc1
  go_wp2_with fail
  refine (grid_any _ _ hc1').mono ?_
  rintro e w2 ⟨x, y, hk0, rfl, hc2, hg2⟩
  have hk : OkZ x y := by unfold OkZ; omega
  have Hk := Lib.hid hk
  have hr2 := row2_grown hr1.out hg2 (fun e => by injection e with e; omega)
  have HB2 := HB1.out.grown hg2 (by omega) (fun k hk => by cases hk; omega)
  have hz2 := hg2.size
  have hbx := below_box w2 (.cells #[.int .i64 x, .int .i64 y] 25)
  have hm3 := Lib.hid (row2_new x y w2 25)
  have hc3 := Lib.hid (hc2.alloc1 (.cells #[.int .i64 x, .int .i64 y] 25))
  have hr3 := Lib.hid (hr2.call hbx)
  have HB3 := Lib.hid (HB2.alloc (by omega) (.cells #[.int .i64 x, .int .i64 y] 25))
  have hz3 : Hid ((w2.alloc (.cells #[.int .i64 x, .int .i64 y] 25)).heap.size = w2.heap.size + 1) := Lib.hid (by simp)
  clear hg2 hc1' hc2 hk hk0 hr1 hr2 HB1 HB2 hbx
  obtain ⟨⟨m0, m1⟩, -⟩ := row2_cells hm3.out
  go_wp2_with fail
  generalize w2.alloc (.cells #[.int .i64 x, .int .i64 y] 25) = w3 at *
  generalize hM : w2.heap.size = M at *
  refine (arrows_any _ x y _ hc3.out Hk.out).mono ?_
  rintro e w4 ⟨ls, v, hA, rfl, hc4, hg4, ho4⟩
  have hG : w.heap.size + 1 < M := by omega
  have hL : Hid (LD w M x y v ls [] w4) := Lib.hid ⟨HB3.out.grown hg4 (by have := hz3.out; omega) (fun k hk => by cases hk; omega), row2_grown hr3.out hg4 (fun e => by injection e with e; omega), row2_grown hm3.out hg4 (fun e => by injection e with e; omega), hc4, ho4.low (by have := hz3.out; omega), fun q hq => absurd hq (by simp)⟩
  have HA := Lib.hid hA
  have HG := Lib.hid hG
  obtain ⟨Av, cv, rfl⟩ := ho4.form
  clear hA hc4 hg4 ho4 hG hM hz3 hc3 hm3 hr3 HB3 m0 m1 hz1 hz2
  obtain ⟨m0, m1⟩ := LD.cells hL.out
  go_wp2_with fail
  try simp only [List.cons_append, List.nil_append, List.append_eq]
  refine wp_region_held_drew (S := (fun w' => w'.cell? ⟨M, 0, none⟩ = some (.int .i64 x) ∧ w'.cell? ⟨M, 1, none⟩ = some (.int .i64 y))) (by kernel_rfl) ?_ (fun hHeld0 => ?_)
  · (try dsimp only); (first | exact LD.cells hL.out | exact LD.cells (hL.out.dr HG.out) | exact LD.cells hL1.out | exact LD.cells (hL1.out.dr HG.out))
  refine wpAnyH_take (i := 0) (oi := { dst := some 16, op := Go.Op.load 25 (Go.Operand.tmp 7), type := 25, pos := "l15_stack.go:145", after := #[], guard := none }) (v := ?_) rfl (by kernel_rfl) (by kernel_rfl) (by kernel_rfl) (fun _ _ _ h => h) (Or.inl ⟨by rfl, ?_⟩) (by assumption) ?_
  rotate_left
  · (intro w hSw; (try dsimp only at hSw); go_simp; try with_reducible rfl)
  try simp only [Act.put, List.setIfInBounds_toArray, List.set_cons_zero, List.set_cons_succ]
  refine wpAnyH_take (i := 1) (oi := { dst := some 17, op := Go.Op.move (Go.Operand.tmp 8), type := 37, pos := "l15_stack.go:145", after := #[{ on := 8, ground := Go.Ground.gcOnly Go.Departure.lateStores }], guard := none }) (v := ?_) rfl (by kernel_rfl) (by kernel_rfl) (by kernel_rfl) (fun _ _ _ h => h) (Or.inl ⟨by rfl, ?_⟩) (by assumption) ?_
  rotate_left
  · (intro w hSw; (try dsimp only at hSw); go_simp; try with_reducible rfl)
  try simp only [Act.put, List.setIfInBounds_toArray, List.set_cons_zero, List.set_cons_succ]
  refine wpAnyH_take (i := 2) (oi := { dst := some 18, op := Go.Op.move (Go.Operand.tmp 6), type := 60, pos := "l15_stack.go:145", after := #[], guard := none }) (v := ?_) rfl (by kernel_rfl) (by kernel_rfl) (by kernel_rfl) (fun _ _ _ h => h) (Or.inl ⟨by rfl, ?_⟩) (by assumption) ?_
  rotate_left
  · (intro w hSw; (try dsimp only at hSw); go_simp; try with_reducible rfl)
  try simp only [Act.put, List.setIfInBounds_toArray, List.set_cons_zero, List.set_cons_succ]
  refine wpAnyH_take (i := 3) (oi := { dst := some 19, op := Go.Op.load 25 (Go.Operand.tmp 7), type := 25, pos := "l15_stack.go:145", after := #[], guard := none }) (v := ?_) rfl (by kernel_rfl) (by kernel_rfl) (by kernel_rfl) (fun _ _ _ h => h) (Or.inl ⟨by rfl, ?_⟩) (by assumption) ?_
  rotate_left
  · (intro w hSw; (try dsimp only at hSw); go_simp; try with_reducible rfl)
  try simp only [Act.put, List.setIfInBounds_toArray, List.set_cons_zero, List.set_cons_succ]
  refine wpAnyH_take (i := 5) (oi := { dst := some 21, op := Go.Op.move (Go.Operand.tmp 6), type := 60, pos := "l15_stack.go:145", after := #[], guard := none }) (v := ?_) rfl (by kernel_rfl) (by kernel_rfl) (by kernel_rfl) (fun _ _ _ h => h) (Or.inl ⟨by rfl, ?_⟩) (by assumption) ?_
  rotate_left
  · (intro w hSw; (try dsimp only at hSw); go_simp; try with_reducible rfl)
  try simp only [Act.put, List.setIfInBounds_toArray, List.set_cons_zero, List.set_cons_succ]
  refine wpAnyH_take (i := 6) (oi := { dst := some 22, op := Go.Op.load 25 (Go.Operand.tmp 7), type := 25, pos := "l15_stack.go:145", after := #[], guard := none }) (v := ?_) rfl (by kernel_rfl) (by kernel_rfl) (by kernel_rfl) (fun _ _ _ h => h) (Or.inl ⟨by rfl, ?_⟩) (by assumption) ?_
  rotate_left
  · (intro w hSw; (try dsimp only at hSw); go_simp; try with_reducible rfl)
  try simp only [Act.put, List.setIfInBounds_toArray, List.set_cons_zero, List.set_cons_succ]
  refine wpAnyH_ready (rs := [4]) (by kernel_rfl) (by simp) ?_
  refine AllReadyH.cons (o := { dst := some 20, op := Go.Op.call { callee := Go.Callee.value (Go.Operand.func 58), args := #[Go.Operand.tmp 18, Go.Operand.tmp 19], argTypes := #[60, 25] }, type := 32, pos := "l15_stack.go:145", after := #[{ on := 2, ground := Go.Ground.data }, { on := 3, ground := Go.Ground.data }], guard := none }) rfl (fun K4 hK4 => ?_) AllReadyH.nil
  go_simp
  (first | (have hL' := hL.out; refine (order_any _ x y _ hL'.2.2.2.1 Hk.out).mono ?_) | (have hL' := hL.out.dr HG.out; refine (order_any _ x y _ hL'.2.2.2.1 Hk.out).mono ?_)); rintro e v1 ⟨l1, q1, hl1, rfl, hc5, hg5, ho5⟩; have hL1 := Lib.hid (hL'.more HG.out hl1 hc5 hg5 ho5); obtain ⟨A5, c5, rfl⟩ := own_form ho5; clear hl1 hc5 hg5 ho5 hL' hL; obtain ⟨m0, m1⟩ := LD.cells hL1.out
  go_wp2_with fail
  refine hK4.out _ _ ?_ (fun hHeld1 => ?_)
  · (try dsimp only); (first | exact LD.cells hL.out | exact LD.cells (hL.out.dr HG.out) | exact LD.cells hL1.out | exact LD.cells (hL1.out.dr HG.out))
  clear hK4 K4 hHeld0
  try simp only [Act.put, List.setIfInBounds_toArray, List.set_cons_zero, List.set_cons_succ]
  refine wpAnyH_ready (rs := [7]) (by kernel_rfl) (by simp) ?_
  refine AllReadyH.cons (o := { dst := some 23, op := Go.Op.call { callee := Go.Callee.value (Go.Operand.func 58), args := #[Go.Operand.tmp 21, Go.Operand.tmp 22], argTypes := #[60, 25] }, type := 32, pos := "l15_stack.go:145", after := #[{ on := 5, ground := Go.Ground.data }, { on := 6, ground := Go.Ground.data }, { on := 4, ground := Go.Ground.chain }], guard := none }) rfl (fun K7 hK7 => ?_) AllReadyH.nil
  go_simp
  (first | (have hL' := hL1.out; refine (order_any _ x y _ hL'.2.2.2.1 Hk.out).mono ?_) | (have hL' := hL1.out.dr HG.out; refine (order_any _ x y _ hL'.2.2.2.1 Hk.out).mono ?_)); rintro e v2 ⟨l2, q2, hl2, rfl, hc5, hg5, ho5⟩; have hL := Lib.hid (hL'.more HG.out hl2 hc5 hg5 ho5); obtain ⟨A6, c6, rfl⟩ := own_form ho5; clear hl2 hc5 hg5 ho5 hL' hL1; obtain ⟨m0, m1⟩ := LD.cells hL.out; obtain ⟨⟨z0, z1⟩, f0, f1⟩ := row2_cells hL.out.2.1
  go_wp2_with fail
  refine hK7.out _ _ ?_ (fun hHeld2 => ?_)
  · (try dsimp only); (first | exact LD.cells hL.out | exact LD.cells (hL.out.dr HG.out) | exact LD.cells hL1.out | exact LD.cells (hL1.out.dr HG.out))
  clear hK7 K7 hHeld1
  try simp only [Act.put, List.setIfInBounds_toArray, List.set_cons_zero, List.set_cons_succ]
  refine wpAnyH_ready (rs := [8]) (by kernel_rfl) (by simp) ?_
  refine AllReadyH.cons (o := { dst := none, op := Go.Op.store 25 (Go.Operand.tmp 2) (Go.Operand.tmp 16), type := 0, pos := "l15_stack.go:145", after := #[{ on := 0, ground := Go.Ground.data }, { on := 7, ground := Go.Ground.chain }, { on := 0, ground := Go.Ground.phase }, { on := 1, ground := Go.Ground.textOnly Go.Departure.lateStores }, { on := 2, ground := Go.Ground.textOnly Go.Departure.lateStores }, { on := 3, ground := Go.Ground.textOnly Go.Departure.lateStores }, { on := 4, ground := Go.Ground.textOnly Go.Departure.lateStoresUnsure }, { on := 5, ground := Go.Ground.textOnly Go.Departure.lateStores }, { on := 6, ground := Go.Ground.textOnly Go.Departure.lateStores }, { on := 7, ground := Go.Ground.textOnly Go.Departure.lateStoresUnsure }], guard := none }) rfl (fun K8 hK8 => ?_) AllReadyH.nil
  go_simp
  refine hK8.out _ _ ?_ (fun hHeld3 => ?_)
  · (try dsimp only); (first | exact LD.cells2 hL.out HG.out | exact LD.cells2 (hL.out.dr HG.out) HG.out)
  clear hK8 K8 hHeld2
  try simp only [Act.put, List.setIfInBounds_toArray, List.set_cons_zero, List.set_cons_succ]
  refine wpAnyH_take (i := 9) (oi := { dst := some 3, op := Go.Op.assign (Go.Operand.tmp 17), type := 37, pos := "l15_stack.go:145", after := #[{ on := 1, ground := Go.Ground.data }, { on := 8, ground := Go.Ground.chain }, { on := 0, ground := Go.Ground.phase }, { on := 1, ground := Go.Ground.phase }, { on := 2, ground := Go.Ground.textOnly Go.Departure.lateStores }, { on := 3, ground := Go.Ground.textOnly Go.Departure.lateStores }, { on := 4, ground := Go.Ground.textOnly Go.Departure.lateStoresUnsure }, { on := 5, ground := Go.Ground.textOnly Go.Departure.lateStores }, { on := 6, ground := Go.Ground.textOnly Go.Departure.lateStores }, { on := 7, ground := Go.Ground.textOnly Go.Departure.lateStoresUnsure }, { on := 8, ground := Go.Ground.phase }], guard := none }) (v := ?_) rfl (by kernel_rfl) (by kernel_rfl) (by kernel_rfl) (fun _ _ _ h => h) (Or.inl ⟨by rfl, ?_⟩) (by assumption) ?_
  rotate_left
  · (intro w hSw; (try dsimp only at hSw); go_simp; try with_reducible rfl)
  try simp only [Act.put, List.setIfInBounds_toArray, List.set_cons_zero, List.set_cons_succ]
  refine wpAnyH_take (i := 10) (oi := { dst := some 4, op := Go.Op.assign (Go.Operand.tmp 20), type := 32, pos := "l15_stack.go:145", after := #[{ on := 4, ground := Go.Ground.data }, { on := 9, ground := Go.Ground.chain }, { on := 0, ground := Go.Ground.phase }, { on := 1, ground := Go.Ground.phase }, { on := 2, ground := Go.Ground.phase }, { on := 3, ground := Go.Ground.phase }, { on := 4, ground := Go.Ground.phase }, { on := 5, ground := Go.Ground.textOnly Go.Departure.lateStores }, { on := 6, ground := Go.Ground.textOnly Go.Departure.lateStores }, { on := 7, ground := Go.Ground.textOnly Go.Departure.lateStoresUnsure }, { on := 8, ground := Go.Ground.phase }, { on := 9, ground := Go.Ground.phase }], guard := none }) (v := ?_) rfl (by kernel_rfl) (by kernel_rfl) (by kernel_rfl) (fun _ _ _ h => h) (Or.inl ⟨by rfl, ?_⟩) (by assumption) ?_
  rotate_left
  · (intro w hSw; (try dsimp only at hSw); go_simp; try with_reducible rfl)
  try simp only [Act.put, List.setIfInBounds_toArray, List.set_cons_zero, List.set_cons_succ]
  refine wpAnyH_take (i := 11) (oi := { dst := some 5, op := Go.Op.assign (Go.Operand.tmp 23), type := 32, pos := "l15_stack.go:145", after := #[{ on := 7, ground := Go.Ground.data }, { on := 10, ground := Go.Ground.chain }, { on := 0, ground := Go.Ground.phase }, { on := 1, ground := Go.Ground.phase }, { on := 2, ground := Go.Ground.phase }, { on := 3, ground := Go.Ground.phase }, { on := 4, ground := Go.Ground.phase }, { on := 5, ground := Go.Ground.phase }, { on := 6, ground := Go.Ground.phase }, { on := 7, ground := Go.Ground.phase }, { on := 8, ground := Go.Ground.phase }, { on := 9, ground := Go.Ground.phase }, { on := 10, ground := Go.Ground.phase }], guard := none }) (v := ?_) rfl (by kernel_rfl) (by kernel_rfl) (by kernel_rfl) (fun _ _ _ h => h) (Or.inl ⟨by rfl, ?_⟩) (by assumption) ?_
  rotate_left
  · (intro w hSw; (try dsimp only at hSw); go_simp; try with_reducible rfl)
  try simp only [Act.put, List.setIfInBounds_toArray, List.set_cons_zero, List.set_cons_succ]
  refine wpAnyH_done (by kernel_rfl) ?_ _
  obtain ⟨hr, hD⟩ := LD.fin hL.out HA.out rfl
  obtain ⟨⟨y0, y1⟩, -⟩ := row2_cells hr
  clear m0 m1 z0 z1 f0 f1 hL hr
  generalize ((v2.setCell ⟨w.heap.size, 0, none⟩ (.int .i64 x)).setCell ⟨w.heap.size, 1, none⟩ (.int .i64 y)) = Y at *
  go_wp2_with fail
  exact bodyPost_ret (v := .tuple #[.agg #[.int .i64 x, .int .i64 y], .slice Av ls.length cv, .slice A5 l1.length c5, .slice A6 l2.length c6]) (by simp [results, Try.results21, go_sem, y0, y1]) rfl hD
end Go.Proofs.Ytcoikcnijaniaaa.popE
