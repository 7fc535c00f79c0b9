/- Arrays of the numbers of parts: as values, in memory, and the contract of joining two parts. -/
import Derived.Test.YthgnhamokikhkaaWalS
import Derived.Test.YthgnhamokikhkaaMzB
import Derived.Deep.WholeRow
namespace Go.Proofs.Ythgnhamokikhkaa.walJ
open Go.ChangeShapes Go.WideShapes Go.ChangeAt Go.RowKit
open draw gridP gridC gridE bitP mazeP mazeC mazeM mazeR intsP reachP reachM reachN reachD forest perfP walP walR walS
set_option linter.unusedVariables false

/-- The array of 25 numbers. -/
def vC (L : Nat → Nat) : Array Value := ((List.range 25).map fun c => Value.int .i64 (L c)).toArray
theorem vC_size (L : Nat → Nat) : (vC L).size = 25 := by simp [vC]
theorem vC_at (L : Nat → Nat) {i : Nat} (h : i < 25) : (vC L)[i]? = some (.int .i64 (L i)) := by
  simp [vC, h]
theorem vC_one (L : Nat → Nat) : (vC L).all (·.oneCell') = true := by
  rw [Array.all_eq_true_iff_forall_mem]
  intro v hv
  simp [vC] at hv
  obtain ⟨c, -, rfl⟩ := hv
  rfl
theorem vC_set (L : Nat → Nat) {L' : Nat → Nat} {i u : Nat} (hi : i < 25) (hu : L' i = u) (h : ∀ j, j ≠ i → L' j = L j) : (vC L).setIfInBounds i (.int .i64 (u : Int)) = vC L' := by
  apply Array.ext_getElem?
  intro j
  rw [Array.getElem?_setIfInBounds]
  by_cases e : i = j
  · subst e
    rw [if_pos rfl, if_pos (by rw [vC_size]; exact hi), vC_at _ hi, hu]
  · rw [if_neg e]
    by_cases hj : j < 25
    · rw [vC_at _ hj, vC_at _ hj, h j (fun e' => e e'.symm)]
    · rw [Array.getElem?_eq_none (by rw [vC_size]; omega), Array.getElem?_eq_none (by rw [vC_size]; omega)]

/-- Block b holds the array. -/
def AB (b : Nat) (L : Nat → Nat) (X : World) : Prop := X.heap[b]? = some (.cells (vC L) 84 (0, 0))
theorem AB.lt {b : Nat} {L : Nat → Nat} {X : World} (h : AB b L X) : b < X.heap.size := (Array.getElem?_eq_some_iff.1 h).1
theorem AB.call {b : Nat} {L : Nat → Nat} {X X' : World} (h : AB b L X) (hb : Below X.heap.size X X') : AB b L X' := (hb.block b h.lt).trans h
theorem AB.dr {b : Nat} {L : Nat → Nat} {X : World} (h : AB b L X) (n : Nat) : AB b L (X.drewN n) := h
theorem AB.cell {b : Nat} {L : Nat → Nat} {X : World} (h : AB b L X) {i : Nat} (hi : i < 25) : X.cell? ⟨b, i, none⟩ = some (.int .i64 (L i)) ∧ X.frozen? ⟨b, i, none⟩ = false := by
  refine ⟨?_, ?_⟩
  · rw [cell_of_row X b i _ _ _ h]; exact vC_at L hi
  · simp [World.frozen?, show X.heap[b]? = _ from h]
theorem AB.put {b : Nat} {L L' : Nat → Nat} {X : World} (h : AB b L X) {i u : Nat} (hi : i < 25) (hu : L' i = u) (hf : ∀ j, j ≠ i → L' j = L j) : AB b L' (X.setCell ⟨b, i, none⟩ (.int .i64 (u : Int))) := by
  rw [setCell_eq_setRow X b i _ _ _ _ h]
  have := setRow_heap X b (vC L) ((vC L).setIfInBounds i (.int .i64 (u : Int))) _ _ h
  rw [vC_set L hi hu hf] at this ⊢
  exact this
theorem AB.row {b : Nat} {L : Nat → Nat} {X : World} (h : AB b L X) (L' : Nat → Nat) : AB b L' (X.setRow b (vC L')) := setRow_heap X b (vC L) (vC L') _ _ h
theorem AB.far {b b' : Nat} {L : Nat → Nat} {X : World} (h : AB b L X) (c : Array Value) (hne : b' ≠ b) : AB b L (X.setRow b' c) := by
  unfold AB World.setRow
  simp only [Array.getElem?_modify]
  rw [if_neg hne]; exact h
theorem AB.new (L : Nat → Nat) (X : World) : AB X.heap.size L (X.alloc (.cells (vC L) 84)) := heap_alloc_last X _
theorem below_setRow {B : Nat} {a w : World} (h : Below B a w) {b : Nat} (hb : B ≤ b) (c : Array Value) : Below B a (w.setRow b c) :=
  h.trans ⟨rfl, rfl, rfl, by simp [World.setRow], fun k hk => by
    unfold World.setRow
    simp only [Array.getElem?_modify]
    rw [if_neg (by omega)]⟩
/-- The whole array out of its block. -/
theorem AB.load {b : Nat} {L : Nat → Nat} {X : World} (h : AB b L X) : (loadCellsFrom ⟨b, 0, none⟩ 0 25 #[]).run Try.prog X = .ok (vC L) X := by
  have := run_loadCells_list (P := Try.prog) X ⟨b, 0, none⟩ (vC L).toList (fun j v hv => by
    have hadd : (⟨b, 0, none⟩ : Addr).add j = ⟨b, j, none⟩ := by unfold Addr.add; split <;> simp_all
    rw [hadd, cell_of_row _ _ j _ _ _ h]
    simpa using hv)
  simpa [loadCells, vC_size] using this
theorem info_arr : (Try.prog.info? 84).map (·.size) = some 25 := by kernel_rfl
/-- A whole array into its block. -/
theorem AB.store {b : Nat} {L : Nat → Nat} {X : World} (h : AB b L X) (L' : Nat → Nat) : (storeCells ⟨b, 0, none⟩ (vC L').toList 0).run Try.prog X = .ok () (X.setRow b (vC L')) := by
  have := run_storeVar_row (P := Try.prog) X b 84 84 (vC L) (vC L') h (by rw [vC_size]; exact info_arr) (by rw [vC_size, vC_size]) (vC_one L')
  cases hq : Try.prog.info? 84 with
  | none => have := info_arr; simp [hq] at this
  | some i =>
    have hs : 25 = i.size := by have := info_arr; simp [hq] at this; omega
    simpa [storeVar, sizeOf, typeInfo, hq, Value.cells, vC_size, hs.symm] using this

/-! ### a whole array loaded, stored -/
section
variable {P : Program} {ops : Array Oper} {rest : List Oper} {o : Oper} {a : Act} {w : World} {Q : Exit → Act → World → Prop}
theorem wp_loadV {K : Act → World → Prop} (p : Operand) (t : TypeId) (ho : o.op = .load t p) {ad : Addr} {v : Value} (hp : a.eval p = .pointer (some ad)) (hl : (loadVar t ad).run P w = .ok v w) (h : K (a.put o.dst v) w) : o.wp P a w K Q := by
  unfold Oper.wp execOp
  simp only [ho, Sem.run_bind, Sem.run_pure, Result.andThen_ok, hp, Instr.loadAt, Instr.sureAddr, hl]
  exact h
theorem wp_storeV {K : Act → World → Prop} (p x : Operand) (t : TypeId) (ho : o.op = .store t p x) {ad : Addr} {v : Value} {w' : World} (hp : a.eval p = .pointer (some ad)) (hx : a.eval x = v) (hl : (storeVar t ad v).run P w = .ok () w') (h : K (a.put o.dst undef) w') : o.wp P a w K Q := by
  unfold Oper.wp execOp
  simp only [ho, Sem.run_bind, Sem.run_pure, Result.andThen_ok, hp, hx, Instr.storeAt, Instr.sureAddr, hl]
  exact h
theorem wpList_loadV (hgd : o.guard = none) (p : Operand) (t : TypeId) (ho : o.op = .load t p) {ad : Addr} {v : Value} (hp : a.eval p = .pointer (some ad)) (hl : (loadVar t ad).run P w = .ok v w) (h : wpList P ops Q rest (a.put o.dst v) w) : wpList P ops Q (o :: rest) a w :=
  wpList_plain hgd fun _ hK => wp_loadV p t ho hp hl (hK _ _ h)
theorem wpList_storeV (hgd : o.guard = none) (p x : Operand) (t : TypeId) (ho : o.op = .store t p x) {ad : Addr} {v : Value} {w' : World} (hp : a.eval p = .pointer (some ad)) (hx : a.eval x = v) (hl : (storeVar t ad v).run P w = .ok () w') (h : wpList P ops Q rest (a.put o.dst undef) w') : wpList P ops Q (o :: rest) a w :=
  wpList_plain hgd fun _ hK => wp_storeV p x t ho hp hx hl (hK _ _ h)
end
theorem AB.loadV {b : Nat} {L : Nat → Nat} {X : World} (h : AB b L X) : (loadVar 84 ⟨b, 0, none⟩).run Try.prog X = .ok (.agg (vC L)) X :=
  run_loadVar_row X b _ _ (vC L) (0, 0) _ h Try.underlying84 rfl (by rw [vC_size]; exact info_arr)
theorem AB.storeV {b : Nat} {L : Nat → Nat} {X : World} (h : AB b L X) (L' : Nat → Nat) : (storeVar 84 ⟨b, 0, none⟩ (.agg (vC L'))).run Try.prog X = .ok () (X.setRow b (vC L')) :=
  run_storeVar_row X b _ _ (vC L) (vC L') h (by rw [vC_size]; exact info_arr) (by rw [vC_size, vC_size]) (vC_one L')
/-- An element of an array that is a value. -/
theorem index_arr (L : Nat → Nat) {i : Nat} (hi : i < 25) (X : World) : (Instr.index 84 (.agg (vC L)) (.int .i64 (i : Int))).run Try.prog X = .ok (.int .i64 (L i)) X := by
  have h2 := vC_at L hi
  simp [Instr.index, asIntOf, part, go_sem, hi, h2]
/-- The results of a function that answers one variable in memory. -/
theorem results_arr {fn : Func} {p : Tmp} (h : fn.results = #[.cell p 84]) (tmps : Array Value) {X : World} {b : Nat} {L : Nat → Nat} (hab : AB b L X) (hp : tmps.getD p undef = .pointer (some ⟨b, 0, none⟩)) :
    (results fn tmps).run Try.prog X = .ok (.agg (vC L)) X := by
  rw [Array.getD_eq_getD_getElem?] at hp
  simp only [results, h]
  simp [hp, asAddr, hab.loadV]
/-- At a load, a store of the array's type alone. -/
theorem at_load {ops : Array Oper} {rest : List Oper} {a : Act} {w : World} {Q : Exit → Act → World → Prop} {d : Tmp} {s : Tmp} {ty : TypeId} {pos : String} {after : Array Edge} {b : Nat} {L : Nat → Nat} (hab : AB b L w) (hp : a.eval (.tmp s) = .pointer (some ⟨b, 0, none⟩))
    (h : wpList Try.prog ops Q rest (a.put (some d) (.agg (vC L))) w) : wpList Try.prog ops Q ({ dst := some d, op := .load 84 (.tmp s), type := ty, pos := pos, after := after, guard := none } :: rest) a w :=
  wpList_loadV rfl _ _ rfl hp hab.loadV h
theorem at_store {ops : Array Oper} {rest : List Oper} {a : Act} {w : World} {Q : Exit → Act → World → Prop} {s x : Tmp} {ty : TypeId} {pos : String} {after : Array Edge} {b : Nat} {L : Nat → Nat} (L' : Nat → Nat) (hab : AB b L w) (hp : a.eval (.tmp s) = .pointer (some ⟨b, 0, none⟩)) (hx : a.eval (.tmp x) = .agg (vC L'))
    (h : wpList Try.prog ops Q rest (a.put none undef) (w.setRow b (vC L'))) : wpList Try.prog ops Q ({ dst := none, op := .store 84 (.tmp s) (.tmp x), type := ty, pos := pos, after := after, guard := none } :: rest) a w :=
  wpList_storeV rfl _ _ _ rfl hp hx (hab.storeV L') h
end Go.Proofs.Ythgnhamokikhkaa.walJ
